/- The law ArrayRao. -/
import Derived.Test.YtjfjdidibglhaaaA10
import Derived.Test.YtjfjdidibglhaaaB1
import Derived.Test.YtjfjdidibglhaaaRRB
namespace Go.Proofs.Ytjfjdidibglhaaa
open Go.RowKit

set_option maxRecDepth 100000 in
set_option maxHeartbeats 4000000 in
theorem Rao_law (s : Int) (ls : List (List Int)) (v : Value) (w : World) (_hs : (Lit.int .i64 s).wf = true) (hC : CameR ls v w) :
    Calls Try.prog 6 #[.int .i64 s, v] w fun e w' => e = .returned (.bool true) ∧ Below w.heap.size w w' := by
  obtain ⟨hv, _, hll, hl⟩ := hC
  have CF := arrayFact_any w
  by_cases h0 : aF s ls = 0
  · obtain ⟨s', k, rfl, hG⟩ := aF_good h0
    have H10 : Hid (∀ W, Below w.heap.size w W → Calls Try.prog 10 #[.int .i64 (s' : Int), v] W fun e w' => SgR s' k ls e ∧ Below W.heap.size W w') := fun W b => Strength_ok s' k ls v W (hv.below b) hG
    have H17 : Hid (∀ (W : World) (t : Nat), StrIs s' k (rnA ls) t → Calls Try.prog 17 #[.int .i64 (k : Int), .int .i64 (s' : Int), .int .i64 (t : Int)] W fun e w' => (∃ z : Nat, e = .returned (.tuple #[.int .i64 (z : Int), .int .i64 0]) ∧ z ≤ ls.length) ∧ w' = W) := fun W t ht => by
      have h1 := hG.k1
      have h2 := hG.k8
      have h3 := hG.s2
      have h4 := hG.s64
      have h5 := hG.n128
      have h6 := ht.le
      have hle : raN k s' t ≤ ls.length := by
        have := rao_le (by omega) hG.lvl h6 (ht.is t (Nat.le_refl _)) (by unfold rnA; rw [List.length_map]; exact hG.n1)
        unfold rnA at this
        rwa [List.length_map] at this
      refine (Rao_ok k s' t W h1 (by omega) h3 h4 h6).mono ?_
      rintro e w' ⟨rfl, rfl⟩
      have e1 : raA k s' t = raN k s' t := if_pos (by omega)
      have e2 : raE k s' t = 0 := if_pos (by omega)
      rw [e1, e2]
      exact ⟨⟨_, rfl, hle⟩, rfl⟩
    obtain ⟨n, Hn⟩ : ∃ n, Hid (ls.length = n) := ⟨_, rfl⟩
    obtain ⟨r0, hr0⟩ : ∃ r0, ls[0]? = some r0 := ⟨_, List.getElem?_eq_getElem (by have := hG.n1; omega)⟩
    have hn1 := hG.n1
    obtain ⟨b, off, u, ea, hc0, hS0⟩ : ∃ b off u, (∃ cap, v = .slice (some ⟨b, off, none⟩) n cap) ∧ w.cell? ⟨b, off, none⟩ = some u ∧ Sl w u r0 := by
      obtain ⟨a, cap, rfl, hr⟩ := id hv
      obtain ⟨b, off, u, rfl, hc, hS⟩ := hr 0 r0 hr0
      exact ⟨b, off, u, ⟨cap, by rw [Hn.out]⟩, hc, hS⟩
    obtain ⟨cap, rfl⟩ := ea
    obtain ⟨ua, uc, rfl, -⟩ := hS0
    rw [hG.len r0 (List.mem_of_getElem? hr0)] at hc0
    have hbl := block_lt_of_cell hc0
    have HC0 : Hid (∀ W, Below w.heap.size w W → W.cell? ⟨b, off, none⟩ = some (.slice ua k uc)) := fun W bW => (bW.cell (p := ⟨b, off, none⟩) hbl).trans hc0
    rw [Hn.out] at H17 hn1
    have hni : (0 : Int) < (n : Int) := by omega
    clear hll hl h0 hG hv hr0 hc0
    go_enter Try.func6, Try.ntmps6
    go_wp2_with (first
      | (go_at_call 19; refine CF.mono ?_; rintro e1 w1 ⟨rfl, b1⟩; clear CF)
      | (go_at_call 10; refine (H10.out _ b1).mono ?_; rintro e2 w2 ⟨⟨t, rfl, hT⟩, b2⟩; clear H10; have b3 := Below.next b1 b2; have hc0 := HC0.out _ b3)
      | (go_at_call 17; refine (H17.out _ t hT).mono ?_; rintro e3 w3 ⟨⟨z, rfl, hz⟩, h3⟩; replace h3 := h3.symm; subst h3; clear H17; have dz : decide ((z : Int) ≤ (n : Int)) = true := (by simp; omega)))
    go_ret
    refine ⟨?_, b3⟩
    first | rfl | simp | (simp; omega)
  · have H10 : Hid (∀ W, Below w.heap.size w W → Calls Try.prog 10 #[.int .i64 s, v] W fun e w' => e = .returned (.tuple #[.int .i64 0, .int .i64 (aF s ls : Int)]) ∧ Below W.heap.size W w') := fun W b => Strength_bad s ls v W (hv.below b) hl hll h0
    obtain ⟨z, Hz⟩ : ∃ z, Hid (aF s ls = z) := ⟨_, rfl⟩
    rw [Hz.out] at H10 h0
    have hne : ((z : Int) != 0) = true := by simp; omega
    obtain ⟨n, Hn⟩ : ∃ n, Hid (ls.length = n) := ⟨_, rfl⟩
    obtain ⟨a, cap, rfl, -⟩ := hv
    rw [Hn.out] at H10 ⊢
    clear hll hl h0
    go_enter Try.func6, Try.ntmps6
    go_wp2_with (first
      | (go_at_call 19; refine CF.mono ?_; rintro e1 w1 ⟨rfl, b1⟩; clear CF)
      | (go_at_call 10; refine (H10.out _ b1).mono ?_; rintro e3 w3 ⟨rfl, b3⟩; clear H10))
    go_ret
    exact ⟨rfl, Below.next b1 b3⟩
end Go.Proofs.Ytjfjdidibglhaaa
