/- The walk of Strength. -/
import Derived.Test.YtjfjdidibglhaabA6
namespace Go.Proofs.Ytjfjdidibglhaab
open Go.RowKit

set_option maxRecDepth 100000 in
set_option maxHeartbeats 4000000 in
theorem Strength_bad (s : Int) (ls : List (List Int)) (v : Value) (w : World) (hv : Rw w v ls) (hl : ls.length ≤ maxLen) (hll : ∀ l ∈ ls, l.length ≤ maxLen) (h0 : aF s ls ≠ 0) :
    Calls Try.prog 7 #[.int .i64 s, v] w fun e w' => e = .returned (.tuple #[.int .i64 0, .int .i64 (aF s ls : Int)]) ∧ Below w.heap.size w w' := by
  have C := ACheck_any s ls v w hv hl hll
  obtain ⟨z, Hz⟩ : ∃ z, Hid (aF s ls = z) := ⟨_, rfl⟩
  rw [Hz.out] at C h0 ⊢
  have hne : ((z : Int) != 0) = true := by simp; omega
  obtain ⟨n, Hn⟩ : ∃ n, Hid (ls.length = n) := ⟨_, rfl⟩
  obtain ⟨a, cap, rfl, -⟩ := hv
  rw [Hn.out] at C ⊢
  clear hl hll
  go_enter Try.func7, Try.ntmps7
  go_wp2_with (go_at_call 12; refine C.mono ?_; rintro e1 w1 ⟨rfl, h1⟩; replace h1 := h1.symm; subst h1; clear C)
  go_ret2
  exact ⟨rfl, Below.refl _ _⟩
/-- A strength, and no error. -/
def SgR (s k : Nat) (ls : List (List Int)) (e : Ending) : Prop := ∃ t : Nat, e = .returned (.tuple #[.int .i64 (t : Int), .int .i64 0]) ∧ StrIs s k (rnA ls) t
set_option maxRecDepth 100000 in
set_option maxHeartbeats 4000000 in
theorem Strength_ok (s k : Nat) (ls : List (List Int)) (v : Value) (w : World) (hv : Rw w v ls) (hG : GoodA s k ls) :
    Calls Try.prog 7 #[.int .i64 (s : Int), v] w fun e w' => SgR s k ls e ∧ Below w.heap.size w w' := by
  have hk8 := hG.k8
  have C := ACheck_any s ls v w hv (by have := hG.n128; unfold maxLen; omega) (fun l hl => by rw [hG.len l hl]; unfold maxLen; omega)
  rw [hG.aF] at C
  have hn1 := hG.n1
  have HT : Hid (∀ (W : World) (t : Nat), Below w.heap.size w W → t ≤ k → Calls Try.prog 13 #[.int .i64 (s : Int), v, .int .i64 (t : Int)] W fun x w' => x = .returned (.bool (taB s k t ls)) ∧ Below W.heap.size W w') := fun W t b ht => triesAll_any s k t ls v W (hv.below b) hG ht
  have HIF : Hid (∀ t, taB s k t ls = true ↔ Str s k (rnA ls) t) := fun t => taB_iff hG
  have HK0 : Hid (Str s k (rnA ls) 0) := str_zero s k _
  obtain ⟨n, Hn⟩ : ∃ n, Hid (ls.length = n) := ⟨_, rfl⟩
  obtain ⟨r0, hr0⟩ : ∃ r0, ls[0]? = some r0 := ⟨_, List.getElem?_eq_getElem (by omega)⟩
  obtain ⟨b, off, u, ea, hc0, hS0⟩ : ∃ b off u, (∃ cap, v = .slice (some ⟨b, off, none⟩) n cap) ∧ w.cell? ⟨b, off, none⟩ = some u ∧ Sl w u r0 := by
    obtain ⟨a, cap, rfl, hr⟩ := id hv
    obtain ⟨b, off, u, rfl, hc, hS⟩ := hr 0 r0 hr0
    exact ⟨b, off, u, ⟨cap, by rw [Hn.out]⟩, hc, hS⟩
  obtain ⟨cap, rfl⟩ := ea
  obtain ⟨ua, uc, rfl, -⟩ := hS0
  rw [hG.len r0 (List.mem_of_getElem? hr0)] at hc0
  have hbl := block_lt_of_cell hc0
  have HC0 : Hid (∀ W, Below w.heap.size w W → W.cell? ⟨b, off, none⟩ = some (.slice ua k uc)) := fun W bW => (bW.cell (p := ⟨b, off, none⟩) hbl).trans hc0
  have hni : (0 : Int) < (n : Int) := by rw [← Hn.out]; omega
  obtain ⟨S, HS⟩ : ∃ S : Nat → Prop, Hid (Str s k (rnA ls) = S) := ⟨_, rfl⟩
  rw [HS.out] at HIF HK0
  obtain ⟨T, HTT⟩ : ∃ T : Nat → Bool, Hid ((fun t => taB s k t ls) = T) := ⟨_, rfl⟩
  have HT2 : Hid (∀ (W : World) (t : Nat), Below w.heap.size w W → t ≤ k → Calls Try.prog 13 #[.int .i64 (s : Int), .slice (some ⟨b, off, none⟩) n cap, .int .i64 (t : Int)] W fun x w' => x = .returned (.bool (T t)) ∧ Below W.heap.size W w') := fun W t b ht => by rw [← HTT.out]; exact HT.out W t b ht
  have HIF2 : Hid (∀ t, T t = true ↔ S t) := fun t => by rw [← HTT.out]; exact HIF.out t
  clear hG hv hr0 hn1 HT HIF hc0
  go_enter Try.func7, Try.ntmps7
  go_wp2_with (go_at_call 12; refine C.mono ?_; rintro e1 w1 ⟨rfl, h1⟩; replace h1 := h1.symm; subst h1; clear C)
  go_loopw [7] (fun tv wr => ∃ t : Nat, tv = .int .i64 (t : Int) ∧ t ≤ k ∧ Hid (∀ q, q ≤ t → S q) ∧ Below w.heap.size w wr) (fun tv _ => (k - intOf tv).toNat)
  case atStart =>
    refine ⟨0, rfl, by omega, ?_, Below.refl _ _⟩
    show ∀ q, q ≤ 0 → S q
    intro q h
    have e : q = 0 := by omega
    rw [e]
    exact HK0.out
  case round =>
    obtain ⟨t, rfl, ht, HQ, hB⟩ := hrel
    have hc0 := HC0.out wr hB
    by_cases hlt : t < k
    · have hdt : decide ((t : Int) < (k : Int)) = true := by simp; omega
      have C1 := HT2.out wr (t + 1) hB (by omega)
      rw [show ((t + 1 : Nat) : Int) = (t : Int) + 1 from rfl] at C1
      cases hq : T (t + 1) with
      | true =>
        rw [hq] at C1
        have HQ2 : Hid (∀ q, q ≤ t + 1 → S q) := fun q h => by
          by_cases e : q = t + 1
          · subst e; exact (HIF2.out _).1 hq
          · exact HQ.out q (by omega)
        clear HQ hq
        go_wp2_with (go_at_call 13; refine C1.mono ?_; rintro e1 w2 ⟨rfl, b2⟩; clear C1)
        go_roundw
        case rel => exact ⟨t + 1, by go_num, by omega, HQ2, Below.next hB b2⟩
        case measure => simp [intOf]; omega
      | false =>
        rw [hq] at C1
        have HN : Hid (¬ S (t + 1)) := fun h => by
          have := (HIF2.out _).2 h
          rw [hq] at this
          cases this
        clear hq
        go_wp2_with (go_at_call 13; refine C1.mono ?_; rintro e1 w2 ⟨rfl, b2⟩; clear C1)
        go_ret2
        refine ⟨⟨t, rfl, ht, ?_, fun _ => ?_⟩, Below.next hB b2⟩
        · rw [HS.out]; exact HQ.out
        · rw [HS.out]; exact HN.out
    · have hdt : decide ((t : Int) < (k : Int)) = false := by simp; omega
      have hdn : decide (t < k) = false := by simp; omega
      obtain rfl : t = k := by omega
      go_wp2
      go_ret2
      refine ⟨⟨t, rfl, ht, ?_, fun h => by omega⟩, hB⟩
      rw [HS.out]; exact HQ.out
end Go.Proofs.Ytjfjdidibglhaab
