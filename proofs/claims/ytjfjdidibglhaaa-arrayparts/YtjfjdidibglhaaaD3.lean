/- The walks of checkColumn and of the document's PartFault. -/
import Derived.Test.YtjfjdidibglhaaaA2
namespace Go.Proofs.Ytjfjdidibglhaaa
open Go.RowKit

/-- What is wrong with leaving a column out. -/
def paF (s : Int) (ls : List (List Int)) (col : Int) : Nat := if aF s ls ≠ 0 then aF s ls else if belB ((ls.headD []).length : Int) col = false then 1 else if (ls.headD []).length = 1 then 2 else 0
theorem paF_good {s col : Int} {ls : List (List Int)} (h : paF s ls col = 0) : ∃ s' k c : Nat, s = (s' : Int) ∧ col = (c : Int) ∧ GoodA s' (k + 1) ls ∧ c < k + 1 ∧ 1 ≤ k := by
  unfold paF at h
  split at h
  · omega
  · rename_i h0
    have h0' : aF s ls = 0 := by omega
    obtain ⟨s', k, rfl, hG⟩ := aF_good h0'
    rw [hG.head] at h
    split at h
    · omega
    · rename_i hb
      split at h
      · omega
      · rename_i h1
        have hb' : belB (k : Int) col = true := by simpa using hb
        have := belB_iff.1 hb'
        have := hG.k1
        refine ⟨s', k - 1, col.toNat, rfl, by omega, ?_, by omega, by omega⟩
        rw [show k - 1 + 1 = k by omega]
        exact hG
theorem paF_is {s k : Nat} {ls : List (List Int)} (hG : GoodA s k ls) (col : Int) : paF s ls col = if belB (k : Int) col = false then 1 else if k = 1 then 2 else 0 := by
  unfold paF
  rw [if_neg (by rw [hG.aF]; exact fun h => h rfl), hG.head]
theorem GoodA.paF {s k c : Nat} {ls : List (List Int)} (hG : GoodA s (k + 1) ls) (hc : c < k + 1) (hk : 1 ≤ k) : paF s ls c = 0 := by
  unfold Go.Proofs.Ytjfjdidibglhaaa.paF
  rw [if_neg (by rw [hG.aF]; exact fun h => h rfl), hG.head, if_neg, if_neg (by omega)]
  rw [belB_iff.2 (by omega)]
  simp
set_option maxRecDepth 100000 in
set_option maxHeartbeats 4000000 in
theorem checkColumn_any (s col : Int) (ls : List (List Int)) (v : Value) (w : World) (hv : Rw w v ls) (hl : ls.length ≤ maxLen) (hll : ∀ l ∈ ls, l.length ≤ maxLen) :
    Calls Try.prog 26 #[.int .i64 s, v, .int .i64 col] w fun e w' => e = .returned (.int .i64 (paF s ls col : Int)) ∧ w' = w := by
  have C := Check_any s ls v w hv hl hll
  obtain ⟨z, Hz⟩ : ∃ z, Hid (paF s ls col = z) := ⟨_, rfl⟩
  rw [Hz.out]
  by_cases h0 : aF s ls = 0
  · obtain ⟨s', k, rfl, hG⟩ := aF_good h0
    rw [h0] at C
    have CB := isBelow_any (k : Int) col w
    obtain ⟨n, Hn⟩ : ∃ n, Hid (ls.length = n) := ⟨_, rfl⟩
    have hn1 := hG.n1
    obtain ⟨r0, hr0⟩ : ∃ r0, ls[0]? = some r0 := ⟨_, List.getElem?_eq_getElem (by omega)⟩
    obtain ⟨b, off, u, ea, hc0, hS0⟩ : ∃ b off u, (∃ cap, v = .slice (some ⟨b, off, none⟩) n cap) ∧ w.cell? ⟨b, off, none⟩ = some u ∧ Sl w u r0 := by
      obtain ⟨a, cap, rfl, hr⟩ := id hv
      obtain ⟨b, off, u, rfl, hc, hS⟩ := hr 0 r0 hr0
      exact ⟨b, off, u, ⟨cap, by rw [Hn.out]⟩, hc, hS⟩
    obtain ⟨cap, rfl⟩ := ea
    obtain ⟨ua, uc, rfl, -⟩ := hS0
    rw [hG.len r0 (List.mem_of_getElem? hr0)] at hc0
    have hni : (0 : Int) < (n : Int) := by rw [← Hn.out]; omega
    have hz : (if belB (k : Int) col = false then 1 else if k = 1 then 2 else 0) = z := (paF_is hG col).symm.trans Hz.out
    clear hll hl hv hr0
    cases hb : belB (k : Int) col with
    | false =>
      rw [hb] at CB hz
      obtain rfl : z = 1 := by rw [← hz]; rfl
      clear hz hb
      go_enter Try.func26, Try.ntmps26
      go_wp2_with (first
        | (go_at_call 9; refine C.mono ?_; rintro e1 w1 ⟨rfl, h1⟩; replace h1 := h1.symm; subst h1; clear C)
        | (go_at_call 21; refine CB.mono ?_; rintro e2 w2 ⟨rfl, h2⟩; replace h2 := h2.symm; subst h2; clear CB))
      go_ret
      exact ⟨rfl, rfl⟩
    | true =>
      rw [hb] at CB hz
      rw [if_neg (by simp)] at hz
      by_cases hk1 : k = 1
      · obtain rfl : z = 2 := by rw [← hz, if_pos hk1]
        subst hk1
        clear hz hb
        go_enter Try.func26, Try.ntmps26
        go_wp2_with (first
          | (go_at_call 9; refine C.mono ?_; rintro e1 w1 ⟨rfl, h1⟩; replace h1 := h1.symm; subst h1; clear C)
          | (go_at_call 21; refine CB.mono ?_; rintro e2 w2 ⟨rfl, h2⟩; replace h2 := h2.symm; subst h2; clear CB))
        go_ret
        exact ⟨rfl, rfl⟩
      · obtain rfl : z = 0 := by rw [← hz, if_neg hk1]
        have d1 : ((k : Int) == 1) = false := by rw [beq_eq_false_iff_ne]; omega
        have d1n : (k == 1) = false := by rw [beq_eq_false_iff_ne]; omega
        clear hz hb
        go_enter Try.func26, Try.ntmps26
        go_wp2_with (first
          | (go_at_call 9; refine C.mono ?_; rintro e1 w1 ⟨rfl, h1⟩; replace h1 := h1.symm; subst h1; clear C)
          | (go_at_call 21; refine CB.mono ?_; rintro e2 w2 ⟨rfl, h2⟩; replace h2 := h2.symm; subst h2; clear CB))
        go_ret
        exact ⟨rfl, rfl⟩
  · obtain rfl : z = aF s ls := by rw [← Hz.out]; unfold paF; rw [if_pos h0]
    obtain ⟨y, Hy⟩ : ∃ y, Hid (aF s ls = y) := ⟨_, rfl⟩
    rw [Hy.out] at C h0 ⊢
    have hne : ((y : Int) != 0) = true := by simp; omega
    obtain ⟨n, Hn⟩ : ∃ n, Hid (ls.length = n) := ⟨_, rfl⟩
    obtain ⟨a, cap, rfl, -⟩ := hv
    rw [Hn.out] at C ⊢
    clear hl hll
    go_enter Try.func26, Try.ntmps26
    go_wp2_with (go_at_call 9; refine C.mono ?_; rintro e1 w1 ⟨rfl, h1⟩; replace h1 := h1.symm; subst h1; clear C)
    go_ret
    exact ⟨rfl, rfl⟩
set_option maxRecDepth 100000 in
set_option maxHeartbeats 4000000 in
theorem PartFault_any (s col : Int) (ls : List (List Int)) (v : Value) (w : World) (hv : Rw w v ls) (hl : ls.length ≤ maxLen) (hll : ∀ l ∈ ls, l.length ≤ maxLen) :
    Calls Try.prog 12 #[.int .i64 s, v, .int .i64 col] w fun e w' => e = .returned (.int .i64 (paF s ls col : Int)) ∧ Below w.heap.size w w' := by
  have C := RunsFault_any s ls v w hv hl hll
  obtain ⟨z, Hz⟩ : ∃ z, Hid (paF s ls col = z) := ⟨_, rfl⟩
  rw [Hz.out]
  by_cases h0 : aF s ls = 0
  · obtain ⟨s', k, rfl, hG⟩ := aF_good h0
    rw [h0] at C
    obtain ⟨n, Hn⟩ : ∃ n, Hid (ls.length = n) := ⟨_, rfl⟩
    have hn1 := hG.n1
    obtain ⟨r0, hr0⟩ : ∃ r0, ls[0]? = some r0 := ⟨_, List.getElem?_eq_getElem (by omega)⟩
    obtain ⟨b, off, u, ea, hc0, hS0⟩ : ∃ b off u, (∃ cap, v = .slice (some ⟨b, off, none⟩) n cap) ∧ w.cell? ⟨b, off, none⟩ = some u ∧ Sl w u r0 := by
      obtain ⟨a, cap, rfl, hr⟩ := id hv
      obtain ⟨b, off, u, rfl, hc, hS⟩ := hr 0 r0 hr0
      exact ⟨b, off, u, ⟨cap, by rw [Hn.out]⟩, hc, hS⟩
    obtain ⟨cap, rfl⟩ := ea
    obtain ⟨ua, uc, rfl, -⟩ := hS0
    rw [hG.len r0 (List.mem_of_getElem? hr0)] at hc0
    have hbl := block_lt_of_cell hc0
    have HC0 : Hid (∀ W, Below w.heap.size w W → W.cell? ⟨b, off, none⟩ = some (.slice ua k uc)) := fun W bW => (bW.cell (p := ⟨b, off, none⟩) hbl).trans hc0
    have hni : (0 : Int) < (n : Int) := by rw [← Hn.out]; omega
    have hz : (if belB (k : Int) col = false then 1 else if k = 1 then 2 else 0) = z := (paF_is hG col).symm.trans Hz.out
    clear hll hl hv hr0 hc0
    by_cases hneg : col < 0
    · have hb : belB (k : Int) col = false := by unfold belB; simp; omega
      rw [hb] at hz
      obtain rfl : z = 1 := by rw [← hz]; rfl
      have d1 : decide (col < 0) = true := decide_eq_true hneg
      clear hz hb hneg
      go_enter Try.func12, Try.ntmps12
      go_wp2_with (go_at_call 8; refine C.mono ?_; rintro e1 w1 ⟨rfl, b1⟩; clear C)
      go_ret
      exact ⟨rfl, b1⟩
    · have d1 : decide (col < 0) = false := decide_eq_false hneg
      by_cases hge : (k : Int) ≤ col
      · have hb : belB (k : Int) col = false := by unfold belB; simp; omega
        rw [hb] at hz
        obtain rfl : z = 1 := by rw [← hz]; rfl
        have d2 : decide ((k : Int) ≤ col) = true := decide_eq_true hge
        clear hz hb hneg hge
        go_enter Try.func12, Try.ntmps12
        go_wp2_with (go_at_call 8; refine C.mono ?_; rintro e1 w1 ⟨rfl, b1⟩; clear C; have hc0 := HC0.out _ b1)
        go_ret
        exact ⟨rfl, b1⟩
      · have hb : belB (k : Int) col = true := belB_iff.2 (by omega)
        rw [hb, if_neg (by simp)] at hz
        have d2 : decide ((k : Int) ≤ col) = false := decide_eq_false hge
        by_cases hk1 : k = 1
        · obtain rfl : z = 2 := by rw [← hz, if_pos hk1]
          subst hk1
          have d2' : decide ((1 : Int) ≤ col) = false := decide_eq_false (by omega)
          clear hz hb hneg hge
          go_enter Try.func12, Try.ntmps12
          go_wp2_with (go_at_call 8; refine C.mono ?_; rintro e1 w1 ⟨rfl, b1⟩; clear C; have hc0 := HC0.out _ b1)
          go_ret
          exact ⟨rfl, b1⟩
        · obtain rfl : z = 0 := by rw [← hz, if_neg hk1]
          have d3 : ((k : Int) == 1) = false := by rw [beq_eq_false_iff_ne]; omega
          have d3n : (k == 1) = false := by rw [beq_eq_false_iff_ne]; omega
          clear hz hb hneg hge
          go_enter Try.func12, Try.ntmps12
          go_wp2_with (go_at_call 8; refine C.mono ?_; rintro e1 w1 ⟨rfl, b1⟩; clear C; have hc0 := HC0.out _ b1)
          go_ret
          exact ⟨rfl, b1⟩
  · obtain rfl : z = aF s ls := by rw [← Hz.out]; unfold paF; rw [if_pos h0]
    obtain ⟨y, Hy⟩ : ∃ y, Hid (aF s ls = y) := ⟨_, rfl⟩
    rw [Hy.out] at C h0 ⊢
    have hne : ((y : Int) != 0) = true := by simp; omega
    obtain ⟨n, Hn⟩ : ∃ n, Hid (ls.length = n) := ⟨_, rfl⟩
    obtain ⟨a, cap, rfl, -⟩ := hv
    rw [Hn.out] at C ⊢
    clear hl hll
    go_enter Try.func12, Try.ntmps12
    go_wp2_with (go_at_call 8; refine C.mono ?_; rintro e1 w1 ⟨rfl, b1⟩; clear C)
    go_ret
    exact ⟨rfl, b1⟩
end Go.Proofs.Ytjfjdidibglhaaa
