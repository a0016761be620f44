/- The law WordGoes over the contracts. -/
import Derived.Test.YtcjkcgfohmhbcabWE
namespace Go.Proofs.Ytcjkcgfohmhbcab
open Go.RowKit

theorem wF_of {M : List Nat} (h1 : M.length ≤ 4096) (h2 : ∀ x ∈ M, x ≤ 9) : wF (M.map Int.ofNat) = 0 := by
  unfold wF
  rw [List.length_map, if_neg (by omega), if_neg]
  intro h
  obtain ⟨i, hi, hx⟩ := List.any_eq_true.1 h
  have hi := List.mem_range.1 hi
  rw [nat_at, Bool.or_eq_true, decide_eq_true_iff, decide_eq_true_iff] at hx
  have hm := h2 (M.getD i 0) (by rw [List.getD_eq_getElem?_getD, List.getElem?_eq_getElem hi]; exact List.getElem_mem _)
  omega
theorem lynd_word (FL : FLyndon) {M : List Nat} (h1 : M.length ≤ 4096) (h2 : ∀ x ∈ M, x ≤ 9) {v : Value} {W : World} (hv : Wd W v M) : Calls Try.prog 9 #[v] W fun e w' => e = .returned (.tuple #[.bool (lyB M), .int .i64 0]) ∧ Below W.heap.size W w' := by
  have h0 := wF_of h1 h2
  have hs : Sw W v (M.map Int.ofNat) := by
    refine ⟨hv.sl, fun a n c e => ?_, by rw [List.length_map]; unfold maxLen; omega⟩
    obtain ⟨a', c', e2, hc, -⟩ := hv
    rw [e2] at e
    simp only [Value.slice.injEq] at e
    omega
  have C := FL _ v W hs
  have e : lyZ (M.map Int.ofNat) = lyB M := by unfold lyZ; rw [decide_eq_true h0, Bool.true_and, wd_back]
  rw [e, h0] at C
  exact C
theorem nx_none {k : Int} {M : List Nat} (h : nxE k M = 0) : ∃ i, nxI k M M.length = some i := by
  unfold nxE at h
  cases e : nxI k M M.length with
  | none => rw [e] at h; exact absurd h (by decide)
  | some i => exact ⟨i, rfl⟩
theorem neF_zero {k : Int} {l : List Int} (h : neF k l = 0) : 1 ≤ k ∧ k ≤ 10 ∧ wF l = 0 := by
  unfold neF at h
  split at h
  · cases h
  · split at h
    · rename_i h1 h2; exact absurd h h2
    · rename_i h1 h2
      exact ⟨by omega, by omega, by omega⟩
theorem ne_zero {k : Int} {l : List Int} (h : neE k l = 0) : 1 ≤ k ∧ k ≤ 10 ∧ wF l = 0 ∧ lyB (wdN l) = true ∧ ∃ i, nxI k (wdN l) (wdN l).length = some i ∧ neZ k l = (wdN l).take i ++ [(wdN l).getD i 0 + 1] := by
  have h0 := h
  unfold neE at h
  split at h
  · rename_i h1; exact absurd h h1
  · rename_i h1
    obtain ⟨a, b, c⟩ := neF_zero (Classical.byContradiction h1)
    split at h
    · rename_i h2
      obtain ⟨i, hi⟩ := nx_none h
      refine ⟨a, b, c, h2, i, hi, ?_⟩
      unfold neZ nxZ
      rw [h0, if_pos rfl, hi]
    · cases h
set_option maxRecDepth 100000 in
set_option maxHeartbeats 8000000 in
theorem Goes_law (FB : FBruijn) (FP : FPrimes) (FN : FNext) (FL : FLyndon) (k : Int) (l : List Int) (v : Value) (w : World) (h : Sw w v l) :
    Calls Try.prog 4 #[.int .i64 k, v] w fun e w' => e = .returned (.bool true) ∧ Below w.heap.size w w' := by
  have HS : Hid (∀ W, Below w.heap.size w W → Sw W v l) := fun W b => h.below b
  have D5 := wordFact_any FB FP w
  have H8 : Hid (∀ W, Below w.heap.size w W → Calls Try.prog 8 #[.int .i64 k, v] W fun e w' => (∃ y, e = .returned (.tuple #[y, .int .i64 (neE k l : Int)]) ∧ Wd w' y (neZ k l)) ∧ Below W.heap.size W w') := fun W b => FN k l v W (HS.out W b)
  have hB : Below w.heap.size w w := Below.refl _ _
  by_cases h0 : neE k l = 0
  · obtain ⟨hk1, hk2, hw0, hly, i, hi, hz⟩ := ne_zero h0
    rw [h0] at H8
    obtain ⟨hwd, hl4, h9, -⟩ := h.wd hw0
    have HWD : Hid (∀ W, Below w.heap.size w W → Wd W v (wdN l)) := fun W b => ((HS.out W b).wd hw0).1
    obtain ⟨hi1, hi2, -⟩ := nxI_is hi
    have hm4 : (neZ k l).length ≤ (wdN l).length := by rw [hz]; simp; omega
    have hm9 : ∀ x ∈ neZ k l, x ≤ 9 := by
      rw [hz]
      intro x hx
      rcases List.mem_append.1 hx with hx | hx
      · exact h9 x (List.mem_of_mem_take hx)
      · rw [List.mem_singleton] at hx; omega
    have hmy : lyB (neZ k l) = true := by rw [hz]; exact (lyB_is _).2 (nx_lyn ((lyB_is _).1 hly) (Nat.le_refl _) hi)
    have hma : ahB (wdN l) (neZ k l) = true := by rw [hz]; exact (ahB_is _ _).2 (nx_behind (Nat.le_refl _) hi)
    have H9 : Hid (∀ W y, Wd W y (neZ k l) → Calls Try.prog 9 #[y] W fun e w' => e = .returned (.tuple #[.bool true, .int .i64 0]) ∧ Below W.heap.size W w') := fun W y hy => by
      have := lynd_word FL (by omega) hm9 hy
      rw [hmy] at this
      exact this
    have H10 : Hid (∀ W y, Below w.heap.size w W → Wd W y (neZ k l) → Calls Try.prog 10 #[v, y] W fun e w' => e = .returned (.bool true) ∧ Below W.heap.size W w') := fun W y b hy => by
      have := Ahead_any (wdN l) (neZ k l) v y W (HWD.out W b).sl hy.sl (by omega) (by omega)
      rw [hma] at this
      exact this
    obtain ⟨a, n, c, hv, hn⟩ : ∃ a n c, v = .slice a n c ∧ (wdN l).length = n := by
      obtain ⟨a, c, e, _⟩ := hwd
      exact ⟨a, _, c, e, rfl⟩
    rw [hn] at hm4
    obtain ⟨L, HL⟩ : ∃ L, Hid (neZ k l = L) := ⟨_, rfl⟩
    rw [HL.out] at H8 H9 H10 hm4
    obtain ⟨m, Hm⟩ : ∃ m, Hid (L.length = m) := ⟨_, rfl⟩
    rw [Hm.out] at hm4
    have hd : decide ((m : Int) ≤ (n : Int)) = true := by simp; omega
    clear h h0 hwd h9 hl4 hm9 hmy hma hi1 hi2 hn hi hz hly hw0
    subst hv
    go_enter Try.func4, Try.ntmps4
    go_wp2_with (first
      | (go_at_call 5; refine D5.mono ?_; rintro e wa ⟨rfl, bb⟩; clear D5; replace hB := hB.trans (bb.mono hB.size); have D8 := H8.out wa hB)
      | (go_at_call 8; refine D8.mono ?_; rintro e wb ⟨⟨y1, rfl, hy1⟩, bb⟩; clear D8; replace hB := hB.trans (bb.mono hB.size); obtain ⟨ya, yc, rfl⟩ := hy1.len Hm.out; have D9 := H9.out wb _ hy1)
      | (go_at_call 9; refine D9.mono ?_; rintro e wc ⟨rfl, bb⟩; clear D9; replace hB := hB.trans (bb.mono hB.size); replace hy1 := hy1.below bb; have D10 := H10.out wc _ hB hy1)
      | (go_at_call 10; refine D10.mono ?_; rintro e wd ⟨rfl, bb⟩; clear D10; replace hB := hB.trans (bb.mono hB.size); clear hy1)
      | go_in)
    go_ret
    exact ⟨rfl, hB⟩
  · obtain ⟨z, Hz⟩ : ∃ z, Hid (neE k l = z) := ⟨_, rfl⟩
    rw [Hz.out] at H8 h0
    have hzb : ((z : Int) != 0) = true := by simp [h0]
    clear h
    go_enter Try.func4, Try.ntmps4
    go_wp2_with (first
      | (go_at_call 5; refine D5.mono ?_; rintro e wa ⟨rfl, bb⟩; clear D5; replace hB := hB.trans (bb.mono hB.size); have D8 := H8.out wa hB)
      | (go_at_call 8; refine D8.mono ?_; rintro e wb ⟨⟨y1, rfl, hy1⟩, bb⟩; clear D8; replace hB := hB.trans (bb.mono hB.size); clear hy1)
      | go_in)
    go_ret
    exact ⟨rfl, hB⟩
end Go.Proofs.Ytcjkcgfohmhbcab
