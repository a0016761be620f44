/- The walks of Sum and Times of the document's answer. -/
import Derived.Test.YtagpbkcnjogbgaaDoorW46
import Derived.Test.YtagpbkcnjogbgaaDoorW34
import Derived.Test.YtagpbkcnjogbgaaDoorW19
namespace Go.Proofs.YtagpbkcnjogbgaaDoor.Fd
open Go.RowKit

theorem digL_all {n p k : Nat} (hn : n < p ^ k) (hp : 2 ≤ p) (t : Nat) : (digL n p k).getD t 0 = digF n p t := by
  by_cases h : t < k
  · exact digL_at _ _ _ _ h
  · rw [digF_small hn hp t (by omega)]
    simp [digL, h]
theorem Own.of_dig {w : World} {base n p k : Nat} {v : Value} (h : w.ownsRow base 3 1 v k ((digL n p k).map (Value.int .i64))) (hk : 1 ≤ k) (hn : n < p ^ k) (hp : 2 ≤ p) :
    ∃ g cap, v = .slice (some ⟨g, 0, none⟩) k cap ∧ base ≤ g ∧ Own w g k (digF n p) := by
  obtain ⟨g, cap, e, hb, hO⟩ := Own.of h (by omega)
  exact ⟨g, cap, e, hb, hO.congr (fun t _ => digL_all hn hp t)⟩

set_option maxHeartbeats 1000000 in
theorem sum_any (P K a b : Nat) (A : Option Addr) (n c : Nat) (w : World) (hP : 2 ≤ P) (hP' : P ≤ 64) (hK : 1 ≤ K) (hK' : K ≤ 6) (hPK : P ^ K ≤ 64) (ha : a < P ^ K) (hb : b < P ^ K) :
    Calls Tryd.prog 29 #[.agg #[.int .i64 P, .int .i64 K, .slice A n c], .int .i64 a, .int .i64 b] w fun e w' => e = .returned (.int .i64 (hor (plusF (digF a P) (digF b P) P) P K K)) ∧ Below w.heap.size w w' := by
  have hF0 := FB.made w P K (.slice A n c)
  have hB0 : Below w.heap.size w (w.alloc (.cells #[.int .i64 P, .int .i64 K, .slice A n c] 33)) := (Below.refl _ _).alloc (Nat.le_refl _) _
  go_enter Tryd.func29, Tryd.ntmps29
  go_wp2_with fail
  refine (digits_any a P K _ (by omega) hP hP' (by omega)).mono ?_
  rintro e w1 ⟨v1, rfl, hown1, hb1⟩
  obtain ⟨g, cap, rfl, hg, hO1⟩ := Own.of_dig hown1 hK ha hP
  have hF1 := hF0.below hb1
  have hB1 : Below w.heap.size w w1 := hB0.trans (hb1.mono hB0.size)
  have hc1 := hF1.cells
  clear hown1
  go_wp2_with fail
  refine (digits_any b P K _ (by omega) hP hP' (by omega)).mono ?_
  rintro e w2 ⟨v2, rfl, hown2, hb2⟩
  obtain ⟨g2, cap2, rfl, hg2, hO2⟩ := Own.of_dig hown2 hK hb hP
  have hF2 := hF1.below hb2
  have hO12 := hO1.below hb2
  have hB2 : Below w.heap.size w w2 := hB1.trans (hb2.mono hB1.size)
  have hgl := hO1.lt
  have hgw : w.heap.size < g := by simp at hg; omega
  have hne : g ≠ g2 := by omega
  clear hown2 hO1
  go_wp2
  go_loopw [9] (fun i wr => ∃ j : Nat, i = .int .i64 j ∧ j ≤ K ∧ Own wr g K (plusTo (digF a P) (digF b P) P j) ∧ Own wr g2 K (digF b P) ∧ FB wr w.heap.size P K (.slice A n c) ∧ Below w.heap.size w wr) (fun i _ => (K - intOf i).toNat)
  case atStart => exact ⟨0, rfl, by omega, hO12.congr (fun t _ => by simp [plusTo]), hO2, hF2, hB2⟩
  case round =>
    clear hO12 hO2 hF2 hB2 hF1 hF0 hc1
    obtain ⟨j, rfl, hj, hO1, hO2, hF, hB⟩ := hrel
    have hFc := hF.cells
    by_cases hlt : j < K
    · obtain ⟨x, Hx⟩ : ∃ a' : Int, Hid (a' = digF a P j) := ⟨_, rfl⟩
      obtain ⟨y, Hy⟩ : ∃ c' : Int, Hid (c' = digF b P j) := ⟨_, rfl⟩
      have hx0 := digF_in a P (by omega) j
      rw [← Hx.out] at hx0
      have hy0 := digF_in b P (by omega) j
      rw [← Hy.out] at hy0
      have hcx := hO1.cell j hlt
      rw [show plusTo (digF a P) (digF b P) P j j = digF a P j by simp [plusTo], ← Hx.out] at hcx
      have hcf := hO1.frozen j
      have hcy := hO2.cell j hlt
      rw [← Hy.out] at hcy
      have hji : (j : Int) < K := by omega
      have hdec : decide ((j : Int) < K) = true := by simp; omega
      go_wp2
      go_region
      all_goals
        go_wp2
        go_roundw
        case rel =>
          refine ⟨j + 1, by go_num, by omega, (hO1.set j _).congr (fun t _ => ?_), hO2.other _ _ (by simpa using Ne.symm hne), (heap_setCell_other _ _ _ _ (by simp; omega)).trans hF, (hB.setCell (by simp; omega) _).drew⟩
          rw [Hx.out, Hy.out]; exact plusTo_succ _ _ _ j t
        case measure => simp [intOf]; omega
    · go_wp2_with fail
      refine (numberRef_any (plusF (digF a P) (digF b P) P) P K g 0 cap _ ?_ hP hP' hK hK' hPK (plusF_in _ _ _ (by omega))).mono ?_
      · intro t ht
        rw [Nat.zero_add, hO1.cell t ht]
        simp [plusTo, plusF, show t < j by omega]
      rintro e w' ⟨rfl, rfl⟩
      go_wp2
      go_ret
      exact ⟨rfl, hB⟩

end Go.Proofs.YtagpbkcnjogbgaaDoor.Fd
