/- The closed fact that the laws ask first; Run, whatever it answers; that rows add. -/
import Derived.Test.YtglomemadcdagabR12
import Derived.Test.YtglomemadcdagabR14
namespace Go.Proofs.Ytglomemadcdagab
open Go.RowKit

theorem Run_gen (p n : Int) (l m : List Int) (v u : Value) (w : World) (hl : Sl w v l) (hll : l.length ≤ maxLen) (hm : Sl w u m) (hml : m.length ≤ maxLen) :
    Calls Try.prog 5 #[.int .i64 p, v, u, .int .i64 n] w fun e w' => ∃ r z, e = .returned (.tuple #[r, .int .i64 z]) ∧ z = runZ p l m n ∧ Below w.heap.size w w' := by
  by_cases h : runZ p l m n = 0
  · have h1 : runF p l m = 0 := by
      by_cases h1 : runF p l m = 0
      · exact h1
      · unfold runZ at h; rw [if_pos h1] at h; exact h
    have h2 : ¬ (n < 0 ∨ 5000 < n) := by
      intro h2
      unfold runZ at h; rw [if_neg (by omega), if_pos h2] at h; omega
    obtain ⟨k, rfl⟩ := Int.eq_ofNat_of_zero_le (show 0 ≤ n by omega)
    refine (Run_ok p k l m v u w hl hll hm hml h1 (by omega)).mono ?_
    rintro e w' ⟨r, rfl, _, hb⟩
    exact ⟨r, 0, rfl, h.symm, hb⟩
  · refine (Run_bad p n l m v u w hl hll hm hml h _ rfl).mono ?_
    rintro e w' ⟨rfl, hb⟩
    exact ⟨_, _, rfl, rfl, hb⟩
theorem runZ_ok {p n : Int} {l m : List Int} (h : runZ p l m n = 0) : runF p l m = 0 ∧ 0 ≤ n ∧ n ≤ 5000 := by
  unfold runZ at h
  by_cases h1 : runF p l m = 0
  · rw [if_neg (by omega)] at h
    by_cases h2 : n < 0 ∨ 5000 < n
    · rw [if_pos h2] at h; omega
    · exact ⟨h1, by omega, by omega⟩
  · rw [if_pos h1] at h; exact absurd h h1

theorem slLit2 (w : World) (x y : Int) : Sl (w.alloc (.cells #[.int .i64 x, .int .i64 y] 3)) (.slice (some ⟨w.heap.size, 0, none⟩) 2 2) [x, y] := by
  refine ⟨_, 2, rfl, fun j hj => ⟨w.heap.size, 0, rfl, ?_⟩⟩
  rw [cell_of_row _ w.heap.size _ _ _ _ (heap_alloc_new w _)]
  match j, hj with
  | 0, _ => rfl
  | 1, _ => rfl
theorem slLit6 (w : World) (a b c d e f : Int) : Sl (w.alloc (.cells #[.int .i64 a, .int .i64 b, .int .i64 c, .int .i64 d, .int .i64 e, .int .i64 f] 3)) (.slice (some ⟨w.heap.size, 0, none⟩) 6 6) [a, b, c, d, e, f] := by
  refine ⟨_, 6, rfl, fun j hj => ⟨w.heap.size, 0, rfl, ?_⟩⟩
  rw [cell_of_row _ w.heap.size _ _ _ _ (heap_alloc_new w _)]
  match j, hj with
  | 0, _ => rfl
  | 1, _ => rfl
  | 2, _ => rfl
  | 3, _ => rfl
  | 4, _ => rfl
  | 5, _ => rfl

set_option maxHeartbeats 1000000 in
theorem runs_any (w : World) : Calls Try.prog 4 #[] w fun e w' => e = .returned (.bool true) ∧ Below w.heap.size w w' := by
  have hB1 := balloc w (.cells #[.int .i64 1, .int .i64 1] 3)
  have S1 := (slLit2 w 1 1).alloc (.cells #[.int .i64 0, .int .i64 1] 3)
  have S2 := slLit2 (w.alloc (.cells #[.int .i64 1, .int .i64 1] 3)) 0 1
  rw [World.size_alloc] at S2
  have hB2 := hB1.alloc hB1.size (.cells #[.int .i64 0, .int .i64 1] 3)
  have C : Calls Try.prog 5 #[.int .i64 2, .slice (some ⟨w.heap.size, 0, none⟩) 2 2, .slice (some ⟨w.heap.size + 1, 0, none⟩) 2 2, .int .i64 6] ((w.alloc (.cells #[.int .i64 1, .int .i64 1] 3)).alloc (.cells #[.int .i64 0, .int .i64 1] 3)) fun e B => ∃ r, e = .returned (.tuple #[r, .int .i64 0]) ∧ Sl B r [0, 1, 1, 0, 1, 1] ∧ Below ((w.alloc (.cells #[.int .i64 1, .int .i64 1] 3)).alloc (.cells #[.int .i64 0, .int .i64 1] 3)).heap.size ((w.alloc (.cells #[.int .i64 1, .int .i64 1] 3)).alloc (.cells #[.int .i64 0, .int .i64 1] 3)) B := by
    refine (Run_ok 2 6 [1, 1] [0, 1] _ _ _ S1 (by decide) S2 (by decide) (by decide) (by omega)).mono ?_
    rintro e B ⟨r, rfl, ho, hb⟩
    exact ⟨r, rfl, slRow ho, hb⟩
  go_enter Try.func4, Try.ntmps4
  go_wp2_with (first
    | (go_at_call 5; refine C.mono ?_; rintro e w1 ⟨r, rfl, hs1, hb1⟩; have hB3 := Below.next hB2 hb1; have D := ints_any _ _ r _ _ (hs1.alloc (.cells #[.int .i64 0, .int .i64 1, .int .i64 1, .int .i64 0, .int .i64 1, .int .i64 1] 3)) (slLit6 w1 0 1 1 0 1 1) (by decide) (by decide))
    | (go_at_call 7; refine D.mono ?_; rintro e w2 ⟨b, rfl, hb, hb2⟩; obtain rfl : b = true := by first | exact hb.2 rfl | simpa using hb))
  go_ret
  exact ⟨rfl, (hB3.alloc hB3.size _).trans (hb2.mono (by have := hB3.size; simp; omega))⟩

/-! ### Rows add -/
def addL (p : Int) (a b : List Int) : List Int := (List.range a.length).map fun j => (a.getD j 0 + b.getD j 0) % p
theorem addL_len (p : Int) (a b : List Int) : (addL p a b).length = a.length := by simp [addL]
theorem addL_at (p : Int) (a b : List Int) {j : Nat} (h : j < a.length) : (addL p a b).getD j 0 = (a.getD j 0 + b.getD j 0) % p := by simp [addL, h]
theorem addL_bel {p : Int} (hp : 0 < p) (a b : List Int) : belB p (addL p a b) = true := by
  rw [belB_iff]
  intro j hj
  rw [addL_len] at hj
  rw [addL_at p a b hj]
  exact ⟨Int.emod_nonneg _ (by omega), Int.emod_lt_of_pos _ hp⟩
theorem rows_add {p : Int} {taps a b : List Int} (ha : a.length = taps.length) (hb : b.length = taps.length) : ∀ i, rowN p taps (addL p a b) i = (rowN p taps a i + rowN p taps b i) % p := by
  intro i
  induction i using Nat.strongRecOn with
  | _ i ih =>
    by_cases h : i < taps.length
    · rw [rowN_seed (by rw [addL_len]; omega), rowN_seed (by omega), rowN_seed (by omega), addL_at _ _ _ (by omega)]
    · rw [rowN_on (by rw [addL_len]; omega) (by omega), rowN_on (seed := a) (by omega) (by omega), rowN_on (seed := b) (by omega) (by omega), ← Int.add_emod, ← sumTo_add]
      apply sumTo_mod
      intro j hj
      rw [ih (i - 1 - j) (by omega), Int.mul_emod, Int.emod_emod_of_dvd _ (Int.dvd_refl p), ← Int.mul_emod, Int.mul_add]

end Go.Proofs.Ytglomemadcdagab
