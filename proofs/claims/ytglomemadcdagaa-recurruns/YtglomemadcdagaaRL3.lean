/- The law RecurRuns, walked: any recurrence from any seed, or what is wrong. -/
import Derived.Test.YtglomemadcdagaaR12
import Derived.Test.YtglomemadcdagaaR13
import Derived.Test.YtglomemadcdagaaR14
namespace Go.Proofs.Ytglomemadcdagaa
open Go.RowKit

set_option maxHeartbeats 2000000 in
theorem law3_any (p n : Int) (l m : List Int) (v u : Value) (w : World) (hl : Sl w v l) (hll : l.length ≤ maxLen) (hm : Sl w u m) (hml : m.length ≤ maxLen) :
    Calls Try.prog 3 #[.int .i64 p, v, u, .int .i64 n] w fun e w' => e = .returned (.bool true) ∧ Below w.heap.size w w' := by
  obtain ⟨zt, Hzt⟩ : ∃ z : Int, Hid (z = tapsF p l) := ⟨_, rfl⟩
  have C1 := tapsFault_any p l v w hl hll
  have C2 := check_any p l v w hl hll
  rw [← Hzt.out] at C1 C2
  have ht0 : (zt != zt) = false := by simp
  obtain ⟨zr, Hzr⟩ : ∃ z : Int, Hid (z = runF p l m) := ⟨_, rfl⟩
  have C3 : ∀ A, Below w.heap.size w A → Calls Try.prog 11 #[.int .i64 p, v, u] A fun e B => e = .returned (.int .i64 zr) ∧ B = A := by
    intro A hA
    rw [Hzr.out]; exact runFault_any p l m v u A (hl.below hA) hll (hm.below hA) hml
  by_cases h0 : zr = 0
  · have hr0 : runF p l m = 0 := by rw [← Hzr.out]; exact h0
    subst h0
    by_cases hn : n < 0 ∨ 5000 < n
    · have hz1 : runZ p l m n = 1 := by unfold runZ; rw [if_neg (by omega), if_pos hn]
      have C4 : ∀ A, Below w.heap.size w A → Calls Try.prog 12 #[.int .i64 p, v, u, .int .i64 n] A fun e B => e = .returned (.tuple #[.slice none 0 0, .int .i64 1]) ∧ Below A.heap.size A B :=
        fun A hA => Run_bad p n l m v u A (hl.below hA) hll (hm.below hA) hml (by rw [hz1]; decide) 1 hz1
      by_cases hn0 : n < 0
      · have hd : decide (n < 0) = true := by simpa using hn0
        clear hn
        go_enter Try.func3, Try.ntmps3
        go_wp2_with (first
          | (go_at_call 9; refine C1.mono ?_; rintro e w1 ⟨rfl, rfl⟩)
          | (go_at_call 10; refine C2.mono ?_; rintro e w2 ⟨rfl, hb2⟩)
          | (go_at_call 11; refine (C3 _ hb2).mono ?_; rintro e w3 ⟨rfl, rfl⟩)
          | (go_at_call 12; refine (C4 _ (by assumption)).mono ?_; rintro e w4 ⟨rfl, hb4⟩))
        go_ret
        exact ⟨rfl, hb2.trans (hb4.mono hb2.size)⟩
      · have hd : decide (n < 0) = false := by simpa using hn0
        have hd2 : decide ((5000 : Int) < n) = true := by simp; omega
        clear hn
        go_enter Try.func3, Try.ntmps3
        go_wp2_with (first
          | (go_at_call 9; refine C1.mono ?_; rintro e w1 ⟨rfl, rfl⟩)
          | (go_at_call 10; refine C2.mono ?_; rintro e w2 ⟨rfl, hb2⟩)
          | (go_at_call 11; refine (C3 _ hb2).mono ?_; rintro e w3 ⟨rfl, rfl⟩)
          | (go_at_call 12; refine (C4 _ (by assumption)).mono ?_; rintro e w4 ⟨rfl, hb4⟩))
        go_ret
        exact ⟨rfl, hb2.trans (hb4.mono hb2.size)⟩
    · obtain ⟨k, rfl⟩ := Int.eq_ofNat_of_zero_le (show 0 ≤ n by omega)
      have hk : k ≤ 5000 := by omega
      obtain ⟨h1, h2, h3⟩ := runF_ok hr0
      obtain ⟨t1, t2, t3, t4⟩ := tapsF_ok h1
      have hpb := smB_bd t1
      obtain ⟨P, rfl⟩ := Int.eq_ofNat_of_zero_le (show 0 ≤ p by omega)
      have C4 : ∀ A, Below w.heap.size w A → Calls Try.prog 12 #[.int .i64 (P : Int), v, u, .int .i64 (k : Int)] A fun e B => ∃ r, e = .returned (.tuple #[r, .int .i64 0]) ∧ B.ownsRow A.heap.size 3 1 r k ((rowL P l m k).map (Value.int .i64)) ∧ Below A.heap.size A B :=
        fun A hA => Run_ok P k l m v u A (hl.below hA) hll (hm.below hA) hml hr0 hk
      have C5 : ∀ A, Below w.heap.size w A → Calls Try.prog 13 #[.int .i64 (P : Int), v, u, .int .i64 (k : Int)] A fun e B => ∃ r, e = .returned r ∧ B.ownsRow A.heap.size 3 1 r k ((rowL P l m k).map (Value.int .i64)) ∧ Below A.heap.size A B :=
        fun A hA => rowOf_any P k l m v u A (by omega) (by omega) t2 t3 t4 h2 h3 (hl.below hA) (hm.below hA) (by omega)
      have C6 : ∀ A r s, Sl A r (rowL P l m k) → Sl A s (rowL P l m k) → Calls Try.prog 14 #[r, s] A fun e B => e = .returned (.bool true) ∧ Below A.heap.size A B := by
        intro A r s h1 h2
        refine (ints_any _ _ r s A h1 h2 (by rw [rowL_len]; unfold maxLen; omega) (by rw [rowL_len]; unfold maxLen; omega)).mono ?_
        rintro e B ⟨b, rfl, hb, hB⟩
        exact ⟨by rw [hb.2 rfl], hB⟩
      have hd : decide ((k : Int) < 0) = false := by simp
      have hd2 : decide ((5000 : Int) < (k : Int)) = false := by simp; omega
      clear hn hpb
      go_enter Try.func3, Try.ntmps3
      go_wp2_with (first
        | (go_at_call 9; refine C1.mono ?_; rintro e w1 ⟨rfl, rfl⟩)
        | (go_at_call 10; refine C2.mono ?_; rintro e w2 ⟨rfl, hb2⟩)
        | (go_at_call 11; refine (C3 _ hb2).mono ?_; rintro e w3 ⟨rfl, rfl⟩)
        | (go_at_call 12; refine (C4 _ (by assumption)).mono ?_; rintro e w4 ⟨r, rfl, ho4, hb4⟩; have hB4 := hb2.trans (hb4.mono hb2.size); have S4 := slRow ho4)
        | (go_at_call 13; refine (C5 _ hB4).mono ?_; rintro e w5 ⟨s, rfl, ho5, hb5⟩; have hB5 := hB4.trans (hb5.mono hB4.size); have S5 := slRow ho5)
        | (go_at_call 14; refine (C6 _ _ _ (S4.below hb5) S5).mono ?_; rintro e w6 ⟨rfl, hb6⟩))
      go_ret
      exact ⟨rfl, hB5.trans (hb6.mono hB5.size)⟩
  · have hz1 : runZ p l m n = zr := by unfold runZ; rw [if_pos (by rw [← Hzr.out]; exact h0), Hzr.out]
    have C4 : ∀ A, Below w.heap.size w A → Calls Try.prog 12 #[.int .i64 p, v, u, .int .i64 n] A fun e B => e = .returned (.tuple #[.slice none 0 0, .int .i64 zr]) ∧ Below A.heap.size A B :=
      fun A hA => Run_bad p n l m v u A (hl.below hA) hll (hm.below hA) hml (by rw [hz1]; exact h0) zr hz1
    have hd : (zr == 0) = false := by simpa using h0
    have hd2 : (zr != 0) = true := by simpa using h0
    have hd3 : (zr == zr) = true := by simp
    go_enter Try.func3, Try.ntmps3
    go_wp2_with (first
      | (go_at_call 9; refine C1.mono ?_; rintro e w1 ⟨rfl, rfl⟩)
      | (go_at_call 10; refine C2.mono ?_; rintro e w2 ⟨rfl, hb2⟩)
      | (go_at_call 11; refine (C3 _ hb2).mono ?_; rintro e w3 ⟨rfl, rfl⟩)
      | (go_at_call 12; refine (C4 _ (by assumption)).mono ?_; rintro e w4 ⟨rfl, hb4⟩))
    go_ret
    exact ⟨rfl, hb2.trans (hb4.mono hb2.size)⟩

end Go.Proofs.Ytglomemadcdagaa
