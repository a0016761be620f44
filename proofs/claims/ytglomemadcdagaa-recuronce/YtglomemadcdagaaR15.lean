/- The walk of Period, and the law RecurPeriods: when any row comes again. -/
import Derived.Test.YtglomemadcdagaaR30
import Derived.Test.YtglomemadcdagaaR16
import Derived.Test.YtglomemadcdagaaR12
namespace Go.Proofs.Ytglomemadcdagaa
open Go.RowKit

set_option maxHeartbeats 2000000 in
theorem periodOf_full (P : Nat) (taps : List Int) (v u : Value) (w : World) (hp : 2 ≤ P) (hp' : P ≤ 7) (hk : taps.length ≤ 8) (hl : Sl w v taps) (hQ : ¬ P ^ taps.length ≤ 20000) :
    Calls Try.prog 16 #[.int .i64 P, v, u] w fun e w' => e = .returned (.tuple #[.int .i64 0, .int .i64 0, .int .i64 3]) ∧ Below w.heap.size w w' := by
  obtain ⟨a, cap, rfl, hlc⟩ := hl
  have CS : ∀ A, Calls Try.prog 22 #[.int .i64 P, .int .i64 (taps.length : Int), .int .i64 20000] A fun e B => e = .returned (.int .i64 0) ∧ B = A := by
    intro A
    have h := states_ref P taps.length 20000 A hp hp' (by omega) (by omega) (by omega)
    have e : statZ P taps.length 20000 = 0 := by unfold statZ; rw [if_neg hQ]
    rw [e] at h; exact h
  clear hQ hlc
  go_enter Try.func16, Try.ntmps16
  go_wp2_with (first
    | (go_at_call 22; refine (CS _).mono ?_; rintro e w1 ⟨rfl, hw1⟩; replace hw1 := hw1.symm; subst hw1))
  exact bodyPost_ret (v := .tuple #[.int .i64 0, .int .i64 0, .int .i64 3]) (by simp [results, Try.results16, go_sem]) rfl ⟨rfl, Below.refl _ _⟩

set_option maxHeartbeats 2000000 in
theorem Period_bad (p : Int) (l m : List Int) (v u : Value) (z : Int) (w : World) (hl : Sl w v l) (hll : l.length ≤ maxLen) (hm : Sl w u m) (hml : m.length ≤ maxLen) (hz : runF p l m = z) (hz0 : z ≠ 0) :
    Calls Try.prog 15 #[.int .i64 p, v, u] w fun e w' => e = .returned (.tuple #[.int .i64 0, .int .i64 0, .int .i64 z]) ∧ Below w.heap.size w w' := by
  have C := begin_bad p l m v u z w hl hll hm hml hz hz0
  have hd : (z != 0) = true := by simpa using hz0
  go_enter Try.func15, Try.ntmps15
  go_wp2_with (first
    | (go_at_call 27; refine C.mono ?_; rintro e w1 ⟨rfl, hb1⟩; have hN := RB.made w1 0 (.slice none 0 0))
    | (refine wpList_store_row rfl 47 _ _ rfl w1.heap.size #[.int .i64 0, .slice none 0 0] rfl rfl 47 _ hN inf47 rfl (one2 _ _ rfl) ?_))
  exact bodyPost_ret (v := .tuple #[.int .i64 0, .int .i64 0, .int .i64 z]) (by simp [results, Try.results15, go_sem]) rfl ⟨rfl, bsetRow (hb1.alloc hb1.size _) hb1.size _⟩

set_option maxHeartbeats 2000000 in
theorem Period_full (p : Int) (l m : List Int) (v u : Value) (w : World) (hl : Sl w v l) (hll : l.length ≤ maxLen) (hm : Sl w u m) (hml : m.length ≤ maxLen) (hz : runF p l m = 0) (hQ : ¬ p.toNat ^ l.length ≤ 20000) :
    Calls Try.prog 15 #[.int .i64 p, v, u] w fun e w' => e = .returned (.tuple #[.int .i64 0, .int .i64 0, .int .i64 3]) ∧ Below w.heap.size w w' := by
  obtain ⟨h1, h2, h3⟩ := runF_ok hz
  obtain ⟨t1, t2, t3, t4⟩ := tapsF_ok h1
  have hpb := smB_bd t1
  have C := begin_ok p l m v u w hl hll hm hml hz
  obtain ⟨P, rfl⟩ := Int.eq_ofNat_of_zero_le (show 0 ≤ p by omega)
  rw [Int.toNat_natCast] at hQ
  obtain ⟨a, cap, rfl, _⟩ := id hl
  obtain ⟨x, Hx⟩ : ∃ x : Int, Hid (x = numL P m) := ⟨_, rfl⟩
  rw [← Hx.out] at C
  obtain ⟨q, Hq⟩ : ∃ q : Nat, Hid (q = P ^ l.length) := ⟨_, rfl⟩
  have CS : ∀ A, Calls Try.prog 29 #[.agg #[.int .i64 P, .slice a l.length cap]] A fun e B => e = .returned (.int .i64 (q : Int)) ∧ Below A.heap.size A B := by
    intro A
    have h := states_any P l.length a cap A (by omega) (by omega) t3
    rw [show (P : Int) ^ l.length = (q : Int) by rw [Hq.out, Int.natCast_pow]] at h; exact h
  rw [← Hq.out] at hQ
  have hd : decide ((20000 : Int) < (q : Int)) = true := by simp; omega
  go_enter Try.func15, Try.ntmps15
  go_wp2_with (first
    | (go_at_call 27; refine C.mono ?_; rintro e w1 ⟨rfl, hb1⟩
       have hN := RB.made w1 0 (.slice none 0 0)
       obtain ⟨w2, Hw2⟩ : ∃ w2, Hid (w2 = (w1.alloc (.cells #[.int .i64 0, .slice none 0 0] 47)).setRow w1.heap.size #[.int .i64 (P : Int), .slice a l.length cap]) := ⟨_, rfl⟩
       have hN2 : RB w2 w1.heap.size P (.slice a l.length cap) := by rw [Hw2.out]; exact hN.whole _ _
       have hB2 : Below w.heap.size w w2 := by rw [Hw2.out]; exact bsetRow (hb1.alloc hb1.size _) hb1.size _)
    | (refine wpList_store_row rfl 47 _ _ rfl w1.heap.size #[.int .i64 P, .slice a l.length cap] rfl rfl 47 _ hN inf47 rfl (one2 _ _ rfl) ?_; rw [← Hw2.out])
    | (refine wpList_load_row rfl 47 _ rfl w1.heap.size rfl 47 _ (0, 0) _ hN2 und47.choose_spec rfl inf47 ?_)
    | (go_at_call 29; refine (CS _).mono ?_; rintro e w3 ⟨rfl, hb3⟩))
  exact bodyPost_ret (v := .tuple #[.int .i64 0, .int .i64 0, .int .i64 3]) (by simp [results, Try.results15, go_sem]) rfl ⟨rfl, hB2.trans (hb3.mono hB2.size)⟩

set_option maxHeartbeats 2000000 in
theorem Period_ok (p : Int) (l m : List Int) (v u : Value) (w : World) (hl : Sl w v l) (hll : l.length ≤ maxLen) (hm : Sl w u m) (hml : m.length ≤ maxLen) (hz : runF p l m = 0) (hQ : p.toNat ^ l.length ≤ 20000) :
    Calls Try.prog 15 #[.int .i64 p, v, u] w fun e w' => ∃ x y : Nat, e = .returned (.tuple #[.int .i64 x, .int .i64 y, .int .i64 0]) ∧ PerIs (winN p l m) x y ∧ Below w.heap.size w w' := by
  obtain ⟨h1, h2, h3⟩ := runF_ok hz
  obtain ⟨t1, t2, t3, t4⟩ := tapsF_ok h1
  have hpb := smB_bd t1
  have C := begin_ok p l m v u w hl hll hm hml hz
  obtain ⟨P, rfl⟩ := Int.eq_ofNat_of_zero_le (show 0 ≤ p by omega)
  rw [Int.toNat_natCast] at hQ
  obtain ⟨a, cap, rfl, _⟩ := id hl
  obtain ⟨x, Hx⟩ : ∃ x : Int, Hid (x = numL P m) := ⟨_, rfl⟩
  rw [← Hx.out] at C
  obtain ⟨q, Hq⟩ : ∃ q : Nat, Hid (q = P ^ l.length) := ⟨_, rfl⟩
  have CS : ∀ A, Calls Try.prog 29 #[.agg #[.int .i64 P, .slice a l.length cap]] A fun e B => e = .returned (.int .i64 (q : Int)) ∧ Below A.heap.size A B := by
    intro A
    have h := states_any P l.length a cap A (by omega) (by omega) t3
    rw [show (P : Int) ^ l.length = (q : Int) by rw [Hq.out, Int.natCast_pow]] at h; exact h
  rw [← Hq.out] at hQ
  have R : ∀ A, Sl A (.slice a l.length cap) l → Calls Try.prog 30 #[.agg #[.int .i64 P, .slice a l.length cap], .int .i64 x] A fun e B => ∃ x y : Nat, e = .returned (.tuple #[.int .i64 x, .int .i64 y]) ∧ PerIs (winN P l m) x y ∧ Below A.heap.size A B := by
    intro A hA
    have h := period_any P q l m (.slice a l.length cap) A (by omega) (by omega) t2 t3 t4 h2 h3 hA Hq.out hQ
    rw [win0 h2, ← Hx.out] at h; exact h
  have hd : decide ((20000 : Int) < (q : Int)) = false := by simp; omega
  go_enter Try.func15, Try.ntmps15
  go_wp2_with (first
    | (go_at_call 27; refine C.mono ?_; rintro e w1 ⟨rfl, hb1⟩
       have hN := RB.made w1 0 (.slice none 0 0)
       obtain ⟨w2, Hw2⟩ : ∃ w2, Hid (w2 = (w1.alloc (.cells #[.int .i64 0, .slice none 0 0] 47)).setRow w1.heap.size #[.int .i64 (P : Int), .slice a l.length cap]) := ⟨_, rfl⟩
       have hN2 : RB w2 w1.heap.size P (.slice a l.length cap) := by rw [Hw2.out]; exact hN.whole _ _
       have hB2 : Below w.heap.size w w2 := by rw [Hw2.out]; exact bsetRow (hb1.alloc hb1.size _) hb1.size _)
    | (refine wpList_store_row rfl 47 _ _ rfl w1.heap.size #[.int .i64 P, .slice a l.length cap] rfl rfl 47 _ hN inf47 rfl (one2 _ _ rfl) ?_; rw [← Hw2.out])
    | (go_at_call 29; refine (CS _).mono ?_; rintro e w3 ⟨rfl, hb3⟩
       have hN3 := hN2.below hb3
       have hB3 := hB2.trans (hb3.mono hB2.size)
       have R3 := R w3 (hl.below hB3))
    | (go_at_call 30; refine R3.mono ?_; rintro e w4 ⟨x1, y1, rfl, hper, hb4⟩)
    | (refine wpList_load_row rfl 47 _ rfl w1.heap.size rfl 47 _ (0, 0) _ hN2 und47.choose_spec rfl inf47 ?_)
    | (refine wpList_load_row rfl 47 _ rfl w1.heap.size rfl 47 _ (0, 0) _ hN3 und47.choose_spec rfl inf47 ?_))
  exact bodyPost_ret (v := .tuple #[.int .i64 x1, .int .i64 y1, .int .i64 0]) (by simp [results, Try.results15, go_sem]) rfl ⟨x1, y1, rfl, hper, hB3.trans (hb4.mono hB3.size)⟩

set_option maxHeartbeats 2000000 in
theorem law4_any (p : Int) (l m : List Int) (v u : Value) (w : World) (hl : Sl w v l) (hll : l.length ≤ maxLen) (hm : Sl w u m) (hml : m.length ≤ maxLen) :
    Calls Try.prog 4 #[.int .i64 p, v, u] w fun e w' => e = .returned (.bool true) ∧ Below w.heap.size w w' := by
  obtain ⟨z, Hz⟩ : ∃ z : Int, Hid (z = runF p l m) := ⟨_, rfl⟩
  have C1 := runFault_any p l m v u w hl hll hm hml
  rw [← Hz.out] at C1
  by_cases h0 : z = 0
  · subst h0
    have hz := Hz.out.symm
    obtain ⟨h1, h2, h3⟩ := runF_ok hz
    obtain ⟨t1, t2, t3, t4⟩ := tapsF_ok h1
    have hpb := smB_bd t1
    by_cases hQ : p.toNat ^ l.length ≤ 20000
    · have C2 := Period_ok p l m v u w hl hll hm hml hz hQ
      obtain ⟨P, rfl⟩ := Int.eq_ofNat_of_zero_le (show 0 ≤ p by omega)
      rw [Int.toNat_natCast] at hQ
      have C3 : ∀ A, Below w.heap.size w A → Calls Try.prog 16 #[.int .i64 (P : Int), v, u] A fun e B => ∃ a b : Nat, e = .returned (.tuple #[.int .i64 a, .int .i64 b, .int .i64 0]) ∧ PerIs (winN P l m) a b ∧ Below A.heap.size A B :=
        fun A hA => periodOf_ok P _ l m v u A (by omega) (by omega) t2 t3 t4 h2 h3 (hl.below hA) (hm.below hA) rfl hQ
      clear hQ hpb h2 t2 t3
      go_enter Try.func4, Try.ntmps4
      go_wp2_with (first
        | (go_at_call 11; refine C1.mono ?_; rintro e w1 ⟨rfl, hw1⟩; replace hw1 := hw1.symm; subst hw1)
        | (go_at_call 15; refine C2.mono ?_; rintro e w2 ⟨x, y, rfl, hp1, hb2⟩; have HP1 : Hid (PerIs (winN (P : Int) l m) x y) := hp1; clear hp1)
        | (go_at_call 16; refine (C3 _ hb2).mono ?_; rintro e w3 ⟨x', y', rfl, hp2, hb3⟩; have hxx : ((x : Int) == (x' : Int)) = true := (by have h := (HP1.out.one hp2).1; simp; omega); have hyy : ((y : Int) == (y' : Int)) = true := (by have h := (HP1.out.one hp2).2; simp; omega); clear hp2))
      go_ret
      exact ⟨rfl, hb2.trans (hb3.mono hb2.size)⟩
    · have C2 := Period_full p l m v u w hl hll hm hml hz hQ
      obtain ⟨P, rfl⟩ := Int.eq_ofNat_of_zero_le (show 0 ≤ p by omega)
      rw [Int.toNat_natCast] at hQ
      have C3 : ∀ A, Below w.heap.size w A → Calls Try.prog 16 #[.int .i64 (P : Int), v, u] A fun e B => e = .returned (.tuple #[.int .i64 0, .int .i64 0, .int .i64 3]) ∧ Below A.heap.size A B :=
        fun A hA => periodOf_full P l v u A (by omega) (by omega) t3 (hl.below hA) hQ
      clear hQ hpb h2 t2 t3
      go_enter Try.func4, Try.ntmps4
      go_wp2_with (first
        | (go_at_call 11; refine C1.mono ?_; rintro e w1 ⟨rfl, hw1⟩; replace hw1 := hw1.symm; subst hw1)
        | (go_at_call 15; refine C2.mono ?_; rintro e w2 ⟨rfl, hb2⟩)
        | (go_at_call 16; refine (C3 _ hb2).mono ?_; rintro e w3 ⟨rfl, hb3⟩))
      go_ret
      exact ⟨rfl, hb2.trans (hb3.mono hb2.size)⟩
  · have C2 := Period_bad p l m v u z w hl hll hm hml Hz.out.symm h0
    have hd : (z != 0) = true := by simpa using h0
    have hzz : (z == z) = true := by simp
    go_enter Try.func4, Try.ntmps4
    go_wp2_with (first
      | (go_at_call 11; refine C1.mono ?_; rintro e w1 ⟨rfl, hw1⟩; replace hw1 := hw1.symm; subst hw1)
      | (go_at_call 15; refine C2.mono ?_; rintro e w2 ⟨rfl, hb2⟩))
    go_ret
    exact ⟨rfl, hb2⟩

end Go.Proofs.Ytglomemadcdagaa
