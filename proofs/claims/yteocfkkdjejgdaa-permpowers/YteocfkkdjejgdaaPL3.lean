/- The law PermAsks, walked. -/
import Derived.Test.YteocfkkdjejgdaaP10
import Derived.Test.YteocfkkdjejgdaaP15
import Derived.Test.YteocfkkdjejgdaaP17
import Derived.Test.YteocfkkdjejgdaaP7
namespace Go.Proofs.Yteocfkkdjejgdaa
open Go.RowKit

theorem ord_ex {n : Nat} {f : Nat → Nat} (P : Pm n f) (hn : n ≤ 12) : ∃ o, OrdIs n f o ∧ o ≤ 27720 := by
  obtain ⟨o, ⟨h1, h2⟩, h3⟩ := least_ex (p := fun o => 1 ≤ o ∧ ∀ x, x < n → itr f o x = x) ⟨27720, by omega, (P.all_dvd 27720).1 fun L hL => by
    have := P.lens_mem hL
    exact small_dvd L (by omega) (by omega)⟩
  have hle : o ≤ 27720 := Nat.le_of_not_lt fun h => h3 27720 h ⟨by omega, (P.all_dvd 27720).1 fun L hL => by
    have := P.lens_mem hL
    exact small_dvd L (by omega) (by omega)⟩
  refine ⟨o, ⟨h1, fun N => ⟨fun hd x hx => ?_, fun hN => ?_⟩⟩, hle⟩
  · rw [P.dvd hx]
    exact Nat.dvd_trans ((P.dvd hx o).1 (h2 x hx)) hd
  · have hm := Nat.mod_lt N (show 0 < o by omega)
    rcases Nat.eq_zero_or_pos (N % o) with h0 | h0
    · exact Nat.dvd_of_mod_eq_zero h0
    · refine absurd ⟨h0, fun x hx => ?_⟩ (h3 (N % o) hm)
      rw [← itr_mod_of (h2 x hx)]
      exact hN x hx

set_option maxRecDepth 100000 in
set_option maxHeartbeats 4000000 in
theorem law3_any (l : List Int) (v : Value) (w : World) (hl : Sl w v l) (hll : l.length ≤ maxLen) (hcap : capOk v) :
    Calls Try.prog 3 #[v] w fun e w' => e = .returned (.bool true) ∧ Below w.heap.size w w' := by
  have C1 := PermFault_any l v w hl hll
  have C2 := fun A (h : Below w.heap.size w A) => Check_any l v A (hl.below h) hll
  obtain ⟨z, Hz⟩ : ∃ z, Hid (pF l = z) := ⟨_, rfl⟩
  rw [Hz.out] at C1 C2
  have hzz : (z != z) = false := by simp
  by_cases hz : z = 0
  · obtain ⟨n, f, hn, P, rfl⟩ := pF_ok (by rw [Hz.out]; exact hz : pF l = 0)
    subst hz
    obtain ⟨o, ho, hob⟩ := ord_ex P hn
    have C3 := fun A (h : Below w.heap.size w A) => Inverse_ok n f v A hn (hl.below h) P
    have C4 : ∀ A, Below w.heap.size w A → Calls Try.prog 10 #[v] A fun e w' => e = .returned (.tuple #[.int .i64 (o : Int), .int .i64 0]) ∧ Below A.heap.size A w' := fun A h => by
      refine (Order_ok n f v A hn (hl.below h) P).mono ?_
      rintro e w' ⟨o', rfl, ho', _, hb⟩
      rw [ho'.one ho]
      exact ⟨rfl, hb⟩
    have C5 := fun A (h : Below w.heap.size w A) => Sign_ok n f v A hn (hl.below h) P
    have C6 := fun A (h : Below w.heap.size w A) => Rank_ok n f v A hn (hl.below h) hcap P
    have C7 := fun A (h : Below w.heap.size w A) => Undo_any n f v A hn (hl.below h) P
    have C8 := fun A y y' (h1 : Sl A y (pl n (iv f))) (h2 : Sl A y' (pl n (iv f))) => ints_yes _ _ y y' A h1 h2 (by rw [pl_len]; omega) rfl
    have C9 := fun A (h : Below w.heap.size w A) => PermOrder_any n f v o A hn (hl.below h) P ho hob
    have C10 := fun A (h : Below w.heap.size w A) => PermSign_any n f v A hn (hl.below h) P
    have C11 := fun A (h : Below w.heap.size w A) => PermRank_any n f v A hn (hl.below h) P
    obtain ⟨s, Hs⟩ : ∃ s, Hid (sgI n f = s) := ⟨_, rfl⟩
    obtain ⟨r, Hr⟩ : ∃ r, Hid (rkS n f n = r) := ⟨_, rfl⟩
    rw [Hs.out] at C5 C10
    rw [Hr.out] at C6 C11
    have hss : (s == s) = true := by simp
    have hoo : ((o : Int) == (o : Int)) = true := by simp
    have hrr : ((r : Int) == (r : Int)) = true := by simp
    clear P ho hl hcap
    go_enter Try.func3, Try.ntmps3
    go_wp2_with (first
      | (go_at_call 7; refine C1.mono ?_; rintro e w1 ⟨rfl, b1⟩)
      | (go_at_call 8; refine (C2 _ b1).mono ?_; rintro e w2 ⟨rfl, b2⟩; replace b2 := Below.next b1 b2)
      | (go_at_call 9; refine (C3 _ b2).mono ?_; rintro e w3 ⟨y3, rfl, hy3, b3⟩; replace b3 := Below.next b2 b3)
      | (go_at_call 10; refine (C4 _ b3).mono ?_; rintro e w4 ⟨rfl, b4⟩; replace hy3 := hy3.below b4; replace b4 := Below.next b3 b4)
      | (go_at_call 11; refine (C5 _ b4).mono ?_; rintro e w5 ⟨rfl, b5⟩; replace hy3 := hy3.below b5; replace b5 := Below.next b4 b5)
      | (go_at_call 12; refine (C6 _ b5).mono ?_; rintro e w6 ⟨rfl, b6⟩; replace hy3 := hy3.below b6; replace b6 := Below.next b5 b6)
      | (go_at_call 13; refine (C7 _ b6).mono ?_; rintro e w7 ⟨y7, rfl, hy7, b7⟩; replace hy3 := hy3.below b7; replace b7 := Below.next b6 b7)
      | (go_at_call 14; refine (C8 _ _ _ hy3 hy7).mono ?_; rintro e w8 ⟨rfl, b8⟩; replace b8 := Below.next b7 b8)
      | (go_at_call 15; refine (C9 _ b8).mono ?_; rintro e w9 ⟨rfl, b9⟩; replace b9 := Below.next b8 b9)
      | (go_at_call 16; refine (C10 _ b9).mono ?_; rintro e w10 ⟨rfl, b10⟩; replace b10 := Below.next b9 b10)
      | (go_at_call 17; refine (C11 _ b10).mono ?_; rintro e w11 ⟨rfl, hw⟩; replace hw := hw.symm; subst hw))
    go_ret
    exact ⟨rfl, b10⟩
  · have hzd : (z != 0) = true := by simpa using hz
    have C3 := fun A (h : Below w.heap.size w A) => Inverse_bad l v A (hl.below h) hll z Hz.out hz
    have C4 := fun A (h : Below w.heap.size w A) => Order_bad l v A (hl.below h) hll z Hz.out hz
    have C5 := fun A (h : Below w.heap.size w A) => Sign_bad l v A (hl.below h) hll z Hz.out hz
    have C6 := fun A (h : Below w.heap.size w A) => Rank_bad l v A (hl.below h) hll z Hz.out hz
    clear hz hl hcap
    go_enter Try.func3, Try.ntmps3
    go_wp2_with (first
      | (go_at_call 7; refine C1.mono ?_; rintro e w1 ⟨rfl, b1⟩)
      | (go_at_call 8; refine (C2 _ b1).mono ?_; rintro e w2 ⟨rfl, b2⟩; replace b2 := Below.next b1 b2)
      | (go_at_call 9; refine (C3 _ b2).mono ?_; rintro e w3 ⟨rfl, b3⟩; replace b3 := Below.next b2 b3)
      | (go_at_call 10; refine (C4 _ b3).mono ?_; rintro e w4 ⟨rfl, b4⟩; replace b4 := Below.next b3 b4)
      | (go_at_call 11; refine (C5 _ b4).mono ?_; rintro e w5 ⟨rfl, b5⟩; replace b5 := Below.next b4 b5)
      | (go_at_call 12; refine (C6 _ b5).mono ?_; rintro e w6 ⟨rfl, b6⟩; replace b6 := Below.next b5 b6))
    go_ret
    exact ⟨rfl, b6⟩

end Go.Proofs.Yteocfkkdjejgdaa
