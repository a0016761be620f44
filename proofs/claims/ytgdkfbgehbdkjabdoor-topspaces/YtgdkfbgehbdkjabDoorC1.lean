/- The walks of the program's sum, product and power: cut off above a bound. -/
import Derived.Test.YtgdkfbgehbdkjabDoorSpG
import Derived.Test.YtgdkfbgehbdkjabDoorPBase
/- Gauss's numbers as they are counted: cut off above a bound (the program), and -1 above it (the document); nothing of the program. -/
namespace Go.Proofs.YtgdkfbgehbdkjabDoor

/-- Cut off. -/
def cO (x : Nat) : Nat := min x 1000000000000000001
theorem cO_le (x : Nat) : cO x ≤ 1000000000000000001 := Nat.min_le_right _ _
theorem cO_sum (a b : Nat) : min (cO a + cO b) 1000000000000000001 = cO (a + b) := by unfold cO; omega
theorem cO_big {x : Nat} : 1000000000000000000 < cO x ↔ 1000000000000000000 < x := by unfold cO; omega
theorem cO_small {x : Nat} (h : x ≤ 1000000000000000000) : cO x = x := by unfold cO; omega
theorem gt_div {a b n : Nat} (ha : 0 < a) : n / a < b ↔ n < a * b := by rw [Nat.div_lt_iff_lt_mul ha, Nat.mul_comm]
theorem cO_prod (a b : Nat) : cO (cO a * cO b) = cO (a * b) := by
  unfold cO
  by_cases ha : a ≤ 1000000000000000001
  · rw [Nat.min_eq_left ha]
    by_cases hb : b ≤ 1000000000000000001
    · rw [Nat.min_eq_left hb]
    · rw [Nat.min_eq_right (show 1000000000000000001 ≤ b by omega)]
      rcases Nat.eq_zero_or_pos a with e | e
      · subst e; simp
      · have h1 : 1000000000000000001 ≤ a * 1000000000000000001 := Nat.le_mul_of_pos_left _ e
        have h2 : b ≤ a * b := Nat.le_mul_of_pos_left _ e
        omega
  · rw [Nat.min_eq_right (by omega : 1000000000000000001 ≤ a)]
    rcases Nat.eq_zero_or_pos b with e | e
    · subst e; simp
    · have h0 : 0 < min b 1000000000000000001 := by omega
      have h1 : 1000000000000000001 ≤ 1000000000000000001 * min b 1000000000000000001 := Nat.le_mul_of_pos_right _ h0
      have h2 : a ≤ a * b := Nat.le_mul_of_pos_right _ e
      omega
/-- The program's product. -/
def prO (a b : Nat) : Nat := if 0 < a ∧ 1000000000000000001 / a < b then 1000000000000000001 else a * b
theorem prO_is (a b : Nat) : prO a b = cO (a * b) := by
  unfold prO cO
  by_cases h : 0 < a ∧ 1000000000000000001 / a < b
  · rw [if_pos h]
    have := (gt_div h.1).1 h.2
    omega
  · rw [if_neg h]
    rcases Nat.eq_zero_or_pos a with e | e
    · subst e; simp
    · have : ¬ 1000000000000000001 < a * b := fun k => h ⟨e, (gt_div e).2 k⟩
      omega
theorem prO_cO (a b : Nat) : prO (cO a) (cO b) = cO (a * b) := by rw [prO_is, cO_prod]
/-- The document's: -1 above the bound. -/
def upS (x : Nat) : Int := if x ≤ 1000000000000000000 then (x : Int) else -1
theorem upS_neg {x : Nat} : upS x < 0 ↔ 1000000000000000000 < x := by unfold upS; split <;> omega
theorem upS_nonneg {x : Nat} : 0 ≤ upS x ↔ x ≤ 1000000000000000000 := by unfold upS; split <;> omega
theorem upS_le (x : Nat) : -1 ≤ upS x ∧ upS x ≤ 1000000000000000000 := by unfold upS; split <;> omega
theorem upS_small {x : Nat} (h : x ≤ 1000000000000000000) : upS x = x := by unfold upS; rw [if_pos h]
theorem upS_big {x : Nat} (h : 1000000000000000000 < x) : upS x = -1 := by unfold upS; rw [if_neg (by omega)]
theorem upS_big_mul {a b : Nat} (hb : 1 ≤ b) (h : 1000000000000000000 < a) : 1000000000000000000 < a * b := Nat.lt_of_lt_of_le h (Nat.le_mul_of_pos_right _ hb)
/-- What the program has in counts. -/
def cnG (q m i : Nat) : Nat := cO (gs q m i)
theorem cnG_step (q m i : Nat) : min (prO (cO (q ^ (i + 1))) (cnG q m (i + 1)) + cnG q m i) 1000000000000000001 = cnG q (m + 1) (i + 1) := by
  unfold cnG
  rw [prO_cO, cO_sum, gs_succ]
theorem cO_pow (q i : Nat) : prO (cO (q ^ i)) (cO q) = cO (q ^ (i + 1)) := by rw [prO_cO, Nat.pow_succ]
end Go.Proofs.YtgdkfbgehbdkjabDoor

namespace Go.Proofs.YtgdkfbgehbdkjabDoor
open Go.RowKit

set_option maxHeartbeats 1000000 in
theorem sum_any (a b : Nat) (w : World) (ha : a ≤ 1000000000000000001) (hb : b ≤ 1000000000000000001) (s : Nat) (hs : Hid (min (a + b) 1000000000000000001 = s)) :
    Calls Tryd.prog 41 #[.int .i64 (a : Int), .int .i64 (b : Int)] w fun e w' => e = .returned (.int .i64 (s : Int)) ∧ w' = w := by
  go_enter Tryd.func41, Tryd.ntmps41
  go_wp2
  · go_ret
    refine ⟨ret_int ?_, rfl⟩
    rw [← hs.out]
    omega
  · go_ret
    refine ⟨ret_int ?_, rfl⟩
    rw [← hs.out]
    omega
set_option maxHeartbeats 1000000 in
theorem product_any (a b : Nat) (w : World) (ha : a ≤ 1000000000000000001) (_hb : b ≤ 1000000000000000001) (s : Nat) (hs : Hid (prO a b = s)) :
    Calls Tryd.prog 42 #[.int .i64 (a : Int), .int .i64 (b : Int)] w fun e w' => e = .returned (.int .i64 (s : Int)) ∧ w' = w := by
  rcases Nat.eq_zero_or_pos a with h0 | h0
  · subst h0
    go_enter Tryd.func42, Tryd.ntmps42
    go_wp2
    go_ret
    refine ⟨ret_int ?_, rfl⟩
    rw [← hs.out]
    simp [prO]
  · have hd0 : decide ((0 : Int) < (a : Int)) = true := by simp; omega
    have hne : (a : Int) ≠ 0 := by omega
    obtain ⟨D, hD⟩ : ∃ D, D = 1000000000000000001 / a := ⟨_, rfl⟩
    have hq : (1000000000000000001 : Int).tdiv (a : Int) = (D : Int) := by rw [hD]; rfl
    have hDl : D ≤ 1000000000000000001 := by rw [hD]; exact Nat.div_le_self _ _
    by_cases hb2 : D < b
    · have hdb : decide ((D : Int) < (b : Int)) = true := by simp; omega
      have HS : Hid (s = 1000000000000000001) := by
        show _ = _
        rw [← hs.out]; unfold prO; rw [if_pos ⟨h0, by rw [← hD]; exact hb2⟩]
      clear hD hs
      go_enter Tryd.func42, Tryd.ntmps42
      go_wp2
      go_ret
      refine ⟨ret_int ?_, rfl⟩
      rw [HS.out]; rfl
    · have hdb : decide ((D : Int) < (b : Int)) = false := by simp; omega
      have HS : Hid (a * b = s) := by
        show _ = _
        rw [← hs.out]; unfold prO; rw [if_neg fun h => hb2 (by rw [hD]; exact h.2)]
      have hm : (a : Int) * (b : Int) = (s : Int) := by rw [← HS.out]; simp
      have hle : s ≤ 1000000000000000001 := by
        rw [← HS.out]
        have : ¬ 1000000000000000001 < a * b := fun h => hb2 (by rw [hD]; exact (gt_div h0).2 h)
        omega
      clear hD hs
      go_enter Tryd.func42, Tryd.ntmps42
      go_wp2
      go_ret
      exact ⟨rfl, rfl⟩
set_option maxHeartbeats 2000000 in
theorem power_any (q n : Nat) (w : World) (hq : q ≤ 64) (hn : n ≤ 64) (s : Nat) (hs : Hid (cO (q ^ n) = s)) :
    Calls Tryd.prog 43 #[.int .i64 (q : Int), .int .i64 (n : Int)] w fun e w' => e = .returned (.int .i64 (s : Int)) ∧ w' = w := by
  have HP : Hid (∀ i, prO (cO (q ^ i)) q = cO (q ^ (i + 1))) := fun i => by
    have := cO_pow q i
    rwa [cO_small (x := q) (by omega)] at this
  have HL : Hid (∀ i, cO (q ^ i) ≤ 1000000000000000001) := fun i => cO_le _
  have H0 : Hid (cO (q ^ 0) = 1) := by show _ = _; rw [Nat.pow_zero]; rfl
  obtain ⟨f, Hf⟩ : ∃ f : Nat → Nat, Hid (∀ i, cO (q ^ i) = f i) := ⟨fun i => cO (q ^ i), fun i => rfl⟩
  simp only [Hf.out] at HP HL H0 hs
  go_enter Tryd.func43, Tryd.ntmps43
  go_wp2
  go_loopw [5, 7] (fun o iv wr => ∃ i x : Nat, iv = .int .i64 (i : Int) ∧ i ≤ n ∧ o = .int .i64 (x : Int) ∧ Hid (f i = x) ∧ wr = w) (fun _ iv _ => (n - intOf iv).toNat)
  case atStart => exact ⟨0, 1, rfl, by omega, rfl, H0, rfl⟩
  case round =>
    obtain ⟨i, x, rfl, hi, rfl, Hx, hw⟩ := hrel
    subst hw
    by_cases hlt : i < n
    · have hdi : decide ((i : Int) < (n : Int)) = true := by simp; omega
      have hii : (i : Int) < (n : Int) := by omega
      have hxl : x ≤ 1000000000000000001 := by rw [← Hx.out]; exact HL.out i
      have C := product_any x q wr hxl (by omega) (f (i + 1)) (by show _ = _; rw [← Hx.out]; exact HP.out i)
      obtain ⟨y, Hy⟩ : ∃ y, Hid (f (i + 1) = y) := ⟨_, rfl⟩
      rw [Hy.out] at C
      go_wp2_with (go_at_call 42; refine C.mono ?_; rintro e w1 ⟨rfl, rfl⟩)
      go_roundw
      case rel => exact ⟨i + 1, y, by go_num, by omega, rfl, Hy, by first | rfl | trivial⟩
      case measure => simp [intOf]; omega
    · have hdi : decide ((i : Int) < (n : Int)) = false := by simp; omega
      obtain rfl : i = n := by omega
      go_wp2
      go_ret
      refine ⟨ret_int ?_, rfl⟩
      rw [← Hx.out, hs.out]
end Go.Proofs.YtgdkfbgehbdkjabDoor
