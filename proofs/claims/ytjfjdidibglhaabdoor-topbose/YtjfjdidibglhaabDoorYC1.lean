/- The walks of the program's sum, product and power: cut off above a bound. -/
import Derived.Test.YtjfjdidibglhaabDoorPBase
import Derived.Test.YtjfjdidibglhaabDoorSpQ
namespace Go.Proofs.YtjfjdidibglhaabDoor
open Go.RowKit

set_option maxHeartbeats 1000000 in
theorem product_any (a b : Nat) (w : World) (ha : a ≤ 1000000000000000001) (_hb : b ≤ 1000000000000000001) (s : Nat) (hs : Hid (prO a b = s)) :
    Calls Tryd.prog 87 #[.int .i64 (a : Int), .int .i64 (b : Int)] w fun e w' => e = .returned (.int .i64 (s : Int)) ∧ w' = w := by
  rcases Nat.eq_zero_or_pos a with h0 | h0
  · subst h0
    go_enter Tryd.func87, Tryd.ntmps87
    go_wp2
    go_ret
    refine ⟨ret_int ?_, rfl⟩
    rw [← hs.out]
    simp [prO]
  · have hd0 : decide ((0 : Int) < (a : Int)) = true := by simp; omega
    have hne : (a : Int) ≠ 0 := by omega
    obtain ⟨D, hD⟩ : ∃ D, D = 1000000000000000001 / a := ⟨_, rfl⟩
    have hq : (1000000000000000001 : Int).tdiv (a : Int) = (D : Int) := by rw [hD]; rfl
    have hDl : D ≤ 1000000000000000001 := by rw [hD]; exact Nat.div_le_self _ _
    by_cases hb2 : D < b
    · have hdb : decide ((D : Int) < (b : Int)) = true := by simp; omega
      have HS : Hid (s = 1000000000000000001) := by
        show _ = _
        rw [← hs.out]; unfold prO; rw [if_pos ⟨h0, by rw [← hD]; exact hb2⟩]
      clear hD hs
      go_enter Tryd.func87, Tryd.ntmps87
      go_wp2
      go_ret
      refine ⟨ret_int ?_, rfl⟩
      rw [HS.out]; rfl
    · have hdb : decide ((D : Int) < (b : Int)) = false := by simp; omega
      have HS : Hid (a * b = s) := by
        show _ = _
        rw [← hs.out]; unfold prO; rw [if_neg fun h => hb2 (by rw [hD]; exact h.2)]
      have hm : (a : Int) * (b : Int) = (s : Int) := by rw [← HS.out]; simp
      have hle : s ≤ 1000000000000000001 := by
        rw [← HS.out]
        have : ¬ 1000000000000000001 < a * b := fun h => hb2 (by rw [hD]; exact (gt_div h0).2 h)
        omega
      clear hD hs
      go_enter Tryd.func87, Tryd.ntmps87
      go_wp2
      go_ret
      exact ⟨rfl, rfl⟩
set_option maxHeartbeats 2000000 in
theorem power_any (q n : Nat) (w : World) (hq : q ≤ 64) (hn : n ≤ 64) (s : Nat) (hs : Hid (cO (q ^ n) = s)) :
    Calls Tryd.prog 48 #[.int .i64 (q : Int), .int .i64 (n : Int)] w fun e w' => e = .returned (.int .i64 (s : Int)) ∧ w' = w := by
  have HP : Hid (∀ i, prO (cO (q ^ i)) q = cO (q ^ (i + 1))) := fun i => by
    have := cO_pow q i
    rwa [cO_small (x := q) (by omega)] at this
  have HL : Hid (∀ i, cO (q ^ i) ≤ 1000000000000000001) := fun i => cO_le _
  have H0 : Hid (cO (q ^ 0) = 1) := by show _ = _; rw [Nat.pow_zero]; rfl
  obtain ⟨f, Hf⟩ : ∃ f : Nat → Nat, Hid (∀ i, cO (q ^ i) = f i) := ⟨fun i => cO (q ^ i), fun i => rfl⟩
  simp only [Hf.out] at HP HL H0 hs
  go_enter Tryd.func48, Tryd.ntmps48
  go_wp2
  go_loopw [5, 7] (fun o iv wr => ∃ i x : Nat, iv = .int .i64 (i : Int) ∧ i ≤ n ∧ o = .int .i64 (x : Int) ∧ Hid (f i = x) ∧ wr = w) (fun _ iv _ => (n - intOf iv).toNat)
  case atStart => exact ⟨0, 1, rfl, by omega, rfl, H0, rfl⟩
  case round =>
    obtain ⟨i, x, rfl, hi, rfl, Hx, hw⟩ := hrel
    subst hw
    by_cases hlt : i < n
    · have hdi : decide ((i : Int) < (n : Int)) = true := by simp; omega
      have hii : (i : Int) < (n : Int) := by omega
      have hxl : x ≤ 1000000000000000001 := by rw [← Hx.out]; exact HL.out i
      have C := product_any x q wr hxl (by omega) (f (i + 1)) (by show _ = _; rw [← Hx.out]; exact HP.out i)
      obtain ⟨y, Hy⟩ : ∃ y, Hid (f (i + 1) = y) := ⟨_, rfl⟩
      rw [Hy.out] at C
      go_wp2_with (go_at_call 87; refine C.mono ?_; rintro e w1 ⟨rfl, rfl⟩)
      go_roundw
      case rel => exact ⟨i + 1, y, by go_num, by omega, rfl, Hy, by first | rfl | trivial⟩
      case measure => simp [intOf]; omega
    · have hdi : decide ((i : Int) < (n : Int)) = false := by simp; omega
      obtain rfl : i = n := by omega
      go_wp2
      go_ret
      refine ⟨ret_int ?_, rfl⟩
      rw [← Hx.out, hs.out]
end Go.Proofs.YtjfjdidibglhaabDoor
