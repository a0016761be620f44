/- The walks of sum, product and power (cut off above a bound), choose, OnesCount. -/
import Derived.RowKit
import Derived.Test.YtjfjdidibglhaabDoorArP
import Derived.Test.YtjfjdidibglhaabDoorPBase
import Derived.Test.YtjfjdidibglhaabDoorSpQ
import Derived.Test.YtjfjdidibglhaabDoorE1
/- Rao's bound, counted. Nothing of the program. -/
/- Runs of a strength: sums of products over their columns. Nothing of the program. -/
/- Lists that are orthogonal to each other are no more than their length. Nothing of the program. -/
/- Sums of integers. Nothing of the program. -/
namespace Go.Proofs.YtjfjdidibglhaabDoor

end Go.Proofs.YtjfjdidibglhaabDoor

namespace Go.Proofs.YtjfjdidibglhaabDoor
end Go.Proofs.YtjfjdidibglhaabDoor

/- Contrasts of s levels (Helmert's): orthogonal to each other. Nothing of the program. -/
namespace Go.Proofs.YtjfjdidibglhaabDoor
end Go.Proofs.YtjfjdidibglhaabDoor

namespace Go.Proofs.YtjfjdidibglhaabDoor
end Go.Proofs.YtjfjdidibglhaabDoor

/- Rao's bound. Nothing of the program. -/
namespace Go.Proofs.YtjfjdidibglhaabDoor

end Go.Proofs.YtjfjdidibglhaabDoor

namespace Go.Proofs.YtjfjdidibglhaabDoor

end Go.Proofs.YtjfjdidibglhaabDoor

namespace Go.Proofs.YtjfjdidibglhaabDoor
open Go.RowKit

set_option maxHeartbeats 1000000 in
theorem aprod_any (a b : Nat) (w : World) (ha1 : 1 ≤ a) (ha : a ≤ 1000000000000000001) (_hb : b ≤ 1000000000000000001) (s : Nat) (hs : Hid (prO a b = s)) :
    Calls Tryd.prog 40 #[.int .i64 (a : Int), .int .i64 (b : Int)] w fun e w' => e = .returned (.int .i64 (s : Int)) ∧ w' = w := by
  · have h0 : 0 < a := ha1
    have hne : (a : Int) ≠ 0 := by omega
    obtain ⟨D, hD⟩ : ∃ D, D = 1000000000000000001 / a := ⟨_, rfl⟩
    have hq : (1000000000000000001 : Int).tdiv (a : Int) = (D : Int) := by rw [hD]; rfl
    have hDl : D ≤ 1000000000000000001 := by rw [hD]; exact Nat.div_le_self _ _
    by_cases hb2 : D < b
    · have hdb : decide ((D : Int) < (b : Int)) = true := by simp; omega
      have HS : Hid (s = 1000000000000000001) := by
        show _ = _
        rw [← hs.out]; unfold prO; rw [if_pos ⟨h0, by rw [← hD]; exact hb2⟩]
      clear hD hs
      go_enter Tryd.func40, Tryd.ntmps40
      go_wp2
      go_ret
      refine ⟨ret_int ?_, rfl⟩
      rw [HS.out]; rfl
    · have hdb : decide ((D : Int) < (b : Int)) = false := by simp; omega
      have HS : Hid (a * b = s) := by
        show _ = _
        rw [← hs.out]; unfold prO; rw [if_neg fun h => hb2 (by rw [hD]; exact h.2)]
      have hm : (a : Int) * (b : Int) = (s : Int) := by rw [← HS.out]; simp
      have hle : s ≤ 1000000000000000001 := by
        rw [← HS.out]
        have : ¬ 1000000000000000001 < a * b := fun h => hb2 (by rw [hD]; exact (gt_div h0).2 h)
        omega
      clear hD hs
      go_enter Tryd.func40, Tryd.ntmps40
      go_wp2
      go_ret
      exact ⟨rfl, rfl⟩
set_option maxHeartbeats 2000000 in
theorem apow_any (q n : Nat) (w : World) (hq1 : 1 ≤ q) (hq : q ≤ 64) (hn : n ≤ 64) (s : Nat) (hs : Hid (cO (q ^ n) = s)) :
    Calls Tryd.prog 18 #[.int .i64 (q : Int), .int .i64 (n : Int)] w fun e w' => e = .returned (.int .i64 (s : Int)) ∧ w' = w := by
  have HP : Hid (∀ i, prO (cO (q ^ i)) q = cO (q ^ (i + 1))) := fun i => by
    have := cO_pow q i
    rwa [cO_small (x := q) (by omega)] at this
  have HL : Hid (∀ i, cO (q ^ i) ≤ 1000000000000000001 ∧ 1 ≤ cO (q ^ i)) := fun i => ⟨cO_le _, by have : 0 < q ^ i := Nat.pow_pos hq1; unfold cO; omega⟩
  have H0 : Hid (cO (q ^ 0) = 1) := by show _ = _; rw [Nat.pow_zero]; rfl
  obtain ⟨f, Hf⟩ : ∃ f : Nat → Nat, Hid (∀ i, cO (q ^ i) = f i) := ⟨fun i => cO (q ^ i), fun i => rfl⟩
  simp only [Hf.out] at HP HL H0 hs
  go_enter Tryd.func18, Tryd.ntmps18
  go_wp2
  go_loopw [5, 7] (fun o iv wr => ∃ i x : Nat, iv = .int .i64 (i : Int) ∧ i ≤ n ∧ o = .int .i64 (x : Int) ∧ Hid (f i = x) ∧ wr = w) (fun _ iv _ => (n - intOf iv).toNat)
  case atStart => exact ⟨0, 1, rfl, by omega, rfl, H0, rfl⟩
  case round =>
    obtain ⟨i, x, rfl, hi, rfl, Hx, hw⟩ := hrel
    subst hw
    by_cases hlt : i < n
    · have hdi : decide ((i : Int) < (n : Int)) = true := by simp; omega
      have hii : (i : Int) < (n : Int) := by omega
      have hxl : x ≤ 1000000000000000001 := by rw [← Hx.out]; exact (HL.out i).1
      have hx1 : 1 ≤ x := by rw [← Hx.out]; exact (HL.out i).2
      have C := aprod_any x q wr hx1 hxl (by omega) (f (i + 1)) (by show _ = _; rw [← Hx.out]; exact HP.out i)
      obtain ⟨y, Hy⟩ : ∃ y, Hid (f (i + 1) = y) := ⟨_, rfl⟩
      rw [Hy.out] at C
      go_wp2_with (go_at_call 40; refine C.mono ?_; rintro e w1 ⟨rfl, rfl⟩)
      go_roundw
      case rel => exact ⟨i + 1, y, by go_num, by omega, rfl, Hy, by first | rfl | trivial⟩
      case measure => simp [intOf]; omega
    · have hdi : decide ((i : Int) < (n : Int)) = false := by simp; omega
      obtain rfl : i = n := by omega
      go_wp2
      go_ret
      refine ⟨ret_int ?_, rfl⟩
      rw [← Hx.out, hs.out]
theorem apow_small (q n : Nat) (w : World) (hq1 : 1 ≤ q) (hq : q ≤ 64) (hn : n ≤ 8) (s : Nat) (hs : Hid (q ^ n = s)) :
    Calls Tryd.prog 18 #[.int .i64 (q : Int), .int .i64 (n : Int)] w fun e w' => e = .returned (.int .i64 (s : Int)) ∧ w' = w :=
  apow_any q n w hq1 hq (by omega) s (by
    show _ = _
    rw [← hs.out]
    refine cO_small ?_
    have h1 : q ^ n ≤ 64 ^ n := Nat.pow_le_pow_left hq n
    have h2 : 64 ^ n ≤ 64 ^ 8 := Nat.pow_le_pow_right (by decide) hn
    have h3 : (64 : Nat) ^ 8 = 281474976710656 := by decide
    omega)
theorem OnesCount_any (x : Nat) (hx : x < 2 ^ 64) (w : World) :
    Calls Tryd.prog 45 #[.int .u64 (x : Int)] w fun e w' => e = .returned (.int .i64 (pc x : Int)) ∧ w' = w := by
  go_enter Tryd.func45, Tryd.ntmps45
  go_wp2_with (go_at_call 85; refine (ones_any x hx w).mono ?_; rintro e w' ⟨rfl, rfl⟩)
  go_ret
  exact ⟨rfl, rfl⟩
end Go.Proofs.YtjfjdidibglhaabDoor
