/- The walks of sum, product and power (cut off above a bound), choose, OnesCount. -/
import Derived.Test.YtjfjdidibglhaabDoorPBase
import Derived.Test.YtjfjdidibglhaabDoorBOnes
import Derived.Laws.BitsAllLaws
import Derived.Test.YtjfjdidibglhaabDoorSpQ
import Derived.Test.YtjfjdidibglhaabDoorRaC
/- The walks of only, below, within, size: sets as bits. -/
namespace Go.Proofs.YtjfjdidibglhaabDoor
open Go.RowKit

theorem wrapN {x : Nat} (h : x < 2 ^ 64) : IntKind.u64.wrap (x : Int) = (x : Int) := by rw [IntKind.wrap_u64]; omega
theorem andN {x y : Nat} (hx : x < 2 ^ 64) (hy : y < 2 ^ 64) : bits .and .u64 (x : Int) (y : Int) = ((x &&& y : Nat) : Int) := bits_and_u64_nat x y hx hy
theorem orN {x y : Nat} (hx : x < 2 ^ 64) (hy : y < 2 ^ 64) : bits .or .u64 (x : Int) (y : Int) = ((x ||| y : Nat) : Int) := bits_or_u64_nat x y hx hy
theorem anN {x y : Nat} (hx : x < 2 ^ 64) (hy : y < 2 ^ 64) : bits .andNot .u64 (x : Int) (y : Int) = ((an x y : Nat) : Int) := u64_andNot_nat x y hx hy
theorem powN {p : Nat} (hp : p < 64) : IntKind.u64.wrap ((2 : Int) ^ p) = ((2 ^ p : Nat) : Int) := by
  have := wrapN (x := 2 ^ p) (pow_lt64 hp)
  rw [← this]
  congr 1

theorem only_any (p : Nat) (hp : p < 64) (w : World) :
    Calls Tryd.prog 109 #[.int .i64 (p : Int)] w fun e w' => e = .returned (.int .u64 ((2 ^ p : Nat) : Int)) ∧ w' = w := by
  go_enter Tryd.func109, Tryd.ntmps109
  go_wp2
  rw [powN hp]
  go_ret
  exact ⟨rfl, rfl⟩

theorem below_any (n : Nat) (hn : n < 64) (w : World) :
    Calls Tryd.prog 78 #[.int .i64 (n : Int)] w fun e w' => e = .returned (.int .u64 ((2 ^ n - 1 : Nat) : Int)) ∧ w' = w := by
  have h0 : 0 < 2 ^ n := Nat.two_pow_pos n
  have h1 : 2 ^ n < 2 ^ 64 := pow_lt64 hn
  have e : IntKind.u64.wrap (((2 ^ n : Nat) : Int) - 1) = ((2 ^ n - 1 : Nat) : Int) := by
    rw [show ((2 ^ n : Nat) : Int) - 1 = ((2 ^ n - 1 : Nat) : Int) by omega]
    exact wrapN (by omega)
  go_enter Tryd.func78, Tryd.ntmps78
  go_wp2
  rw [powN hn, e]
  go_ret
  exact ⟨rfl, rfl⟩

theorem within_any (s t : Nat) (q : Bool) (hs : s < 2 ^ 64) (ht : t < 2 ^ 64) (hq : decide (an s t = 0) = q) (w : World) :
    Calls Tryd.prog 110 #[.int .u64 (s : Int), .int .u64 (t : Int)] w fun e w' => e = .returned (.bool q) ∧ w' = w := by
  go_enter Tryd.func110, Tryd.ntmps110
  go_wp2
  rw [anN hs ht]
  go_ret
  refine ⟨ret_bool ?_, rfl⟩
  rw [← hq, Bool.eq_iff_iff]
  simp

theorem mk85 : mk 85 8 = 6148914691236517205 := by decide
theorem mk51 : mk 51 8 = 3689348814741910323 := by decide
theorem mk15 : mk 15 8 = 1085102592571150095 := by decide
theorem oA_lt (x : Nat) : oA 8 x < 2 ^ 64 := by
  unfold oA
  rw [mk85]
  have h1 : (x / 2) &&& 6148914691236517205 ≤ 6148914691236517205 := Nat.and_le_right
  have h2 : x &&& 6148914691236517205 ≤ 6148914691236517205 := Nat.and_le_right
  omega
theorem oB_lt (x : Nat) : oB 8 x < 2 ^ 63 := by
  unfold oB
  rw [mk51]
  have h1 : (x / 4) &&& 3689348814741910323 ≤ 3689348814741910323 := Nat.and_le_right
  have h2 : x &&& 3689348814741910323 ≤ 3689348814741910323 := Nat.and_le_right
  omega
theorem kA {x : Nat} (hx : x < 2 ^ 64) : IntKind.u64.wrap (bits .and .u64 ((x : Int) / 2) 6148914691236517205 + bits .and .u64 (x : Int) 6148914691236517205) = ((oA 8 x : Nat) : Int) := by
  have h := oA_lt x
  have e1 : bits .and .u64 ((x : Int) / 2) 6148914691236517205 = (((x / 2) &&& 6148914691236517205 : Nat) : Int) := andN (x := x / 2) (y := 6148914691236517205) (by omega) (by omega)
  have e2 : bits .and .u64 (x : Int) 6148914691236517205 = ((x &&& 6148914691236517205 : Nat) : Int) := andN (x := x) (y := 6148914691236517205) hx (by omega)
  rw [e1, e2, ← wrapN h, ← Int.natCast_add]
  unfold oA
  rw [mk85]
theorem kB {x : Nat} (hx : x < 2 ^ 64) : IntKind.u64.wrap (bits .and .u64 ((x : Int) / 4) 3689348814741910323 + bits .and .u64 (x : Int) 3689348814741910323) = ((oB 8 x : Nat) : Int) := by
  have h := oB_lt x
  have e1 : bits .and .u64 ((x : Int) / 4) 3689348814741910323 = (((x / 4) &&& 3689348814741910323 : Nat) : Int) := andN (x := x / 4) (y := 3689348814741910323) (by omega) (by omega)
  have e2 : bits .and .u64 (x : Int) 3689348814741910323 = ((x &&& 3689348814741910323 : Nat) : Int) := andN (x := x) (y := 3689348814741910323) hx (by omega)
  rw [e1, e2, ← wrapN (show oB 8 x < 2 ^ 64 by omega), ← Int.natCast_add]
  unfold oB
  rw [mk51]
theorem kC {x : Nat} (hx : x < 2 ^ 63) : bits .and .u64 (IntKind.u64.wrap ((x : Int) / 16 + (x : Int))) 1085102592571150095 = ((oC 8 x : Nat) : Int) := by
  have e1 : IntKind.u64.wrap ((x : Int) / 16 + (x : Int)) = ((x / 16 + x : Nat) : Int) := wrapN (x := x / 16 + x) (by omega)
  have e2 : bits .and .u64 ((x / 16 + x : Nat) : Int) 1085102592571150095 = (((x / 16 + x) &&& 1085102592571150095 : Nat) : Int) := andN (x := x / 16 + x) (y := 1085102592571150095) (by omega) (by omega)
  rw [e1, e2]
  unfold oC
  rw [mk15]
set_option maxHeartbeats 1000000 in
theorem ones_any (x : Nat) (hx : x < 2 ^ 64) (w : World) :
    Calls Tryd.prog 85 #[.int .u64 (x : Int)] w fun e w' => e = .returned (.int .i64 (pc x : Int)) ∧ w' = w := by
  have k1 := kA hx
  obtain ⟨A, hA⟩ : ∃ A, A = oA 8 x := ⟨_, rfl⟩
  have k2 := kB (oA_lt x)
  obtain ⟨B, hB⟩ : ∃ B, B = oB 8 A := ⟨_, rfl⟩
  have k3 := kC (oB_lt A)
  obtain ⟨C, hC⟩ : ∃ C, C = oC 8 B := ⟨_, rfl⟩
  rw [← hA] at k1 k2
  rw [← hB] at k2 k3
  rw [← hC] at k3
  obtain ⟨l1, Y, hY, l2, Z, hZ, l3, U, hU, l4, hp⟩ := ones_pc (x := x) (X := C) (by rw [hC, hB, hA])
  have k4 : IntKind.u64.wrap ((C : Int) + (C : Int) / 256) = (Y : Int) := by rw [hY, IntKind.wrap_u64]; unfold oD at hY ⊢; omega
  have k5 : IntKind.u64.wrap ((Y : Int) + (Y : Int) / 65536) = (Z : Int) := by rw [hZ, IntKind.wrap_u64]; unfold oE at hZ ⊢; omega
  have k6 : IntKind.u64.wrap ((Z : Int) + (Z : Int) / 4294967296) = (U : Int) := by rw [hU, IntKind.wrap_u64]; unfold oF at hU ⊢; omega
  have k7 : bits .and .i64 (U : Int) 127 = (pc x : Int) := by
    have := bits_mask .i64 63 (by decide) (fun n h0 h1 => by simp [IntKind.wrap, IntKind.signed, IntKind.bits]; omega) 7 (by decide) U (by omega) (by omega)
    rw [← hp]
    exact this
  clear hA hB hC hY hZ hU
  go_enter Tryd.func85, Tryd.ntmps85
  go_wp2
  go_ret
  exact ⟨rfl, rfl⟩

theorem size_any (x : Nat) (hx : x < 2 ^ 64) (w : World) :
    Calls Tryd.prog 76 #[.int .u64 (x : Int)] w fun e w' => e = .returned (.int .i64 (pc x : Int)) ∧ w' = w := by
  go_enter Tryd.func76, Tryd.ntmps76
  go_wp2_with (go_at_call 85; refine (ones_any x hx w).mono ?_; rintro e w' ⟨rfl, rfl⟩)
  go_ret
  exact ⟨rfl, rfl⟩
end Go.Proofs.YtjfjdidibglhaabDoor

namespace Go.Proofs.YtjfjdidibglhaabDoor
open Go.RowKit

set_option maxHeartbeats 1000000 in
theorem aprod_any (a b : Nat) (w : World) (ha1 : 1 ≤ a) (ha : a ≤ 1000000000000000001) (_hb : b ≤ 1000000000000000001) (s : Nat) (hs : Hid (prO a b = s)) :
    Calls Tryd.prog 40 #[.int .i64 (a : Int), .int .i64 (b : Int)] w fun e w' => e = .returned (.int .i64 (s : Int)) ∧ w' = w := by
  · have h0 : 0 < a := ha1
    have hne : (a : Int) ≠ 0 := by omega
    obtain ⟨D, hD⟩ : ∃ D, D = 1000000000000000001 / a := ⟨_, rfl⟩
    have hq : (1000000000000000001 : Int).tdiv (a : Int) = (D : Int) := by rw [hD]; rfl
    have hDl : D ≤ 1000000000000000001 := by rw [hD]; exact Nat.div_le_self _ _
    by_cases hb2 : D < b
    · have hdb : decide ((D : Int) < (b : Int)) = true := by simp; omega
      have HS : Hid (s = 1000000000000000001) := by
        show _ = _
        rw [← hs.out]; unfold prO; rw [if_pos ⟨h0, by rw [← hD]; exact hb2⟩]
      clear hD hs
      go_enter Tryd.func40, Tryd.ntmps40
      go_wp2
      go_ret
      refine ⟨ret_int ?_, rfl⟩
      rw [HS.out]; rfl
    · have hdb : decide ((D : Int) < (b : Int)) = false := by simp; omega
      have HS : Hid (a * b = s) := by
        show _ = _
        rw [← hs.out]; unfold prO; rw [if_neg fun h => hb2 (by rw [hD]; exact h.2)]
      have hm : (a : Int) * (b : Int) = (s : Int) := by rw [← HS.out]; simp
      have hle : s ≤ 1000000000000000001 := by
        rw [← HS.out]
        have : ¬ 1000000000000000001 < a * b := fun h => hb2 (by rw [hD]; exact (gt_div h0).2 h)
        omega
      clear hD hs
      go_enter Tryd.func40, Tryd.ntmps40
      go_wp2
      go_ret
      exact ⟨rfl, rfl⟩
set_option maxHeartbeats 2000000 in
theorem apow_any (q n : Nat) (w : World) (hq1 : 1 ≤ q) (hq : q ≤ 64) (hn : n ≤ 64) (s : Nat) (hs : Hid (cO (q ^ n) = s)) :
    Calls Tryd.prog 18 #[.int .i64 (q : Int), .int .i64 (n : Int)] w fun e w' => e = .returned (.int .i64 (s : Int)) ∧ w' = w := by
  have HP : Hid (∀ i, prO (cO (q ^ i)) q = cO (q ^ (i + 1))) := fun i => by
    have := cO_pow q i
    rwa [cO_small (x := q) (by omega)] at this
  have HL : Hid (∀ i, cO (q ^ i) ≤ 1000000000000000001 ∧ 1 ≤ cO (q ^ i)) := fun i => ⟨cO_le _, by have : 0 < q ^ i := Nat.pow_pos hq1; unfold cO; omega⟩
  have H0 : Hid (cO (q ^ 0) = 1) := by show _ = _; rw [Nat.pow_zero]; rfl
  obtain ⟨f, Hf⟩ : ∃ f : Nat → Nat, Hid (∀ i, cO (q ^ i) = f i) := ⟨fun i => cO (q ^ i), fun i => rfl⟩
  simp only [Hf.out] at HP HL H0 hs
  go_enter Tryd.func18, Tryd.ntmps18
  go_wp2
  go_loopw [5, 7] (fun o iv wr => ∃ i x : Nat, iv = .int .i64 (i : Int) ∧ i ≤ n ∧ o = .int .i64 (x : Int) ∧ Hid (f i = x) ∧ wr = w) (fun _ iv _ => (n - intOf iv).toNat)
  case atStart => exact ⟨0, 1, rfl, by omega, rfl, H0, rfl⟩
  case round =>
    obtain ⟨i, x, rfl, hi, rfl, Hx, hw⟩ := hrel
    subst hw
    by_cases hlt : i < n
    · have hdi : decide ((i : Int) < (n : Int)) = true := by simp; omega
      have hii : (i : Int) < (n : Int) := by omega
      have hxl : x ≤ 1000000000000000001 := by rw [← Hx.out]; exact (HL.out i).1
      have hx1 : 1 ≤ x := by rw [← Hx.out]; exact (HL.out i).2
      have C := aprod_any x q wr hx1 hxl (by omega) (f (i + 1)) (by show _ = _; rw [← Hx.out]; exact HP.out i)
      obtain ⟨y, Hy⟩ : ∃ y, Hid (f (i + 1) = y) := ⟨_, rfl⟩
      rw [Hy.out] at C
      go_wp2_with (go_at_call 40; refine C.mono ?_; rintro e w1 ⟨rfl, rfl⟩)
      go_roundw
      case rel => exact ⟨i + 1, y, by go_num, by omega, rfl, Hy, by first | rfl | trivial⟩
      case measure => simp [intOf]; omega
    · have hdi : decide ((i : Int) < (n : Int)) = false := by simp; omega
      obtain rfl : i = n := by omega
      go_wp2
      go_ret
      refine ⟨ret_int ?_, rfl⟩
      rw [← Hx.out, hs.out]
theorem apow_small (q n : Nat) (w : World) (hq1 : 1 ≤ q) (hq : q ≤ 64) (hn : n ≤ 8) (s : Nat) (hs : Hid (q ^ n = s)) :
    Calls Tryd.prog 18 #[.int .i64 (q : Int), .int .i64 (n : Int)] w fun e w' => e = .returned (.int .i64 (s : Int)) ∧ w' = w :=
  apow_any q n w hq1 hq (by omega) s (by
    show _ = _
    rw [← hs.out]
    refine cO_small ?_
    have h1 : q ^ n ≤ 64 ^ n := Nat.pow_le_pow_left hq n
    have h2 : 64 ^ n ≤ 64 ^ 8 := Nat.pow_le_pow_right (by decide) hn
    have h3 : (64 : Nat) ^ 8 = 281474976710656 := by decide
    omega)
theorem OnesCount_any (x : Nat) (hx : x < 2 ^ 64) (w : World) :
    Calls Tryd.prog 45 #[.int .u64 (x : Int)] w fun e w' => e = .returned (.int .i64 (pc x : Int)) ∧ w' = w := by
  go_enter Tryd.func45, Tryd.ntmps45
  go_wp2_with (go_at_call 85; refine (ones_any x hx w).mono ?_; rintro e w' ⟨rfl, rfl⟩)
  go_ret
  exact ⟨rfl, rfl⟩
end Go.Proofs.YtjfjdidibglhaabDoor
