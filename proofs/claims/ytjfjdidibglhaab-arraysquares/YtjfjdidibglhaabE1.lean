/- The walks of only, below, within, size: sets as bits. -/
import Derived.Test.YtjfjdidibglhaabPBase
import Derived.Test.YtjfjdidibglhaabBOnes
import Derived.Laws.BitsAllLaws
namespace Go.Proofs.Ytjfjdidibglhaab
open Go.RowKit

theorem wrapN {x : Nat} (h : x < 2 ^ 64) : IntKind.u64.wrap (x : Int) = (x : Int) := by rw [IntKind.wrap_u64]; omega
theorem andN {x y : Nat} (hx : x < 2 ^ 64) (hy : y < 2 ^ 64) : bits .and .u64 (x : Int) (y : Int) = ((x &&& y : Nat) : Int) := bits_and_u64_nat x y hx hy
theorem orN {x y : Nat} (hx : x < 2 ^ 64) (hy : y < 2 ^ 64) : bits .or .u64 (x : Int) (y : Int) = ((x ||| y : Nat) : Int) := bits_or_u64_nat x y hx hy
theorem anN {x y : Nat} (hx : x < 2 ^ 64) (hy : y < 2 ^ 64) : bits .andNot .u64 (x : Int) (y : Int) = ((an x y : Nat) : Int) := u64_andNot_nat x y hx hy
theorem powN {p : Nat} (hp : p < 64) : IntKind.u64.wrap ((2 : Int) ^ p) = ((2 ^ p : Nat) : Int) := by
  have := wrapN (x := 2 ^ p) (pow_lt64 hp)
  rw [← this]
  congr 1

theorem mk85 : mk 85 8 = 6148914691236517205 := by decide
theorem mk51 : mk 51 8 = 3689348814741910323 := by decide
theorem mk15 : mk 15 8 = 1085102592571150095 := by decide
theorem oA_lt (x : Nat) : oA 8 x < 2 ^ 64 := by
  unfold oA
  rw [mk85]
  have h1 : (x / 2) &&& 6148914691236517205 ≤ 6148914691236517205 := Nat.and_le_right
  have h2 : x &&& 6148914691236517205 ≤ 6148914691236517205 := Nat.and_le_right
  omega
theorem oB_lt (x : Nat) : oB 8 x < 2 ^ 63 := by
  unfold oB
  rw [mk51]
  have h1 : (x / 4) &&& 3689348814741910323 ≤ 3689348814741910323 := Nat.and_le_right
  have h2 : x &&& 3689348814741910323 ≤ 3689348814741910323 := Nat.and_le_right
  omega
theorem kA {x : Nat} (hx : x < 2 ^ 64) : IntKind.u64.wrap (bits .and .u64 ((x : Int) / 2) 6148914691236517205 + bits .and .u64 (x : Int) 6148914691236517205) = ((oA 8 x : Nat) : Int) := by
  have h := oA_lt x
  have e1 : bits .and .u64 ((x : Int) / 2) 6148914691236517205 = (((x / 2) &&& 6148914691236517205 : Nat) : Int) := andN (x := x / 2) (y := 6148914691236517205) (by omega) (by omega)
  have e2 : bits .and .u64 (x : Int) 6148914691236517205 = ((x &&& 6148914691236517205 : Nat) : Int) := andN (x := x) (y := 6148914691236517205) hx (by omega)
  rw [e1, e2, ← wrapN h, ← Int.natCast_add]
  unfold oA
  rw [mk85]
theorem kB {x : Nat} (hx : x < 2 ^ 64) : IntKind.u64.wrap (bits .and .u64 ((x : Int) / 4) 3689348814741910323 + bits .and .u64 (x : Int) 3689348814741910323) = ((oB 8 x : Nat) : Int) := by
  have h := oB_lt x
  have e1 : bits .and .u64 ((x : Int) / 4) 3689348814741910323 = (((x / 4) &&& 3689348814741910323 : Nat) : Int) := andN (x := x / 4) (y := 3689348814741910323) (by omega) (by omega)
  have e2 : bits .and .u64 (x : Int) 3689348814741910323 = ((x &&& 3689348814741910323 : Nat) : Int) := andN (x := x) (y := 3689348814741910323) hx (by omega)
  rw [e1, e2, ← wrapN (show oB 8 x < 2 ^ 64 by omega), ← Int.natCast_add]
  unfold oB
  rw [mk51]
theorem kC {x : Nat} (hx : x < 2 ^ 63) : bits .and .u64 (IntKind.u64.wrap ((x : Int) / 16 + (x : Int))) 1085102592571150095 = ((oC 8 x : Nat) : Int) := by
  have e1 : IntKind.u64.wrap ((x : Int) / 16 + (x : Int)) = ((x / 16 + x : Nat) : Int) := wrapN (x := x / 16 + x) (by omega)
  have e2 : bits .and .u64 ((x / 16 + x : Nat) : Int) 1085102592571150095 = (((x / 16 + x) &&& 1085102592571150095 : Nat) : Int) := andN (x := x / 16 + x) (y := 1085102592571150095) (by omega) (by omega)
  rw [e1, e2]
  unfold oC
  rw [mk15]
set_option maxHeartbeats 1000000 in
theorem ones_any (x : Nat) (hx : x < 2 ^ 64) (w : World) :
    Calls Try.prog 27 #[.int .u64 (x : Int)] w fun e w' => e = .returned (.int .i64 (pc x : Int)) ∧ w' = w := by
  have k1 := kA hx
  obtain ⟨A, hA⟩ : ∃ A, A = oA 8 x := ⟨_, rfl⟩
  have k2 := kB (oA_lt x)
  obtain ⟨B, hB⟩ : ∃ B, B = oB 8 A := ⟨_, rfl⟩
  have k3 := kC (oB_lt A)
  obtain ⟨C, hC⟩ : ∃ C, C = oC 8 B := ⟨_, rfl⟩
  rw [← hA] at k1 k2
  rw [← hB] at k2 k3
  rw [← hC] at k3
  obtain ⟨l1, Y, hY, l2, Z, hZ, l3, U, hU, l4, hp⟩ := ones_pc (x := x) (X := C) (by rw [hC, hB, hA])
  have k4 : IntKind.u64.wrap ((C : Int) + (C : Int) / 256) = (Y : Int) := by rw [hY, IntKind.wrap_u64]; unfold oD at hY ⊢; omega
  have k5 : IntKind.u64.wrap ((Y : Int) + (Y : Int) / 65536) = (Z : Int) := by rw [hZ, IntKind.wrap_u64]; unfold oE at hZ ⊢; omega
  have k6 : IntKind.u64.wrap ((Z : Int) + (Z : Int) / 4294967296) = (U : Int) := by rw [hU, IntKind.wrap_u64]; unfold oF at hU ⊢; omega
  have k7 : bits .and .i64 (U : Int) 127 = (pc x : Int) := by
    have := bits_mask .i64 63 (by decide) (fun n h0 h1 => by simp [IntKind.wrap, IntKind.signed, IntKind.bits]; omega) 7 (by decide) U (by omega) (by omega)
    rw [← hp]
    exact this
  clear hA hB hC hY hZ hU
  go_enter Try.func27, Try.ntmps27
  go_wp2
  go_ret
  exact ⟨rfl, rfl⟩

end Go.Proofs.Ytjfjdidibglhaab
