/- The walks of only, below, within, size: sets as bits. -/
import Derived.Test.YtjfjdidibglhaabDoorBPure
import Derived.Test.YtjfjdidibglhaabDoorPBase
import Derived.Laws.BitsAllLaws
/- How many bits a number has, as math/bits counts them: nothing of the program. -/
namespace Go.Proofs.YtjfjdidibglhaabDoor

theorem and_split {y c d : Nat} (hd : d < 256) : y &&& (c * 256 + d) = ((y / 256) &&& c) * 256 + ((y % 256) &&& d) := by
  have e1 : y = 2 ^ 8 * (y / 256) + y % 256 := by omega
  have e2 : c * 256 + d = 2 ^ 8 * c + d := by omega
  have e3 : ((y / 256) &&& c) * 256 + ((y % 256) &&& d) = 2 ^ 8 * ((y / 256) &&& c) + ((y % 256) &&& d) := by rw [Nat.mul_comm]
  have h1 : y % 256 < 2 ^ 8 := by omega
  have h2 : (y % 256) &&& d < 2 ^ 8 := Nat.lt_of_le_of_lt (Nat.and_le_left (n := y % 256) (m := d)) h1
  rw [e2, e3]
  refine Nat.eq_of_testBit_eq fun i => ?_
  rw [Nat.testBit_and, Nat.testBit_two_pow_mul_add _ hd, Nat.testBit_two_pow_mul_add _ h2]
  conv => lhs; lhs; rw [e1]
  rw [Nat.testBit_two_pow_mul_add _ h1]
  split <;> rw [Nat.testBit_and]

def mk (d : Nat) : Nat → Nat
  | 0 => 0
  | n + 1 => mk d n * 256 + d
def oA (n x : Nat) : Nat := ((x / 2) &&& mk 85 n) + (x &&& mk 85 n)
def oB (n x : Nat) : Nat := ((x / 4) &&& mk 51 n) + (x &&& mk 51 n)
def oC (n x : Nat) : Nat := (x / 16 + x) &&& mk 15 n
def bA (b : Nat) : Nat := ((b / 2) &&& 85) + (b &&& 85)
def bB (b : Nat) : Nat := ((b / 4) &&& 51) + (b &&& 51)
def bC (b : Nat) : Nat := (b / 16 + b) &&& 15
theorem half_in : ∀ z : Fin 512, (z.val / 2) &&& 85 = ((z.val % 256) / 2) &&& 85 := by decide +kernel
theorem quar_in : ∀ z : Fin 1024, (z.val / 4) &&& 51 = ((z.val % 256) / 4) &&& 51 := by decide +kernel
theorem bA_lt : ∀ z : Fin 256, bA z.val < 256 := by decide +kernel
theorem bB_lt : ∀ z : Fin 256, bB z.val ≤ 102 := by decide +kernel
theorem low_in : ∀ z : Fin 256, z.val &&& 15 = z.val % 16 := by decide +kernel
theorem oA_split (n x : Nat) : oA (n + 1) x = oA n (x / 256) * 256 + bA (x % 256) := by
  have h1 := half_in ⟨x % 512, by omega⟩
  dsimp only at h1
  rw [show x % 512 / 2 = x / 2 % 256 by omega, show x % 512 % 256 = x % 256 by omega] at h1
  unfold oA bA
  rw [show mk 85 (n + 1) = mk 85 n * 256 + 85 from rfl, and_split (by decide), and_split (y := x) (by decide), h1, show x / 2 / 256 = x / 256 / 2 by omega]
  omega
theorem oB_split (n x : Nat) : oB (n + 1) x = oB n (x / 256) * 256 + bB (x % 256) := by
  have h1 := quar_in ⟨x % 1024, by omega⟩
  dsimp only at h1
  rw [show x % 1024 / 4 = x / 4 % 256 by omega, show x % 1024 % 256 = x % 256 by omega] at h1
  unfold oB bB
  rw [show mk 51 (n + 1) = mk 51 n * 256 + 51 from rfl, and_split (by decide), and_split (y := x) (by decide), h1, show x / 4 / 256 = x / 256 / 4 by omega]
  omega
theorem oB_low (n x : Nat) : oB n x % 16 ≤ 6 := by
  cases n with
  | zero => unfold oB mk; simp
  | succ n =>
    rw [oB_split]
    have : ∀ z : Fin 256, bB z.val % 16 ≤ 6 := by decide +kernel
    have := this ⟨x % 256, by omega⟩
    dsimp only at this
    omega
theorem oC_split {n a b : Nat} (ha : a % 16 ≤ 6) (hb : b ≤ 102) : oC (n + 1) (a * 256 + b) = oC n a * 256 + bC b := by
  unfold oC bC
  rw [show mk 15 (n + 1) = mk 15 n * 256 + 15 from rfl, and_split (by decide)]
  have e1 : ((a * 256 + b) / 16 + (a * 256 + b)) / 256 = a / 16 + a := by omega
  have e2 : ((a * 256 + b) / 16 + (a * 256 + b)) % 256 = a % 16 * 16 + (b / 16 + b) := by omega
  have l1 := low_in ⟨a % 16 * 16 + (b / 16 + b), by omega⟩
  have l2 := low_in ⟨b / 16 + b, by omega⟩
  dsimp only at l1 l2
  rw [e1, e2, l1, l2]
  omega
def pop8 (b : Nat) : Nat := (List.range 8).countP fun i => b.testBit i
theorem pop8_is : ∀ z : Fin 256, bC (bB (bA z.val)) = pop8 z.val ∧ pop8 z.val ≤ 8 := by decide +kernel
def dig : Nat → Nat → Nat
  | 0, _ => 0
  | n + 1, x => dig n (x / 256) * 256 + pop8 (x % 256)
def sdig : Nat → Nat → Nat
  | 0, _ => 0
  | n + 1, x => sdig n (x / 256) + pop8 (x % 256)
theorem o_dig : ∀ n x, oC n (oB n (oA n x)) = dig n x
  | 0, x => by unfold oC mk dig; simp
  | n + 1, x => by
    have hx : x % 256 < 256 := by omega
    have h1 := bA_lt ⟨x % 256, hx⟩
    dsimp only at h1
    have h2 := bB_lt ⟨bA (x % 256), h1⟩
    dsimp only at h2
    have h3 := pop8_is ⟨x % 256, hx⟩
    dsimp only at h3
    rw [oA_split, oB_split]
    have e1 : (oA n (x / 256) * 256 + bA (x % 256)) / 256 = oA n (x / 256) := by omega
    have e2 : (oA n (x / 256) * 256 + bA (x % 256)) % 256 = bA (x % 256) := by omega
    rw [e1, e2, oC_split (oB_low _ _) h2, o_dig n, h3.1]
    rfl
theorem c_dig : ∀ n x, ((List.range (8 * n)).countP fun i => x.testBit i) = sdig n x
  | 0, x => rfl
  | n + 1, x => by
    rw [show 8 * (n + 1) = 8 + 8 * n by omega, List.range_add, List.countP_append, List.countP_map]
    unfold sdig
    rw [← c_dig n (x / 256), Nat.add_comm]
    have e : x = 2 ^ 8 * (x / 256) + x % 256 := by omega
    have h1 : x % 256 < 2 ^ 8 := by omega
    congr 1
    · refine List.countP_congr fun i _ => ?_
      simp only [Function.comp]
      conv => lhs; rw [e]
      rw [Nat.testBit_two_pow_mul_add _ h1, if_neg (by omega), show 8 + i - 8 = i by omega]
    · unfold pop8
      refine List.countP_congr fun i hi => ?_
      have := List.mem_range.1 hi
      conv => lhs; rw [e]
      rw [Nat.testBit_two_pow_mul_add _ h1, if_pos this]
theorem pc_is (x : Nat) : pc x = sdig 8 x := by
  rw [← c_dig 8 x]
  unfold pc pts
  rw [List.countP_eq_length_filter]
theorem pc_le (x : Nat) : pc x ≤ 64 := by
  unfold pc pts
  refine Nat.le_trans (List.length_filter_le _ _) (by simp)
/-- The last three steps. -/
def oD (x : Nat) : Nat := x + x / 256
def oE (x : Nat) : Nat := x + x / 65536
def oF (x : Nat) : Nat := x + x / 4294967296
theorem ones_last {c0 c1 c2 c3 c4 c5 c6 c7 X : Nat} (l0 : c0 ≤ 8) (l1 : c1 ≤ 8) (l2 : c2 ≤ 8) (l3 : c3 ≤ 8) (l4 : c4 ≤ 8) (l5 : c5 ≤ 8) (l6 : c6 ≤ 8) (l7 : c7 ≤ 8)
    (hX : X = (((((((c7 * 256 + c6) * 256 + c5) * 256 + c4) * 256 + c3) * 256 + c2) * 256 + c1) * 256 + c0)) :
    X < 1000000000000000000 ∧ ∃ Y, Y = oD X ∧ Y < 2000000000000000000 ∧ ∃ Z, Z = oE Y ∧ Z < 4000000000000000000 ∧ ∃ U, U = oF Z ∧ U < 8000000000000000000 ∧ U % 128 = c7 + c6 + c5 + c4 + c3 + c2 + c1 + c0 := by
  have e1 : X / 256 = ((((((c7 * 256 + c6) * 256 + c5) * 256 + c4) * 256 + c3) * 256 + c2) * 256 + c1) := by omega
  refine ⟨by omega, _, rfl, ?_⟩
  obtain ⟨Y, hY⟩ : ∃ Y, Y = oD X := ⟨_, rfl⟩
  have eY : Y = (((((((c7 * 256 + (c6 + c7)) * 256 + (c5 + c6)) * 256 + (c4 + c5)) * 256 + (c3 + c4)) * 256 + (c2 + c3)) * 256 + (c1 + c2)) * 256 + (c0 + c1)) := by
    rw [hY]; unfold oD; rw [e1]; omega
  rw [← hY]
  clear e1 hX hY
  have e2 : Y / 65536 = (((((c7 * 256 + (c6 + c7)) * 256 + (c5 + c6)) * 256 + (c4 + c5)) * 256 + (c3 + c4)) * 256 + (c2 + c3)) := by omega
  refine ⟨by omega, _, rfl, ?_⟩
  obtain ⟨Z, hZ⟩ : ∃ Z, Z = oE Y := ⟨_, rfl⟩
  have eZ : Z = (((((((c7 * 256 + (c6 + c7)) * 256 + (c5 + c6 + c7)) * 256 + (c4 + c5 + c6 + c7)) * 256 + (c3 + c4 + c5 + c6)) * 256 + (c2 + c3 + c4 + c5)) * 256 + (c1 + c2 + c3 + c4)) * 256 + (c0 + c1 + c2 + c3)) := by
    rw [hZ]; unfold oE; rw [e2]; omega
  rw [← hZ]
  clear e2 eY hZ
  have e3 : Z / 4294967296 = (((c7 * 256 + (c6 + c7)) * 256 + (c5 + c6 + c7)) * 256 + (c4 + c5 + c6 + c7)) := by omega
  refine ⟨by omega, _, rfl, ?_⟩
  unfold oF
  rw [e3]
  clear e3
  exact ⟨by omega, by omega⟩
theorem ones_pc {x X : Nat} (hx : X = oC 8 (oB 8 (oA 8 x))) :
    X < 1000000000000000000 ∧ ∃ Y, Y = oD X ∧ Y < 2000000000000000000 ∧ ∃ Z, Z = oE Y ∧ Z < 4000000000000000000 ∧ ∃ U, U = oF Z ∧ U < 8000000000000000000 ∧ U % 128 = pc x := by
  rw [o_dig] at hx
  rw [pc_is]
  have p : ∀ y : Nat, pop8 (y % 256) ≤ 8 := fun y => (pop8_is ⟨y % 256, Nat.mod_lt _ (by decide)⟩).2
  refine ones_last (p x) (p (x / 256)) (p (x / 256 / 256)) (p (x / 256 / 256 / 256)) (p (x / 256 / 256 / 256 / 256)) (p (x / 256 / 256 / 256 / 256 / 256)) (p (x / 256 / 256 / 256 / 256 / 256 / 256)) (p (x / 256 / 256 / 256 / 256 / 256 / 256 / 256)) ?_ |>.imp_right ?_
  · rw [hx]; simp only [dig, Nat.zero_mul, Nat.zero_add]
  · simp only [sdig, Nat.zero_add]
    exact id

end Go.Proofs.YtjfjdidibglhaabDoor

namespace Go.Proofs.YtjfjdidibglhaabDoor
open Go.RowKit

theorem wrapN {x : Nat} (h : x < 2 ^ 64) : IntKind.u64.wrap (x : Int) = (x : Int) := by rw [IntKind.wrap_u64]; omega
theorem andN {x y : Nat} (hx : x < 2 ^ 64) (hy : y < 2 ^ 64) : bits .and .u64 (x : Int) (y : Int) = ((x &&& y : Nat) : Int) := bits_and_u64_nat x y hx hy
theorem orN {x y : Nat} (hx : x < 2 ^ 64) (hy : y < 2 ^ 64) : bits .or .u64 (x : Int) (y : Int) = ((x ||| y : Nat) : Int) := bits_or_u64_nat x y hx hy
theorem anN {x y : Nat} (hx : x < 2 ^ 64) (hy : y < 2 ^ 64) : bits .andNot .u64 (x : Int) (y : Int) = ((an x y : Nat) : Int) := u64_andNot_nat x y hx hy
theorem powN {p : Nat} (hp : p < 64) : IntKind.u64.wrap ((2 : Int) ^ p) = ((2 ^ p : Nat) : Int) := by
  have := wrapN (x := 2 ^ p) (pow_lt64 hp)
  rw [← this]
  congr 1

theorem only_any (p : Nat) (hp : p < 64) (w : World) :
    Calls Tryd.prog 109 #[.int .i64 (p : Int)] w fun e w' => e = .returned (.int .u64 ((2 ^ p : Nat) : Int)) ∧ w' = w := by
  go_enter Tryd.func109, Tryd.ntmps109
  go_wp2
  rw [powN hp]
  go_ret
  exact ⟨rfl, rfl⟩

theorem below_any (n : Nat) (hn : n < 64) (w : World) :
    Calls Tryd.prog 78 #[.int .i64 (n : Int)] w fun e w' => e = .returned (.int .u64 ((2 ^ n - 1 : Nat) : Int)) ∧ w' = w := by
  have h0 : 0 < 2 ^ n := Nat.two_pow_pos n
  have h1 : 2 ^ n < 2 ^ 64 := pow_lt64 hn
  have e : IntKind.u64.wrap (((2 ^ n : Nat) : Int) - 1) = ((2 ^ n - 1 : Nat) : Int) := by
    rw [show ((2 ^ n : Nat) : Int) - 1 = ((2 ^ n - 1 : Nat) : Int) by omega]
    exact wrapN (by omega)
  go_enter Tryd.func78, Tryd.ntmps78
  go_wp2
  rw [powN hn, e]
  go_ret
  exact ⟨rfl, rfl⟩

theorem within_any (s t : Nat) (q : Bool) (hs : s < 2 ^ 64) (ht : t < 2 ^ 64) (hq : decide (an s t = 0) = q) (w : World) :
    Calls Tryd.prog 110 #[.int .u64 (s : Int), .int .u64 (t : Int)] w fun e w' => e = .returned (.bool q) ∧ w' = w := by
  go_enter Tryd.func110, Tryd.ntmps110
  go_wp2
  rw [anN hs ht]
  go_ret
  refine ⟨ret_bool ?_, rfl⟩
  rw [← hq, Bool.eq_iff_iff]
  simp

theorem mk85 : mk 85 8 = 6148914691236517205 := by decide
theorem mk51 : mk 51 8 = 3689348814741910323 := by decide
theorem mk15 : mk 15 8 = 1085102592571150095 := by decide
theorem oA_lt (x : Nat) : oA 8 x < 2 ^ 64 := by
  unfold oA
  rw [mk85]
  have h1 : (x / 2) &&& 6148914691236517205 ≤ 6148914691236517205 := Nat.and_le_right
  have h2 : x &&& 6148914691236517205 ≤ 6148914691236517205 := Nat.and_le_right
  omega
theorem oB_lt (x : Nat) : oB 8 x < 2 ^ 63 := by
  unfold oB
  rw [mk51]
  have h1 : (x / 4) &&& 3689348814741910323 ≤ 3689348814741910323 := Nat.and_le_right
  have h2 : x &&& 3689348814741910323 ≤ 3689348814741910323 := Nat.and_le_right
  omega
theorem kA {x : Nat} (hx : x < 2 ^ 64) : IntKind.u64.wrap (bits .and .u64 ((x : Int) / 2) 6148914691236517205 + bits .and .u64 (x : Int) 6148914691236517205) = ((oA 8 x : Nat) : Int) := by
  have h := oA_lt x
  have e1 : bits .and .u64 ((x : Int) / 2) 6148914691236517205 = (((x / 2) &&& 6148914691236517205 : Nat) : Int) := andN (x := x / 2) (y := 6148914691236517205) (by omega) (by omega)
  have e2 : bits .and .u64 (x : Int) 6148914691236517205 = ((x &&& 6148914691236517205 : Nat) : Int) := andN (x := x) (y := 6148914691236517205) hx (by omega)
  rw [e1, e2, ← wrapN h, ← Int.natCast_add]
  unfold oA
  rw [mk85]
theorem kB {x : Nat} (hx : x < 2 ^ 64) : IntKind.u64.wrap (bits .and .u64 ((x : Int) / 4) 3689348814741910323 + bits .and .u64 (x : Int) 3689348814741910323) = ((oB 8 x : Nat) : Int) := by
  have h := oB_lt x
  have e1 : bits .and .u64 ((x : Int) / 4) 3689348814741910323 = (((x / 4) &&& 3689348814741910323 : Nat) : Int) := andN (x := x / 4) (y := 3689348814741910323) (by omega) (by omega)
  have e2 : bits .and .u64 (x : Int) 3689348814741910323 = ((x &&& 3689348814741910323 : Nat) : Int) := andN (x := x) (y := 3689348814741910323) hx (by omega)
  rw [e1, e2, ← wrapN (show oB 8 x < 2 ^ 64 by omega), ← Int.natCast_add]
  unfold oB
  rw [mk51]
theorem kC {x : Nat} (hx : x < 2 ^ 63) : bits .and .u64 (IntKind.u64.wrap ((x : Int) / 16 + (x : Int))) 1085102592571150095 = ((oC 8 x : Nat) : Int) := by
  have e1 : IntKind.u64.wrap ((x : Int) / 16 + (x : Int)) = ((x / 16 + x : Nat) : Int) := wrapN (x := x / 16 + x) (by omega)
  have e2 : bits .and .u64 ((x / 16 + x : Nat) : Int) 1085102592571150095 = (((x / 16 + x) &&& 1085102592571150095 : Nat) : Int) := andN (x := x / 16 + x) (y := 1085102592571150095) (by omega) (by omega)
  rw [e1, e2]
  unfold oC
  rw [mk15]
set_option maxHeartbeats 1000000 in
theorem ones_any (x : Nat) (hx : x < 2 ^ 64) (w : World) :
    Calls Tryd.prog 85 #[.int .u64 (x : Int)] w fun e w' => e = .returned (.int .i64 (pc x : Int)) ∧ w' = w := by
  have k1 := kA hx
  obtain ⟨A, hA⟩ : ∃ A, A = oA 8 x := ⟨_, rfl⟩
  have k2 := kB (oA_lt x)
  obtain ⟨B, hB⟩ : ∃ B, B = oB 8 A := ⟨_, rfl⟩
  have k3 := kC (oB_lt A)
  obtain ⟨C, hC⟩ : ∃ C, C = oC 8 B := ⟨_, rfl⟩
  rw [← hA] at k1 k2
  rw [← hB] at k2 k3
  rw [← hC] at k3
  obtain ⟨l1, Y, hY, l2, Z, hZ, l3, U, hU, l4, hp⟩ := ones_pc (x := x) (X := C) (by rw [hC, hB, hA])
  have k4 : IntKind.u64.wrap ((C : Int) + (C : Int) / 256) = (Y : Int) := by rw [hY, IntKind.wrap_u64]; unfold oD at hY ⊢; omega
  have k5 : IntKind.u64.wrap ((Y : Int) + (Y : Int) / 65536) = (Z : Int) := by rw [hZ, IntKind.wrap_u64]; unfold oE at hZ ⊢; omega
  have k6 : IntKind.u64.wrap ((Z : Int) + (Z : Int) / 4294967296) = (U : Int) := by rw [hU, IntKind.wrap_u64]; unfold oF at hU ⊢; omega
  have k7 : bits .and .i64 (U : Int) 127 = (pc x : Int) := by
    have := bits_mask .i64 63 (by decide) (fun n h0 h1 => by simp [IntKind.wrap, IntKind.signed, IntKind.bits]; omega) 7 (by decide) U (by omega) (by omega)
    rw [← hp]
    exact this
  clear hA hB hC hY hZ hU
  go_enter Tryd.func85, Tryd.ntmps85
  go_wp2
  go_ret
  exact ⟨rfl, rfl⟩

theorem size_any (x : Nat) (hx : x < 2 ^ 64) (w : World) :
    Calls Tryd.prog 76 #[.int .u64 (x : Int)] w fun e w' => e = .returned (.int .i64 (pc x : Int)) ∧ w' = w := by
  go_enter Tryd.func76, Tryd.ntmps76
  go_wp2_with (go_at_call 85; refine (ones_any x hx w).mono ?_; rintro e w' ⟨rfl, rfl⟩)
  go_ret
  exact ⟨rfl, rfl⟩
end Go.Proofs.YtjfjdidibglhaabDoor
