/- The walks of what asks one row of a graph. -/
import Derived.Test.YtlmjlffipinjiabDoorST1
import Derived.Test.YtlmjlffipinjiabDoorRXP
import Derived.Test.YtlmjlffipinjiabDoorBOnes
import Derived.Lib.BitFns
namespace Go.Proofs.YtlmjlffipinjiabDoor.Sg
open Go.RowKit

def gRow (n : Int) (f : Nat → Nat) : Array Value := (Value.int .i64 n :: (List.range 24).map fun j => Value.int .u32 ((f j : Nat) : Int)).toArray
theorem gRow_size (n : Int) (f : Nat → Nat) : (gRow n f).size = 25 := by simp [gRow]
def GrW (w : World) (g : Nat) (n : Int) (f : Nat → Nat) : Prop := w.heap[g]? = some (.cells (gRow n f) 79 (0, 0))
theorem GrW.made (w : World) (n : Int) (f : Nat → Nat) : GrW (w.alloc (.cells (gRow n f) 79)) w.heap.size n f := heap_alloc_new w _
theorem GrW.cell {w : World} {g : Nat} {n : Int} {f : Nat → Nat} (h : GrW w g n f) (j : Nat) (hj : j < 24) : w.cell? ⟨g, 1 + j, none⟩ = some (.int .u32 ((f j : Nat) : Int)) := by
  refine cell_of_row w g (1 + j) _ _ _ h |>.trans ?_
  simp [gRow, hj, Nat.add_comm 1 j]
theorem GrW.places {w : World} {g : Nat} {n : Int} {f : Nat → Nat} (h : GrW w g n f) : w.cell? ⟨g, 0, none⟩ = some (.int .i64 n) := by
  refine cell_of_row w g 0 _ _ _ h |>.trans ?_
  simp [gRow]

theorem and32 {a b : Nat} (ha : a < 2 ^ 32) (hb : b < 2 ^ 32) : bits .and .u32 (a : Int) (b : Int) = ((a &&& b : Nat) : Int) := by
  have hx : a &&& b < 2 ^ 32 := Nat.and_lt_two_pow _ hb
  have h1 : (BitVec.ofInt 32 (a : Int)).toNat = a := by rw [BitVec.ofInt_natCast, BitVec.toNat_ofNat]; exact Nat.mod_eq_of_lt ha
  have h2 : (BitVec.ofInt 32 (b : Int)).toNat = b := by rw [BitVec.ofInt_natCast, BitVec.toNat_ofNat]; exact Nat.mod_eq_of_lt hb
  show IntKind.u32.wrap ((BitVec.ofInt 32 (a : Int) &&& BitVec.ofInt 32 (b : Int)).toNat : Int) = _
  rw [BitVec.toNat_and, h1, h2, IntKind.wrap_u32]
  omega
theorem or32 {a b : Nat} (ha : a < 2 ^ 32) (hb : b < 2 ^ 32) : bits .or .u32 (a : Int) (b : Int) = ((a ||| b : Nat) : Int) := by
  have hx : a ||| b < 2 ^ 32 := Nat.or_lt_two_pow ha hb
  have h1 : (BitVec.ofInt 32 (a : Int)).toNat = a := by rw [BitVec.ofInt_natCast, BitVec.toNat_ofNat]; exact Nat.mod_eq_of_lt ha
  have h2 : (BitVec.ofInt 32 (b : Int)).toNat = b := by rw [BitVec.ofInt_natCast, BitVec.toNat_ofNat]; exact Nat.mod_eq_of_lt hb
  show IntKind.u32.wrap ((BitVec.ofInt 32 (a : Int) ||| BitVec.ofInt 32 (b : Int)).toNat : Int) = _
  rw [BitVec.toNat_or, h1, h2, IntKind.wrap_u32]
  omega
theorem shr_nat (x b : Nat) : (x : Int) / 2 ^ b = ((x / 2 ^ b : Nat) : Int) := by simp
theorem joined_bit {x : Nat} (hx : x < 2 ^ 32) (b : Nat) : (bits .and .u32 ((x : Int) / 2 ^ b) 1 == 1) = x.testBit b := by
  have h1 : x / 2 ^ b < 2 ^ 32 := Nat.lt_of_le_of_lt (Nat.div_le_self _ _) hx
  rw [shr_nat, show (1 : Int) = ((1 : Nat) : Int) from rfl, and32 h1 (by decide), Nat.and_one_is_mod]
  unfold Nat.testBit
  rw [Nat.one_and_eq_mod_two, Nat.shiftRight_eq_div_pow]
  have := Nat.mod_two_eq_zero_or_one (x / 2 ^ b)
  rcases this with e | e <;> rw [e] <;> rfl
set_option maxRecDepth 100000 in
theorem pop_fold : ({ data := (([0, 1, 1, 2, 1, 2, 2, 3, 1, 2, 2, 3, 2, 3, 3, 4, 1, 2, 2, 3, 2, 3, 3, 4, 2, 3, 3, 4, 3, 4, 4, 5, 1, 2, 2, 3, 2, 3, 3, 4, 2, 3, 3, 4, 3, 4, 4, 5, 2, 3, 3, 4, 3, 4, 4, 5, 3, 4, 4, 5, 4, 5, 5, 6].append [1, 2, 2, 3, 2, 3, 3, 4, 2, 3, 3, 4, 3, 4, 4, 5, 2, 3, 3, 4, 3, 4, 4, 5, 3, 4, 4, 5, 4, 5, 5, 6, 2, 3, 3, 4, 3, 4, 4, 5, 3, 4, 4, 5, 4, 5, 5, 6, 3, 4, 4, 5, 4, 5, 5, 6, 4, 5, 5, 6, 5, 6, 6, 7]).append ([1, 2, 2, 3, 2, 3, 3, 4, 2, 3, 3, 4, 3, 4, 4, 5, 2, 3, 3, 4, 3, 4, 4, 5, 3, 4, 4, 5, 4, 5, 5, 6, 2, 3, 3, 4, 3, 4, 4, 5, 3, 4, 4, 5, 4, 5, 5, 6, 3, 4, 4, 5, 4, 5, 5, 6, 4, 5, 5, 6, 5, 6, 6, 7].append [2, 3, 3, 4, 3, 4, 4, 5, 3, 4, 4, 5, 4, 5, 5, 6, 3, 4, 4, 5, 4, 5, 5, 6, 4, 5, 5, 6, 5, 6, 6, 7, 3, 4, 4, 5, 4, 5, 5, 6, 4, 5, 5, 6, 5, 6, 6, 7, 4, 5, 5, 6, 5, 6, 6, 7, 5, 6, 6, 7, 6, 7, 7, 8])).toArray } : ByteArray) = Lib.pop8tab := by kernel_rfl
set_option maxRecDepth 100000 in
set_option maxHeartbeats 1000000 in
theorem joined_any (n : Int) (f : Nat → Nat) (a b : Nat) (w : World) (ha : a < 24) (hb : b < 24) (hf : f a < 2 ^ 32) :
    Calls Tryd.prog 34 #[.agg (gRow n f), .int .i64 (a : Int), .int .i64 (b : Int)] w fun e w' => e = .returned (.bool ((f a).testBit b)) ∧ Below w.heap.size w w' := by
  have hG := GrW.made w n f
  have c1 := hG.cell a ha
  go_enter Tryd.func34, Tryd.ntmps34
  go_wp2
  go_ret
  exact ⟨by rw [← joined_bit hf b]; rfl, balloc w _⟩
theorem pop_is : ∀ z : Fin 256, Lib.pop8 (z.val : Int) = (pop8 z.val : Int) ∧ pop8 z.val ≤ 8 := by decide +kernel
theorem pc_32 {x : Nat} (hx : x < 2 ^ 32) : pc x = pop8 (x / 16777216) + pop8 (x / 65536 % 256) + pop8 (x / 256 % 256) + pop8 (x % 256) := by
  have h0 : pop8 0 = 0 := by decide
  rw [pc_is]
  simp only [sdig]
  rw [show x / 256 / 256 = x / 65536 by omega, show x / 65536 / 256 = x / 16777216 by omega, show x / 16777216 / 256 = 0 by omega, show x / 16777216 % 256 = x / 16777216 by omega]
  simp only [Nat.zero_div, Nat.zero_mod, h0]
  omega
set_option maxRecDepth 100000 in
set_option maxHeartbeats 4000000 in
theorem ones_dr (x : Nat) (w : World) (hx : x < 2 ^ 32) :
    Calls Tryd.prog 90 #[.int .u32 (x : Int)] w fun e w' => e = .returned (.int .i64 (pc x : Int)) ∧ ∃ m, w' = w.drewN m := by
  obtain ⟨b0, h0⟩ : ∃ b, x % 256 = b := ⟨_, rfl⟩
  obtain ⟨b1, h1⟩ : ∃ b, x / 256 % 256 = b := ⟨_, rfl⟩
  obtain ⟨b2, h2⟩ : ∃ b, x / 65536 % 256 = b := ⟨_, rfl⟩
  obtain ⟨b3, h3⟩ : ∃ b, x / 16777216 = b := ⟨_, rfl⟩
  have l0 : (b0 : Int) ≤ 255 := by omega
  have l1 : (b1 : Int) ≤ 255 := by omega
  have l2 : (b2 : Int) ≤ 255 := by omega
  have l3 : (b3 : Int) ≤ 255 := by omega
  have m : ∀ y : Nat, y < 2 ^ 32 → bits .and .u32 (y : Int) 255 = ((y % 256 : Nat) : Int) := fun y hy => by
    rw [show (255 : Int) = ((255 : Nat) : Int) from rfl, and32 hy (by decide), show (255 : Nat) = 2 ^ 8 - 1 from rfl, Nat.and_two_pow_sub_one_eq_mod]
  have e0 : bits .and .u32 (x : Int) 255 = (b0 : Int) := by rw [m x hx, h0]
  have e1 : bits .and .u32 ((x : Int) / 256) 255 = (b1 : Int) := by rw [show (x : Int) / 256 = ((x / 256 : Nat) : Int) by omega, m _ (by omega), h1]
  have e2 : bits .and .u32 ((x : Int) / 65536) 255 = (b2 : Int) := by rw [show (x : Int) / 65536 = ((x / 65536 : Nat) : Int) by omega, m _ (by omega), h2]
  have e3 : (x : Int) / 16777216 = (b3 : Int) := by omega
  have HX : Hid ((Lib.pop8 b3 + Lib.pop8 b2 + Lib.pop8 b1 + Lib.pop8 b0) % 256 = (pc x : Int)) := by
    have q : ∀ b : Nat, b < 256 → Lib.pop8 (b : Int) = (pop8 b : Int) ∧ pop8 b ≤ 8 := fun b hb => pop_is ⟨b, hb⟩
    have q0 := q b0 (by omega)
    have q1 := q b1 (by omega)
    have q2 := q b2 (by omega)
    have q3 := q b3 (by omega)
    show (Lib.pop8 b3 + Lib.pop8 b2 + Lib.pop8 b1 + Lib.pop8 b0) % 256 = (pc x : Int)
    rw [pc_32 hx, h0, h1, h2, h3, q0.1, q1.1, q2.1, q3.1]
    omega
  clear m hx h0 h1 h2 h3
  go_enter Tryd.func90, Tryd.ntmps90
  simp only [pop_fold]
  go_wp2
  go_quiet (fail)
  go_wp2
  go_ret
  exact ⟨by rw [← HX.out]; rfl, _, rfl⟩
theorem ones_any (x : Nat) (w : World) (hx : x < 2 ^ 32) :
    Calls Tryd.prog 90 #[.int .u32 (x : Int)] w fun e w' => e = .returned (.int .i64 (pc x : Int)) ∧ Below w.heap.size w w' :=
  (ones_dr x w hx).mono fun _ _ ⟨h, _, e⟩ => ⟨h, by rw [e]; exact bdrewN (Below.refl _ _) _⟩
theorem ones_q (x : Nat) (w : World) (n : Nat) (hx : x < 2 ^ 32) :
    Calls Tryd.prog 90 #[.int .u32 (x : Int)] (w.drewN n) fun e w' => e = .returned (.int .i64 (pc x : Int)) ∧ ∃ m, w' = w.drewN m :=
  (ones_dr x _ hx).mono fun _ _ ⟨h, m, e⟩ => ⟨h, n + m, by rw [e]; simp [World.drewN, Nat.add_assoc]⟩
set_option maxRecDepth 100000 in
set_option maxHeartbeats 1000000 in
theorem degree_any (n : Int) (f : Nat → Nat) (a : Nat) (w : World) (ha : a < 24) (hf : f a < 2 ^ 32) :
    Calls Tryd.prog 71 #[.agg (gRow n f), .int .i64 (a : Int)] w fun e w' => e = .returned (.int .i64 (pc (f a) : Int)) ∧ Below w.heap.size w w' := by
  have hG := GrW.made w n f
  have c1 := hG.cell a ha
  have b1 := balloc w (.cells (gRow n f) 79)
  go_enter Tryd.func71, Tryd.ntmps71
  go_wp2_with (go_at_call 90; refine (ones_any (f a) _ hf).mono ?_; rintro e w2 ⟨rfl, hb2⟩)
  go_ret
  exact ⟨rfl, Below.next b1 hb2⟩
set_option maxRecDepth 100000 in
set_option maxHeartbeats 1000000 in
theorem common_any (n : Int) (f : Nat → Nat) (a b : Nat) (w : World) (ha : a < 24) (hb : b < 24) (hfa : f a < 2 ^ 32) (hfb : f b < 2 ^ 32) :
    Calls Tryd.prog 72 #[.agg (gRow n f), .int .i64 (a : Int), .int .i64 (b : Int)] w fun e w' => e = .returned (.int .i64 (pc (f a &&& f b) : Int)) ∧ Below w.heap.size w w' := by
  have hG := GrW.made w n f
  have c1 := hG.cell a ha
  have c2 := hG.cell b hb
  have b1 := balloc w (.cells (gRow n f) 79)
  have e := and32 hfa hfb
  have hx : f a &&& f b < 2 ^ 32 := Nat.and_lt_two_pow _ hfb
  go_enter Tryd.func72, Tryd.ntmps72
  go_wp2
  go_quiet (exact ones_q _ _ _ hx)
  go_wp2
  go_ret
  exact ⟨rfl, bdrewN b1 _⟩
theorem bsetR {B g : Nat} {w0 w : World} (hb : Below B w0 w) (hBg : B ≤ g) (cs : Array Value) : Below B w0 (w.setRow g cs) :=
  ⟨hb.os, hb.tape, hb.output, by simpa using hb.size, fun k hk => (setRow_other w g k cs (by omega)).trans (hb.block k hk)⟩
set_option maxRecDepth 100000 in
theorem inf59 (x : Int) (s : Bool) : (Tryd.prog.info? 123).map (·.size) = some (#[.int .i64 x, .bool s] : Array Value).size := by kernel_rfl
theorem lev_one (x : Int) (s : Bool) : (#[.int .i64 x, .bool s] : Array Value).all (·.oneCell') = true := by simp [Value.oneCell']
/-- A level in memory. -/
def LvW (w : World) (g : Nat) (z : Int) (s : Bool) : Prop := w.heap[g]? = some (.cells #[.int .i64 z, .bool s] 123 (0, 0))
theorem LvW.lt {w : World} {g : Nat} {z : Int} {s : Bool} (h : LvW w g z s) : g < w.heap.size := (Array.getElem?_eq_some_iff.1 h).1
set_option maxRecDepth 100000 in
set_option maxHeartbeats 1000000 in
theorem holds_any (g : Nat) (z x : Int) (s : Bool) (w : World) (hg : LvW w g z s) :
    Calls Tryd.prog 70 #[.pointer (some ⟨g, 0, none⟩), .int .i64 x] w fun e w' => e = .returned (.bool (if s then z == x else true)) ∧ w' = if s then w else w.setRow g #[.int .i64 x, .bool true] := by
  have c1 : w.cell? ⟨g, 1, none⟩ = some (.bool s) := cell_of_row w g 1 _ _ _ hg
  have c0 : w.cell? ⟨g, 0, none⟩ = some (.int .i64 z) := cell_of_row w g 0 _ _ _ hg
  cases s with
  | true =>
    go_enter Tryd.func70, Tryd.ntmps70
    go_wp2
    go_ret
    exact ⟨rfl, rfl⟩
  | false =>
    have h2 : LvW (w.setRow g #[.int .i64 x, .bool true]) g x true := setRow_heap w g _ _ _ _ hg
    have d0 : (w.setRow g #[.int .i64 x, .bool true]).cell? ⟨g, 0, none⟩ = some (.int .i64 x) := cell_of_row _ g 0 _ _ _ h2
    go_enter Tryd.func70, Tryd.ntmps70
    go_wp2_with (refine wpList_store_row rfl 123 _ _ rfl g #[.int .i64 x, .bool true] rfl rfl 123 _ hg (inf59 _ _) rfl (lev_one _ _) ?_)
    go_ret
    exact ⟨by simp, rfl⟩
theorem gRow_set (n : Int) (f : Nat → Nat) (a y : Nat) (ha : a < 24) : (gRow n f).setIfInBounds (1 + a) (.int .u32 (y : Int)) = gRow n (fun j => if j = a then y else f j) := by
  apply Array.ext
  · simp [gRow_size]
  · intro i h1 h2
    rw [Array.getElem_setIfInBounds (by simpa using h1)]
    rw [gRow_size] at h2
    cases i with
    | zero => simp [gRow]
    | succ i =>
      by_cases e : i = a
      · subst e
        simp [gRow, Nat.add_comm 1 i]
      · rw [if_neg (by omega)]
        simp [gRow, e]
theorem GrW.lt {w : World} {g : Nat} {n : Int} {f : Nat → Nat} (h : GrW w g n f) : g < w.heap.size := (Array.getElem?_eq_some_iff.1 h).1
theorem GrW.set {w : World} {g : Nat} {n : Int} {f : Nat → Nat} (h : GrW w g n f) (a y : Nat) (ha : a < 24) : GrW (w.setCell ⟨g, 1 + a, none⟩ (.int .u32 (y : Int))) g n (fun j => if j = a then y else f j) := by
  unfold GrW
  rw [heap_setCell_same w g (1 + a) _ _ _ h, gRow_set n f a y ha]
theorem GrW.frozen {w : World} {g : Nat} {n : Int} {f : Nat → Nat} (h : GrW w g n f) (j : Nat) : w.frozen? ⟨g, j, none⟩ = false := frozen_of_row w g j _ _ h
theorem shl32 {b : Nat} (hb : b < 24) : IntKind.u32.wrap ((1 : Int) * 2 ^ b) = ((2 ^ b : Nat) : Int) := by
  have : 2 ^ b < 2 ^ 24 := Nat.pow_lt_pow_right (by decide) hb
  rw [IntKind.wrap_u32, Int.one_mul]
  have e : ((2 : Int) ^ b) = ((2 ^ b : Nat) : Int) := by simp
  rw [e]
  generalize 2 ^ b = y at *
  omega
set_option maxRecDepth 100000 in
set_option maxHeartbeats 1000000 in
theorem join_any (g : Nat) (n : Int) (f : Nat → Nat) (a b : Nat) (w : World) (hg : GrW w g n f) (ha : a < 24) (hb : b < 24) (hf : f a < 2 ^ 32) :
    Calls Tryd.prog 32 #[.pointer (some ⟨g, 0, none⟩), .int .i64 (a : Int), .int .i64 (b : Int)] w fun e w' => (∃ v, e = .returned v) ∧ GrW w' g n (fun j => if j = a then f a ||| 2 ^ b else f j) ∧ (∀ k, k ≠ g → w'.heap[k]? = w.heap[k]?) ∧ Below g w w' := by
  have c1 := hg.cell a ha
  have fr := hg.frozen (1 + a)
  go_enter Tryd.func32, Tryd.ntmps32
  have e : bits .or .u32 ((f a : Nat) : Int) (2 ^ b % 4294967296) = ((f a ||| 2 ^ b : Nat) : Int) := by
    have hp : 2 ^ b < 2 ^ 24 := Nat.pow_lt_pow_right (by decide) hb
    have e : ((2 : Int) ^ b) % 4294967296 = ((2 ^ b : Nat) : Int) := by
      have e : ((2 : Int) ^ b) = ((2 ^ b : Nat) : Int) := by simp
      rw [e]
      generalize 2 ^ b = y at *
      omega
    rw [e, or32 hf (by omega)]
  go_wp2
  go_region
  refine bodyPost_end (results_none rfl _ _ _) rfl ?_
  exact ⟨⟨_, rfl⟩, hg.set a _ ha, fun k hk => heap_setCell_other w ⟨g, 1 + a, none⟩ k _ hk, ((Below.refl g w).setCell (p := ⟨g, 1 + a, none⟩) (Nat.le_refl _) _).drew⟩
end Go.Proofs.YtlmjlffipinjiabDoor.Sg
