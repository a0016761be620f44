/- The walks of without, has, first, points: the points of a set, one after another. -/
import Derived.Test.YtgpkhfpejopacabGreatDoorDPure
import Derived.Test.YtgpkhfpejopacabGreatDoorPBase
import Derived.Laws.BitsAllLaws
import Derived.Test.YtgpkhfpejopacabGreatDoorDGo
import Derived.OwnWalk
import Derived.Test.YtgpkhfpejopacabGreatDoorRX
import Derived.RangeFuncBound
import Derived.RangeFuncCalls
import Derived.Shelf.Abstract
import Derived.Shelf.RegionOpen
import Derived.OwnWalkIn
import Derived.TacticsInMore
import Derived.LoopNIn
import Derived.LoopIn
import Derived.Stop.RegionWithIn
import Derived.Lib.TrailingZeros
import Derived.Shelf.Spec.TrailingZeros
/- The walk of size. -/
/- The walks of only, below, within, size: sets as bits. -/
/- How many bits a number has, as math/bits counts them: nothing of the program. -/
/- Sets of points as the bits of a number: nothing of the program. -/
namespace Go.Proofs.YtgpkhfpejopacabGreatDoor

theorem rise_ext : ∀ {a b : List Nat}, a.Pairwise (· < ·) → b.Pairwise (· < ·) → (∀ x, x ∈ a ↔ x ∈ b) → a = b
  | [], [], _, _, _ => rfl
  | [], y :: b, _, _, h => by have := (h y).2 List.mem_cons_self; simp at this
  | x :: a, [], _, _, h => by have := (h x).1 List.mem_cons_self; simp at this
  | x :: a, y :: b, ha, hb, h => by
    have ha' := List.pairwise_cons.1 ha
    have hb' := List.pairwise_cons.1 hb
    have e : x = y := by
      rcases List.mem_cons.1 ((h x).1 List.mem_cons_self) with e | hx
      · exact e
      · rcases List.mem_cons.1 ((h y).2 List.mem_cons_self) with e | hy
        · exact e.symm
        · have h1 := ha'.1 y hy
          have h2 := hb'.1 x hx
          omega
    subst e
    congr 1
    refine rise_ext ha'.2 hb'.2 fun z => ⟨fun hz => ?_, fun hz => ?_⟩
    · have h1 := ha'.1 z hz
      rcases List.mem_cons.1 ((h z).1 (List.mem_cons_of_mem _ hz)) with e | h2
      · omega
      · exact h2
    · have h1 := hb'.1 z hz
      rcases List.mem_cons.1 ((h z).2 (List.mem_cons_of_mem _ hz)) with e | h2
      · omega
      · exact h2

/-- The points of a number. -/
def pts (x : Nat) : List Nat := (List.range 64).filter fun i => x.testBit i
def pc (x : Nat) : Nat := (pts x).length
theorem pts_mem {x i : Nat} : i ∈ pts x ↔ i < 64 ∧ x.testBit i = true := by
  unfold pts; rw [List.mem_filter, List.mem_range]
theorem pts_rise (x : Nat) : (pts x).Pairwise (· < ·) := List.Pairwise.filter _ List.pairwise_lt_range
theorem testBit_high {x n i : Nat} (h : x < 2 ^ n) (hi : n ≤ i) : x.testBit i = false := Nat.testBit_lt_two_pow (Nat.lt_of_lt_of_le h (Nat.pow_le_pow_right (by decide) hi))
theorem pts_mem' {x i : Nat} (h : x < 2 ^ 64) : i ∈ pts x ↔ x.testBit i = true := by
  rw [pts_mem]
  refine ⟨fun h => h.2, fun h1 => ⟨?_, h1⟩⟩
  rcases Nat.lt_or_ge i 64 with h2 | h2
  · exact h2
  · rw [testBit_high h h2] at h1; cases h1
theorem pts_ext {x : Nat} {l : List Nat} (hl : l.Pairwise (· < ·)) (h : x < 2 ^ 64) (hm : ∀ i, x.testBit i = true ↔ i ∈ l) : pts x = l :=
  rise_ext (pts_rise x) hl fun i => (pts_mem' h).trans (hm i)
theorem pts_zero : pts 0 = [] := by
  refine List.eq_nil_iff_forall_not_mem.2 fun i hi => ?_
  have := (pts_mem.1 hi).2
  simp at this

/-- The number of a list. -/
def sb : List Nat → Nat
  | [] => 0
  | p :: l => 2 ^ p ||| sb l
theorem sb_bit : ∀ (l : List Nat) (i : Nat), (sb l).testBit i = l.contains i
  | [], i => by simp [sb]
  | p :: l, i => by
    unfold sb
    rw [Nat.testBit_or, sb_bit l i, Nat.testBit_two_pow, List.contains_cons]
    congr 1
    rw [Bool.eq_iff_iff, decide_eq_true_eq, beq_iff_eq]
    exact eq_comm
theorem sb_lt {l : List Nat} {n : Nat} (h : ∀ x ∈ l, x < n) : sb l < 2 ^ n := by
  refine Nat.lt_pow_two_of_testBit _ fun i hi => ?_
  rw [sb_bit]
  cases e : l.contains i with
  | false => rfl
  | true => have := h i (List.contains_iff_mem.1 e); omega
theorem sb_snoc (l : List Nat) (p : Nat) : sb (l ++ [p]) = sb l ||| 2 ^ p := by
  refine Nat.eq_of_testBit_eq fun i => ?_
  rw [Nat.testBit_or, sb_bit, sb_bit, Nat.testBit_two_pow, Bool.eq_iff_iff, Bool.or_eq_true, decide_eq_true_eq, List.contains_iff_mem, List.contains_iff_mem, List.mem_append, List.mem_singleton]
  exact or_congr_right eq_comm
theorem pts_sb {l : List Nat} (h : l.Pairwise (· < ·)) (hl : ∀ x ∈ l, x < 64) : pts (sb l) = l :=
  pts_ext h (sb_lt hl) fun i => by rw [sb_bit]; exact List.contains_iff_mem
theorem pc_sb {l : List Nat} (h : l.Pairwise (· < ·)) (hl : ∀ x ∈ l, x < 64) : pc (sb l) = l.length := by unfold pc; rw [pts_sb h hl]
/-- What is in one and not in the other. -/
def an (x y : Nat) : Nat := x &&& (18446744073709551615 - y)
theorem an_bit {x y i : Nat} (hx : x < 2 ^ 64) (hy : y < 2 ^ 64) : (an x y).testBit i = (x.testBit i && !y.testBit i) := by
  unfold an
  rw [Nat.testBit_and]
  have e : 18446744073709551615 - y = 2 ^ 64 - (y + 1) := by omega
  rw [e, Nat.testBit_two_pow_sub_succ hy]
  rcases Nat.lt_or_ge i 64 with h | h
  · simp [h]
  · rw [testBit_high hx h]; rfl
theorem an_zero {x y : Nat} (hx : x < 2 ^ 64) (hy : y < 2 ^ 64) : an x y = 0 ↔ ∀ i, x.testBit i = true → y.testBit i = true := by
  constructor
  · intro h i hi
    have := an_bit (i := i) hx hy
    rw [h, Nat.zero_testBit, hi, Bool.true_and] at this
    cases e : y.testBit i with
    | true => rfl
    | false => rw [e] at this; cases this
  · intro h
    refine Nat.eq_of_testBit_eq fun i => ?_
    rw [an_bit hx hy, Nat.zero_testBit]
    cases e : x.testBit i with
    | false => rfl
    | true => rw [h i e]; rfl
theorem an_all {s b : List Nat} (hs : ∀ x ∈ s, x < 64) (hb : ∀ x ∈ b, x < 64) : (an (sb s) (sb b) = 0) ↔ (s.all fun x => b.contains x) = true := by
  rw [an_zero (sb_lt hs) (sb_lt hb), List.all_eq_true]
  refine forall_congr' fun i => ?_
  rw [sb_bit, sb_bit, List.contains_iff_mem]

/-- The first points. -/
theorem low_bit (n i : Nat) : (2 ^ n - 1).testBit i = decide (i < n) := Nat.testBit_two_pow_sub_one n i
theorem low_sb (n : Nat) : 2 ^ n - 1 = sb (List.range n) := by
  refine Nat.eq_of_testBit_eq fun i => ?_
  rw [low_bit, sb_bit, Bool.eq_iff_iff]
  simp
theorem pow_lt64 {n m : Nat} (h : n < m) : 2 ^ n < 2 ^ m := Nat.pow_lt_pow_right (by decide) h

/-- The least point, and the number without it. -/
theorem low_off {x k m : Nat} (e : x = 2 ^ k * (2 * m + 1)) (i : Nat) : (x.testBit i = true → k ≤ i) ∧ x.testBit k = true ∧ (x &&& (x - 1)).testBit i = (x.testBit i && decide (i ≠ k)) := by
  have hx : ∀ i, x.testBit i = (decide (k ≤ i) && (2 * m + 1).testBit (i - k)) := fun i => by rw [e, Nat.mul_comm, Nat.testBit_mul_two_pow]
  have hy : x - 1 = 2 ^ k * (2 * m) + (2 ^ k - 1) := by
    have : 0 < 2 ^ k := Nat.two_pow_pos k
    rw [e, Nat.mul_add, Nat.mul_one]; omega
  have hlt : 2 ^ k - 1 < 2 ^ k := by have : 0 < 2 ^ k := Nat.two_pow_pos k; omega
  refine ⟨fun h => ?_, ?_, ?_⟩
  · rw [hx] at h
    simp at h
    exact h.1
  · rw [hx]; simp
  · rw [Nat.testBit_and, hy, Nat.testBit_two_pow_mul_add _ hlt, hx]
    by_cases h1 : i < k
    · simp [h1, show ¬ k ≤ i by omega]
    · by_cases h2 : i = k
      · subst h2; simp
      · obtain ⟨j, rfl⟩ : ∃ j, i = k + (j + 1) := ⟨i - k - 1, by omega⟩
        have e3 : k + (j + 1) - k = j + 1 := by omega
        rw [e3, Nat.testBit_succ, Nat.testBit_succ]
        have d1 : (2 * m + 1) / 2 = m := by omega
        have d2 : 2 * m / 2 = m := by omega
        simp only [d1, d2, h1, h2, if_false, show k ≤ k + (j + 1) by omega, decide_true, Bool.true_and, ne_eq, not_false_eq_true, Bool.and_true, Bool.and_self]
theorem pts_off {x k m : Nat} (h : x < 2 ^ 64) (e : x = 2 ^ k * (2 * m + 1)) : pts x = k :: pts (x &&& (x - 1)) := by
  have hle : x &&& (x - 1) ≤ x := Nat.and_le_left
  refine pts_ext (List.pairwise_cons.2 ⟨fun y hy => ?_, pts_rise _⟩) h fun i => ?_
  · have := (pts_mem.1 hy).2
    obtain ⟨h1, h2, h3⟩ := low_off e y
    rw [h3] at this
    simp at this
    have := h1 this.1
    omega
  · obtain ⟨h1, h2, h3⟩ := low_off e i
    rw [List.mem_cons, pts_mem' (by omega), h3]
    constructor
    · intro hi
      by_cases ek : i = k
      · exact .inl ek
      · exact .inr (by simp [hi, ek])
    · rintro (rfl | hi)
      · exact h2
      · simp at hi; exact hi.1

end Go.Proofs.YtgpkhfpejopacabGreatDoor

namespace Go.Proofs.YtgpkhfpejopacabGreatDoor

theorem and_split {y c d : Nat} (hd : d < 256) : y &&& (c * 256 + d) = ((y / 256) &&& c) * 256 + ((y % 256) &&& d) := by
  have e1 : y = 2 ^ 8 * (y / 256) + y % 256 := by omega
  have e2 : c * 256 + d = 2 ^ 8 * c + d := by omega
  have e3 : ((y / 256) &&& c) * 256 + ((y % 256) &&& d) = 2 ^ 8 * ((y / 256) &&& c) + ((y % 256) &&& d) := by rw [Nat.mul_comm]
  have h1 : y % 256 < 2 ^ 8 := by omega
  have h2 : (y % 256) &&& d < 2 ^ 8 := Nat.lt_of_le_of_lt (Nat.and_le_left (n := y % 256) (m := d)) h1
  rw [e2, e3]
  refine Nat.eq_of_testBit_eq fun i => ?_
  rw [Nat.testBit_and, Nat.testBit_two_pow_mul_add _ hd, Nat.testBit_two_pow_mul_add _ h2]
  conv => lhs; lhs; rw [e1]
  rw [Nat.testBit_two_pow_mul_add _ h1]
  split <;> rw [Nat.testBit_and]

def mk (d : Nat) : Nat → Nat
  | 0 => 0
  | n + 1 => mk d n * 256 + d
def oA (n x : Nat) : Nat := ((x / 2) &&& mk 85 n) + (x &&& mk 85 n)
def oB (n x : Nat) : Nat := ((x / 4) &&& mk 51 n) + (x &&& mk 51 n)
def oC (n x : Nat) : Nat := (x / 16 + x) &&& mk 15 n
def bA (b : Nat) : Nat := ((b / 2) &&& 85) + (b &&& 85)
def bB (b : Nat) : Nat := ((b / 4) &&& 51) + (b &&& 51)
def bC (b : Nat) : Nat := (b / 16 + b) &&& 15
theorem half_in : ∀ z : Fin 512, (z.val / 2) &&& 85 = ((z.val % 256) / 2) &&& 85 := by decide +kernel
theorem quar_in : ∀ z : Fin 1024, (z.val / 4) &&& 51 = ((z.val % 256) / 4) &&& 51 := by decide +kernel
theorem bA_lt : ∀ z : Fin 256, bA z.val < 256 := by decide +kernel
theorem bB_lt : ∀ z : Fin 256, bB z.val ≤ 102 := by decide +kernel
theorem low_in : ∀ z : Fin 256, z.val &&& 15 = z.val % 16 := by decide +kernel
theorem oA_split (n x : Nat) : oA (n + 1) x = oA n (x / 256) * 256 + bA (x % 256) := by
  have h1 := half_in ⟨x % 512, by omega⟩
  dsimp only at h1
  rw [show x % 512 / 2 = x / 2 % 256 by omega, show x % 512 % 256 = x % 256 by omega] at h1
  unfold oA bA
  rw [show mk 85 (n + 1) = mk 85 n * 256 + 85 from rfl, and_split (by decide), and_split (y := x) (by decide), h1, show x / 2 / 256 = x / 256 / 2 by omega]
  omega
theorem oB_split (n x : Nat) : oB (n + 1) x = oB n (x / 256) * 256 + bB (x % 256) := by
  have h1 := quar_in ⟨x % 1024, by omega⟩
  dsimp only at h1
  rw [show x % 1024 / 4 = x / 4 % 256 by omega, show x % 1024 % 256 = x % 256 by omega] at h1
  unfold oB bB
  rw [show mk 51 (n + 1) = mk 51 n * 256 + 51 from rfl, and_split (by decide), and_split (y := x) (by decide), h1, show x / 4 / 256 = x / 256 / 4 by omega]
  omega
theorem oB_low (n x : Nat) : oB n x % 16 ≤ 6 := by
  cases n with
  | zero => unfold oB mk; simp
  | succ n =>
    rw [oB_split]
    have : ∀ z : Fin 256, bB z.val % 16 ≤ 6 := by decide +kernel
    have := this ⟨x % 256, by omega⟩
    dsimp only at this
    omega
theorem oC_split {n a b : Nat} (ha : a % 16 ≤ 6) (hb : b ≤ 102) : oC (n + 1) (a * 256 + b) = oC n a * 256 + bC b := by
  unfold oC bC
  rw [show mk 15 (n + 1) = mk 15 n * 256 + 15 from rfl, and_split (by decide)]
  have e1 : ((a * 256 + b) / 16 + (a * 256 + b)) / 256 = a / 16 + a := by omega
  have e2 : ((a * 256 + b) / 16 + (a * 256 + b)) % 256 = a % 16 * 16 + (b / 16 + b) := by omega
  have l1 := low_in ⟨a % 16 * 16 + (b / 16 + b), by omega⟩
  have l2 := low_in ⟨b / 16 + b, by omega⟩
  dsimp only at l1 l2
  rw [e1, e2, l1, l2]
  omega
def pop8 (b : Nat) : Nat := (List.range 8).countP fun i => b.testBit i
theorem pop8_is : ∀ z : Fin 256, bC (bB (bA z.val)) = pop8 z.val ∧ pop8 z.val ≤ 8 := by decide +kernel
def dig : Nat → Nat → Nat
  | 0, _ => 0
  | n + 1, x => dig n (x / 256) * 256 + pop8 (x % 256)
def sdig : Nat → Nat → Nat
  | 0, _ => 0
  | n + 1, x => sdig n (x / 256) + pop8 (x % 256)
theorem o_dig : ∀ n x, oC n (oB n (oA n x)) = dig n x
  | 0, x => by unfold oC mk dig; simp
  | n + 1, x => by
    have hx : x % 256 < 256 := by omega
    have h1 := bA_lt ⟨x % 256, hx⟩
    dsimp only at h1
    have h2 := bB_lt ⟨bA (x % 256), h1⟩
    dsimp only at h2
    have h3 := pop8_is ⟨x % 256, hx⟩
    dsimp only at h3
    rw [oA_split, oB_split]
    have e1 : (oA n (x / 256) * 256 + bA (x % 256)) / 256 = oA n (x / 256) := by omega
    have e2 : (oA n (x / 256) * 256 + bA (x % 256)) % 256 = bA (x % 256) := by omega
    rw [e1, e2, oC_split (oB_low _ _) h2, o_dig n, h3.1]
    rfl
theorem c_dig : ∀ n x, ((List.range (8 * n)).countP fun i => x.testBit i) = sdig n x
  | 0, x => rfl
  | n + 1, x => by
    rw [show 8 * (n + 1) = 8 + 8 * n by omega, List.range_add, List.countP_append, List.countP_map]
    unfold sdig
    rw [← c_dig n (x / 256), Nat.add_comm]
    have e : x = 2 ^ 8 * (x / 256) + x % 256 := by omega
    have h1 : x % 256 < 2 ^ 8 := by omega
    congr 1
    · refine List.countP_congr fun i _ => ?_
      simp only [Function.comp]
      conv => lhs; rw [e]
      rw [Nat.testBit_two_pow_mul_add _ h1, if_neg (by omega), show 8 + i - 8 = i by omega]
    · unfold pop8
      refine List.countP_congr fun i hi => ?_
      have := List.mem_range.1 hi
      conv => lhs; rw [e]
      rw [Nat.testBit_two_pow_mul_add _ h1, if_pos this]
theorem pc_is (x : Nat) : pc x = sdig 8 x := by
  rw [← c_dig 8 x]
  unfold pc pts
  rw [List.countP_eq_length_filter]
theorem pc_le (x : Nat) : pc x ≤ 64 := by
  unfold pc pts
  refine Nat.le_trans (List.length_filter_le _ _) (by simp)
/-- The last three steps. -/
def oD (x : Nat) : Nat := x + x / 256
def oE (x : Nat) : Nat := x + x / 65536
def oF (x : Nat) : Nat := x + x / 4294967296
theorem ones_last {c0 c1 c2 c3 c4 c5 c6 c7 X : Nat} (l0 : c0 ≤ 8) (l1 : c1 ≤ 8) (l2 : c2 ≤ 8) (l3 : c3 ≤ 8) (l4 : c4 ≤ 8) (l5 : c5 ≤ 8) (l6 : c6 ≤ 8) (l7 : c7 ≤ 8)
    (hX : X = (((((((c7 * 256 + c6) * 256 + c5) * 256 + c4) * 256 + c3) * 256 + c2) * 256 + c1) * 256 + c0)) :
    X < 1000000000000000000 ∧ ∃ Y, Y = oD X ∧ Y < 2000000000000000000 ∧ ∃ Z, Z = oE Y ∧ Z < 4000000000000000000 ∧ ∃ U, U = oF Z ∧ U < 8000000000000000000 ∧ U % 128 = c7 + c6 + c5 + c4 + c3 + c2 + c1 + c0 := by
  have e1 : X / 256 = ((((((c7 * 256 + c6) * 256 + c5) * 256 + c4) * 256 + c3) * 256 + c2) * 256 + c1) := by omega
  refine ⟨by omega, _, rfl, ?_⟩
  obtain ⟨Y, hY⟩ : ∃ Y, Y = oD X := ⟨_, rfl⟩
  have eY : Y = (((((((c7 * 256 + (c6 + c7)) * 256 + (c5 + c6)) * 256 + (c4 + c5)) * 256 + (c3 + c4)) * 256 + (c2 + c3)) * 256 + (c1 + c2)) * 256 + (c0 + c1)) := by
    rw [hY]; unfold oD; rw [e1]; omega
  rw [← hY]
  clear e1 hX hY
  have e2 : Y / 65536 = (((((c7 * 256 + (c6 + c7)) * 256 + (c5 + c6)) * 256 + (c4 + c5)) * 256 + (c3 + c4)) * 256 + (c2 + c3)) := by omega
  refine ⟨by omega, _, rfl, ?_⟩
  obtain ⟨Z, hZ⟩ : ∃ Z, Z = oE Y := ⟨_, rfl⟩
  have eZ : Z = (((((((c7 * 256 + (c6 + c7)) * 256 + (c5 + c6 + c7)) * 256 + (c4 + c5 + c6 + c7)) * 256 + (c3 + c4 + c5 + c6)) * 256 + (c2 + c3 + c4 + c5)) * 256 + (c1 + c2 + c3 + c4)) * 256 + (c0 + c1 + c2 + c3)) := by
    rw [hZ]; unfold oE; rw [e2]; omega
  rw [← hZ]
  clear e2 eY hZ
  have e3 : Z / 4294967296 = (((c7 * 256 + (c6 + c7)) * 256 + (c5 + c6 + c7)) * 256 + (c4 + c5 + c6 + c7)) := by omega
  refine ⟨by omega, _, rfl, ?_⟩
  unfold oF
  rw [e3]
  clear e3
  exact ⟨by omega, by omega⟩
theorem ones_pc {x X : Nat} (hx : X = oC 8 (oB 8 (oA 8 x))) :
    X < 1000000000000000000 ∧ ∃ Y, Y = oD X ∧ Y < 2000000000000000000 ∧ ∃ Z, Z = oE Y ∧ Z < 4000000000000000000 ∧ ∃ U, U = oF Z ∧ U < 8000000000000000000 ∧ U % 128 = pc x := by
  rw [o_dig] at hx
  rw [pc_is]
  have p : ∀ y : Nat, pop8 (y % 256) ≤ 8 := fun y => (pop8_is ⟨y % 256, Nat.mod_lt _ (by decide)⟩).2
  refine ones_last (p x) (p (x / 256)) (p (x / 256 / 256)) (p (x / 256 / 256 / 256)) (p (x / 256 / 256 / 256 / 256)) (p (x / 256 / 256 / 256 / 256 / 256)) (p (x / 256 / 256 / 256 / 256 / 256 / 256)) (p (x / 256 / 256 / 256 / 256 / 256 / 256 / 256)) ?_ |>.imp_right ?_
  · rw [hx]; simp only [dig, Nat.zero_mul, Nat.zero_add]
  · simp only [sdig, Nat.zero_add]
    exact id

end Go.Proofs.YtgpkhfpejopacabGreatDoor

namespace Go.Proofs.YtgpkhfpejopacabGreatDoor
open Go.RowKit

theorem wrapN {x : Nat} (h : x < 2 ^ 64) : IntKind.u64.wrap (x : Int) = (x : Int) := by rw [IntKind.wrap_u64]; omega
theorem andN {x y : Nat} (hx : x < 2 ^ 64) (hy : y < 2 ^ 64) : bits .and .u64 (x : Int) (y : Int) = ((x &&& y : Nat) : Int) := bits_and_u64_nat x y hx hy
theorem orN {x y : Nat} (hx : x < 2 ^ 64) (hy : y < 2 ^ 64) : bits .or .u64 (x : Int) (y : Int) = ((x ||| y : Nat) : Int) := bits_or_u64_nat x y hx hy
theorem anN {x y : Nat} (hx : x < 2 ^ 64) (hy : y < 2 ^ 64) : bits .andNot .u64 (x : Int) (y : Int) = ((an x y : Nat) : Int) := u64_andNot_nat x y hx hy
theorem powN {p : Nat} (hp : p < 64) : IntKind.u64.wrap ((2 : Int) ^ p) = ((2 ^ p : Nat) : Int) := by
  have := wrapN (x := 2 ^ p) (pow_lt64 hp)
  rw [← this]
  congr 1

theorem only_any (p : Nat) (hp : p < 64) (w : World) :
    Calls Tryz.prog 171 #[.int .i64 (p : Int)] w fun e w' => e = .returned (.int .u64 ((2 ^ p : Nat) : Int)) ∧ w' = w := by
  go_enter Tryz.func171, Tryz.ntmps171
  go_wp2
  rw [powN hp]
  go_ret
  exact ⟨rfl, rfl⟩

theorem below_any (n : Nat) (hn : n < 64) (w : World) :
    Calls Tryz.prog 174 #[.int .i64 (n : Int)] w fun e w' => e = .returned (.int .u64 ((2 ^ n - 1 : Nat) : Int)) ∧ w' = w := by
  have h0 : 0 < 2 ^ n := Nat.two_pow_pos n
  have h1 : 2 ^ n < 2 ^ 64 := pow_lt64 hn
  have e : IntKind.u64.wrap (((2 ^ n : Nat) : Int) - 1) = ((2 ^ n - 1 : Nat) : Int) := by
    rw [show ((2 ^ n : Nat) : Int) - 1 = ((2 ^ n - 1 : Nat) : Int) by omega]
    exact wrapN (by omega)
  go_enter Tryz.func174, Tryz.ntmps174
  go_wp2
  rw [powN hn, e]
  go_ret
  exact ⟨rfl, rfl⟩

theorem within_any (s t : Nat) (q : Bool) (hs : s < 2 ^ 64) (ht : t < 2 ^ 64) (hq : decide (an s t = 0) = q) (w : World) :
    Calls Tryz.prog 208 #[.int .u64 (s : Int), .int .u64 (t : Int)] w fun e w' => e = .returned (.bool q) ∧ w' = w := by
  go_enter Tryz.func208, Tryz.ntmps208
  go_wp2
  rw [anN hs ht]
  go_ret
  refine ⟨ret_bool ?_, rfl⟩
  rw [← hq, Bool.eq_iff_iff]
  simp

theorem mk85 : mk 85 8 = 6148914691236517205 := by decide
theorem mk51 : mk 51 8 = 3689348814741910323 := by decide
theorem mk15 : mk 15 8 = 1085102592571150095 := by decide
theorem oA_lt (x : Nat) : oA 8 x < 2 ^ 64 := by
  unfold oA
  rw [mk85]
  have h1 : (x / 2) &&& 6148914691236517205 ≤ 6148914691236517205 := Nat.and_le_right
  have h2 : x &&& 6148914691236517205 ≤ 6148914691236517205 := Nat.and_le_right
  omega
theorem oB_lt (x : Nat) : oB 8 x < 2 ^ 63 := by
  unfold oB
  rw [mk51]
  have h1 : (x / 4) &&& 3689348814741910323 ≤ 3689348814741910323 := Nat.and_le_right
  have h2 : x &&& 3689348814741910323 ≤ 3689348814741910323 := Nat.and_le_right
  omega
theorem kA {x : Nat} (hx : x < 2 ^ 64) : IntKind.u64.wrap (bits .and .u64 ((x : Int) / 2) 6148914691236517205 + bits .and .u64 (x : Int) 6148914691236517205) = ((oA 8 x : Nat) : Int) := by
  have h := oA_lt x
  have e1 : bits .and .u64 ((x : Int) / 2) 6148914691236517205 = (((x / 2) &&& 6148914691236517205 : Nat) : Int) := andN (x := x / 2) (y := 6148914691236517205) (by omega) (by omega)
  have e2 : bits .and .u64 (x : Int) 6148914691236517205 = ((x &&& 6148914691236517205 : Nat) : Int) := andN (x := x) (y := 6148914691236517205) hx (by omega)
  rw [e1, e2, ← wrapN h, ← Int.natCast_add]
  unfold oA
  rw [mk85]
theorem kB {x : Nat} (hx : x < 2 ^ 64) : IntKind.u64.wrap (bits .and .u64 ((x : Int) / 4) 3689348814741910323 + bits .and .u64 (x : Int) 3689348814741910323) = ((oB 8 x : Nat) : Int) := by
  have h := oB_lt x
  have e1 : bits .and .u64 ((x : Int) / 4) 3689348814741910323 = (((x / 4) &&& 3689348814741910323 : Nat) : Int) := andN (x := x / 4) (y := 3689348814741910323) (by omega) (by omega)
  have e2 : bits .and .u64 (x : Int) 3689348814741910323 = ((x &&& 3689348814741910323 : Nat) : Int) := andN (x := x) (y := 3689348814741910323) hx (by omega)
  rw [e1, e2, ← wrapN (show oB 8 x < 2 ^ 64 by omega), ← Int.natCast_add]
  unfold oB
  rw [mk51]
theorem kC {x : Nat} (hx : x < 2 ^ 63) : bits .and .u64 (IntKind.u64.wrap ((x : Int) / 16 + (x : Int))) 1085102592571150095 = ((oC 8 x : Nat) : Int) := by
  have e1 : IntKind.u64.wrap ((x : Int) / 16 + (x : Int)) = ((x / 16 + x : Nat) : Int) := wrapN (x := x / 16 + x) (by omega)
  have e2 : bits .and .u64 ((x / 16 + x : Nat) : Int) 1085102592571150095 = (((x / 16 + x) &&& 1085102592571150095 : Nat) : Int) := andN (x := x / 16 + x) (y := 1085102592571150095) (by omega) (by omega)
  rw [e1, e2]
  unfold oC
  rw [mk15]
set_option maxHeartbeats 1000000 in
theorem ones_any (x : Nat) (hx : x < 2 ^ 64) (w : World) :
    Calls Tryz.prog 207 #[.int .u64 (x : Int)] w fun e w' => e = .returned (.int .i64 (pc x : Int)) ∧ w' = w := by
  have k1 := kA hx
  obtain ⟨A, hA⟩ : ∃ A, A = oA 8 x := ⟨_, rfl⟩
  have k2 := kB (oA_lt x)
  obtain ⟨B, hB⟩ : ∃ B, B = oB 8 A := ⟨_, rfl⟩
  have k3 := kC (oB_lt A)
  obtain ⟨C, hC⟩ : ∃ C, C = oC 8 B := ⟨_, rfl⟩
  rw [← hA] at k1 k2
  rw [← hB] at k2 k3
  rw [← hC] at k3
  obtain ⟨l1, Y, hY, l2, Z, hZ, l3, U, hU, l4, hp⟩ := ones_pc (x := x) (X := C) (by rw [hC, hB, hA])
  have k4 : IntKind.u64.wrap ((C : Int) + (C : Int) / 256) = (Y : Int) := by rw [hY, IntKind.wrap_u64]; unfold oD at hY ⊢; omega
  have k5 : IntKind.u64.wrap ((Y : Int) + (Y : Int) / 65536) = (Z : Int) := by rw [hZ, IntKind.wrap_u64]; unfold oE at hZ ⊢; omega
  have k6 : IntKind.u64.wrap ((Z : Int) + (Z : Int) / 4294967296) = (U : Int) := by rw [hU, IntKind.wrap_u64]; unfold oF at hU ⊢; omega
  have k7 : bits .and .i64 (U : Int) 127 = (pc x : Int) := by
    have := bits_mask .i64 63 (by decide) (fun n h0 h1 => by simp [IntKind.wrap, IntKind.signed, IntKind.bits]; omega) 7 (by decide) U (by omega) (by omega)
    rw [← hp]
    exact this
  clear hA hB hC hY hZ hU
  go_enter Tryz.func207, Tryz.ntmps207
  go_wp2
  go_ret
  exact ⟨rfl, rfl⟩

theorem size_any (x : Nat) (hx : x < 2 ^ 64) (w : World) :
    Calls Tryz.prog 172 #[.int .u64 (x : Int)] w fun e w' => e = .returned (.int .i64 (pc x : Int)) ∧ w' = w := by
  go_enter Tryz.func172, Tryz.ntmps172
  go_wp2_with (go_at_call 207; refine (ones_any x hx w).mono ?_; rintro e w' ⟨rfl, rfl⟩)
  go_ret
  exact ⟨rfl, rfl⟩
end Go.Proofs.YtgpkhfpejopacabGreatDoor

/- The walks of setOf and holding. -/
/- The walk of checkBlock. -/
namespace Go.Proofs.YtgpkhfpejopacabGreatDoor
open Go.RowKit

set_option maxHeartbeats 4000000 in
theorem checkBlock_any (p : Int) (b : List Int) (u : Value) (w : World) (hu : Sl w u b) (hbl : b.length ≤ maxLen) :
    Calls Tryz.prog 139 #[.int .i64 p, u] w fun e w' => e = .returned (.int .i64 (bF p b : Int)) ∧ Below w.heap.size w w' := by
  unfold maxLen at hbl
  obtain ⟨ua, uc, rfl, hub⟩ := hu
  have HUB : Hid (∀ j, j < b.length → ∃ g o, ua = some ⟨g, o, none⟩ ∧ ∀ W, Below w.heap.size w W → W.cell? ⟨g, o + j, none⟩ = some (.int .i64 (b.getD j 0))) := fun j hj => by
    obtain ⟨g, o, e, hc⟩ := hub j hj
    exact ⟨g, o, e, fun W bW => (bW.cell (World.block_lt_of_cell? _ _ hc)).trans hc⟩
  obtain ⟨w1, Hw1⟩ : ∃ w1 : World, Hid (w1 = w) := ⟨_, rfl⟩
  rw [← Hw1.out] at HUB
  have HBN : Hid (∀ n, b.length = n → b.length = n) := fun _ h => h
  obtain ⟨z, HZ⟩ : ∃ z, Hid (bF p b = z) := ⟨_, rfl⟩
  rw [HZ.out]
  generalize hbn : b.length = bn at *
  clear hub
  go_enter Tryz.func139, Tryz.ntmps139
  go_wp2
  go_loopw [10] (fun jv wr' => ∃ j : Nat, jv = .int .i64 (j : Int) ∧ j ≤ bn ∧ Hid (∀ m, m < j → 0 ≤ b.getD m 0 ∧ b.getD m 0 < p) ∧ Below w1.heap.size w1 wr') (fun jv _ => (bn - intOf jv).toNat)
  case atStart => exact ⟨0, rfl, by omega, (show ∀ m, m < 0 → _ from fun m h => by omega), by rw [Hw1.out]; exact Below.refl _ _⟩
  case round =>
    obtain ⟨j, rfl, hj, HJ, hB2⟩ := hrel
    by_cases hlj : j < bn
    · have hdj : decide ((j : Int) < (bn : Int)) = true := by simp; omega
      have hji : (j : Int) < (bn : Int) := by omega
      obtain ⟨g, o, rfl, hcj0⟩ := HUB.out j hlj
      have hcj := hcj0 _ hB2
      obtain ⟨x, Hx⟩ : ∃ x, Hid (x = b.getD j 0) := ⟨_, (rfl : b.getD j 0 = b.getD j 0)⟩
      rw [← Hx.out] at hcj
      by_cases hneg : x < 0
      · have hb1 : bF p b = 1 := bF_out (j := j) (by omega) (by rw [← Hx.out]; omega)
        obtain rfl : z = 1 := by rw [← HZ.out, hb1]
        have hdx : decide (x < 0) = true := decide_eq_true hneg
        clear hneg hb1 hcj0
        go_wp2
        go_ret
        exact ⟨rfl, by rw [← Hw1.out]; exact hB2⟩
      · have hdx : decide (x < 0) = false := decide_eq_false hneg
        by_cases hge : p ≤ x
        · have hb1 : bF p b = 1 := bF_out (j := j) (by omega) (by rw [← Hx.out]; omega)
          obtain rfl : z = 1 := by rw [← HZ.out, hb1]
          have hdx2 : decide (p ≤ x) = true := decide_eq_true hge
          clear hneg hge hb1 hcj0
          go_wp2
          go_ret
          exact ⟨rfl, by rw [← Hw1.out]; exact hB2⟩
        · have hdx2 : decide (p ≤ x) = false := decide_eq_false hge
          have HJ2 : Hid (∀ m, m < j + 1 → 0 ≤ b.getD m 0 ∧ b.getD m 0 < p) := fun m hm => by
            by_cases e : m = j
            · subst e; rw [← Hx.out]; omega
            · exact HJ.out m (by omega)
          clear hneg hge HJ hcj0
          go_wp2
          go_roundw
          case rel => exact ⟨j + 1, by go_num, by omega, HJ2, hB2⟩
          case measure => simp [intOf]; omega
    · have hdj : decide ((j : Int) < (bn : Int)) = false := by simp; omega
      obtain rfl : j = bn := by omega
      clear hlj
      go_wp2
      go_loopw [7] (fun jv wr' => ∃ k : Nat, jv = .int .i64 (k : Int) ∧ 1 ≤ k ∧ (k ≤ j ∨ k = 1) ∧ Hid (∀ m, 1 ≤ m → m < k → m < j → b.getD (m - 1) 0 < b.getD m 0) ∧ Below w1.heap.size w1 wr') (fun jv _ => (j + 1 - intOf jv).toNat)
      case atStart => exact ⟨1, rfl, by omega, .inr rfl, (show ∀ m, 1 ≤ m → m < 1 → _ from fun m h h' => by omega), hB2⟩
      case round =>
        clear hB2
        obtain ⟨k, rfl, hk1, hkj, HK, hB3⟩ := hrel
        by_cases hlk : k < j
        · have hdk : decide ((k : Int) < (j : Int)) = true := by simp; omega
          have hki : (k : Int) < (j : Int) := by omega
          obtain ⟨k', Hk'⟩ : ∃ k', Hid (k = k' + 1) := ⟨k - 1, (by omega : k = k - 1 + 1)⟩
          have hsub : (k : Int) - 1 = (k' : Int) := by have := Hk'.out; omega
          have hk'i : (k' : Int) < (j : Int) := by have := Hk'.out; omega
          obtain ⟨g, o, rfl, hc0⟩ := HUB.out k hlk
          obtain ⟨g2, o2, e2, hc1⟩ := HUB.out k' (by have := Hk'.out; omega)
          obtain ⟨rfl, rfl⟩ : g = g2 ∧ o = o2 := by
            simp only [Option.some.injEq, Addr.mk.injEq] at e2
            exact ⟨e2.1, e2.2.1⟩
          have hck := hc0 _ hB3
          have hck' := hc1 _ hB3
          obtain ⟨x, Hx⟩ : ∃ x, Hid (x = b.getD k 0) := ⟨_, (rfl : b.getD k 0 = b.getD k 0)⟩
          obtain ⟨y, Hy⟩ : ∃ y, Hid (y = b.getD k' 0) := ⟨_, (rfl : b.getD k' 0 = b.getD k' 0)⟩
          rw [← Hx.out] at hck
          rw [← Hy.out] at hck'
          clear e2 hc0 hc1
          by_cases hle : x ≤ y
          · have hb1 : bF p b = 2 := bF_fall (j := k) (by rw [hbn]; exact HJ.out) hk1 (by omega) (by rw [← Hx.out, show k - 1 = k' by have := Hk'.out; omega, ← Hy.out]; exact hle)
            obtain rfl : z = 2 := by rw [← HZ.out, hb1]
            have hdx : decide (x ≤ y) = true := decide_eq_true hle
            clear hle hb1
            go_wp2
            go_quiet (fail)
            go_wp2
            go_ret
            exact ⟨rfl, by rw [← Hw1.out]; exact bdrewN hB3 _⟩
          · have hdx : decide (x ≤ y) = false := decide_eq_false hle
            have HK2 : Hid (∀ m, 1 ≤ m → m < k + 1 → m < j → b.getD (m - 1) 0 < b.getD m 0) := fun m h1 h2 h3 => by
              by_cases e : m = k
              · subst e; rw [show m - 1 = k' by have := Hk'.out; omega, ← Hx.out, ← Hy.out]; omega
              · exact HK.out m h1 (by omega) h3
            clear hle HK
            go_wp2
            go_quiet (fail)
            go_wp2
            go_roundw
            case rel => exact ⟨k + 1, by go_num, by omega, .inl (by omega), HK2, bdrewN hB3 _⟩
            case measure => simp [intOf]; omega
        · have hdk : decide ((k : Int) < (j : Int)) = false := by simp; omega
          have hb0 : bF p b = 0 := bF_ok (by rw [hbn]; exact HJ.out) (fun m h1 h2 => HK.out m h1 (by omega) (by omega))
          obtain rfl : z = 0 := by rw [← HZ.out, hb0]
          clear hb0
          go_wp2
          go_ret
          exact ⟨rfl, by rw [← Hw1.out]; exact hB3⟩

end Go.Proofs.YtgpkhfpejopacabGreatDoor

namespace Go.Proofs.YtgpkhfpejopacabGreatDoor
open Go.RowKit

theorem sb_take {b : List Nat} {j : Nat} (hj : j < b.length) : sb (b.take (j + 1)) = sb (b.take j) ||| 2 ^ b.getD j 0 := by
  rw [← sb_snoc, List.take_succ_eq_append_getElem hj, List.getD_eq_getElem?_getD, List.getElem?_eq_getElem hj]
  rfl
theorem take_lt {b : List Nat} {n : Nat} (h : ∀ x ∈ b, x < n) (j : Nat) : ∀ x ∈ b.take j, x < n := fun x hx => h x (List.mem_of_mem_take hx)
theorem getD_in {b : List Nat} {j : Nat} (hj : j < b.length) : b.getD j 0 ∈ b := by
  rw [List.getD_eq_getElem?_getD, List.getElem?_eq_getElem hj]; exact List.getElem_mem hj

set_option maxHeartbeats 4000000 in
theorem setOf_any (b : List Nat) (u : Value) (w : World) (hu : Sl w u (b.map Int.ofNat)) (hb : b.length ≤ 99) (hl : ∀ x ∈ b, x < 64) :
    Calls Tryz.prog 140 #[u] w fun e w' => e = .returned (.int .u64 (sb b : Int)) ∧ w' = w := by
  obtain ⟨a, cap, rfl, hc⟩ := hu
  have HC : Hid (∀ j, j < b.length → ∃ g off, a = some ⟨g, off, none⟩ ∧ w.cell? ⟨g, off + j, none⟩ = some (.int .i64 ((b.getD j 0 : Nat) : Int))) := fun j hj => by
    obtain ⟨g, off, e, h⟩ := hc j (by simpa using hj)
    exact ⟨g, off, e, by rw [h, ofNat_at b hj]⟩
  have HL : Hid (∀ x ∈ b, x < 64) := hl
  have HS : Hid (∀ j, j < b.length → sb (b.take (j + 1)) = sb (b.take j) ||| 2 ^ b.getD j 0) := fun j hj => sb_take hj
  rw [List.length_map]
  generalize hn : b.length = n at *
  clear hc hl
  go_enter Tryz.func140, Tryz.ntmps140
  go_wp2
  go_loopw [3, 8] (fun s iv wr => ∃ (j : Nat), iv = .int .i64 (j : Int) ∧ s = .int .u64 ((sb (b.take j) : Nat) : Int) ∧ j ≤ n ∧ wr = w) (fun _ iv _ => (n - intOf iv).toNat)
  case atStart => exact ⟨0, rfl, rfl, by omega, rfl⟩
  case round =>
    obtain ⟨j, rfl, rfl, hj, rfl⟩ := hrel
    by_cases hlt : j < n
    · have hd : decide ((j : Int) < (n : Int)) = true := by simp; omega
      have hji : (j : Int) < (n : Int) := by omega
      obtain ⟨g, off, rfl, hcj⟩ := HC.out j hlt
      have hx := HL.out _ (getD_in (b := b) (j := j) (by omega))
      have hor : bits .or .u64 ((sb (b.take j) : Nat) : Int) ((2 ^ b.getD j 0 : Nat) : Int) = ((sb (b.take (j + 1)) : Nat) : Int) := by
        rw [HS.out j hlt]
        exact orN (sb_lt (take_lt HL.out j)) (pow_lt64 hx)
      obtain ⟨x, Hx⟩ : ∃ x, Hid (x = b.getD j 0) := ⟨_, rfl⟩
      obtain ⟨S, HSj⟩ : ∃ S, Hid (S = sb (b.take j)) := ⟨_, rfl⟩
      obtain ⟨T, HT⟩ : ∃ T, Hid (T = sb (b.take (j + 1))) := ⟨_, rfl⟩
      rw [← Hx.out] at hcj hx hor
      rw [← HSj.out, ← HT.out] at hor
      rw [← HSj.out]
      have O := only_any x hx wr
      obtain ⟨P2, HP⟩ : ∃ P2, Hid (P2 = 2 ^ x) := ⟨_, (rfl : 2 ^ x = 2 ^ x)⟩
      rw [← HP.out] at hor O
      go_wp2_with (go_at_call 171; refine O.mono ?_; rintro e w' ⟨rfl, rfl⟩)
      go_roundw
      case rel => exact ⟨j + 1, by go_num, by rw [HT.out], by omega, by trivial⟩
      case measure => simp [intOf]; omega
    · have hd : decide ((j : Int) < (n : Int)) = false := by simp; omega
      obtain rfl : j = n := by omega
      rw [List.take_of_length_le (by omega)]
      clear HS
      go_wp2
      go_ret
      exact ⟨rfl, rfl⟩

end Go.Proofs.YtgpkhfpejopacabGreatDoor

/- The walk of open. -/
namespace Go.Proofs.YtgpkhfpejopacabGreatDoor
open Go.RowKit

theorem undS : Tryz.prog.underlying 167 = some (.slice 192) := by kernel_rfl
theorem infoS : ∃ i, Tryz.prog.info? 192 = some i ∧ i.zero = some (.int .u64 0) ∧ i.size = 1 ∧ i.bytes = 8 := by
  have h1 : (Tryz.prog.info? 192).map (·.zero) = some (some (.int .u64 0)) := by kernel_rfl
  have h2 : (Tryz.prog.info? 192).map (·.size) = some 1 := by kernel_rfl
  have h3 : (Tryz.prog.info? 192).map (·.bytes) = some 8 := by kernel_rfl
  cases h : Tryz.prog.info? 192 with
  | none => rw [h] at h1; cases h1
  | some i =>
    rw [h] at h1 h2 h3
    exact ⟨i, rfl, Option.some.inj h1, Option.some.inj h2, Option.some.inj h3⟩
theorem own_keepE {w w' : World} {base n : Nat} {e : TypeId} {v : Value} {xs : List Value} (h : w.ownsRow base e 1 v n xs) (k : ∀ b, base ≤ b → b < w.heap.size → w'.heap[b]? = w.heap[b]?) : w'.ownsRow base e 1 v n xs := by
  obtain ⟨h3, h4 | ⟨g, cap, cur, h5, h6, h7, h8⟩⟩ := h
  · exact ⟨h3, .inl h4⟩
  · exact ⟨h3, .inr ⟨g, cap, cur, h5, h6, (k g h6 (Array.getElem?_eq_some_iff.1 h7).1).trans h7, h8⟩⟩
theorem own_formE {w : World} {base n : Nat} {e : TypeId} {v : Value} {xs : List Value} (h : w.ownsRow base e 1 v n xs) : ∃ a c, v = .slice a n c := by
  obtain ⟨_, ⟨rfl, rfl⟩ | ⟨g, cap, cur, rfl, _⟩⟩ := h
  · exact ⟨_, _, rfl⟩
  · exact ⟨_, _, rfl⟩
theorem good_dF {v : Nat} {B : List (List Nat)} (G : GoodD v B) : dF (v : Int) (toZ B) = 0 := by
  have h1 := G.pos
  have h2 := G.le
  unfold dF
  rw [if_neg (by omega), if_neg (by have := G.few; simp [toZ]; omega)]
  refine blF_none fun m c hc => ?_
  obtain ⟨b, hb, rfl⟩ := List.mem_map.1 (List.mem_of_getElem? hc)
  have hr := rs_iff.1 (G.rs b hb)
  have key : ∀ j, j < b.length → (b.map Int.ofNat).getD j 0 = ((b.getD j 0 : Nat) : Int) := fun j hj => ofNat_at b hj
  refine bF_ok (fun j hj => ?_) (fun j hj1 hj => ?_)
  · rw [List.length_map] at hj
    rw [key j hj]
    have := (hr.2 _ (getD_in hj)).2
    omega
  · rw [List.length_map] at hj
    rw [key j hj, key (j - 1) (by omega)]
    have := List.pairwise_iff_getElem.1 hr.1 (j - 1) j (by omega) hj (by omega)
    rw [List.getD_eq_getElem?_getD, List.getD_eq_getElem?_getD, List.getElem?_eq_getElem hj, List.getElem?_eq_getElem (show j - 1 < b.length by omega)]
    simp only [Option.getD_some]
    omega
/-- The set of a list of numbers, as a value. -/
def sbV (b : List Int) : Value := .int .u64 ((sb (b.map Int.toNat) : Nat) : Int)
/-- A row of sets of one's own. -/
def SRow (w : World) (base : Nat) (v : Value) (S : List Nat) : Prop := w.ownsRow base 192 1 v S.length (S.map fun s => Value.int .u64 ((s : Nat) : Int))
theorem sbV_toZ (B : List (List Nat)) : (toZ B).map sbV = (B.map sb).map fun s => Value.int .u64 ((s : Nat) : Int) := by
  unfold toZ
  rw [List.map_map, List.map_map]
  refine List.map_congr_left fun b _ => ?_
  show sbV (b.map Int.ofNat) = _
  unfold sbV
  rw [List.map_map]
  have : Int.toNat ∘ Int.ofNat = id := by funext x; rfl
  rw [this, List.map_id]
  rfl

set_option maxHeartbeats 4000000 in
theorem open_far (p : Int) (v : Value) (w : World) (h : p < 1 ∨ 40 < p) :
    Calls Tryz.prog 113 #[.agg #[.int .i64 p, v]] w fun e w' => e = .returned (.tuple #[.slice none 0 0, .int .i64 1]) ∧ Below w.heap.size w w' := by
  obtain ⟨x0, x1⟩ := des_box p v w _ (Below.refl _ _)
  have hb := balloc w (.cells #[.int .i64 p, v] 25)
  by_cases h1 : p < 1
  · have hd : decide (p < 1) = true := decide_eq_true h1
    go_enter Tryz.func113, Tryz.ntmps113
    go_wp2
    exact bodyPost_ret (v := .tuple #[.slice none 0 0, .int .i64 1]) (by simp [results, Tryz.results113, go_sem]) rfl ⟨rfl, hb⟩
  · have hd : decide (p < 1) = false := decide_eq_false h1
    have hd2 : decide (40 < p) = true := decide_eq_true (by omega)
    go_enter Tryz.func113, Tryz.ntmps113
    go_wp2
    exact bodyPost_ret (v := .tuple #[.slice none 0 0, .int .i64 1]) (by simp [results, Tryz.results113, go_sem]) rfl ⟨rfl, hb⟩

set_option maxRecDepth 100000 in
set_option maxHeartbeats 8000000 in
theorem open_main (p : Int) (ls : List (List Int)) (v : Value) (w : World) (h1 : 1 ≤ p) (h40 : p ≤ 40) (hv : Rw w v ls) (_hl : ls.length ≤ maxLen) (hll : ∀ l ∈ ls, l.length ≤ maxLen) :
    Calls Tryz.prog 113 #[.agg #[.int .i64 p, v]] w fun e w' => (∃ x, e = .returned (.tuple #[x, .int .i64 (dF p ls : Int)]) ∧ (dF p ls ≠ 0 → x = .slice none 0 0) ∧ (dF p ls = 0 → w'.ownsRow (w.heap.size + 1) 192 1 x ls.length (ls.map sbV))) ∧ Below w.heap.size w w' := by
  have hd : decide (p < 1) = false := decide_eq_false (by omega)
  have hd2 : decide (40 < p) = false := decide_eq_false (by omega)
  have HC : Hid (∀ W, Below (w.alloc (.cells #[.int .i64 p, v] 25)).heap.size (w.alloc (.cells #[.int .i64 p, v] 25)) W → W.cell? ⟨w.heap.size, 0, none⟩ = some (.int .i64 p) ∧ W.cell? ⟨w.heap.size, 1, none⟩ = some v) := des_box p v w
  obtain ⟨w0, Hw0⟩ : ∃ w0, Hid (w0 = w.alloc (.cells #[.int .i64 p, v] 25)) := ⟨_, rfl⟩
  rw [← Hw0.out] at HC
  have HB0 : Hid (Below w.heap.size w w0) := by rw [Hw0.out]; exact balloc _ _
  have HW0 : Hid (w0.heap.size = w.heap.size + 1) := by show _ = _; rw [Hw0.out]; simp
  have HV : Hid (Rw w v ls) := hv
  have HLL : Hid (∀ l ∈ ls, l.length ≤ maxLen) := hll
  obtain ⟨a, cap, rfl, _⟩ := hv
  obtain ⟨x0, x1⟩ := HC.out _ (Below.refl _ _)
  rw [Hw0.out] at x0 x1
  by_cases hbig : 200 < ls.length
  · have hz : dF p ls = 3 := by unfold dF; rw [if_neg (by omega), if_pos hbig]
    rw [hz]
    have hdb : decide ((200 : Int) < (ls.length : Int)) = true := by simp; omega
    have hdn : decide (200 < ls.length) = true := decide_eq_true hbig
    unfold maxLen at _hl
    generalize hn : ls.length = n at *
    clear hll hz
    go_enter Tryz.func113, Tryz.ntmps113
    go_wp2
    exact bodyPost_ret (v := .tuple #[.slice none 0 0, .int .i64 3]) (by simp [results, Tryz.results113, go_sem]) rfl ⟨⟨_, rfl, fun _ => rfl, fun h => by cases h⟩, balloc w _⟩
  · have hz : dF p ls = blF p ls := by unfold dF; rw [if_neg (by omega), if_neg hbig]
    rw [hz]
    have HZ1 : Hid (∀ i b, ls[i]? = some b → (∀ m c, m < i → ls[m]? = some c → bF p c = 0) → bF p b ≠ 0 → blF p ls = bF p b) := fun i b => blF_at
    have HZ0 : Hid ((∀ (m : Nat) (c : List Int), ls[m]? = some c → bF p c = 0) → blF p ls = 0) := blF_none
    have HAT : Hid (∀ i, i < ls.length → ∃ b, ls[i]? = some b) := fun i hi => ⟨_, List.getElem?_eq_getElem hi⟩
    have HLE : Hid (∀ i b, ls[i]? = some b → i < ls.length) := fun i b h => (List.getElem?_eq_some_iff.1 h).1
    have HTK : Hid (∀ i b, ls[i]? = some b → (ls.take (i + 1)).map sbV = (ls.take i).map sbV ++ [sbV b]) := fun i b h => by
      rw [List.take_add_one, h]; simp
    have HALL : Hid ((ls.take ls.length).map sbV = ls.map sbV) := by show _ = _; rw [List.take_of_length_le (Nat.le_refl _)]
    have hdb : decide ((200 : Int) < (ls.length : Int)) = false := by simp; omega
    have hn2 : ls.length ≤ 200 := by omega
    generalize hzz : blF p ls = z at *
    generalize hn : ls.length = n at *
    clear hll hz hbig _hl hzz
    obtain ⟨i3, hi3, hz0, hz1, hz2⟩ := infoS
    have HP : Hid (1 ≤ p ∧ p ≤ 40) := ⟨h1, h40⟩
    go_enter Tryz.func113, Tryz.ntmps113
    go_wp2
    go_loopw [4, 23] (fun ov iv wr => ∃ i : Nat, iv = .int .i64 (i : Int) ∧ i ≤ n ∧ Hid (∀ m c, m < i → ls[m]? = some c → bF p c = 0) ∧ Below w0.heap.size w0 wr ∧ wr.ownsRow w0.heap.size 192 1 ov i ((ls.take i).map sbV)) (fun _ iv _ => (n - intOf iv).toNat)
    case atStart => exact ⟨0, rfl, by omega, (show ∀ m c, m < 0 → _ from fun m c h => by omega), by rw [Hw0.out]; exact Below.refl _ _, by rw [List.take_zero]; exact World.ownsRow_nil _ _ _ _⟩
    case round =>
      clear x0 x1
      obtain ⟨i, rfl, hi, HI, hB, hown⟩ := hrel
      obtain ⟨x0, x1⟩ := HC.out _ hB
      have hbz := hB.size
      by_cases hlt : i < n
      · have hdi : decide ((i : Int) < (n : Int)) = true := by simp; omega
        have hii : (i : Int) < (n : Int) := by omega
        obtain ⟨b, hbi⟩ := HAT.out i hlt
        have HBI : Hid (ls[i]? = some b) := hbi
        have hbl := HLL.out b (List.mem_of_getElem? hbi)
        obtain ⟨a', cap', e, hrows⟩ := HV.out.below (Below.next HB0.out hB)
        obtain ⟨bb, off, u, e2, hcell, hSu⟩ := hrows i b hbi
        obtain ⟨rfl, rfl⟩ : a = a' ∧ cap = cap' := by
          simp only [Value.slice.injEq] at e
          exact ⟨e.1, e.2.2⟩
        subst e2
        have C1 := checkBlock_any p b u wr hSu hbl
        obtain ⟨ua, uc, ue, _⟩ := id hSu
        have HSU : Hid (∀ W, Below wr.heap.size wr W → Sl W u b) := fun W bW => hSu.below bW
        obtain ⟨f, Hf⟩ : ∃ f, Hid (bF p b = f) := ⟨_, rfl⟩
        rw [Hf.out] at C1
        have HC2 : Hid (f = 0 → ∀ W, Below wr.heap.size wr W → ∃ s : Nat, sbV b = .int .u64 (s : Int) ∧ Calls Tryz.prog 140 #[u] W fun e w' => e = .returned (.int .u64 (s : Int)) ∧ w' = W) := fun h0 W bW => by
          obtain ⟨g1, g2⟩ := bF_zero (Hf.out.trans h0)
          obtain ⟨pv, rfl⟩ : ∃ pv : Nat, p = (pv : Int) := ⟨p.toNat, by have := HP.out; omega⟩
          obtain ⟨r1, r2⟩ := toNat_rs (lo := 0) (v := pv) (fun j hj => by have := g1 j hj; omega) g2
          have r3 := rs_iff.1 r1
          refine ⟨_, rfl, setOf_any (b.map Int.toNat) u W (by rw [r2]; exact HSU.out W bW) ?_ fun x hx => ?_⟩
          · have := (rise_pts r3.1 (fun x hx => (r3.2 x hx).2)).le
            have := HP.out
            omega
          · have := r3.2 x hx
            have := HP.out
            omega
        clear hSu hrows e hbi HSU
        by_cases hf : f = 0
        · have hfd : ((f : Int) != 0) = false := by simp [hf]
          have HI2 : Hid (∀ m c, m < i + 1 → ls[m]? = some c → bF p c = 0) := fun m c hm hc => by
            by_cases e : m = i
            · subst e
              rw [HBI.out] at hc
              obtain rfl := Option.some.inj hc
              rw [Hf.out]; exact hf
            · exact HI.out m c (by omega) hc
          have HTi := HTK.out i b HBI.out
          have HTI : Hid ((ls.take (i + 1)).map sbV = (ls.take i).map sbV ++ [sbV b]) := HTi
          clear HTi HI
          subst ue
          go_wp2_with (go_at_call 139; refine C1.mono ?_; rintro e w3 ⟨rfl, hb3⟩; clear C1)
          obtain ⟨s, hs, C2⟩ := HC2.out hf w3 hb3
          have hb3s := hb3.size
          have hown3 := own_keepE hown fun b _ hb => hb3.block b hb
          refine C2.mono ?_
          rintro e w4 ⟨rfl, hw⟩
          replace hw := hw.symm
          subst hw
          clear C2 x0 x1 hcell hown
          have hb03 : Below w0.heap.size w0 w3 := hB.trans (hb3.mono hbz)
          have hbz3 := hb03.size
          go_wp2_with (first
            | (at_builtin; refine wpList_append_own _ rfl _ _ 167 rfl w0.heap.size 192 i3 (.int .u64 0) 1 8 undS hi3 hz0 hz1 hz2 rfl (by decide) _ _ _ rfl (hown3.alloc _) ⟨w3.heap.size, 0, none⟩ 1 1 [.int .u64 (s : Int)] rfl rfl ?c1 ?c2 ?c3 ?c4 ?c5 ?_)
            | go_in)
          case c1 =>
            intro j u hj
            match j, hj with
            | 0, hj => simp at hj; subst hj; simp [Addr.add]
          case c2 => intro u hu; simp at hu; subst hu; rfl
          case c3 => unfold maxLen; omega
          case c4 => omega
          case c5 => simp; omega
          · intro v' w2 hown' hgrow _
            have hb2 : Below w0.heap.size w0 w2 := (hb03.alloc hbz3 _).grown hgrow (by simp; omega) (fun k hk => (hown3.lt k hk).1)
            go_wp2
            go_roundw
            case rel => exact ⟨i + 1, by go_num, by omega, HI2, hb2, by rw [HTI.out, hs, List.map_take]; exact hown'⟩
            case measure => simp [intOf]; omega
        · have hfd : ((f : Int) != 0) = true := by simp; omega
          have hzf := HZ1.out i b HBI.out HI.out (by rw [Hf.out]; exact hf)
          rw [Hf.out] at hzf
          subst hzf
          clear HI HC2
          subst ue
          go_wp2_with (go_at_call 139; refine C1.mono ?_; rintro e w3 ⟨rfl, hb3⟩; clear C1)
          refine bodyPost_ret (v := .tuple #[.slice none 0 0, .int .i64 (z : Int)]) (by simp [results, Tryz.results113, go_sem]) rfl ⟨⟨_, rfl, fun _ => rfl, fun h => (hf h).elim⟩, HB0.out.trans ?_⟩
          exact ((hB.trans (hb3.mono hbz)).mono HB0.out.size)
      · have hdi : decide ((i : Int) < (n : Int)) = false := by simp; omega
        obtain rfl : i = n := by omega
        have hzf := HZ0.out fun m c h => HI.out m c (HLE.out m c h) h
        subst hzf
        obtain ⟨ra, rc, er⟩ : ∃ a c, _ = Value.slice a i c := own_formE hown
        subst er
        rw [HALL.out, HW0.out] at hown
        clear HI hlt
        go_wp2
        exact bodyPost_ret (v := .tuple #[.slice ra i rc, .int .i64 0]) (by simp [results, Tryz.results113, go_sem]) rfl ⟨⟨_, rfl, hown⟩, HB0.out.trans (hB.mono HB0.out.size)⟩

theorem open_any (p : Int) (ls : List (List Int)) (v : Value) (w : World) (hv : Rw w v ls) (hl : ls.length ≤ maxLen) (hll : ∀ l ∈ ls, l.length ≤ maxLen) :
    Calls Tryz.prog 113 #[.agg #[.int .i64 p, v]] w fun e w' => (∃ x, e = .returned (.tuple #[x, .int .i64 (dF p ls : Int)]) ∧ (dF p ls ≠ 0 → x = .slice none 0 0) ∧ (dF p ls = 0 → w'.ownsRow (w.heap.size + 1) 192 1 x ls.length (ls.map sbV))) ∧ Below w.heap.size w w' := by
  by_cases h : p < 1 ∨ 40 < p
  · have hz : dF p ls = 1 := by unfold dF; rw [if_pos h]
    rw [hz]
    refine (open_far p v w h).mono ?_
    rintro e w' ⟨rfl, hb⟩
    exact ⟨⟨_, rfl, fun _ => rfl, fun h => by cases h⟩, hb⟩
  · exact open_main p ls v w (by omega) (by omega) hv hl hll
/-- A design that passes, opened. -/
theorem open_good (v : Nat) (B : List (List Nat)) (u : Value) (w : World) (G : GoodD v B) (hu : Rw w u (toZ B)) :
    Calls Tryz.prog 113 #[.agg #[.int .i64 (v : Int), u]] w fun e w' => (∃ x, e = .returned (.tuple #[x, .int .i64 0]) ∧ SRow w' (w.heap.size + 1) x (B.map sb)) ∧ Below w.heap.size w w' := by
  have hz : dF (v : Int) (toZ B) = 0 := good_dF G
  have hlen : (toZ B).length = B.length := by simp [toZ]
  refine (open_any (v : Int) (toZ B) u w hu ?_ ?_).mono ?_
  · rw [hlen]; have := G.few; unfold maxLen; omega
  · intro l hl
    obtain ⟨b, hb, rfl⟩ := List.mem_map.1 hl
    rw [List.length_map]
    have := G.len hb
    unfold maxLen; omega
  · rintro e w' ⟨⟨x, rfl, _, h2⟩, hb⟩
    rw [hz]
    refine ⟨⟨x, rfl, ?_⟩, hb⟩
    have := h2 hz
    unfold SRow
    rw [← sbV_toZ, List.length_map, ← hlen]
    exact this

end Go.Proofs.YtgpkhfpejopacabGreatDoor

/- The walks of Check, size, holding. -/
namespace Go.Proofs.YtgpkhfpejopacabGreatDoor
open Go.RowKit

theorem Check_any (p : Int) (ls : List (List Int)) (v : Value) (w : World) (hv : Rw w v ls) (hl : ls.length ≤ maxLen) (hll : ∀ l ∈ ls, l.length ≤ maxLen) :
    Calls Tryz.prog 68 #[.agg #[.int .i64 p, v]] w fun e w' => e = .returned (.int .i64 (dF p ls : Int)) ∧ Below w.heap.size w w' := by
  obtain ⟨x0, x1⟩ := des_box p v w _ (Below.refl _ _)
  have b0 := balloc w (.cells #[.int .i64 p, v] 25)
  have C1 := open_any p ls v _ (hv.below b0) hl hll
  generalize dF p ls = z at *
  clear hv hl hll
  go_enter Tryz.func68, Tryz.ntmps68
  go_wp2_with (go_at_call 113; refine C1.mono ?_; rintro e w3 ⟨⟨x, rfl, _, _⟩, hb3⟩; clear C1)
  go_ret
  exact ⟨rfl, Below.next b0 hb3⟩

/-- A row of sets that is read. -/
def SS (w : World) (v : Value) (S : List Nat) : Prop := ∃ a cap, v = .slice a S.length cap ∧ ∀ j, j < S.length → ∃ g off, a = some ⟨g, off, none⟩ ∧ w.cell? ⟨g, off + j, none⟩ = some (.int .u64 ((S.getD j 0 : Nat) : Int))
theorem SS.below {w w' : World} {v : Value} {S : List Nat} (h : SS w v S) (hb : Below w.heap.size w w') : SS w' v S := by
  obtain ⟨a, cap, rfl, h⟩ := h
  refine ⟨a, cap, rfl, fun j hj => ?_⟩
  obtain ⟨b, off, e, hc⟩ := h j hj
  exact ⟨b, off, e, (hb.cell (p := ⟨b, off + j, none⟩) (block_lt_of_cell hc)).trans hc⟩
theorem SRow.ss {w : World} {base : Nat} {v : Value} {S : List Nat} (h : SRow w base v S) : SS w v S := by
  obtain ⟨_, ⟨rfl, hn⟩ | ⟨g, cap, cur, rfl, _, hg, _, _, _, ht⟩⟩ := h
  · have : S = [] := List.length_eq_zero_iff.1 hn
    subst this
    exact ⟨none, 0, rfl, fun j hj => by simp at hj⟩
  · refine ⟨_, cap, rfl, fun j hj => ⟨g, 0, rfl, ?_⟩⟩
    rw [cell_of_row w g _ cur 192 (0, 0) hg]
    have h2 : (cur.toList.take (S.length * 1))[j]? = (S.map fun s => Value.int .u64 ((s : Nat) : Int))[j]? := by rw [ht]
    rw [List.getElem?_take, if_pos (by omega)] at h2
    rw [Nat.zero_add, ← Array.getElem?_toList, h2]
    simp [hj]

set_option maxHeartbeats 4000000 in
theorem holding_any (S : List Nat) (s : Nat) (u : Value) (w : World) (hu : SS w u S) (hl : S.length ≤ 200) (hs : s < 2 ^ 64) (hS : ∀ x ∈ S, x < 2 ^ 64) :
    Calls Tryz.prog 173 #[u, .int .u64 (s : Int)] w fun e w' => e = .returned (.int .i64 ((S.countP fun b => decide (an s b = 0) : Nat) : Int)) ∧ w' = w := by
  obtain ⟨a, cap, rfl, hc⟩ := hu
  have HC : Hid (∀ j, j < S.length → ∃ g off, a = some ⟨g, off, none⟩ ∧ w.cell? ⟨g, off + j, none⟩ = some (.int .u64 ((S.getD j 0 : Nat) : Int))) := hc
  have HT : Hid (∀ j, j < S.length → (S.take (j + 1)).countP (fun b => decide (an s b = 0)) = (S.take j).countP (fun b => decide (an s b = 0)) + if decide (an s (S.getD j 0) = 0) = true then 1 else 0) := fun j hj => by
    rw [List.take_succ_eq_append_getElem hj, List.countP_append, List.getD_eq_getElem?_getD, List.getElem?_eq_getElem hj, List.countP_singleton]
    rfl
  have HA : Hid ((S.take S.length).countP (fun b => decide (an s b = 0)) = S.countP fun b => decide (an s b = 0)) := by show _ = _; rw [List.take_of_length_le (Nat.le_refl _)]
  have HW : Hid (∀ j, j < S.length → ∀ W, Calls Tryz.prog 208 #[.int .u64 (s : Int), .int .u64 ((S.getD j 0 : Nat) : Int)] W fun e w' => e = .returned (.bool (decide (an s (S.getD j 0) = 0))) ∧ w' = W) := fun j hj W => within_any s _ _ hs (hS _ (getD_in hj)) rfl W
  have HN : Hid (∀ j, j ≤ S.length → (S.take j).countP (fun b => decide (an s b = 0)) ≤ 200) := fun j hj => by
    refine Nat.le_trans List.countP_le_length ?_
    rw [List.length_take]; omega
  generalize hn : S.length = n at *
  clear hc hS hs
  go_enter Tryz.func173, Tryz.ntmps173
  go_wp2
  go_loopw [5, 10] (fun cv iv wr => ∃ (j : Nat), iv = .int .i64 (j : Int) ∧ cv = .int .i64 (((S.take j).countP (fun b => decide (an s b = 0)) : Nat) : Int) ∧ j ≤ n ∧ wr = w) (fun _ iv _ => (n - intOf iv).toNat)
  case atStart => exact ⟨0, rfl, rfl, by omega, rfl⟩
  case round =>
    obtain ⟨j, rfl, rfl, hj, rfl⟩ := hrel
    by_cases hlt : j < n
    · have hd : decide ((j : Int) < (n : Int)) = true := by simp; omega
      have hji : (j : Int) < (n : Int) := by omega
      obtain ⟨g, off, rfl, hcj⟩ := HC.out j hlt
      have C1 := HW.out j hlt wr
      have hT := HT.out j hlt
      have hN := HN.out j hj
      obtain ⟨y, Hy⟩ : ∃ y, Hid (S.getD j 0 = y) := ⟨_, rfl⟩
      rw [Hy.out] at hcj C1 hT
      obtain ⟨q, Hq⟩ : ∃ q, Hid (decide (an s y = 0) = q) := ⟨_, rfl⟩
      rw [Hq.out] at C1 hT
      obtain ⟨c0, Hc0⟩ : ∃ c, Hid ((S.take j).countP (fun b => decide (an s b = 0)) = c) := ⟨_, rfl⟩
      obtain ⟨c1, Hc1⟩ : ∃ c, Hid ((S.take (j + 1)).countP (fun b => decide (an s b = 0)) = c) := ⟨_, rfl⟩
      rw [Hc0.out] at hT hN ⊢
      rw [Hc1.out] at hT
      cases q with
      | true =>
        rw [if_pos rfl] at hT
        go_wp2_with (go_at_call 208; refine C1.mono ?_; rintro e w' ⟨rfl, hw⟩; replace hw := hw.symm; subst hw)
        go_roundw
        case rel => exact ⟨j + 1, by go_num, by rw [Hc1.out, hT]; go_num, by omega, by trivial⟩
        case measure => simp [intOf]; omega
      | false =>
        rw [if_neg (by decide)] at hT
        go_wp2_with (go_at_call 208; refine C1.mono ?_; rintro e w' ⟨rfl, hw⟩; replace hw := hw.symm; subst hw)
        go_roundw
        case rel => exact ⟨j + 1, by go_num, by rw [Hc1.out, hT]; rfl, by omega, by trivial⟩
        case measure => simp [intOf]; omega
    · have hd : decide ((j : Int) < (n : Int)) = false := by simp; omega
      obtain rfl : j = n := by omega
      rw [HA.out]
      clear HT HW HN
      go_wp2
      go_ret
      exact ⟨rfl, rfl⟩

end Go.Proofs.YtgpkhfpejopacabGreatDoor

namespace Go.Proofs.YtgpkhfpejopacabGreatDoor
open Go.RowKit

theorem sizes_none (w : World) (a : Option Addr) (c : Nat) :
    Calls Tryz.prog 141 #[.slice a 0 c] w fun e w' => e = .returned (.tuple #[.int .i64 0, .bool false]) ∧ w' = w := by
  go_enter Tryz.func141, Tryz.ntmps141
  go_wp2
  exact bodyPost_ret (v := .tuple #[.int .i64 0, .bool false]) (by simp [results, Tryz.results141, go_sem]) rfl ⟨rfl, rfl⟩

set_option maxHeartbeats 4000000 in
theorem sizes_main (S : List Nat) (u : Value) (w : World) (hu : SS w u S) (hl : S.length ≤ 200) (hS : ∀ x ∈ S, x < 2 ^ 64) (hne : 0 < S.length) :
    Calls Tryz.prog 141 #[u] w fun e w' => ((e = .returned (.tuple #[.int .i64 (pc (S.getD 0 0) : Int), .bool true]) ∧ ∀ x ∈ S, pc x = pc (S.getD 0 0)) ∨ (e = .returned (.tuple #[.int .i64 0, .bool false]) ∧ ¬ ∃ k, ∀ x ∈ S, pc x = k)) ∧ w' = w := by
  obtain ⟨a, cap, rfl, hc⟩ := hu
  have HC : Hid (∀ j, j < S.length → ∃ g off, a = some ⟨g, off, none⟩ ∧ w.cell? ⟨g, off + j, none⟩ = some (.int .u64 ((S.getD j 0 : Nat) : Int))) := hc
  have HW : Hid (∀ j, j < S.length → ∀ W, Calls Tryz.prog 172 #[.int .u64 ((S.getD j 0 : Nat) : Int)] W fun e w' => e = .returned (.int .i64 (pc (S.getD j 0) : Int)) ∧ w' = W) := fun j hj W => size_any _ (hS _ (getD_in hj)) W
  have HY : Hid ((∀ m, m < S.length → pc (S.getD m 0) = pc (S.getD 0 0)) → ∀ x ∈ S, pc x = pc (S.getD 0 0)) := fun h x hx => by
    obtain ⟨m, hm, rfl⟩ := List.mem_iff_getElem.1 hx
    have := h m hm
    rwa [List.getD_eq_getElem?_getD, List.getElem?_eq_getElem hm] at this
  have HNo : Hid (∀ m, m < S.length → pc (S.getD m 0) ≠ pc (S.getD 0 0) → ¬ ∃ k, ∀ x ∈ S, pc x = k) := fun m hm h => by
    rintro ⟨k, hk⟩
    exact h ((hk _ (getD_in hm)).trans (hk _ (getD_in hne)).symm)
  have HP : Hid (∀ m, pc (S.getD m 0) ≤ 64) := fun m => pc_le _
  obtain ⟨g0, off0, rfl, hc0⟩ := HC.out 0 hne
  have C0 := HW.out 0 hne w
  obtain ⟨k0, Hk0⟩ : ∃ k, Hid (pc (S.getD 0 0) = k) := ⟨_, rfl⟩
  have hk64 := HP.out 0
  rw [Hk0.out] at C0 HY HNo hk64 ⊢
  obtain ⟨y0, Hy0⟩ : ∃ y, Hid (S.getD 0 0 = y) := ⟨_, rfl⟩
  rw [Hy0.out] at hc0 C0
  rw [Nat.add_zero] at hc0
  generalize hn : S.length = n at *
  have hn0 : ((n : Int) == 0) = false := by simp; omega
  have hn1 : (0 : Int) < (n : Int) := by omega
  clear hc hS
  go_enter Tryz.func141, Tryz.ntmps141
  go_wp2_with (go_at_call 172; refine C0.mono ?_; rintro e w' ⟨rfl, hw⟩; replace hw := hw.symm; subst hw; clear C0)
  go_loopw [16] (fun iv wr => ∃ (j : Nat), iv = .int .i64 (j : Int) ∧ j ≤ n ∧ Hid (∀ m, m < j → pc (S.getD m 0) = k0) ∧ wr = w) (fun iv _ => (n - intOf iv).toNat)
  case atStart => exact ⟨0, rfl, by omega, (show ∀ m, m < 0 → _ from fun m h => by omega), rfl⟩
  case round =>
    obtain ⟨j, rfl, hj, HJ, rfl⟩ := hrel
    by_cases hlt : j < n
    · have hd : decide ((j : Int) < (n : Int)) = true := by simp; omega
      have hji : (j : Int) < (n : Int) := by omega
      obtain ⟨g, off, e2, hcj⟩ := HC.out j hlt
      obtain ⟨rfl, rfl⟩ : g0 = g ∧ off0 = off := by
        simp only [Option.some.injEq, Addr.mk.injEq] at e2
        exact ⟨e2.1, e2.2.1⟩
      have C1 := HW.out j hlt wr
      have hp := HP.out j
      obtain ⟨y, Hy⟩ : ∃ y, Hid (S.getD j 0 = y) := ⟨_, rfl⟩
      rw [Hy.out] at hcj C1 hp
      obtain ⟨k1, Hk1⟩ : ∃ k, Hid (pc y = k) := ⟨_, rfl⟩
      rw [Hk1.out] at C1 hp
      by_cases he : k1 = k0
      · have hd2 : ((k1 : Int) != (k0 : Int)) = false := by simp [he]
        have HJ2 : Hid (∀ m, m < j + 1 → pc (S.getD m 0) = k0) := fun m hm => by
          by_cases e : m = j
          · subst e; rw [Hy.out, Hk1.out]; exact he
          · exact HJ.out m (by omega)
        clear he HJ e2
        go_wp2_with (go_at_call 172; refine C1.mono ?_; rintro e w' ⟨rfl, hw⟩; replace hw := hw.symm; subst hw; clear C1)
        go_roundw
        case rel => exact ⟨j + 1, by go_num, by omega, HJ2, by trivial⟩
        case measure => simp [intOf]; omega
      · have hd2 : ((k1 : Int) != (k0 : Int)) = true := by simp; omega
        have hno := HNo.out j hlt (by rw [Hy.out, Hk1.out]; exact he)
        have HNO : Hid (¬ ∃ k, ∀ x ∈ S, pc x = k) := hno
        clear he HJ e2 hno
        go_wp2_with (go_at_call 172; refine C1.mono ?_; rintro e w' ⟨rfl, hw⟩; replace hw := hw.symm; subst hw; clear C1)
        exact bodyPost_ret (v := .tuple #[.int .i64 0, .bool false]) (by simp [results, Tryz.results141, go_sem]) rfl ⟨.inr ⟨rfl, HNO.out⟩, rfl⟩
    · have hd : decide ((j : Int) < (n : Int)) = false := by simp; omega
      obtain rfl : j = n := by omega
      have hy := HY.out HJ.out
      have HYS : Hid (∀ x ∈ S, pc x = k0) := hy
      clear hy HJ
      go_wp2
      exact bodyPost_ret (v := .tuple #[.int .i64 (k0 : Int), .bool true]) (by simp [results, Tryz.results141, go_sem]) rfl ⟨.inl ⟨rfl, HYS.out⟩, rfl⟩

end Go.Proofs.YtgpkhfpejopacabGreatDoor

/- The walk of choices: all sets of t of the first points, one after another. -/
namespace Go.Proofs.YtgpkhfpejopacabGreatDoor
open Go.RowKit Go.Shelf

attribute [local go_sem] Oper.semAt_some

/-! ### The sets in their order -/
def chL : Nat → Nat → List Nat
  | 0, _ => [0]
  | t + 1, n => (List.range' t (n - t)).flatMap fun last => (chL t last).map fun s => s ||| 2 ^ last
def chC (t last : Nat) : Nat := ((List.range' t (last - t)).flatMap fun last => (chL t last).map fun s => s ||| 2 ^ last).length
theorem chC_succ {t last : Nat} (h : t ≤ last) : chC t (last + 1) = chC t last + (chL t last).length := by
  unfold chC
  rw [show last + 1 - t = (last - t) + 1 by omega, List.range'_concat, List.flatMap_append, List.length_append]
  congr 1
  simp [show t + (last - t) = last by omega]
theorem chL_len (t v : Nat) : (chL (t + 1) v).length = chC t v := rfl
theorem chC_zero (t : Nat) : chC t t = 0 := by unfold chC; simp
theorem chL_at {t last v i x : Nat} (h1 : t ≤ last) (h2 : last < v) (hx : (chL t last)[i]? = some x) : (chL (t + 1) v)[chC t last + i]? = some (x ||| 2 ^ last) := by
  have e : chL (t + 1) v = ((List.range' t (last - t)).flatMap fun last => (chL t last).map fun s => s ||| 2 ^ last) ++ (((chL t last).map fun s => s ||| 2 ^ last) ++ (List.range' (last + 1) (v - last - 1)).flatMap fun last => (chL t last).map fun s => s ||| 2 ^ last) := by
    show (List.range' t (v - t)).flatMap _ = _
    rw [show v - t = (last - t) + ((v - last - 1) + 1) by omega, ← List.range'_append, List.flatMap_append, Nat.one_mul, show t + (last - t) = last by omega, List.range'_succ, List.flatMap_cons]
  have hi := (List.getElem?_eq_some_iff.1 hx).1
  rw [e, List.getElem?_append_right (by unfold chC; omega)]
  have : chC t last + i - ((List.range' t (last - t)).flatMap fun last => (chL t last).map fun s => s ||| 2 ^ last).length = i := by unfold chC; omega
  rw [this, List.getElem?_append_left (by rw [List.length_map]; exact hi), List.getElem?_map, hx]
  rfl
theorem chL_lt : ∀ {t n : Nat} {s : Nat}, s ∈ chL t n → s < 2 ^ n
  | 0, n, s, h => by
    have : s = 0 := by simpa [chL] using h
    subst this
    exact Nat.two_pow_pos n
  | t + 1, n, s, h => by
    obtain ⟨last, h1, h2⟩ := List.mem_flatMap.1 h
    obtain ⟨x, h3, rfl⟩ := List.mem_map.1 h2
    have h4 := List.mem_range'_1.1 h1
    have h5 := chL_lt h3
    have h6 : last < n := by omega
    exact Nat.or_lt_two_pow (Nat.lt_of_lt_of_le h5 (Nat.pow_le_pow_right (by decide) (by omega))) (pow_lt64 h6)

def encS (s : Nat) : Array Value := #[.int .u64 (s : Int)]
def KS (bt bn l : Nat) (A B : World) : Prop := A.heap.size ≤ B.heap.size ∧ ∀ b, (b = bt ∨ b = bn ∨ l < b) → b < A.heap.size → B.heap[b]? = A.heap[b]?
theorem KS.trans {bt bn l : Nat} {A B C : World} (h : KS bt bn l A B) (k : KS bt bn l B C) : KS bt bn l A C := ⟨Nat.le_trans h.1 k.1, fun b hb hl => (k.2 b hb (Nat.lt_of_lt_of_le hl h.1)).trans (h.2 b hb hl)⟩
def AbO (W A B : World) : Prop := Below W.heap.size A B
theorem below_put {n l : Nat} (A : World) (o : Obj) (h : n ≤ l) : Below n A (A.putObj l o) := ⟨rfl, rfl, rfl, by simp [World.putObj], fun b hb => World.putObj_heap_other (by omega)⟩

theorem choices_any (v t : Nat) (w : World) :
    Calls Tryz.prog 175 #[.int .i64 (v : Int), .int .i64 (t : Int)] w fun e w' => e = .returned (.func (.func 209) #[] #[.pointer (some ⟨w.heap.size + 1, 0, none⟩), .pointer (some ⟨w.heap.size, 0, none⟩)]) ∧ w' = (w.alloc (.cells #[.int .i64 (v : Int)] 3)).alloc (.cells #[.int .i64 (t : Int)] 3) := by
  go_enter Tryz.func175, Tryz.ntmps175
  go_wp2
  go_ret
  exact ⟨rfl, rfl⟩

/-- In a round operations that defer nothing are carried out as everywhere. -/
theorem wpAnyIn_round {F : Fence} {n : Nat} {P : Program} {md : Region.Mode} {ops : Array Oper} {Q : Exit → Act → World → Prop} (l : Nat) (hd : ∀ (i : Nat) (o : Oper), ops[i]? = some o → ∀ c, o.op ≠ .defer c) :
    ∀ (fuel : Nat) (listed : Array Bool) (a : Act) (w : World), F.round = none → wpAnyIn F n P md ops Q fuel listed a w → wpAnyIn (F.inRound l) n P md ops Q fuel listed a w := by
  intro fuel
  induction fuel with
  | zero => intro listed a w _ h; exact h
  | succ fuel ih =>
    intro listed a w hro h
    refine ⟨h.1, fun i hi => ?_⟩
    have h2 := h.2 i hi
    unfold wpOpIn at h2 ⊢
    cases ho : ops[i]? with
    | none => rw [ho] at h2; exact ih _ _ _ hro h2
    | some o =>
      rw [ho] at h2
      simp only at h2 ⊢
      by_cases hw : Region.wanted o (yielded ops a.tmps) = true
      · rw [if_pos hw] at h2 ⊢
        have h3 := Oper.wpIn_mono (fun a w h => ih _ a w hro h) h2
        refine ⟨h3.1, ?_⟩
        have h4 := h3.2
        rw [Oper.semAt_eq _ _ _ (hd i o ho)] at h4 ⊢
        exact h4
      · rw [if_neg hw] at h2 ⊢
        exact ⟨h2.1, ih _ _ _ hro h2.2⟩
theorem wide_no {p : Prop} (h : Fence.wide.depth.isSome = true) : p := by cases h
theorem boxAt {W W' : World} {B : Nat} {t : TypeId} {v : Value} (h : Boxed W B t v) (hb : W'.heap[B]? = W.heap[B]?) : Boxed W' B t v := hb.trans h
theorem boxBelow {W W' : World} {B n : Nat} {t : TypeId} {v : Value} (h : Boxed W B t v) (hb : Below n W W') (hn : B < n) : Boxed W' B t v := boxAt h (hb.block B hn)
def markOf (r : Nat) : Deferred := { target := .collected r, args := #[] }

set_option maxHeartbeats 2000000 in
theorem ch_zero (v n bt bn : Nat) (w : World) (h1 : Boxed w bt 3 (.int .i64 ((0 : Nat) : Int))) : Runs n Tryz.prog 209 #[.pointer (some ⟨bt, 0, none⟩), .pointer (some ⟨bn, 0, none⟩)] (chL 0 v) encS (KS bt bn) AbO w := by
  intro l J Jx W hbW hl1 hl2 hJ hJx hY hJ0
  have c1 : Boxed W bt 3 _ := boxBelow h1 hbW h1.lt
  have bA : Below W.heap.size W (W.alloc (.cells #[.func (.yield l) #[] #[]] 248)) := balloc W _
  have c2 := Boxed.cell (boxBelow c1 bA (Boxed.lt c1))
  obtain ⟨fn, tmps, assign, body, hy, hR⟩ := hY 0 0 (W.alloc (.cells #[.func (.yield l) #[] #[]] 248)) rfl (hJ _ _ _ hJ0 bA)
  have hy' : (Instr.yield l #[Value.int .u64 0]).run Tryz.prog (W.alloc (.cells #[.func (.yield l) #[] #[]] 248)) = _ := hy
  refine callsIn_of_wp Tryz.func209 rfl trivial ?_ rfl
  simp only [Tryz.ntmps209, List.size_toArray, List.length_cons, List.length_nil, Nat.reduceAdd, Nat.reduceSub, Array.replicate_succ, Array.replicate_zero, List.push_toArray, List.append_toArray, List.nil_append, List.cons_append]
  gi_wp2
  refine ⟨(fun h => by cases h), hR.mono ?_⟩
  rintro e B (⟨rfl, hJ1, _⟩ | ⟨rfl, hJx1, _⟩)
  · gi_wp2
    exact bodyPost_ret (results_none rfl _ _ _) rfl ⟨⟨_, rfl⟩, .inl hJ1⟩
  · gi_wp2
    exact bodyPost_ret (results_none rfl _ _ _) rfl ⟨⟨_, rfl⟩, .inr ⟨0, hJx1⟩⟩

/-- What the iterator holds between two rounds. -/
structure ChI (W : World) (bt bn y4 : Nat) (yv : Value) (t v last : Nat) (rs : List Nat) (A : World) : Prop where
  y : Boxed A W.heap.size 248 yv
  l4 : Boxed A y4 3 (.int .i64 (last : Int))
  bt : Boxed A bt 3 (.int .i64 ((t + 1 : Nat) : Int))
  bn : Boxed A bn 3 (.int .i64 (v : Int))
  nd : rs.Nodup
  mks : ∀ r ∈ rs, W.heap.size ≤ r ∧ A.heap[r]? = some (.deferred (some []))
  lo : W.heap.size < y4
theorem ChI.mv {W A B : World} {bt bn y4 t v last : Nat} {yv : Value} {rs : List Nat} (h : ChI W bt bn y4 yv t v last rs A) (k : ∀ b, (b = bt ∨ b = bn ∨ b = y4 ∨ b = W.heap.size ∨ b ∈ rs) → B.heap[b]? = A.heap[b]?) : ChI W bt bn y4 yv t v last rs B :=
  ⟨boxAt h.y (k _ (by simp)), boxAt h.l4 (k _ (by simp)), boxAt h.bt (k _ (by simp)), boxAt h.bn (k _ (by simp)), h.nd, fun r hr => ⟨(h.mks r hr).1, (k r (by simp [hr])).trans (h.mks r hr).2⟩, h.lo⟩
theorem ChI.low {W A : World} {bt bn y4 t v last : Nat} {yv : Value} {rs : List Nat} (h : ChI W bt bn y4 yv t v last rs A) (b : Nat) (hb : b = bt ∨ b = bn ∨ b = y4 ∨ b = W.heap.size ∨ b ∈ rs) : b < A.heap.size := by
  rcases hb with rfl | rfl | rfl | rfl | hb
  · exact h.bt.lt
  · exact h.bn.lt
  · exact h.l4.lt
  · exact h.y.lt
  · exact (Array.getElem?_eq_some_iff.1 (h.mks b hb).2).1
theorem ChI.high {W A : World} {bt bn y4 t v last l : Nat} {yv : Value} {rs : List Nat} (h : ChI W bt bn y4 yv t v last rs A) (hl : l < W.heap.size) (b : Nat) (hb : b = bt ∨ b = bn ∨ b = y4 ∨ b = W.heap.size ∨ b ∈ rs) : b = bt ∨ b = bn ∨ l < b := by
  rcases hb with rfl | rfl | rfl | rfl | hb
  · exact .inl rfl
  · exact .inr (.inl rfl)
  · have := h.lo; exact .inr (.inr (by omega))
  · exact .inr (.inr hl)
  · have := (h.mks b hb).1; exact .inr (.inr (by omega))
theorem ChI.keep {W A B : World} {bt bn y4 t v last l : Nat} {yv : Value} {rs : List Nat} (h : ChI W bt bn y4 yv t v last rs A) (hl : l < W.heap.size) (k : ∀ b, (b = bt ∨ b = bn ∨ l < b) → b < A.heap.size → B.heap[b]? = A.heap[b]?) : ChI W bt bn y4 yv t v last rs B :=
  h.mv fun b hb => k b (h.high hl b hb) (h.low b hb)
theorem ChI.size {W A : World} {bt bn y4 t v last : Nat} {yv : Value} {rs : List Nat} (h : ChI W bt bn y4 yv t v last rs A) : y4 < A.heap.size := h.l4.lt
/-- All marks are taken over, at the function's end. -/
theorem marks_leave {F : Fence} {n : Nat} {P : Program} {fn : Func} {tmps : Array Value} {R : Ending → World → Prop} {m : Nat} (hres : fn.results = #[]) : ∀ (rs : List Nat) (A : World), rs.Nodup → (∀ r ∈ rs, m ≤ r ∧ A.heap[r]? = some (.deferred (some []))) → (∀ B v, Below m A B → R (.returned v) B) → LeavesInM F n P fn tmps R (rs.map markOf) .returning A := by
  intro rs
  induction rs with
  | nil =>
    intro A _ _ hR
    exact ⟨_, results_none hres _ _ _, hR A _ (Below.refl _ _)⟩
  | cons r rs ih =>
    intro A hn hm hR
    obtain ⟨h1, h2⟩ := hm r List.mem_cons_self
    obtain ⟨h3, h4⟩ := List.nodup_cons.1 hn
    refine ⟨by simp, .inl ⟨r, _, rfl, run_takeDeferred h2, ih _ h4 (fun q hq => ?_) fun B v hb => hR B v ((below_put A _ h1).trans hb)⟩⟩
    refine ⟨(hm q (List.mem_cons_of_mem _ hq)).1, (World.putObj_heap_other (show q ≠ r from fun e => h3 (e ▸ hq))).trans (hm q (List.mem_cons_of_mem _ hq)).2⟩

def boxN (w : World) : Value → Nat
  | .pointer (some a) => match w.cell? a with
    | some (.int _ n) => n.toNat
    | _ => 0
  | _ => 0
theorem boxN_of {w : World} {b n : Nat} (h : Boxed w b 3 (.int .i64 (n : Int))) : boxN w (.pointer (some ⟨b, 0, none⟩)) = n := by
  show (match w.cell? ⟨b, 0, none⟩ with
    | some (.int _ n) => n.toNat
    | _ => 0) = n
  rw [h.cell]
  rfl

set_option maxRecDepth 100000 in
set_option maxHeartbeats 8000000 in
theorem ch_succ (t : Nat) (ht : t < 4) (ih : ∀ (v n bt bn : Nat) (w : World), v ≤ 40 → Boxed w bt 3 (.int .i64 (t : Int)) → Boxed w bn 3 (.int .i64 (v : Int)) → Runs n Tryz.prog 209 #[.pointer (some ⟨bt, 0, none⟩), .pointer (some ⟨bn, 0, none⟩)] (chL t v) encS (KS bt bn) AbO w)
    (v n bt bn : Nat) (w : World) (hv : v ≤ 40) (h1 : Boxed w bt 3 (.int .i64 ((t + 1 : Nat) : Int))) (h2 : Boxed w bn 3 (.int .i64 (v : Int))) :
    Runs n Tryz.prog 209 #[.pointer (some ⟨bt, 0, none⟩), .pointer (some ⟨bn, 0, none⟩)] (chL (t + 1) v) encS (KS bt bn) AbO w := by
  intro l J Jx W hbW hl1 hl2 hJ hJx hY hJ0
  have HJ : Hid (∀ i A B, J i A → Below W.heap.size A B → J i B) := hJ
  have HJX : Hid (∀ i A B, Jx i A → Below W.heap.size A B → Jx i B) := hJx
  have HY : Hid (∀ (i x : Nat) (A : World) (m : Nat), (chL (t + 1) v)[i]? = some x → J i A → YieldAt Fence.wide m Tryz.prog l #[.int .u64 (x : Int)] A fun e B => (e = .returned (.bool true) ∧ J (i + 1) B ∧ KS bt bn l A B) ∨ (e = .returned (.bool false) ∧ Jx i B ∧ KS bt bn l A B)) := fun i x A m hx hA => YieldAt.anyD (hY i x A hx hA) m
  have HIH : Hid (∀ (v n bt bn : Nat) (w : World), v ≤ 40 → Boxed w bt 3 (.int .i64 (t : Int)) → Boxed w bn 3 (.int .i64 (v : Int)) → Runs n Tryz.prog 209 #[.pointer (some ⟨bt, 0, none⟩), .pointer (some ⟨bn, 0, none⟩)] (chL t v) encS (KS bt bn) AbO w) := ih
  have c1 : Boxed W bt 3 _ := boxBelow h1 hbW h1.lt
  have c2 : Boxed W bn 3 _ := boxBelow h2 hbW h2.lt
  clear hJ hJx hY ih h1 h2
  obtain ⟨W1, HW1⟩ : ∃ W1, Hid (W1 = W.alloc (.cells #[.func (.yield l) #[] #[]] 248)) := ⟨_, rfl⟩
  have bA : Below W.heap.size W (W.alloc (.cells #[.func (.yield l) #[] #[]] 248)) := balloc W _
  have d1 := boxBelow c1 bA c1.lt
  have d2 := boxBelow c2 bA c2.lt
  have d3 := Boxed.new W 248 (.func (.yield l) #[] #[])
  have x1 := d1.cell
  have hne : (((t + 1 : Nat) : Int) == 0) = false := by simp; omega
  have hsub : ((t + 1 : Nat) : Int) - 1 = (t : Int) := by omega
  obtain ⟨T, HT⟩ : ∃ T : Int, Hid (T = ((t + 1 : Nat) : Int)) := ⟨_, rfl⟩
  have hT5 : 1 ≤ T ∧ T ≤ 5 := by have := HT.out; omega
  rw [← HT.out] at x1 hne hsub
  refine callsIn_of_wp_marks Tryz.func209 rfl trivial ?_ rfl
  simp only [Tryz.ntmps209, List.size_toArray, List.length_cons, List.length_nil, Nat.reduceAdd, Nat.reduceSub, Array.replicate_succ, Array.replicate_zero, List.push_toArray, List.append_toArray, List.nil_append, List.cons_append]
  gi_wp2
  refine wpIn_loop (fun a A => ∃ (u5 u12 u13 u14 u15 u16 u17 u18 u19 u20 u21 u22 u23 u24 u25 u26 u27 u28 u29 : Value) (last y4 : Nat) (rs : List Nat), a = { tmps := #[.func (.yield l) #[] #[], .pointer (some ⟨bt, 0, none⟩), .pointer (some ⟨bn, 0, none⟩), .pointer (some ⟨W.heap.size, 0, none⟩), .pointer (some ⟨y4, 0, none⟩), u5, .int .i64 T, .bool false, undef, undef, .int .i64 T, .int .i64 (t : Int), u12, u13, u14, u15, u16, u17, u18, u19, u20, u21, u22, u23, u24, u25, u26, u27, u28, u29], defers := rs.map markOf } ∧ t ≤ last ∧ (last ≤ v ∨ last = t) ∧ ChI W bt bn y4 (.func (.yield l) #[] #[]) t v last rs A ∧ J (chC t last) A) (fun a A => v - boxN A (a.tmps.getD 4 undef)) ?start ?round
  case start =>
    refine ⟨undef, undef, undef, undef, undef, undef, undef, undef, undef, undef, undef, undef, undef, undef, undef, undef, undef, undef, undef, t, W.heap.size + 1, [], rfl, Nat.le_refl _, .inr rfl, ?_, ?_⟩
    · have f1 := Boxed.new (W.alloc (.cells #[.func (.yield l) #[] #[]] 248)) 3 (.int .i64 (t : Int))
      rw [World.size_alloc] at f1
      exact ⟨d3.alloc _, f1, d1.alloc _, d2.alloc _, List.nodup_nil, fun r hr => by simp at hr, by omega⟩
    · rw [chC_zero]
      exact HJ.out _ _ _ hJ0 (bA.alloc (by simp) _)
  case round =>
    rintro a A ⟨u5, u12, u13, u14, u15, u16, u17, u18, u19, u20, u21, u22, u23, u24, u25, u26, u27, u28, u29, last, y4, rs, rfl, hl3, hl4, hC, hJA⟩
    have HM : Hid (boxN A (.pointer (some ⟨y4, 0, none⟩)) = last) := boxN_of hC.l4
    have k4 := hC.l4.cell
    have kt := hC.bt.cell
    have kn := hC.bn.cell
    rw [← HT.out] at kt
    by_cases hlt : last < v
    · have hd : decide ((last : Int) < (v : Int)) = true := by simp; omega
      have CC := choices_any last t A
      gi_wp2_with (refine ⟨trivial, (fun h => wide_no h), (callsIn_wide.2 CC).mono ?_⟩; rintro e A2 ⟨rfl, hA2⟩; clear CC)
      have hWA : W.heap.size + 2 ≤ A.heap.size := by have := hC.size; have := hC.lo; omega
      have bA2 : Below A.heap.size A ((A.alloc (.cells #[.int .i64 (last : Int)] 3)).alloc (.cells #[.int .i64 (t : Int)] 3)) := (balloc A _).alloc (by simp) _
      have e1 : Boxed ((A.alloc (.cells #[.int .i64 (last : Int)] 3)).alloc (.cells #[.int .i64 (t : Int)] 3)) (A.heap.size + 1) 3 (.int .i64 (t : Int)) := by
        have h := Boxed.new (A.alloc (.cells #[.int .i64 (last : Int)] 3)) 3 (.int .i64 (t : Int))
        rw [World.size_alloc] at h
        exact h
      have e2 : Boxed ((A.alloc (.cells #[.int .i64 (last : Int)] 3)).alloc (.cells #[.int .i64 (t : Int)] 3)) A.heap.size 3 (.int .i64 (last : Int)) := (Boxed.new A 3 (.int .i64 (last : Int))).alloc _
      have sA2 : ((A.alloc (.cells #[.int .i64 (last : Int)] 3)).alloc (.cells #[.int .i64 (t : Int)] 3)).heap.size = A.heap.size + 2 := by simp
      obtain ⟨A2, HA2⟩ : ∃ A2, Hid (A2 = (A.alloc (.cells #[.int .i64 (last : Int)] 3)).alloc (.cells #[.int .i64 (t : Int)] 3)) := ⟨_, rfl⟩
      rw [← HA2.out] at bA2 e1 e2 sA2 ⊢
      have hC2 : ChI W bt bn y4 (.func (.yield l) #[] #[]) t v last rs A2 := hC.keep hl2 fun b _ hb => bA2.block b hb
      have hJ2 : J (chC t last) A2 := HJ.out _ _ _ hJA (bA2.mono (by omega))
      clear HA2
      have hsz : ∀ V, Below A2.heap.size A2 V → ChI W bt bn y4 (.func (.yield l) #[] #[]) t v last rs V := fun V hb => hC2.keep hl2 fun b _ h => hb.block b h
      refine wpIn_runs (ys := chL t last) (enc := encS) (Kp := KS (A.heap.size + 1) A.heap.size) (Ab := AbO) (gf := 209) (lb := #[.pointer (some ⟨A.heap.size + 1, 0, none⟩), .pointer (some ⟨A.heap.size, 0, none⟩)]) rfl (enters_of Tryz.func209 (by kernel_rfl) rfl)
        (HIH.out last (n - 1) _ _ A2 (by omega) e1 e2) (fun _ => rfl) KS.trans ?hKb ?hAb
        (fun i B => J (chC t last + i) B ∧ ChI W bt bn y4 (.func (.yield l) #[] #[]) t v last rs B ∧ A2.heap.size ≤ B.heap.size) (fun i B => Jx (chC t last + i) B ∧ ChI W bt bn y4 (.func (.yield l) #[] #[]) t v last rs B ∧ A2.heap.size ≤ B.heap.size) ?hIp ?hXp ?hIa ?hXa ?h0
        (fun x => { tmps := #[.func (.yield l) #[] #[], .pointer (some ⟨bt, 0, none⟩), .pointer (some ⟨bn, 0, none⟩), .pointer (some ⟨W.heap.size, 0, none⟩), .pointer (some ⟨y4, 0, none⟩), .int .u64 (x : Int), .int .i64 T, .bool false, undef, undef, .int .i64 T, .int .i64 (t : Int), .int .i64 (last : Int), .int .i64 (v : Int), .bool true, u15, u16, .int .i64 (last : Int), .int .i64 T, .int .i64 (t : Int), .func (.func 209) #[] #[.pointer (some ⟨A.heap.size + 1, 0, none⟩), .pointer (some ⟨A.heap.size, 0, none⟩)], .int .u64 (x : Int), u22, u23, u24, u25, u26, u27, u28, u29], defers := [] }) ?assign ?body ?done ?stop
      case hKb =>
        intro B o hB
        exact ⟨by simp [World.putObj], fun b hb _ => World.putObj_heap_other (by omega)⟩
      case hAb =>
        intro V B C h3 h4 hb b hlt
        exact hb.block b (by omega)
      case hIp =>
        rintro i B o o' ⟨g1, g2, g3⟩ _ _
        exact ⟨HJ.out _ _ _ g1 (below_put _ _ (by omega)), g2.mv fun b hb => World.putObj_heap_other (by have := hC2.low b hb; omega), by simpa [World.putObj] using g3⟩
      case hXp =>
        rintro i B o o' ⟨g1, g2, g3⟩ _ _
        exact ⟨HJX.out _ _ _ g1 (below_put _ _ (by omega)), g2.mv fun b hb => World.putObj_heap_other (by have := hC2.low b hb; omega), by simpa [World.putObj] using g3⟩
      case hIa =>
        rintro i V B C ⟨g1, g2, g3⟩ _ h4 hb
        exact ⟨HJ.out _ _ _ g1 (Below.mono hb (by omega)), g2.mv fun b h => hb.block b (by have := hC2.low b h; omega), Nat.le_trans g3 hb.size⟩
      case hXa =>
        rintro i V B C ⟨g1, g2, g3⟩ _ h4 hb
        exact ⟨HJX.out _ _ _ g1 (Below.mono hb (by omega)), g2.mv fun b h => hb.block b (by have := hC2.low b h; omega), Nat.le_trans g3 hb.size⟩
      case h0 =>
        intro V hb
        exact ⟨HJ.out _ _ _ hJ2 (hb.mono (by omega)), hsz V hb, hb.size⟩
      case assign =>
        intro l x W K _ hK
        unfold encS
        gi_wp2
        exact hK
      case body =>
        rintro i x B hx ⟨g1, g2, g3⟩ hD
        have q3 := g2.y.cell
        have q4 := g2.l4.cell
        have hlast : last < 64 := by omega
        have hx64 : x < 2 ^ 64 := Nat.lt_of_lt_of_le (chL_lt (List.mem_of_getElem? hx)) (Nat.pow_le_pow_right (by decide) (by omega))
        have hor := orN hx64 (pow_lt64 hlast)
        have hat := chL_at hl3 hlt hx
        obtain ⟨z, Hz⟩ : ∃ z, Hid (z = x ||| 2 ^ last) := ⟨_, (rfl : x ||| 2 ^ last = x ||| 2 ^ last)⟩
        obtain ⟨y, Hy⟩ : ∃ y, Hid (y = 2 ^ last) := ⟨_, (rfl : 2 ^ last = 2 ^ last)⟩
        have O : ∀ C, Calls Tryz.prog 171 #[.int .i64 (last : Int)] C fun e w' => e = .returned (.int .u64 (y : Int)) ∧ w' = C := fun C => by
          rw [Hy.out]; exact only_any last hlast C
        rw [← Hz.out] at hat hor
        rw [← Hy.out] at hor
        obtain ⟨fn, tmps, assign, body, hy, hR⟩ := HY.out (chC t last + i) z B.drew (n - 1 - 1 - 1) hat (HJ.out _ _ _ g1 (bdrewN (Below.refl _ _) 1))
        have KD : Hid (∀ C, KS bt bn l B.drew C → C.heap[A2.heap.size]? = B.heap[A2.heap.size]?) := fun C h => h.2 _ (.inr (.inr (by omega))) (show A2.heap.size < B.heap.size by omega)
        have KD1 : Hid (∀ C, KS bt bn l B.drew C → C.heap[A2.heap.size + 1]? = B.heap[A2.heap.size + 1]?) := fun C h => h.2 _ (.inr (.inr (by omega))) (show A2.heap.size + 1 < B.heap.size by omega)
        have KK : Hid (∀ C, KS bt bn l B.drew C → KS (A.heap.size + 1) A.heap.size (A2.heap.size + 1) B C) := fun C h => ⟨h.1, fun b hb hlt => h.2 b (.inr (.inr (by omega))) hlt⟩
        have KI : Hid (∀ C, KS bt bn l B.drew C → ChI W bt bn y4 (.func (.yield l) #[] #[]) t v last rs C ∧ A2.heap.size ≤ C.heap.size) := fun C h => ⟨g2.keep hl2 fun b hb hlt => h.2 b hb hlt, Nat.le_trans g3 h.1⟩
        clear hat
        gi_wp2
        refine wpIn_region_any (by kernel_rfl) (wpAnyIn_round (A2.heap.size + 1) (fun i o h c e => by revert h; revert i; intro i h; have hm := Array.mem_of_getElem? h; simp at hm; rcases hm with rfl | rfl | rfl | rfl | rfl | rfl | rfl <;> cases e) _ _ _ _ rfl ?_)
        try (change wpAnyIn _ _ _ _ _ _ _ _ _ (World.drew _))
        refine wpAnyIn_take (i := 1) (v := .int .u64 (x : Int)) rfl rfl (by kernel_rfl) (by kernel_rfl) (by kernel_rfl) (fun _ _ _ h => h) ⟨Or.inl ⟨by rfl, fun w => by go_simp⟩, fun _ => rfl⟩ ?_
        refine wpAnyIn_ready (rs := [0, 2]) (by kernel_rfl) (by simp) (AllReadyIn.cons rfl (fun K hK => ?_) (AllReadyIn.cons rfl (fun K hK => ?_) AllReadyIn.nil))
        · go_simp
          refine hK _ _ ?_
          clear hK K
          refine wpAnyIn_ready (rs := [2]) (by kernel_rfl) (by simp) (AllReadyIn.cons rfl (fun K hK => ?_) AllReadyIn.nil)
          go_simp
          refine hK _ _ ?_
          clear hK K
          refine wpAnyIn_ready (rs := [3]) (by kernel_rfl) (by simp) (AllReadyIn.cons rfl (fun K hK => ?_) AllReadyIn.nil)
          go_simp
          refine ⟨trivial, (fun h => wide_no h), (callsIn_wide.2 (O _)).mono ?_⟩
          rintro e C0 ⟨rfl, hC0⟩
          subst hC0
          refine hK _ _ ?_
          clear hK K
          refine wpAnyIn_take (i := 4) (v := .int .u64 (z : Int)) rfl rfl (by kernel_rfl) (by kernel_rfl) (by kernel_rfl) (fun _ _ _ h => h) ⟨Or.inl ⟨by rfl, fun w => by go_simp⟩, fun _ => rfl⟩ ?_
          refine wpAnyIn_ready (rs := [5]) (by kernel_rfl) (by simp) (AllReadyIn.cons rfl (fun K hK => ?_) AllReadyIn.nil)
          go_simp
          refine ⟨(fun h => wide_no h), hR.mono ?_⟩
          rintro e C (⟨rfl, hJ3, hk3⟩ | ⟨rfl, hJ3, hk3⟩)
          · refine hK _ _ ?_
            clear hK K
            refine wpAnyIn_take (i := 6) (v := .bool false) rfl rfl (by kernel_rfl) (by kernel_rfl) (by kernel_rfl) (fun _ _ _ h => h) ⟨Or.inl ⟨by rfl, fun w => by go_simp⟩, fun _ => rfl⟩ ?_
            refine wpAnyIn_done (by kernel_rfl) ?_ _
            gi_wp2
            exact ⟨⟨KD.out C hk3, KD1.out C hk3⟩, KK.out C hk3, hJ3, KI.out C hk3⟩
          · refine hK _ _ ?_
            clear hK K
            refine wpAnyIn_take (i := 6) (v := .bool true) rfl rfl (by kernel_rfl) (by kernel_rfl) (by kernel_rfl) (fun _ _ _ h => h) ⟨Or.inl ⟨by rfl, fun w => by go_simp⟩, fun _ => rfl⟩ ?_
            refine wpAnyIn_done (by kernel_rfl) ?_ _
            gi_wp2
            exact ⟨⟨KD.out C hk3, KD1.out C hk3⟩, KK.out C hk3, hJ3, KI.out C hk3⟩
        · go_simp
          refine hK _ _ ?_
          clear hK K
          refine wpAnyIn_ready (rs := [0, 3]) (by kernel_rfl) (by simp) (AllReadyIn.cons rfl (fun K hK => ?_) (AllReadyIn.cons rfl (fun K hK => ?_) AllReadyIn.nil))
          · go_simp
            refine hK _ _ ?_
            clear hK K
            refine wpAnyIn_ready (rs := [3]) (by kernel_rfl) (by simp) (AllReadyIn.cons rfl (fun K hK => ?_) AllReadyIn.nil)
            go_simp
            refine ⟨trivial, (fun h => wide_no h), (callsIn_wide.2 (O _)).mono ?_⟩
            rintro e C0 ⟨rfl, hC0⟩
            subst hC0
            refine hK _ _ ?_
            clear hK K
            refine wpAnyIn_take (i := 4) (v := .int .u64 (z : Int)) rfl rfl (by kernel_rfl) (by kernel_rfl) (by kernel_rfl) (fun _ _ _ h => h) ⟨Or.inl ⟨by rfl, fun w => by go_simp⟩, fun _ => rfl⟩ ?_
            refine wpAnyIn_ready (rs := [5]) (by kernel_rfl) (by simp) (AllReadyIn.cons rfl (fun K hK => ?_) AllReadyIn.nil)
            go_simp
            refine ⟨(fun h => wide_no h), hR.mono ?_⟩
            rintro e C (⟨rfl, hJ3, hk3⟩ | ⟨rfl, hJ3, hk3⟩)
            · refine hK _ _ ?_
              clear hK K
              refine wpAnyIn_take (i := 6) (v := .bool false) rfl rfl (by kernel_rfl) (by kernel_rfl) (by kernel_rfl) (fun _ _ _ h => h) ⟨Or.inl ⟨by rfl, fun w => by go_simp⟩, fun _ => rfl⟩ ?_
              refine wpAnyIn_done (by kernel_rfl) ?_ _
              gi_wp2
              exact ⟨⟨KD.out C hk3, KD1.out C hk3⟩, KK.out C hk3, hJ3, KI.out C hk3⟩
            · refine hK _ _ ?_
              clear hK K
              refine wpAnyIn_take (i := 6) (v := .bool true) rfl rfl (by kernel_rfl) (by kernel_rfl) (by kernel_rfl) (fun _ _ _ h => h) ⟨Or.inl ⟨by rfl, fun w => by go_simp⟩, fun _ => rfl⟩ ?_
              refine wpAnyIn_done (by kernel_rfl) ?_ _
              gi_wp2
              exact ⟨⟨KD.out C hk3, KD1.out C hk3⟩, KK.out C hk3, hJ3, KI.out C hk3⟩
          · go_simp
            refine ⟨trivial, (fun h => wide_no h), (callsIn_wide.2 (O _)).mono ?_⟩
            rintro e C0 ⟨rfl, hC0⟩
            subst hC0
            refine hK _ _ ?_
            clear hK K
            refine wpAnyIn_take (i := 4) (v := .int .u64 (z : Int)) rfl rfl (by kernel_rfl) (by kernel_rfl) (by kernel_rfl) (fun _ _ _ h => h) ⟨Or.inl ⟨by rfl, fun w => by go_simp⟩, fun _ => rfl⟩ ?_
            refine wpAnyIn_ready (rs := [0]) (by kernel_rfl) (by simp) (AllReadyIn.cons rfl (fun K hK => ?_) AllReadyIn.nil)
            go_simp
            refine hK _ _ ?_
            clear hK K
            refine wpAnyIn_ready (rs := [5]) (by kernel_rfl) (by simp) (AllReadyIn.cons rfl (fun K hK => ?_) AllReadyIn.nil)
            go_simp
            refine ⟨(fun h => wide_no h), hR.mono ?_⟩
            rintro e C (⟨rfl, hJ3, hk3⟩ | ⟨rfl, hJ3, hk3⟩)
            · refine hK _ _ ?_
              clear hK K
              refine wpAnyIn_take (i := 6) (v := .bool false) rfl rfl (by kernel_rfl) (by kernel_rfl) (by kernel_rfl) (fun _ _ _ h => h) ⟨Or.inl ⟨by rfl, fun w => by go_simp⟩, fun _ => rfl⟩ ?_
              refine wpAnyIn_done (by kernel_rfl) ?_ _
              gi_wp2
              exact ⟨⟨KD.out C hk3, KD1.out C hk3⟩, KK.out C hk3, hJ3, KI.out C hk3⟩
            · refine hK _ _ ?_
              clear hK K
              refine wpAnyIn_take (i := 6) (v := .bool true) rfl rfl (by kernel_rfl) (by kernel_rfl) (by kernel_rfl) (fun _ _ _ h => h) ⟨Or.inl ⟨by rfl, fun w => by go_simp⟩, fun _ => rfl⟩ ?_
              refine wpAnyIn_done (by kernel_rfl) ?_ _
              gi_wp2
              exact ⟨⟨KD.out C hk3, KD1.out C hk3⟩, KK.out C hk3, hJ3, KI.out C hk3⟩
      case done =>
        rintro B ⟨g1, g2, g3⟩ hK
        rw [← chC_succ hl3] at g1
        have q4 := g2.l4.cell
        have q5 := (g2.l4.alloc (.cells #[.int .i64 0] 3)).cell
        have hlast : (last : Int) + 1 ≤ 100 := by omega
        gi_wp2
        have f1 : Boxed (B.alloc (.cells #[.int .i64 ((last + 1 : Nat) : Int)] 3)) B.heap.size 3 (.int .i64 ((last + 1 : Nat) : Int)) := Boxed.new B 3 _
        have hBs : A2.heap.size < B.heap.size := (Array.getElem?_eq_some_iff.1 hK).1
        have bB : Below B.heap.size B (B.alloc (.cells #[.int .i64 ((last + 1 : Nat) : Int)] 3)) := balloc _ _
        have g5 := g2.keep hl2 fun b _ hb => bB.block b hb
        refine ⟨⟨_, _, _, _, _, _, _, _, _, _, _, _, _, _, _, _, _, _, _, last + 1, B.heap.size, A2.heap.size :: rs, rfl, by omega, .inl (by omega), ⟨g5.y, f1, g5.bt, g5.bn, List.nodup_cons.2 ⟨fun h => ?_, g2.nd⟩, fun r hr => ?_, by omega⟩, HJ.out _ _ _ g1 (bB.mono (by omega))⟩, ?_⟩
        · have := hC2.low _ (.inr (.inr (.inr (.inr h)))); omega
        · rcases List.mem_cons.1 hr with rfl | hr
          · exact ⟨by omega, (bB.block _ hBs).trans hK⟩
          · exact g5.mks r hr
        · have e1 : boxN (B.alloc (.cells #[.int .i64 ((last + 1 : Nat) : Int)] 3)) (.pointer (some ⟨B.heap.size, 0, none⟩)) = last + 1 := boxN_of f1
          have e2 := HM.out
          show v - boxN (B.alloc (.cells #[.int .i64 ((last + 1 : Nat) : Int)] 3)) (.pointer (some ⟨B.heap.size, 0, none⟩)) < v - boxN A (.pointer (some ⟨y4, 0, none⟩))
          omega
      case stop =>
        rintro i B ⟨g1, g2, g3⟩ hK
        gi_wp2
        refine marks_leave (m := W.heap.size) rfl (A2.heap.size :: rs) B (List.nodup_cons.2 ⟨fun h => ?_, g2.nd⟩) (fun r hr => ?_) fun C u hb => ⟨⟨_, rfl⟩, .inr ⟨_, HJX.out _ _ _ g1 hb⟩⟩
        · have := hC2.low _ (.inr (.inr (.inr (.inr h)))); omega
        · rcases List.mem_cons.1 hr with rfl | hr
          · exact ⟨by omega, hK⟩
          · exact g2.mks r hr
    · have hd : decide ((last : Int) < (v : Int)) = false := by simp; omega
      have hlen : chC t last = (chL (t + 1) v).length := by
        rw [chL_len]
        rcases hl4 with h | h
        · congr 1; omega
        · subst h; unfold chC; rw [show last - last = 0 by omega, show v - last = 0 by omega]
      gi_wp2
      refine marks_leave (m := W.heap.size) rfl rs A hC.nd hC.mks fun C u hb => ⟨⟨_, rfl⟩, .inl ?_⟩
      rw [← hlen]
      exact HJ.out _ _ _ hJA hb

theorem ch_runs : ∀ (t : Nat), t ≤ 4 → ∀ (v n bt bn : Nat) (w : World), v ≤ 40 → Boxed w bt 3 (.int .i64 (t : Int)) → Boxed w bn 3 (.int .i64 (v : Int)) → Runs n Tryz.prog 209 #[.pointer (some ⟨bt, 0, none⟩), .pointer (some ⟨bn, 0, none⟩)] (chL t v) encS (KS bt bn) AbO w
  | 0, _, v, n, bt, bn, w, _, h1, _ => ch_zero v n bt bn w h1
  | t + 1, ht, v, n, bt, bn, w, hv, h1, h2 => ch_succ t (by omega) (ch_runs t (by omega)) v n bt bn w hv h1 h2

end Go.Proofs.YtgpkhfpejopacabGreatDoor

namespace Go.Proofs.YtgpkhfpejopacabGreatDoor
open Go.RowKit Go.Shelf

attribute [local go_sem] Oper.semAt_some

/-- The table of math/bits, in its variable. -/
def tzCells : Array Value := (Lib.deBruijn64tab.map fun n => Value.int .u8 ((n : Nat) : Int)).toArray
def Tab (w : World) : Prop := ∃ t fr, w.heap[1]? = some (.cells tzCells t fr)
theorem Tab.pos {w : World} (h : Tab w) : 1 < w.heap.size := by
  obtain ⟨t, fr, h⟩ := h
  exact (Array.getElem?_eq_some_iff.1 h).1
theorem Tab.below {w w' : World} {n : Nat} (h : Tab w) (hb : Below n w w') (hn : 1 < n) : Tab w' := by
  obtain ⟨t, fr, h⟩ := h
  exact ⟨t, fr, (hb.block 1 hn).trans h⟩
theorem Tab.next {w w' : World} (h : Tab w) (hb : Below w.heap.size w w') : Tab w' := h.below hb h.pos
theorem Tab.cell {w : World} (h : Tab w) (j : Nat) (hj : j < 64) : w.cell? ⟨1, j, none⟩ = some (.int .u8 ((Lib.deBruijn64tab.getD j 0 : Nat) : Int)) := by
  obtain ⟨t, fr, h⟩ := h
  rw [cell_of_row _ _ _ _ _ _ h]
  unfold tzCells
  rw [List.getElem?_toArray, List.getElem?_map, List.getD_eq_getElem?_getD]
  have : j < Lib.deBruijn64tab.length := hj
  rw [List.getElem?_eq_getElem this]
  rfl

set_option maxHeartbeats 1000000 in
theorem tz_core (x k idx : Nat) (w : World) (hx0 : ((x : Int) == 0) = false)
    (key : IntKind.u64.wrap (bits BinOp.and IntKind.u64 (x : Int) (IntKind.u64.wrap (-(x : Int))) * 285870213051353865) / 288230376151711744 = (idx : Int))
    (hi : idx < 64) (hk : k < 64) (hcell : w.cell? ⟨1, idx, none⟩ = some (.int .u8 k)) :
    Calls Tryz.prog 220 #[.int .u64 x] w fun e w' => e = .returned (.int .i64 k) ∧ w' = w := by
  go_enter Tryz.func220, Tryz.ntmps220
  go_wp2_with (simp only [key])
  go_ret
  exact ⟨rfl, rfl⟩

/-- The least point of a set. -/
theorem first_any (x : Nat) (w : World) (hT : Tab w) (hx : x < 2 ^ 64) (h0 : x ≠ 0) : ∃ k m : Nat, x = 2 ^ k * (2 * m + 1) ∧ k < 64 ∧
    Calls Tryz.prog 211 #[.int .u64 (x : Int)] w fun e w' => e = .returned (.int .i64 (k : Int)) ∧ w' = w := by
  obtain ⟨m, hm, hk⟩ := Lib.ctzFrom_spec 64 x (by omega) hx
  refine ⟨_, m, hm, hk, ?_⟩
  obtain ⟨hlow, hk2⟩ := Lib.lowest_bit 64 x h0 hx
  obtain ⟨hi, htab⟩ := Lib.deBruijn64_at _ hk2
  have hcell := hT.cell _ hi
  rw [htab] at hcell
  have hc : Lib.ctz 64 x = Lib.ctzFrom 64 x := by unfold Lib.ctz; rw [if_neg h0]
  have C := tz_core x _ _ w (by simp; omega) (tz64_key x _ hx h0 hlow) hi hk2 hcell
  rw [hc] at C
  generalize Lib.ctzFrom 64 x = c at *
  clear hm hlow hk2 hi htab hcell hc
  go_enter Tryz.func211, Tryz.ntmps211
  go_wp2_with (go_at_call 220; refine C.mono ?_; rintro e w' ⟨rfl, rfl⟩)
  go_ret
  exact ⟨rfl, rfl⟩

def encI (p : Nat) : Array Value := #[.int .i64 (p : Int)]
def KT (_ : Nat) (A B : World) : Prop := B.heap[1]? = A.heap[1]?
def AbN (_ _ _ : World) : Prop := False
theorem Tab.kt {A B : World} {l : Nat} (h : Tab A) (k : KT l A B) : Tab B := by
  obtain ⟨t, fr, h⟩ := h
  exact ⟨t, fr, (k : B.heap[1]? = A.heap[1]?).trans h⟩

theorem points_any (x : Nat) (w : World) :
    Calls Tryz.prog 176 #[.int .u64 (x : Int)] w fun e w' => e = .returned (.func (.func 210) #[] #[.pointer (some ⟨w.heap.size, 0, none⟩)]) ∧ w' = w.alloc (.cells #[.int .u64 (x : Int)] 192) := by
  go_enter Tryz.func176, Tryz.ntmps176
  go_wp2
  go_ret
  exact ⟨rfl, rfl⟩

set_option maxRecDepth 100000 in
set_option maxHeartbeats 4000000 in
theorem points_runs (x n bs : Nat) (w : World) (hx : x < 2 ^ 64) (hT : Tab w) (h1 : Boxed w bs 192 (.int .u64 (x : Int))) : Runs n Tryz.prog 210 #[.pointer (some ⟨bs, 0, none⟩)] (pts x) encI KT AbN w := by
  intro l J Jx W hbW hl1 hl2 hJ hJx hY hJ0
  have c1 := (boxBelow h1 hbW h1.lt).cell
  have hTW : Tab W := hT.next hbW
  have HY : Hid (∀ (i y : Nat) (A : World) (m : Nat), (pts x)[i]? = some y → J i A → YieldAt Fence.wide m Tryz.prog l #[.int .i64 (y : Int)] A fun e B => (e = .returned (.bool true) ∧ J (i + 1) B ∧ KT l A B) ∨ (e = .returned (.bool false) ∧ Jx i B ∧ KT l A B)) := fun i y A m hx hA => YieldAt.anyD (hY i y A hx hA) m
  have HX : Hid (x < 2 ^ 64) := hx
  clear hJ hJx hY hT h1 hx
  refine callsIn_of_wp Tryz.func210 rfl trivial ?_ rfl
  simp only [Tryz.ntmps210, List.size_toArray, List.length_cons, List.length_nil, Nat.reduceAdd, Nat.reduceSub, Array.replicate_succ, Array.replicate_zero, List.push_toArray, List.append_toArray, List.nil_append, List.cons_append]
  gi_wp2
  gi_loopw [3] (fun lv wr => ∃ i y : Nat, lv = .int .u64 (y : Int) ∧ y < 2 ^ 64 ∧ Hid ((pts x).drop i = pts y) ∧ Hid (i ≤ (pts x).length) ∧ J i wr ∧ Tab wr) (fun lv _ => (pts (intOf lv).toNat).length)
  case atStart => exact ⟨0, x, rfl, HX.out, (rfl : (pts x).drop 0 = pts x), (Nat.zero_le _ : 0 ≤ (pts x).length), hJ0, hTW⟩
  case round =>
    clear c1 hTW hJ0
    obtain ⟨i, y, rfl, hy64, HD, HLE, hJi, hTi⟩ := hrel
    by_cases hy0 : y = 0
    · subst hy0
      have hd : (((0 : Nat) : Int) != 0) = false := by decide
      have hlen : (pts x).length ≤ i := by
        have := HD.out
        rw [pts_zero] at this
        exact List.drop_eq_nil_iff.1 this
      have hlt : i ≤ (pts x).length := HLE.out
      obtain rfl : i = (pts x).length := by omega
      gi_wp2
      refine ⟨trivial, ?_⟩
      gi_wp2
      refine ⟨fun _ h => (by cases h), ?_⟩
      gi_wp2
      go_end0
      exact ⟨⟨_, rfl⟩, .inl hJi⟩
    · have hd : ((y : Int) != 0) = true := by simp; omega
      obtain ⟨k, m, hk, hk64, CF⟩ := first_any y wr hTi hy64 hy0
      have hp := pts_off hy64 hk
      have hat : (pts x)[i]? = some k := by
        have h2 := HD.out
        rw [hp] at h2
        have := congrArg (·[0]?) h2
        simpa [List.getElem?_drop] using this
      have hnx : (pts x).drop (i + 1) = pts (y &&& (y - 1)) := by
        have h2 := HD.out
        rw [hp] at h2
        have := congrArg (·.drop 1) h2
        simpa [List.drop_drop] using this
      have HLE2 : Hid (i + 1 ≤ (pts x).length) := (List.getElem?_eq_some_iff.1 hat).1
      have HNX : Hid ((pts x).drop (i + 1) = pts (y &&& (y - 1))) := hnx
      have hle : y &&& (y - 1) ≤ y := Nat.and_le_left
      have HM : Hid ((pts (y &&& (y - 1))).length < (pts y).length) := by show _ < _; rw [hp]; simp
      have e1 : IntKind.u64.wrap ((y : Int) - 1) = ((y - 1 : Nat) : Int) := by
        rw [show (y : Int) - 1 = ((y - 1 : Nat) : Int) by omega]; exact wrapN (by omega)
      have e2 : bits .and .u64 (y : Int) ((y - 1 : Nat) : Int) = ((y &&& (y - 1) : Nat) : Int) := andN hy64 (by omega)
      obtain ⟨z, Hz⟩ : ∃ z, Hid (y &&& (y - 1) = z) := ⟨_, rfl⟩
      rw [Hz.out] at HNX HM hle e2
      obtain ⟨y1, Hy1⟩ : ∃ y1, Hid (y - 1 = y1) := ⟨_, rfl⟩
      rw [Hy1.out] at e1 e2
      obtain ⟨fn, tmps, assign, body, hy, hR⟩ := HY.out i k wr (n - 1) hat hJi
      clear hk hp hat hnx
      gi_wp2_with (refine ⟨trivial, (fun h => wide_no h), (callsIn_wide.2 CF).mono ?_⟩; rintro e w3 ⟨rfl, hw3⟩; subst hw3; clear CF)
      refine ⟨(fun h => wide_no h), hR.mono ?_⟩
      rintro e C (⟨rfl, hJ3, hk3⟩ | ⟨rfl, hJ3, hk3⟩)
      · have hT3 := hTi.kt hk3
        clear hy hR
        gi_wp2
        go_roundw
        case rel => exact ⟨i + 1, z, rfl, by omega, HNX, HLE2, hJ3, hT3⟩
        case measure => simpa [intOf] using HM.out
      · clear hy hR
        gi_wp2
        go_end0
        exact ⟨⟨_, rfl⟩, .inr ⟨_, hJ3⟩⟩

end Go.Proofs.YtgpkhfpejopacabGreatDoor
