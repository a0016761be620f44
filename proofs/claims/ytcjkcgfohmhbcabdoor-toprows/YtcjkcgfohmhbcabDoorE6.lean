/- The walk of size. -/
import Derived.Test.YtcjkcgfohmhbcabDoorDPure
import Derived.Test.YtcjkcgfohmhbcabDoorPBase
import Derived.Laws.BitsAllLaws
import Derived.Test.YtcjkcgfohmhbcabDoorDGo
import Derived.OwnWalk
/- The walks of only, below, within, size: sets as bits. -/
/- How many bits a number has, as math/bits counts them: nothing of the program. -/
/- Sets of points as the bits of a number: nothing of the program. -/
namespace Go.Proofs.YtcjkcgfohmhbcabDoor

theorem rise_ext : ∀ {a b : List Nat}, a.Pairwise (· < ·) → b.Pairwise (· < ·) → (∀ x, x ∈ a ↔ x ∈ b) → a = b
  | [], [], _, _, _ => rfl
  | [], y :: b, _, _, h => by have := (h y).2 List.mem_cons_self; simp at this
  | x :: a, [], _, _, h => by have := (h x).1 List.mem_cons_self; simp at this
  | x :: a, y :: b, ha, hb, h => by
    have ha' := List.pairwise_cons.1 ha
    have hb' := List.pairwise_cons.1 hb
    have e : x = y := by
      rcases List.mem_cons.1 ((h x).1 List.mem_cons_self) with e | hx
      · exact e
      · rcases List.mem_cons.1 ((h y).2 List.mem_cons_self) with e | hy
        · exact e.symm
        · have h1 := ha'.1 y hy
          have h2 := hb'.1 x hx
          omega
    subst e
    congr 1
    refine rise_ext ha'.2 hb'.2 fun z => ⟨fun hz => ?_, fun hz => ?_⟩
    · have h1 := ha'.1 z hz
      rcases List.mem_cons.1 ((h z).1 (List.mem_cons_of_mem _ hz)) with e | h2
      · omega
      · exact h2
    · have h1 := hb'.1 z hz
      rcases List.mem_cons.1 ((h z).2 (List.mem_cons_of_mem _ hz)) with e | h2
      · omega
      · exact h2

/-- The points of a number. -/
def pts (x : Nat) : List Nat := (List.range 64).filter fun i => x.testBit i
def pc (x : Nat) : Nat := (pts x).length
theorem pts_mem {x i : Nat} : i ∈ pts x ↔ i < 64 ∧ x.testBit i = true := by
  unfold pts; rw [List.mem_filter, List.mem_range]
theorem pts_rise (x : Nat) : (pts x).Pairwise (· < ·) := List.Pairwise.filter _ List.pairwise_lt_range
theorem testBit_high {x n i : Nat} (h : x < 2 ^ n) (hi : n ≤ i) : x.testBit i = false := Nat.testBit_lt_two_pow (Nat.lt_of_lt_of_le h (Nat.pow_le_pow_right (by decide) hi))
theorem pts_mem' {x i : Nat} (h : x < 2 ^ 64) : i ∈ pts x ↔ x.testBit i = true := by
  rw [pts_mem]
  refine ⟨fun h => h.2, fun h1 => ⟨?_, h1⟩⟩
  rcases Nat.lt_or_ge i 64 with h2 | h2
  · exact h2
  · rw [testBit_high h h2] at h1; cases h1
theorem pts_ext {x : Nat} {l : List Nat} (hl : l.Pairwise (· < ·)) (h : x < 2 ^ 64) (hm : ∀ i, x.testBit i = true ↔ i ∈ l) : pts x = l :=
  rise_ext (pts_rise x) hl fun i => (pts_mem' h).trans (hm i)
theorem pts_zero : pts 0 = [] := by
  refine List.eq_nil_iff_forall_not_mem.2 fun i hi => ?_
  have := (pts_mem.1 hi).2
  simp at this

/-- The number of a list. -/
def sb : List Nat → Nat
  | [] => 0
  | p :: l => 2 ^ p ||| sb l
theorem sb_bit : ∀ (l : List Nat) (i : Nat), (sb l).testBit i = l.contains i
  | [], i => by simp [sb]
  | p :: l, i => by
    unfold sb
    rw [Nat.testBit_or, sb_bit l i, Nat.testBit_two_pow, List.contains_cons]
    congr 1
    rw [Bool.eq_iff_iff, decide_eq_true_eq, beq_iff_eq]
    exact eq_comm
theorem sb_lt {l : List Nat} {n : Nat} (h : ∀ x ∈ l, x < n) : sb l < 2 ^ n := by
  refine Nat.lt_pow_two_of_testBit _ fun i hi => ?_
  rw [sb_bit]
  cases e : l.contains i with
  | false => rfl
  | true => have := h i (List.contains_iff_mem.1 e); omega
theorem sb_snoc (l : List Nat) (p : Nat) : sb (l ++ [p]) = sb l ||| 2 ^ p := by
  refine Nat.eq_of_testBit_eq fun i => ?_
  rw [Nat.testBit_or, sb_bit, sb_bit, Nat.testBit_two_pow, Bool.eq_iff_iff, Bool.or_eq_true, decide_eq_true_eq, List.contains_iff_mem, List.contains_iff_mem, List.mem_append, List.mem_singleton]
  exact or_congr_right eq_comm
theorem pts_sb {l : List Nat} (h : l.Pairwise (· < ·)) (hl : ∀ x ∈ l, x < 64) : pts (sb l) = l :=
  pts_ext h (sb_lt hl) fun i => by rw [sb_bit]; exact List.contains_iff_mem
theorem pc_sb {l : List Nat} (h : l.Pairwise (· < ·)) (hl : ∀ x ∈ l, x < 64) : pc (sb l) = l.length := by unfold pc; rw [pts_sb h hl]
/-- What is in one and not in the other. -/
def an (x y : Nat) : Nat := x &&& (18446744073709551615 - y)
theorem an_bit {x y i : Nat} (hx : x < 2 ^ 64) (hy : y < 2 ^ 64) : (an x y).testBit i = (x.testBit i && !y.testBit i) := by
  unfold an
  rw [Nat.testBit_and]
  have e : 18446744073709551615 - y = 2 ^ 64 - (y + 1) := by omega
  rw [e, Nat.testBit_two_pow_sub_succ hy]
  rcases Nat.lt_or_ge i 64 with h | h
  · simp [h]
  · rw [testBit_high hx h]; rfl
theorem an_zero {x y : Nat} (hx : x < 2 ^ 64) (hy : y < 2 ^ 64) : an x y = 0 ↔ ∀ i, x.testBit i = true → y.testBit i = true := by
  constructor
  · intro h i hi
    have := an_bit (i := i) hx hy
    rw [h, Nat.zero_testBit, hi, Bool.true_and] at this
    cases e : y.testBit i with
    | true => rfl
    | false => rw [e] at this; cases this
  · intro h
    refine Nat.eq_of_testBit_eq fun i => ?_
    rw [an_bit hx hy, Nat.zero_testBit]
    cases e : x.testBit i with
    | false => rfl
    | true => rw [h i e]; rfl
theorem an_all {s b : List Nat} (hs : ∀ x ∈ s, x < 64) (hb : ∀ x ∈ b, x < 64) : (an (sb s) (sb b) = 0) ↔ (s.all fun x => b.contains x) = true := by
  rw [an_zero (sb_lt hs) (sb_lt hb), List.all_eq_true]
  refine forall_congr' fun i => ?_
  rw [sb_bit, sb_bit, List.contains_iff_mem]

/-- The first points. -/
theorem low_bit (n i : Nat) : (2 ^ n - 1).testBit i = decide (i < n) := Nat.testBit_two_pow_sub_one n i
theorem low_sb (n : Nat) : 2 ^ n - 1 = sb (List.range n) := by
  refine Nat.eq_of_testBit_eq fun i => ?_
  rw [low_bit, sb_bit, Bool.eq_iff_iff]
  simp
theorem pow_lt64 {n m : Nat} (h : n < m) : 2 ^ n < 2 ^ m := Nat.pow_lt_pow_right (by decide) h

/-- The least point, and the number without it. -/
theorem low_off {x k m : Nat} (e : x = 2 ^ k * (2 * m + 1)) (i : Nat) : (x.testBit i = true → k ≤ i) ∧ x.testBit k = true ∧ (x &&& (x - 1)).testBit i = (x.testBit i && decide (i ≠ k)) := by
  have hx : ∀ i, x.testBit i = (decide (k ≤ i) && (2 * m + 1).testBit (i - k)) := fun i => by rw [e, Nat.mul_comm, Nat.testBit_mul_two_pow]
  have hy : x - 1 = 2 ^ k * (2 * m) + (2 ^ k - 1) := by
    have : 0 < 2 ^ k := Nat.two_pow_pos k
    rw [e, Nat.mul_add, Nat.mul_one]; omega
  have hlt : 2 ^ k - 1 < 2 ^ k := by have : 0 < 2 ^ k := Nat.two_pow_pos k; omega
  refine ⟨fun h => ?_, ?_, ?_⟩
  · rw [hx] at h
    simp at h
    exact h.1
  · rw [hx]; simp
  · rw [Nat.testBit_and, hy, Nat.testBit_two_pow_mul_add _ hlt, hx]
    by_cases h1 : i < k
    · simp [h1, show ¬ k ≤ i by omega]
    · by_cases h2 : i = k
      · subst h2; simp
      · obtain ⟨j, rfl⟩ : ∃ j, i = k + (j + 1) := ⟨i - k - 1, by omega⟩
        have e3 : k + (j + 1) - k = j + 1 := by omega
        rw [e3, Nat.testBit_succ, Nat.testBit_succ]
        have d1 : (2 * m + 1) / 2 = m := by omega
        have d2 : 2 * m / 2 = m := by omega
        simp only [d1, d2, h1, h2, if_false, show k ≤ k + (j + 1) by omega, decide_true, Bool.true_and, ne_eq, not_false_eq_true, Bool.and_true, Bool.and_self]
theorem pts_off {x k m : Nat} (h : x < 2 ^ 64) (e : x = 2 ^ k * (2 * m + 1)) : pts x = k :: pts (x &&& (x - 1)) := by
  have hle : x &&& (x - 1) ≤ x := Nat.and_le_left
  refine pts_ext (List.pairwise_cons.2 ⟨fun y hy => ?_, pts_rise _⟩) h fun i => ?_
  · have := (pts_mem.1 hy).2
    obtain ⟨h1, h2, h3⟩ := low_off e y
    rw [h3] at this
    simp at this
    have := h1 this.1
    omega
  · obtain ⟨h1, h2, h3⟩ := low_off e i
    rw [List.mem_cons, pts_mem' (by omega), h3]
    constructor
    · intro hi
      by_cases ek : i = k
      · exact .inl ek
      · exact .inr (by simp [hi, ek])
    · rintro (rfl | hi)
      · exact h2
      · simp at hi; exact hi.1

end Go.Proofs.YtcjkcgfohmhbcabDoor

namespace Go.Proofs.YtcjkcgfohmhbcabDoor

theorem and_split {y c d : Nat} (hd : d < 256) : y &&& (c * 256 + d) = ((y / 256) &&& c) * 256 + ((y % 256) &&& d) := by
  have e1 : y = 2 ^ 8 * (y / 256) + y % 256 := by omega
  have e2 : c * 256 + d = 2 ^ 8 * c + d := by omega
  have e3 : ((y / 256) &&& c) * 256 + ((y % 256) &&& d) = 2 ^ 8 * ((y / 256) &&& c) + ((y % 256) &&& d) := by rw [Nat.mul_comm]
  have h1 : y % 256 < 2 ^ 8 := by omega
  have h2 : (y % 256) &&& d < 2 ^ 8 := Nat.lt_of_le_of_lt (Nat.and_le_left (n := y % 256) (m := d)) h1
  rw [e2, e3]
  refine Nat.eq_of_testBit_eq fun i => ?_
  rw [Nat.testBit_and, Nat.testBit_two_pow_mul_add _ hd, Nat.testBit_two_pow_mul_add _ h2]
  conv => lhs; lhs; rw [e1]
  rw [Nat.testBit_two_pow_mul_add _ h1]
  split <;> rw [Nat.testBit_and]

def mk (d : Nat) : Nat → Nat
  | 0 => 0
  | n + 1 => mk d n * 256 + d
def oA (n x : Nat) : Nat := ((x / 2) &&& mk 85 n) + (x &&& mk 85 n)
def oB (n x : Nat) : Nat := ((x / 4) &&& mk 51 n) + (x &&& mk 51 n)
def oC (n x : Nat) : Nat := (x / 16 + x) &&& mk 15 n
def bA (b : Nat) : Nat := ((b / 2) &&& 85) + (b &&& 85)
def bB (b : Nat) : Nat := ((b / 4) &&& 51) + (b &&& 51)
def bC (b : Nat) : Nat := (b / 16 + b) &&& 15
theorem half_in : ∀ z : Fin 512, (z.val / 2) &&& 85 = ((z.val % 256) / 2) &&& 85 := by decide +kernel
theorem quar_in : ∀ z : Fin 1024, (z.val / 4) &&& 51 = ((z.val % 256) / 4) &&& 51 := by decide +kernel
theorem bA_lt : ∀ z : Fin 256, bA z.val < 256 := by decide +kernel
theorem bB_lt : ∀ z : Fin 256, bB z.val ≤ 102 := by decide +kernel
theorem low_in : ∀ z : Fin 256, z.val &&& 15 = z.val % 16 := by decide +kernel
theorem oA_split (n x : Nat) : oA (n + 1) x = oA n (x / 256) * 256 + bA (x % 256) := by
  have h1 := half_in ⟨x % 512, by omega⟩
  dsimp only at h1
  rw [show x % 512 / 2 = x / 2 % 256 by omega, show x % 512 % 256 = x % 256 by omega] at h1
  unfold oA bA
  rw [show mk 85 (n + 1) = mk 85 n * 256 + 85 from rfl, and_split (by decide), and_split (y := x) (by decide), h1, show x / 2 / 256 = x / 256 / 2 by omega]
  omega
theorem oB_split (n x : Nat) : oB (n + 1) x = oB n (x / 256) * 256 + bB (x % 256) := by
  have h1 := quar_in ⟨x % 1024, by omega⟩
  dsimp only at h1
  rw [show x % 1024 / 4 = x / 4 % 256 by omega, show x % 1024 % 256 = x % 256 by omega] at h1
  unfold oB bB
  rw [show mk 51 (n + 1) = mk 51 n * 256 + 51 from rfl, and_split (by decide), and_split (y := x) (by decide), h1, show x / 4 / 256 = x / 256 / 4 by omega]
  omega
theorem oB_low (n x : Nat) : oB n x % 16 ≤ 6 := by
  cases n with
  | zero => unfold oB mk; simp
  | succ n =>
    rw [oB_split]
    have : ∀ z : Fin 256, bB z.val % 16 ≤ 6 := by decide +kernel
    have := this ⟨x % 256, by omega⟩
    dsimp only at this
    omega
theorem oC_split {n a b : Nat} (ha : a % 16 ≤ 6) (hb : b ≤ 102) : oC (n + 1) (a * 256 + b) = oC n a * 256 + bC b := by
  unfold oC bC
  rw [show mk 15 (n + 1) = mk 15 n * 256 + 15 from rfl, and_split (by decide)]
  have e1 : ((a * 256 + b) / 16 + (a * 256 + b)) / 256 = a / 16 + a := by omega
  have e2 : ((a * 256 + b) / 16 + (a * 256 + b)) % 256 = a % 16 * 16 + (b / 16 + b) := by omega
  have l1 := low_in ⟨a % 16 * 16 + (b / 16 + b), by omega⟩
  have l2 := low_in ⟨b / 16 + b, by omega⟩
  dsimp only at l1 l2
  rw [e1, e2, l1, l2]
  omega
def pop8 (b : Nat) : Nat := (List.range 8).countP fun i => b.testBit i
theorem pop8_is : ∀ z : Fin 256, bC (bB (bA z.val)) = pop8 z.val ∧ pop8 z.val ≤ 8 := by decide +kernel
def dig : Nat → Nat → Nat
  | 0, _ => 0
  | n + 1, x => dig n (x / 256) * 256 + pop8 (x % 256)
def sdig : Nat → Nat → Nat
  | 0, _ => 0
  | n + 1, x => sdig n (x / 256) + pop8 (x % 256)
theorem o_dig : ∀ n x, oC n (oB n (oA n x)) = dig n x
  | 0, x => by unfold oC mk dig; simp
  | n + 1, x => by
    have hx : x % 256 < 256 := by omega
    have h1 := bA_lt ⟨x % 256, hx⟩
    dsimp only at h1
    have h2 := bB_lt ⟨bA (x % 256), h1⟩
    dsimp only at h2
    have h3 := pop8_is ⟨x % 256, hx⟩
    dsimp only at h3
    rw [oA_split, oB_split]
    have e1 : (oA n (x / 256) * 256 + bA (x % 256)) / 256 = oA n (x / 256) := by omega
    have e2 : (oA n (x / 256) * 256 + bA (x % 256)) % 256 = bA (x % 256) := by omega
    rw [e1, e2, oC_split (oB_low _ _) h2, o_dig n, h3.1]
    rfl
theorem c_dig : ∀ n x, ((List.range (8 * n)).countP fun i => x.testBit i) = sdig n x
  | 0, x => rfl
  | n + 1, x => by
    rw [show 8 * (n + 1) = 8 + 8 * n by omega, List.range_add, List.countP_append, List.countP_map]
    unfold sdig
    rw [← c_dig n (x / 256), Nat.add_comm]
    have e : x = 2 ^ 8 * (x / 256) + x % 256 := by omega
    have h1 : x % 256 < 2 ^ 8 := by omega
    congr 1
    · refine List.countP_congr fun i _ => ?_
      simp only [Function.comp]
      conv => lhs; rw [e]
      rw [Nat.testBit_two_pow_mul_add _ h1, if_neg (by omega), show 8 + i - 8 = i by omega]
    · unfold pop8
      refine List.countP_congr fun i hi => ?_
      have := List.mem_range.1 hi
      conv => lhs; rw [e]
      rw [Nat.testBit_two_pow_mul_add _ h1, if_pos this]
theorem pc_is (x : Nat) : pc x = sdig 8 x := by
  rw [← c_dig 8 x]
  unfold pc pts
  rw [List.countP_eq_length_filter]
theorem pc_le (x : Nat) : pc x ≤ 64 := by
  unfold pc pts
  refine Nat.le_trans (List.length_filter_le _ _) (by simp)
/-- The last three steps. -/
def oD (x : Nat) : Nat := x + x / 256
def oE (x : Nat) : Nat := x + x / 65536
def oF (x : Nat) : Nat := x + x / 4294967296
theorem ones_last {c0 c1 c2 c3 c4 c5 c6 c7 X : Nat} (l0 : c0 ≤ 8) (l1 : c1 ≤ 8) (l2 : c2 ≤ 8) (l3 : c3 ≤ 8) (l4 : c4 ≤ 8) (l5 : c5 ≤ 8) (l6 : c6 ≤ 8) (l7 : c7 ≤ 8)
    (hX : X = (((((((c7 * 256 + c6) * 256 + c5) * 256 + c4) * 256 + c3) * 256 + c2) * 256 + c1) * 256 + c0)) :
    X < 1000000000000000000 ∧ ∃ Y, Y = oD X ∧ Y < 2000000000000000000 ∧ ∃ Z, Z = oE Y ∧ Z < 4000000000000000000 ∧ ∃ U, U = oF Z ∧ U < 8000000000000000000 ∧ U % 128 = c7 + c6 + c5 + c4 + c3 + c2 + c1 + c0 := by
  have e1 : X / 256 = ((((((c7 * 256 + c6) * 256 + c5) * 256 + c4) * 256 + c3) * 256 + c2) * 256 + c1) := by omega
  refine ⟨by omega, _, rfl, ?_⟩
  obtain ⟨Y, hY⟩ : ∃ Y, Y = oD X := ⟨_, rfl⟩
  have eY : Y = (((((((c7 * 256 + (c6 + c7)) * 256 + (c5 + c6)) * 256 + (c4 + c5)) * 256 + (c3 + c4)) * 256 + (c2 + c3)) * 256 + (c1 + c2)) * 256 + (c0 + c1)) := by
    rw [hY]; unfold oD; rw [e1]; omega
  rw [← hY]
  clear e1 hX hY
  have e2 : Y / 65536 = (((((c7 * 256 + (c6 + c7)) * 256 + (c5 + c6)) * 256 + (c4 + c5)) * 256 + (c3 + c4)) * 256 + (c2 + c3)) := by omega
  refine ⟨by omega, _, rfl, ?_⟩
  obtain ⟨Z, hZ⟩ : ∃ Z, Z = oE Y := ⟨_, rfl⟩
  have eZ : Z = (((((((c7 * 256 + (c6 + c7)) * 256 + (c5 + c6 + c7)) * 256 + (c4 + c5 + c6 + c7)) * 256 + (c3 + c4 + c5 + c6)) * 256 + (c2 + c3 + c4 + c5)) * 256 + (c1 + c2 + c3 + c4)) * 256 + (c0 + c1 + c2 + c3)) := by
    rw [hZ]; unfold oE; rw [e2]; omega
  rw [← hZ]
  clear e2 eY hZ
  have e3 : Z / 4294967296 = (((c7 * 256 + (c6 + c7)) * 256 + (c5 + c6 + c7)) * 256 + (c4 + c5 + c6 + c7)) := by omega
  refine ⟨by omega, _, rfl, ?_⟩
  unfold oF
  rw [e3]
  clear e3
  exact ⟨by omega, by omega⟩
theorem ones_pc {x X : Nat} (hx : X = oC 8 (oB 8 (oA 8 x))) :
    X < 1000000000000000000 ∧ ∃ Y, Y = oD X ∧ Y < 2000000000000000000 ∧ ∃ Z, Z = oE Y ∧ Z < 4000000000000000000 ∧ ∃ U, U = oF Z ∧ U < 8000000000000000000 ∧ U % 128 = pc x := by
  rw [o_dig] at hx
  rw [pc_is]
  have p : ∀ y : Nat, pop8 (y % 256) ≤ 8 := fun y => (pop8_is ⟨y % 256, Nat.mod_lt _ (by decide)⟩).2
  refine ones_last (p x) (p (x / 256)) (p (x / 256 / 256)) (p (x / 256 / 256 / 256)) (p (x / 256 / 256 / 256 / 256)) (p (x / 256 / 256 / 256 / 256 / 256)) (p (x / 256 / 256 / 256 / 256 / 256 / 256)) (p (x / 256 / 256 / 256 / 256 / 256 / 256 / 256)) ?_ |>.imp_right ?_
  · rw [hx]; simp only [dig, Nat.zero_mul, Nat.zero_add]
  · simp only [sdig, Nat.zero_add]
    exact id

end Go.Proofs.YtcjkcgfohmhbcabDoor

namespace Go.Proofs.YtcjkcgfohmhbcabDoor
open Go.RowKit

theorem wrapN {x : Nat} (h : x < 2 ^ 64) : IntKind.u64.wrap (x : Int) = (x : Int) := by rw [IntKind.wrap_u64]; omega
theorem andN {x y : Nat} (hx : x < 2 ^ 64) (hy : y < 2 ^ 64) : bits .and .u64 (x : Int) (y : Int) = ((x &&& y : Nat) : Int) := bits_and_u64_nat x y hx hy
theorem orN {x y : Nat} (hx : x < 2 ^ 64) (hy : y < 2 ^ 64) : bits .or .u64 (x : Int) (y : Int) = ((x ||| y : Nat) : Int) := bits_or_u64_nat x y hx hy
theorem anN {x y : Nat} (hx : x < 2 ^ 64) (hy : y < 2 ^ 64) : bits .andNot .u64 (x : Int) (y : Int) = ((an x y : Nat) : Int) := u64_andNot_nat x y hx hy
theorem powN {p : Nat} (hp : p < 64) : IntKind.u64.wrap ((2 : Int) ^ p) = ((2 ^ p : Nat) : Int) := by
  have := wrapN (x := 2 ^ p) (pow_lt64 hp)
  rw [← this]
  congr 1

theorem only_any (p : Nat) (hp : p < 64) (w : World) :
    Calls Tryd.prog 72 #[.int .i64 (p : Int)] w fun e w' => e = .returned (.int .u64 ((2 ^ p : Nat) : Int)) ∧ w' = w := by
  go_enter Tryd.func72, Tryd.ntmps72
  go_wp2
  rw [powN hp]
  go_ret
  exact ⟨rfl, rfl⟩

theorem below_any (n : Nat) (hn : n < 64) (w : World) :
    Calls Tryd.prog 75 #[.int .i64 (n : Int)] w fun e w' => e = .returned (.int .u64 ((2 ^ n - 1 : Nat) : Int)) ∧ w' = w := by
  have h0 : 0 < 2 ^ n := Nat.two_pow_pos n
  have h1 : 2 ^ n < 2 ^ 64 := pow_lt64 hn
  have e : IntKind.u64.wrap (((2 ^ n : Nat) : Int) - 1) = ((2 ^ n - 1 : Nat) : Int) := by
    rw [show ((2 ^ n : Nat) : Int) - 1 = ((2 ^ n - 1 : Nat) : Int) by omega]
    exact wrapN (by omega)
  go_enter Tryd.func75, Tryd.ntmps75
  go_wp2
  rw [powN hn, e]
  go_ret
  exact ⟨rfl, rfl⟩

theorem within_any (s t : Nat) (q : Bool) (hs : s < 2 ^ 64) (ht : t < 2 ^ 64) (hq : decide (an s t = 0) = q) (w : World) :
    Calls Tryd.prog 82 #[.int .u64 (s : Int), .int .u64 (t : Int)] w fun e w' => e = .returned (.bool q) ∧ w' = w := by
  go_enter Tryd.func82, Tryd.ntmps82
  go_wp2
  rw [anN hs ht]
  go_ret
  refine ⟨ret_bool ?_, rfl⟩
  rw [← hq, Bool.eq_iff_iff]
  simp

theorem mk85 : mk 85 8 = 6148914691236517205 := by decide
theorem mk51 : mk 51 8 = 3689348814741910323 := by decide
theorem mk15 : mk 15 8 = 1085102592571150095 := by decide
theorem oA_lt (x : Nat) : oA 8 x < 2 ^ 64 := by
  unfold oA
  rw [mk85]
  have h1 : (x / 2) &&& 6148914691236517205 ≤ 6148914691236517205 := Nat.and_le_right
  have h2 : x &&& 6148914691236517205 ≤ 6148914691236517205 := Nat.and_le_right
  omega
theorem oB_lt (x : Nat) : oB 8 x < 2 ^ 63 := by
  unfold oB
  rw [mk51]
  have h1 : (x / 4) &&& 3689348814741910323 ≤ 3689348814741910323 := Nat.and_le_right
  have h2 : x &&& 3689348814741910323 ≤ 3689348814741910323 := Nat.and_le_right
  omega
theorem kA {x : Nat} (hx : x < 2 ^ 64) : IntKind.u64.wrap (bits .and .u64 ((x : Int) / 2) 6148914691236517205 + bits .and .u64 (x : Int) 6148914691236517205) = ((oA 8 x : Nat) : Int) := by
  have h := oA_lt x
  have e1 : bits .and .u64 ((x : Int) / 2) 6148914691236517205 = (((x / 2) &&& 6148914691236517205 : Nat) : Int) := andN (x := x / 2) (y := 6148914691236517205) (by omega) (by omega)
  have e2 : bits .and .u64 (x : Int) 6148914691236517205 = ((x &&& 6148914691236517205 : Nat) : Int) := andN (x := x) (y := 6148914691236517205) hx (by omega)
  rw [e1, e2, ← wrapN h, ← Int.natCast_add]
  unfold oA
  rw [mk85]
theorem kB {x : Nat} (hx : x < 2 ^ 64) : IntKind.u64.wrap (bits .and .u64 ((x : Int) / 4) 3689348814741910323 + bits .and .u64 (x : Int) 3689348814741910323) = ((oB 8 x : Nat) : Int) := by
  have h := oB_lt x
  have e1 : bits .and .u64 ((x : Int) / 4) 3689348814741910323 = (((x / 4) &&& 3689348814741910323 : Nat) : Int) := andN (x := x / 4) (y := 3689348814741910323) (by omega) (by omega)
  have e2 : bits .and .u64 (x : Int) 3689348814741910323 = ((x &&& 3689348814741910323 : Nat) : Int) := andN (x := x) (y := 3689348814741910323) hx (by omega)
  rw [e1, e2, ← wrapN (show oB 8 x < 2 ^ 64 by omega), ← Int.natCast_add]
  unfold oB
  rw [mk51]
theorem kC {x : Nat} (hx : x < 2 ^ 63) : bits .and .u64 (IntKind.u64.wrap ((x : Int) / 16 + (x : Int))) 1085102592571150095 = ((oC 8 x : Nat) : Int) := by
  have e1 : IntKind.u64.wrap ((x : Int) / 16 + (x : Int)) = ((x / 16 + x : Nat) : Int) := wrapN (x := x / 16 + x) (by omega)
  have e2 : bits .and .u64 ((x / 16 + x : Nat) : Int) 1085102592571150095 = (((x / 16 + x) &&& 1085102592571150095 : Nat) : Int) := andN (x := x / 16 + x) (y := 1085102592571150095) (by omega) (by omega)
  rw [e1, e2]
  unfold oC
  rw [mk15]
set_option maxHeartbeats 1000000 in
theorem ones_any (x : Nat) (hx : x < 2 ^ 64) (w : World) :
    Calls Tryd.prog 81 #[.int .u64 (x : Int)] w fun e w' => e = .returned (.int .i64 (pc x : Int)) ∧ w' = w := by
  have k1 := kA hx
  obtain ⟨A, hA⟩ : ∃ A, A = oA 8 x := ⟨_, rfl⟩
  have k2 := kB (oA_lt x)
  obtain ⟨B, hB⟩ : ∃ B, B = oB 8 A := ⟨_, rfl⟩
  have k3 := kC (oB_lt A)
  obtain ⟨C, hC⟩ : ∃ C, C = oC 8 B := ⟨_, rfl⟩
  rw [← hA] at k1 k2
  rw [← hB] at k2 k3
  rw [← hC] at k3
  obtain ⟨l1, Y, hY, l2, Z, hZ, l3, U, hU, l4, hp⟩ := ones_pc (x := x) (X := C) (by rw [hC, hB, hA])
  have k4 : IntKind.u64.wrap ((C : Int) + (C : Int) / 256) = (Y : Int) := by rw [hY, IntKind.wrap_u64]; unfold oD at hY ⊢; omega
  have k5 : IntKind.u64.wrap ((Y : Int) + (Y : Int) / 65536) = (Z : Int) := by rw [hZ, IntKind.wrap_u64]; unfold oE at hZ ⊢; omega
  have k6 : IntKind.u64.wrap ((Z : Int) + (Z : Int) / 4294967296) = (U : Int) := by rw [hU, IntKind.wrap_u64]; unfold oF at hU ⊢; omega
  have k7 : bits .and .i64 (U : Int) 127 = (pc x : Int) := by
    have := bits_mask .i64 63 (by decide) (fun n h0 h1 => by simp [IntKind.wrap, IntKind.signed, IntKind.bits]; omega) 7 (by decide) U (by omega) (by omega)
    rw [← hp]
    exact this
  clear hA hB hC hY hZ hU
  go_enter Tryd.func81, Tryd.ntmps81
  go_wp2
  go_ret
  exact ⟨rfl, rfl⟩

theorem size_any (x : Nat) (hx : x < 2 ^ 64) (w : World) :
    Calls Tryd.prog 73 #[.int .u64 (x : Int)] w fun e w' => e = .returned (.int .i64 (pc x : Int)) ∧ w' = w := by
  go_enter Tryd.func73, Tryd.ntmps73
  go_wp2_with (go_at_call 81; refine (ones_any x hx w).mono ?_; rintro e w' ⟨rfl, rfl⟩)
  go_ret
  exact ⟨rfl, rfl⟩
end Go.Proofs.YtcjkcgfohmhbcabDoor

/- The walks of setOf and holding. -/
/- The walk of checkBlock. -/
namespace Go.Proofs.YtcjkcgfohmhbcabDoor
open Go.RowKit

set_option maxHeartbeats 4000000 in
theorem checkBlock_any (p : Int) (b : List Int) (u : Value) (w : World) (hu : Sl w u b) (hbl : b.length ≤ maxLen) :
    Calls Tryd.prog 64 #[.int .i64 p, u] w fun e w' => e = .returned (.int .i64 (bF p b : Int)) ∧ Below w.heap.size w w' := by
  unfold maxLen at hbl
  obtain ⟨ua, uc, rfl, hub⟩ := hu
  have HUB : Hid (∀ j, j < b.length → ∃ g o, ua = some ⟨g, o, none⟩ ∧ ∀ W, Below w.heap.size w W → W.cell? ⟨g, o + j, none⟩ = some (.int .i64 (b.getD j 0))) := fun j hj => by
    obtain ⟨g, o, e, hc⟩ := hub j hj
    exact ⟨g, o, e, fun W bW => (bW.cell (World.block_lt_of_cell? _ _ hc)).trans hc⟩
  obtain ⟨w1, Hw1⟩ : ∃ w1 : World, Hid (w1 = w) := ⟨_, rfl⟩
  rw [← Hw1.out] at HUB
  have HBN : Hid (∀ n, b.length = n → b.length = n) := fun _ h => h
  obtain ⟨z, HZ⟩ : ∃ z, Hid (bF p b = z) := ⟨_, rfl⟩
  rw [HZ.out]
  generalize hbn : b.length = bn at *
  clear hub
  go_enter Tryd.func64, Tryd.ntmps64
  go_wp2
  go_loopw [10] (fun jv wr' => ∃ j : Nat, jv = .int .i64 (j : Int) ∧ j ≤ bn ∧ Hid (∀ m, m < j → 0 ≤ b.getD m 0 ∧ b.getD m 0 < p) ∧ Below w1.heap.size w1 wr') (fun jv _ => (bn - intOf jv).toNat)
  case atStart => exact ⟨0, rfl, by omega, (show ∀ m, m < 0 → _ from fun m h => by omega), by rw [Hw1.out]; exact Below.refl _ _⟩
  case round =>
    obtain ⟨j, rfl, hj, HJ, hB2⟩ := hrel
    by_cases hlj : j < bn
    · have hdj : decide ((j : Int) < (bn : Int)) = true := by simp; omega
      have hji : (j : Int) < (bn : Int) := by omega
      obtain ⟨g, o, rfl, hcj0⟩ := HUB.out j hlj
      have hcj := hcj0 _ hB2
      obtain ⟨x, Hx⟩ : ∃ x, Hid (x = b.getD j 0) := ⟨_, (rfl : b.getD j 0 = b.getD j 0)⟩
      rw [← Hx.out] at hcj
      by_cases hneg : x < 0
      · have hb1 : bF p b = 1 := bF_out (j := j) (by omega) (by rw [← Hx.out]; omega)
        obtain rfl : z = 1 := by rw [← HZ.out, hb1]
        have hdx : decide (x < 0) = true := decide_eq_true hneg
        clear hneg hb1 hcj0
        go_wp2
        go_ret
        exact ⟨rfl, by rw [← Hw1.out]; exact hB2⟩
      · have hdx : decide (x < 0) = false := decide_eq_false hneg
        by_cases hge : p ≤ x
        · have hb1 : bF p b = 1 := bF_out (j := j) (by omega) (by rw [← Hx.out]; omega)
          obtain rfl : z = 1 := by rw [← HZ.out, hb1]
          have hdx2 : decide (p ≤ x) = true := decide_eq_true hge
          clear hneg hge hb1 hcj0
          go_wp2
          go_ret
          exact ⟨rfl, by rw [← Hw1.out]; exact hB2⟩
        · have hdx2 : decide (p ≤ x) = false := decide_eq_false hge
          have HJ2 : Hid (∀ m, m < j + 1 → 0 ≤ b.getD m 0 ∧ b.getD m 0 < p) := fun m hm => by
            by_cases e : m = j
            · subst e; rw [← Hx.out]; omega
            · exact HJ.out m (by omega)
          clear hneg hge HJ hcj0
          go_wp2
          go_roundw
          case rel => exact ⟨j + 1, by go_num, by omega, HJ2, hB2⟩
          case measure => simp [intOf]; omega
    · have hdj : decide ((j : Int) < (bn : Int)) = false := by simp; omega
      obtain rfl : j = bn := by omega
      clear hlj
      go_wp2
      go_loopw [7] (fun jv wr' => ∃ k : Nat, jv = .int .i64 (k : Int) ∧ 1 ≤ k ∧ (k ≤ j ∨ k = 1) ∧ Hid (∀ m, 1 ≤ m → m < k → m < j → b.getD (m - 1) 0 < b.getD m 0) ∧ Below w1.heap.size w1 wr') (fun jv _ => (j + 1 - intOf jv).toNat)
      case atStart => exact ⟨1, rfl, by omega, .inr rfl, (show ∀ m, 1 ≤ m → m < 1 → _ from fun m h h' => by omega), hB2⟩
      case round =>
        clear hB2
        obtain ⟨k, rfl, hk1, hkj, HK, hB3⟩ := hrel
        by_cases hlk : k < j
        · have hdk : decide ((k : Int) < (j : Int)) = true := by simp; omega
          have hki : (k : Int) < (j : Int) := by omega
          obtain ⟨k', Hk'⟩ : ∃ k', Hid (k = k' + 1) := ⟨k - 1, (by omega : k = k - 1 + 1)⟩
          have hsub : (k : Int) - 1 = (k' : Int) := by have := Hk'.out; omega
          have hk'i : (k' : Int) < (j : Int) := by have := Hk'.out; omega
          obtain ⟨g, o, rfl, hc0⟩ := HUB.out k hlk
          obtain ⟨g2, o2, e2, hc1⟩ := HUB.out k' (by have := Hk'.out; omega)
          obtain ⟨rfl, rfl⟩ : g = g2 ∧ o = o2 := by
            simp only [Option.some.injEq, Addr.mk.injEq] at e2
            exact ⟨e2.1, e2.2.1⟩
          have hck := hc0 _ hB3
          have hck' := hc1 _ hB3
          obtain ⟨x, Hx⟩ : ∃ x, Hid (x = b.getD k 0) := ⟨_, (rfl : b.getD k 0 = b.getD k 0)⟩
          obtain ⟨y, Hy⟩ : ∃ y, Hid (y = b.getD k' 0) := ⟨_, (rfl : b.getD k' 0 = b.getD k' 0)⟩
          rw [← Hx.out] at hck
          rw [← Hy.out] at hck'
          clear e2 hc0 hc1
          by_cases hle : x ≤ y
          · have hb1 : bF p b = 2 := bF_fall (j := k) (by rw [hbn]; exact HJ.out) hk1 (by omega) (by rw [← Hx.out, show k - 1 = k' by have := Hk'.out; omega, ← Hy.out]; exact hle)
            obtain rfl : z = 2 := by rw [← HZ.out, hb1]
            have hdx : decide (x ≤ y) = true := decide_eq_true hle
            clear hle hb1
            go_wp2
            go_quiet (fail)
            go_wp2
            go_ret
            exact ⟨rfl, by rw [← Hw1.out]; exact bdrewN hB3 _⟩
          · have hdx : decide (x ≤ y) = false := decide_eq_false hle
            have HK2 : Hid (∀ m, 1 ≤ m → m < k + 1 → m < j → b.getD (m - 1) 0 < b.getD m 0) := fun m h1 h2 h3 => by
              by_cases e : m = k
              · subst e; rw [show m - 1 = k' by have := Hk'.out; omega, ← Hx.out, ← Hy.out]; omega
              · exact HK.out m h1 (by omega) h3
            clear hle HK
            go_wp2
            go_quiet (fail)
            go_wp2
            go_roundw
            case rel => exact ⟨k + 1, by go_num, by omega, .inl (by omega), HK2, bdrewN hB3 _⟩
            case measure => simp [intOf]; omega
        · have hdk : decide ((k : Int) < (j : Int)) = false := by simp; omega
          have hb0 : bF p b = 0 := bF_ok (by rw [hbn]; exact HJ.out) (fun m h1 h2 => HK.out m h1 (by omega) (by omega))
          obtain rfl : z = 0 := by rw [← HZ.out, hb0]
          clear hb0
          go_wp2
          go_ret
          exact ⟨rfl, by rw [← Hw1.out]; exact hB3⟩

end Go.Proofs.YtcjkcgfohmhbcabDoor

namespace Go.Proofs.YtcjkcgfohmhbcabDoor
open Go.RowKit

theorem sb_take {b : List Nat} {j : Nat} (hj : j < b.length) : sb (b.take (j + 1)) = sb (b.take j) ||| 2 ^ b.getD j 0 := by
  rw [← sb_snoc, List.take_succ_eq_append_getElem hj, List.getD_eq_getElem?_getD, List.getElem?_eq_getElem hj]
  rfl
theorem take_lt {b : List Nat} {n : Nat} (h : ∀ x ∈ b, x < n) (j : Nat) : ∀ x ∈ b.take j, x < n := fun x hx => h x (List.mem_of_mem_take hx)
theorem getD_in {b : List Nat} {j : Nat} (hj : j < b.length) : b.getD j 0 ∈ b := by
  rw [List.getD_eq_getElem?_getD, List.getElem?_eq_getElem hj]; exact List.getElem_mem hj

set_option maxHeartbeats 4000000 in
theorem setOf_any (b : List Nat) (u : Value) (w : World) (hu : Sl w u (b.map Int.ofNat)) (hb : b.length ≤ 99) (hl : ∀ x ∈ b, x < 64) :
    Calls Tryd.prog 65 #[u] w fun e w' => e = .returned (.int .u64 (sb b : Int)) ∧ w' = w := by
  obtain ⟨a, cap, rfl, hc⟩ := hu
  have HC : Hid (∀ j, j < b.length → ∃ g off, a = some ⟨g, off, none⟩ ∧ w.cell? ⟨g, off + j, none⟩ = some (.int .i64 ((b.getD j 0 : Nat) : Int))) := fun j hj => by
    obtain ⟨g, off, e, h⟩ := hc j (by simpa using hj)
    exact ⟨g, off, e, by rw [h, ofNat_at b hj]⟩
  have HL : Hid (∀ x ∈ b, x < 64) := hl
  have HS : Hid (∀ j, j < b.length → sb (b.take (j + 1)) = sb (b.take j) ||| 2 ^ b.getD j 0) := fun j hj => sb_take hj
  rw [List.length_map]
  generalize hn : b.length = n at *
  clear hc hl
  go_enter Tryd.func65, Tryd.ntmps65
  go_wp2
  go_loopw [3, 8] (fun s iv wr => ∃ (j : Nat), iv = .int .i64 (j : Int) ∧ s = .int .u64 ((sb (b.take j) : Nat) : Int) ∧ j ≤ n ∧ wr = w) (fun _ iv _ => (n - intOf iv).toNat)
  case atStart => exact ⟨0, rfl, rfl, by omega, rfl⟩
  case round =>
    obtain ⟨j, rfl, rfl, hj, rfl⟩ := hrel
    by_cases hlt : j < n
    · have hd : decide ((j : Int) < (n : Int)) = true := by simp; omega
      have hji : (j : Int) < (n : Int) := by omega
      obtain ⟨g, off, rfl, hcj⟩ := HC.out j hlt
      have hx := HL.out _ (getD_in (b := b) (j := j) (by omega))
      have hor : bits .or .u64 ((sb (b.take j) : Nat) : Int) ((2 ^ b.getD j 0 : Nat) : Int) = ((sb (b.take (j + 1)) : Nat) : Int) := by
        rw [HS.out j hlt]
        exact orN (sb_lt (take_lt HL.out j)) (pow_lt64 hx)
      obtain ⟨x, Hx⟩ : ∃ x, Hid (x = b.getD j 0) := ⟨_, rfl⟩
      obtain ⟨S, HSj⟩ : ∃ S, Hid (S = sb (b.take j)) := ⟨_, rfl⟩
      obtain ⟨T, HT⟩ : ∃ T, Hid (T = sb (b.take (j + 1))) := ⟨_, rfl⟩
      rw [← Hx.out] at hcj hx hor
      rw [← HSj.out, ← HT.out] at hor
      rw [← HSj.out]
      have O := only_any x hx wr
      obtain ⟨P2, HP⟩ : ∃ P2, Hid (P2 = 2 ^ x) := ⟨_, (rfl : 2 ^ x = 2 ^ x)⟩
      rw [← HP.out] at hor O
      go_wp2_with (go_at_call 72; refine O.mono ?_; rintro e w' ⟨rfl, rfl⟩)
      go_roundw
      case rel => exact ⟨j + 1, by go_num, by rw [HT.out], by omega, by trivial⟩
      case measure => simp [intOf]; omega
    · have hd : decide ((j : Int) < (n : Int)) = false := by simp; omega
      obtain rfl : j = n := by omega
      rw [List.take_of_length_le (by omega)]
      clear HS
      go_wp2
      go_ret
      exact ⟨rfl, rfl⟩

end Go.Proofs.YtcjkcgfohmhbcabDoor

/- The walk of open. -/
namespace Go.Proofs.YtcjkcgfohmhbcabDoor
open Go.RowKit

theorem undS : Tryd.prog.underlying 96 = some (.slice 105) := by kernel_rfl
theorem infoS : ∃ i, Tryd.prog.info? 105 = some i ∧ i.zero = some (.int .u64 0) ∧ i.size = 1 ∧ i.bytes = 8 := by
  have h1 : (Tryd.prog.info? 105).map (·.zero) = some (some (.int .u64 0)) := by kernel_rfl
  have h2 : (Tryd.prog.info? 105).map (·.size) = some 1 := by kernel_rfl
  have h3 : (Tryd.prog.info? 105).map (·.bytes) = some 8 := by kernel_rfl
  cases h : Tryd.prog.info? 105 with
  | none => rw [h] at h1; cases h1
  | some i =>
    rw [h] at h1 h2 h3
    exact ⟨i, rfl, Option.some.inj h1, Option.some.inj h2, Option.some.inj h3⟩
theorem own_keepE {w w' : World} {base n : Nat} {e : TypeId} {v : Value} {xs : List Value} (h : w.ownsRow base e 1 v n xs) (k : ∀ b, base ≤ b → b < w.heap.size → w'.heap[b]? = w.heap[b]?) : w'.ownsRow base e 1 v n xs := by
  obtain ⟨h3, h4 | ⟨g, cap, cur, h5, h6, h7, h8⟩⟩ := h
  · exact ⟨h3, .inl h4⟩
  · exact ⟨h3, .inr ⟨g, cap, cur, h5, h6, (k g h6 (Array.getElem?_eq_some_iff.1 h7).1).trans h7, h8⟩⟩
theorem own_formE {w : World} {base n : Nat} {e : TypeId} {v : Value} {xs : List Value} (h : w.ownsRow base e 1 v n xs) : ∃ a c, v = .slice a n c := by
  obtain ⟨_, ⟨rfl, rfl⟩ | ⟨g, cap, cur, rfl, _⟩⟩ := h
  · exact ⟨_, _, rfl⟩
  · exact ⟨_, _, rfl⟩
theorem good_dF {v : Nat} {B : List (List Nat)} (G : GoodD v B) : dF (v : Int) (toZ B) = 0 := by
  have h1 := G.pos
  have h2 := G.le
  unfold dF
  rw [if_neg (by omega), if_neg (by have := G.few; simp [toZ]; omega)]
  refine blF_none fun m c hc => ?_
  obtain ⟨b, hb, rfl⟩ := List.mem_map.1 (List.mem_of_getElem? hc)
  have hr := rs_iff.1 (G.rs b hb)
  have key : ∀ j, j < b.length → (b.map Int.ofNat).getD j 0 = ((b.getD j 0 : Nat) : Int) := fun j hj => ofNat_at b hj
  refine bF_ok (fun j hj => ?_) (fun j hj1 hj => ?_)
  · rw [List.length_map] at hj
    rw [key j hj]
    have := (hr.2 _ (getD_in hj)).2
    omega
  · rw [List.length_map] at hj
    rw [key j hj, key (j - 1) (by omega)]
    have := List.pairwise_iff_getElem.1 hr.1 (j - 1) j (by omega) hj (by omega)
    rw [List.getD_eq_getElem?_getD, List.getD_eq_getElem?_getD, List.getElem?_eq_getElem hj, List.getElem?_eq_getElem (show j - 1 < b.length by omega)]
    simp only [Option.getD_some]
    omega
/-- The set of a list of numbers, as a value. -/
def sbV (b : List Int) : Value := .int .u64 ((sb (b.map Int.toNat) : Nat) : Int)
/-- A row of sets of one's own. -/
def SRow (w : World) (base : Nat) (v : Value) (S : List Nat) : Prop := w.ownsRow base 105 1 v S.length (S.map fun s => Value.int .u64 ((s : Nat) : Int))
theorem sbV_toZ (B : List (List Nat)) : (toZ B).map sbV = (B.map sb).map fun s => Value.int .u64 ((s : Nat) : Int) := by
  unfold toZ
  rw [List.map_map, List.map_map]
  refine List.map_congr_left fun b _ => ?_
  show sbV (b.map Int.ofNat) = _
  unfold sbV
  rw [List.map_map]
  have : Int.toNat ∘ Int.ofNat = id := by funext x; rfl
  rw [this, List.map_id]
  rfl

set_option maxHeartbeats 4000000 in
theorem open_far (p : Int) (v : Value) (w : World) (h : p < 1 ∨ 40 < p) :
    Calls Tryd.prog 52 #[.agg #[.int .i64 p, v]] w fun e w' => e = .returned (.tuple #[.slice none 0 0, .int .i64 1]) ∧ Below w.heap.size w w' := by
  obtain ⟨x0, x1⟩ := des_box p v w _ (Below.refl _ _)
  have hb := balloc w (.cells #[.int .i64 p, v] 42)
  by_cases h1 : p < 1
  · have hd : decide (p < 1) = true := decide_eq_true h1
    go_enter Tryd.func52, Tryd.ntmps52
    go_wp2
    exact bodyPost_ret (v := .tuple #[.slice none 0 0, .int .i64 1]) (by simp [results, Tryd.results52, go_sem]) rfl ⟨rfl, hb⟩
  · have hd : decide (p < 1) = false := decide_eq_false h1
    have hd2 : decide (40 < p) = true := decide_eq_true (by omega)
    go_enter Tryd.func52, Tryd.ntmps52
    go_wp2
    exact bodyPost_ret (v := .tuple #[.slice none 0 0, .int .i64 1]) (by simp [results, Tryd.results52, go_sem]) rfl ⟨rfl, hb⟩

set_option maxRecDepth 100000 in
set_option maxHeartbeats 8000000 in
theorem open_main (p : Int) (ls : List (List Int)) (v : Value) (w : World) (h1 : 1 ≤ p) (h40 : p ≤ 40) (hv : Rw w v ls) (_hl : ls.length ≤ maxLen) (hll : ∀ l ∈ ls, l.length ≤ maxLen) :
    Calls Tryd.prog 52 #[.agg #[.int .i64 p, v]] w fun e w' => (∃ x, e = .returned (.tuple #[x, .int .i64 (dF p ls : Int)]) ∧ (dF p ls ≠ 0 → x = .slice none 0 0) ∧ (dF p ls = 0 → w'.ownsRow (w.heap.size + 1) 105 1 x ls.length (ls.map sbV))) ∧ Below w.heap.size w w' := by
  have hd : decide (p < 1) = false := decide_eq_false (by omega)
  have hd2 : decide (40 < p) = false := decide_eq_false (by omega)
  have HC : Hid (∀ W, Below (w.alloc (.cells #[.int .i64 p, v] 42)).heap.size (w.alloc (.cells #[.int .i64 p, v] 42)) W → W.cell? ⟨w.heap.size, 0, none⟩ = some (.int .i64 p) ∧ W.cell? ⟨w.heap.size, 1, none⟩ = some v) := des_box p v w
  obtain ⟨w0, Hw0⟩ : ∃ w0, Hid (w0 = w.alloc (.cells #[.int .i64 p, v] 42)) := ⟨_, rfl⟩
  rw [← Hw0.out] at HC
  have HB0 : Hid (Below w.heap.size w w0) := by rw [Hw0.out]; exact balloc _ _
  have HW0 : Hid (w0.heap.size = w.heap.size + 1) := by show _ = _; rw [Hw0.out]; simp
  have HV : Hid (Rw w v ls) := hv
  have HLL : Hid (∀ l ∈ ls, l.length ≤ maxLen) := hll
  obtain ⟨a, cap, rfl, _⟩ := hv
  obtain ⟨x0, x1⟩ := HC.out _ (Below.refl _ _)
  rw [Hw0.out] at x0 x1
  by_cases hbig : 200 < ls.length
  · have hz : dF p ls = 3 := by unfold dF; rw [if_neg (by omega), if_pos hbig]
    rw [hz]
    have hdb : decide ((200 : Int) < (ls.length : Int)) = true := by simp; omega
    have hdn : decide (200 < ls.length) = true := decide_eq_true hbig
    unfold maxLen at _hl
    generalize hn : ls.length = n at *
    clear hll hz
    go_enter Tryd.func52, Tryd.ntmps52
    go_wp2
    exact bodyPost_ret (v := .tuple #[.slice none 0 0, .int .i64 3]) (by simp [results, Tryd.results52, go_sem]) rfl ⟨⟨_, rfl, fun _ => rfl, fun h => by cases h⟩, balloc w _⟩
  · have hz : dF p ls = blF p ls := by unfold dF; rw [if_neg (by omega), if_neg hbig]
    rw [hz]
    have HZ1 : Hid (∀ i b, ls[i]? = some b → (∀ m c, m < i → ls[m]? = some c → bF p c = 0) → bF p b ≠ 0 → blF p ls = bF p b) := fun i b => blF_at
    have HZ0 : Hid ((∀ (m : Nat) (c : List Int), ls[m]? = some c → bF p c = 0) → blF p ls = 0) := blF_none
    have HAT : Hid (∀ i, i < ls.length → ∃ b, ls[i]? = some b) := fun i hi => ⟨_, List.getElem?_eq_getElem hi⟩
    have HLE : Hid (∀ i b, ls[i]? = some b → i < ls.length) := fun i b h => (List.getElem?_eq_some_iff.1 h).1
    have HTK : Hid (∀ i b, ls[i]? = some b → (ls.take (i + 1)).map sbV = (ls.take i).map sbV ++ [sbV b]) := fun i b h => by
      rw [List.take_add_one, h]; simp
    have HALL : Hid ((ls.take ls.length).map sbV = ls.map sbV) := by show _ = _; rw [List.take_of_length_le (Nat.le_refl _)]
    have hdb : decide ((200 : Int) < (ls.length : Int)) = false := by simp; omega
    have hn2 : ls.length ≤ 200 := by omega
    generalize hzz : blF p ls = z at *
    generalize hn : ls.length = n at *
    clear hll hz hbig _hl hzz
    obtain ⟨i3, hi3, hz0, hz1, hz2⟩ := infoS
    have HP : Hid (1 ≤ p ∧ p ≤ 40) := ⟨h1, h40⟩
    go_enter Tryd.func52, Tryd.ntmps52
    go_wp2
    go_loopw [4, 23] (fun ov iv wr => ∃ i : Nat, iv = .int .i64 (i : Int) ∧ i ≤ n ∧ Hid (∀ m c, m < i → ls[m]? = some c → bF p c = 0) ∧ Below w0.heap.size w0 wr ∧ wr.ownsRow w0.heap.size 105 1 ov i ((ls.take i).map sbV)) (fun _ iv _ => (n - intOf iv).toNat)
    case atStart => exact ⟨0, rfl, by omega, (show ∀ m c, m < 0 → _ from fun m c h => by omega), by rw [Hw0.out]; exact Below.refl _ _, by rw [List.take_zero]; exact World.ownsRow_nil _ _ _ _⟩
    case round =>
      clear x0 x1
      obtain ⟨i, rfl, hi, HI, hB, hown⟩ := hrel
      obtain ⟨x0, x1⟩ := HC.out _ hB
      have hbz := hB.size
      by_cases hlt : i < n
      · have hdi : decide ((i : Int) < (n : Int)) = true := by simp; omega
        have hii : (i : Int) < (n : Int) := by omega
        obtain ⟨b, hbi⟩ := HAT.out i hlt
        have HBI : Hid (ls[i]? = some b) := hbi
        have hbl := HLL.out b (List.mem_of_getElem? hbi)
        obtain ⟨a', cap', e, hrows⟩ := HV.out.below (Below.next HB0.out hB)
        obtain ⟨bb, off, u, e2, hcell, hSu⟩ := hrows i b hbi
        obtain ⟨rfl, rfl⟩ : a = a' ∧ cap = cap' := by
          simp only [Value.slice.injEq] at e
          exact ⟨e.1, e.2.2⟩
        subst e2
        have C1 := checkBlock_any p b u wr hSu hbl
        obtain ⟨ua, uc, ue, _⟩ := id hSu
        have HSU : Hid (∀ W, Below wr.heap.size wr W → Sl W u b) := fun W bW => hSu.below bW
        obtain ⟨f, Hf⟩ : ∃ f, Hid (bF p b = f) := ⟨_, rfl⟩
        rw [Hf.out] at C1
        have HC2 : Hid (f = 0 → ∀ W, Below wr.heap.size wr W → ∃ s : Nat, sbV b = .int .u64 (s : Int) ∧ Calls Tryd.prog 65 #[u] W fun e w' => e = .returned (.int .u64 (s : Int)) ∧ w' = W) := fun h0 W bW => by
          obtain ⟨g1, g2⟩ := bF_zero (Hf.out.trans h0)
          obtain ⟨pv, rfl⟩ : ∃ pv : Nat, p = (pv : Int) := ⟨p.toNat, by have := HP.out; omega⟩
          obtain ⟨r1, r2⟩ := toNat_rs (lo := 0) (v := pv) (fun j hj => by have := g1 j hj; omega) g2
          have r3 := rs_iff.1 r1
          refine ⟨_, rfl, setOf_any (b.map Int.toNat) u W (by rw [r2]; exact HSU.out W bW) ?_ fun x hx => ?_⟩
          · have := (rise_pts r3.1 (fun x hx => (r3.2 x hx).2)).le
            have := HP.out
            omega
          · have := r3.2 x hx
            have := HP.out
            omega
        clear hSu hrows e hbi HSU
        by_cases hf : f = 0
        · have hfd : ((f : Int) != 0) = false := by simp [hf]
          have HI2 : Hid (∀ m c, m < i + 1 → ls[m]? = some c → bF p c = 0) := fun m c hm hc => by
            by_cases e : m = i
            · subst e
              rw [HBI.out] at hc
              obtain rfl := Option.some.inj hc
              rw [Hf.out]; exact hf
            · exact HI.out m c (by omega) hc
          have HTi := HTK.out i b HBI.out
          have HTI : Hid ((ls.take (i + 1)).map sbV = (ls.take i).map sbV ++ [sbV b]) := HTi
          clear HTi HI
          subst ue
          go_wp2_with (go_at_call 64; refine C1.mono ?_; rintro e w3 ⟨rfl, hb3⟩; clear C1)
          obtain ⟨s, hs, C2⟩ := HC2.out hf w3 hb3
          have hb3s := hb3.size
          have hown3 := own_keepE hown fun b _ hb => hb3.block b hb
          refine C2.mono ?_
          rintro e w4 ⟨rfl, hw⟩
          replace hw := hw.symm
          subst hw
          clear C2 x0 x1 hcell hown
          have hb03 : Below w0.heap.size w0 w3 := hB.trans (hb3.mono hbz)
          have hbz3 := hb03.size
          go_wp2_with (first
            | (at_builtin; refine wpList_append_own _ rfl _ _ 96 rfl w0.heap.size 105 i3 (.int .u64 0) 1 8 undS hi3 hz0 hz1 hz2 rfl (by decide) _ _ _ rfl (hown3.alloc _) ⟨w3.heap.size, 0, none⟩ 1 1 [.int .u64 (s : Int)] rfl rfl ?c1 ?c2 ?c3 ?c4 ?c5 ?_)
            | go_in)
          case c1 =>
            intro j u hj
            match j, hj with
            | 0, hj => simp at hj; subst hj; simp [Addr.add]
          case c2 => intro u hu; simp at hu; subst hu; rfl
          case c3 => unfold maxLen; omega
          case c4 => omega
          case c5 => simp; omega
          · intro v' w2 hown' hgrow _
            have hb2 : Below w0.heap.size w0 w2 := (hb03.alloc hbz3 _).grown hgrow (by simp; omega) (fun k hk => (hown3.lt k hk).1)
            go_wp2
            go_roundw
            case rel => exact ⟨i + 1, by go_num, by omega, HI2, hb2, by rw [HTI.out, hs, List.map_take]; exact hown'⟩
            case measure => simp [intOf]; omega
        · have hfd : ((f : Int) != 0) = true := by simp; omega
          have hzf := HZ1.out i b HBI.out HI.out (by rw [Hf.out]; exact hf)
          rw [Hf.out] at hzf
          subst hzf
          clear HI HC2
          subst ue
          go_wp2_with (go_at_call 64; refine C1.mono ?_; rintro e w3 ⟨rfl, hb3⟩; clear C1)
          refine bodyPost_ret (v := .tuple #[.slice none 0 0, .int .i64 (z : Int)]) (by simp [results, Tryd.results52, go_sem]) rfl ⟨⟨_, rfl, fun _ => rfl, fun h => (hf h).elim⟩, HB0.out.trans ?_⟩
          exact ((hB.trans (hb3.mono hbz)).mono HB0.out.size)
      · have hdi : decide ((i : Int) < (n : Int)) = false := by simp; omega
        obtain rfl : i = n := by omega
        have hzf := HZ0.out fun m c h => HI.out m c (HLE.out m c h) h
        subst hzf
        obtain ⟨ra, rc, er⟩ : ∃ a c, _ = Value.slice a i c := own_formE hown
        subst er
        rw [HALL.out, HW0.out] at hown
        clear HI hlt
        go_wp2
        exact bodyPost_ret (v := .tuple #[.slice ra i rc, .int .i64 0]) (by simp [results, Tryd.results52, go_sem]) rfl ⟨⟨_, rfl, hown⟩, HB0.out.trans (hB.mono HB0.out.size)⟩

theorem open_any (p : Int) (ls : List (List Int)) (v : Value) (w : World) (hv : Rw w v ls) (hl : ls.length ≤ maxLen) (hll : ∀ l ∈ ls, l.length ≤ maxLen) :
    Calls Tryd.prog 52 #[.agg #[.int .i64 p, v]] w fun e w' => (∃ x, e = .returned (.tuple #[x, .int .i64 (dF p ls : Int)]) ∧ (dF p ls ≠ 0 → x = .slice none 0 0) ∧ (dF p ls = 0 → w'.ownsRow (w.heap.size + 1) 105 1 x ls.length (ls.map sbV))) ∧ Below w.heap.size w w' := by
  by_cases h : p < 1 ∨ 40 < p
  · have hz : dF p ls = 1 := by unfold dF; rw [if_pos h]
    rw [hz]
    refine (open_far p v w h).mono ?_
    rintro e w' ⟨rfl, hb⟩
    exact ⟨⟨_, rfl, fun _ => rfl, fun h => by cases h⟩, hb⟩
  · exact open_main p ls v w (by omega) (by omega) hv hl hll
/-- A design that passes, opened. -/
theorem open_good (v : Nat) (B : List (List Nat)) (u : Value) (w : World) (G : GoodD v B) (hu : Rw w u (toZ B)) :
    Calls Tryd.prog 52 #[.agg #[.int .i64 (v : Int), u]] w fun e w' => (∃ x, e = .returned (.tuple #[x, .int .i64 0]) ∧ SRow w' (w.heap.size + 1) x (B.map sb)) ∧ Below w.heap.size w w' := by
  have hz : dF (v : Int) (toZ B) = 0 := good_dF G
  have hlen : (toZ B).length = B.length := by simp [toZ]
  refine (open_any (v : Int) (toZ B) u w hu ?_ ?_).mono ?_
  · rw [hlen]; have := G.few; unfold maxLen; omega
  · intro l hl
    obtain ⟨b, hb, rfl⟩ := List.mem_map.1 hl
    rw [List.length_map]
    have := G.len hb
    unfold maxLen; omega
  · rintro e w' ⟨⟨x, rfl, _, h2⟩, hb⟩
    rw [hz]
    refine ⟨⟨x, rfl, ?_⟩, hb⟩
    have := h2 hz
    unfold SRow
    rw [← sbV_toZ, List.length_map, ← hlen]
    exact this

end Go.Proofs.YtcjkcgfohmhbcabDoor

/- The walks of Check, size, holding. -/
namespace Go.Proofs.YtcjkcgfohmhbcabDoor
open Go.RowKit

theorem Check_any (p : Int) (ls : List (List Int)) (v : Value) (w : World) (hv : Rw w v ls) (hl : ls.length ≤ maxLen) (hll : ∀ l ∈ ls, l.length ≤ maxLen) :
    Calls Tryd.prog 37 #[.agg #[.int .i64 p, v]] w fun e w' => e = .returned (.int .i64 (dF p ls : Int)) ∧ Below w.heap.size w w' := by
  obtain ⟨x0, x1⟩ := des_box p v w _ (Below.refl _ _)
  have b0 := balloc w (.cells #[.int .i64 p, v] 42)
  have C1 := open_any p ls v _ (hv.below b0) hl hll
  generalize dF p ls = z at *
  clear hv hl hll
  go_enter Tryd.func37, Tryd.ntmps37
  go_wp2_with (go_at_call 52; refine C1.mono ?_; rintro e w3 ⟨⟨x, rfl, _, _⟩, hb3⟩; clear C1)
  go_ret
  exact ⟨rfl, Below.next b0 hb3⟩

/-- A row of sets that is read. -/
def SS (w : World) (v : Value) (S : List Nat) : Prop := ∃ a cap, v = .slice a S.length cap ∧ ∀ j, j < S.length → ∃ g off, a = some ⟨g, off, none⟩ ∧ w.cell? ⟨g, off + j, none⟩ = some (.int .u64 ((S.getD j 0 : Nat) : Int))
theorem SS.below {w w' : World} {v : Value} {S : List Nat} (h : SS w v S) (hb : Below w.heap.size w w') : SS w' v S := by
  obtain ⟨a, cap, rfl, h⟩ := h
  refine ⟨a, cap, rfl, fun j hj => ?_⟩
  obtain ⟨b, off, e, hc⟩ := h j hj
  exact ⟨b, off, e, (hb.cell (p := ⟨b, off + j, none⟩) (block_lt_of_cell hc)).trans hc⟩
theorem SRow.ss {w : World} {base : Nat} {v : Value} {S : List Nat} (h : SRow w base v S) : SS w v S := by
  obtain ⟨_, ⟨rfl, hn⟩ | ⟨g, cap, cur, rfl, _, hg, _, _, _, ht⟩⟩ := h
  · have : S = [] := List.length_eq_zero_iff.1 hn
    subst this
    exact ⟨none, 0, rfl, fun j hj => by simp at hj⟩
  · refine ⟨_, cap, rfl, fun j hj => ⟨g, 0, rfl, ?_⟩⟩
    rw [cell_of_row w g _ cur 105 (0, 0) hg]
    have h2 : (cur.toList.take (S.length * 1))[j]? = (S.map fun s => Value.int .u64 ((s : Nat) : Int))[j]? := by rw [ht]
    rw [List.getElem?_take, if_pos (by omega)] at h2
    rw [Nat.zero_add, ← Array.getElem?_toList, h2]
    simp [hj]

set_option maxHeartbeats 4000000 in
theorem holding_any (S : List Nat) (s : Nat) (u : Value) (w : World) (hu : SS w u S) (hl : S.length ≤ 200) (hs : s < 2 ^ 64) (hS : ∀ x ∈ S, x < 2 ^ 64) :
    Calls Tryd.prog 74 #[u, .int .u64 (s : Int)] w fun e w' => e = .returned (.int .i64 ((S.countP fun b => decide (an s b = 0) : Nat) : Int)) ∧ w' = w := by
  obtain ⟨a, cap, rfl, hc⟩ := hu
  have HC : Hid (∀ j, j < S.length → ∃ g off, a = some ⟨g, off, none⟩ ∧ w.cell? ⟨g, off + j, none⟩ = some (.int .u64 ((S.getD j 0 : Nat) : Int))) := hc
  have HT : Hid (∀ j, j < S.length → (S.take (j + 1)).countP (fun b => decide (an s b = 0)) = (S.take j).countP (fun b => decide (an s b = 0)) + if decide (an s (S.getD j 0) = 0) = true then 1 else 0) := fun j hj => by
    rw [List.take_succ_eq_append_getElem hj, List.countP_append, List.getD_eq_getElem?_getD, List.getElem?_eq_getElem hj, List.countP_singleton]
    rfl
  have HA : Hid ((S.take S.length).countP (fun b => decide (an s b = 0)) = S.countP fun b => decide (an s b = 0)) := by show _ = _; rw [List.take_of_length_le (Nat.le_refl _)]
  have HW : Hid (∀ j, j < S.length → ∀ W, Calls Tryd.prog 82 #[.int .u64 (s : Int), .int .u64 ((S.getD j 0 : Nat) : Int)] W fun e w' => e = .returned (.bool (decide (an s (S.getD j 0) = 0))) ∧ w' = W) := fun j hj W => within_any s _ _ hs (hS _ (getD_in hj)) rfl W
  have HN : Hid (∀ j, j ≤ S.length → (S.take j).countP (fun b => decide (an s b = 0)) ≤ 200) := fun j hj => by
    refine Nat.le_trans List.countP_le_length ?_
    rw [List.length_take]; omega
  generalize hn : S.length = n at *
  clear hc hS hs
  go_enter Tryd.func74, Tryd.ntmps74
  go_wp2
  go_loopw [5, 10] (fun cv iv wr => ∃ (j : Nat), iv = .int .i64 (j : Int) ∧ cv = .int .i64 (((S.take j).countP (fun b => decide (an s b = 0)) : Nat) : Int) ∧ j ≤ n ∧ wr = w) (fun _ iv _ => (n - intOf iv).toNat)
  case atStart => exact ⟨0, rfl, rfl, by omega, rfl⟩
  case round =>
    obtain ⟨j, rfl, rfl, hj, rfl⟩ := hrel
    by_cases hlt : j < n
    · have hd : decide ((j : Int) < (n : Int)) = true := by simp; omega
      have hji : (j : Int) < (n : Int) := by omega
      obtain ⟨g, off, rfl, hcj⟩ := HC.out j hlt
      have C1 := HW.out j hlt wr
      have hT := HT.out j hlt
      have hN := HN.out j hj
      obtain ⟨y, Hy⟩ : ∃ y, Hid (S.getD j 0 = y) := ⟨_, rfl⟩
      rw [Hy.out] at hcj C1 hT
      obtain ⟨q, Hq⟩ : ∃ q, Hid (decide (an s y = 0) = q) := ⟨_, rfl⟩
      rw [Hq.out] at C1 hT
      obtain ⟨c0, Hc0⟩ : ∃ c, Hid ((S.take j).countP (fun b => decide (an s b = 0)) = c) := ⟨_, rfl⟩
      obtain ⟨c1, Hc1⟩ : ∃ c, Hid ((S.take (j + 1)).countP (fun b => decide (an s b = 0)) = c) := ⟨_, rfl⟩
      rw [Hc0.out] at hT hN ⊢
      rw [Hc1.out] at hT
      cases q with
      | true =>
        rw [if_pos rfl] at hT
        go_wp2_with (go_at_call 82; refine C1.mono ?_; rintro e w' ⟨rfl, hw⟩; replace hw := hw.symm; subst hw)
        go_roundw
        case rel => exact ⟨j + 1, by go_num, by rw [Hc1.out, hT]; go_num, by omega, by trivial⟩
        case measure => simp [intOf]; omega
      | false =>
        rw [if_neg (by decide)] at hT
        go_wp2_with (go_at_call 82; refine C1.mono ?_; rintro e w' ⟨rfl, hw⟩; replace hw := hw.symm; subst hw)
        go_roundw
        case rel => exact ⟨j + 1, by go_num, by rw [Hc1.out, hT]; rfl, by omega, by trivial⟩
        case measure => simp [intOf]; omega
    · have hd : decide ((j : Int) < (n : Int)) = false := by simp; omega
      obtain rfl : j = n := by omega
      rw [HA.out]
      clear HT HW HN
      go_wp2
      go_ret
      exact ⟨rfl, rfl⟩

end Go.Proofs.YtcjkcgfohmhbcabDoor

namespace Go.Proofs.YtcjkcgfohmhbcabDoor
open Go.RowKit

theorem sizes_none (w : World) (a : Option Addr) (c : Nat) :
    Calls Tryd.prog 66 #[.slice a 0 c] w fun e w' => e = .returned (.tuple #[.int .i64 0, .bool false]) ∧ w' = w := by
  go_enter Tryd.func66, Tryd.ntmps66
  go_wp2
  exact bodyPost_ret (v := .tuple #[.int .i64 0, .bool false]) (by simp [results, Tryd.results66, go_sem]) rfl ⟨rfl, rfl⟩

set_option maxHeartbeats 4000000 in
theorem sizes_main (S : List Nat) (u : Value) (w : World) (hu : SS w u S) (hl : S.length ≤ 200) (hS : ∀ x ∈ S, x < 2 ^ 64) (hne : 0 < S.length) :
    Calls Tryd.prog 66 #[u] w fun e w' => ((e = .returned (.tuple #[.int .i64 (pc (S.getD 0 0) : Int), .bool true]) ∧ ∀ x ∈ S, pc x = pc (S.getD 0 0)) ∨ (e = .returned (.tuple #[.int .i64 0, .bool false]) ∧ ¬ ∃ k, ∀ x ∈ S, pc x = k)) ∧ w' = w := by
  obtain ⟨a, cap, rfl, hc⟩ := hu
  have HC : Hid (∀ j, j < S.length → ∃ g off, a = some ⟨g, off, none⟩ ∧ w.cell? ⟨g, off + j, none⟩ = some (.int .u64 ((S.getD j 0 : Nat) : Int))) := hc
  have HW : Hid (∀ j, j < S.length → ∀ W, Calls Tryd.prog 73 #[.int .u64 ((S.getD j 0 : Nat) : Int)] W fun e w' => e = .returned (.int .i64 (pc (S.getD j 0) : Int)) ∧ w' = W) := fun j hj W => size_any _ (hS _ (getD_in hj)) W
  have HY : Hid ((∀ m, m < S.length → pc (S.getD m 0) = pc (S.getD 0 0)) → ∀ x ∈ S, pc x = pc (S.getD 0 0)) := fun h x hx => by
    obtain ⟨m, hm, rfl⟩ := List.mem_iff_getElem.1 hx
    have := h m hm
    rwa [List.getD_eq_getElem?_getD, List.getElem?_eq_getElem hm] at this
  have HNo : Hid (∀ m, m < S.length → pc (S.getD m 0) ≠ pc (S.getD 0 0) → ¬ ∃ k, ∀ x ∈ S, pc x = k) := fun m hm h => by
    rintro ⟨k, hk⟩
    exact h ((hk _ (getD_in hm)).trans (hk _ (getD_in hne)).symm)
  have HP : Hid (∀ m, pc (S.getD m 0) ≤ 64) := fun m => pc_le _
  obtain ⟨g0, off0, rfl, hc0⟩ := HC.out 0 hne
  have C0 := HW.out 0 hne w
  obtain ⟨k0, Hk0⟩ : ∃ k, Hid (pc (S.getD 0 0) = k) := ⟨_, rfl⟩
  have hk64 := HP.out 0
  rw [Hk0.out] at C0 HY HNo hk64 ⊢
  obtain ⟨y0, Hy0⟩ : ∃ y, Hid (S.getD 0 0 = y) := ⟨_, rfl⟩
  rw [Hy0.out] at hc0 C0
  rw [Nat.add_zero] at hc0
  generalize hn : S.length = n at *
  have hn0 : ((n : Int) == 0) = false := by simp; omega
  have hn1 : (0 : Int) < (n : Int) := by omega
  clear hc hS
  go_enter Tryd.func66, Tryd.ntmps66
  go_wp2_with (go_at_call 73; refine C0.mono ?_; rintro e w' ⟨rfl, hw⟩; replace hw := hw.symm; subst hw; clear C0)
  go_loopw [16] (fun iv wr => ∃ (j : Nat), iv = .int .i64 (j : Int) ∧ j ≤ n ∧ Hid (∀ m, m < j → pc (S.getD m 0) = k0) ∧ wr = w) (fun iv _ => (n - intOf iv).toNat)
  case atStart => exact ⟨0, rfl, by omega, (show ∀ m, m < 0 → _ from fun m h => by omega), rfl⟩
  case round =>
    obtain ⟨j, rfl, hj, HJ, rfl⟩ := hrel
    by_cases hlt : j < n
    · have hd : decide ((j : Int) < (n : Int)) = true := by simp; omega
      have hji : (j : Int) < (n : Int) := by omega
      obtain ⟨g, off, e2, hcj⟩ := HC.out j hlt
      obtain ⟨rfl, rfl⟩ : g0 = g ∧ off0 = off := by
        simp only [Option.some.injEq, Addr.mk.injEq] at e2
        exact ⟨e2.1, e2.2.1⟩
      have C1 := HW.out j hlt wr
      have hp := HP.out j
      obtain ⟨y, Hy⟩ : ∃ y, Hid (S.getD j 0 = y) := ⟨_, rfl⟩
      rw [Hy.out] at hcj C1 hp
      obtain ⟨k1, Hk1⟩ : ∃ k, Hid (pc y = k) := ⟨_, rfl⟩
      rw [Hk1.out] at C1 hp
      by_cases he : k1 = k0
      · have hd2 : ((k1 : Int) != (k0 : Int)) = false := by simp [he]
        have HJ2 : Hid (∀ m, m < j + 1 → pc (S.getD m 0) = k0) := fun m hm => by
          by_cases e : m = j
          · subst e; rw [Hy.out, Hk1.out]; exact he
          · exact HJ.out m (by omega)
        clear he HJ e2
        go_wp2_with (go_at_call 73; refine C1.mono ?_; rintro e w' ⟨rfl, hw⟩; replace hw := hw.symm; subst hw; clear C1)
        go_roundw
        case rel => exact ⟨j + 1, by go_num, by omega, HJ2, by trivial⟩
        case measure => simp [intOf]; omega
      · have hd2 : ((k1 : Int) != (k0 : Int)) = true := by simp; omega
        have hno := HNo.out j hlt (by rw [Hy.out, Hk1.out]; exact he)
        have HNO : Hid (¬ ∃ k, ∀ x ∈ S, pc x = k) := hno
        clear he HJ e2 hno
        go_wp2_with (go_at_call 73; refine C1.mono ?_; rintro e w' ⟨rfl, hw⟩; replace hw := hw.symm; subst hw; clear C1)
        exact bodyPost_ret (v := .tuple #[.int .i64 0, .bool false]) (by simp [results, Tryd.results66, go_sem]) rfl ⟨.inr ⟨rfl, HNO.out⟩, rfl⟩
    · have hd : decide ((j : Int) < (n : Int)) = false := by simp; omega
      obtain rfl : j = n := by omega
      have hy := HY.out HJ.out
      have HYS : Hid (∀ x ∈ S, pc x = k0) := hy
      clear hy HJ
      go_wp2
      exact bodyPost_ret (v := .tuple #[.int .i64 (k0 : Int), .bool true]) (by simp [results, Tryd.results66, go_sem]) rfl ⟨.inl ⟨rfl, HYS.out⟩, rfl⟩

end Go.Proofs.YtcjkcgfohmhbcabDoor
