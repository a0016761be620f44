/- The walks of Paley and of the document's PaleyOf. -/
import Derived.Test.YtamdpcajfgbagaaDoorFL5
import Derived.Test.YtamdpcajfgbagaaDoorW17
import Derived.Test.YtamdpcajfgbagaaDoorAlgG
import Derived.Test.YtamdpcajfgbagaaDoorW16
import Derived.Test.YtamdpcajfgbagaaDoorPBase
/- The walks of Check, Root and Squares. -/
/- The walk of Inv; Add, Mul and Inv on a true field; the closed fact. -/
/- The walks of pow, Inv and Pow; sums and products of a true field's elements. -/
namespace Go.Proofs.YtamdpcajfgbagaaDoor.Fd
open Go.RowKit

theorem mulQ_cast {P K : Nat} {m : Nat → Int} (hR : Ring1 P K m) (a b : Nat) : ((mulQ P K m a b : Nat) : Int) = hor (redN m K P K (mulN (digF a P) (digF b P) P K K)) P K K := by
  unfold mulQ
  exact Int.toNat_of_nonneg (hor_bd (k := K) (show (2 : Int) ≤ P by have := hR.two; omega) (mulQ_in hR a b) K).1
theorem addQ_cast {P K : Nat} (hP : 2 ≤ P) (a b : Nat) : ((addQ P K a b : Nat) : Int) = hor (plusF (digF a P) (digF b P) P) P K K := by
  unfold addQ
  exact Int.toNat_of_nonneg (hor_bd (k := K) (show (2 : Int) ≤ P by omega) (plusF_in _ _ _ (by omega)) K).1
theorem mul_Q (P K a b : Nat) (Q : Int) (m : Nat → Int) (w : World) (hR : Ring1 P K m) (hP' : P ≤ 64) (hK' : K ≤ 6) (hPK : P ^ K ≤ 64) (ha : a < P ^ K) (hb : b < P ^ K) (s : Nat) (hs : Hid (s = mulQ P K m a b)) :
    Calls Tryd.prog 46 #[.agg (ringRow P K Q m), .int .i64 a, .int .i64 b] w fun e w' => e = .returned (.int .i64 s) ∧ Below w.heap.size w w' := by
  have h := mul_any P K a b Q m w hR.two hP' hR.one hK' hPK ha hb hR.low hR.top
  rw [prod_same hR.two hR.one hK' ha hb, ← mulQ_cast hR, ← hs.out] at h
  exact h

end Go.Proofs.YtamdpcajfgbagaaDoor.Fd

namespace Go.Proofs.YtamdpcajfgbagaaDoor.Fd
open Go.RowKit

theorem sl_one (w : World) (a : Int) : Sl (w.alloc (.cells #[.int .i64 a] 3)) (.slice (some ⟨w.heap.size, 0, none⟩) 1 1) [a] := by
  refine ⟨_, 1, rfl, fun j hj => ⟨w.heap.size, 0, rfl, ?_⟩⟩
  have h := cell_of_row (w.alloc (.cells #[.int .i64 a] 3)) w.heap.size (0 + j) _ _ _ (heap_alloc_new w _)
  rw [h]
  have : j = 0 := by simp at hj; omega
  subst this; rfl
/-- A field that is one, in natural numbers. -/
structure GoodF (P K : Nat) (l : List Int) : Prop where
  fault : FaultIs (P : Int) K l 0
  field : FieldQ P K (monL l)
  le61 : P ≤ 61
  le6 : K ≤ 6
  le64 : P ^ K ≤ 64
  ord : ordZ (P : Int) K = ((P ^ K : Nat) : Int)
  len : l.length = K
theorem good_of {p k : Int} {l : List Int} (h : FaultIs p k l 0) : ∃ P K : Nat, p = P ∧ k = K ∧ GoodF P K l := by
  obtain ⟨h0, h1, h2, h3⟩ := h.ok
  obtain ⟨P, K, rfl, rfl, hP, hP', hK, hK', hPK, hq, hlen, hmi, hmK, hpr⟩ := good_parts h
  rw [Int.toNat_natCast, Int.toNat_natCast] at h3
  exact ⟨P, K, rfl, rfl, h, field_of_irr hpr hK hPK hlen h2 h3, hP', hK', hPK, hq, hlen⟩
theorem in_pair {P K : Nat} {l : List Int} (hG : GoodF P K l) {a b : Nat} (ha : a < P ^ K) (hb : b < P ^ K) : inL (ordZ (P : Int) K) [(a : Int), (b : Int)] := by
  rw [inL_pair, inB_iff, inB_iff, hG.ord]; omega
theorem in_one {P K : Nat} {l : List Int} (hG : GoodF P K l) {a : Nat} (ha : a < P ^ K) : inL (ordZ (P : Int) K) [(a : Int)] := by
  intro j hj
  have : j = 0 := by simp at hj; omega
  subst this
  rw [hG.ord]
  show 0 ≤ (a : Int) ∧ (a : Int) < _
  omega

def zBk (f : Nat → Int) : Bool := (List.range 11).all fun t => f t == 0
theorem zBk_iff (f : Nat → Int) : zBk f = true ↔ isZ f := by
  unfold zBk isZ
  rw [List.all_eq_true]
  simp
theorem fact_no : ∀ n, n < 3 → ¬ goodAt 2 3 n := by
  intro n hn h
  have h0 : zBk (redN (digF (2 ^ 1 + 0) 2) 1 (2 : Nat) (11 - 1) (digF (2 ^ 3 + 0) 2)) = true := by decide +kernel
  have h1 : zBk (redN (digF (2 ^ 1 + 1) 2) 1 (2 : Nat) (11 - 1) (digF (2 ^ 3 + 1) 2)) = true := by decide +kernel
  have h2 : zBk (redN (digF (2 ^ 1 + 0) 2) 1 (2 : Nat) (11 - 1) (digF (2 ^ 3 + 2) 2)) = true := by decide +kernel
  have : n = 0 ∨ n = 1 ∨ n = 2 := by omega
  rcases this with rfl | rfl | rfl
  · exact h 1 (by omega) (by omega) 0 (by decide) ((zBk_iff _).1 h0)
  · exact h 1 (by omega) (by omega) 1 (by decide) ((zBk_iff _).1 h1)
  · exact h 1 (by omega) (by omega) 0 (by decide) ((zBk_iff _).1 h2)
theorem fact_yes : goodAt 2 3 3 := by
  intro e h1 h2 b hb hz
  have he : e = 1 := by omega
  subst he
  have h0 : zBk (redN (digF (2 ^ 1 + 0) 2) 1 (2 : Nat) (11 - 1) (digF (2 ^ 3 + 3) 2)) = false := by decide +kernel
  have h1 : zBk (redN (digF (2 ^ 1 + 1) 2) 1 (2 : Nat) (11 - 1) (digF (2 ^ 3 + 3) 2)) = false := by decide +kernel
  have : b = 0 ∨ b = 1 := by simp at hb; omega
  rcases this with rfl | rfl
  · rw [(zBk_iff _).2 hz] at h0; cases h0
  · rw [(zBk_iff _).2 hz] at h1; cases h1
theorem fact_ord : ordZ 2 3 = 8 := by decide +kernel
theorem fact_least {q d : Int} {l : List Int} {z : Int} (h : LeastIs 2 3 q d l z) : q = 2 ∧ d = 3 ∧ l = digL 3 2 3 ∧ z = 0 :=
  h.one (.inr ⟨2, 3, rfl, rfl, by rw [fact_ord]; decide, .inl ⟨3, by decide, fact_yes, fact_no, rfl, rfl, rfl, rfl⟩⟩)
theorem fact_good : GoodF 2 3 (digL 3 2 3) := by
  have hin : inL (2 : Int) (digL 3 2 3) := fun j hj => by
    rw [digL_length] at hj
    rw [digL_at _ _ _ _ hj]; exact digF_in 3 2 (by omega) j
  have hirr : irrP (monL (digL 3 2 3)) 3 2 := by rw [monL_dig 3 2 3 (by decide) (by decide)]; exact fact_yes
  have hF : FaultIs ((2 : Nat) : Int) ((3 : Nat) : Int) (digL 3 2 3) 0 := .inr (.inr (.inr (.inr ⟨by rw [show ((2 : Nat) : Int) = 2 from rfl, show ((3 : Nat) : Int) = 3 from rfl, fact_ord]; decide, by rw [digL_length], hin, hirr, rfl⟩)))
  obtain ⟨P, K, e1, e2, hG⟩ := good_of hF
  obtain rfl : 2 = P := by omega
  obtain rfl : 3 = K := by omega
  exact hG
theorem fact_mul : mulQ 2 3 (monL (digL 3 2 3)) 4 2 = 3 := by decide +kernel

end Go.Proofs.YtamdpcajfgbagaaDoor.Fd

/- One bool of a row of 64. -/
/- The walks of squares and SquaresOf. -/
/- The walk of root. -/
/- The walks of turns, root and RootOf: the least element whose powers are all. -/
/- The walk of Pow on a true field. -/
namespace Go.Proofs.YtamdpcajfgbagaaDoor.Fd
open Go.RowKit

theorem good_frob {P K : Nat} {l : List Int} (hG : GoodF P K l) {a b : Nat} (ha : a < P ^ K) (hb : b < P ^ K) : powQ P K (monL l) (addQ P K a b) P = addQ P K (powQ P K (monL l) a P) (powQ P K (monL l) b P) := by
  obtain ⟨h0, h1, h2, h3⟩ := hG.fault.ok
  rw [Int.toNat_natCast, Int.toNat_natCast] at h3
  exact frobenius (ord_parts h0).1 hG.field.one hG.le64 hG.len h2 h3 hG.field.toRing1 ha hb

end Go.Proofs.YtamdpcajfgbagaaDoor.Fd

namespace Go.Proofs.YtamdpcajfgbagaaDoor.Fd
open Go.RowKit

/-- n is the least number of factors a, one or more, whose product is 1. -/
def IsOrd (P K : Nat) (m : Nat → Int) (a n : Nat) : Prop := 1 ≤ n ∧ powQ P K m a n = 1 ∧ ∀ j, 1 ≤ j → j < n → powQ P K m a j ≠ 1
theorem IsOrd.one {P K : Nat} {m : Nat → Int} {a n n' : Nat} (h : IsOrd P K m a n) (h' : IsOrd P K m a n') : n = n' := by
  apply Classical.byContradiction
  intro e
  by_cases hlt : n < n'
  · exact h'.2.2 n h.1 hlt h.2.1
  · exact h.2.2 n' h'.1 (by omega) h'.2.1
/-- r is the least element whose powers are all but 0, or 0 where there is none. -/
def RootIs (P K : Nat) (m : Nat → Int) (r : Nat) : Prop :=
  (1 ≤ r ∧ r < P ^ K ∧ IsOrd P K m r (P ^ K - 1) ∧ ∀ a, 1 ≤ a → a < r → ¬ IsOrd P K m a (P ^ K - 1)) ∨ (r = 0 ∧ ∀ a, 1 ≤ a → a < P ^ K → ¬ IsOrd P K m a (P ^ K - 1))
theorem RootIs.one {P K : Nat} {m : Nat → Int} {r r' : Nat} (h : RootIs P K m r) (h' : RootIs P K m r') : r = r' := by
  rcases h with ⟨h1, h2, h3, h4⟩ | ⟨rfl, h⟩
  · rcases h' with ⟨h1', h2', h3', h4'⟩ | ⟨rfl, h'⟩
    · apply Classical.byContradiction
      intro e
      by_cases hlt : r < r'
      · exact h4' r h1 hlt h3
      · exact h4 r' h1' (by omega) h3'
    · exact absurd h3 (h' r h1 h2)
  · rcases h' with ⟨h1', h2', h3', h4'⟩ | ⟨rfl, h'⟩
    · exact absurd h3' (h r' h1' h2')
    · rfl
theorem RB.cell2 {w : World} {g : Nat} {p k q : Int} {f : Nat → Int} (h : RB w g p k q f) : w.cell? ⟨g, 2, none⟩ = some (.int .i64 q) := cell_of_row w g 2 _ _ _ h

end Go.Proofs.YtamdpcajfgbagaaDoor.Fd

namespace Go.Proofs.YtamdpcajfgbagaaDoor.Fd
open Go.RowKit

theorem RB.all {w W : World} {P K Q : Int} {m : Nat → Int} (h : RB W w.heap.size P K Q m) (hB : Below w.heap.size w W) : W.cell? ⟨w.heap.size, 0, none⟩ = some (.int .i64 P) ∧ W.cell? ⟨w.heap.size, 1, none⟩ = some (.int .i64 K) ∧ W.cell? ⟨w.heap.size, 2, none⟩ = some (.int .i64 Q) ∧ W.cell? ⟨w.heap.size, 3, none⟩ = some (.int .i64 (m 0)) ∧ W.cell? ⟨w.heap.size, 4, none⟩ = some (.int .i64 (m 1)) ∧ W.cell? ⟨w.heap.size, 5, none⟩ = some (.int .i64 (m 2)) ∧ W.cell? ⟨w.heap.size, 6, none⟩ = some (.int .i64 (m 3)) ∧ W.cell? ⟨w.heap.size, 7, none⟩ = some (.int .i64 (m 4)) ∧ W.cell? ⟨w.heap.size, 8, none⟩ = some (.int .i64 (m 5)) ∧ W.cell? ⟨w.heap.size, 9, none⟩ = some (.int .i64 (m 6)) ∧ W.cell? ⟨w.heap.size, 10, none⟩ = some (.int .i64 (m 7)) ∧ W.cell? ⟨w.heap.size, 11, none⟩ = some (.int .i64 (m 8)) ∧ W.cell? ⟨w.heap.size, 12, none⟩ = some (.int .i64 (m 9)) ∧ W.cell? ⟨w.heap.size, 13, none⟩ = some (.int .i64 (m 10)) ∧ Below w.heap.size w W :=
  ⟨(cell_of_row W w.heap.size 0 _ _ _ h), (cell_of_row W w.heap.size 1 _ _ _ h), (cell_of_row W w.heap.size 2 _ _ _ h), (cell_of_row W w.heap.size 3 _ _ _ h), (cell_of_row W w.heap.size 4 _ _ _ h), (cell_of_row W w.heap.size 5 _ _ _ h), (cell_of_row W w.heap.size 6 _ _ _ h), (cell_of_row W w.heap.size 7 _ _ _ h), (cell_of_row W w.heap.size 8 _ _ _ h), (cell_of_row W w.heap.size 9 _ _ _ h), (cell_of_row W w.heap.size 10 _ _ _ h), (cell_of_row W w.heap.size 11 _ _ _ h), (cell_of_row W w.heap.size 12 _ _ _ h), (cell_of_row W w.heap.size 13 _ _ _ h), hB⟩

end Go.Proofs.YtamdpcajfgbagaaDoor.Fd

namespace Go.Proofs.YtamdpcajfgbagaaDoor.Fd
open Go.RowKit

section
variable {P K : Nat} {m : Nat → Int}
/-- Is a number the square of an element but 0, of those below a bound? -/
def foundTo (P K : Nat) (m : Nat → Int) (a j : Nat) : Bool := (List.range a).any fun b => decide (1 ≤ b) && mulQ P K m b b == j
def isSq (P K : Nat) (m : Nat → Int) (j : Nat) : Bool := foundTo P K m (P ^ K) j
theorem foundTo_succ (a j : Nat) (ha : 1 ≤ a) : foundTo P K m (a + 1) j = (foundTo P K m a j || mulQ P K m a a == j) := by
  unfold foundTo
  rw [List.range_succ, List.any_append]
  simp [ha]
theorem foundTo_one (j : Nat) : foundTo P K m 1 j = false := by simp [foundTo, List.range, List.range.loop]
/-- The squares below a bound, rising. -/
def sqTo (P K : Nat) (m : Nat → Int) (a : Nat) : List Int := ((List.range a).filter (isSq P K m)).map fun n : Nat => (n : Int)
theorem sqTo_yes (a : Nat) (h : isSq P K m a = true) : sqTo P K m (a + 1) = sqTo P K m a ++ [(a : Int)] := by
  unfold sqTo; rw [List.range_succ, List.filter_append]; simp [h]
theorem sqTo_no (a : Nat) (h : isSq P K m a = false) : sqTo P K m (a + 1) = sqTo P K m a := by
  unfold sqTo; rw [List.range_succ, List.filter_append]; simp [h]
theorem sqTo_len (a : Nat) : (sqTo P K m a).length ≤ a := by
  unfold sqTo; rw [List.length_map]
  exact Nat.le_trans (List.length_filter_le _ _) (by simp)
theorem isSq_lt (hR : Ring1 P K m) {j : Nat} (h : isSq P K m j = true) : j < P ^ K := by
  unfold isSq foundTo at h
  rw [List.any_eq_true] at h
  obtain ⟨b, _, h⟩ := h
  simp only [Bool.and_eq_true, beq_iff_eq] at h
  rw [← h.2]; exact mulQ_lt hR b b
theorem mulQ_ne_zero (hF : FieldQ P K m) {a : Nat} (h1 : 1 ≤ a) (ha : a < P ^ K) : mulQ P K m a a ≠ 0 := by
  intro h
  have hR := hF.toRing1
  have hi := inv_ok hF h1 ha
  have h2 : mulQ P K m (powQ P K m a (P ^ K - 2)) (mulQ P K m a a) = a := by
    rw [← mulQ_assoc hR, mulQ_comm hR (powQ P K m a (P ^ K - 2)) a, hi, one_mulQ hR ha]
  rw [h, mulQ_zero hR] at h2
  omega
theorem isSq_zero (hF : FieldQ P K m) : isSq P K m 0 = false := by
  rw [Bool.eq_false_iff]
  intro h
  unfold isSq foundTo at h
  rw [List.any_eq_true] at h
  obtain ⟨b, hb, h⟩ := h
  simp only [Bool.and_eq_true, beq_iff_eq, decide_eq_true_eq] at h
  exact mulQ_ne_zero hF h.1 (by simpa using hb) h.2
theorem sqTo_more (hR : Ring1 P K m) : ∀ d, sqTo P K m (P ^ K + d) = sqTo P K m (P ^ K)
  | 0 => rfl
  | d + 1 => by
    rw [show P ^ K + (d + 1) = (P ^ K + d) + 1 by omega, sqTo_no _ (by rw [Bool.eq_false_iff]; intro h; have := isSq_lt hR h; omega)]
    exact sqTo_more hR d
theorem sqTo_one (hF : FieldQ P K m) : sqTo P K m 1 = [] := by
  have h := sqTo_no (P := P) (K := K) (m := m) 0 (isSq_zero hF)
  exact h
end

/-- A row of 64 bools. -/
def brow (f : Nat → Bool) : Array Value := ((List.range 64).map fun j => Value.bool (f j)).toArray
theorem brow_size (f : Nat → Bool) : (brow f).size = 64 := by simp [brow]
theorem brow_at (f : Nat → Bool) (j : Nat) (h : j < 64) : (brow f)[j]? = some (.bool (f j)) := by simp [brow, h]
def updB (f : Nat → Bool) (i : Nat) : Nat → Bool := fun j => if j = i then true else f j
theorem brow_set (f : Nat → Bool) (i : Nat) : (brow f).setIfInBounds i (.bool true) = brow (updB f i) := by
  apply Array.ext_getElem?
  intro j
  rw [Array.getElem?_setIfInBounds]
  by_cases hj : j < 64
  · rw [brow_at _ _ hj]
    by_cases e : i = j
    · subst e; rw [if_pos rfl, brow_at _ _ hj, if_pos (by simpa [brow_size] using hj)]; simp [updB]
    · rw [if_neg e, brow_at _ _ hj]; simp [updB, Ne.symm e]
  · simp [brow, hj]; omega
def BRow (w : World) (g : Nat) (f : Nat → Bool) : Prop := w.heap[g]? = some (.cells (brow f) 73 (0, 0))
theorem BRow.lt {w : World} {g : Nat} {f : Nat → Bool} (h : BRow w g f) : g < w.heap.size := (Array.getElem?_eq_some_iff.1 h).1
theorem BRow.cell {w : World} {g : Nat} {f : Nat → Bool} (h : BRow w g f) (j : Nat) (hj : j < 64) : w.cell? ⟨g, j, none⟩ = some (.bool (f j)) := by rw [cell_of_row w g j _ _ _ h, brow_at _ _ hj]
theorem BRow.frozen {w : World} {g : Nat} {f : Nat → Bool} (h : BRow w g f) (j : Nat) : w.frozen? ⟨g, j, none⟩ = false := frozen_of_row w g j _ _ h
theorem BRow.set {w : World} {g : Nat} {f : Nat → Bool} (h : BRow w g f) (i : Nat) : BRow (w.setCell ⟨g, i, none⟩ (.bool true)) g (updB f i) := by
  unfold BRow; rw [heap_setCell_same w g i _ _ _ h, brow_set]
theorem BRow.below {w w' : World} {g : Nat} {f : Nat → Bool} (h : BRow w g f) (hb : Below w.heap.size w w') : BRow w' g f := (hb.block g h.lt).trans h
theorem BRow.congr {w : World} {g : Nat} {f f' : Nat → Bool} (h : BRow w g f) (e : ∀ j, j < 64 → f j = f' j) : BRow w g f' := by
  have : brow f = brow f' := by
    unfold brow; congr 1; apply List.map_congr_left; intro j hj; rw [e j (by simpa using hj)]
  unfold BRow; rw [← this]; exact h
set_option maxRecDepth 100000 in
theorem und66 : Tryd.prog.underlying 73 = some (.array 64 4) := by kernel_rfl
set_option maxRecDepth 100000 in
theorem inf66 (f : Nat → Bool) : (Tryd.prog.info? 73).map (·.size) = some (brow f).size := by rw [brow_size]; kernel_rfl

end Go.Proofs.YtamdpcajfgbagaaDoor.Fd

namespace Go.Proofs.YtamdpcajfgbagaaDoor.Fd
open Go.RowKit

set_option maxRecDepth 100000 in
theorem idx66 (f : Nat → Bool) (k : Nat) (h : k < 64) (w : World) : (Instr.index 73 (.agg (brow f)) (.int .i64 (k : Int))).run Tryd.prog w = .ok (.bool (f k)) w := by
  have : k = 0 ∨ k = 1 ∨ k = 2 ∨ k = 3 ∨ k = 4 ∨ k = 5 ∨ k = 6 ∨ k = 7 ∨ k = 8 ∨ k = 9 ∨ k = 10 ∨ k = 11 ∨ k = 12 ∨ k = 13 ∨ k = 14 ∨ k = 15 ∨ k = 16 ∨ k = 17 ∨ k = 18 ∨ k = 19 ∨ k = 20 ∨ k = 21 ∨ k = 22 ∨ k = 23 ∨ k = 24 ∨ k = 25 ∨ k = 26 ∨ k = 27 ∨ k = 28 ∨ k = 29 ∨ k = 30 ∨ k = 31 ∨ k = 32 ∨ k = 33 ∨ k = 34 ∨ k = 35 ∨ k = 36 ∨ k = 37 ∨ k = 38 ∨ k = 39 ∨ k = 40 ∨ k = 41 ∨ k = 42 ∨ k = 43 ∨ k = 44 ∨ k = 45 ∨ k = 46 ∨ k = 47 ∨ k = 48 ∨ k = 49 ∨ k = 50 ∨ k = 51 ∨ k = 52 ∨ k = 53 ∨ k = 54 ∨ k = 55 ∨ k = 56 ∨ k = 57 ∨ k = 58 ∨ k = 59 ∨ k = 60 ∨ k = 61 ∨ k = 62 ∨ k = 63 := by omega
  rcases this with rfl | rfl | rfl | rfl | rfl | rfl | rfl | rfl | rfl | rfl | rfl | rfl | rfl | rfl | rfl | rfl | rfl | rfl | rfl | rfl | rfl | rfl | rfl | rfl | rfl | rfl | rfl | rfl | rfl | rfl | rfl | rfl | rfl | rfl | rfl | rfl | rfl | rfl | rfl | rfl | rfl | rfl | rfl | rfl | rfl | rfl | rfl | rfl | rfl | rfl | rfl | rfl | rfl | rfl | rfl | rfl | rfl | rfl | rfl | rfl | rfl | rfl | rfl | rfl <;> (change _ = _; kernel_rfl)


end Go.Proofs.YtamdpcajfgbagaaDoor.Fd

/- The walk of SquaresOf of the document's answer. -/
namespace Go.Proofs.YtamdpcajfgbagaaDoor.Fd
open Go.RowKit

theorem foundTo_mono {P K : Nat} {m : Nat → Int} {a b j : Nat} (h : a ≤ b) (hf : foundTo P K m a j = true) : foundTo P K m b j = true := by
  unfold foundTo at *
  rw [List.any_eq_true] at *
  obtain ⟨x, hx, h2⟩ := hf
  exact ⟨x, by simp at *; omega, h2⟩

theorem owned_below {w w' : World} {base n : Nat} {v : Value} {xs : List Value} (h : w.ownsRow base 3 1 v n xs) (hb : Below w.heap.size w w') : w'.ownsRow base 3 1 v n xs :=
  h.kept (row := none) ⟨hb.os, hb.tape, hb.output, hb.size, fun k hk _ => hb.block k hk⟩ (by
    cases hv : v.ownBlock with
    | none => exact .inl rfl
    | some k => exact .inr (by simp))

end Go.Proofs.YtamdpcajfgbagaaDoor.Fd

/- The walk of squares. -/
namespace Go.Proofs.YtamdpcajfgbagaaDoor.Fd
open Go.RowKit

set_option maxRecDepth 100000 in
set_option maxHeartbeats 1000000 in
theorem squares_any (P K q : Nat) (m : Nat → Int) (w : World) (hF : FieldQ P K m) (hP' : P ≤ 64) (hK' : K ≤ 6) (hPK : P ^ K ≤ 64) (HQ : Hid (q = P ^ K)) :
    Calls Tryd.prog 40 #[.agg (ringRow P K q m)] w fun e w' => ∃ v, e = .returned v ∧ Sl w' v (sqTo P K m (P ^ K)) ∧ Below w.heap.size w w' := by
  obtain ⟨i3, hi, hz0, hz1, hz2⟩ := info3
  obtain ⟨fs, hu⟩ := und53
  have hR := hF.toRing1
  have hq1 : 1 < q := by rw [HQ.out]; exact one_lt hR
  have hq64 : q ≤ 64 := by rw [HQ.out]; exact hPK
  have hb0 : BRow ((w.alloc (.cells (ringRow P K q m) 66)).alloc (.cells #[.bool false, .bool false, .bool false, .bool false, .bool false, .bool false, .bool false, .bool false, .bool false, .bool false, .bool false, .bool false, .bool false, .bool false, .bool false, .bool false, .bool false, .bool false, .bool false, .bool false, .bool false, .bool false, .bool false, .bool false, .bool false, .bool false, .bool false, .bool false, .bool false, .bool false, .bool false, .bool false, .bool false, .bool false, .bool false, .bool false, .bool false, .bool false, .bool false, .bool false, .bool false, .bool false, .bool false, .bool false, .bool false, .bool false, .bool false, .bool false, .bool false, .bool false, .bool false, .bool false, .bool false, .bool false, .bool false, .bool false, .bool false, .bool false, .bool false, .bool false, .bool false, .bool false, .bool false, .bool false] 73)) (w.heap.size + 1) (fun _ => false) := by
    have h : ((w.alloc (.cells (ringRow P K q m) 66)).alloc (.cells #[.bool false, .bool false, .bool false, .bool false, .bool false, .bool false, .bool false, .bool false, .bool false, .bool false, .bool false, .bool false, .bool false, .bool false, .bool false, .bool false, .bool false, .bool false, .bool false, .bool false, .bool false, .bool false, .bool false, .bool false, .bool false, .bool false, .bool false, .bool false, .bool false, .bool false, .bool false, .bool false, .bool false, .bool false, .bool false, .bool false, .bool false, .bool false, .bool false, .bool false, .bool false, .bool false, .bool false, .bool false, .bool false, .bool false, .bool false, .bool false, .bool false, .bool false, .bool false, .bool false, .bool false, .bool false, .bool false, .bool false, .bool false, .bool false, .bool false, .bool false, .bool false, .bool false, .bool false, .bool false] 73)).heap[(w.alloc (.cells (ringRow P K q m) 66)).heap.size]? = _ := heap_alloc_new _ _
    rw [World.size_alloc] at h
    exact h
  have hr0 : RB ((w.alloc (.cells (ringRow P K q m) 66)).alloc (.cells #[.bool false, .bool false, .bool false, .bool false, .bool false, .bool false, .bool false, .bool false, .bool false, .bool false, .bool false, .bool false, .bool false, .bool false, .bool false, .bool false, .bool false, .bool false, .bool false, .bool false, .bool false, .bool false, .bool false, .bool false, .bool false, .bool false, .bool false, .bool false, .bool false, .bool false, .bool false, .bool false, .bool false, .bool false, .bool false, .bool false, .bool false, .bool false, .bool false, .bool false, .bool false, .bool false, .bool false, .bool false, .bool false, .bool false, .bool false, .bool false, .bool false, .bool false, .bool false, .bool false, .bool false, .bool false, .bool false, .bool false, .bool false, .bool false, .bool false, .bool false, .bool false, .bool false, .bool false, .bool false] 73)) w.heap.size P K q m := (RB.made w P K q m).below ((Below.refl _ _).alloc (Nat.le_refl _) _)
  have hB0 : Below w.heap.size w ((w.alloc (.cells (ringRow P K q m) 66)).alloc (.cells #[.bool false, .bool false, .bool false, .bool false, .bool false, .bool false, .bool false, .bool false, .bool false, .bool false, .bool false, .bool false, .bool false, .bool false, .bool false, .bool false, .bool false, .bool false, .bool false, .bool false, .bool false, .bool false, .bool false, .bool false, .bool false, .bool false, .bool false, .bool false, .bool false, .bool false, .bool false, .bool false, .bool false, .bool false, .bool false, .bool false, .bool false, .bool false, .bool false, .bool false, .bool false, .bool false, .bool false, .bool false, .bool false, .bool false, .bool false, .bool false, .bool false, .bool false, .bool false, .bool false, .bool false, .bool false, .bool false, .bool false, .bool false, .bool false, .bool false, .bool false, .bool false, .bool false, .bool false, .bool false] 73)) := ((Below.refl _ _).alloc (Nat.le_refl _) _).alloc (by simp) _
  go_enter Tryd.func40, Tryd.ntmps40
  go_wp2
  go_loopw [4] (fun i wr => ∃ a : Nat, i = .int .i64 a ∧ 1 ≤ a ∧ a ≤ q ∧ BRow wr (w.heap.size + 1) (foundTo P K m a) ∧ RB wr w.heap.size P K q m ∧ Below w.heap.size w wr) (fun i _ => (q - intOf i).toNat)
  case atStart => exact ⟨1, rfl, by omega, by omega, hb0.congr (fun j _ => (foundTo_one j).symm), hr0, hB0⟩
  case round =>
    clear hb0 hr0 hB0
    obtain ⟨a, rfl, ha1, haq, hbr, hRB, hB⟩ := hrel
    have hc2 := hRB.cell2
    by_cases hlt : a < q
    · have ha : a < P ^ K := by rw [← HQ.out]; exact hlt
      have hdec : decide ((a : Int) < q) = true := by simp; omega
      obtain ⟨s, Hs⟩ : ∃ s, Hid (s = mulQ P K m a a) := ⟨_, rfl⟩
      have hsq : s < P ^ K := by rw [Hs.out]; exact mulQ_lt hR a a
      go_wp2_with (first
        | (refine wpList_load_row rfl 66 _ rfl w.heap.size rfl 66 _ (0, 0) _ hRB hu rfl (inf53 _ _ _ _) ?_))
      refine (mul_Q P K a a q m _ hR hP' hK' hPK ha ha s Hs).mono ?_
      rintro e w1 ⟨rfl, hb1⟩
      have hbr1 := hbr.below hb1
      have hRB1 := hRB.below hb1
      have hB1 : Below w.heap.size w w1 := hB.trans (hb1.mono hB.size)
      have hcs := hbr1.cell s (by omega)
      have hfs := hbr1.frozen s
      have hs64 : (s : Int) < 64 := by omega
      go_wp2
      go_roundw
      case rel =>
        refine ⟨a + 1, by go_num, by omega, by omega, (hbr1.set s).congr (fun j _ => ?_), (heap_setCell_other _ _ _ _ (by simp)).trans hRB1, hB1.setCell (by simp) _⟩
        rw [foundTo_succ a j ha1, ← Hs.out]
        unfold updB
        by_cases e : j = s
        · subst e; simp
        · rw [if_neg e, show (s == j) = false by simp; omega]; simp
      case measure => simp [intOf]; omega
    · have hbr' : BRow wr (w.heap.size + 1) (isSq P K m) := by
        have e : a = P ^ K := by rw [← HQ.out]; omega
        rw [e] at hbr; exact hbr
      have hlt1 := hbr.lt
      clear hbr
      go_wp2_with (first
        | (refine wpList_load_row rfl 73 _ rfl (w.heap.size + 1) rfl 73 _ (0, 0) _ hbr' und66 rfl (inf66 _) ?_))
      go_loopw [5, 20] (fun o i wr => ∃ j : Nat, i = .int .i64 j ∧ j ≤ 64 ∧ wr.ownsRow (w.heap.size + 2) 3 1 o (sqTo P K m j).length ((sqTo P K m j).map (Value.int .i64)) ∧ w.heap.size + 2 ≤ wr.heap.size ∧ Below w.heap.size w wr) (fun _ i _ => (64 - intOf i).toNat)
      case atStart => exact ⟨0, rfl, by omega, World.ownsRow_nil _ _ _ _, by omega, hB⟩
      case round =>
        clear hB hRB hc2 hbr'
        obtain ⟨j, rfl, hj, hown, hsz, hB⟩ := hrel
        have hlen := sqTo_len (P := P) (K := K) (m := m) j
        by_cases hj64 : j < 64
        · have hix := idx66 (isSq P K m) j hj64
          have hdec : decide ((j : Int) < 64) = true := by simp; omega
          cases hsq : isSq P K m j
          · have HL : Hid (sqTo P K m (j + 1) = sqTo P K m j) := sqTo_no j hsq
            go_wp2
            go_roundw
            case rel =>
              refine ⟨j + 1, by go_num, by omega, ?_, hsz, hB⟩
              rw [HL.out]; exact hown
            case measure => simp [intOf]; omega
          · have HL : Hid (sqTo P K m (j + 1) = sqTo P K m j ++ [(j : Int)]) := sqTo_yes j hsq
            go_wp2_with (first
              | (at_builtin; refine wpList_append_own _ rfl _ _ 22 rfl (w.heap.size + 2) 3 i3 (.int .i64 0) 1 8 und22 hi hz0 hz1 hz2 rfl (by decide) _ _ _ rfl (hown.alloc _) ⟨wr.heap.size, 0, none⟩ 1 1 [.int .i64 (j : Int)] rfl rfl ?c1 ?c2 ?c3 ?c4 ?c5 ?_)
              | go_in)
            case c1 =>
              intro j' u hj'
              match j', hj' with
              | 0, hj' => simp at hj'; subst hj'; simp [Addr.add]
            case c2 => intro u hu'; simp at hu'; subst hu'; rfl
            case c3 => unfold maxLen; omega
            case c4 => omega
            case c5 => simp; omega
            · intro v' w3 hown' hgrow _
              have hB3 : Below w.heap.size w w3 := (hB.alloc hB.size _).grown hgrow (by simp; omega) (fun k hk => by have := (hown.lt k hk).1; omega)
              have hsz3 : w.heap.size + 2 ≤ w3.heap.size := by have := hgrow.size; simp at this; omega
              go_wp2
              go_roundw
              case rel =>
                refine ⟨j + 1, by go_num, by omega, ?_, hsz3, hB3⟩
                rw [HL.out, List.map_append, List.length_append]; exact hown'
              case measure => simp [intOf]; omega
        · go_wp2
          go_ret
          refine ⟨_, rfl, ?_, hB⟩
          have e : sqTo P K m (P ^ K) = sqTo P K m j := by
            have h := sqTo_more hR (64 - P ^ K)
            rw [show P ^ K + (64 - P ^ K) = j by omega] at h
            exact h.symm
          rw [e]
          exact Sl.owned hown

end Go.Proofs.YtamdpcajfgbagaaDoor.Fd

namespace Go.Proofs.YtamdpcajfgbagaaDoor.Fd
open Go.RowKit

theorem open_nil {p k : Int} {l : List Int} {z : Int} (h : OpenIs p k l [] z) : FaultIs p k l z := by
  rcases h with ⟨_, h⟩ | ⟨_, h, _⟩ | ⟨h, _, rfl⟩
  · exact h
  · exact absurd (fun j hj => by simp at hj) h
  · exact h

set_option maxRecDepth 100000 in
set_option maxHeartbeats 1000000 in
theorem Squares_any (p k : Int) (l : List Int) (v : Value) (w : World) (hT : Tab w) (hl : Sl w v l) (hll : l.length ≤ maxLen) :
    Calls Tryd.prog 28 #[.agg #[.int .i64 p, .int .i64 k, v]] w fun e w' => ∃ (u : Value) (s : List Int) (z : Int), e = .returned (.tuple #[u, .int .i64 z]) ∧ Sl w' u s ∧ FaultIs p k l z ∧ Hid (z ≠ 0 → s = []) ∧ Hid (z = 0 → s = sqTo p.toNat k.toNat (monL l) (p.toNat ^ k.toNat)) ∧ Below w.heap.size w w' := by
  obtain ⟨A, ca, rfl, _⟩ := id hl
  have hbx : Below w.heap.size w (w.alloc (.cells #[.int .i64 p, .int .i64 k, .slice A l.length ca] 51)) := (Below.refl _ _).alloc (Nat.le_refl _) _
  obtain ⟨fs, hu⟩ := und53
  go_enter Tryd.func28, Tryd.ntmps28
  go_wp2_with fail
  refine (open_any p k l [] _ _ _ (hT.below hbx) (hl.below hbx) (Sl.nil _) hll (by simp)).mono ?_
  rintro e w1 ⟨z, x, y, c, f, rfl, hO, HZ, hb1⟩
  have hB1 : Below w.heap.size w w1 := hbx.trans (hb1.mono hbx.size)
  have HO : Hid (FaultIs p k l z) := open_nil hO
  have hnew : RB (w1.alloc (.cells #[.int .i64 0, .int .i64 0, .int .i64 0, .int .i64 0, .int .i64 0, .int .i64 0, .int .i64 0, .int .i64 0, .int .i64 0, .int .i64 0, .int .i64 0, .int .i64 0, .int .i64 0, .int .i64 0] 66)) w1.heap.size 0 0 0 (fun _ => 0) := RB.made w1 0 0 0 (fun _ => 0)
  have hBA : Below w.heap.size w ((w1.alloc (.cells #[.int .i64 0, .int .i64 0, .int .i64 0, .int .i64 0, .int .i64 0, .int .i64 0, .int .i64 0, .int .i64 0, .int .i64 0, .int .i64 0, .int .i64 0, .int .i64 0, .int .i64 0, .int .i64 0] 66)).setRow w1.heap.size (ringRow x y c f)) := bsetRow (hB1.alloc hB1.size _) hB1.size _
  clear hO
  by_cases hz : z = 0
  · subst hz
    obtain ⟨rfl, rfl, rfl, rfl⟩ := HZ.out rfl
    obtain ⟨P, K, rfl, rfl, hG⟩ := good_of HO.out
    obtain ⟨q, HQ⟩ : ∃ q : Nat, Hid (q = P ^ K) := ⟨_, rfl⟩
    have HO2 : Hid (ordZ (P : Int) K = (q : Int)) := by
      show ordZ (P : Int) K = (q : Int)
      rw [hG.ord, HQ.out]
    rw [HO2.out] at hBA
    clear HZ
    rw [HO2.out]
    go_wp2_with (first
      | (refine wpList_store_row rfl 66 _ _ rfl w1.heap.size _ rfl rfl 66 _ hnew (inf53 _ _ _ _) rfl (ringRow_one _ _ _ _) ?_)
      | (refine wpList_load_row rfl 66 _ rfl w1.heap.size rfl 66 _ (0, 0) _ (hnew.whole _ _ _ _) hu rfl (inf53 _ _ _ _) ?_))
    refine (squares_any P K q (monL l) _ hG.field (by have := hG.le61; omega) hG.le6 hG.le64 HQ).mono ?_
    rintro e w2 ⟨u, rfl, hsl, hb2⟩
    go_wp2
    go_ret2
    exact ⟨_, _, _, rfl, hsl, HO.out, (fun h => absurd rfl h : (0 : Int) ≠ 0 → _), (fun _ => by rw [Int.toNat_natCast, Int.toNat_natCast] : (0 : Int) = 0 → _), hBA.trans (hb2.mono hBA.size)⟩
  · have hzb : (z != 0) = true := by simpa using hz
    go_wp2_with (first
      | (refine wpList_store_row rfl 66 _ _ rfl w1.heap.size _ rfl rfl 66 _ hnew (inf53 _ _ _ _) rfl (ringRow_one _ _ _ _) ?_))
    go_ret2
    exact ⟨_, [], z, rfl, Sl.nil _, HO.out, (fun _ => rfl : z ≠ 0 → _), (fun h => absurd h hz : z = 0 → _), hBA⟩

end Go.Proofs.YtamdpcajfgbagaaDoor.Fd

/- Paley's sets: what the kernel reckons. -/
namespace Go.Proofs.YtamdpcajfgbagaaDoor
open Go.RowKit

/-- The squares but 0. -/
def paL (p : Nat) : List Nat := (List.range p).filter fun x => decide (1 ≤ x) && (List.range p).any fun y => decide (1 ≤ y) && (y * y % p == x)
theorem pal_all : ∀ p : Fin 61, (Fd.isPrimeB ((p.val : Nat) : Int) && p.val % 4 == 3) = true → Fd.sqTo p.val 1 (Fd.monL [0]) (p.val ^ 1) = (paL p.val).map Int.ofNat := by decide +kernel
theorem pal_ord : ∀ p : Fin 61, Fd.ordZ ((p.val : Nat) : Int) 1 = if Fd.isPrimeB ((p.val : Nat) : Int) = true then ((p.val : Nat) : Int) else 0 := by decide +kernel
theorem least_one {P : Nat} {q d z : Int} {l : List Int} (h60 : P ≤ 60) (hp : Fd.isPrimeB (P : Int) = true) (h : Fd.LeastIs (P : Int) 1 q d l z) : q = P ∧ d = 1 ∧ l = [0] ∧ z = 0 := by
  have ho := pal_ord ⟨P, by omega⟩
  rw [if_pos hp] at ho
  have hp0 : (P : Int) ≠ 0 := fun e => by rw [e] at hp; exact absurd hp (by decide)
  have hord : Fd.ordZ (P : Int) 1 = (P : Int) := ho
  have hg : ∀ P : Nat, Fd.goodAt P 1 0 := fun P e h1 h2 => by omega
  rcases h with ⟨h, _⟩ | ⟨P', K', e1, e2, h0, ⟨n, hn, hgn, hm, rfl, rfl, rfl, rfl⟩ | ⟨hno, _⟩⟩
  · rw [hord] at h; exact absurd h hp0
  · obtain rfl : P = P' := by omega
    obtain rfl : K' = 1 := by omega
    obtain rfl : n = 0 := by
      rcases Nat.eq_zero_or_pos n with e | e
      · exact e
      · exact absurd (hg P) (hm 0 e)
    refine ⟨rfl, rfl, ?_, rfl⟩
    simp [Fd.digL, Fd.digF, List.range_succ]
  · obtain rfl : P = P' := by omega
    obtain rfl : K' = 1 := by omega
    exact absurd (hg P) (hno 0 (by rw [Nat.pow_one]; omega))
theorem least_none {P : Nat} {q d z : Int} {l : List Int} (h60 : P ≤ 60) (hp : Fd.isPrimeB (P : Int) = false) (h : Fd.LeastIs (P : Int) 1 q d l z) : q = 0 ∧ d = 0 ∧ l = [] ∧ z = 1 := by
  have ho := pal_ord ⟨P, by omega⟩
  rw [if_neg (by rw [hp]; simp)] at ho
  have hord : Fd.ordZ (P : Int) 1 = 0 := ho
  rcases h with ⟨_, rfl, rfl, rfl, rfl⟩ | ⟨_, _, _, _, h0, _⟩
  · exact ⟨rfl, rfl, rfl, rfl⟩
  · exact absurd hord h0

end Go.Proofs.YtamdpcajfgbagaaDoor

namespace Go.Proofs.YtamdpcajfgbagaaDoor
open Go.RowKit

theorem fault_low {P : Nat} (h60 : P ≤ 60) (hp : Fd.isPrimeB (P : Int) = true) : Fd.FaultIs (P : Int) 1 [0] 0 := by
  have ho : Fd.ordZ (P : Int) 1 = _ := pal_ord ⟨P, by omega⟩
  rw [if_pos hp] at ho
  have hp0 : (P : Int) ≠ 0 := fun e => by rw [e] at hp; exact absurd hp (by decide)
  refine .inr (.inr (.inr (.inr ⟨by rw [ho]; exact hp0, rfl, ?_, ?_, rfl⟩)))
  · intro j hj
    have : j = 0 := by simpa using hj
    subst this
    simp
    omega
  · intro e h1 h2
    simp at h2
    omega
theorem Sq_low (P : Nat) (v : Value) (w : World) (h60 : P ≤ 60) (hp : Fd.isPrimeB (P : Int) = true) (h4 : P % 4 = 3) (hT : Fd.Tab w) (hl : Sl w v [0]) :
    Calls Tryd.prog 28 #[.agg #[.int .i64 (P : Int), .int .i64 1, v]] w fun e w' => ∃ x, e = .returned (.tuple #[x, .int .i64 0]) ∧ Sl w' x ((paL P).map Int.ofNat) ∧ Below w.heap.size w w' := by
  refine (Fd.Squares_any (P : Int) 1 [0] v w hT hl (by decide)).mono ?_
  rintro e w' ⟨u, s, z, rfl, hs, hF, _, h0, hb⟩
  obtain rfl := hF.one (fault_low h60 hp)
  have e1 := h0.out rfl
  rw [Int.toNat_natCast] at e1
  have e2 := pal_all ⟨P, by omega⟩ (by rw [Bool.and_eq_true]; exact ⟨hp, by simpa using h4⟩)
  refine ⟨u, rfl, ?_, hb⟩
  rw [← show Fd.sqTo P 1 (Fd.monL [0]) (P ^ 1) = (paL P).map Int.ofNat from e2]
  rw [← show s = Fd.sqTo P 1 (Fd.monL [0]) (P ^ 1) from e1]
  exact hs
set_option maxHeartbeats 4000000 in
theorem Paley_far (p : Int) (w : World) (h : p < 1 ∨ 60 < p) : Calls Tryd.prog 19 #[.int .i64 p] w fun e w' => e = .returned (.tuple #[.slice none 0 0, .int .i64 1]) ∧ Below w.heap.size w w' := by
  by_cases h1 : p < 1
  · have d1 : decide (p < 1) = true := decide_eq_true h1
    clear h h1
    go_enter Tryd.func19, Tryd.ntmps19
    go_wp2
    go_ret2
    exact ⟨rfl, Below.refl _ _⟩
  · have d1 : decide (p < 1) = false := decide_eq_false h1
    have h2 : 60 < p := by omega
    have d2 : decide (60 < p) = true := decide_eq_true h2
    clear h h1 h2
    go_enter Tryd.func19, Tryd.ntmps19
    go_wp2
    go_ret2
    exact ⟨rfl, Below.refl _ _⟩
set_option maxRecDepth 100000 in
set_option maxHeartbeats 4000000 in
theorem Paley_none (P : Nat) (w : World) (hT : Fd.Tab w) (h1 : 1 ≤ P) (h60 : P ≤ 60) (h : Fd.isPrimeB (P : Int) = false ∨ P % 4 ≠ 3) : Calls Tryd.prog 19 #[.int .i64 (P : Int)] w fun e w' => e = .returned (.tuple #[.slice none 0 0, .int .i64 4]) ∧ Below w.heap.size w w' := by
  have d1 : decide ((P : Int) < 1) = false := by simp; omega
  have d2 : decide (60 < (P : Int)) = false := by simp; omega
  cases hp : Fd.isPrimeB (P : Int)
  · have C : Hid (Calls Tryd.prog 27 #[.int .i64 (P : Int), .int .i64 1] w fun e w' => ∃ v, e = .returned (.tuple #[.agg #[.int .i64 0, .int .i64 0, v], .int .i64 1]) ∧ (∃ a n c, v = .slice a n c) ∧ Below w.heap.size w w') := (Fd.least_any (P : Int) 1 w hT).mono (by
      rintro e w' ⟨q, d, v, l, z, rfl, hs, hL, hb⟩
      obtain ⟨rfl, rfl, rfl, rfl⟩ := least_none h60 hp hL
      obtain ⟨a, c, rfl, _⟩ := hs
      exact ⟨_, rfl, ⟨_, _, _, rfl⟩, hb⟩)
    clear h hp hT
    go_enter Tryd.func19, Tryd.ntmps19
    go_wp2_with (first
      | (go_at_call 27; refine C.out.mono ?_; rintro e w1 ⟨v, rfl, ⟨a, n, c, rfl⟩, hb⟩; clear C)
      | go_in)
    go_ret2
    exact ⟨rfl, Below.next hb (balloc _ _)⟩
  · have h4 : P % 4 ≠ 3 := by
      rcases h with h | h
      · rw [hp] at h; cases h
      · exact h
    have C : Hid (Calls Tryd.prog 27 #[.int .i64 (P : Int), .int .i64 1] w fun e w' => ∃ v, e = .returned (.tuple #[.agg #[.int .i64 (P : Int), .int .i64 1, v], .int .i64 0]) ∧ (∃ a n c, v = .slice a n c) ∧ Below w.heap.size w w') := (Fd.least_any (P : Int) 1 w hT).mono (by
      rintro e w' ⟨q, d, v, l, z, rfl, hs, hL, hb⟩
      obtain ⟨rfl, rfl, rfl, rfl⟩ := least_one h60 hp hL
      obtain ⟨a, c, rfl, _⟩ := hs
      exact ⟨_, rfl, ⟨_, _, _, rfl⟩, hb⟩)
    obtain ⟨r, Hr⟩ : ∃ r, Hid (P % 4 = r) := ⟨_, rfl⟩
    have m1 : (P : Int) % 4 = (r : Int) := by rw [← Hr.out]; simp
    have m2 : (P : Int).tmod 4 = (r : Int) := by rw [Int.tmod_eq_emod_of_nonneg (by omega)]; exact m1
    have e1 : ¬ (r : Int) = 3 := by have := Hr.out; omega
    have e2 : ((r : Int) != 3) = true := by simpa using e1
    clear h hp h4 hT
    go_enter Tryd.func19, Tryd.ntmps19
    go_wp2_with (first
      | (go_at_call 27; refine C.out.mono ?_; rintro e w1 ⟨v, rfl, ⟨a, n, c, rfl⟩, hb⟩; clear C)
      | go_in)
    go_ret2
    exact ⟨rfl, Below.next hb (balloc _ _)⟩
set_option maxRecDepth 100000 in
set_option maxHeartbeats 4000000 in
theorem Paley_ok (P : Nat) (w : World) (hT : Fd.Tab w) (h1 : 1 ≤ P) (h60 : P ≤ 60) (hp : Fd.isPrimeB (P : Int) = true) (h4 : P % 4 = 3) : Calls Tryd.prog 19 #[.int .i64 (P : Int)] w fun e w' => ∃ x, e = .returned (.tuple #[x, .int .i64 0]) ∧ Sl w' x ((paL P).map Int.ofNat) ∧ Below w.heap.size w w' := by
  have d1 : decide ((P : Int) < 1) = false := by simp; omega
  have d2 : decide (60 < (P : Int)) = false := by simp; omega
  have C : Hid (Calls Tryd.prog 27 #[.int .i64 (P : Int), .int .i64 1] w fun e w' => ∃ v, e = .returned (.tuple #[.agg #[.int .i64 (P : Int), .int .i64 1, v], .int .i64 0]) ∧ Sl w' v [0] ∧ Below w.heap.size w w') := (Fd.least_any (P : Int) 1 w hT).mono (by
    rintro e w' ⟨q, d, v, l, z, rfl, hs, hL, hb⟩
    obtain ⟨rfl, rfl, rfl, rfl⟩ := least_one h60 hp hL
    exact ⟨_, rfl, hs, hb⟩)
  have HS : Hid (∀ (v : Value) (W : World), Below w.heap.size w W → Sl W v [0] → Calls Tryd.prog 28 #[.agg #[.int .i64 (P : Int), .int .i64 1, v]] W fun e w' => ∃ x, e = .returned (.tuple #[x, .int .i64 0]) ∧ Sl w' x ((paL P).map Int.ofNat) ∧ Below W.heap.size W w') := fun v W b hl => Sq_low P v W h60 hp h4 (hT.below b) hl
  have m1 : (P : Int) % 4 = 3 := by omega
  have m2 : (P : Int).tmod 4 = 3 := by rw [Int.tmod_eq_emod_of_nonneg (by omega)]; exact m1
  generalize (paL P).map Int.ofNat = L at *
  clear hp h4 hT
  go_enter Tryd.func19, Tryd.ntmps19
  go_wp2_with (first
    | (go_at_call 27; refine C.out.mono ?_; rintro e w1 ⟨v, rfl, hv, hb⟩; clear C; have C2 := HS.out v (w1.alloc (.cells #[.int .i64 (P : Int), .int .i64 1, v] 51)) (Below.next hb (balloc _ _)) (hv.below (balloc _ _)); have HB1 : Hid (Below w.heap.size w (w1.alloc (.cells #[.int .i64 (P : Int), .int .i64 1, v] 51))) := Below.next hb (balloc _ _); obtain ⟨va, vc, hve, _⟩ := hv; subst hve; have hFc := (Fd.FB.made w1 (P : Int) 1 (.slice va 1 vc)).cells; clear HS hb)
    | (go_at_call 28; refine C2.mono ?_; rintro e w2 ⟨x, rfl, hx, hb⟩; clear C2; have HX : Hid (Sl w2 x L) := hx; have HB2 : Hid (Below w.heap.size w w2) := Below.next HB1.out hb; clear hb hx)
    | go_in)
  go_ret2
  exact ⟨x, rfl, HX.out, HB2.out⟩

end Go.Proofs.YtamdpcajfgbagaaDoor
