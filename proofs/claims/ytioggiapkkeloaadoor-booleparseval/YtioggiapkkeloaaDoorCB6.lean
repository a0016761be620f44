/- The walk of the document's BackOf. -/
import Derived.Test.YtioggiapkkeloaaDoorCB5
import Derived.Test.YtioggiapkkeloaaDoorP14
namespace Go.Proofs.YtioggiapkkeloaaDoor
open Go.RowKit

/-- The sum on its way. -/
def bkS (l : List Int) (x k : Nat) : Int := sm k fun a => sg2 (wt (a &&& x)) * tf l a
theorem bkS_full {n x : Nat} (l : List Int) (hn : n ≤ 8) : bkS l x (2 ^ n) = Wh n (tf l) x := by
  rw [Wh_sum]
  refine sm_congr fun a ha => ?_
  rw [wt_is hn (and_lt ha), Nat.and_comm]
theorem bkS_succ (l : List Int) (x k : Nat) : bkS l x (k + 1) = bkS l x k + sg2 (wt (k &&& x)) * tf l k := rfl
theorem bkL_good {n : Nat} (l : List Int) (hn : n ≤ 8) : GoodT n (bkL n l) := ⟨hn, by simp [bkL], fun j hj => by
  have e : (bkL n l).getD j 0 = bkF n (tf l) j := by simp [bkL, hj]
  rw [e]; unfold bkF; split <;> simp⟩
/-- What is wrong with a spectrum. -/
def bF (l : List Int) : Nat := if btN l.length = 9 then 2 else if (List.range l.length).all (fun j => decide (-(l.length : Int) ≤ l.getD j 0) && decide (l.getD j 0 ≤ l.length)) then if spL (btN l.length) (bkL (btN l.length) l) = l then 0 else 4 else 1
theorem bF_range {l : List Int} (h : btN l.length ≤ 8) {j : Nat} (hj : j < l.length) (hb : ¬ (-(l.length : Int) ≤ l.getD j 0 ∧ l.getD j 0 ≤ l.length)) : bF l = 1 := by
  unfold bF
  rw [if_neg (by omega), if_neg]
  intro k
  rw [List.all_eq_true] at k
  have := k j (List.mem_range.2 hj)
  rw [Bool.and_eq_true, decide_eq_true_iff, decide_eq_true_iff] at this
  exact hb this
theorem bF_on {l : List Int} (h : btN l.length ≤ 8) (hb : ∀ j, j < l.length → -(l.length : Int) ≤ l.getD j 0 ∧ l.getD j 0 ≤ l.length) : bF l = if spL (btN l.length) (bkL (btN l.length) l) = l then 0 else 4 := by
  unfold bF
  rw [if_neg (by omega), if_pos]
  rw [List.all_eq_true]
  intro j hj
  rw [Bool.and_eq_true, decide_eq_true_iff, decide_eq_true_iff]
  exact hb j (List.mem_range.1 hj)
theorem bF_shape {l : List Int} (h : btN l.length = 9) : bF l = 2 := by unfold bF; rw [if_pos h]
theorem row_sl {w : World} {base : Nat} {y : Value} {l : List Int} {n : Nat} (h : w.ownsRow base 3 1 y n (vi l)) (hn : l.length = n) : Sl w y l := by
  subst hn
  exact Sl.owned h
/-- What Back tells: the row of its own, or nothing. -/
def BkP (w w' : World) (y : Value) (N u : Nat) (m : List Int) : Prop := (u = 0 ∧ w'.ownsRow w.heap.size 3 1 y N (vi m)) ∨ (u ≠ 0 ∧ y = .slice none 0 0)
end Go.Proofs.YtioggiapkkeloaaDoor
