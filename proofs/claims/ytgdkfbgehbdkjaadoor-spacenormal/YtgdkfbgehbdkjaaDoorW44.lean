/- The walks of add and mul. -/
import Derived.Test.YtgdkfbgehbdkjaaDoorW36
import Derived.Test.YtgdkfbgehbdkjaaDoorW59
import Derived.Deep.RegionHeld3
namespace Go.Proofs.YtgdkfbgehbdkjaaDoor.Fd
open Go.RowKit

theorem keepS {w W W1 : World} {g : Nat} {x : Value} (h : W.cell? ⟨g, 0, none⟩ = some x ∧ Below w.heap.size w W) (hb : Below W.heap.size W W1) : W1.cell? ⟨g, 0, none⟩ = some x ∧ Below w.heap.size w W1 :=
  ⟨(hb.cell (p := ⟨g, 0, none⟩) (block_lt_of_cell h.1)).trans h.1, h.2.trans (hb.mono h.2.size)⟩

set_option maxRecDepth 100000 in
set_option maxHeartbeats 1000000 in
theorem add_any (P K a b : Nat) (Q : Int) (f : Nat → Int) (w : World) (hP : 2 ≤ P) (hP' : P ≤ 64) (hK : 1 ≤ K) (hK' : K ≤ 6) (hPK : P ^ K ≤ 64) (ha : a < P ^ K) (hb : b < P ^ K) :
    Calls Tryd.prog 79 #[.agg (ringRow P K Q f), .int .i64 a, .int .i64 b] w fun e w' => e = .returned (.int .i64 (hor (plusF (digF a P) (digF b P) P) P K K)) ∧ Below w.heap.size w w' := by
  have hSt : ((w.alloc (.cells (ringRow P K Q f) 87)).drew).cell? ⟨w.heap.size, 0, none⟩ = some (.int .i64 P) ∧ Below w.heap.size w ((w.alloc (.cells (ringRow P K Q f) 87)).drew) :=
    ⟨(cell_of_row (w.alloc (.cells (ringRow P K Q f) 87)) w.heap.size 0 _ _ _ (RB.made w P K Q f)), ((Below.refl _ _).alloc (Nat.le_refl _) _).drew⟩
  go_enter Tryd.func79, Tryd.ntmps79
  go_wp2
  go_region_held3 (fun w' => w'.cell? ⟨w.heap.size, 0, none⟩ = some (.int .i64 P) ∧ Below w.heap.size w w') (first | assumption | go_keep)
    (first
      | (go_at_call_of 58 (Value.int .i64 (a : Int)); refine (polyOf_any a P _ (by omega) hP hP').mono ?_; rintro e w1 ⟨rfl, hb1⟩; have hS1 := keepS (by assumption) hb1)
      | (go_at_call_of 58 (Value.int .i64 (b : Int)); refine (polyOf_any b P _ (by omega) hP hP').mono ?_; rintro e w2 ⟨rfl, hb2⟩; have hS2 := keepS (by assumption) hb2)
      | (go_at_call 82; refine (plus_any _ _ P _ hP hP' (digF_in a P (by omega)) (digF_in b P (by omega))).mono ?_; rintro e w3 ⟨rfl, hb3⟩; have hS3 := keepS (by assumption) hb3)
      | (go_at_call 81; refine (number_any _ P K _ hP hP' hK hK' hPK (plusF_in _ _ P (by omega)) ?_).mono ?_; exact fun t ht _ => plus_small ha hb hP t ht; rintro e w4 ⟨rfl, hb4⟩; have hS4 := keepS (by assumption) hb4))
  all_goals (go_wp2; go_ret; exact ⟨rfl, hS4.2⟩)

end Go.Proofs.YtgdkfbgehbdkjaaDoor.Fd
