/- The walk of quasiFact. -/
import Derived.Test.YtncnaaohihmjnaaDoorQ6
import Derived.Test.YtncnaaohihmjnaaDoorL17
namespace Go.Proofs.YtncnaaohihmjnaaDoor
open Go.RowKit

def cy3 : List Int := (flN 3 (cyc 3) (3 * 3)).map Int.ofNat
theorem cy3_good : GoodS 3 cy3 := fl_good (by decide) (by decide) (cyc_lat (by decide))
theorem cy3_unit : fstN 3 (unitB 3 (sq 3 cy3)) = some 0 := by decide
theorem cy3_ass : assB 3 (sq 3 cy3) = true := by decide
theorem cy3_left : fstN 3 (fun y => sq 3 cy3 1 y == 0) = some 2 := by decide
set_option maxHeartbeats 4000000 in
theorem quasiFact_any (w : World) : Calls Tryd.prog 4 #[] w fun e w' => e = .returned (.bool true) ∧ Below w.heap.size w w' := by
  have C1 : Calls Tryd.prog 9 #[.int .i64 3] w fun e w' => (∃ y, e = .returned (.tuple #[.agg #[.int .i64 3, y], .int .i64 0]) ∧ w'.ownsRow w.heap.size 3 1 y (3 * 3) (vn (flN 3 (cyc 3) (3 * 3)))) ∧ Below w.heap.size w w' := Cyclic_ok 3 w (by decide) (by decide)
  have C2 : Hid (∀ y W, Sl W y cy3 → Calls Tryd.prog 10 #[.agg #[.int .i64 3, y]] W fun e w' => e = .returned (.tuple #[.int .i64 0, .int .i64 0]) ∧ Below W.heap.size W w') := fun y W hS => Unit_ok 3 _ y W hS cy3_good 0 cy3_unit
  have C3 : Hid (∀ y W, Sl W y cy3 → Calls Tryd.prog 11 #[.agg #[.int .i64 3, y]] W fun e w' => e = .returned (.tuple #[.bool true, .int .i64 0]) ∧ Below W.heap.size W w') := fun y W hS => by
    have h := Associates_ok 3 _ y W hS cy3_good
    rw [cy3_ass] at h
    exact h
  have C4 : Hid (∀ y W, Sl W y cy3 → Calls Tryd.prog 5 #[.agg #[.int .i64 3, y], .int .i64 1, .int .i64 0] W fun e w' => e = .returned (.tuple #[.int .i64 2, .int .i64 0]) ∧ Below W.heap.size W w') := fun y W hS => Left_ok 3 1 0 2 _ y W hS cy3_good (by decide) (by decide) cy3_left
  go_enter Tryd.func4, Tryd.ntmps4
  go_wp2_with (first
    | (go_at_call 9; refine C1.mono ?_; rintro e w1 ⟨⟨y, rfl, hW⟩, b1⟩; obtain ⟨og, ol, oc, rfl⟩ := own_slice hW; have hS := fl_sl hW; have hS1 := hS.alloc (.cells #[.int .i64 3, .slice og ol oc] 24); have D2 := C2.out _ _ hS1; have hb1 := balloc w1 (.cells #[.int .i64 3, .slice og ol oc] 24); have HSS := one_box 3 (.slice og ol oc) w1; have SS : Hid (∀ W, Below (w1.alloc (.cells #[.int .i64 3, .slice og ol oc] 24)).heap.size (w1.alloc (.cells #[.int .i64 3, .slice og ol oc] 24)) W → W.cell? ⟨w1.heap.size, 0, none⟩ = some (.int .i64 3) ∧ W.cell? ⟨w1.heap.size, 1, none⟩ = some (.slice og ol oc) ∧ W.rangeAt w1.heap.size 0 [.int .i64 3, .slice og ol oc]) := HSS; clear C1 HSS hW hS)
    | (go_at_call 10; refine D2.mono ?_; rintro e w2 ⟨rfl, b2⟩; obtain ⟨x0, x1, _⟩ := SS.out _ b2; have D3 := C3.out _ _ (hS1.below b2); clear D2)
    | (go_at_call 11; refine D3.mono ?_; rintro e w3 ⟨rfl, b3⟩; have d3 := Below.next b2 b3; obtain ⟨y0, y1, _⟩ := SS.out _ d3; have D4 := C4.out _ _ (hS1.below d3); clear D3)
    | (go_at_call 5; refine D4.mono ?_; rintro e w4 ⟨rfl, b4⟩; have d4 := Below.next d3 b4; clear D4))
  go_ret
  exact ⟨rfl, Below.next (Below.next b1 hb1) d4⟩
end Go.Proofs.YtncnaaohihmjnaaDoor
