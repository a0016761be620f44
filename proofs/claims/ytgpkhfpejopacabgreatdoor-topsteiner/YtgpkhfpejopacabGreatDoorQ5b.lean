/- The walk of Idempotent. -/
import Derived.Test.YtgpkhfpejopacabGreatDoorQ5
import Derived.Laws.EntriesVeiled
namespace Go.Proofs.YtgpkhfpejopacabGreatDoor.Ql
open Go.RowKit

set_option maxRecDepth 100000 in
set_option maxHeartbeats 8000000 in
theorem Idempotent_ok (n : Nat) (L : List Int) (v : Value) (w : World) (hv : Sl w v L) (G : GoodS n L) :
    Calls Tryz.prog 10 #[.agg #[.int .i64 (n : Int), v]] w fun e w' => e = .returned (.tuple #[.bool (idmB n (sq n L)), .int .i64 0]) ∧ Below w.heap.size w w' := by
  have h8 := G.le
  have C := fun W (b : Below w.heap.size w W) => Check_any n L v W (hv.below b) (good_len G)
  rw [lF_good G] at C
  have A1 := fun W (b : Below w.heap.size w W) => productOf_any n L v W (hv.below b) G
  have A2 : ∀ y W b (_ : Teller y n n (sq n L) W) (_ : Bx W b y), Calls Tryz.prog 37 #[.int .i64 (n : Int), .func (.func 38) #[] #[.pointer (some ⟨b, 0, none⟩)]] W fun e w' => e = .returned (.bool (idmB n (sq n L))) ∧ Below W.heap.size W w' := fun y W b hT hb =>
    always_any n _ _ _ _ h8 ⟨_, _, rfl, e36i, fun W' hB x hx => idem1_any n b x (sq n L) y _ W' hT hB (hb.below hB) hx⟩ rfl
  have SS : Hid (∀ W, Below (w.alloc (.cells #[.int .i64 (n : Int), v] 31)).heap.size (w.alloc (.cells #[.int .i64 (n : Int), v] 31)) W → W.cell? ⟨w.heap.size, 0, none⟩ = some (.int .i64 (n : Int)) ∧ W.cell? ⟨w.heap.size, 1, none⟩ = some v ∧ W.rangeAt w.heap.size 0 [.int .i64 (n : Int), v]) := one_box n v w
  generalize idmB n (sq n L) = q at *
  clear hv G
  go_enter Tryz.func10, Tryz.ntmps10
  go_wp2_with (first
    | (go_at_call 8; refine (C _ (balloc w _)).mono ?_; rintro e w0 ⟨rfl, b0⟩; obtain ⟨x0, x1, _⟩ := SS.out _ b0; have hB := Below.next (balloc w _) b0)
    | (go_at_call 36; refine (A1 _ hB).mono ?_; rintro e w1 ⟨⟨y, rfl, hT⟩, b1⟩; obtain ⟨g, lb, rfl⟩ := hT.form; have hB1 := Below.next hB b1; have y0 := fun t => (SS.out _ (Below.next (Below.next b0 b1) (balloc w1 (.cells #[.func (.func g) #[] lb] t)))).1)
    | (go_at_call 37; refine (A2 _ _ _ (hT.below (balloc w1 _)) (bx_new w1 _ _)).mono ?_; rintro e w2 ⟨rfl, b2⟩; have hB2 := Below.next (Below.next hB1 (balloc w1 _)) b2))
  go_ret2
  exact ⟨rfl, hB2⟩
end Go.Proofs.YtgpkhfpejopacabGreatDoor.Ql
