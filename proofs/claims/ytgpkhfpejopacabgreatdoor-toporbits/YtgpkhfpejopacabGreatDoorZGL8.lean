/- The law GroupCloses, walked. -/
import Derived.Test.YtgpkhfpejopacabGreatDoorZG41
import Derived.Test.YtgpkhfpejopacabGreatDoorZGLM
import Derived.Test.YtgpkhfpejopacabGreatDoorZPCyc
namespace Go.Proofs.YtgpkhfpejopacabGreatDoor.Gc
open Go.RowKit

theorem Has_yes (n : Nat) (ms : List (List Nat)) (v : Value) (a : List Nat) (u : Value) (w : World) (h : Mk n ms v w) (hu : Sl w u (a.map Int.ofNat)) (ha : Gen n ms a) :
    Calls Tryz.prog 20 #[.int .i64 (n : Int), v, u] w fun e w' => e = .returned (.tuple #[.bool true, .int .i64 0]) ∧ Below w.heap.size w w' := by
  refine (Has_ok n ms v a u w h hu (ha.isP h.isP)).mono ?_
  rintro e w' ⟨⟨b, rfl, hb⟩, h2⟩
  rw [hb.2 ha]
  exact ⟨rfl, h2⟩

end Go.Proofs.YtgpkhfpejopacabGreatDoor.Gc
