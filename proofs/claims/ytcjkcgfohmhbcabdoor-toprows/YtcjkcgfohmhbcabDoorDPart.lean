/- The dual, derived and residual designs; nothing of the program. -/
import Derived.Test.YtcjkcgfohmhbcabDoorDFish
namespace Go.Proofs.YtcjkcgfohmhbcabDoor

/-! ### The dual -/
def dual (v : Nat) (B : List (List Nat)) : List (List Nat) := (List.range v).map fun x => (List.range B.length).filter fun i => (B.getD i []).contains x
/-! ### By a point -/
/-! ### By a block -/
end Go.Proofs.YtcjkcgfohmhbcabDoor
