/- The walk of RowOf: the document's row. -/
import Derived.Test.YtglomemadcdagabR27
namespace Go.Proofs.Ytglomemadcdagab
open Go.RowKit

theorem ownsRow_drewN {w : World} {b : Nat} {e : TypeId} {size : Nat} {v : Value} {n : Nat} {xs : List Value} (h : w.ownsRow b e size v n xs) (k : Nat) : (w.drewN k).ownsRow b e size v n xs := h

end Go.Proofs.Ytglomemadcdagab
