/- The walk of the document's WelchOf. -/
import Derived.Test.YtmiinhbffiodmaaR4
namespace Go.Proofs.Ytmiinhbffiodmaa
open Go.RowKit

/-- A row of numbers of one's own. -/
def ORo (w : World) (base : Nat) (u : Value) (l : List Nat) : Prop := w.ownsRow base 3 1 u l.length ((l.map Int.ofNat).map (Value.int .i64))
theorem ORo.sl {w : World} {base : Nat} {u : Value} {l : List Nat} (h : ORo w base u l) : Sl w u (l.map Int.ofNat) := Sl.owned (by rw [List.length_map]; exact h)
end Go.Proofs.Ytmiinhbffiodmaa
