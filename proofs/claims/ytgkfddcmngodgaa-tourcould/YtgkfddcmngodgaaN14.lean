/- The program's Could: its contract. -/
import Derived.Test.YtgkfddcmngodgaaTA
import Derived.Test.YtgkfddcmngodgaaN13
namespace Go.Proofs.Ytgkfddcmngodgaa
open Go.RowKit

theorem Could_face : FCould := fun l v w h => Could_any l v w h.sl h.len
end Go.Proofs.Ytgkfddcmngodgaa
