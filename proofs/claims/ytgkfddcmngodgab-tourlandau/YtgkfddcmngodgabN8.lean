/- The program's isClosed, walked. -/
import Derived.Test.YtgkfddcmngodgabN7
namespace Go.Proofs.Ytgkfddcmngodgab
open Go.RowKit

end Go.Proofs.Ytgkfddcmngodgab
