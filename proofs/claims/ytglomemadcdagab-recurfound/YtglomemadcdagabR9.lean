/- The walks of TapsFault, RunFault, open, begin's tests and Check: what is wrong. -/
import Derived.Test.YtglomemadcdagabR31
namespace Go.Proofs.Ytglomemadcdagab
open Go.RowKit

end Go.Proofs.Ytglomemadcdagab
