/- The laws CountRings and CountPrime, with what their numbers are. -/
import Derived.Test.YtmaplmgecohjbaaC7
import Derived.Test.YtmaplmgecohjbaaRCB
namespace Go.Proofs.Ytmaplmgecohjbaa
open Go.RowKit

theorem CountRings_law (n k : Int) (w : World) (h0 : (Lit.int .i64 n).wf = true) (h1 : (Lit.int .i64 k).wf = true) :
    Calls Try.prog 3 #[.int .i64 n, .int .i64 k] w fun e w' => e = .returned (.bool true) ∧ Below w.heap.size w w' := CountRings_true n k w (wf_lt h0).2 (wf_lt h1).2
theorem CountPrime_law (n k : Int) (w : World) (h0 : (Lit.int .i64 n).wf = true) (h1 : (Lit.int .i64 k).wf = true) :
    Calls Try.prog 6 #[.int .i64 n, .int .i64 k] w fun e w' => e = .returned (.bool true) ∧ Below w.heap.size w w' := CountPrime_true n k w (wf_lt h0).2 (wf_lt h1).2

end Go.Proofs.Ytmaplmgecohjbaa
