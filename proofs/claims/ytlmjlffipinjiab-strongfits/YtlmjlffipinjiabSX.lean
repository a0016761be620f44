/- The law StrongFits, of the landed package. -/
import Derived.Test.YtlmjlffipinjiabSQ2
namespace Go.Proofs.Ytlmjlffipinjiab
open Go.RowKit

theorem Fits_any (v k l m : Int) (w : World) : Calls Try.prog 3 #[.agg #[.int .i64 v, .int .i64 k, .int .i64 l, .int .i64 m]] w fun e w' => e = .returned (.bool true) ∧ Below w.heap.size w w' := Fits_law ffit v k l m w
end Go.Proofs.Ytlmjlffipinjiab
