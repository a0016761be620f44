/- The law of chapter 16 on what graphs' numbers could be, of the landed package. -/
import Derived.Test.YtlmjlffipinjiaaSP13
import Derived.Test.YtlmjlffipinjiaaSQ2
namespace Go.Proofs.Ytlmjlffipinjiaa
open Go.RowKit

theorem Real_any (s : Int) (L : List Int) (v : Value) (w : World) (hv : Sl w v L) (hl : L.length ≤ maxLen) :
    Calls Try.prog 4 #[.agg #[.int .i64 s, v]] w fun e w' => e = .returned (.bool true) ∧ Below w.heap.size w w' := Real_law ftri fnum ffit s L v w hv hl
end Go.Proofs.Ytlmjlffipinjiaa
