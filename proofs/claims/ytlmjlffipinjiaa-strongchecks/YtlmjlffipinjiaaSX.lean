/- The laws of chapter 16 on graphs, of the landed package. -/
import Derived.Test.YtlmjlffipinjiaaSP13
import Derived.Test.YtlmjlffipinjiaaST6
namespace Go.Proofs.Ytlmjlffipinjiaa
open Go.RowKit

theorem Checks_any (s : Int) (L : List Int) (v : Value) (w : World) (hv : Sl w v L) (hl : L.length ≤ maxLen) :
    Calls Try.prog 3 #[.agg #[.int .i64 s, v]] w fun e w' => e = .returned (.bool true) ∧ Below w.heap.size w w' := Checks_law fchk fnum foth ffri s L v w hv hl
theorem Other_any (s : Int) (L : List Int) (v : Value) (w : World) (hv : Sl w v L) (hl : L.length ≤ maxLen) :
    Calls Try.prog 5 #[.agg #[.int .i64 s, v]] w fun e w' => e = .returned (.bool true) ∧ Below w.heap.size w w' := Other_law ftri fnum foth s L v w hv hl
theorem Friends_any (s : Int) (L : List Int) (v : Value) (w : World) (hv : Sl w v L) (hl : L.length ≤ maxLen) :
    Calls Try.prog 6 #[.agg #[.int .i64 s, v]] w fun e w' => e = .returned (.bool true) ∧ Below w.heap.size w w' := Friends_law ftri fnum fchk ffri s L v w hv hl
end Go.Proofs.Ytlmjlffipinjiaa
