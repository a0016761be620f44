/- Words of Lyndon words, over all that is asked: the same as the document's. -/
import Derived.Test.YtcjkcgfohmhbcabWxA
import Derived.Test.YtcjkcgfohmhbcabWdB
namespace Go.Proofs.Ytcjkcgfohmhbcab

set_option maxRecDepth 100000 in
theorem fkm_all : (List.range 10).all (fun k => (List.range 12).all fun n => decide (4096 < (k + 1) ^ (n + 1)) || fkB (k + 1) (n + 1) 4096 [0] (bru (k + 1) ((k + 1) ^ (n + 1)) ((k + 1) ^ (n + 1)) ((k + 1) ^ (n + 1) - 1) 0)) = true := by decide +kernel
end Go.Proofs.Ytcjkcgfohmhbcab
