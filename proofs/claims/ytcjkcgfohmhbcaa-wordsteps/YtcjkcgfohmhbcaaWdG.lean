/- Gray's numbers, by their places. -/
import Derived.Test.YtcjkcgfohmhbcaaW4
namespace Go.Proofs.Ytcjkcgfohmhbcaa

set_option maxRecDepth 100000 in
theorem gr_all : (List.range 13).all (fun n => grL n == (List.range (2 ^ n)).map fun i => i ^^^ (i / 2)) = true := by decide +kernel
theorem gr_at {n : Nat} (hn : n ≤ 12) : grL n = (List.range (2 ^ n)).map fun i => i ^^^ (i / 2) :=
  eq_of_beq (List.all_eq_true.1 gr_all n (List.mem_range.2 (by omega)))
theorem gr_getD {n i : Nat} (hn : n ≤ 12) (hi : i < 2 ^ n) : (grL n).getD i 0 = i ^^^ (i / 2) := by
  rw [gr_at hn]
  simp [hi]
end Go.Proofs.Ytcjkcgfohmhbcaa
