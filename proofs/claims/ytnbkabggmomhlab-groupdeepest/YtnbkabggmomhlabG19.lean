/- Makers with the points behind them. -/
import Derived.Test.YtnbkabggmomhlabG11
import Derived.Test.YtnbkabggmomhlabG47
namespace Go.Proofs.Ytnbkabggmomhlab
theorem Mk.ext7 {n : Nat} {ms : List (List Nat)} {v : Value} {w : World} (h : Mk n ms v w) : ∀ m ∈ ms.map (ext n), IsP 7 m := fun m hm => by
  obtain ⟨a, ha, rfl⟩ := List.mem_map.1 hm
  exact ext_isP (h.isP a ha) h.n7

end Go.Proofs.Ytnbkabggmomhlab
