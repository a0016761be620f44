/- The law GroupOrders, walked. -/
import Derived.Test.YtmaplmgecohjbaaG15
import Derived.Test.YtmaplmgecohjbaaP14
namespace Go.Proofs.Ytmaplmgecohjbaa
open Go.RowKit

theorem listed {n : Nat} {ms L : List (List Nat)} (hg : ∀ a, a ∈ L ↔ Gen n ms a) : listF n (inB n L) (fac n) = els n (Gen n ms) := listF_els hg

theorem Mk.each {n : Nat} {ms : List (List Nat)} {v : Value} {w : World} (h : Mk n ms v w) : ∀ l ∈ ms.map fun m => m.map Int.ofNat, l.length ≤ maxLen := by
  intro l hl
  obtain ⟨m, hm, rfl⟩ := List.mem_map.1 hl
  rw [List.length_map, (h.isP m hm).len]
  have := h.n7
  unfold maxLen
  omega
theorem Mk.lenI {n : Nat} {ms : List (List Nat)} {v : Value} {w : World} (h : Mk n ms v w) : (ms.map fun m => m.map Int.ofNat).length ≤ maxLen := by
  rw [List.length_map]
  have := h.len
  unfold maxLen
  omega

end Go.Proofs.Ytmaplmgecohjbaa
