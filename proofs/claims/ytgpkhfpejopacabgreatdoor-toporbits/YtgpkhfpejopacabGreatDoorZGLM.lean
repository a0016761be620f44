/- The laws' own made; makers as they came in. -/
import Derived.Test.YtgpkhfpejopacabGreatDoorZG11
import Derived.Test.YtgpkhfpejopacabGreatDoorZP33
namespace Go.Proofs.YtgpkhfpejopacabGreatDoor.Gc
open Go.RowKit Go.Maps

theorem ord_le {n : Nat} {ms : List (List Nat)} (hm : ∀ m ∈ ms, IsP n m) (hn : n ≤ 7) : 1 ≤ ordG n ms ∧ ordG n ms ≤ 5040 := by
  have h := gen_bound hm hn (els_nodup n (Gen n ms)) (fun a => (gen_grp hm).mem)
  exact h
/-- What is known of the makers as they came in. -/
structure Came (ls : List (List Int)) (v : Value) (w : World) : Prop where
  sls : Sls w v ls
  each : ∀ l ∈ ls, l.length ≤ maxLen
  len : ls.length ≤ maxLen
  cap : capOk v
theorem Came.below {ls : List (List Int)} {v : Value} {w w' : World} (h : Came ls v w) (hb : Below w.heap.size w w') : Came ls v w' := ⟨h.sls.below hb, h.each, h.len, h.cap⟩
theorem Came.mk' {ls : List (List Int)} {v : Value} {w : World} {n : Int} (h : Came ls v w) (h0 : gF n ls = 0) : ∃ (k : Nat) (ms : List (List Nat)), n = k ∧ Mk k ms v w ∧ ls.length = ms.length := by
  obtain ⟨k, ms, h1, h2, h3, h4, h5, h6⟩ := gF_ok h0
  refine ⟨k, ms, h1, ⟨h2, h3, h4, h5, ?_⟩, by rw [h6, List.length_map]⟩
  have := h.sls
  rw [h6] at this
  exact this.slsl

end Go.Proofs.YtgpkhfpejopacabGreatDoor.Gc
