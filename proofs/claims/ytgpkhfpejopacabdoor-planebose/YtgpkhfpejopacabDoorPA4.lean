/- The walk of the document's IsPlane. -/
import Derived.Test.YtgpkhfpejopacabDoorPA1
import Derived.Deep.QuietTactic
import Derived.BigQuiet
/- The walk of the document's ArcOf. -/
namespace Go.Proofs.YtgpkhfpejopacabDoor
open Go.RowKit

theorem undD : ∃ d, Tryd.prog.underlying 24 = some d ∧ d.isRow = true := ⟨_, Tryd.underlying24, rfl⟩
theorem infD2 (x y : Value) : (Tryd.prog.info? 24).map (·.size) = some (#[x, y] : Array Value).size := by kernel_rfl
end Go.Proofs.YtgpkhfpejopacabDoor

namespace Go.Proofs.YtgpkhfpejopacabDoor
open Go.RowKit

theorem mt_two {x y : Nat} {b : List Nat} : (mt [y, x] b == 2) = [y, x].all fun z => b.contains z := by
  unfold mt
  simp only [List.countP_cons, List.countP_nil, List.all_cons, List.all_nil, Bool.and_true]
  cases b.contains y <;> cases b.contains x <;> simp
/-- All sets ahead of this one are lined. -/
def SrI (v : Nat) (B : List (List Nat)) (s : List Nat) : Prop := ∀ s', Rs v 0 s' → s'.length = 4 → (s = s' ∨ llt s s') ∨ liB B s' = true
theorem SrI.start {v : Nat} {B : List (List Nat)} : SrI v B (List.range' 0 4) := fun s' h1 h2 => by
  have h := range_least h1 h2
  rcases llt_tri (s := s') (t := List.range' 0 4) (by rw [h2]; simp) with k | k | k
  · exact absurd k h
  · exact .inl (.inl k.symm)
  · exact .inl (.inr k)
theorem SrI.next {v : Nat} {B : List (List Nat)} {s s2 : List Nat} (h : SrI v B s) (hs : Rs v 0 s) (h4 : s.length = 4) (hl : liB B s = true) (hn : nx v s = some s2) : SrI v B s2 := fun s' h1 h2 => by
  rcases h s' h1 h2 with (k | k) | k
  · subst k; exact .inr hl
  · exact .inl ((nx_some hs hn).2.2.2 s' h1 (by rw [h2, h4]) k)
  · exact .inr k
theorem SrI.no {v : Nat} {B : List (List Nat)} {s : List Nat} (h : SrI v B s) (hs : Rs v 0 s) (h4 : s.length = 4) (hl : liB B s = true) (hn : nx v s = none) : ¬ PlP v B := fun ⟨_, _, _, s', h1, h2, h3⟩ => by
  rcases h s' h1 h2 with (k | k) | k
  · subst k; rw [hl] at h3; cases h3
  · exact nx_none hs hn h1 (by rw [h2, h4]) k
  · rw [k] at h3; cases h3
end Go.Proofs.YtgpkhfpejopacabDoor
