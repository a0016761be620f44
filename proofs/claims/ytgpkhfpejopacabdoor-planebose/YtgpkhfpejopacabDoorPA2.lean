/- The walks of the document's JoinOf and MeetOf. -/
import Derived.Test.YtgpkhfpejopacabDoorPA1
import Derived.Deep.QuietTactic
import Derived.BigQuiet
namespace Go.Proofs.YtgpkhfpejopacabDoor
open Go.RowKit

/-- The first block that has both. -/
def jnO (B : List (List Nat)) (p q : Nat) : Option Nat := (List.range B.length).find? fun i => (B.getD i []).contains p && (B.getD i []).contains q
/-- The first point of a block that another one has. -/
def mtO (B : List (List Nat)) (b c : Nat) : Option Nat := (B.getD b []).find? fun x => (B.getD c []).contains x
def jnT (r : Option Nat) (e : Ending) : Prop := match r with | some i => e = .returned (.tuple #[.int .i64 (i : Int), .int .i64 0]) | none => e = .returned (.tuple #[.int .i64 0, .int .i64 4])
theorem find_at {P : Nat → Bool} {n i : Nat} (hi : i < n) (h : P i = true) (hno : ∀ j, j < i → P j = false) : (List.range n).find? P = some i := by
  rw [List.find?_range_eq_some]
  exact ⟨h, List.mem_range.2 hi, fun j hj => by simp [hno j hj]⟩
theorem find_none {P : Nat → Bool} {n : Nat} (hno : ∀ j, j < n → P j = false) : (List.range n).find? P = none := by
  rw [List.find?_range_eq_none]
  exact fun j hj => by simp [hno j hj]
theorem findl_at {P : Nat → Bool} : ∀ {l : List Nat} {i : Nat}, i < l.length → P (l.getD i 0) = true → (∀ j, j < i → P (l.getD j 0) = false) → l.find? P = some (l.getD i 0)
  | [], i, h, _, _ => absurd h (by simp)
  | a :: l, 0, _, h, _ => by
    have h : P a = true := by simpa using h
    simp [h]
  | a :: l, i + 1, hi, h, hno => by
    have h0 := hno 0 (by omega)
    simp only [List.getD_cons_zero] at h0
    rw [List.find?_cons_of_neg (by simp [h0]), List.getD_cons_succ]
    exact findl_at (by simpa using hi) (by simpa using h) fun j hj => by simpa using hno (j + 1) (by omega)
theorem findl_none {P : Nat → Bool} {l : List Nat} (hno : ∀ j, j < l.length → P (l.getD j 0) = false) : l.find? P = none := by
  rw [List.find?_eq_none]
  intro x hx
  obtain ⟨i, hi, rfl⟩ := List.mem_iff_getElem.1 hx
  have := hno i hi
  rw [List.getD_eq_getElem?_getD, List.getElem?_eq_getElem hi] at this
  simpa using this
theorem getD_some {B : List (List Nat)} {i : Nat} {b : List Nat} (h : B[i]? = some b) : B.getD i [] = b := by rw [List.getD_eq_getElem?_getD, h]; rfl
end Go.Proofs.YtgpkhfpejopacabDoor
