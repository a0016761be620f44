/- The walk of the document's LevelOf, all its ways. -/
import Derived.Test.YtjfjdidibglhaabDoorDLw
namespace Go.Proofs.YtjfjdidibglhaabDoor
open Go.RowKit

/-- A design of level t: its blocks' size, and in how many t points lie. -/
def LvOk (v : Nat) (B : List (List Nat)) (t k l : Nat) : Prop := B ≠ [] ∧ (∀ b ∈ B, b.length = k) ∧ Lev v B t l
theorem LvOk.one {v t k l k' l' : Nat} {B : List (List Nat)} (ht : t ≤ v) (h : LvOk v B t k l) (h' : LvOk v B t k' l') : k = k' ∧ l = l' := by
  obtain ⟨b, hb⟩ := List.exists_mem_of_ne_nil B h.1
  refine ⟨(h.2.1 b hb).symm.trans (h'.2.1 b hb), ?_⟩
  rw [← h.2.2 _ (range_pts ht) (by simp), ← h'.2.2 _ (range_pts ht) (by simp)]
/-- What is told of a level. -/
def LvT (v : Nat) (B : List (List Nat)) (t : Int) (e : Ending) : Prop :=
  ((t < 0 ∨ 4 < t ∨ (v : Int) < t) ∧ e = .returned (.tuple #[.int .i64 0, .int .i64 0, .int .i64 1])) ∨ (∃ m : Nat, t = m ∧ m ≤ 4 ∧ m ≤ v ∧ ((∃ k l : Nat, LvOk v B m k l ∧ e = .returned (.tuple #[.int .i64 (k : Int), .int .i64 (l : Int), .int .i64 0])) ∨ ((¬ ∃ k l, LvOk v B m k l) ∧ e = .returned (.tuple #[.int .i64 0, .int .i64 0, .int .i64 4]))))
theorem LvT.one {v : Nat} {B : List (List Nat)} {t : Int} {e e' : Ending} (h : LvT v B t e) (h' : LvT v B t e') : e = e' := by
  rcases h with ⟨h1, rfl⟩ | ⟨m, rfl, h4, hv, h⟩
  · rcases h' with ⟨_, rfl⟩ | ⟨m, rfl, _, _, _⟩
    · rfl
    · omega
  · rcases h' with ⟨h1, _⟩ | ⟨m', e, _, _, h'⟩
    · omega
    · obtain rfl : m = m' := by omega
      rcases h with ⟨k, l, ho, rfl⟩ | ⟨hn, rfl⟩
      · rcases h' with ⟨k', l', ho', rfl⟩ | ⟨hn, _⟩
        · obtain ⟨rfl, rfl⟩ := ho.one hv ho'
          rfl
        · exact (hn ⟨k, l, ho⟩).elim
      · rcases h' with ⟨k', l', ho', _⟩ | ⟨_, rfl⟩
        · exact (hn ⟨k', l', ho'⟩).elim
        · rfl
end Go.Proofs.YtjfjdidibglhaabDoor
