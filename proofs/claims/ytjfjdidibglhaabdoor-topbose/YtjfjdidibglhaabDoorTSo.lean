/- Blocks in order; nothing of the program. -/
import Derived.Test.YtjfjdidibglhaabDoorDNext
namespace Go.Proofs.YtjfjdidibglhaabDoor

/-- The points of a block in order. -/
def s3 (l : List Nat) : List Nat := l.mergeSort fun x y => decide (x ≤ y)
theorem s3_perm (l : List Nat) : (s3 l).Perm l := List.mergeSort_perm _ _
theorem s3_len (l : List Nat) : (s3 l).length = l.length := (s3_perm l).length_eq
/-- Blocks that come in order: what they are. -/
structure Ordd (L Z : List (List Nat)) : Prop where
  perm : Z.Perm (L.map s3)
  ord : Z.Pairwise fun a b => ¬ llt b a
theorem Ordd.one {L Z Z' : List (List Nat)} (h3 : ∀ b ∈ L, b.length = 3) (h : Ordd L Z) (h' : Ordd L Z') : Z = Z' := by
  have hl : ∀ b ∈ L.map s3, b.length = 3 := fun b hb => by
    obtain ⟨c, hc, rfl⟩ := List.mem_map.1 hb
    rw [s3_len]; exact h3 c hc
  refine (h.perm.trans h'.perm.symm).eq_of_pairwise (fun a b ha hb h1 h2 => ?_) h.ord h'.ord
  have e : a.length = b.length := by rw [hl a (h.perm.mem_iff.1 ha), hl b (h'.perm.mem_iff.1 hb)]
  rcases llt_tri e with g | g | g
  · exact (h2 g).elim
  · exact g
  · exact (h1 g).elim
theorem Ordd.of {L M Z : List (List Nat)} (h : Ordd L Z) (hp : (L.map s3).Perm (M.map s3)) : Ordd M Z := ⟨h.perm.trans hp, h.ord⟩
theorem Ordd.len {L Z : List (List Nat)} (h : Ordd L Z) : Z.length = L.length := by rw [h.perm.length_eq, List.length_map]
theorem Ordd.mem {L Z : List (List Nat)} (h : Ordd L Z) {b : List Nat} (hb : b ∈ Z) : ∃ c ∈ L, b = s3 c := by
  obtain ⟨c, hc, e⟩ := List.mem_map.1 (h.perm.mem_iff.1 hb)
  exact ⟨c, hc, e.symm⟩

end Go.Proofs.YtjfjdidibglhaabDoor
