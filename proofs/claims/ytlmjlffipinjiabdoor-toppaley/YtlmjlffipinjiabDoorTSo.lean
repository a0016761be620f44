/- Blocks in order; nothing of the program. -/
import Derived.Test.YtlmjlffipinjiabDoorDNext
namespace Go.Proofs.YtlmjlffipinjiabDoor

/-- The points of a block in order. -/
def s3 (l : List Nat) : List Nat := l.mergeSort fun x y => decide (x ≤ y)
theorem s3_perm (l : List Nat) : (s3 l).Perm l := List.mergeSort_perm _ _
theorem s3_len (l : List Nat) : (s3 l).length = l.length := (s3_perm l).length_eq
theorem s3_le (l : List Nat) : (s3 l).Pairwise (· ≤ ·) :=
  (List.pairwise_mergeSort (le := fun x y => decide (x ≤ y)) (fun a b c h1 h2 => decide_eq_true (Nat.le_trans (of_decide_eq_true h1) (of_decide_eq_true h2))) (fun a b => by simp; omega) l).imp fun h => of_decide_eq_true h
theorem sorted_one {l m : List Nat} (h : l.Perm m) (h1 : l.Pairwise (· ≤ ·)) (h2 : m.Pairwise (· ≤ ·)) : l = m :=
  h.eq_of_pairwise (fun _ _ _ _ a b => Nat.le_antisymm a b) h1 h2
theorem s3_of {l m : List Nat} (h : m.Perm l) (h1 : m.Pairwise (· ≤ ·)) : m = s3 l := sorted_one (h.trans (s3_perm l).symm) h1 (s3_le l)
theorem s3_congr {l m : List Nat} (h : l.Perm m) : s3 l = s3 m := s3_of ((s3_perm l).trans h) (s3_le l)
theorem s3_id {l : List Nat} (h : l.Pairwise (· ≤ ·)) : s3 l = l := (s3_of (List.Perm.refl _) h).symm
theorem srt_map (l : List Nat) : (l.map Int.ofNat).mergeSort (fun x y => decide (x ≤ y)) = (s3 l).map Int.ofNat := by
  refine List.Perm.eq_of_pairwise (le := fun x y : Int => x ≤ y) (fun _ _ _ _ a b => Int.le_antisymm a b) ?_ ?_ ?_
  · exact (List.pairwise_mergeSort (le := fun x y : Int => decide (x ≤ y)) (fun a b c h1 h2 => decide_eq_true (Int.le_trans (of_decide_eq_true h1) (of_decide_eq_true h2))) (fun a b => by simp; omega) _).imp fun h => of_decide_eq_true h
  · rw [List.pairwise_map]
    exact (s3_le l).imp fun h => Int.ofNat_le.2 h
  · exact (List.mergeSort_perm _ _).trans ((s3_perm l).symm.map _)
theorem s3_mem {l : List Nat} {x : Nat} : x ∈ s3 l ↔ x ∈ l := (s3_perm l).mem_iff
/-- Which of two comes first, as the library tells it. -/
def cmpL : List Nat → List Nat → Int
  | x :: s, y :: t => if x < y then -1 else if y < x then 1 else cmpL s t
  | _, _ => 0
theorem cmpL_neg : ∀ {s t : List Nat}, cmpL s t < 0 ↔ llt s t
  | [], [] => by simp [cmpL, llt]
  | [], _ :: _ => by simp [cmpL, llt]
  | _ :: _, [] => by simp [cmpL, llt]
  | x :: s, y :: t => by
    unfold cmpL llt
    by_cases h1 : x < y
    · simp [h1]
    · by_cases h2 : y < x
      · rw [if_neg h1, if_pos h2]
        constructor
        · intro h; omega
        · rintro (h | ⟨h, _⟩) <;> omega
      · rw [if_neg h1, if_neg h2, cmpL_neg]
        obtain rfl : x = y := by omega
        simp
/-- Blocks that come in order: what they are. -/
structure Ordd (L Z : List (List Nat)) : Prop where
  perm : Z.Perm (L.map s3)
  ord : Z.Pairwise fun a b => ¬ llt b a
theorem Ordd.one {L Z Z' : List (List Nat)} (h3 : ∀ b ∈ L, b.length = 3) (h : Ordd L Z) (h' : Ordd L Z') : Z = Z' := by
  have hl : ∀ b ∈ L.map s3, b.length = 3 := fun b hb => by
    obtain ⟨c, hc, rfl⟩ := List.mem_map.1 hb
    rw [s3_len]; exact h3 c hc
  refine (h.perm.trans h'.perm.symm).eq_of_pairwise (fun a b ha hb h1 h2 => ?_) h.ord h'.ord
  have e : a.length = b.length := by rw [hl a (h.perm.mem_iff.1 ha), hl b (h'.perm.mem_iff.1 hb)]
  rcases llt_tri e with g | g | g
  · exact (h2 g).elim
  · exact g
  · exact (h1 g).elim
theorem Ordd.of {L M Z : List (List Nat)} (h : Ordd L Z) (hp : (L.map s3).Perm (M.map s3)) : Ordd M Z := ⟨h.perm.trans hp, h.ord⟩
theorem Ordd.len {L Z : List (List Nat)} (h : Ordd L Z) : Z.length = L.length := by rw [h.perm.length_eq, List.length_map]
theorem Ordd.mem {L Z : List (List Nat)} (h : Ordd L Z) {b : List Nat} (hb : b ∈ Z) : ∃ c ∈ L, b = s3 c := by
  obtain ⟨c, hc, e⟩ := List.mem_map.1 (h.perm.mem_iff.1 hb)
  exact ⟨c, hc, e.symm⟩

end Go.Proofs.YtlmjlffipinjiabDoor
