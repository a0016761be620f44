/- What is wrong with marks: the walk of the document's MarksFault. -/
import Derived.Test.YtmiinhbffiodmaaDoorS1
import Derived.Test.YtmiinhbffiodmaaDoorRuD
namespace Go.Proofs.YtmiinhbffiodmaaDoor
open Go.RowKit

/-- What is wrong with marks. -/
def mF (l : List Int) : Nat := if 60 < l.length then 3 else if bF 1000000001 l = 1 then 1 else if (0 < l.length ∧ l.getD 0 0 ≠ 0) ∨ riB l = false then 2 else 0
theorem bF_one {p : Int} {b : List Int} (h : ∀ j, j < b.length → 0 ≤ b.getD j 0 ∧ b.getD j 0 < p) : bF p b ≠ 1 := by
  rw [bF_riB h]
  split <;> omega
theorem mF_out {l : List Int} {j : Nat} (h60 : l.length ≤ 60) (hj : j < l.length) (h : ¬ (0 ≤ l.getD j 0 ∧ l.getD j 0 < 1000000001)) : mF l = 1 := by
  unfold mF
  rw [if_neg (by omega), if_pos (bF_out hj h)]
theorem mF_first {l : List Int} (h60 : l.length ≤ 60) (h : ∀ j, j < l.length → 0 ≤ l.getD j 0 ∧ l.getD j 0 < 1000000001) (h0 : 0 < l.length) (hn : l.getD 0 0 ≠ 0) : mF l = 2 := by
  unfold mF
  rw [if_neg (by omega), if_neg (bF_one h), if_pos (.inl ⟨h0, hn⟩)]
theorem mF_fall {l : List Int} {j : Nat} (h60 : l.length ≤ 60) (h : ∀ j, j < l.length → 0 ≤ l.getD j 0 ∧ l.getD j 0 < 1000000001) (h1 : 1 ≤ j) (hj : j < l.length) (hf : l.getD j 0 ≤ l.getD (j - 1) 0) : mF l = 2 := by
  unfold mF
  rw [if_neg (by omega), if_neg (bF_one h), if_pos (.inr (riB_no h1 hj hf))]
theorem mF_zero {l : List Int} (h60 : l.length ≤ 60) (h : ∀ j, j < l.length → 0 ≤ l.getD j 0 ∧ l.getD j 0 < 1000000001) (h0 : 0 < l.length → l.getD 0 0 = 0) (hr : ∀ j, 1 ≤ j → j < l.length → l.getD (j - 1) 0 < l.getD j 0) : mF l = 0 := by
  unfold mF
  rw [if_neg (by omega), if_neg (bF_one h), if_neg]
  rintro (⟨a, b⟩ | a)
  · exact b (h0 a)
  · rw [riB_yes hr] at a
    cases a
/-- Marks: a list that rises, from 0 on. -/
structure GoodM (l : List Nat) : Prop where
  few : l.length ≤ 60
  rise : l.Pairwise (· < ·)
  le : ∀ x ∈ l, x ≤ 1000000000
  zero : l.getD 0 0 = 0
theorem mF_good {l : List Int} (h : mF l = 0) : ∃ D : List Nat, l = D.map Int.ofNat ∧ GoodM D := by
  unfold mF at h
  split at h
  · cases h
  · rename_i h1
    split at h
    · cases h
    · rename_i h2
      split at h
      · cases h
      · rename_i h3
        have hin : ∀ j, j < l.length → 0 ≤ l.getD j 0 ∧ l.getD j 0 < 1000000001 := fun j hj => Classical.byContradiction fun hn => h2 (bF_out hj hn)
        have hri : riB l = true := by
          cases e : riB l
          · exact absurd (Or.inr e) h3
          · rfl
        have hrr : ∀ j, 1 ≤ j → j < l.length → l.getD (j - 1) 0 < l.getD j 0 := fun j hj1 hj => Classical.byContradiction fun hn => by
          rw [riB_no hj1 hj (by omega)] at hri
          cases hri
        obtain ⟨r1, r2⟩ := toNat_rs (v := 1000000001) (lo := 0) (fun j hj => by have := hin j hj; omega) hrr
        obtain ⟨r3, r4⟩ := rs_iff.1 r1
        refine ⟨l.map Int.toNat, r2.symm, by rw [List.length_map]; omega, r3, fun x hx => by have := (r4 x hx).2; omega, ?_⟩
        rcases l with _ | ⟨y, l⟩
        · rfl
        · have hy : y = 0 := Classical.byContradiction fun hn => h3 (.inl ⟨by simp, by simpa using hn⟩)
          simp [hy]
end Go.Proofs.YtmiinhbffiodmaaDoor
