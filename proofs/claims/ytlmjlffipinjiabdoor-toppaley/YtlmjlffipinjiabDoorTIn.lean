/- One more among those in order; nothing of the program. -/
import Derived.Test.YtlmjlffipinjiabDoorTSo
namespace Go.Proofs.YtlmjlffipinjiabDoor

theorem swap_list {α : Type} (A C : List α) (x y : α) : ((A ++ y :: x :: C).set A.length x).set (A.length + 1) y = A ++ x :: y :: C := by
  rw [List.set_append_right _ _ (Nat.le_refl _), Nat.sub_self, List.set_cons_zero, List.set_append_right _ _ (by omega), show A.length + 1 - A.length = 1 by omega]
  rfl
theorem getD_mid {A C : List Nat} {x : Nat} : (A ++ x :: C).getD A.length 0 = x := by simp
/-- It stands where it belongs. -/
theorem ins_end {α : Type} {R : α → α → Prop} (tr : ∀ a b c, R a b → R b c → R a c) {A C : List α} {x : α} (h1 : (A ++ C).Pairwise R) (h2 : ∀ c ∈ C, R x c) (h3 : ∀ B y, A = B ++ [y] → R y x) : (A ++ x :: C).Pairwise R := by
  rw [List.pairwise_append] at h1 ⊢
  refine ⟨h1.1, List.pairwise_cons.2 ⟨h2, h1.2.1⟩, fun a ha b hb => ?_⟩
  have hax : R a x := by
    rcases List.eq_nil_or_concat A with e | ⟨B, y, e⟩
    · rw [e] at ha; simp at ha
    · have e : A = B ++ [y] := by rw [e, List.concat_eq_append]
      have hy := h3 B y e
      rw [e] at ha h1
      rcases List.mem_append.1 ha with h | h
      · exact tr _ _ _ ((List.pairwise_append.1 h1.1).2.2 a h y (by simp)) hy
      · have e2 : a = y := by simpa using h
        rw [e2]; exact hy
  rcases List.mem_cons.1 hb with h | h
  · rw [h]; exact hax
  · exact h1.2.2 a ha b h
theorem ins_step {α : Type} {R : α → α → Prop} {A C : List α} {x y : α} (h1 : (A ++ [y] ++ C).Pairwise R) (h2 : ∀ c ∈ C, R x c) (hy : R x y) : (A ++ (y :: C)).Pairwise R ∧ ∀ c ∈ y :: C, R x c := by
  refine ⟨by simpa using h1, fun c hc => ?_⟩
  rcases List.mem_cons.1 hc with h | h
  · rw [h]; exact hy
  · exact h2 c h
theorem mid_perm {α : Type} (A C : List α) (x : α) : (A ++ x :: C).Perm (x :: (A ++ C)) := List.perm_middle
theorem snoc_perm {α : Type} (A : List α) (x : α) : (A ++ [x]).Perm (x :: A) := List.perm_append_comm
theorem llt_trans : ∀ {a b c : List Nat}, llt a b → llt b c → llt a c
  | [], _, _, h, _ => by cases h
  | _ :: _, [], _, h, _ => by cases h
  | _ :: _, _ :: _, [], _, h => by cases h
  | x :: a, y :: b, z :: c, h1, h2 => by
    rcases h1 with h1 | ⟨e1, h1⟩ <;> rcases h2 with h2 | ⟨e2, h2⟩
    · exact .inl (by omega)
    · exact .inl (by omega)
    · exact .inl (by omega)
    · exact .inr ⟨by omega, llt_trans h1 h2⟩
/-- Not behind: it goes on. -/
theorem nlt_trans {a b c : List Nat} (h1 : a.length = b.length) (_ : b.length = c.length) (hab : ¬ llt b a) (hbc : ¬ llt c b) : ¬ llt c a := fun h => by
  rcases llt_tri h1 with g | g | g
  · exact hbc (llt_trans h g)
  · rw [g] at h; exact hbc h
  · exact hab g

end Go.Proofs.YtlmjlffipinjiabDoor
