/- The next Lyndon word, no longer. -/
import Derived.Test.YtcjkcgfohmhbcabWdF
namespace Go.Proofs.Ytcjkcgfohmhbcab

theorem ah_split : ∀ {x y u v : List Nat}, x.length = y.length → Ah (x ++ u) (y ++ v) → (∀ u' v', Ah (x ++ u') (y ++ v')) ∨ (x = y ∧ Ah u v)
  | [], [], _, _, _, h => Or.inr ⟨rfl, h⟩
  | [], b :: y, _, _, h, _ => absurd h (by simp)
  | a :: x, [], _, _, h, _ => absurd h (by simp)
  | a :: x, b :: y, u, v, hl, h => by
    have h' : a < b ∨ (a = b ∧ Ah (x ++ u) (y ++ v)) := h
    clear h
    rcases h' with h' | ⟨rfl, h'⟩
    · exact Or.inl fun _ _ => Or.inl h'
    · rcases ah_split (by simpa using hl) h' with k | ⟨rfl, k⟩
      · exact Or.inl fun u' v' => Or.inr ⟨rfl, k u' v'⟩
      · exact Or.inr ⟨rfl, k⟩
/-- A beginning of a Lyndon word with its last number made greater is one. -/
theorem Lyn.up {u z : List Nat} {a b : Nat} (h : Lyn (u ++ a :: z)) (hab : a < b) : Lyn (u ++ [b]) := by
  refine ⟨by simp, fun p s e hp hs => ?_⟩
  obtain ⟨s', x, rfl⟩ : ∃ s' x, s = s' ++ [x] := ⟨s.dropLast, s.getLast hs, (List.dropLast_concat_getLast hs).symm⟩
  rw [← List.append_assoc] at e
  obtain ⟨e1, e2⟩ := List.append_inj' e rfl
  obtain rfl : b = x := by simpa using e2
  have hm : s'.length < u.length := by
    rw [e1, List.length_append]
    have := List.length_pos_iff.2 hp
    omega
  have k := h.beh p (s' ++ a :: z) (by rw [e1, List.append_assoc]) hp (by simp)
  obtain ⟨t, c, r, hu, ht⟩ : ∃ t c r, u = t ++ c :: r ∧ t.length = s'.length := by
    refine ⟨u.take s'.length, u[s'.length], u.drop (s'.length + 1), ?_, by rw [List.length_take]; omega⟩
    rw [← List.drop_eq_getElem_cons hm, List.take_append_drop]
  rw [hu, List.append_assoc] at k
  rw [hu, List.append_assoc]
  rcases ah_split ht k with g | ⟨rfl, g⟩
  · exact g _ _
  · refine (ah_app t _ _).2 (Or.inl ?_)
    rcases g with g | ⟨g, _⟩
    · omega
    · omega
/-- Where all numbers are the greatest there is none behind. -/
theorem none_behind {k : Nat} : ∀ (z v : List Nat), (∀ x ∈ z, x + 1 = k) → (∀ x ∈ v, x < k) → v.length ≤ z.length → ¬ Ah z v
  | [], v, _, _, hl => by rw [List.length_eq_zero_iff.1 (Nat.le_zero.1 hl)]; exact ah_nil _
  | x :: z, [], _, _, _ => ah_nil _
  | x :: z, y :: v, hz, hv, hl => fun h => by
    have h1 := hz x (by simp)
    have h2 := hv y (by simp)
    rcases h with h | ⟨_, h⟩
    · omega
    · exact none_behind z v (fun x hx => hz x (by simp [hx])) (fun x hx => hv x (by simp [hx])) (by simpa using hl) h
/-- Nothing of that length lies between: what is behind u ++ a :: z, whose z is all of the greatest number, is no longer and of numbers below k. -/
theorem up_least {u z v : List Nat} {a k : Nat} (hz : ∀ x ∈ z, x + 1 = k) (hv : ∀ x ∈ v, x < k) (hl : v.length ≤ (u ++ a :: z).length) (h : Ah (u ++ a :: z) v) : ¬ Ah v (u ++ [a + 1]) := by
  induction u generalizing v with
  | nil =>
    cases v with
    | nil => exact absurd h (ah_nil _)
    | cons y v =>
      have h' : a < y ∨ (a = y ∧ Ah z v) := h
      clear h
      intro hh
      have hh : y < a + 1 ∨ (y = a + 1 ∧ Ah v []) := hh
      rcases h' with h' | ⟨rfl, h'⟩
      · rcases hh with hh | ⟨_, hh⟩
        · omega
        · exact ah_nil _ hh
      · exact none_behind z v hz (fun x hx => hv x (by simp [hx])) (by simpa using hl) h'
  | cons c u ih =>
    cases v with
    | nil => exact absurd h (ah_nil _)
    | cons y v =>
      have h' : c < y ∨ (c = y ∧ Ah (u ++ a :: z) v) := h
      clear h
      intro hh
      have hh : y < c ∨ (y = c ∧ Ah v (u ++ [a + 1])) := hh
      rcases h' with h' | ⟨rfl, h'⟩
      · rcases hh with hh | ⟨hh, _⟩ <;> omega
      · rcases hh with hh | ⟨_, hh⟩
        · omega
        · exact ih (fun x hx => hv x (by simp [hx])) (by simpa using hl) h' hh
/-- It is behind. -/
theorem up_behind (u z : List Nat) (a : Nat) : Ah (u ++ a :: z) (u ++ [a + 1]) := (ah_app u _ _).2 (Or.inl (Nat.lt_succ_self a))
end Go.Proofs.Ytcjkcgfohmhbcab
