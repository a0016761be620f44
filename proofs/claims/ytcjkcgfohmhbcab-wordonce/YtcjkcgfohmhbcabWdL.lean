/- Lyndon words: put together, and in one way only. -/
import Derived.RowKit
namespace Go.Proofs.Ytcjkcgfohmhbcab

/-- Is the one word ahead of the other? -/
def Ah : List Nat → List Nat → Prop
  | _, [] => False
  | [], _ :: _ => True
  | a :: x, b :: y => a < b ∨ (a = b ∧ Ah x y)
theorem ah_nil (x : List Nat) : ¬ Ah x [] := by cases x <;> exact id
theorem ah_irr : ∀ x, ¬ Ah x x
  | [] => id
  | a :: x => fun h => by
    rcases h with h | ⟨_, h⟩
    · omega
    · exact ah_irr x h
theorem ah_tr : ∀ {x y z : List Nat}, Ah x y → Ah y z → Ah x z
  | x, [], z, h, _ => absurd h (ah_nil x)
  | x, b :: y, [], _, k => absurd k (ah_nil _)
  | [], b :: y, c :: z, _, _ => trivial
  | a :: x, b :: y, c :: z, h, k => by
    rcases h with h | ⟨rfl, h⟩
    · rcases k with k | ⟨rfl, _⟩
      · exact Or.inl (by omega)
      · exact Or.inl h
    · rcases k with k | ⟨rfl, k⟩
      · exact Or.inl k
      · exact Or.inr ⟨rfl, ah_tr h k⟩
theorem ah_tot : ∀ x y : List Nat, Ah x y ∨ x = y ∨ Ah y x
  | [], [] => Or.inr (Or.inl rfl)
  | [], _ :: _ => Or.inl trivial
  | _ :: _, [] => Or.inr (Or.inr trivial)
  | a :: x, b :: y => by
    rcases Nat.lt_trichotomy a b with h | h | h
    · exact Or.inl (Or.inl h)
    · subst h
      rcases ah_tot x y with h | h | h
      · exact Or.inl (Or.inr ⟨rfl, h⟩)
      · exact Or.inr (Or.inl (by rw [h]))
      · exact Or.inr (Or.inr (Or.inr ⟨rfl, h⟩))
    · exact Or.inr (Or.inr (Or.inl h))
theorem ah_app (u x y : List Nat) : Ah (u ++ x) (u ++ y) ↔ Ah x y := by
  induction u with
  | nil => exact Iff.rfl
  | cons a u ih =>
    refine ⟨fun h => ?_, fun h => Or.inr ⟨rfl, ih.2 h⟩⟩
    rcases h with h | ⟨_, h⟩
    · omega
    · exact ih.1 h
/-- A beginning is not behind. -/
theorem ah_pre (x y : List Nat) : ¬ Ah (x ++ y) x := fun h => by
  have : Ah (x ++ y) (x ++ []) := by rw [List.append_nil]; exact h
  exact ah_nil _ ((ah_app x y []).1 this)
theorem ah_long (x : List Nat) {y : List Nat} (h : y ≠ []) : Ah x (x ++ y) := by
  have : Ah (x ++ []) (x ++ y) := (ah_app x [] y).2 (by cases y with | nil => exact absurd rfl h | cons _ _ => trivial)
  rwa [List.append_nil] at this
/-- Ahead: by a beginning, or at a place. -/
theorem ah_way : ∀ {x y : List Nat}, Ah x y → (∃ z, z ≠ [] ∧ y = x ++ z) ∨ ∀ u v, Ah (x ++ u) (y ++ v)
  | x, [], h => absurd h (ah_nil x)
  | [], b :: y, _ => Or.inl ⟨b :: y, by simp, rfl⟩
  | a :: x, b :: y, h => by
    rcases h with h | ⟨rfl, h⟩
    · exact Or.inr fun u v => Or.inl h
    · rcases ah_way h with ⟨z, hz, rfl⟩ | k
      · exact Or.inl ⟨z, hz, rfl⟩
      · exact Or.inr fun u v => Or.inr ⟨rfl, k u v⟩
/-- A Lyndon word. -/
structure Lyn (w : List Nat) : Prop where
  ne : w ≠ []
  beh : ∀ u v, w = u ++ v → u ≠ [] → v ≠ [] → Ah w v
theorem lyn_one (a : Nat) : Lyn [a] := ⟨by simp, fun u v h hu hv => by
  have := congrArg List.length h
  have := List.length_pos_iff.2 hu
  have := List.length_pos_iff.2 hv
  simp at *
  omega⟩
theorem Lyn.app {u v : List Nat} (hu : Lyn u) (hv : Lyn v) (h : Ah u v) : Lyn (u ++ v) := by
  have h1 : Ah (u ++ v) v := by
    rcases ah_way h with ⟨z, hz, e⟩ | k
    · have hvz := hv.beh u z e hu.ne hz
      have := (ah_app u v z).2 hvz
      rwa [← e] at this
    · have := k v []
      rwa [List.append_nil] at this
  refine ⟨fun e => hu.ne (List.append_eq_nil_iff.1 e).1, fun a b e ha hb => ?_⟩
  rcases List.append_eq_append_iff.1 e with ⟨c, hc1, hc2⟩ | ⟨c, hc1, hc2⟩
  · by_cases hc : c = []
    · subst hc
      rw [List.nil_append] at hc2
      rw [← hc2]
      exact h1
    · exact ah_tr h1 (hv.beh c b hc2 hc hb)
  · by_cases hc : c = []
    · subst hc
      rw [List.nil_append] at hc2
      rw [hc2]
      exact h1
    · have k := hu.beh a c hc1 ha hc
      rw [hc2]
      rcases ah_way k with ⟨z, hz, ez⟩ | k
      · have e1 := congrArg List.length hc1
        have e2 := congrArg List.length ez
        have := List.length_pos_iff.2 ha
        simp at e1 e2
        omega
      · exact k v v
/-- What falls: Lyndon words, none ahead of the next. -/
def Fal : List (List Nat) → Prop
  | [] => True
  | [l] => Lyn l
  | l :: m :: r => Lyn l ∧ ¬ Ah l m ∧ Fal (m :: r)
theorem Fal.lyn {l : List Nat} {r : List (List Nat)} (h : Fal (l :: r)) : Lyn l := by
  cases r with
  | nil => exact h
  | cons m r => exact h.1
theorem Fal.tail {l : List Nat} {r : List (List Nat)} (h : Fal (l :: r)) : Fal r := by
  cases r with
  | nil => trivial
  | cons m r => exact h.2.2
theorem ah_not {x y z : List Nat} (h : ¬ Ah x y) (k : ¬ Ah y z) : ¬ Ah x z := fun hh => by
  rcases ah_tot x y with a | a | a
  · exact h a
  · subst a; exact k hh
  · exact k (ah_tr a hh)
/-- What stands at a place of what falls is not behind its first. -/
theorem Fal.end_not : ∀ {r : List (List Nat)} {l : List Nat}, Fal (l :: r) → ∀ p q : List Nat, r.flatten = p ++ q → p ≠ [] → ∃ a b, a ≠ [] ∧ (∃ p', p = p' ++ a) ∧ (∃ m, m = a ++ b ∧ ¬ Ah l m)
  | [], l, h, p, q, e, hp => by
    have := (List.append_eq_nil_iff.1 (show p ++ q = [] from e.symm)).1
    exact absurd this hp
  | m :: r, l, h, p, q, e, hp => by
    have e' : m ++ r.flatten = p ++ q := by rw [← e]; rfl
    rcases List.append_eq_append_iff.1 e' with ⟨c, hc1, hc2⟩ | ⟨c, hc1, hc2⟩
    · by_cases hc : c = []
      · subst hc
        rw [List.append_nil] at hc1
        exact ⟨m, [], h.tail.lyn.ne, ⟨[], by rw [hc1]; rfl⟩, m, by rw [List.append_nil], h.2.1⟩
      · obtain ⟨a, b, ha, ⟨p', hp'⟩, m', hm', hn⟩ := Fal.end_not h.tail c q hc2 hc
        exact ⟨a, b, ha, ⟨m ++ p', by rw [hc1, hp', List.append_assoc]⟩, m', hm', ah_not h.2.1 hn⟩
    · exact ⟨p, c, hp, ⟨[], rfl⟩, m, hc1, h.2.1⟩
/-- The first of what falls is the longest beginning that is a Lyndon word. -/
theorem Fal.longest {l : List Nat} {r : List (List Nat)} (h : Fal (l :: r)) {p q : List Nat} (e : l ++ r.flatten = p ++ q) (hp : Lyn p) : p.length ≤ l.length := by
  rcases List.append_eq_append_iff.1 e with ⟨c, hc1, hc2⟩ | ⟨c, hc1, hc2⟩
  · by_cases hc : c = []
    · subst hc; rw [hc1]; simp
    · obtain ⟨a, b, ha, ⟨p', hp'⟩, m, hm, hn⟩ := Fal.end_not h c q hc2 hc
      have k := hp.beh (l ++ p') a (by rw [hc1, hp', List.append_assoc]) (fun e => h.lyn.ne (List.append_eq_nil_iff.1 e).1) ha
      rw [hm] at hn
      refine absurd ?_ hn
      have k1 : ¬ Ah p l := by rw [hc1]; exact ah_pre l c
      have k2 : ¬ Ah (a ++ b) a := ah_pre a b
      rcases ah_tot l p with g | g | g
      · rcases ah_tot a (a ++ b) with f | f | f
        · exact ah_tr g (ah_tr k f)
        · rw [← f]; exact ah_tr g k
        · exact absurd f k2
      · rw [g]
        rcases ah_tot a (a ++ b) with f | f | f
        · exact ah_tr k f
        · rw [← f]; exact k
        · exact absurd f k2
      · exact absurd g k1
  · rw [hc1]; simp
/-- So there is just one way. -/
theorem Fal.one : ∀ {r s : List (List Nat)}, Fal r → Fal s → r.flatten = s.flatten → r = s
  | [], [], _, _, _ => rfl
  | [], m :: s, _, k, e => absurd (List.append_eq_nil_iff.1 (show m ++ s.flatten = [] from e.symm)).1 k.lyn.ne
  | l :: r, [], h, _, e => absurd (List.append_eq_nil_iff.1 (show l ++ r.flatten = [] from e)).1 h.lyn.ne
  | l :: r, m :: s, h, k, e => by
    have e' : l ++ r.flatten = m ++ s.flatten := e
    have h1 := h.longest e' k.lyn
    have h2 := k.longest e'.symm h.lyn
    obtain ⟨e1, e2⟩ := List.append_inj e' (by omega)
    rw [e1, Fal.one h.tail k.tail e2]
end Go.Proofs.Ytcjkcgfohmhbcab
