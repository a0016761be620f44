/- Lists of points that rise, one after another; nothing of the program. -/
import Derived.Test.YtcjkcgfohmhbcabDoorDPure
namespace Go.Proofs.YtcjkcgfohmhbcabDoor

/-- It rises from lo on, below v. -/
def Rs (v : Nat) : Nat → List Nat → Prop
  | _, [] => True
  | lo, x :: s => lo ≤ x ∧ x < v ∧ Rs v (x + 1) s
theorem Rs.weak {v : Nat} : ∀ {lo lo' : Nat} {s : List Nat}, Rs v lo s → lo' ≤ lo → Rs v lo' s
  | _, _, [], _, _ => trivial
  | _, _, _ :: _, h, hl => ⟨Nat.le_trans hl h.1, h.2⟩
theorem Rs.room {v : Nat} : ∀ {lo x : Nat} {s : List Nat}, Rs v lo (x :: s) → x + s.length < v
  | _, _, [], h => h.2.1
  | _, x, y :: s, h => by
    have h1 := Rs.room h.2.2
    have h2 := h.2.2.1
    rw [List.length_cons]
    omega
theorem Rs.mem {v : Nat} : ∀ {lo : Nat} {s : List Nat}, Rs v lo s → ∀ x ∈ s, lo ≤ x ∧ x < v
  | _, [], _, x, hx => by simp at hx
  | lo, y :: s, h, x, hx => by
    rcases List.mem_cons.1 hx with rfl | hx
    · exact ⟨h.1, h.2.1⟩
    · have := Rs.mem h.2.2 x hx
      have := h.1
      omega
theorem rs_iff {v : Nat} : ∀ {lo : Nat} {s : List Nat}, Rs v lo s ↔ s.Pairwise (· < ·) ∧ ∀ x ∈ s, lo ≤ x ∧ x < v
  | lo, [] => ⟨fun _ => ⟨List.Pairwise.nil, fun x h => by simp at h⟩, fun _ => trivial⟩
  | lo, y :: s => by
    constructor
    · intro h
      have h1 := (rs_iff (lo := y + 1) (s := s)).1 h.2.2
      refine ⟨List.pairwise_cons.2 ⟨fun x hx => (h1.2 x hx).1, h1.1⟩, Rs.mem h⟩
    · rintro ⟨h1, h2⟩
      obtain ⟨h3, h4⟩ := List.pairwise_cons.1 h1
      exact ⟨(h2 y (by simp)).1, (h2 y (by simp)).2, rs_iff.2 ⟨h4, fun x hx => ⟨h3 x hx, (h2 x (List.mem_cons_of_mem _ hx)).2⟩⟩⟩
theorem rs_range {v : Nat} : ∀ {t lo : Nat}, lo + t ≤ v → Rs v lo (List.range' lo t)
  | 0, _, _ => trivial
  | t + 1, lo, h => by
    rw [List.range'_succ]
    exact ⟨Nat.le_refl _, by omega, rs_range (by omega)⟩
/-- The one list is ahead of the other. -/
def llt : List Nat → List Nat → Prop
  | x :: s, y :: t => x < y ∨ (x = y ∧ llt s t)
  | _, _ => False
theorem llt_tri : ∀ {s t : List Nat}, s.length = t.length → llt s t ∨ s = t ∨ llt t s
  | [], [], _ => .inr (.inl rfl)
  | [], _ :: _, h => by simp at h
  | _ :: _, [], h => by simp at h
  | x :: s, y :: t, h => by
    have ih := llt_tri (s := s) (t := t) (by simpa using h)
    rcases Nat.lt_trichotomy x y with h1 | h1 | h1
    · exact .inl (.inl h1)
    · subst h1
      rcases ih with h2 | h2 | h2
      · exact .inl (.inr ⟨rfl, h2⟩)
      · exact .inr (.inl (by rw [h2]))
      · exact .inr (.inr (.inr ⟨rfl, h2⟩))
    · exact .inr (.inr (.inl h1))
theorem llt_irr : ∀ {s : List Nat}, ¬ llt s s
  | [], h => h
  | x :: s, h => by
    rcases h with h | h
    · omega
    · exact llt_irr h.2
/-- None is ahead of the least. -/
theorem range_least {v : Nat} : ∀ {t lo : Nat} {s : List Nat}, Rs v lo s → s.length = t → ¬ llt s (List.range' lo t)
  | 0, _, s, _, hl, h => by
    obtain rfl := List.eq_nil_of_length_eq_zero hl
    exact h
  | t + 1, lo, [], _, hl, _ => by simp at hl
  | t + 1, lo, x :: s, hs, hl, h => by
    rw [List.range'_succ] at h
    rcases h with h | ⟨e, h⟩
    · have := hs.1; omega
    · subst e
      exact range_least hs.2.2 (by simpa using hl) h
/-- The next list. -/
def nx (v : Nat) : List Nat → Option (List Nat)
  | [] => none
  | x :: s => match nx v s with
    | some s' => some (x :: s')
    | none => if x + 1 + s.length < v then some (List.range' (x + 1) (s.length + 1)) else none
theorem nx_none {v : Nat} : ∀ {lo lo' : Nat} {s s' : List Nat}, Rs v lo s → nx v s = none → Rs v lo' s' → s.length = s'.length → ¬ llt s s'
  | _, _, [], [], _, _, _, _, h => h
  | _, _, [], _ :: _, _, _, _, hl, _ => by simp at hl
  | _, _, _ :: _, [], _, _, _, hl, _ => by simp at hl
  | lo, lo', x :: s, y :: t, hs, hn, ht, hl, h => by
    have hl' : s.length = t.length := by simpa using hl
    rw [nx] at hn
    split at hn
    · cases hn
    · rename_i e
      split at hn
      · cases hn
      · rename_i hx
        rcases h with h | ⟨_, h⟩
        · have := ht.room; omega
        · exact nx_none hs.2.2 e ht.2.2 hl' h
theorem nx_some {v : Nat} : ∀ {lo : Nat} {s s2 : List Nat}, Rs v lo s → nx v s = some s2 → Rs v lo s2 ∧ s2.length = s.length ∧ llt s s2 ∧ ∀ s', Rs v lo s' → s'.length = s.length → llt s s' → s2 = s' ∨ llt s2 s'
  | _, [], _, _, h => by cases h
  | lo, x :: s, s2, hs, hn => by
    rw [nx] at hn
    split at hn
    · rename_i r2 e
      obtain ⟨h1, h2, h3, h4⟩ := nx_some hs.2.2 e
      cases hn
      refine ⟨⟨hs.1, hs.2.1, h1⟩, by simp [h2], .inr ⟨rfl, h3⟩, fun s' hs' hl h => ?_⟩
      cases s' with
      | nil => simp at hl
      | cons y t =>
        rcases h with h | ⟨e, h⟩
        · exact .inr (.inl h)
        · subst e
          rcases h4 t hs'.2.2 (by simpa using hl) h with h | h
          · exact .inl (by rw [h])
          · exact .inr (.inr ⟨rfl, h⟩)
    · rename_i e
      split at hn
      · rename_i hx
        cases hn
        refine ⟨(rs_range (by omega)).weak (by have := hs.1; omega), by simp, ?_, fun s' hs' hl h => ?_⟩
        · rw [List.range'_succ]; exact .inl (by omega)
        · cases s' with
          | nil => simp at hl
          | cons y t =>
            have hl' : t.length = s.length := by simpa using hl
            rw [List.range'_succ]
            rcases h with h | ⟨e', h⟩
            · by_cases hy : y = x + 1
              · subst hy
                rcases llt_tri (s := List.range' (x + 1 + 1) s.length) (t := t) (by simp [hl']) with h5 | h5 | h5
                · exact .inr (.inr ⟨rfl, h5⟩)
                · exact .inl (by rw [h5])
                · exact (range_least hs'.2.2 hl' h5).elim
              · exact .inr (.inl (by omega))
            · exact (nx_none hs.2.2 e hs'.2.2 hl'.symm h).elim
      · cases hn
end Go.Proofs.YtcjkcgfohmhbcabDoor
