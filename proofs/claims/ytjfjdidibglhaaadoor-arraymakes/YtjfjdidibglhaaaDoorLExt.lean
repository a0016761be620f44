/- The first square of some rows, cell by cell, is had row by row; nothing of the program. -/
import Derived.Test.YtjfjdidibglhaaaDoorLHall
/- Cells of a Latin square, row by row: filled on by the least numbers; a rectangle goes on; nothing of the program. -/
namespace Go.Proofs.YtjfjdidibglhaaaDoor

/-- What comes first, of lists of one length. -/
def lexL : List Nat → List Nat → Prop
  | a :: l, b :: m => a < b ∨ (a = b ∧ lexL l m)
  | _, _ => False
theorem lexL_one : ∀ {l m : List Nat}, l.length = m.length → ¬ lexL l m → ¬ lexL m l → l = m
  | [], [], _, _, _ => rfl
  | a :: l, b :: m, h, h1, h2 => by
    simp only [lexL] at h1 h2
    have e : a = b := by
      rcases Nat.lt_trichotomy a b with e | e | e
      · exact absurd (.inl e) h1
      · exact e
      · exact absurd (.inl e) h2
    subst e
    rw [lexL_one (by simpa using h) (fun e => h1 (.inr ⟨rfl, e⟩)) (fun e => h2 (.inr ⟨rfl, e⟩))]

/-- May x stand behind these cells? -/
def fitB (n : Nat) (l : List Nat) (x : Nat) : Bool := (List.range l.length).all fun k => l.getD k 0 != x || (k / n != l.length / n && k % n != l.length % n)
theorem fitB_iff {n : Nat} {l : List Nat} {x : Nat} : fitB n l x = true ↔ ∀ k, k < l.length → l.getD k 0 = x → k / n ≠ l.length / n ∧ k % n ≠ l.length % n := by
  unfold fitB
  rw [List.all_eq_true]
  constructor
  · intro h k hk e
    have := h k (List.mem_range.2 hk)
    simp only [Bool.or_eq_true, bne_iff_ne, Bool.and_eq_true] at this
    exact this.resolve_left fun h' => h' e
  · intro h k hk
    simp only [Bool.or_eq_true, bne_iff_ne, Bool.and_eq_true]
    by_cases e : l.getD k 0 = x
    · exact .inr (h k (List.mem_range.1 hk) e)
    · exact .inl e
/-- No number stands twice in a row or column of what there is. -/
structure Part (n : Nat) (l : List Nat) : Prop where
  lt : ∀ x ∈ l, x < n
  once : ∀ i k, k < i → i < l.length → l.getD k 0 = l.getD i 0 → k / n ≠ i / n ∧ k % n ≠ i % n
theorem Part.nil (n : Nat) : Part n [] := ⟨fun x h => by simp at h, fun i k _ h => by simp at h⟩
theorem getD_left {l m : List Nat} {i : Nat} (h : i < l.length) : (l ++ m).getD i 0 = l.getD i 0 := by
  simp [List.getD_eq_getElem?_getD, List.getElem?_append_left h]
theorem getD_right {l m : List Nat} {i : Nat} (h : l.length ≤ i) : (l ++ m).getD i 0 = m.getD (i - l.length) 0 := by
  simp [List.getD_eq_getElem?_getD, List.getElem?_append_right h]
theorem Part.left {n : Nat} {l m : List Nat} (h : Part n (l ++ m)) : Part n l :=
  ⟨fun x hx => h.lt x (by simp [hx]), fun i k hk hi e => h.once i k hk (by rw [List.length_append]; omega) (by rw [getD_left (by omega), getD_left hi]; exact e)⟩
theorem Part.snoc {n : Nat} {l : List Nat} {x : Nat} (h : Part n l) (hx : x < n) (hf : fitB n l x = true) : Part n (l ++ [x]) := by
  refine ⟨fun y hy => ?_, fun i k hk hi e => ?_⟩
  · rcases List.mem_append.1 hy with e | e
    · exact h.lt y e
    · rw [List.mem_singleton.1 e]; exact hx
  · rw [List.length_append, List.length_singleton] at hi
    by_cases hil : i < l.length
    · rw [getD_left (by omega), getD_left hil] at e
      exact h.once i k hk hil e
    · have ei : i = l.length := by omega
      subst ei
      rw [getD_left hk, getD_right (Nat.le_refl _), Nat.sub_self] at e
      exact fitB_iff.1 hf k hk e
theorem Part.fit {n : Nat} {l m : List Nat} {x : Nat} (h : Part n (l ++ x :: m)) : x < n ∧ fitB n l x = true := by
  refine ⟨h.lt x (by simp), fitB_iff.2 fun k hk e => ?_⟩
  refine h.once l.length k hk (by simp) ?_
  rw [getD_left hk, getD_right (Nat.le_refl _), Nat.sub_self]
  exact e
theorem part_snoc {n : Nat} {l : List Nat} {x : Nat} (h : Part n l) : Part n (l ++ [x]) ↔ x < n ∧ fitB n l x = true := ⟨fun h => h.fit, fun ⟨h1, h2⟩ => h.snoc h1 h2⟩

theorem fs_range {α : Type} (f : Nat → Option α) (n : Nat) : (List.range (n + 1)).findSome? f = ((List.range n).findSome? f).or (f n) := by
  rw [List.range_succ, List.findSome?_append]
  simp [List.findSome?]
  cases f n <;> rfl
theorem fs_none {α : Type} {f : Nat → Option α} : ∀ {n : Nat}, (List.range n).findSome? f = none → ∀ x, x < n → f x = none
  | 0, _, x, hx => by omega
  | n + 1, h, x, hx => by
    rw [fs_range, Option.or_eq_none_iff] at h
    by_cases e : x = n
    · rw [e]; exact h.2
    · exact fs_none h.1 x (by omega)
theorem fs_some {α : Type} {f : Nat → Option α} {c : α} : ∀ {n : Nat}, (List.range n).findSome? f = some c → ∃ x, x < n ∧ f x = some c ∧ ∀ y, y < x → f y = none
  | 0, h => by simp at h
  | n + 1, h => by
    rw [fs_range] at h
    cases e : (List.range n).findSome? f with
    | some c' =>
      rw [e] at h
      have hc : c' = c := by simpa using h
      subst hc
      obtain ⟨x, hx, h1, h2⟩ := fs_some e
      exact ⟨x, by omega, h1, h2⟩
    | none =>
      rw [e] at h
      exact ⟨n, by omega, by simpa using h, fs_none e⟩
theorem fs_all {α : Type} {f : Nat → Option α} : ∀ {n : Nat}, (∀ x, x < n → f x = none) → (List.range n).findSome? f = none
  | 0, _ => rfl
  | n + 1, h => by rw [fs_range, fs_all fun x hx => h x (by omega), h n (by omega)]; rfl
theorem fs_at {α : Type} {f : Nat → Option α} {c : α} {x : Nat} : ∀ {n : Nat}, x < n → f x = some c → (∀ y, y < x → f y = none) → (List.range n).findSome? f = some c
  | 0, h, _, _ => by omega
  | n + 1, h, h1, h2 => by
    rw [fs_range]
    by_cases e : x = n
    · subst e; rw [fs_all h2, h1]; rfl
    · rw [fs_at (by omega) h1 h2]; rfl

/-- Filled on, so many cells: the least number first, back where none fits. -/
def fillC (n : Nat) : Nat → List Nat → Option (List Nat)
  | 0, l => some l
  | m + 1, l => (List.range n).findSome? fun x => if fitB n l x then fillC n m (l ++ [x]) else none
theorem fill_none {n : Nat} : ∀ {m : Nat} {l : List Nat}, Part n l → fillC n m l = none → ∀ t : List Nat, t.length = m → ¬ Part n (l ++ t)
  | 0, _, _, h, _, _ => by simp [fillC] at h
  | m + 1, l, hl, h, t, ht => fun hp => by
    cases t with
    | nil => simp at ht
    | cons x t =>
      obtain ⟨hx, hf⟩ := hp.fit
      have h1 := fs_none h x hx
      rw [if_pos hf] at h1
      refine fill_none (hl.snoc hx hf) h1 t (by simpa using ht) ?_
      rw [List.append_assoc]
      exact hp
theorem fill_some {n : Nat} : ∀ {m : Nat} {l c : List Nat}, Part n l → fillC n m l = some c → ∃ t : List Nat, c = l ++ t ∧ t.length = m ∧ Part n c ∧ ∀ t' : List Nat, t'.length = m → Part n (l ++ t') → ¬ lexL t' t
  | 0, l, c, hl, h => by
    have e : l = c := by simpa [fillC] using h
    subst e
    exact ⟨[], by simp, rfl, hl, fun t' ht _ => by rw [List.length_eq_zero_iff.1 ht]; simp [lexL]⟩
  | m + 1, l, c, hl, h => by
    obtain ⟨x, hx, h1, h2⟩ := fs_some h
    by_cases hf : fitB n l x = true
    · rw [if_pos hf] at h1
      obtain ⟨t, rfl, ht, hp, hm⟩ := fill_some (hl.snoc hx hf) h1
      refine ⟨x :: t, by simp, by simp [ht], hp, fun t' ht' hp' => ?_⟩
      cases t' with
      | nil => simp [lexL]
      | cons y t' =>
        obtain ⟨hy, hfy⟩ := hp'.fit
        have e : l ++ y :: t' = l ++ [y] ++ t' := by simp
        rw [e] at hp'
        simp only [lexL]
        rintro (h3 | ⟨h3, h4⟩)
        · have h5 := h2 y h3
          rw [if_pos hfy] at h5
          exact fill_none (hl.snoc hy hfy) h5 t' (by simpa using ht') hp'
        · subst h3
          exact hm t' (by simpa using ht') hp' h4
    · rw [if_neg hf] at h1; cases h1

theorem divmod {n i j : Nat} (hj : j < n) : (i * n + j) / n = i ∧ (i * n + j) % n = j := by
  have h0 : 0 < n := by omega
  constructor
  · rw [Nat.mul_comm, Nat.mul_add_div h0, Nat.div_eq_of_lt hj, Nat.add_zero]
  · rw [Nat.mul_comm, Nat.mul_add_mod, Nat.mod_eq_of_lt hj]
/-- M. HALL: whole rows go on to a square. -/
theorem part_goes {n : Nat} : ∀ (m r : Nat) (l : List Nat), r + m = n → l.length = r * n → Part n l → ∃ t : List Nat, t.length = m * n ∧ Part n (l ++ t)
  | 0, r, l, _, _, h => ⟨[], by simp, by simpa using h⟩
  | m + 1, r, l, hr, hl, h => by
    have h0 : 0 < n := by omega
    obtain ⟨R, HR⟩ : ∃ R : Nat → Nat → Nat, R = fun i j => l.getD (i * n + j) 0 := ⟨_, rfl⟩
    have hin : ∀ i j, i < r → j < n → i * n + j < l.length := fun i j hi hj => by
      rw [hl]
      have : (i + 1) * n ≤ r * n := Nat.mul_le_mul_right n hi
      rw [Nat.add_mul] at this
      omega
    have hgt : ∀ k, k < l.length → l.getD k 0 < n := fun k hk => h.lt _ (by simp [List.getD_eq_getElem?_getD, hk])
    have honce : ∀ p q, p < l.length → q < l.length → l.getD p 0 = l.getD q 0 → p / n = q / n ∨ p % n = q % n → p = q := fun p q hp hq e hh => by
      rcases Nat.lt_trichotomy p q with h1 | h1 | h1
      · have := h.once q p h1 hq e
        rcases hh with hh | hh
        · exact absurd hh this.1
        · exact absurd hh this.2
      · exact h1
      · have := h.once p q h1 hp e.symm
        rcases hh with hh | hh
        · exact absurd hh.symm this.1
        · exact absurd hh.symm this.2
    obtain ⟨f, f1, f2, f3⟩ := next_row (n := n) (r := r) (by omega) (R := R) (fun i j hi hj => by rw [HR]; exact hgt _ (hin i j hi hj)) (fun i hi j k hj hk e => by
      rw [HR] at e
      have := honce _ _ (hin i j hi hj) (hin i k hi hk) e (.inl (by rw [(divmod hj).1, (divmod hk).1]))
      omega) (fun j hj i k hi hk e => by
      rw [HR] at e
      have := honce _ _ (hin i j hi hj) (hin k j hk hj) e (.inr (by rw [(divmod hj).2, (divmod hj).2]))
      have h1 := (divmod (n := n) (i := i) hj).1
      rw [this, (divmod hj).1] at h1
      exact h1.symm)
    have hfat : ∀ j, j < n → ((List.range n).map f).getD j 0 = f j := fun j hj => by simp [hj]
    have hp : Part n (l ++ (List.range n).map f) := by
      refine ⟨fun x hx => ?_, fun i k hk hi e => ?_⟩
      · rcases List.mem_append.1 hx with h1 | h1
        · exact h.lt x h1
        · obtain ⟨j, hj, rfl⟩ := List.mem_map.1 h1
          exact f1 j (List.mem_range.1 hj)
      · rw [List.length_append, List.length_map, List.length_range] at hi
        by_cases hil : i < l.length
        · rw [getD_left (by omega), getD_left hil] at e
          exact h.once i k hk hil e
        · rw [getD_right (l := l) (i := i) (by omega), hfat (i - l.length) (by omega)] at e
          have hi' : i = r * n + (i - l.length) := by omega
          have di := divmod (n := n) (i := r) (j := i - l.length) (by omega)
          rw [← hi'] at di
          by_cases hkl : k < l.length
          · rw [getD_left hkl] at e
            have hkr : k / n < r := (Nat.div_lt_iff_lt_mul h0).2 (by rw [← hl]; exact hkl)
            refine ⟨by rw [di.1]; omega, fun hm => ?_⟩
            rw [di.2] at hm
            refine f3 (i - l.length) (by omega) (k / n) hkr ?_
            rw [HR, ← e, ← hm]
            show l.getD (k / n * n + k % n) 0 = _
            rw [Nat.mul_comm, Nat.div_add_mod]
          · rw [getD_right (l := l) (i := k) (by omega), hfat (k - l.length) (by omega)] at e
            have := f2 _ _ (by omega) (by omega) e
            omega
    obtain ⟨t, ht, h2⟩ := part_goes m (r + 1) (l ++ (List.range n).map f) (by omega) (by rw [List.length_append, List.length_map, List.length_range, hl, Nat.add_mul]; omega) hp
    exact ⟨(List.range n).map f ++ t, by rw [List.length_append, List.length_map, List.length_range, ht, Nat.add_mul]; omega, by rw [← List.append_assoc]; exact h2⟩
theorem fill_rows {n r : Nat} {l : List Nat} (hr : r ≤ n) (hl : l.length = r * n) (h : Part n l) : ∃ c, fillC n ((n - r) * n) l = some c := by
  obtain ⟨t, ht, hp⟩ := part_goes (n - r) r l (by omega) hl h
  cases e : fillC n ((n - r) * n) l with
  | some c => exact ⟨c, rfl⟩
  | none => exact absurd hp (fill_none h e t ht)

end Go.Proofs.YtjfjdidibglhaaaDoor

namespace Go.Proofs.YtjfjdidibglhaaaDoor

theorem fill_more {n : Nat} : ∀ {m m' : Nat} {l : List Nat}, fillC n m l = none → fillC n (m + m') l = none
  | 0, _, _, h => by simp [fillC] at h
  | m + 1, m', l, h => by
    rw [show m + 1 + m' = (m + m') + 1 from by omega]
    refine fs_all fun x hx => ?_
    have h1 := fs_none h x hx
    cases hf : fitB n l x with
    | false => rfl
    | true =>
      rw [hf] at h1
      exact fill_more h1
theorem fill_comp {n : Nat} : ∀ {m m' : Nat} {l c d : List Nat}, fillC n m l = some c → fillC n m' c = some d → fillC n (m + m') l = some d
  | 0, m', l, c, d, h, h' => by
    simp only [fillC, Option.some.injEq] at h
    subst h
    rw [Nat.zero_add]; exact h'
  | m + 1, m', l, c, d, h, h' => by
    rw [show m + 1 + m' = (m + m') + 1 from by omega]
    obtain ⟨x, hx, h1, h2⟩ := fs_some h
    refine fs_at hx ?_ fun y hy => ?_
    · cases hf : fitB n l x with
      | false => rw [hf] at h1; cases h1
      | true =>
        rw [hf] at h1
        exact fill_comp h1 h'
    · have h3 := h2 y hy
      cases hf : fitB n l y with
      | false => rfl
      | true =>
        rw [hf] at h3
        exact fill_more h3
/-- The first row that begins so and fits. -/
def rowC (n : Nat) (ft : Nat → Nat → Bool) : Nat → List Nat → Option (List Nat)
  | 0, b => some b
  | m + 1, b => (List.range n).findSome? fun x => if b.contains x || !ft b.length x then none else rowC n ft m (b ++ [x])
def ftR (all : List (List Nat)) (c x : Nat) : Bool := !(all.any fun row => row.getD c 0 == x)
theorem flat_len {n : Nat} : ∀ {all : List (List Nat)}, (∀ r ∈ all, r.length = n) → all.flatten.length = all.length * n
  | [], _ => by simp
  | r :: all, h => by
    rw [List.flatten_cons, List.length_append, flat_len fun r hr => h r (List.mem_cons_of_mem _ hr), h r List.mem_cons_self, List.length_cons, Nat.add_mul]
    omega
theorem flat_at {n : Nat} : ∀ {all : List (List Nat)}, (∀ r ∈ all, r.length = n) → ∀ {i j : Nat}, i < all.length → j < n → all.flatten.getD (i * n + j) 0 = (all.getD i []).getD j 0
  | [], _, i, _, h, _ => by simp at h
  | r :: all, h, i, j, hi, hj => by
    have hr := h r List.mem_cons_self
    rw [List.flatten_cons]
    cases i with
    | zero =>
      rw [getD_left (by omega)]
      simp
    | succ i =>
      rw [getD_right (by rw [hr, Nat.add_mul]; omega), hr, show (i + 1) * n + j - n = i * n + j from by rw [Nat.add_mul]; omega]
      rw [flat_at (fun r hr => h r (List.mem_cons_of_mem _ hr)) (by simpa using hi) hj]
      simp
theorem fit_row {n : Nat} {all : List (List Nat)} (h : ∀ r ∈ all, r.length = n) {b : List Nat} (hb : b.length < n) (x : Nat) : fitB n (all.flatten ++ b) x = (!(b.contains x || !ftR all b.length x)) := by
  have hl := flat_len h
  have hL : (all.flatten ++ b).length = all.length * n + b.length := by rw [List.length_append, hl]
  rw [Bool.eq_iff_iff, fitB_iff]
  simp only [hL, (divmod hb).1, (divmod hb).2, ftR, Bool.not_eq_true', Bool.or_eq_false_iff, Bool.not_not]
  constructor
  · intro hf
    constructor
    · rw [Bool.eq_false_iff]
      intro hc
      have hc := List.contains_iff_mem.1 hc
      obtain ⟨i, hi, e⟩ := List.getElem_of_mem hc
      have := hf (all.length * n + i) (by omega) (by
        rw [getD_right (by omega), hl, show all.length * n + i - all.length * n = i from by omega]
        simp [List.getD_eq_getElem?_getD, hi, e])
      exact this.1 (divmod (by omega)).1
    · rw [List.any_eq_false]
      intro row hr he
      have he := beq_iff_eq.1 he
      obtain ⟨i, hi, e⟩ := List.getElem_of_mem hr
      have hk : i * n + b.length < all.length * n := by
        have : (i + 1) * n ≤ all.length * n := Nat.mul_le_mul_right n hi
        rw [Nat.add_mul] at this
        omega
      have := hf (i * n + b.length) (by omega) (by
        rw [getD_left (by omega), flat_at h hi hb]
        simp only [List.getD_eq_getElem?_getD, hi, List.getElem?_eq_getElem, Option.getD_some, e]
        simpa [List.getD_eq_getElem?_getD] using he)
      exact this.2 (divmod hb).2
  · rintro ⟨h1, h2⟩ k hk e
    by_cases hk2 : k < all.length * n
    · have hi : k / n < all.length := Nat.div_lt_of_lt_mul (by rw [Nat.mul_comm]; exact hk2)
      refine ⟨by omega, fun hm => ?_⟩
      rw [getD_left (by omega)] at e
      have hkk : k = k / n * n + b.length := by rw [← hm]; exact (Nat.div_add_mod' k n).symm
      rw [hkk, flat_at h hi hb] at e
      have h3 := List.any_eq_false.1 h2 (all.getD (k / n) []) (by simp [List.getD_eq_getElem?_getD, hi])
      exact h3 (beq_iff_eq.2 e)
    · exfalso
      rw [getD_right (by omega), hl] at e
      rw [Bool.eq_false_iff] at h1
      refine h1 (List.contains_iff_mem.2 ?_)
      rw [← e]
      have : k - all.length * n < b.length := by omega
      simp [List.getD_eq_getElem?_getD, this]
theorem rowC_fill {n : Nat} {all : List (List Nat)} (h : ∀ r ∈ all, r.length = n) : ∀ {m : Nat} {b : List Nat}, b.length + m = n → fillC n m (all.flatten ++ b) = (rowC n (ftR all) m b).map fun t => all.flatten ++ t
  | 0, b, _ => rfl
  | m + 1, b, hb => by
    show (List.range n).findSome? _ = Option.map _ ((List.range n).findSome? _)
    rw [List.map_findSome?]
    congr 1
    funext x
    rw [fit_row h (by omega)]
    simp only [Function.comp]
    cases hc : (b.contains x || !ftR all b.length x) with
    | true => rfl
    | false =>
      have := rowC_fill h (m := m) (b := b ++ [x]) (by simp; omega)
      rw [← List.append_assoc] at this
      simpa using this
def nextR (n : Nat) (all : List (List Nat)) : Option (List Nat) := rowC n (ftR all) n []
theorem rowC_len {n : Nat} {ft : Nat → Nat → Bool} : ∀ {m : Nat} {b t : List Nat}, rowC n ft m b = some t → t.length = b.length + m
  | 0, b, t, h => by
    simp only [rowC, Option.some.injEq] at h
    subst h; rfl
  | m + 1, b, t, h => by
    obtain ⟨x, _, h1, _⟩ := fs_some h
    cases hc : (b.contains x || !ft b.length x) with
    | true => rw [hc] at h1; cases h1
    | false =>
      rw [hc] at h1
      have := rowC_len h1
      simp at this
      omega
theorem next_some {n : Nat} {all : List (List Nat)} (h : ∀ r ∈ all, r.length = n) (hP : Part n all.flatten) (ha : all.length < n) : ∃ t, nextR n all = some t ∧ t.length = n ∧ Part n (all ++ [t]).flatten ∧ fillC n n all.flatten = some (all ++ [t]).flatten := by
  obtain ⟨c, hc⟩ := fill_rows (r := all.length) (by omega) (flat_len h) hP
  have hr := rowC_fill h (m := n) (b := []) (by simp)
  rw [List.append_nil] at hr
  cases ht : rowC n (ftR all) n [] with
  | none =>
    rw [ht] at hr
    have := fill_more (m' := (n - all.length - 1) * n) hr
    rw [show n + (n - all.length - 1) * n = (n - all.length) * n from by
      have : n - all.length = (n - all.length - 1) + 1 := by omega
      rw [this, Nat.add_mul]; simp; omega] at this
    rw [this] at hc
    cases hc
  | some t =>
    rw [ht] at hr
    simp only [Option.map_some] at hr
    have hf : all.flatten ++ t = (all ++ [t]).flatten := by simp
    obtain ⟨t', e1, e2, e3, _⟩ := fill_some hP hr
    have hl := rowC_len ht
    simp at hl
    rw [hf] at hr e3
    exact ⟨t, ht, hl, e3, hr⟩
def goOn (n : Nat) : Nat → List (List Nat) → List (List Nat)
  | 0, all => all
  | m + 1, all => goOn n m (all ++ [(nextR n all).getD []])
theorem goOn_fill {n : Nat} : ∀ {m : Nat} {all : List (List Nat)}, (∀ r ∈ all, r.length = n) → Part n all.flatten → all.length + m = n →
    fillC n (m * n) all.flatten = some (goOn n m all).flatten ∧ (goOn n m all).length = n ∧ (∀ r ∈ goOn n m all, r.length = n) ∧ Part n (goOn n m all).flatten ∧ (∃ more, goOn n m all = all ++ more)
  | 0, all, h, hP, ha => by
    rw [Nat.zero_mul]
    exact ⟨rfl, by simpa [goOn] using ha, h, hP, [], by simp [goOn]⟩
  | m + 1, all, h, hP, ha => by
    obtain ⟨t, h1, h2, h3, h4⟩ := next_some h hP (by omega)
    have h5 : ∀ r ∈ all ++ [t], r.length = n := fun r hr => by
      rcases List.mem_append.1 hr with hr | hr
      · exact h r hr
      · rw [List.mem_singleton.1 hr]; exact h2
    obtain ⟨g1, g2, g3, g4, mo, g5⟩ := goOn_fill (m := m) h5 h3 (by simp; omega)
    have e : goOn n (m + 1) all = goOn n m (all ++ [t]) := by
      show goOn n m (all ++ [(nextR n all).getD []]) = _
      rw [h1]; rfl
    rw [e, show (m + 1) * n = n + m * n from by rw [Nat.add_mul]; omega]
    exact ⟨fill_comp h4 g1, g2, g3, g4, [t] ++ mo, by rw [g5, List.append_assoc]⟩
end Go.Proofs.YtjfjdidibglhaaaDoor
