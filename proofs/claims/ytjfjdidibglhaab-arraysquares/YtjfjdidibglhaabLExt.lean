/- The first square of some rows, cell by cell, is had row by row; nothing of the program. -/
import Derived.Test.YtjfjdidibglhaabLFill
namespace Go.Proofs.Ytjfjdidibglhaab

theorem fill_more {n : Nat} : ∀ {m m' : Nat} {l : List Nat}, fillC n m l = none → fillC n (m + m') l = none
  | 0, _, _, h => by simp [fillC] at h
  | m + 1, m', l, h => by
    rw [show m + 1 + m' = (m + m') + 1 from by omega]
    refine fs_all fun x hx => ?_
    have h1 := fs_none h x hx
    cases hf : fitB n l x with
    | false => rfl
    | true =>
      rw [hf] at h1
      exact fill_more h1
theorem fill_comp {n : Nat} : ∀ {m m' : Nat} {l c d : List Nat}, fillC n m l = some c → fillC n m' c = some d → fillC n (m + m') l = some d
  | 0, m', l, c, d, h, h' => by
    simp only [fillC, Option.some.injEq] at h
    subst h
    rw [Nat.zero_add]; exact h'
  | m + 1, m', l, c, d, h, h' => by
    rw [show m + 1 + m' = (m + m') + 1 from by omega]
    obtain ⟨x, hx, h1, h2⟩ := fs_some h
    refine fs_at hx ?_ fun y hy => ?_
    · cases hf : fitB n l x with
      | false => rw [hf] at h1; cases h1
      | true =>
        rw [hf] at h1
        exact fill_comp h1 h'
    · have h3 := h2 y hy
      cases hf : fitB n l y with
      | false => rfl
      | true =>
        rw [hf] at h3
        exact fill_more h3
/-- The first row that begins so and fits. -/
def rowC (n : Nat) (ft : Nat → Nat → Bool) : Nat → List Nat → Option (List Nat)
  | 0, b => some b
  | m + 1, b => (List.range n).findSome? fun x => if b.contains x || !ft b.length x then none else rowC n ft m (b ++ [x])
def ftR (all : List (List Nat)) (c x : Nat) : Bool := !(all.any fun row => row.getD c 0 == x)
theorem flat_len {n : Nat} : ∀ {all : List (List Nat)}, (∀ r ∈ all, r.length = n) → all.flatten.length = all.length * n
  | [], _ => by simp
  | r :: all, h => by
    rw [List.flatten_cons, List.length_append, flat_len fun r hr => h r (List.mem_cons_of_mem _ hr), h r List.mem_cons_self, List.length_cons, Nat.add_mul]
    omega
theorem flat_at {n : Nat} : ∀ {all : List (List Nat)}, (∀ r ∈ all, r.length = n) → ∀ {i j : Nat}, i < all.length → j < n → all.flatten.getD (i * n + j) 0 = (all.getD i []).getD j 0
  | [], _, i, _, h, _ => by simp at h
  | r :: all, h, i, j, hi, hj => by
    have hr := h r List.mem_cons_self
    rw [List.flatten_cons]
    cases i with
    | zero =>
      rw [getD_left (by omega)]
      simp
    | succ i =>
      rw [getD_right (by rw [hr, Nat.add_mul]; omega), hr, show (i + 1) * n + j - n = i * n + j from by rw [Nat.add_mul]; omega]
      rw [flat_at (fun r hr => h r (List.mem_cons_of_mem _ hr)) (by simpa using hi) hj]
      simp
theorem fit_row {n : Nat} {all : List (List Nat)} (h : ∀ r ∈ all, r.length = n) {b : List Nat} (hb : b.length < n) (x : Nat) : fitB n (all.flatten ++ b) x = (!(b.contains x || !ftR all b.length x)) := by
  have hl := flat_len h
  have hL : (all.flatten ++ b).length = all.length * n + b.length := by rw [List.length_append, hl]
  rw [Bool.eq_iff_iff, fitB_iff]
  simp only [hL, (divmod hb).1, (divmod hb).2, ftR, Bool.not_eq_true', Bool.or_eq_false_iff, Bool.not_not]
  constructor
  · intro hf
    constructor
    · rw [Bool.eq_false_iff]
      intro hc
      have hc := List.contains_iff_mem.1 hc
      obtain ⟨i, hi, e⟩ := List.getElem_of_mem hc
      have := hf (all.length * n + i) (by omega) (by
        rw [getD_right (by omega), hl, show all.length * n + i - all.length * n = i from by omega]
        simp [List.getD_eq_getElem?_getD, hi, e])
      exact this.1 (divmod (by omega)).1
    · rw [List.any_eq_false]
      intro row hr he
      have he := beq_iff_eq.1 he
      obtain ⟨i, hi, e⟩ := List.getElem_of_mem hr
      have hk : i * n + b.length < all.length * n := by
        have : (i + 1) * n ≤ all.length * n := Nat.mul_le_mul_right n hi
        rw [Nat.add_mul] at this
        omega
      have := hf (i * n + b.length) (by omega) (by
        rw [getD_left (by omega), flat_at h hi hb]
        simp only [List.getD_eq_getElem?_getD, hi, List.getElem?_eq_getElem, Option.getD_some, e]
        simpa [List.getD_eq_getElem?_getD] using he)
      exact this.2 (divmod hb).2
  · rintro ⟨h1, h2⟩ k hk e
    by_cases hk2 : k < all.length * n
    · have hi : k / n < all.length := Nat.div_lt_of_lt_mul (by rw [Nat.mul_comm]; exact hk2)
      refine ⟨by omega, fun hm => ?_⟩
      rw [getD_left (by omega)] at e
      have hkk : k = k / n * n + b.length := by rw [← hm]; exact (Nat.div_add_mod' k n).symm
      rw [hkk, flat_at h hi hb] at e
      have h3 := List.any_eq_false.1 h2 (all.getD (k / n) []) (by simp [List.getD_eq_getElem?_getD, hi])
      exact h3 (beq_iff_eq.2 e)
    · exfalso
      rw [getD_right (by omega), hl] at e
      rw [Bool.eq_false_iff] at h1
      refine h1 (List.contains_iff_mem.2 ?_)
      rw [← e]
      have : k - all.length * n < b.length := by omega
      simp [List.getD_eq_getElem?_getD, this]
theorem rowC_fill {n : Nat} {all : List (List Nat)} (h : ∀ r ∈ all, r.length = n) : ∀ {m : Nat} {b : List Nat}, b.length + m = n → fillC n m (all.flatten ++ b) = (rowC n (ftR all) m b).map fun t => all.flatten ++ t
  | 0, b, _ => rfl
  | m + 1, b, hb => by
    show (List.range n).findSome? _ = Option.map _ ((List.range n).findSome? _)
    rw [List.map_findSome?]
    congr 1
    funext x
    rw [fit_row h (by omega)]
    simp only [Function.comp]
    cases hc : (b.contains x || !ftR all b.length x) with
    | true => rfl
    | false =>
      have := rowC_fill h (m := m) (b := b ++ [x]) (by simp; omega)
      rw [← List.append_assoc] at this
      simpa using this
def nextR (n : Nat) (all : List (List Nat)) : Option (List Nat) := rowC n (ftR all) n []
theorem rowC_len {n : Nat} {ft : Nat → Nat → Bool} : ∀ {m : Nat} {b t : List Nat}, rowC n ft m b = some t → t.length = b.length + m
  | 0, b, t, h => by
    simp only [rowC, Option.some.injEq] at h
    subst h; rfl
  | m + 1, b, t, h => by
    obtain ⟨x, _, h1, _⟩ := fs_some h
    cases hc : (b.contains x || !ft b.length x) with
    | true => rw [hc] at h1; cases h1
    | false =>
      rw [hc] at h1
      have := rowC_len h1
      simp at this
      omega
theorem next_some {n : Nat} {all : List (List Nat)} (h : ∀ r ∈ all, r.length = n) (hP : Part n all.flatten) (ha : all.length < n) : ∃ t, nextR n all = some t ∧ t.length = n ∧ Part n (all ++ [t]).flatten ∧ fillC n n all.flatten = some (all ++ [t]).flatten := by
  obtain ⟨c, hc⟩ := fill_rows (r := all.length) (by omega) (flat_len h) hP
  have hr := rowC_fill h (m := n) (b := []) (by simp)
  rw [List.append_nil] at hr
  cases ht : rowC n (ftR all) n [] with
  | none =>
    rw [ht] at hr
    have := fill_more (m' := (n - all.length - 1) * n) hr
    rw [show n + (n - all.length - 1) * n = (n - all.length) * n from by
      have : n - all.length = (n - all.length - 1) + 1 := by omega
      rw [this, Nat.add_mul]; simp; omega] at this
    rw [this] at hc
    cases hc
  | some t =>
    rw [ht] at hr
    simp only [Option.map_some] at hr
    have hf : all.flatten ++ t = (all ++ [t]).flatten := by simp
    obtain ⟨t', e1, e2, e3, _⟩ := fill_some hP hr
    have hl := rowC_len ht
    simp at hl
    rw [hf] at hr e3
    exact ⟨t, ht, hl, e3, hr⟩
def goOn (n : Nat) : Nat → List (List Nat) → List (List Nat)
  | 0, all => all
  | m + 1, all => goOn n m (all ++ [(nextR n all).getD []])
theorem goOn_fill {n : Nat} : ∀ {m : Nat} {all : List (List Nat)}, (∀ r ∈ all, r.length = n) → Part n all.flatten → all.length + m = n →
    fillC n (m * n) all.flatten = some (goOn n m all).flatten ∧ (goOn n m all).length = n ∧ (∀ r ∈ goOn n m all, r.length = n) ∧ Part n (goOn n m all).flatten ∧ (∃ more, goOn n m all = all ++ more)
  | 0, all, h, hP, ha => by
    rw [Nat.zero_mul]
    exact ⟨rfl, by simpa [goOn] using ha, h, hP, [], by simp [goOn]⟩
  | m + 1, all, h, hP, ha => by
    obtain ⟨t, h1, h2, h3, h4⟩ := next_some h hP (by omega)
    have h5 : ∀ r ∈ all ++ [t], r.length = n := fun r hr => by
      rcases List.mem_append.1 hr with hr | hr
      · exact h r hr
      · rw [List.mem_singleton.1 hr]; exact h2
    obtain ⟨g1, g2, g3, g4, mo, g5⟩ := goOn_fill (m := m) h5 h3 (by simp; omega)
    have e : goOn n (m + 1) all = goOn n m (all ++ [t]) := by
      show goOn n m (all ++ [(nextR n all).getD []]) = _
      rw [h1]; rfl
    rw [e, show (m + 1) * n = n + m * n from by rw [Nat.add_mul]; omega]
    exact ⟨fill_comp h4 g1, g2, g3, g4, [t] ++ mo, by rw [g5, List.append_assoc]⟩
end Go.Proofs.Ytjfjdidibglhaab
