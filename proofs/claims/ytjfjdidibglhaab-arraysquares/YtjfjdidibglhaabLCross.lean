/- Transversals counted row by row: as many as there are among all orders; nothing of the program. -/
import Derived.Test.YtjfjdidibglhaabLTurn
namespace Go.Proofs.Ytjfjdidibglhaab

/-- Chosen so far, one cell in each row: columns unlike, numbers unlike. -/
structure Ch (n : Nat) (s : Nat → Nat → Nat) (a : List Nat) : Prop where
  lt : ∀ i, i < a.length → a.getD i 0 < n
  nd : ∀ i j, i < a.length → j < a.length → a.getD i 0 = a.getD j 0 → i = j
  un : ∀ i j, i < a.length → j < a.length → s i (a.getD i 0) = s j (a.getD j 0) → i = j
def okC (s : Nat → Nat → Nat) (a : List Nat) (c : Nat) : Bool := (List.range a.length).all fun i => a.getD i 0 != c && s i (a.getD i 0) != s a.length c
theorem okC_iff {s : Nat → Nat → Nat} {a : List Nat} {c : Nat} : okC s a c = true ↔ ∀ i, i < a.length → a.getD i 0 ≠ c ∧ s i (a.getD i 0) ≠ s a.length c := by
  unfold okC
  rw [List.all_eq_true]
  constructor
  · intro h i hi
    have := h i (List.mem_range.2 hi)
    simpa only [Bool.and_eq_true, bne_iff_ne] using this
  · intro h i hi
    simpa only [Bool.and_eq_true, bne_iff_ne] using h i (List.mem_range.1 hi)
def cr (n : Nat) (s : Nat → Nat → Nat) : Nat → List Nat → Nat
  | 0, _ => 1
  | m + 1, a => Sm n fun c => if okC s a c then cr n s m (a ++ [c]) else 0
theorem Ch.nil (n : Nat) (s : Nat → Nat → Nat) : Ch n s [] := ⟨fun i h => by simp at h, fun i j h => by simp at h, fun i j h => by simp at h⟩
theorem snoc_lt {a : List Nat} {c i : Nat} (h : i < a.length) : (a ++ [c]).getD i 0 = a.getD i 0 := by
  simp [List.getD_eq_getElem?_getD, List.getElem?_append_left h]
theorem snoc_at {a : List Nat} {c : Nat} : (a ++ [c]).getD a.length 0 = c := by
  simp [List.getD_eq_getElem?_getD]
theorem Ch.snoc {n : Nat} {s : Nat → Nat → Nat} {a : List Nat} {c : Nat} (h : Ch n s a) (hc : c < n) (ho : okC s a c = true) : Ch n s (a ++ [c]) := by
  have ho := okC_iff.1 ho
  have hl : (a ++ [c]).length = a.length + 1 := by simp
  refine ⟨fun i hi => ?_, fun i j hi hj e => ?_, fun i j hi hj e => ?_⟩
  · rw [hl] at hi
    by_cases h1 : i < a.length
    · rw [snoc_lt h1]; exact h.lt i h1
    · have : i = a.length := by omega
      subst this
      rw [snoc_at]; exact hc
  · rw [hl] at hi hj
    by_cases h1 : i < a.length
    · by_cases h2 : j < a.length
      · rw [snoc_lt h1, snoc_lt h2] at e; exact h.nd i j h1 h2 e
      · have : j = a.length := by omega
        subst this
        rw [snoc_lt h1, snoc_at] at e
        exact absurd e (ho i h1).1
    · have : i = a.length := by omega
      subst this
      by_cases h2 : j < a.length
      · rw [snoc_lt h2, snoc_at] at e
        exact absurd e.symm (ho j h2).1
      · omega
  · rw [hl] at hi hj
    by_cases h1 : i < a.length
    · by_cases h2 : j < a.length
      · rw [snoc_lt h1, snoc_lt h2] at e; exact h.un i j h1 h2 e
      · have : j = a.length := by omega
        subst this
        rw [snoc_lt h1, snoc_at] at e
        exact absurd e (ho i h1).2
    · have : i = a.length := by omega
      subst this
      by_cases h2 : j < a.length
      · rw [snoc_lt h2, snoc_at] at e
        exact absurd e.symm (ho j h2).2
      · omega
theorem sm_if {n x : Nat} (h : x < n) : Sm n (fun c => if x == c then 1 else 0) = 1 := by
  induction n with
  | zero => omega
  | succ n ih =>
    rw [Sm_succ]
    by_cases e : x = n
    · subst e
      rw [Sm_congr (g := fun _ => 0) (fun i hi => by
        have : (x == i) = false := by simp; omega
        rw [this]; rfl), Sm_zero]
      simp
    · rw [ih (by omega)]
      have : (x == n) = false := by simp; omega
      rw [this]; rfl
theorem countP_key {α : Type} {n : Nat} {g : α → Nat} {p : α → Bool} : ∀ {l : List α}, (∀ x ∈ l, g x < n) → l.countP p = Sm n fun c => l.countP fun x => p x && g x == c
  | [], _ => by simp [Sm_zero]
  | y :: l, h => by
    have ih := countP_key (p := p) (fun x hx => h x (List.mem_cons_of_mem _ hx))
    rw [List.countP_cons, ih]
    have : (fun c => List.countP (fun x => p x && g x == c) (y :: l)) = fun c => (List.countP (fun x => p x && g x == c) l) + (if (p y && g y == c) = true then 1 else 0) := by
      funext c; rw [List.countP_cons]
    rw [this, Sm_add]
    congr 1
    cases hp : p y with
    | false => simp [Sm_zero]
    | true =>
      have := sm_if (h y List.mem_cons_self)
      simpa using this.symm
theorem take_snoc {p : List Nat} {r : Nat} (h : r < p.length) : p.take (r + 1) = p.take r ++ [p.getD r 0] := by
  rw [List.take_add_one]
  simp [h]
theorem cr_eq {n : Nat} {s : Nat → Nat → Nat} : ∀ {m : Nat} {a : List Nat}, Ch n s a → a.length + m = n → cr n s m a = (els n (Tr n s)).countP fun p => p.take a.length == a
  | 0, a, h, hm => by
    have hP : IsP n a := ⟨by omega, fun x hx => by
      obtain ⟨i, hi, e⟩ := List.getElem_of_mem hx
      have := h.lt i hi
      simpa [List.getD_eq_getElem?_getD, hi, e] using this, by
      rw [List.nodup_iff_pairwise_ne, List.pairwise_iff_getElem]
      intro i j hi hj hij e
      have := h.nd i j hi hj (by simp [List.getD_eq_getElem?_getD, hi, hj, e])
      omega⟩
    have hT : Tr n s a := fun i j hi hj e => h.un i j (by omega) (by omega) e
    have h1 : (els n (Tr n s)).countP (fun p => p.take a.length == a) = (els n (Tr n s)).count a := by
      rw [List.count_eq_countP]
      refine List.countP_congr fun p hp => ?_
      have hl : p.length = a.length := by rw [(mem_els.1 hp).1.len]; omega
      rw [← hl, List.take_length]
    rw [h1, (els_nodup n _).count, if_pos (mem_els.2 ⟨hP, hT⟩)]
    rfl
  | m + 1, a, h, hm => by
    show (Sm n fun c => if okC s a c then cr n s m (a ++ [c]) else 0) = _
    rw [countP_key (n := n) (g := fun p => p.getD a.length 0) (fun p hp => (mem_els.1 hp).1.at (by omega))]
    refine Sm_congr fun c hc => ?_
    have e1 : ∀ p ∈ els n (Tr n s), ((p.take a.length == a && p.getD a.length 0 == c) = true ↔ (p.take (a ++ [c]).length == a ++ [c]) = true) := fun p hp => by
      have hl := (mem_els.1 hp).1.len
      rw [List.length_append, List.length_singleton, take_snoc (by omega)]
      simp only [Bool.and_eq_true, beq_iff_eq]
      constructor
      · rintro ⟨h1, h2⟩; rw [h1, h2]
      · intro e
        have := List.append_inj' e rfl
        exact ⟨this.1, by simpa using this.2⟩
    rw [List.countP_congr e1]
    cases ho : okC s a c with
    | true =>
      rw [if_pos rfl]
      exact cr_eq (h.snoc hc ho) (by simp; omega)
    | false =>
      rw [if_neg (by simp)]
      symm
      rw [List.countP_eq_zero]
      intro p hp hq
      have hP := (mem_els.1 hp).1
      have hT := (mem_els.1 hp).2
      have hq := (beq_iff_eq).1 hq
      have hat : ∀ i, i < a.length + 1 → p.getD i 0 = (a ++ [c]).getD i 0 := fun i hi => by
        rw [← hq]
        simp only [List.length_append, List.length_singleton, List.getD_eq_getElem?_getD]
        rw [List.getElem?_take_of_lt hi]
      have hno : okC s a c = true := by
        rw [okC_iff]
        intro i hi
        have a1 := hat i (by omega)
        have a2 := hat a.length (by omega)
        rw [snoc_lt hi] at a1
        rw [snoc_at] at a2
        constructor
        · intro e
          have := hP.pm.inj i a.length (by omega) (by omega) (by show p.getD i 0 = p.getD a.length 0; rw [a1, a2, e])
          omega
        · intro e
          have := hT i a.length (by omega) (by omega) (by rw [a1, a2, e])
          omega
      rw [ho] at hno
      cases hno
theorem cr_tr (n : Nat) (s : Nat → Nat → Nat) : cr n s n [] = trN n s := by
  rw [cr_eq (Ch.nil n s) (by simp)]
  unfold trN
  rw [List.countP_eq_length.2]
  intro p _
  simp
theorem cr_congr {n : Nat} {s s' : Nat → Nat → Nat} (h : ∀ i j, i < n → j < n → s i j = s' i j) : trN n s = trN n s' := by
  unfold trN
  refine Nat.le_antisymm (els_le id (fun a ha ht => ⟨ha, fun i j hi hj e => ht i j hi hj ?_⟩) (fun a b _ _ _ _ e => e)) (els_le id (fun a ha ht => ⟨ha, fun i j hi hj e => ht i j hi hj ?_⟩) (fun a b _ _ _ _ e => e))
  · rw [h i _ hi (ha.at hi), h j _ hj (ha.at hj)]; exact e
  · rw [← h i _ hi (ha.at hi), ← h j _ hj (ha.at hj)]; exact e
theorem euler {n : Nat} (h0 : 0 < n) : 0 < trN n (fun i j => (i + j) % n) ↔ n % 2 = 1 := by
  unfold trN
  rw [List.length_pos_iff_exists_mem]
  constructor
  · rintro ⟨a, ha⟩
    obtain ⟨hP, hT⟩ := mem_els.1 ha
    rcases Nat.mod_two_eq_zero_or_one n with e | e
    · exact (euler_even e h0 hP.pm.lt hP.pm.inj hT).elim
    · exact e
  · intro h2
    refine ⟨List.range n, mem_els.2 ⟨⟨by simp, fun x hx => List.mem_range.1 hx, List.nodup_range⟩, fun i j hi hj e => ?_⟩⟩
    have g : ∀ i, i < n → (List.range n).getD i 0 = i := fun i hi => by simp [hi]
    rw [g i hi, g j hj] at e
    exact euler_odd h2 i j hi hj e
theorem three_fact : trN 3 (fun i j => (i + j) % 3) = 3 := by
  rw [← cr_tr]
  decide
end Go.Proofs.Ytjfjdidibglhaab
