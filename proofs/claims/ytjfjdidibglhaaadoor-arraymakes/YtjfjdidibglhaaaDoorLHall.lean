/- Hall's choice: rows of a Latin rectangle go on; nothing of the program. -/
namespace Go.Proofs.YtjfjdidibglhaaaDoor

theorem lhall_sub {α : Type} [DecidableEq α] : ∀ {A B : List α}, A.Nodup → (∀ x ∈ A, x ∈ B) → A.length ≤ B.length
  | [], _, _, _ => Nat.zero_le _
  | a :: A, B, nd, h => by
    obtain ⟨n1, n2⟩ := List.nodup_cons.1 nd
    have h1 := lhall_sub (B := B.erase a) n2 fun x hx => (List.mem_erase_of_ne fun e => n1 (by rw [← e]; exact hx)).2 (h x (by simp [hx]))
    have h2 := List.length_erase_of_mem (h a (by simp))
    have h3 := List.length_pos_of_mem (h a (by simp))
    rw [List.length_cons]
    omega
theorem countP_le_add {α : Type} {p q r : α → Bool} (h : ∀ x, p x = true → q x = true ∨ r x = true) : ∀ l : List α, l.countP p ≤ l.countP q + l.countP r
  | [] => by simp
  | a :: l => by
    have ih := countP_le_add h l
    rw [List.countP_cons, List.countP_cons, List.countP_cons]
    by_cases hp : p a = true
    · rcases h a hp with h1 | h1 <;> rw [if_pos hp, if_pos h1] <;> omega
    · rw [if_neg hp]; omega
theorem countP_one (x : Nat) : ∀ n, (List.range n).countP (fun y => y == x) ≤ 1 ∧ (n ≤ x → (List.range n).countP (fun y => y == x) = 0)
  | 0 => by simp
  | n + 1 => by
    obtain ⟨h1, h2⟩ := countP_one x n
    rw [List.range_succ, List.countP_append, List.countP_singleton]
    by_cases e : n = x
    · subst e
      have := h2 (Nat.le_refl _)
      refine ⟨by simp [this], fun h => by omega⟩
    · have : (n == x) = false := by simpa using e
      simp only [this]
      refine ⟨by simpa using h1, fun h => by simpa using h2 (by omega)⟩
/-- How many numbers below n fit one of these. -/
def nbr (n : Nat) (A : Nat → Nat → Bool) (I : List Nat) : Nat := (List.range n).countP fun x => I.any fun j => A j x
/-- HALL: each of them can have a number of its own. -/
theorem hall (n : Nat) : ∀ (k : Nat) (L : List Nat) (A : Nat → Nat → Bool), L.length = k → L.Nodup → (∀ I, List.Sublist I L → I.length ≤ nbr n A I) →
    ∃ f : Nat → Nat, (∀ j ∈ L, f j < n ∧ A j (f j) = true) ∧ ∀ i ∈ L, ∀ j ∈ L, f i = f j → i = j := by
  intro k
  induction k using Nat.strongRecOn with
  | _ k ih =>
    intro L A hk nd hH
    cases L with
    | nil => exact ⟨id, fun j h => by simp at h, fun i h => by simp at h⟩
    | cons a L =>
      by_cases hc : ∃ I, List.Sublist I (a :: L) ∧ I ≠ [] ∧ I.length < k ∧ nbr n A I ≤ I.length
      · obtain ⟨I, hI, hne, hIk, hIn⟩ := hc
        have ndI : I.Nodup := nd.sublist hI
        obtain ⟨f, hf1, hf2⟩ := ih I.length hIk I A rfl ndI fun K hK => hH K (hK.trans hI)
        obtain ⟨B, HB⟩ : ∃ B : Nat → Nat → Bool, B = fun j y => A j y && !(I.any fun i => A i y) := ⟨_, rfl⟩
        obtain ⟨J, HJ⟩ : ∃ J, J = (a :: L).filter fun j => !(I.contains j) := ⟨_, rfl⟩
        have hJs : List.Sublist J (a :: L) := by rw [HJ]; exact List.filter_sublist
        have hJm : ∀ j, j ∈ J ↔ j ∈ a :: L ∧ j ∉ I := fun j => by rw [HJ, List.mem_filter]; simp
        have hJk : J.length < k := by
          rcases Nat.lt_or_ge J.length k with h | h
          · exact h
          · exfalso
            have h2 : J = a :: L := hJs.eq_of_length_le (by omega)
            obtain ⟨i, hi⟩ := List.exists_mem_of_ne_nil I hne
            have h3 := hI.subset hi
            rw [← h2] at h3
            exact ((hJm i).1 h3).2 hi
        have hJH : ∀ K, List.Sublist K J → K.length ≤ nbr n B K := fun K hK => by
          have ndK : K.Nodup := nd.sublist (hK.trans hJs)
          obtain ⟨U, HU⟩ : ∃ U, U = (a :: L).filter fun j => I.contains j || K.contains j := ⟨_, rfl⟩
          have hUs : List.Sublist U (a :: L) := by rw [HU]; exact List.filter_sublist
          have hUm : ∀ j, j ∈ U → j ∈ I ∨ j ∈ K := fun j h => by rw [HU, List.mem_filter] at h; simpa using h.2
          have h1 : (I ++ K).length ≤ U.length := lhall_sub (List.nodup_append.2 ⟨ndI, ndK, fun x hx y hy e => ((hJm y).1 (hK.subset hy)).2 (e ▸ hx)⟩) fun x hx => by
            rw [HU, List.mem_filter]
            rcases List.mem_append.1 hx with h | h
            · exact ⟨hI.subset h, by simp [h]⟩
            · exact ⟨(hK.trans hJs).subset h, by simp [h]⟩
          rw [List.length_append] at h1
          have h2 := hH U hUs
          have h3 : nbr n A U ≤ nbr n A I + nbr n B K := countP_le_add (fun x hx => by
            obtain ⟨j, hj, hA⟩ := List.any_eq_true.1 hx
            by_cases hx2 : (I.any fun i => A i x) = true
            · exact .inl hx2
            · right
              rcases hUm j hj with h | h
              · exact absurd (List.any_eq_true.2 ⟨j, h, hA⟩) hx2
              · refine List.any_eq_true.2 ⟨j, h, ?_⟩
                rw [HB]
                simp only [hA, Bool.true_and, Bool.not_eq_true']
                simpa using hx2) _
          omega
        obtain ⟨g, hg1, hg2⟩ := ih J.length hJk J B rfl (nd.sublist hJs) hJH
        have hgB : ∀ j ∈ J, A j (g j) = true ∧ ∀ i ∈ I, A i (g j) = false := fun j hj => by
          have h := (hg1 j hj).2
          rw [HB] at h
          simp only [Bool.and_eq_true, Bool.not_eq_true', List.any_eq_false] at h
          exact ⟨h.1, fun i hi => by simpa using h.2 i hi⟩
        refine ⟨fun j => if j ∈ I then f j else g j, fun j hj => ?_, fun i hi j hj e => ?_⟩
        · dsimp only
          by_cases h : j ∈ I
          · rw [if_pos h]; exact hf1 j h
          · rw [if_neg h]
            have hjJ := (hJm j).2 ⟨hj, h⟩
            exact ⟨(hg1 j hjJ).1, (hgB j hjJ).1⟩
        · dsimp only at e
          by_cases h : i ∈ I
          · rw [if_pos h] at e
            by_cases h' : j ∈ I
            · rw [if_pos h'] at e; exact hf2 i h j h' e
            · rw [if_neg h'] at e
              have h1 := (hgB j ((hJm j).2 ⟨hj, h'⟩)).2 i h
              rw [← e, (hf1 i h).2] at h1
              cases h1
          · rw [if_neg h] at e
            by_cases h' : j ∈ I
            · rw [if_pos h'] at e
              have h1 := (hgB i ((hJm i).2 ⟨hi, h⟩)).2 j h'
              rw [e, (hf1 j h').2] at h1
              cases h1
            · rw [if_neg h'] at e
              exact hg2 i ((hJm i).2 ⟨hi, h⟩) j ((hJm j).2 ⟨hj, h'⟩) e
      · have hall' : ∀ I, List.Sublist I (a :: L) → I ≠ [] → I.length < k → I.length + 1 ≤ nbr n A I := fun I h1 h2 h3 => by
          rcases Nat.lt_or_ge I.length (nbr n A I) with h | h
          · exact h
          · exact absurd ⟨I, h1, h2, h3, h⟩ hc
        obtain ⟨n1, n2⟩ := List.nodup_cons.1 nd
        have h1 := hH [a] (List.singleton_sublist.2 (by simp))
        obtain ⟨x, hx, hxa⟩ : ∃ x, x < n ∧ A a x = true := by
          have : 0 < nbr n A [a] := h1
          obtain ⟨x, hx, h⟩ := List.countP_pos_iff.1 this
          exact ⟨x, List.mem_range.1 hx, by simpa using h⟩
        obtain ⟨B, HB⟩ : ∃ B : Nat → Nat → Bool, B = fun j y => A j y && !(y == x) := ⟨_, rfl⟩
        obtain ⟨f, hf1, hf2⟩ := ih L.length (by rw [← hk, List.length_cons]; omega) L B rfl n2 fun I hI => by
          cases I with
          | nil => simp
          | cons b I =>
            have h2 := hall' (b :: I) (hI.cons a) (by simp) (by have h5 := hI.length_le; have h6 := hk; rw [List.length_cons] at h6; omega)
            have h3 : nbr n A (b :: I) ≤ nbr n B (b :: I) + (List.range n).countP (fun y => y == x) := countP_le_add (fun y hy => by
              obtain ⟨j, hj, hA⟩ := List.any_eq_true.1 hy
              by_cases e : y = x
              · exact .inr (by simpa using e)
              · left
                refine List.any_eq_true.2 ⟨j, hj, ?_⟩
                rw [HB]
                simp [hA, e]) _
            have h4 := (countP_one x n).1
            omega
        have hfB : ∀ j ∈ L, A j (f j) = true ∧ f j ≠ x := fun j hj => by
          have h := (hf1 j hj).2
          rw [HB] at h
          simpa using h
        refine ⟨fun j => if j = a then x else f j, fun j hj => ?_, fun i hi j hj e => ?_⟩
        · dsimp only
          by_cases h : j = a
          · rw [if_pos h, h]; exact ⟨hx, hxa⟩
          · rw [if_neg h]
            have hjL := (List.mem_cons.1 hj).resolve_left h
            exact ⟨(hf1 j hjL).1, (hfB j hjL).1⟩
        · dsimp only at e
          by_cases h : i = a
          · rw [if_pos h] at e
            by_cases h' : j = a
            · rw [h, h']
            · rw [if_neg h'] at e
              exact absurd e.symm (hfB j ((List.mem_cons.1 hj).resolve_left h')).2
          · rw [if_neg h] at e
            have hiL := (List.mem_cons.1 hi).resolve_left h
            by_cases h' : j = a
            · rw [if_pos h'] at e
              exact absurd e (hfB i hiL).2
            · rw [if_neg h'] at e
              exact hf2 i hiL j ((List.mem_cons.1 hj).resolve_left h') e

theorem inj_nodup {f : Nat → Nat} : ∀ {n : Nat}, (∀ i j, i < n → j < n → f i = f j → i = j) → ((List.range n).map f).Nodup
  | 0, _ => by simp
  | n + 1, h => by
    rw [List.range_succ, List.map_append]
    refine List.nodup_append.2 ⟨inj_nodup fun i j hi hj => h i j (by omega) (by omega), by simp, fun a ha b hb e => ?_⟩
    obtain ⟨i, hi, rfl⟩ := List.mem_map.1 ha
    have hi := List.mem_range.1 hi
    simp at hb
    have := h i n (by omega) (by omega) (e.trans hb)
    omega
theorem inj_onto {n : Nat} {f : Nat → Nat} (hlt : ∀ i, i < n → f i < n) (h : ∀ i j, i < n → j < n → f i = f j → i = j) {x : Nat} (hx : x < n) : ∃ i, i < n ∧ f i = x := by
  refine Classical.byContradiction fun hn => ?_
  have h1 : (x :: (List.range n).map f).Nodup := List.nodup_cons.2 ⟨fun hm => by
    obtain ⟨i, hi, e⟩ := List.mem_map.1 hm
    exact hn ⟨i, List.mem_range.1 hi, e⟩, inj_nodup h⟩
  have h2 := lhall_sub (B := List.range n) h1 fun y hy => by
    rcases List.mem_cons.1 hy with e | e
    · rw [e]; exact List.mem_range.2 hx
    · obtain ⟨i, hi, e⟩ := List.mem_map.1 e
      rw [← e]; exact List.mem_range.2 (hlt i (List.mem_range.1 hi))
  simp at h2
  omega
theorem sum_swap (A : Nat → Nat → Bool) (l : List Nat) : ∀ I : List Nat, (I.map fun j => l.countP (A j)).sum = (l.map fun x => I.countP fun j => A j x).sum
  | [] => by
    rw [List.map_nil, List.sum_nil]
    induction l with
    | nil => rfl
    | cons a l ih => rw [List.map_cons, List.sum_cons, ← ih]; rfl
  | j :: I => by
    rw [List.map_cons, List.sum_cons, sum_swap A l I]
    induction l with
    | nil => rfl
    | cons a l ih =>
      rw [List.map_cons, List.sum_cons, List.map_cons, List.sum_cons, ← ih, List.countP_cons, List.countP_cons]
      omega
theorem sum_least {d : Nat} {g : Nat → Nat} : ∀ {I : List Nat}, (∀ j ∈ I, d ≤ g j) → I.length * d ≤ (I.map g).sum
  | [], _ => by simp
  | j :: I, h => by
    have := sum_least (I := I) fun i hi => h i (by simp [hi])
    have := h j (by simp)
    rw [List.map_cons, List.sum_cons, List.length_cons, Nat.add_mul]
    omega
theorem sum_most {d : Nat} {g : Nat → Nat} {p : Nat → Bool} : ∀ {l : List Nat}, (∀ x ∈ l, g x ≤ d) → (∀ x ∈ l, p x = false → g x = 0) → (l.map g).sum ≤ l.countP p * d
  | [], _, _ => by simp
  | x :: l, h, h' => by
    have ih := sum_most (l := l) (p := p) (fun i hi => h i (by simp [hi])) (fun i hi => h' i (by simp [hi]))
    rw [List.map_cons, List.sum_cons, List.countP_cons, Nat.add_mul]
    by_cases hp : p x = true
    · have := h x (by simp)
      rw [if_pos hp]
      omega
    · have := h' x (by simp) (by simpa using hp)
      rw [if_neg hp]
      omega
/-- M. HALL: a rectangle that is not yet a square has a next row. -/
theorem next_row {n r : Nat} (hr : r < n) {R : Nat → Nat → Nat} (hlt : ∀ i j, i < r → j < n → R i j < n) (hrow : ∀ i, i < r → ∀ j k, j < n → k < n → R i j = R i k → j = k) (hcol : ∀ j, j < n → ∀ i k, i < r → k < r → R i j = R k j → i = k) :
    ∃ f : Nat → Nat, (∀ j, j < n → f j < n) ∧ (∀ i j, i < n → j < n → f i = f j → i = j) ∧ ∀ j, j < n → ∀ i, i < r → R i j ≠ f j := by
  obtain ⟨A, HA⟩ : ∃ A : Nat → Nat → Bool, A = fun j x => !((List.range r).any fun i => R i j == x) := ⟨_, rfl⟩
  have hA : ∀ j x, A j x = true ↔ ∀ i, i < r → R i j ≠ x := fun j x => by
    rw [HA]
    simp
  have hA2 : ∀ j x, (!A j x) = true ↔ ∃ i, i < r ∧ R i j = x := fun j x => by
    rw [HA]
    simp
  have hsplit : ∀ p : Nat → Bool, (List.range n).countP p + (List.range n).countP (fun x => !p x) = n := fun p => by
    have h1 := List.length_eq_countP_add_countP p (l := List.range n)
    rw [List.length_range] at h1
    have h2 : (List.range n).countP (fun x => !p x) = (List.range n).countP (fun a => decide ¬p a = true) := List.countP_congr fun x _ => by cases p x <;> simp
    omega
  -- each column has as many free numbers
  have hd : ∀ j, j < n → n - r ≤ (List.range n).countP (A j) := fun j hj => by
    have h1 : (List.range n).countP (fun x => !A j x) ≤ r := by
      rw [List.countP_eq_length_filter]
      have := lhall_sub (A := (List.range n).filter fun x => !A j x) (B := (List.range r).map fun i => R i j) (List.nodup_range.filter _) fun x hx => by
        obtain ⟨i, hi, e⟩ := (hA2 j x).1 (List.mem_filter.1 hx).2
        exact List.mem_map.2 ⟨i, List.mem_range.2 hi, e⟩
      rw [List.length_map, List.length_range] at this
      exact this
    have := hsplit (A j)
    omega
  -- each number has no more free columns
  have hu : ∀ x, x < n → (List.range n).countP (fun j => A j x) ≤ n - r := fun x hx => by
    have hj : ∀ i, ∃ j, i < r → j < n ∧ R i j = x := fun i => by
      by_cases hi : i < r
      · obtain ⟨j, h1, h2⟩ := inj_onto (f := R i) (fun j hj => hlt i j hi hj) (hrow i hi) hx
        exact ⟨j, fun _ => ⟨h1, h2⟩⟩
      · exact ⟨0, fun h => absurd h hi⟩
    obtain ⟨c, hc⟩ := Classical.axiomOfChoice hj
    have h1 : r ≤ (List.range n).countP (fun j => !A j x) := by
      rw [List.countP_eq_length_filter]
      have := lhall_sub (A := (List.range r).map c) (B := (List.range n).filter fun j => !A j x) (inj_nodup fun i k hi hk e => by
        have h2 := (hc i hi).2
        have h3 := (hc k hk).2
        rw [← e] at h3
        exact hcol (c i) (hc i hi).1 i k hi hk (h2.trans h3.symm)) fun j hj => by
        obtain ⟨i, hi, rfl⟩ := List.mem_map.1 hj
        have hi := List.mem_range.1 hi
        exact List.mem_filter.2 ⟨List.mem_range.2 (hc i hi).1, (hA2 _ _).2 ⟨i, hi, (hc i hi).2⟩⟩
      rw [List.length_map, List.length_range] at this
      exact this
    have := hsplit (fun j => A j x)
    omega
  obtain ⟨f, hf1, hf2⟩ := hall n n (List.range n) A (by simp) List.nodup_range fun I hI => by
    have h1 := sum_least (d := n - r) (g := fun j => (List.range n).countP (A j)) (I := I) fun j hj => hd j (List.mem_range.1 (hI.subset hj))
    rw [sum_swap A (List.range n) I] at h1
    have h2 := sum_most (d := n - r) (g := fun x => I.countP fun j => A j x) (p := fun x => I.any fun j => A j x) (l := List.range n) (fun x hx => Nat.le_trans (hI.countP_le) (hu x (List.mem_range.1 hx))) (fun x _ h => by
      rw [List.any_eq_false] at h
      exact List.countP_eq_zero.2 fun j hj => h j hj)
    exact Nat.le_of_mul_le_mul_right (Nat.le_trans h1 h2) (by omega)
  refine ⟨f, fun j hj => (hf1 j (List.mem_range.2 hj)).1, fun i j hi hj => hf2 i (List.mem_range.2 hi) j (List.mem_range.2 hj), fun j hj i hi => ?_⟩
  exact (hA j (f j)).1 (hf1 j (List.mem_range.2 hj)).2 i hi

theorem perm_range {n : Nat} {f : Nat → Nat} (hlt : ∀ i, i < n → f i < n) (h : ∀ i j, i < n → j < n → f i = f j → i = j) : ((List.range n).map f).Perm (List.range n) := by
  rw [List.perm_iff_count]
  intro x
  have nd := inj_nodup h
  rw [nd.count, List.nodup_range.count]
  have e : x ∈ (List.range n).map f ↔ x ∈ List.range n := by
    constructor
    · intro hx
      obtain ⟨i, hi, e⟩ := List.mem_map.1 hx
      rw [← e]; exact List.mem_range.2 (hlt i (List.mem_range.1 hi))
    · intro hx
      obtain ⟨i, hi, e⟩ := inj_onto hlt h (List.mem_range.1 hx)
      exact List.mem_map.2 ⟨i, List.mem_range.2 hi, e⟩
  simp only [e]
theorem sum_perm {L M : List Nat} (h : L.Perm M) : L.sum = M.sum := by
  induction h with
  | nil => rfl
  | cons x _ ih => rw [List.sum_cons, List.sum_cons, ih]
  | swap x y l => simp only [List.sum_cons]; omega
  | trans _ _ ih1 ih2 => exact ih1.trans ih2
theorem sum_mod (n : Nat) (g : Nat → Nat) : ∀ l : List Nat, (l.map fun i => g i % n).sum % n = (l.map g).sum % n
  | [] => rfl
  | a :: l => by
    rw [List.map_cons, List.sum_cons, List.map_cons, List.sum_cons, Nat.add_mod, sum_mod n g l, Nat.mod_mod, ← Nat.add_mod]
theorem sum_two (f g : Nat → Nat) : ∀ l : List Nat, (l.map fun i => f i + g i).sum = (l.map f).sum + (l.map g).sum
  | [] => rfl
  | a :: l => by simp only [List.map_cons, List.sum_cons, sum_two f g l]; omega
theorem sum_range : ∀ n, (List.range n).sum * 2 = n * (n - 1)
  | 0 => rfl
  | n + 1 => by
    rw [List.range_succ, List.sum_append, List.sum_cons, List.sum_nil, Nat.add_zero, Nat.add_mul, sum_range n, Nat.add_sub_cancel]
    cases n with
    | zero => rfl
    | succ m => rw [Nat.add_sub_cancel, ← Nat.mul_add, Nat.mul_comm (m + 1) (m + 2)]
/-- EULER: no order of the columns of what turns meets each number, if the side is even. -/
theorem euler_even {n : Nat} (h2 : n % 2 = 0) (h0 : 0 < n) {p : Nat → Nat} (hlt : ∀ i, i < n → p i < n) (hp : ∀ i j, i < n → j < n → p i = p j → i = j) (hs : ∀ i j, i < n → j < n → (i + p i) % n = (j + p j) % n → i = j) : False := by
  have h1 := sum_perm (perm_range (f := fun i => (i + p i) % n) (fun i _ => Nat.mod_lt _ h0) hs)
  have h3 := sum_mod n (fun i => i + p i) (List.range n)
  rw [h1, sum_two (fun i => i) p, sum_perm (perm_range hlt hp), List.map_id'] at h3
  have h4 := sum_range n
  obtain ⟨m, rfl⟩ : ∃ m, n = 2 * m := ⟨n / 2, by omega⟩
  obtain ⟨S, HS⟩ : ∃ S, (List.range (2 * m)).sum = S := ⟨_, rfl⟩
  rw [HS] at h3 h4
  -- S is a multiple of 2 m, and S = m (2 m - 1)
  have h5 : S = m * (2 * m - 1) := by
    have : S * 2 = m * (2 * m - 1) * 2 := by rw [h4, Nat.mul_comm 2 m, Nat.mul_assoc, Nat.mul_comm 2, Nat.mul_assoc]
    omega
  have h6 : S % (2 * m) = 0 := by
    have e : (S + S) % (2 * m) = (S % (2 * m) + S % (2 * m)) % (2 * m) := Nat.add_mod _ _ _
    have l := Nat.mod_lt S h0
    rw [e] at h3
    generalize S % (2 * m) = t at h3 l ⊢
    generalize 2 * m = N at h3 l
    rcases Nat.lt_or_ge (t + t) N with h | h
    · rw [Nat.mod_eq_of_lt h] at h3; omega
    · rw [Nat.mod_eq_sub_mod h, Nat.mod_eq_of_lt (by omega)] at h3; omega
  obtain ⟨c, hc⟩ := Nat.dvd_of_mod_eq_zero h6
  rw [h5, Nat.mul_comm 2 m, Nat.mul_assoc] at hc
  have h7 := Nat.eq_of_mul_eq_mul_left (by omega) hc
  omega
theorem euler_odd {n : Nat} (h2 : n % 2 = 1) : ∀ i j, i < n → j < n → (i + i) % n = (j + j) % n → i = j := fun i j hi hj h => by
  rcases Nat.lt_or_ge (i + i) n with h1 | h1 <;> rcases Nat.lt_or_ge (j + j) n with h3 | h3
  · rw [Nat.mod_eq_of_lt h1, Nat.mod_eq_of_lt h3] at h; omega
  · rw [Nat.mod_eq_of_lt h1, Nat.mod_eq_sub_mod h3, Nat.mod_eq_of_lt (by omega)] at h; omega
  · rw [Nat.mod_eq_of_lt h3, Nat.mod_eq_sub_mod h1, Nat.mod_eq_of_lt (by omega)] at h; omega
  · rw [Nat.mod_eq_sub_mod h1, Nat.mod_eq_sub_mod h3, Nat.mod_eq_of_lt (by omega), Nat.mod_eq_of_lt (by omega)] at h; omega

end Go.Proofs.YtjfjdidibglhaaaDoor
