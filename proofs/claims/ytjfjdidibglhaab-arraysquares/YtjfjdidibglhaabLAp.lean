/- What is wrong with a square, with rows: as the document looks, as the program looks; nothing of the program. -/
import Derived.Test.YtjfjdidibglhaabPList
import Derived.Test.YtjfjdidibglhaabLInter
import Derived.Test.YtjfjdidibglhaabLExt
namespace Go.Proofs.Ytjfjdidibglhaab

/-- The number in a row and column of what stands row by row. -/
def sq (n : Nat) (L : List Int) (i j : Nat) : Nat := (L.getD (i * n + j) 0).toNat
/-- No number twice in a row or column. -/
def Ap (m n : Nat) (t : Nat → Nat → Nat) : Prop := ∀ i j i' j', i < m → j < n → i' < m → j' < n → t i j = t i' j' → (i = i' → j = j') ∧ (j = j' → i = i')
def onB (n : Nat) (L : List Int) : Bool := (List.range L.length).all fun i => (List.range i).all fun k => !(L.getD i 0 == L.getD k 0 && (i / n == k / n || i % n == k % n))
theorem onB_iff {n : Nat} {L : List Int} : onB n L = true ↔ ∀ i k, k < i → i < L.length → L.getD i 0 = L.getD k 0 → i / n ≠ k / n ∧ i % n ≠ k % n := by
  unfold onB
  rw [List.all_eq_true]
  constructor
  · intro h i k hk hi e
    have h1 := h i (List.mem_range.2 hi)
    rw [List.all_eq_true] at h1
    have h2 := h1 k (List.mem_range.2 hk)
    simp only [e, beq_self_eq_true, Bool.true_and, Bool.not_eq_true', Bool.or_eq_false_iff, beq_eq_false_iff_ne] at h2
    exact h2
  · intro h i hi
    rw [List.all_eq_true]
    intro k hk
    have hi := List.mem_range.1 hi
    have hk := List.mem_range.1 hk
    by_cases e : L.getD i 0 = L.getD k 0
    · have := h i k hk hi e
      simp only [e, beq_self_eq_true, Bool.true_and, Bool.not_eq_true', Bool.or_eq_false_iff, beq_eq_false_iff_ne]
      exact this
    · have : (L.getD i 0 == L.getD k 0) = false := beq_eq_false_iff_ne.2 e
      rw [this]; rfl
theorem cell_lt {m n i j : Nat} (hi : i < m) (hj : j < n) : i * n + j < m * n := by
  have : (i + 1) * n ≤ m * n := Nat.mul_le_mul_right n hi
  rw [Nat.add_mul] at this
  omega
theorem onB_ap {m n : Nat} {L : List Int} (hl : L.length = m * n) (h0 : ∀ j, j < L.length → 0 ≤ L.getD j 0) : onB n L = true ↔ Ap m n (sq n L) := by
  rw [onB_iff]
  have key : ∀ a b, a < L.length → b < L.length → (L.getD a 0).toNat = (L.getD b 0).toNat → L.getD a 0 = L.getD b 0 := fun a b ha hb e => by
    have := h0 a ha; have := h0 b hb; omega
  constructor
  · intro h i j i' j' hi hj hi' hj' e
    have l1 := cell_lt hi hj
    have l2 := cell_lt hi' hj'
    have e' := key _ _ (by omega) (by omega) e
    have d1 := divmod (i := i) hj
    have d2 := divmod (i := i') hj'
    rcases Nat.lt_trichotomy (i * n + j) (i' * n + j') with hlt | heq | hgt
    · have := h _ _ hlt (by omega) e'.symm
      rw [d1.1, d1.2, d2.1, d2.2] at this
      exact ⟨fun x => absurd x.symm this.1, fun x => absurd x.symm this.2⟩
    · have a1 := d1.1; have a2 := d1.2
      rw [heq, d2.1] at a1
      rw [heq, d2.2] at a2
      exact ⟨fun _ => a2.symm, fun _ => a1.symm⟩
    · have := h _ _ hgt (by omega) e'
      rw [d1.1, d1.2, d2.1, d2.2] at this
      exact ⟨fun x => absurd x this.1, fun x => absurd x this.2⟩
  · intro h i k hk hi e
    have hn : 0 < n := by
      rcases Nat.eq_zero_or_pos n with h | h
      · subst h; omega
      · exact h
    have c1 : i / n < m := Nat.div_lt_of_lt_mul (by rw [Nat.mul_comm]; omega)
    have c2 : k / n < m := Nat.div_lt_of_lt_mul (by rw [Nat.mul_comm]; omega)
    have e1 : i / n * n + i % n = i := Nat.div_add_mod' i n
    have e2 : k / n * n + k % n = k := Nat.div_add_mod' k n
    have := h (i / n) (i % n) (k / n) (k % n) c1 (Nat.mod_lt _ hn) c2 (Nat.mod_lt _ hn) (by unfold sq; rw [e1, e2, e])
    constructor
    · intro x
      have := this.1 x
      rw [x, this, e2] at e1
      omega
    · intro x
      have := this.2 x
      rw [x, this, e2] at e1
      omega
theorem ap_lat {n : Nat} {t : Nat → Nat → Nat} (h : Ap n n t) (hlt : ∀ i j, i < n → j < n → t i j < n) : Lat n t :=
  ⟨hlt, fun i hi j k hj hk e => (h i j i k hi hj hi hk e).1 rfl, fun j hj i k hi hk e => (h i j k j hi hj hk hj e).2 rfl⟩
theorem lat_ap {n : Nat} {t : Nat → Nat → Nat} (h : Lat n t) : Ap n n t := fun i j i' j' hi hj hi' hj' e =>
  ⟨fun x => by subst x; exact h.row i hi j j' hj hj' e, fun x => by subst x; exact h.col j hj i i' hi hi' e⟩
/-- What is wrong with a square. -/
def lF (s : Int) (L : List Int) : Nat := if s < 1 ∨ 8 < s then 1 else if (L.length : Int) ≠ s * s then 2 else if inLB s L = false then 1 else if onB s.toNat L then 0 else 6
structure GoodS (n : Nat) (L : List Int) : Prop where
  pos : 0 < n
  le : n ≤ 8
  len : L.length = n * n
  at0 : ∀ j, j < n * n → 0 ≤ L.getD j 0 ∧ L.getD j 0 < n
  lat : Lat n (sq n L)
theorem GoodS.val {n : Nat} {L : List Int} (h : GoodS n L) {i j : Nat} (hi : i < n) (hj : j < n) : L.getD (i * n + j) 0 = (sq n L i j : Int) := by
  have := (h.at0 _ (cell_lt hi hj)).1
  unfold sq; omega
theorem lF_ok {s : Int} {L : List Int} (h : lF s L = 0) : ∃ n : Nat, s = n ∧ GoodS n L := by
  unfold lF at h
  split at h
  · cases h
  · rename_i h1
    split at h
    · cases h
    · rename_i h2
      split at h
      · cases h
      · rename_i h3
        split at h
        · rename_i h4
          have h3 : inLB s L = true := by simpa using h3
          rw [inLB_iff] at h3
          obtain ⟨n, rfl⟩ : ∃ n : Nat, s = n := ⟨s.toNat, by omega⟩
          have hl : L.length = n * n := by
            have : (L.length : Int) = (n : Int) * n := by simpa using h2
            exact_mod_cast this
          have hn : ((n : Int)).toNat = n := by omega
          rw [hn] at h4
          refine ⟨n, rfl, by omega, by omega, hl, fun j hj => h3 j (by omega), ap_lat ((onB_ap hl fun j hj => (h3 j hj).1).1 h4) fun i j hi hj => ?_⟩
          have := h3 (i * n + j) (by have := cell_lt hi hj; omega)
          unfold sq; omega
        · cases h
theorem lF_good {n : Nat} {L : List Int} (h : GoodS n L) : lF n L = 0 := by
  unfold lF
  have h1 := h.pos; have h2 := h.le
  rw [if_neg (by omega), if_neg (by rw [h.len]; simp), if_neg (by
    have : inLB n L = true := by rw [inLB_iff]; intro j hj; exact h.at0 j (by rw [← h.len]; exact hj)
    rw [this]; simp), if_pos]
  have hn : ((n : Int)).toNat = n := by omega
  rw [hn, onB_ap h.len fun j hj => (h.at0 j (by rw [← h.len]; exact hj)).1]
  exact lat_ap h.lat
theorem lF_cases (s : Int) (L : List Int) : lF s L = 0 ∨ lF s L = 1 ∨ lF s L = 2 ∨ lF s L = 6 := by
  unfold lF
  split
  · exact .inr (.inl rfl)
  · split
    · exact .inr (.inr (.inl rfl))
    · split
      · exact .inr (.inl rfl)
      · split
        · exact .inl rfl
        · exact .inr (.inr (.inr rfl))
/-- What is wrong with rows. -/
def rowsF (n : Nat) : List (List Int) → Nat
  | [] => 0
  | r :: rs => if r.length ≠ n then 2 else if inLB n r = false then 1 else rowsF n rs
def eF (n : Int) (rows : List (List Int)) : Nat := if n < 1 ∨ 8 < n then 1 else if n < rows.length then 3 else if rowsF n.toNat rows ≠ 0 then rowsF n.toNat rows else if onB n.toNat rows.flatten then 0 else 6
end Go.Proofs.Ytjfjdidibglhaab
