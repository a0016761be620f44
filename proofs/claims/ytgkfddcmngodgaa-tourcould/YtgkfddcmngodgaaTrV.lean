/- Who comes to whom, by steps; parts. Nothing of the program. -/
import Derived.Test.YtgkfddcmngodgaaTrC
namespace Go.Proofs.Ytgkfddcmngodgaa

/-- A table as a row. -/
def mt (n : Nat) (F : Nat → Nat → Bool) : Nat → Bool := fun j => F (j / n) (j % n)
theorem mt_at {n a b : Nat} (hb : b < n) (F : Nat → Nat → Bool) : mt n F (a * n + b) = F a b := by
  unfold mt
  have h1 : (a * n + b) / n = a := by rw [Nat.mul_comm, Nat.mul_add_div (by omega), Nat.div_eq_of_lt hb, Nat.add_zero]
  have h2 : (a * n + b) % n = b := by rw [Nat.mul_comm, Nat.mul_add_mod, Nat.mod_eq_of_lt hb]
  rw [h1, h2]
theorem mt_ext {n : Nat} {F G : Nat → Nat → Bool} (h : ∀ x y, x < n → y < n → F x y = G x y) : ∀ j, j < n * n → mt n F j = mt n G j := fun j hj => by
  have hn : 0 < n := by
    rcases Nat.eq_zero_or_pos n with e | e
    · subst e; omega
    · exact e
  exact h _ _ ((Nat.div_lt_iff_lt_mul hn).2 hj) (Nat.mod_lt _ hn)
def st1 (F : Nat → Nat → Bool) (c a b : Nat) : Bool := F a b || (F a c && F c b)
def f0 (t : Nat → Nat → Bool) (a b : Nat) : Bool := t a b || a == b
def clo (t : Nat → Nat → Bool) : Nat → Nat → Nat → Bool
  | 0 => f0 t
  | k + 1 => st1 (clo t k) k
/-- Who comes to whom. -/
def reB (n : Nat) (t : Nat → Nat → Bool) : Nat → Nat → Bool := clo t n
/-- In the midst of a step. -/
def midM (F : Nat → Nat → Bool) (c a b : Nat) : Nat → Nat → Bool := fun x y => if x < a ∨ (x = a ∧ y < b) then st1 F c x y else F x y
theorem clo_refl (t : Nat → Nat → Bool) : ∀ k a, clo t k a a = true
  | 0, a => by show (t a a || a == a) = true; simp
  | k + 1, a => by show (clo t k a a || _) = true; rw [clo_refl t k a]; rfl
theorem midM_row {F : Nat → Nat → Bool} {c : Nat} (hc : F c c = true) (a b : Nat) (x : Nat) : midM F c a b x c = F x c := by
  unfold midM
  split
  · unfold st1; rw [hc, Bool.and_true, Bool.or_self]
  · rfl
theorem midM_col {F : Nat → Nat → Bool} {c : Nat} (hc : F c c = true) (a b : Nat) (y : Nat) : midM F c a b c y = F c y := by
  unfold midM
  split
  · unfold st1; rw [hc, Bool.true_and, Bool.or_self]
  · rfl
theorem midM_zero (F : Nat → Nat → Bool) (c : Nat) : midM F c 0 0 = F := by
  funext x y
  unfold midM
  rw [if_neg (by omega)]
theorem midM_next {n : Nat} (F : Nat → Nat → Bool) (c a : Nat) : ∀ x y, x < n → y < n → midM F c a n x y = midM F c (a + 1) 0 x y := fun x y _ hy => by
  unfold midM
  by_cases h : x ≤ a
  · rw [if_pos (by omega), if_pos (by omega)]
  · rw [if_neg (by omega), if_neg (by omega)]
theorem midM_all {n : Nat} (F : Nat → Nat → Bool) (c : Nat) : ∀ x y, x < n → y < n → midM F c n 0 x y = st1 F c x y := fun x y hx _ => by
  unfold midM
  rw [if_pos (by omega)]
theorem midM_more (F : Nat → Nat → Bool) (c a b x y : Nat) : midM F c a (b + 1) x y = if x = a ∧ y = b then st1 F c a b else midM F c a b x y := by
  unfold midM
  by_cases h : x = a ∧ y = b
  · obtain ⟨rfl, rfl⟩ := h
    rw [if_pos (by omega), if_pos ⟨rfl, rfl⟩]
  · rw [if_neg h]
    by_cases k : x < a ∨ (x = a ∧ y < b)
    · rw [if_pos k, if_pos (by omega)]
    · rw [if_neg k, if_neg (by omega)]
theorem idx_inj {n a b x y : Nat} (hb : b < n) (hy : y < n) (e : a * n + b = x * n + y) : a = x ∧ b = y := by
  have h1 := mt_at (a := a) hb (fun a _ => decide (a = x))
  rw [e, mt_at hy] at h1
  have ha : a = x := by simpa using h1.symm
  subst ha
  omega
/-- A cell set, or left as it was. -/
theorem mid_set {n : Nat} {F : Nat → Nat → Bool} {c a b : Nat} (hb : b < n) (h : (F a c && F c b) = true) : ∀ j, j < n * n → (if j = a * n + b then true else mt n (midM F c a b) j) = mt n (midM F c a (b + 1)) j := fun j hj => by
  have hn : 0 < n := by omega
  have hy : j % n < n := Nat.mod_lt _ hn
  have ej : j = j / n * n + j % n := by rw [Nat.mul_comm]; exact (Nat.div_add_mod j n).symm
  show _ = midM F c a (b + 1) (j / n) (j % n)
  rw [midM_more]
  by_cases e : j = a * n + b
  · rw [if_pos e]
    have := idx_inj hy hb (ej.symm.trans e)
    rw [if_pos this]
    unfold st1
    rw [h, Bool.or_true]
  · rw [if_neg e, if_neg (fun h => e (by rw [ej, h.1, h.2]))]
    rfl
theorem mid_keep {_n : Nat} {F : Nat → Nat → Bool} {c a b : Nat} (h : (F a c && F c b) = false) : midM F c a (b + 1) = midM F c a b := by
  funext x y
  rw [midM_more]
  split
  · rename_i e
    obtain ⟨rfl, rfl⟩ := e
    unfold midM st1
    rw [h, Bool.or_false, if_neg (by omega)]
  · rfl
/-- Closed under steps by the first ones. -/
theorem clo_cl (t : Nat → Nat → Bool) : ∀ k x a b, x < k → clo t k a x = true → clo t k x b = true → clo t k a b = true
  | 0, x, _, _, h, _, _ => by omega
  | k + 1, x, a, b, hx, h1, h2 => by
    have ih := clo_cl t k
    have rk := clo_refl t k k
    have d : ∀ p q, clo t (k + 1) p q = true ↔ clo t k p q = true ∨ (clo t k p k = true ∧ clo t k k q = true) := fun p q => by
      show (clo t k p q || (clo t k p k && clo t k k q)) = true ↔ _
      rw [Bool.or_eq_true, Bool.and_eq_true]
    rw [d] at h1 h2 ⊢
    by_cases e : x = k
    · subst e
      have a1 : clo t x a x = true := h1.elim id fun h => h.1
      have a2 : clo t x x b = true := h2.elim id fun h => h.2
      exact .inr ⟨a1, a2⟩
    · have hxk : x < k := by omega
      rcases h1 with h1 | ⟨h1, h1'⟩ <;> rcases h2 with h2 | ⟨h2, h2'⟩
      · exact .inl (ih x a b hxk h1 h2)
      · exact .inr ⟨ih x a k hxk h1 h2, h2'⟩
      · exact .inr ⟨h1, ih x k b hxk h1' h2⟩
      · exact .inr ⟨h1, h2'⟩
theorem clo_mono (t : Nat → Nat → Bool) : ∀ k a b, f0 t a b = true → clo t k a b = true
  | 0, _, _, h => h
  | k + 1, a, b, h => by show (clo t k a b || _) = true; rw [clo_mono t k a b h]; rfl
theorem clo_sound {t : Nat → Nat → Bool} : ∀ k a b, clo t k a b = true → ∀ Z : Nat → Prop, (∀ x y, Z x → t x y = true → Z y) → Z a → Z b
  | 0, a, b, h, Z, hZ, ha => by
    have h : (t a b || a == b) = true := h
    rw [Bool.or_eq_true, beq_iff_eq] at h
    rcases h with h | rfl
    · exact hZ a b ha h
    · exact ha
  | k + 1, a, b, h, Z, hZ, ha => by
    have h : (clo t k a b || (clo t k a k && clo t k k b)) = true := h
    rw [Bool.or_eq_true, Bool.and_eq_true] at h
    rcases h with h | ⟨h1, h2⟩
    · exact clo_sound k a b h Z hZ ha
    · exact clo_sound k k b h2 Z hZ (clo_sound k a k h1 Z hZ ha)
section
variable {n : Nat} {t : Nat → Nat → Bool}
theorem reB_refl (a : Nat) : reB n t a a = true := clo_refl t n a
theorem reB_step {a b : Nat} (h : t a b = true) : reB n t a b = true := clo_mono t n a b (by unfold f0; rw [h]; rfl)
theorem reB_trans {a x b : Nat} (hx : x < n) (h1 : reB n t a x = true) (h2 : reB n t x b = true) : reB n t a b = true := clo_cl t n x a b hx h1 h2
theorem reB_on {a b : Nat} (h : reB n t a b = true) (Z : Nat → Prop) (hZ : ∀ x y, Z x → t x y = true → Z y) (ha : Z a) : Z b := clo_sound n a b h Z hZ ha
end
/-- A part; those told of who come to r. -/
def ptF (_n : Nat) (R : Nat → Nat → Bool) (a b : Nat) : List Nat := (List.range b).filter fun y => R a y && R y a
def rcN (R : Nat → Nat → Bool) (a b : Nat) : Nat := (List.range b).countP (R a)
def ptA (n : Nat) (R : Nat → Nat → Bool) (r k : Nat) : List (List Nat) := (List.range k).flatMap fun a => if rcN R a n = r ∧ (ptF n R a n).getD 0 0 = a then [ptF n R a n] else []
def psF (n : Nat) (R : Nat → Nat → Bool) (m : Nat) : List (List Nat) := (List.range m).flatMap fun i => ptA n R (n - i) n
def ptL (n : Nat) (R : Nat → Nat → Bool) : List (List Nat) := psF n R n
theorem ptF_more (n : Nat) (R : Nat → Nat → Bool) (a b : Nat) : ptF n R a (b + 1) = ptF n R a b ++ if R a b && R b a then [b] else [] := by
  unfold ptF
  rw [List.range_succ, List.filter_append]
  cases h : (R a b && R b a) with
  | true => rw [List.filter_cons_of_pos (by rw [h])]; rfl
  | false => rw [List.filter_cons_of_neg (by rw [h]; simp)]; rfl
theorem rcN_more (R : Nat → Nat → Bool) (a b : Nat) : rcN R a (b + 1) = rcN R a b + if R a b then 1 else 0 := by
  unfold rcN; rw [List.range_succ, List.countP_append]; simp [List.countP_cons]
theorem rcN_le (R : Nat → Nat → Bool) (a b : Nat) : rcN R a b ≤ b := by
  unfold rcN; exact Nat.le_trans List.countP_le_length (by simp)
theorem ptF_le (n : Nat) (R : Nat → Nat → Bool) (a b : Nat) : (ptF n R a b).length ≤ b := by
  unfold ptF; exact Nat.le_trans (List.length_filter_le _ _) (by simp)
theorem ptA_more (n : Nat) (R : Nat → Nat → Bool) (r k : Nat) : ptA n R r (k + 1) = ptA n R r k ++ if rcN R k n = r ∧ (ptF n R k n).getD 0 0 = k then [ptF n R k n] else [] := by
  unfold ptA; rw [List.range_succ, List.flatMap_append]; simp
theorem psF_more (n : Nat) (R : Nat → Nat → Bool) (m : Nat) : psF n R (m + 1) = psF n R m ++ ptA n R (n - m) n := by
  unfold psF; rw [List.range_succ, List.flatMap_append]; simp
theorem ptA_len (n : Nat) (R : Nat → Nat → Bool) (r : Nat) : ∀ k, (ptA n R r k).length ≤ k
  | 0 => by simp [ptA]
  | k + 1 => by
    rw [ptA_more, List.length_append]
    have := ptA_len n R r k
    split <;> simp <;> omega
theorem psF_len (n : Nat) (R : Nat → Nat → Bool) : ∀ m, (psF n R m).length ≤ n * m
  | 0 => by simp [psF]
  | m + 1 => by
    rw [psF_more, List.length_append, Nat.mul_succ]
    have := psF_len n R m
    have := ptA_len n R (n - m) n
    omega
theorem ptF_pos {n : Nat} {R : Nat → Nat → Bool} {a : Nat} (hr : R a a = true) (ha : a < n) : 0 < (ptF n R a n).length :=
  List.length_pos_of_mem (a := a) (List.mem_filter.2 ⟨List.mem_range.2 ha, by rw [hr]; rfl⟩)
end Go.Proofs.Ytgkfddcmngodgaa
