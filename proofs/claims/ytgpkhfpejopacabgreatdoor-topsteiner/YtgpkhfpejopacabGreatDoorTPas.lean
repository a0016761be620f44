/- Pasch's sets of four, counted along points and along blocks; nothing of the program. -/
import Derived.Test.YtgpkhfpejopacabGreatDoorTDou
namespace Go.Proofs.YtgpkhfpejopacabGreatDoor

def sm (n : Nat) (f : Nat → Nat) : Nat := dS (List.range n) f
theorem sm_congr {n : Nat} {f g : Nat → Nat} (h : ∀ i, i < n → f i = g i) : sm n f = sm n g := dS_congr fun i hi => h i (List.mem_range.1 hi)
theorem sm_swap (n m : Nat) (f : Nat → Nat → Nat) : sm n (fun a => sm m (f a)) = sm m fun b => sm n fun a => f a b := dS_swap f _ _
theorem sm_add (n : Nat) (f g : Nat → Nat) : sm n (fun a => f a + g a) = sm n f + sm n g := dS_add f g _
section four
variable {n : Nat} {q : Nat → Nat → Nat → Nat → Nat}
/-- The sum over those that a truth picks. -/
def T4 (n : Nat) (q : Nat → Nat → Nat → Nat → Nat) (p : Nat → Nat → Nat → Nat → Bool) : Nat := sm n fun i => sm n fun j => sm n fun k => sm n fun l => if p i j k l = true then q i j k l else 0
theorem T4_congr {p r : Nat → Nat → Nat → Nat → Bool} (h : ∀ i j k l, p i j k l = r i j k l) : T4 n q p = T4 n q r :=
  sm_congr fun i _ => sm_congr fun j _ => sm_congr fun k _ => sm_congr fun l _ => by rw [h]
theorem T4_add {p r s : Nat → Nat → Nat → Nat → Bool} (h : ∀ i j k l, q i j k l = 0 ∨ ((p i j k l = true ↔ (r i j k l = true ∨ s i j k l = true)) ∧ ¬ (r i j k l = true ∧ s i j k l = true))) : T4 n q p = T4 n q r + T4 n q s := by
  unfold T4
  rw [← sm_add]; refine sm_congr fun i _ => ?_
  rw [← sm_add]; refine sm_congr fun j _ => ?_
  rw [← sm_add]; refine sm_congr fun k _ => ?_
  rw [← sm_add]; refine sm_congr fun l _ => ?_
  rcases h i j k l with h | ⟨h1, h2⟩
  · simp [h]
  · by_cases e1 : r i j k l = true <;> by_cases e2 : s i j k l = true
    · exact (h2 ⟨e1, e2⟩).elim
    · rw [if_pos (h1.2 (.inl e1)), if_pos e1, if_neg e2, Nat.add_zero]
    · rw [if_pos (h1.2 (.inr e2)), if_neg e1, if_pos e2, Nat.zero_add]
    · rw [if_neg fun e => (h1.1 e).elim e1 e2, if_neg e1, if_neg e2]
theorem T12 (s1 : ∀ i j k l, q i j k l = q j i k l) (p : Nat → Nat → Nat → Nat → Bool) : T4 n q (fun i j k l => p j i k l) = T4 n q p := by
  unfold T4
  rw [sm_swap]
  exact sm_congr fun i _ => sm_congr fun j _ => sm_congr fun k _ => sm_congr fun l _ => by rw [s1 j i k l]
theorem T23 (s2 : ∀ i j k l, q i j k l = q i k j l) (p : Nat → Nat → Nat → Nat → Bool) : T4 n q (fun i j k l => p i k j l) = T4 n q p := by
  unfold T4
  refine sm_congr fun i _ => ?_
  rw [sm_swap]
  exact sm_congr fun j _ => sm_congr fun k _ => sm_congr fun l _ => by rw [s2 i k j l]
theorem T34 (s3 : ∀ i j k l, q i j k l = q i j l k) (p : Nat → Nat → Nat → Nat → Bool) : T4 n q (fun i j k l => p i j l k) = T4 n q p := by
  unfold T4
  refine sm_congr fun i _ => sm_congr fun j _ => ?_
  rw [sm_swap]
  exact sm_congr fun k _ => sm_congr fun l _ => by rw [s3 i j l k]
theorem T13 (s1 : ∀ i j k l, q i j k l = q j i k l) (s2 : ∀ i j k l, q i j k l = q i k j l) (p : Nat → Nat → Nat → Nat → Bool) : T4 n q (fun i j k l => p k j i l) = T4 n q p :=
  (T12 s1 fun a b c d => p c a b d).trans ((T23 s2 fun a b c d => p b a c d).trans (T12 s1 p))
theorem T24 (s2 : ∀ i j k l, q i j k l = q i k j l) (s3 : ∀ i j k l, q i j k l = q i j l k) (p : Nat → Nat → Nat → Nat → Bool) : T4 n q (fun i j k l => p i l k j) = T4 n q p :=
  (T34 s3 fun a b c d => p a c d b).trans ((T23 s2 fun a b c d => p a b d c).trans (T34 s3 p))
theorem T14 (s1 : ∀ i j k l, q i j k l = q j i k l) (s2 : ∀ i j k l, q i j k l = q i k j l) (s3 : ∀ i j k l, q i j k l = q i j l k) (p : Nat → Nat → Nat → Nat → Bool) : T4 n q (fun i j k l => p l j k i) = T4 n q p :=
  (T34 s3 fun a b c d => p c b d a).trans ((T13 s1 s2 fun a b c d => p a b d c).trans (T34 s3 p))
/-- A sum over all that does not tell the four apart: 24 times the one over those in order. -/
theorem four_sym (s1 : ∀ i j k l, q i j k l = q j i k l) (s2 : ∀ i j k l, q i j k l = q i k j l) (s3 : ∀ i j k l, q i j k l = q i j l k) (h0 : ∀ i j k, q i j k k = 0) :
    (sm n fun i => sm n fun j => sm n fun k => sm n fun l => q i j k l) = 24 * T4 n q (fun i j k l => decide (i < j ∧ j < k ∧ k < l)) := by
  have z34 : ∀ {i j k l}, k = l → q i j k l = 0 := fun {i j k l} h => by subst h; exact h0 i j k
  have z24 : ∀ {i j k l}, j = l → q i j k l = 0 := fun {i j k l} h => by rw [s2]; exact z34 h
  have z23 : ∀ {i j k l}, j = k → q i j k l = 0 := fun {i j k l} h => by rw [s3]; exact z24 h
  have z13 : ∀ {i j k l}, i = k → q i j k l = 0 := fun {i j k l} h => by rw [s1]; exact z23 h
  have z12 : ∀ {i j k l}, i = j → q i j k l = 0 := fun {i j k l} h => by rw [s2]; exact z13 h
  have z14 : ∀ {i j k l}, i = l → q i j k l = 0 := fun {i j k l} h => by rw [s3]; exact z13 h
  have a0 : (sm n fun i => sm n fun j => sm n fun k => sm n fun l => q i j k l) = T4 n q fun _ _ _ _ => true := by
    unfold T4; simp
  have a1 : T4 n q (fun _ _ _ _ => true) = T4 n q (fun i j k l => decide (k < l)) + T4 n q (fun i j k l => decide (l < k)) := T4_add fun i j k l => by
    by_cases e : k = l
    · exact .inl (z34 e)
    · right; simp only [decide_eq_true_eq, true_iff]; omega
  have a2 : T4 n q (fun i j k l => decide (l < k)) = T4 n q (fun i j k l => decide (k < l)) := T34 s3 fun i j k l => decide (k < l)
  have b1 : T4 n q (fun i j k l => decide (k < l)) = T4 n q (fun i j k l => decide (j < k ∧ k < l)) + T4 n q (fun i j k l => decide (k < j ∧ k < l)) := T4_add fun i j k l => by
    by_cases e : j = k
    · exact .inl (z23 e)
    · right; simp only [decide_eq_true_eq]; omega
  have b2 : T4 n q (fun i j k l => decide (k < j ∧ k < l)) = T4 n q (fun i j k l => decide (k < j ∧ j < l)) + T4 n q (fun i j k l => decide (k < l ∧ l < j)) := T4_add fun i j k l => by
    by_cases e : j = l
    · exact .inl (z24 e)
    · right; simp only [decide_eq_true_eq]; omega
  have b3 : T4 n q (fun i j k l => decide (k < j ∧ j < l)) = T4 n q (fun i j k l => decide (j < k ∧ k < l)) := T23 s2 fun i j k l => decide (j < k ∧ k < l)
  have b4 : T4 n q (fun i j k l => decide (k < l ∧ l < j)) = T4 n q (fun i j k l => decide (k < j ∧ j < l)) := T24 s2 s3 fun i j k l => decide (k < j ∧ j < l)
  have c1 : T4 n q (fun i j k l => decide (j < k ∧ k < l)) = T4 n q (fun i j k l => decide (i < j ∧ j < k ∧ k < l)) + T4 n q (fun i j k l => decide (j < i ∧ j < k ∧ k < l)) := T4_add fun i j k l => by
    by_cases e : i = j
    · exact .inl (z12 e)
    · right; simp only [decide_eq_true_eq]; omega
  have c2 : T4 n q (fun i j k l => decide (j < i ∧ j < k ∧ k < l)) = T4 n q (fun i j k l => decide (j < i ∧ i < k ∧ k < l)) + T4 n q (fun i j k l => decide (j < k ∧ k < i ∧ k < l)) := T4_add fun i j k l => by
    by_cases e : i = k
    · exact .inl (z13 e)
    · right; simp only [decide_eq_true_eq]; omega
  have c3 : T4 n q (fun i j k l => decide (j < k ∧ k < i ∧ k < l)) = T4 n q (fun i j k l => decide (j < k ∧ k < i ∧ i < l)) + T4 n q (fun i j k l => decide (j < k ∧ k < l ∧ l < i)) := T4_add fun i j k l => by
    by_cases e : i = l
    · exact .inl (z14 e)
    · right; simp only [decide_eq_true_eq]; omega
  have c4 : T4 n q (fun i j k l => decide (j < i ∧ i < k ∧ k < l)) = T4 n q (fun i j k l => decide (i < j ∧ j < k ∧ k < l)) := T12 s1 fun i j k l => decide (i < j ∧ j < k ∧ k < l)
  have c5 : T4 n q (fun i j k l => decide (j < k ∧ k < i ∧ i < l)) = T4 n q (fun i j k l => decide (j < i ∧ i < k ∧ k < l)) := T13 s1 s2 fun i j k l => decide (j < i ∧ i < k ∧ k < l)
  have c6 : T4 n q (fun i j k l => decide (j < k ∧ k < l ∧ l < i)) = T4 n q (fun i j k l => decide (j < k ∧ k < i ∧ i < l)) := T14 s1 s2 s3 fun i j k l => decide (j < k ∧ k < i ∧ i < l)
  omega
end four

/-- Lists of pairs. -/
def pr2 {α β : Type} (A : List α) (B : List β) : List (α × β) := A.flatMap fun a => B.map fun b => (a, b)
theorem mem_pr2 {α β : Type} {A : List α} {B : List β} {x : α × β} : x ∈ pr2 A B ↔ x.1 ∈ A ∧ x.2 ∈ B := by
  obtain ⟨a, b⟩ := x
  unfold pr2
  simp only [List.mem_flatMap, List.mem_map, Prod.mk.injEq]
  exact ⟨fun ⟨_, h1, _, h2, h3, h4⟩ => ⟨h3 ▸ h1, h4 ▸ h2⟩, fun ⟨h1, h2⟩ => ⟨a, h1, b, h2, rfl, rfl⟩⟩
theorem nodup_pr2 {α β : Type} {A : List α} {B : List β} (hA : A.Nodup) (hB : B.Nodup) : (pr2 A B).Nodup := by
  unfold pr2 List.Nodup
  rw [List.pairwise_flatMap]
  refine ⟨fun a _ => ?_, hA.imp fun {a b} hab x hx y hy e => ?_⟩
  · rw [List.pairwise_map]
    exact hB.imp fun {x y} h e => h (Prod.mk.inj e).2
  · obtain ⟨_, _, rfl⟩ := List.mem_map.1 hx
    obtain ⟨_, _, rfl⟩ := List.mem_map.1 hy
    exact hab (Prod.mk.inj e).1
theorem countP_pr2 {α β : Type} (p : α × β → Bool) (B : List β) : ∀ A : List α, (pr2 A B).countP p = dS A fun a => B.countP fun b => p (a, b)
  | [] => rfl
  | a :: A => by
    have ih := countP_pr2 p B A
    unfold pr2 at ih ⊢
    rw [List.flatMap_cons, List.countP_append, ih, List.countP_map, dS_cons]
    rfl
/-- What two lists have, one to one. -/
theorem sub_len {α : Type} [DecidableEq α] : ∀ {A B : List α}, A.Nodup → (∀ x ∈ A, x ∈ B) → A.length ≤ B.length
  | [], _, _, _ => Nat.zero_le _
  | a :: A, B, hn, h => by
    have hn' := List.nodup_cons.1 hn
    have := sub_len (B := B.erase a) hn'.2 fun x hx => by
      have hne : x ≠ a := fun e => hn'.1 (by rw [← e]; exact hx)
      exact (List.mem_erase_of_ne hne).2 (h x (List.mem_cons_of_mem _ hx))
    rw [List.length_erase_of_mem (h a List.mem_cons_self)] at this
    have : 0 < B.length := List.length_pos_of_mem (h a List.mem_cons_self)
    simp only [List.length_cons]
    omega
theorem bij_le {α β : Type} [DecidableEq β] {R : α → β → Prop} {A : List α} {B : List β} (hA : A.Nodup) (h1 : ∀ a ∈ A, ∃ b ∈ B, R a b) (h4 : ∀ a a' b, R a b → R a' b → a = a') : A.length ≤ B.length := by
  have hf : ∀ a : α, ∃ b : Option β, a ∈ A → ∃ c, b = some c ∧ c ∈ B ∧ R a c := fun a => by
    by_cases e : a ∈ A
    · obtain ⟨b, h2, h3⟩ := h1 a e; exact ⟨some b, fun _ => ⟨b, rfl, h2, h3⟩⟩
    · exact ⟨none, fun h => (e h).elim⟩
  obtain ⟨f, hf⟩ := Classical.axiomOfChoice hf
  have hn : (A.map f).Nodup := by
    unfold List.Nodup
    rw [List.pairwise_map]
    refine (List.pairwise_iff_forall_sublist.2 fun {a b} hs e => ?_)
    have ha : a ∈ A := hs.subset (by simp)
    have hb : b ∈ A := hs.subset (by simp)
    have hab : a ≠ b := List.pairwise_iff_forall_sublist.1 hA hs
    obtain ⟨c, e1, _, r1⟩ := hf a ha
    obtain ⟨d, e2, _, r2⟩ := hf b hb
    rw [e1, e2] at e
    cases e
    exact hab (h4 _ _ _ r1 r2)
  have := sub_len (B := B.map some) hn fun x hx => by
    obtain ⟨a, ha, rfl⟩ := List.mem_map.1 hx
    obtain ⟨c, e1, hc, _⟩ := hf a ha
    rw [e1]; exact List.mem_map_of_mem hc
  simpa using this
theorem bij_len {α β : Type} [DecidableEq α] [DecidableEq β] {R : α → β → Prop} {A : List α} {B : List β} (hA : A.Nodup) (hB : B.Nodup) (h1 : ∀ a ∈ A, ∃ b ∈ B, R a b) (h2 : ∀ b ∈ B, ∃ a ∈ A, R a b)
    (h3 : ∀ a b b', R a b → R a b' → b = b') (h4 : ∀ a a' b, R a b → R a' b → a = a') : A.length = B.length :=
  Nat.le_antisymm (bij_le hA h1 h4) (bij_le (R := fun b a => R a b) hB h2 fun b b' a => h3 a b b')

end Go.Proofs.YtgpkhfpejopacabGreatDoor
