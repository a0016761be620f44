/- Lists in their order, each once, the greatest first: one more is put in; nothing of the program. -/
import Derived.Test.YtmaplmgecohjbaaGLex
namespace Go.Proofs.Ytmaplmgecohjbaa

/-- Less, of two lists of n numbers. -/
def ltT (n : Nat) (a b : List Nat) : Prop := LexLt n (fun i => a.getD i 0) (fun i => b.getD i 0)
theorem ltT.ne {n : Nat} {a b : List Nat} (h : ltT n a b) : a ≠ b := fun e => by subst e; exact LexLt.irrefl h
theorem ltT.trans {n : Nat} {a b c : List Nat} (h : ltT n a b) (h' : ltT n b c) : ltT n a c := LexLt.trans h h'
theorem ltT_total {n : Nat} {a b : List Nat} (ha : a.length = n) (hb : b.length = n) (h : ¬ ltT n a b) (h' : ¬ ltT n b a) : a = b := by
  have e := lex_total h h'
  refine List.ext_getElem (by omega) fun i h1 h2 => ?_
  have := e i (by omega)
  simpa [h1, h2] using this

theorem desc_one {n : Nat} : ∀ {T T' : List (List Nat)}, (T.Pairwise fun a b => ltT n b a) → (T'.Pairwise fun a b => ltT n b a) → (∀ y, y ∈ T ↔ y ∈ T') → T = T'
  | [], [], _, _, _ => rfl
  | [], b :: T', _, _, h => absurd ((h b).2 (by simp)) (by simp)
  | a :: T, [], _, _, h => absurd ((h a).1 (by simp)) (by simp)
  | a :: T, b :: T', p, q, h => by
    obtain ⟨p1, p2⟩ := List.pairwise_cons.1 p
    obtain ⟨q1, q2⟩ := List.pairwise_cons.1 q
    have e : a = b := by
      rcases List.mem_cons.1 ((h a).1 (by simp)) with e | e
      · exact e
      · rcases List.mem_cons.1 ((h b).2 (by simp)) with e' | e'
        · exact e'.symm
        · exact absurd rfl ((q1 a e).trans (p1 b e')).ne
    subst e
    rw [desc_one p2 q2 fun y => ⟨fun hy => ?_, fun hy => ?_⟩]
    · rcases List.mem_cons.1 ((h y).1 (by simp [hy])) with e | e
      · exact absurd e (p1 y hy).ne
      · exact e
    · rcases List.mem_cons.1 ((h y).2 (by simp [hy])) with e | e
      · exact absurd e (q1 y hy).ne
      · exact e

/-- The unlike ones of Z, the greatest first. -/
structure TIs (n : Nat) (Z T : List (List Nat)) : Prop where
  desc : T.Pairwise fun a b => ltT n b a
  mem : ∀ y, y ∈ T ↔ y ∈ Z
  len : ∀ y ∈ Z, y.length = n
theorem TIs.nil (n : Nat) : TIs n [] [] := ⟨List.Pairwise.nil, fun _ => Iff.rfl, fun y h => by simp at h⟩
theorem TIs.nodup {n : Nat} {Z T : List (List Nat)} (h : TIs n Z T) : T.Nodup := h.desc.imp fun h => h.ne.symm
theorem TIs.lt {n : Nat} {Z T : List (List Nat)} (h : TIs n Z T) {i j : Nat} {a b : List Nat} (hij : i < j) (ha : T[i]? = some a) (hb : T[j]? = some b) : ltT n b a := by
  obtain ⟨hi, rfl⟩ := List.getElem?_eq_some_iff.1 ha
  obtain ⟨hj, rfl⟩ := List.getElem?_eq_some_iff.1 hb
  exact List.pairwise_iff_getElem.1 h.desc i j hi hj hij
theorem TIs.lenT {n : Nat} {Z T : List (List Nat)} (h : TIs n Z T) {i : Nat} {a : List Nat} (ha : T[i]? = some a) : a.length = n := h.len a ((h.mem a).1 (List.mem_of_getElem? ha))
theorem TIs.same {n : Nat} {Z T : List (List Nat)} (h : TIs n Z T) {t : List Nat} (ht : t ∈ T) : TIs n (Z ++ [t]) T :=
  ⟨h.desc, fun y => by
    rw [List.mem_append, List.mem_singleton, h.mem y]
    exact ⟨.inl, fun e => e.elim id fun e => by subst e; exact (h.mem y).1 ht⟩, fun y hy => by
    rcases List.mem_append.1 hy with e | e
    · exact h.len y e
    · rw [List.mem_singleton.1 e]; exact h.len t ((h.mem t).1 ht)⟩
theorem TIs.fresh {n : Nat} {Z T : List (List Nat)} (h : TIs n Z T) {t : List Nat} {k : Nat} (hl : ∀ j y, j < k → T[j]? = some y → ltT n t y) (hr : ∀ y, T[k]? = some y → ltT n y t) : t ∉ Z := fun ht => by
  obtain ⟨j, hj⟩ := List.getElem?_of_mem ((h.mem t).2 ht)
  rcases Nat.lt_trichotomy j k with e | e | e
  · exact (hl j t e hj).ne rfl
  · subst e; exact (hr t hj).ne rfl
  · have hk : k < T.length := Nat.lt_trans e (List.getElem?_eq_some_iff.1 hj).1
    have h1 := List.getElem?_eq_getElem hk
    exact ((h.lt e h1 hj).trans (hr _ h1)).ne rfl
theorem TIs.ins {n : Nat} {Z T : List (List Nat)} (h : TIs n Z T) {t : List Nat} {k : Nat} (hn : t.length = n) (hl : ∀ j y, j < k → T[j]? = some y → ltT n t y) (hr : ∀ y, T[k]? = some y → ltT n y t) : TIs n (Z ++ [t]) (T.take k ++ t :: T.drop k) := by
  have hd := h.desc
  rw [← List.take_append_drop k T] at hd
  obtain ⟨d1, d2, d3⟩ := List.pairwise_append.1 hd
  refine ⟨List.pairwise_append.2 ⟨d1, List.pairwise_cons.2 ⟨fun y hy => ?_, d2⟩, fun a ha b hb => ?_⟩, fun y => ?_, fun y hy => ?_⟩
  · obtain ⟨j, hj⟩ := List.getElem?_of_mem hy
    rw [List.getElem?_drop] at hj
    cases j with
    | zero => exact hr y hj
    | succ j =>
      have hk : k < T.length := by have := (List.getElem?_eq_some_iff.1 hj).1; omega
      have h1 := List.getElem?_eq_getElem hk
      exact (h.lt (by omega) h1 hj).trans (hr _ h1)
  · rcases List.mem_cons.1 hb with e | e
    · subst e
      obtain ⟨j, hj⟩ := List.getElem?_of_mem ha
      rw [List.getElem?_take] at hj
      by_cases hjk : j < k
      · rw [if_pos hjk] at hj
        exact hl j a hjk hj
      · rw [if_neg hjk] at hj; simp at hj
    · exact d3 a ha b e
  · have e := h.mem y
    rw [← List.take_append_drop k T] at e
    simp only [List.mem_append, List.mem_cons] at e ⊢
    simp only [List.not_mem_nil, or_false]
    rw [← e]
    constructor
    · rintro (h | h | h)
      · exact .inl (.inl h)
      · exact .inr h
      · exact .inl (.inr h)
    · rintro ((h | h) | h)
      · exact .inl h
      · exact .inr (.inr h)
      · exact .inr (.inl h)
  · rcases List.mem_append.1 hy with e | e
    · exact h.len y e
    · rw [List.mem_singleton.1 e]; exact hn
theorem TIs.one {n : Nat} {Z Z' T T' : List (List Nat)} (h : TIs n Z T) (h' : TIs n Z' T') (e : ∀ y, y ∈ Z ↔ y ∈ Z') : T = T' :=
  desc_one h.desc h'.desc fun y => by rw [h.mem, h'.mem, e]

/-- How often, and what. -/
def rowsT (Z T : List (List Nat)) : List (List Nat) := T.map fun t => Z.count t :: t
theorem rowsT_len (Z T : List (List Nat)) : (rowsT Z T).length = T.length := by simp [rowsT]
theorem rowsT_at {Z T : List (List Nat)} {i : Nat} {t : List Nat} (h : T[i]? = some t) : (rowsT Z T)[i]? = some (Z.count t :: t) := by simp [rowsT, h]
theorem rowsT_same {Z T : List (List Nat)} {t : List Nat} {k : Nat} (nd : T.Nodup) (hk : T[k]? = some t) : rowsT (Z ++ [t]) T = (rowsT Z T).set k ((Z.count t + 1) :: t) := by
  obtain ⟨hk1, rfl⟩ := List.getElem?_eq_some_iff.1 hk
  refine List.ext_getElem (by simp [rowsT]) fun i h1 h2 => ?_
  rw [List.getElem_set]
  simp only [rowsT, List.getElem_map, List.count_append, List.count_singleton]
  by_cases e : k = i
  · subst e; simp
  · rw [if_neg e, if_neg]
    · rfl
    · simp only [beq_iff_eq]
      intro e'
      have hi : i < T.length := by simpa [rowsT] using h1
      rcases Nat.lt_or_gt_of_ne e with h | h
      · exact List.pairwise_iff_getElem.1 nd k i hk1 hi h e'
      · exact List.pairwise_iff_getElem.1 nd i k hi hk1 h e'.symm
theorem rowsT_ins {Z T : List (List Nat)} {t : List Nat} {k : Nat} (hZ : t ∉ Z) (hT : ∀ y, y ∈ T → y ∈ Z) : rowsT (Z ++ [t]) (T.take k ++ t :: T.drop k) = (rowsT Z T).take k ++ (1 :: t) :: (rowsT Z T).drop k := by
  unfold rowsT
  rw [List.map_append, List.map_cons, ← List.map_take, ← List.map_drop]
  have key : ∀ K : List (List Nat), (∀ y ∈ K, y ∈ T) → (K.map fun t' => (Z ++ [t]).count t' :: t') = K.map fun t' => Z.count t' :: t' := fun K hK => List.map_congr_left fun y hy => by
    rw [List.count_append, List.count_singleton, if_neg]
    · rfl
    · simp only [beq_iff_eq]
      intro e; subst e; exact hZ (hT _ (hK _ hy))
  rw [key _ fun y hy => List.mem_of_mem_take hy, key _ fun y hy => List.mem_of_mem_drop hy]
  rw [List.count_append, List.count_eq_zero.2 hZ]
  simp

end Go.Proofs.Ytmaplmgecohjbaa
