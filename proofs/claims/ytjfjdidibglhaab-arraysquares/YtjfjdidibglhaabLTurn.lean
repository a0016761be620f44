/- Latin squares and what turns their triples round: as many transversals, as many intercalates; nothing of the program. -/
import Derived.Test.YtjfjdidibglhaabGPure
import Derived.Test.YtjfjdidibglhaabLHall
namespace Go.Proofs.Ytjfjdidibglhaab

/-- A Latin square. -/
structure Lat (n : Nat) (s : Nat → Nat → Nat) : Prop where
  lt : ∀ i j, i < n → j < n → s i j < n
  row : ∀ i, i < n → ∀ j k, j < n → k < n → s i j = s i k → j = k
  col : ∀ j, j < n → ∀ i k, i < n → k < n → s i j = s k j → i = k
theorem Lat.onto {n : Nat} {s : Nat → Nat → Nat} (h : Lat n s) {i x : Nat} (hi : i < n) (hx : x < n) : ∃ j, j < n ∧ s i j = x := inj_onto (fun j hj => h.lt i j hi hj) (h.row i hi) hx
theorem Lat.ontoC {n : Nat} {s : Nat → Nat → Nat} (h : Lat n s) {j x : Nat} (hj : j < n) (hx : x < n) : ∃ i, i < n ∧ s i j = x := inj_onto (f := fun i => s i j) (fun i hi => h.lt i j hi hj) (h.col j hj) hx
/-- Numbers and columns change their parts. -/
def C1 (n : Nat) (s s' : Nat → Nat → Nat) : Prop := ∀ i j, i < n → j < n → s' i (s i j) = j
/-- Rows and columns change their parts. -/
def C2 (n : Nat) (s s' : Nat → Nat → Nat) : Prop := ∀ i j, i < n → j < n → s' j i = s i j
theorem C1.symm {n : Nat} {s s' : Nat → Nat → Nat} (L : Lat n s) (h : C1 n s s') : C1 n s' s := fun i x hi hx => by
  obtain ⟨j, hj, rfl⟩ := L.onto hi hx
  rw [h i j hi hj]
theorem C2.symm {n : Nat} {s s' : Nat → Nat → Nat} (h : C2 n s s') : C2 n s' s := fun i j hi hj => (h j i hj hi).symm
theorem C1.lat {n : Nat} {s s' : Nat → Nat → Nat} (L : Lat n s) (h : C1 n s s') : Lat n s' := by
  have hb := h.symm L
  refine ⟨fun i x hi hx => ?_, fun i hi x y hx hy e => ?_, fun x hx i k hi hk e => ?_⟩
  · obtain ⟨j, hj, rfl⟩ := L.onto hi hx
    rw [h i j hi hj]; exact hj
  · rw [← hb i x hi hx, ← hb i y hi hy, e]
  · obtain ⟨j, hj, ej⟩ := L.onto hi hx
    have h1 : s' i x = j := by rw [← ej]; exact h i j hi hj
    have h2 := hb k x hk hx
    rw [← e, h1] at h2
    exact L.col j hj i k hi hk (ej.trans h2.symm)
theorem C2.lat {n : Nat} {s s' : Nat → Nat → Nat} (L : Lat n s) (h : C2 n s s') : Lat n s' :=
  ⟨fun i j hi hj => by rw [h j i hj hi]; exact L.lt j i hj hi, fun i hi j k hj hk e => by rw [h j i hj hi, h k i hk hi] at e; exact L.col i hi j k hj hk e, fun j hj i k hi hk e => by rw [h j i hj hi, h j k hj hk] at e; exact L.row j hj i k hi hk e⟩

/-- The order of the columns meets each number. -/
def Tr (n : Nat) (s : Nat → Nat → Nat) (a : List Nat) : Prop := ∀ i j, i < n → j < n → s i (a.getD i 0) = s j (a.getD j 0) → i = j
noncomputable def trN (n : Nat) (s : Nat → Nat → Nat) : Nat := (els n (Tr n s)).length
theorem map_at {n : Nat} {f : Nat → Nat} {i : Nat} (hi : i < n) : ((List.range n).map f).getD i 0 = f i := by simp [hi]
theorem els_le {n : Nat} {G G' : List Nat → Prop} (φ : List Nat → List Nat) (h : ∀ a, IsP n a → G a → IsP n (φ a) ∧ G' (φ a)) (hi : ∀ a b, IsP n a → G a → IsP n b → G b → φ a = φ b → a = b) : (els n G).length ≤ (els n G').length := by
  have h1 := lhall_sub (A := (els n G).map φ) (B := els n G') (by
    rw [List.nodup_iff_pairwise_ne, List.pairwise_map]
    refine List.Pairwise.imp_of_mem (fun {a b} ha hb hab e => hab ?_) (els_nodup n G)
    exact hi a b (mem_els.1 ha).1 (mem_els.1 ha).2 (mem_els.1 hb).1 (mem_els.1 hb).2 e) fun x hx => by
    obtain ⟨a, ha, rfl⟩ := List.mem_map.1 hx
    exact mem_els.2 (h a (mem_els.1 ha).1 (mem_els.1 ha).2)
  rw [List.length_map] at h1
  exact h1
theorem tr_le1 {n : Nat} {s s' : Nat → Nat → Nat} (L : Lat n s) (h : C1 n s s') : trN n s ≤ trN n s' := by
  refine els_le (fun a => (List.range n).map fun i => s i (a.getD i 0)) (fun a ha ht => ⟨isP_of ⟨fun i hi => L.lt i _ hi (ha.at hi), fun i j hi hj e => ht i j hi hj e⟩, fun i j hi hj e => ?_⟩) (fun a b ha _ hb _ e => ?_)
  · rw [map_at hi, map_at hj, h i _ hi (ha.at hi), h j _ hj (ha.at hj)] at e
    exact ha.pm.inj i j hi hj e
  · refine isP_ext ha.len hb.len fun i hi => ?_
    have := congrArg (fun l => l.getD i 0) e
    simp only [map_at hi] at this
    exact L.row i hi _ _ (ha.at hi) (hb.at hi) this
theorem tr_one {n : Nat} {s s' : Nat → Nat → Nat} (L : Lat n s) (h : C1 n s s') : trN n s = trN n s' := Nat.le_antisymm (tr_le1 L h) (tr_le1 (h.lat L) (h.symm L))
/-- The order that leads back. -/
noncomputable def bkL (n : Nat) (a : List Nat) : List Nat := (List.range n).map fun j => ((List.range n).find? fun i => a.getD i 0 == j).getD 0
theorem bk_at {n : Nat} {a : List Nat} (ha : IsP n a) {j : Nat} (hj : j < n) : (bkL n a).getD j 0 < n ∧ a.getD ((bkL n a).getD j 0) 0 = j := by
  unfold bkL
  rw [map_at hj]
  obtain ⟨i, hi, e⟩ := inj_onto ha.pm.lt ha.pm.inj hj
  cases hf : (List.range n).find? fun i => a.getD i 0 == j with
  | none =>
    rw [List.find?_eq_none] at hf
    exact absurd (beq_iff_eq.2 e) (hf i (List.mem_range.2 hi))
  | some k =>
    have h1 := List.find?_some hf
    have h2 := List.mem_of_find?_eq_some hf
    exact ⟨List.mem_range.1 h2, by simpa using h1⟩
theorem bk_isP {n : Nat} {a : List Nat} (ha : IsP n a) : IsP n (bkL n a) := by
  refine isP_of ⟨fun j hj => ?_, fun i j hi hj e => ?_⟩
  · have := (bk_at ha hj).1
    unfold bkL at this
    rwa [map_at hj] at this
  · have h1 := (bk_at ha hi).2
    have h2 := (bk_at ha hj).2
    unfold bkL at h1 h2
    rw [map_at hi] at h1
    rw [map_at hj] at h2
    rw [← h1, ← h2, e]
theorem bk_of {n : Nat} {a : List Nat} (ha : IsP n a) {i : Nat} (hi : i < n) : (bkL n a).getD (a.getD i 0) 0 = i := by
  have h := bk_at ha (ha.at hi)
  exact ha.pm.inj _ i h.1 hi h.2
theorem tr_le2 {n : Nat} {s s' : Nat → Nat → Nat} (h : C2 n s s') : trN n s ≤ trN n s' := by
  refine els_le (bkL n) (fun a ha ht => ⟨bk_isP ha, fun i j hi hj e => ?_⟩) (fun a b ha _ hb _ e => ?_)
  · have h1 := bk_at ha hi
    have h2 := bk_at ha hj
    rw [h _ i h1.1 hi, h _ j h2.1 hj] at e
    have h3 := ht _ _ h1.1 h2.1 (by rw [h1.2, h2.2]; exact e)
    rw [← h1.2, ← h2.2, h3]
  · refine isP_ext ha.len hb.len fun i hi => ?_
    have h1 := bk_of ha hi
    rw [e] at h1
    have h2 := (bk_at hb (ha.at hi)).2
    rw [h1] at h2
    exact h2.symm
theorem tr_two {n : Nat} {s s' : Nat → Nat → Nat} (h : C2 n s s') : trN n s = trN n s' := Nat.le_antisymm (tr_le2 h) (tr_le2 h.symm)

/-- A sum over the numbers below n. -/
def Sm (n : Nat) (f : Nat → Nat) : Nat := ((List.range n).map f).sum
theorem Sm_congr {n : Nat} {f g : Nat → Nat} (h : ∀ i, i < n → f i = g i) : Sm n f = Sm n g := by
  unfold Sm
  rw [List.map_congr_left fun i hi => h i (List.mem_range.1 hi)]
theorem Sm_add (n : Nat) (f g : Nat → Nat) : Sm n (fun i => f i + g i) = Sm n f + Sm n g := sum_two f g _
theorem Sm_succ (n : Nat) (f : Nat → Nat) : Sm (n + 1) f = Sm n f + f n := by
  unfold Sm
  rw [List.range_succ, List.map_append, List.sum_append]
  simp
theorem Sm_zero (m : Nat) : Sm m (fun _ => 0) = 0 := by
  induction m with
  | zero => rfl
  | succ m ih => rw [Sm_succ, ih]
theorem Sm_swap (n m : Nat) (f : Nat → Nat → Nat) : Sm n (fun i => Sm m fun j => f i j) = Sm m fun j => Sm n fun i => f i j := by
  induction n with
  | zero => exact (Sm_zero m).symm
  | succ n ih =>
    rw [Sm_succ, ih, ← Sm_add]
    exact Sm_congr fun j _ => (Sm_succ n fun i => f i j).symm
theorem Sm_perm {n : Nat} {σ : Nat → Nat} (hlt : ∀ i, i < n → σ i < n) (h : ∀ i j, i < n → j < n → σ i = σ j → i = j) (f : Nat → Nat) : Sm n (fun i => f (σ i)) = Sm n f := by
  unfold Sm
  have := sum_perm ((perm_range hlt h).map f)
  rw [List.map_map] at this
  exact this
/-- Two rows and two columns with just two numbers. -/
def Ic (s : Nat → Nat → Nat) (i k j l : Nat) : Bool := s k j == s i l && s k l == s i j
def icN (n : Nat) (s : Nat → Nat → Nat) : Nat := Sm n fun i => Sm n fun k => Sm n fun j => Sm n fun l => if i < k ∧ j < l ∧ Ic s i k j l = true then 1 else 0
theorem ic_two {n : Nat} {s s' : Nat → Nat → Nat} (h : C2 n s s') : icN n s = icN n s' := by
  unfold icN
  -- the pairs of rows behind the pairs of columns
  have e : ∀ f : Nat → Nat → Nat → Nat → Nat, (Sm n fun i => Sm n fun k => Sm n fun j => Sm n fun l => f i k j l) = Sm n fun j => Sm n fun l => Sm n fun i => Sm n fun k => f i k j l := fun f => by
    have h1 : (Sm n fun i => Sm n fun k => Sm n fun j => Sm n fun l => f i k j l) = Sm n fun i => Sm n fun j => Sm n fun l => Sm n fun k => f i k j l := Sm_congr fun i _ => by
      rw [Sm_swap]
      exact Sm_congr fun j _ => Sm_swap n n _
    rw [h1, Sm_swap]
    refine Sm_congr fun j _ => Sm_swap n n _
  rw [e]
  refine Sm_congr fun j hj => Sm_congr fun l hl => Sm_congr fun i hi => Sm_congr fun k hk => ?_
  have e1 : Ic s' j l i k = Ic s i k j l := by
    unfold Ic
    rw [h i l hi hl, h k j hk hj, h k l hk hl, h i j hi hj, Bool.eq_iff_iff]
    simp only [Bool.and_eq_true, beq_iff_eq]
    exact ⟨fun ⟨a, b⟩ => ⟨a.symm, b⟩, fun ⟨a, b⟩ => ⟨a.symm, b⟩⟩
  rw [e1]
  by_cases h1 : i < k <;> by_cases h2 : j < l <;> simp [h1, h2]
theorem half {n : Nat} {G : Nat → Nat → Bool} (hG : ∀ j l, G j l = G l j) : (Sm n fun j => Sm n fun l => if j ≠ l ∧ G j l = true then 1 else 0) = 2 * Sm n fun j => Sm n fun l => if j < l ∧ G j l = true then 1 else 0 := by
  have h1 : (Sm n fun j => Sm n fun l => if j ≠ l ∧ G j l = true then 1 else 0) = (Sm n fun j => Sm n fun l => if j < l ∧ G j l = true then 1 else 0) + Sm n fun j => Sm n fun l => if l < j ∧ G j l = true then 1 else 0 := by
    rw [← Sm_add]
    refine Sm_congr fun j _ => ?_
    rw [← Sm_add]
    refine Sm_congr fun l _ => ?_
    by_cases hg : G j l = true
    · simp only [hg, and_true]
      rcases Nat.lt_trichotomy j l with e | e | e
      · rw [if_pos (by omega), if_pos e, if_neg (by omega)]
      · rw [if_neg (by omega), if_neg (by omega), if_neg (by omega)]
      · rw [if_pos (by omega), if_neg (by omega), if_pos e]
    · simp [hg]
  have h2 : (Sm n fun j => Sm n fun l => if l < j ∧ G j l = true then 1 else 0) = Sm n fun j => Sm n fun l => if j < l ∧ G j l = true then 1 else 0 := by
    rw [Sm_swap]
    exact Sm_congr fun j _ => Sm_congr fun l _ => by rw [hG l j]
  rw [h1, h2]
  omega
theorem ic_one {n : Nat} {s s' : Nat → Nat → Nat} (L : Lat n s) (h : C1 n s s') : icN n s = icN n s' := by
  unfold icN
  refine Sm_congr fun i hi => Sm_congr fun k hk => ?_
  by_cases hik : i < k
  · simp only [hik, true_and]
    have hs : ∀ t j l, Ic t i k j l = Ic t i k l j := fun t j l => by
      unfold Ic
      rw [Bool.and_comm]
    have h1 := half (n := n) (G := Ic s i k) (hs s)
    have h2 := half (n := n) (G := Ic s' i k) (hs s')
    have e : (Sm n fun j => Sm n fun l => if j ≠ l ∧ Ic s i k j l = true then 1 else 0) = Sm n fun a => Sm n fun b => if a ≠ b ∧ Ic s' i k a b = true then 1 else 0 := by
      rw [← Sm_perm (σ := s i) (fun j hj => L.lt i j hi hj) (L.row i hi) (fun a => Sm n fun b => if a ≠ b ∧ Ic s' i k a b = true then 1 else 0)]
      refine Sm_congr fun j hj => ?_
      rw [← Sm_perm (σ := s i) (fun j hj => L.lt i j hi hj) (L.row i hi) (fun b => if s i j ≠ b ∧ Ic s' i k (s i j) b = true then 1 else 0)]
      refine Sm_congr fun l hl => ?_
      have hb := h.symm L
      have e1 : (j ≠ l ∧ Ic s i k j l = true) ↔ (s i j ≠ s i l ∧ Ic s' i k (s i j) (s i l) = true) := by
        unfold Ic
        simp only [Bool.and_eq_true, beq_iff_eq]
        rw [h i j hi hj, h i l hi hl]
        constructor
        · rintro ⟨h1, h2, h3⟩
          exact ⟨fun e => h1 (L.row i hi j l hj hl e), by rw [← h3]; exact h k l hk hl, by rw [← h2]; exact h k j hk hj⟩
        · rintro ⟨h1, h2, h3⟩
          refine ⟨fun e => h1 (by rw [e]), ?_, ?_⟩
          · have := hb k (s i l) hk (L.lt i l hi hl)
            rw [h3] at this; exact this
          · have := hb k (s i j) hk (L.lt i j hi hj)
            rw [h2] at this; exact this
      by_cases hh : j ≠ l ∧ Ic s i k j l = true
      · rw [if_pos hh, if_pos (e1.1 hh)]
      · rw [if_neg hh, if_neg fun h' => hh (e1.2 h')]
    omega
  · simp [hik]

end Go.Proofs.Ytjfjdidibglhaab
