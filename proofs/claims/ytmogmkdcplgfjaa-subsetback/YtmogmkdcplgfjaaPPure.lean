/- Permutations of few points as functions: going on, coming round, cycles; nothing of the program. -/
namespace Go.Proofs.Ytmogmkdcplgfjaa

theorem least_ex {p : Nat → Prop} (h : ∃ k, p k) : ∃ k, p k ∧ ∀ j, j < k → ¬ p j := by
  obtain ⟨k, hk⟩ := h
  induction k using Nat.strongRecOn with
  | _ k ih =>
    by_cases hj : ∃ j, j < k ∧ p j
    · obtain ⟨j, h1, h2⟩ := hj; exact ih j h1 h2
    · exact ⟨k, hk, fun j h1 h2 => hj ⟨j, h1, h2⟩⟩

/-- n points, each moved to one of them, no two to the same. -/
structure Pm (n : Nat) (f : Nat → Nat) : Prop where
  lt : ∀ i, i < n → f i < n
  inj : ∀ i j, i < n → j < n → f i = f j → i = j

def itr (f : Nat → Nat) : Nat → Nat → Nat
  | 0, x => x
  | k + 1, x => f (itr f k x)
theorem itr_add (f : Nat → Nat) (j k x : Nat) : itr f (j + k) x = itr f j (itr f k x) := by
  induction j with
  | zero => rw [Nat.zero_add]; rfl
  | succ j ih => rw [Nat.succ_add]; show f (itr f (j + k) x) = f (itr f j (itr f k x)); rw [ih]
theorem itr_one (f : Nat → Nat) (x : Nat) : itr f 1 x = f x := rfl
theorem itr_back (f : Nat → Nat) (k x : Nat) : itr f (k + 1) x = itr f k (f x) := itr_add f k 1 x
theorem itr_comm (f : Nat → Nat) (j k x : Nat) : itr f j (itr f k x) = itr f k (itr f j x) := by rw [← itr_add, ← itr_add, Nat.add_comm]
theorem Pm.itr_lt {n : Nat} {f : Nat → Nat} (P : Pm n f) {x : Nat} (hx : x < n) (k : Nat) : itr f k x < n := by
  induction k with
  | zero => exact hx
  | succ k ih => exact P.lt _ ih
theorem Pm.itr_inj {n : Nat} {f : Nat → Nat} (P : Pm n f) {x y : Nat} (hx : x < n) (hy : y < n) {k : Nat} (h : itr f k x = itr f k y) : x = y := by
  induction k with
  | zero => exact h
  | succ k ih => exact ih (P.inj _ _ (P.itr_lt hx k) (P.itr_lt hy k) h)
theorem Pm.pow {n : Nat} {f : Nat → Nat} (P : Pm n f) (k : Nat) : Pm n (itr f k) := ⟨fun _ h => P.itr_lt h k, fun _ _ h1 h2 h => P.itr_inj h1 h2 h⟩
theorem Pm.comp {n : Nat} {f g : Nat → Nat} (P : Pm n f) (Q : Pm n g) : Pm n (fun x => g (f x)) :=
  ⟨fun i h => Q.lt _ (P.lt i h), fun i j h1 h2 h => P.inj i j h1 h2 (Q.inj _ _ (P.lt i h1) (P.lt j h2) h)⟩
theorem Pm.id (n : Nat) : Pm n (fun x => x) := ⟨fun _ h => h, fun _ _ _ _ h => h⟩
theorem Pm.congr {n : Nat} {f g : Nat → Nat} (P : Pm n f) (e : ∀ i, i < n → f i = g i) : Pm n g :=
  ⟨fun i h => by rw [← e i h]; exact P.lt i h, fun i j h1 h2 h => P.inj i j h1 h2 (by rw [e i h1, e j h2]; exact h)⟩
theorem itr_congr {n : Nat} {f g : Nat → Nat} (P : Pm n f) (e : ∀ i, i < n → f i = g i) {x : Nat} (hx : x < n) (k : Nat) : itr f k x = itr g k x := by
  induction k with
  | zero => rfl
  | succ k ih => show f (itr f k x) = g (itr g k x); rw [← ih]; exact e _ (P.itr_lt hx k)

/-! ### Coming round -/
theorem Pm.round {n : Nat} {f : Nat → Nat} (P : Pm n f) {x : Nat} (hx : x < n) : ∃ k, 1 ≤ k ∧ k ≤ n ∧ itr f k x = x := by
  refine Classical.byContradiction fun hno => ?_
  have hne : ∀ i j, i < j → j ≤ n → itr f i x ≠ itr f j x := by
    intro i j h1 h2 h
    refine hno ⟨j - i, by omega, by omega, ?_⟩
    have h3 : itr f i (itr f (j - i) x) = itr f i x := by rw [← itr_add, show i + (j - i) = j by omega, h]
    exact P.itr_inj (P.itr_lt hx _) hx h3
  have hn : ((List.range (n + 1)).map fun k => itr f k x).Nodup := by
    rw [List.nodup_iff_pairwise_ne, List.pairwise_map]
    refine List.Pairwise.imp_of_mem (fun {a b} ha hb hab => ?_) List.pairwise_lt_range
    have := List.mem_range.1 hb
    exact hne a b hab (by omega)
  have hsub : ((List.range (n + 1)).map fun k => itr f k x) ⊆ List.range n := by
    intro y hy
    obtain ⟨k, _, rfl⟩ := List.mem_map.1 hy
    exact List.mem_range.2 (P.itr_lt hx k)
  have := hn.length_le_of_subset hsub
  simp at this
  omega

/-- After how many steps a point comes round. -/
noncomputable def per (f : Nat → Nat) (x : Nat) : Nat := open Classical in if h : ∃ k, 1 ≤ k ∧ itr f k x = x then Classical.choose (least_ex h) else 0
theorem Pm.per {n : Nat} {f : Nat → Nat} (P : Pm n f) {x : Nat} (hx : x < n) : (1 ≤ per f x ∧ per f x ≤ n ∧ itr f (per f x) x = x) ∧ ∀ j, 1 ≤ j → j < Go.Proofs.Ytmogmkdcplgfjaa.per f x → itr f j x ≠ x := by
  obtain ⟨k, h1, h2, h3⟩ := P.round hx
  have h : ∃ k, 1 ≤ k ∧ itr f k x = x := ⟨k, h1, h3⟩
  have e : Go.Proofs.Ytmogmkdcplgfjaa.per f x = Classical.choose (least_ex h) := by unfold Go.Proofs.Ytmogmkdcplgfjaa.per; rw [dif_pos h]
  have hs := Classical.choose_spec (least_ex h)
  rw [← e] at hs
  refine ⟨⟨hs.1.1, ?_, hs.1.2⟩, fun j h4 h5 h6 => hs.2 j h5 ⟨h4, h6⟩⟩
  refine Classical.byContradiction fun hn => hs.2 k (by omega) ⟨h1, h3⟩
theorem itr_mul {f : Nat → Nat} {x p : Nat} (h : itr f p x = x) (q : Nat) : itr f (q * p) x = x := by
  induction q with
  | zero => rw [Nat.zero_mul]; rfl
  | succ q ih => rw [Nat.succ_mul, itr_add, h, ih]
theorem itr_mod_of {f : Nat → Nat} {x p : Nat} (h : itr f p x = x) (N : Nat) : itr f N x = itr f (N % p) x := by
  conv => lhs; rw [← Nat.mod_add_div N p, itr_add, Nat.mul_comm, itr_mul h]
theorem Pm.itr_mod {n : Nat} {f : Nat → Nat} (P : Pm n f) {x : Nat} (hx : x < n) (N : Nat) : itr f N x = itr f (N % Go.Proofs.Ytmogmkdcplgfjaa.per f x) x := itr_mod_of (P.per hx).1.2.2 N
theorem Pm.dvd {n : Nat} {f : Nat → Nat} (P : Pm n f) {x : Nat} (hx : x < n) (N : Nat) : itr f N x = x ↔ Go.Proofs.Ytmogmkdcplgfjaa.per f x ∣ N := by
  have hp := P.per hx
  constructor
  · intro h
    rw [P.itr_mod hx] at h
    have h1 := Nat.mod_lt N (show 0 < Go.Proofs.Ytmogmkdcplgfjaa.per f x by omega)
    rcases Nat.eq_zero_or_pos (N % Go.Proofs.Ytmogmkdcplgfjaa.per f x) with h2 | h2
    · exact Nat.dvd_of_mod_eq_zero h2
    · exact absurd h (hp.2 _ h2 h1)
  · rintro ⟨q, rfl⟩
    rw [Nat.mul_comm]
    exact itr_mul hp.1.2.2 q
theorem Pm.per_itr {n : Nat} {f : Nat → Nat} (P : Pm n f) {x : Nat} (hx : x < n) (k : Nat) : Go.Proofs.Ytmogmkdcplgfjaa.per f (itr f k x) = Go.Proofs.Ytmogmkdcplgfjaa.per f x := by
  have h : ∀ N, Go.Proofs.Ytmogmkdcplgfjaa.per f (itr f k x) ∣ N ↔ Go.Proofs.Ytmogmkdcplgfjaa.per f x ∣ N := by
    intro N
    rw [← P.dvd (P.itr_lt hx k), ← P.dvd hx, itr_comm]
    exact ⟨fun h => P.itr_inj (P.itr_lt hx N) hx h, fun h => by rw [h]⟩
  exact Nat.dvd_antisymm ((h _).2 (Nat.dvd_refl _)) ((h _).1 (Nat.dvd_refl _))
theorem Pm.back {n : Nat} {f : Nat → Nat} (P : Pm n f) {x k : Nat} (hx : x < n) : ∃ j, itr f j (itr f k x) = x := by
  have hp := (P.per hx).1
  refine ⟨k * Go.Proofs.Ytmogmkdcplgfjaa.per f x - k, ?_⟩
  have : k ≤ k * Go.Proofs.Ytmogmkdcplgfjaa.per f x := Nat.le_mul_of_pos_right k (by omega)
  rw [← itr_add, show k * Go.Proofs.Ytmogmkdcplgfjaa.per f x - k + k = k * Go.Proofs.Ytmogmkdcplgfjaa.per f x by omega]
  exact itr_mul hp.2.2 k
theorem Pm.surj {n : Nat} {f : Nat → Nat} (P : Pm n f) {y : Nat} (hy : y < n) : ∃ x, x < n ∧ f x = y := by
  have hp := (P.per hy).1
  refine ⟨itr f (Go.Proofs.Ytmogmkdcplgfjaa.per f y - 1) y, P.itr_lt hy _, ?_⟩
  show itr f (Go.Proofs.Ytmogmkdcplgfjaa.per f y - 1 + 1) y = y
  rw [show Go.Proofs.Ytmogmkdcplgfjaa.per f y - 1 + 1 = Go.Proofs.Ytmogmkdcplgfjaa.per f y by omega, hp.2.2]
theorem Pm.itr_ne {n : Nat} {f : Nat → Nat} (P : Pm n f) {x : Nat} (hx : x < n) {i j : Nat} (hi : i < Go.Proofs.Ytmogmkdcplgfjaa.per f x) (hj : j < Go.Proofs.Ytmogmkdcplgfjaa.per f x) (h : itr f i x = itr f j x) : i = j := by
  have hp := P.per hx
  rcases Nat.lt_trichotomy i j with h1 | h1 | h1
  · have h3 : itr f i (itr f (j - i) x) = itr f i x := by rw [← itr_add, show i + (j - i) = j by omega, h]
    exact absurd (P.itr_inj (P.itr_lt hx _) hx h3) (hp.2 _ (by omega) (by omega))
  · exact h1
  · have h3 : itr f j (itr f (i - j) x) = itr f j x := by rw [← itr_add, show j + (i - j) = i by omega, h]
    exact absurd (P.itr_inj (P.itr_lt hx _) hx h3) (hp.2 _ (by omega) (by omega))

/-! ### Cycles, each from its least point on -/
def leadB (n : Nat) (f : Nat → Nat) (i : Nat) : Bool := (List.range n).all fun k => decide (i ≤ itr f k i)
theorem Pm.lead {n : Nat} {f : Nat → Nat} (P : Pm n f) {i : Nat} (hi : i < n) : leadB n f i = true ↔ ∀ k, i ≤ itr f k i := by
  unfold leadB
  rw [List.all_eq_true]
  constructor
  · intro h k
    have hp := (P.per hi).1
    rw [P.itr_mod hi]
    have := h (k % Go.Proofs.Ytmogmkdcplgfjaa.per f i) (List.mem_range.2 (by have := Nat.mod_lt k (show 0 < Go.Proofs.Ytmogmkdcplgfjaa.per f i by omega); omega))
    simpa using this
  · intro h k _
    simpa using h k
theorem Pm.lead_ex {n : Nat} {f : Nat → Nat} (P : Pm n f) {x : Nat} (hx : x < n) : ∃ i k, i < n ∧ i ≤ x ∧ leadB n f i = true ∧ k < Go.Proofs.Ytmogmkdcplgfjaa.per f i ∧ itr f k i = x := by
  obtain ⟨i, ⟨k, hk⟩, hmin⟩ := least_ex (p := fun i => ∃ k, itr f k x = i) ⟨x, 0, rfl⟩
  have hi : i < n := by rw [← hk]; exact P.itr_lt hx k
  obtain ⟨j, hj⟩ := P.back (k := k) hx
  rw [hk] at hj
  have hp := (P.per hi).1
  refine ⟨i, j % Go.Proofs.Ytmogmkdcplgfjaa.per f i, hi, ?_, (P.lead hi).2 fun m => ?_, Nat.mod_lt _ (by omega), by rw [← P.itr_mod hi]; exact hj⟩
  · exact Nat.le_of_not_lt fun h => hmin x h ⟨0, rfl⟩
  · refine Nat.le_of_not_lt fun h => hmin _ h ⟨m + k, ?_⟩
    rw [itr_add, hk]
theorem Pm.lead_one {n : Nat} {f : Nat → Nat} (P : Pm n f) {i i' k k' : Nat} (hi : i < n) (hi' : i' < n) (h : leadB n f i = true) (h' : leadB n f i' = true) (e : itr f k i = itr f k' i') : i = i' := by
  obtain ⟨j, hj⟩ := P.back (k := k) hi
  obtain ⟨j', hj'⟩ := P.back (k := k') hi'
  have h1 := (P.lead hi).1 h (j' + k)
  have h2 := (P.lead hi').1 h' (j + k')
  rw [itr_add, e, hj'] at h1
  rw [itr_add, ← e, hj] at h2
  omega

noncomputable def cycL (f : Nat → Nat) (i : Nat) : List Nat := (List.range (per f i)).map fun k => itr f k i
def leads (n : Nat) (f : Nat → Nat) (m : Nat) : List Nat := (List.range m).filter (leadB n f)
noncomputable def cycs (n : Nat) (f : Nat → Nat) (m : Nat) : List (List Nat) := (leads n f m).map (cycL f)
noncomputable def lens (n : Nat) (f : Nat → Nat) : List Nat := (leads n f n).map (per f)
theorem cycL_length (f : Nat → Nat) (i : Nat) : (cycL f i).length = per f i := by simp [cycL]
theorem cycs_lens (n : Nat) (f : Nat → Nat) : (cycs n f n).map List.length = lens n f := by
  unfold cycs lens
  rw [List.map_map]
  exact List.map_congr_left fun i _ => cycL_length f i
theorem leads_succ (n : Nat) (f : Nat → Nat) (m : Nat) : leads n f (m + 1) = leads n f m ++ (if leadB n f m then [m] else []) := by
  unfold leads
  rw [List.range_succ, List.filter_append]
  by_cases h : leadB n f m = true
  · simp [h]
  · simp [h]
theorem cycs_succ (n : Nat) (f : Nat → Nat) (m : Nat) : cycs n f (m + 1) = cycs n f m ++ (if leadB n f m then [cycL f m] else []) := by
  unfold cycs
  rw [leads_succ, List.map_append]
  by_cases h : leadB n f m = true <;> simp [h]
theorem mem_leads {n : Nat} {f : Nat → Nat} {m i : Nat} : i ∈ leads n f m ↔ i < m ∧ leadB n f i = true := by
  unfold leads; rw [List.mem_filter, List.mem_range]

theorem Pm.flat {n : Nat} {f : Nat → Nat} (P : Pm n f) : (cycs n f n).flatten.Perm (List.range n) := by
  refine (List.perm_ext_iff_of_nodup ?_ List.nodup_range).2 fun x => ?_
  · rw [List.nodup_iff_pairwise_ne, List.pairwise_flatten]
    constructor
    · intro l hl
      obtain ⟨i, hi, rfl⟩ := List.mem_map.1 hl
      have hi := (mem_leads.1 hi)
      unfold cycL
      rw [List.pairwise_map]
      refine List.Pairwise.imp_of_mem (fun {a b} ha hb hab => ?_) List.pairwise_lt_range
      intro e
      have := P.itr_ne hi.1 (List.mem_range.1 ha) (List.mem_range.1 hb) e
      omega
    · unfold cycs
      rw [List.pairwise_map]
      have h0 : (leads n f n).Pairwise (· < ·) := List.Pairwise.filter _ List.pairwise_lt_range
      refine List.Pairwise.imp_of_mem (fun {a b} ha hb hab => ?_) h0
      intro x h1 y h2 exy
      subst exy
      have ha := mem_leads.1 ha
      have hb := mem_leads.1 hb
      obtain ⟨k, _, rfl⟩ := List.mem_map.1 h1
      obtain ⟨k', _, e⟩ := List.mem_map.1 h2
      have := P.lead_one ha.1 hb.1 ha.2 hb.2 e.symm
      omega
  · rw [List.mem_flatten, List.mem_range]
    constructor
    · rintro ⟨l, hl, hx⟩
      obtain ⟨i, hi, rfl⟩ := List.mem_map.1 hl
      obtain ⟨k, _, rfl⟩ := List.mem_map.1 hx
      exact P.itr_lt (mem_leads.1 hi).1 k
    · intro hx
      obtain ⟨i, k, hi, _, hl, hk, rfl⟩ := P.lead_ex hx
      exact ⟨_, List.mem_map.2 ⟨i, mem_leads.2 ⟨hi, hl⟩, rfl⟩, List.mem_map.2 ⟨k, List.mem_range.2 hk, rfl⟩⟩
theorem Pm.lens_sum {n : Nat} {f : Nat → Nat} (P : Pm n f) : (lens n f).sum = n := by
  have h := P.flat.length_eq
  rw [List.length_flatten, cycs_lens, List.length_range] at h
  exact h
theorem countP_const {α : Type} (l : List α) (p : α → Bool) (b : Bool) (h : ∀ x ∈ l, p x = b) : l.countP p = if b then l.length else 0 := by
  cases b with
  | true => rw [if_pos rfl, List.countP_eq_length]; exact h
  | false => rw [if_neg (by simp), List.countP_eq_zero]; intro x hx; rw [h x hx]; simp
/-- How many points lie on cycles of a length. -/
theorem Pm.lens_count {n : Nat} {f : Nat → Nat} (P : Pm n f) (L : Nat) : (List.range n).countP (fun x => Go.Proofs.Ytmogmkdcplgfjaa.per f x == L) = L * (lens n f).count L := by
  rw [← P.flat.countP_eq, List.countP_flatten]
  have e : (cycs n f n).map (List.countP fun x => Go.Proofs.Ytmogmkdcplgfjaa.per f x == L) = (lens n f).map (fun p => if p = L then L else 0) := by
    unfold cycs lens
    rw [List.map_map, List.map_map]
    refine List.map_congr_left fun i hi => ?_
    have hi := mem_leads.1 hi
    show List.countP _ (cycL f i) = if Go.Proofs.Ytmogmkdcplgfjaa.per f i = L then L else 0
    rw [countP_const _ _ (Go.Proofs.Ytmogmkdcplgfjaa.per f i == L) (fun x hx => by
      obtain ⟨k, _, rfl⟩ := List.mem_map.1 hx
      rw [P.per_itr hi.1]), cycL_length]
    by_cases h : Go.Proofs.Ytmogmkdcplgfjaa.per f i = L <;> simp [h]
  rw [e]
  generalize lens n f = l
  induction l with
  | nil => simp
  | cons a l ih =>
    rw [List.map_cons, List.sum_cons, ih, List.count_cons]
    by_cases h : a = L
    · subst h; simp [Nat.mul_add]; omega
    · simp [h]
theorem Pm.lens_mem {n : Nat} {f : Nat → Nat} (P : Pm n f) {L : Nat} (h : L ∈ lens n f) : 1 ≤ L ∧ L ≤ n := by
  obtain ⟨i, hi, rfl⟩ := List.mem_map.1 h
  have := (P.per (mem_leads.1 hi).1).1
  omega
/-- The order: what all lengths divide. -/
theorem Pm.all_dvd {n : Nat} {f : Nat → Nat} (P : Pm n f) (N : Nat) : (∀ L ∈ lens n f, L ∣ N) ↔ ∀ x, x < n → itr f N x = x := by
  constructor
  · intro h x hx
    obtain ⟨i, k, hi, _, hl, _, rfl⟩ := P.lead_ex hx
    rw [P.dvd (P.itr_lt hi k), P.per_itr hi]
    exact h _ (List.mem_map.2 ⟨i, mem_leads.2 ⟨hi, hl⟩, rfl⟩)
  · intro h L hL
    obtain ⟨i, hi, rfl⟩ := List.mem_map.1 hL
    rw [← P.dvd (mem_leads.1 hi).1]
    exact h i (mem_leads.1 hi).1
/-- The order. -/
def OrdIs (n : Nat) (f : Nat → Nat) (o : Nat) : Prop := 1 ≤ o ∧ ∀ N, o ∣ N ↔ ∀ x, x < n → itr f N x = x
theorem OrdIs.one {n : Nat} {f : Nat → Nat} {o o' : Nat} (h : OrdIs n f o) (h' : OrdIs n f o') : o = o' :=
  Nat.dvd_antisymm ((h.2 _).2 ((h'.2 _).1 (Nat.dvd_refl _))) ((h'.2 _).2 ((h.2 _).1 (Nat.dvd_refl _)))

end Go.Proofs.Ytmogmkdcplgfjaa
