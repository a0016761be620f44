/- Lists that are permutations; what makers make; cosets; nothing of the program. -/
import Derived.Test.YtjfjdidibglhaabPUnr
namespace Go.Proofs.Ytjfjdidibglhaab

structure IsP (n : Nat) (l : List Nat) : Prop where
  len : l.length = n
  lt : ∀ x ∈ l, x < n
  nd : l.Nodup
theorem IsP.at {n : Nat} {l : List Nat} (h : IsP n l) {i : Nat} (hi : i < n) : l.getD i 0 < n := by
  have : i < l.length := by rw [h.len]; exact hi
  exact h.lt _ (by simp [List.getD_eq_getElem?_getD, this])
theorem IsP.pm {n : Nat} {l : List Nat} (h : IsP n l) : Pm n (fun i => l.getD i 0) := by
  refine ⟨fun i hi => h.at hi, fun i j hi hj e => ?_⟩
  have h1 : i < l.length := by rw [h.len]; exact hi
  have h2 : j < l.length := by rw [h.len]; exact hj
  have e' : l[i] = l[j] := by simpa [List.getD_eq_getElem?_getD, h1, h2] using e
  exact (List.getElem_inj h.nd).1 e'
theorem IsP.map {n : Nat} {l : List Nat} (h : IsP n l) : (List.range n).map (fun i => l.getD i 0) = l := by
  apply List.ext_getElem
  · simp [h.len]
  · intro i h1 h2
    simp [List.getD_eq_getElem?_getD, h2]
theorem isP_of {n : Nat} {f : Nat → Nat} (P : Pm n f) : IsP n ((List.range n).map f) := by
  refine ⟨by simp, fun x hx => ?_, ?_⟩
  · obtain ⟨i, hi, rfl⟩ := List.mem_map.1 hx
    exact P.lt i (List.mem_range.1 hi)
  · rw [List.nodup_iff_pairwise_ne, List.pairwise_map]
    refine List.Pairwise.imp_of_mem (fun {a b} ha hb hab => ?_) List.pairwise_lt_range
    intro e
    have := P.inj a b (List.mem_range.1 ha) (List.mem_range.1 hb) e
    omega
theorem isP_ext {n : Nat} {a b : List Nat} (ha : a.length = n) (hb : b.length = n) (h : ∀ i, i < n → a.getD i 0 = b.getD i 0) : a = b := by
  apply List.ext_getElem
  · rw [ha, hb]
  · intro i h1 h2
    have := h i (by omega)
    simpa [List.getD_eq_getElem?_getD, h1, h2] using this

def thenL (a b : List Nat) : List Nat := a.map fun x => b.getD x 0
theorem thenL_len (a b : List Nat) : (thenL a b).length = a.length := by simp [thenL]
theorem thenL_at {n : Nat} {a b : List Nat} (ha : a.length = n) {i : Nat} (hi : i < n) : (thenL a b).getD i 0 = b.getD (a.getD i 0) 0 := by
  have : i < a.length := by omega
  simp [thenL, List.getD_eq_getElem?_getD, this]
theorem IsP.then {n : Nat} {a b : List Nat} (ha : IsP n a) (hb : IsP n b) : IsP n (thenL a b) := by
  have h := isP_of (ha.pm.comp hb.pm)
  have e : (List.range n).map (fun x => b.getD (a.getD x 0) 0) = thenL a b := by
    refine isP_ext (n := n) (by simp) (by rw [thenL_len, ha.len]) fun i hi => ?_
    rw [thenL_at ha.len hi]
    simp [hi]
  rw [← e]; exact h
def idL (n : Nat) : List Nat := List.range n
theorem idL_len (n : Nat) : (idL n).length = n := by simp [idL]
theorem idL_at {n i : Nat} (hi : i < n) : (idL n).getD i 0 = i := by simp [idL, hi]
theorem isP_id (n : Nat) : IsP n (idL n) := by
  have := isP_of (Pm.id n)
  simpa [idL] using this
theorem then_assoc {n : Nat} {a b c : List Nat} (ha : IsP n a) (hb : b.length = n) : thenL (thenL a b) c = thenL a (thenL b c) := by
  refine isP_ext (n := n) (by rw [thenL_len, thenL_len, ha.len]) (by rw [thenL_len, ha.len]) fun i hi => ?_
  rw [thenL_at (by rw [thenL_len, ha.len]) hi, thenL_at ha.len hi, thenL_at ha.len hi, thenL_at hb (ha.at hi)]
theorem id_then {n : Nat} {a : List Nat} (ha : a.length = n) : thenL (idL n) a = a :=
  isP_ext (n := n) (by rw [thenL_len, idL_len]) ha fun i hi => by rw [thenL_at (idL_len n) hi, idL_at hi]
theorem then_id {n : Nat} {a : List Nat} (ha : IsP n a) : thenL a (idL n) = a :=
  isP_ext (n := n) (by rw [thenL_len, ha.len]) ha.len fun i hi => by rw [thenL_at ha.len hi, idL_at (ha.at hi)]

/-! ### powers, and undoing -/
def powL (n : Nat) (a : List Nat) : Nat → List Nat
  | 0 => idL n
  | k + 1 => thenL (powL n a k) a
theorem powL_isP {n : Nat} {a : List Nat} (ha : IsP n a) : ∀ k, IsP n (powL n a k)
  | 0 => isP_id n
  | k + 1 => (powL_isP ha k).then ha
theorem powL_at {n : Nat} {a : List Nat} (ha : IsP n a) {i : Nat} (hi : i < n) : ∀ k, (powL n a k).getD i 0 = itr (fun i => a.getD i 0) k i
  | 0 => idL_at hi
  | k + 1 => by
    show (thenL (powL n a k) a).getD i 0 = a.getD (itr _ k i) 0
    rw [thenL_at (powL_isP ha k).len hi, powL_at ha hi k]
theorem dvd_fac : ∀ n d, 1 ≤ d → d ≤ n → d ∣ fac n
  | 0, d, h1, h2 => by omega
  | n + 1, d, h1, h2 => by
    rw [fac]
    by_cases e : d = n + 1
    · subst e; exact Nat.dvd_mul_left _ _
    · exact Nat.dvd_trans (dvd_fac n d h1 (by omega)) (Nat.dvd_mul_right _ _)
theorem powL_fac {n : Nat} {a : List Nat} (ha : IsP n a) : powL n a (fac n) = idL n := by
  refine isP_ext (n := n) (powL_isP ha _).len (idL_len n) fun i hi => ?_
  rw [powL_at ha hi, idL_at hi, ha.pm.dvd hi]
  have := (ha.pm.per hi).1
  exact dvd_fac n _ this.1 this.2.1
/-- What undoes a. -/
def invL (n : Nat) (a : List Nat) : List Nat := powL n a (fac n - 1)
theorem invL_isP {n : Nat} {a : List Nat} (ha : IsP n a) : IsP n (invL n a) := powL_isP ha _
theorem inv_then {n : Nat} {a : List Nat} (ha : IsP n a) : thenL (invL n a) a = idL n := by
  have h := powL_fac ha
  have : fac n = (fac n - 1) + 1 := by have := fac_pos n; omega
  rw [this] at h
  exact h
theorem powL_comm {n : Nat} {a : List Nat} (ha : IsP n a) : ∀ k, thenL a (powL n a k) = thenL (powL n a k) a
  | 0 => by show thenL a (idL n) = thenL (idL n) a; rw [then_id ha, id_then ha.len]
  | k + 1 => by
    show thenL a (thenL (powL n a k) a) = thenL (thenL (powL n a k) a) a
    rw [← then_assoc ha (powL_isP ha k).len, powL_comm ha k]
theorem then_inv {n : Nat} {a : List Nat} (ha : IsP n a) : thenL a (invL n a) = idL n := by
  rw [invL, powL_comm ha]; exact inv_then ha
theorem then_cancel {n : Nat} {a b c : List Nat} (ha : IsP n a) (hb : IsP n b) (hc : IsP n c) (h : thenL b a = thenL c a) : b = c := by
  have h2 : thenL (thenL b a) (invL n a) = thenL (thenL c a) (invL n a) := by rw [h]
  rw [then_assoc hb ha.len, then_assoc hc ha.len, then_inv ha, then_id hb, then_id hc] at h2
  exact h2

/-! ### all of them, by rank -/
theorem eraseIdx_perm {l : List Nat} {i : Nat} (h : i < l.length) : (l.getD i 0 :: l.eraseIdx i).Perm l := by
  rw [List.getD_eq_getElem?_getD, List.getElem?_eq_getElem h, Option.getD_some, List.eraseIdx_eq_take_drop_succ]
  have e : l = l.take i ++ l[i] :: l.drop (i + 1) := by rw [← List.drop_eq_getElem_cons h, List.take_append_drop]
  conv => rhs; rw [e]
  exact List.perm_middle.symm
theorem unrL_perm : ∀ (m : Nat) (left : List Nat) (k : Nat), left.length = m → k < fac m → (unrL m left k).Perm left
  | 0, left, k, h, _ => by rw [List.length_eq_zero_iff.1 h]; exact List.Perm.refl _
  | m + 1, left, k, h, hk => by
    have hd := div_fac hk
    rw [unrL]
    refine (List.Perm.cons _ (unrL_perm m _ _ ?_ (mod_fac k m))).trans (eraseIdx_perm (by omega))
    rw [List.length_eraseIdx_of_lt (by omega), h]; omega
theorem unrL_inj : ∀ (m : Nat) (left : List Nat) (k k' : Nat), left.length = m → left.Nodup → k < fac m → k' < fac m → unrL m left k = unrL m left k' → k = k'
  | 0, _, k, k', _, _, h1, h2, _ => by rw [fac] at h1 h2; omega
  | m + 1, left, k, k', h, nd, h1, h2, e => by
    have d1 := div_fac h1
    have d2 := div_fac h2
    rw [unrL, unrL] at e
    obtain ⟨e1, e2⟩ := List.cons.inj e
    have l1 : k / fac m < left.length := by omega
    have l2 : k' / fac m < left.length := by omega
    have e3 : k / fac m = k' / fac m := by
      have : left[k / fac m] = left[k' / fac m] := by simpa [List.getD_eq_getElem?_getD, l1, l2] using e1
      exact (List.getElem_inj nd).1 this
    rw [← e3] at e2
    have e4 := unrL_inj m _ _ _ (by rw [List.length_eraseIdx_of_lt l1, h]; omega) (nd.sublist (List.eraseIdx_sublist _ _)) (mod_fac k m) (mod_fac k' m) e2
    rw [← Nat.div_add_mod k (fac m), ← Nat.div_add_mod k' (fac m), e3, e4]
def unr (n k : Nat) : List Nat := unrL n (List.range n) k
theorem unr_isP {n k : Nat} (hk : k < fac n) : IsP n (unr n k) := by
  have h := unrL_perm n (List.range n) k (by simp) hk
  exact ⟨by rw [unr, h.length_eq]; simp, fun x hx => List.mem_range.1 (h.mem_iff.1 hx), h.nodup_iff.2 List.nodup_range⟩
def rnk (n : Nat) (l : List Nat) : Nat := rkS n (fun i => l.getD i 0) n
theorem rnk_lt (n : Nat) (l : List Nat) : rnk n l < fac n := rank_lt n _
theorem unr_rnk {n : Nat} {l : List Nat} (h : IsP n l) : unr n (rnk n l) = l := by
  have := unr_rank h.pm
  rw [h.map] at this
  exact this
theorem rnk_unr {n k : Nat} (hk : k < fac n) : rnk n (unr n k) = k :=
  unrL_inj n _ _ _ (by simp) List.nodup_range (rnk_lt _ _) hk (unr_rnk (unr_isP hk))
theorem rnk_inj {n : Nat} {a b : List Nat} (ha : IsP n a) (hb : IsP n b) (h : rnk n a = rnk n b) : a = b := by
  rw [← unr_rnk ha, h, unr_rnk hb]
theorem rnk_id (n : Nat) : rnk n (idL n) = 0 := by
  have h0 : (0 : Nat) < fac n := fac_pos n
  have : unr n 0 = idL n := by
    unfold unr idL
    have key : ∀ (m : Nat) (left : List Nat), left.length = m → unrL m left 0 = left := by
      intro m
      induction m with
      | zero => intro left h; rw [List.length_eq_zero_iff.1 h]; rfl
      | succ m ih =>
        intro left h
        cases left with
        | nil => simp at h
        | cons x l =>
          rw [unrL, Nat.zero_div, Nat.zero_mod]
          simp
          exact ih l (by simpa using h)
    exact key n _ (by simp)
  rw [← this]; exact rnk_unr h0

/-! ### what makers make -/
inductive Gen (n : Nat) (ms : List (List Nat)) : List Nat → Prop
  | one : Gen n ms (idL n)
  | step (a m : List Nat) : Gen n ms a → m ∈ ms → Gen n ms (thenL a m)
theorem Gen.isP {n : Nat} {ms : List (List Nat)} (hm : ∀ m ∈ ms, IsP n m) {a : List Nat} (h : Gen n ms a) : IsP n a := by
  induction h with
  | one => exact isP_id n
  | step a m _ h2 ih => exact ih.then (hm m h2)
theorem Gen.then {n : Nat} {ms : List (List Nat)} (hm : ∀ m ∈ ms, IsP n m) {a b : List Nat} (ha : Gen n ms a) (hb : Gen n ms b) : Gen n ms (thenL a b) := by
  induction hb with
  | one => rw [then_id (ha.isP hm)]; exact ha
  | step b m h1 h2 ih =>
    rw [← then_assoc (ha.isP hm) (h1.isP hm).len]
    exact .step _ m ih h2
theorem Gen.pow {n : Nat} {ms : List (List Nat)} (hm : ∀ m ∈ ms, IsP n m) {a : List Nat} (ha : Gen n ms a) : ∀ k, Gen n ms (powL n a k)
  | 0 => .one
  | k + 1 => (ha.pow hm k).then hm ha
theorem Gen.inv {n : Nat} {ms : List (List Nat)} (hm : ∀ m ∈ ms, IsP n m) {a : List Nat} (ha : Gen n ms a) : Gen n ms (invL n a) := ha.pow hm _
theorem Gen.maker {n : Nat} {ms : List (List Nat)} (hm : ∀ m ∈ ms, IsP n m) {m : List Nat} (h : m ∈ ms) : Gen n ms m := by
  have := Gen.step (n := n) (ms := ms) _ m .one h
  rwa [id_then (hm m h).len] at this
theorem Gen.mono {n : Nat} {ms ms' : List (List Nat)} (h : ∀ m ∈ ms, m ∈ ms') {a : List Nat} (ha : Gen n ms a) : Gen n ms' a := by
  induction ha with
  | one => exact .one
  | step a m _ h2 ih => exact .step a m ih (h m h2)

/-! ### counting -/
open Classical in
/-- The members, by their ranks. -/
noncomputable def els (n : Nat) (G : List Nat → Prop) : List (List Nat) := ((List.range (fac n)).map (unr n)).filter fun l => decide (G l)
theorem all_nodup (n : Nat) : ((List.range (fac n)).map (unr n)).Nodup := by
  rw [List.nodup_iff_pairwise_ne, List.pairwise_map]
  refine List.Pairwise.imp_of_mem (fun {a b} ha hb hab => ?_) List.pairwise_lt_range
  intro e
  have := congrArg (rnk n) e
  rw [rnk_unr (List.mem_range.1 ha), rnk_unr (List.mem_range.1 hb)] at this
  omega
open Classical in
theorem mem_els {n : Nat} {G : List Nat → Prop} {l : List Nat} : l ∈ els n G ↔ IsP n l ∧ G l := by
  unfold els
  rw [List.mem_filter, List.mem_map]
  constructor
  · rintro ⟨⟨k, hk, rfl⟩, h⟩
    exact ⟨unr_isP (List.mem_range.1 hk), of_decide_eq_true h⟩
  · rintro ⟨h1, h2⟩
    exact ⟨⟨rnk n l, List.mem_range.2 (rnk_lt n l), unr_rnk h1⟩, decide_eq_true h2⟩
theorem els_nodup (n : Nat) (G : List Nat → Prop) : (els n G).Nodup := (all_nodup n).filter _
/-- A group of permutations of n points. -/
structure Grp (n : Nat) (G : List Nat → Prop) : Prop where
  isP : ∀ a, G a → IsP n a
  one : G (idL n)
  mul : ∀ a b, G a → G b → G (thenL a b)
theorem Grp.pow {n : Nat} {G : List Nat → Prop} (h : Grp n G) {a : List Nat} (ha : G a) : ∀ k, G (powL n a k)
  | 0 => h.one
  | k + 1 => h.mul _ _ (h.pow ha k) ha
theorem Grp.inv {n : Nat} {G : List Nat → Prop} (h : Grp n G) {a : List Nat} (ha : G a) : G (invL n a) := h.pow ha _
theorem Grp.mem {n : Nat} {G : List Nat → Prop} (h : Grp n G) {a : List Nat} : a ∈ els n G ↔ G a := by
  rw [mem_els]; exact ⟨fun x => x.2, fun x => ⟨h.isP a x, x⟩⟩
theorem gen_grp {n : Nat} {ms : List (List Nat)} (hm : ∀ m ∈ ms, IsP n m) : Grp n (Gen n ms) := ⟨fun _ h => h.isP hm, .one, fun _ _ h1 h2 => h1.then hm h2⟩
theorem full_grp (n : Nat) : Grp n (IsP n) := ⟨fun _ h => h, isP_id n, fun _ _ h1 h2 => h1.then h2⟩
open Classical in
theorem full_len (n : Nat) : (els n (IsP n)).length = fac n := by
  unfold els
  rw [List.filter_eq_self.2]
  · simp
  · intro l hl
    obtain ⟨k, hk, rfl⟩ := List.mem_map.1 hl
    exact decide_eq_true (unr_isP (List.mem_range.1 hk))

/-- Where all fibres are of one size. -/
theorem fiber {α β : Type} [DecidableEq β] (F : α → β) (s : Nat) : ∀ (k : Nat) (L : List α), L.length ≤ k → (∀ a ∈ L, (L.filter fun x => decide (F x = F a)).length = s) → L.length = s * (L.map F).eraseDups.length
  | _, [], _, _ => by simp
  | 0, a :: L, h, _ => by simp at h
  | k + 1, a :: L, h, hf => by
    have h1 := hf a (by simp)
    have hlen : (a :: L).length = ((a :: L).filter fun x => decide (F x = F a)).length + (L.filter fun x => !decide (F x = F a)).length := by
      have := List.length_eq_countP_add_countP (fun x => decide (F x = F a)) (l := a :: L)
      rw [List.countP_eq_length_filter, List.countP_eq_length_filter] at this
      have e : ((a :: L).filter fun x => decide ¬ (decide (F x = F a) = true)) = L.filter fun x => !decide (F x = F a) := by
        rw [List.filter_cons_of_neg (by simp)]
        refine List.filter_congr fun x _ => ?_
        simp
      rw [e] at this
      exact this
    have hk : (L.filter fun x => !decide (F x = F a)).length ≤ k := by
      have := List.length_filter_le (fun x => !decide (F x = F a)) L
      simp at h; omega
    have ih := fiber F s k (L.filter fun x => !decide (F x = F a)) hk (fun b hb => by
      obtain ⟨hb1, hb2⟩ := List.mem_filter.1 hb
      have hb3 : F b ≠ F a := by simpa using hb2
      rw [← hf b (by simp [hb1]), List.filter_filter, List.filter_cons_of_neg (by simpa using hb3.symm)]
      congr 1
      refine List.filter_congr fun x _ => ?_
      by_cases e : F x = F b
      · simp [e, hb3]
      · simp [e])
    have e2 : ((a :: L).map F).eraseDups = F a :: ((L.filter fun x => !decide (F x = F a)).map F).eraseDups := by
      rw [List.map_cons, List.eraseDups_cons]
      congr 2
      rw [List.filter_map]
      congr 1
    rw [hlen, h1, ih, e2, List.length_cons, Nat.mul_succ, Nat.add_comm]

end Go.Proofs.Ytjfjdidibglhaab
