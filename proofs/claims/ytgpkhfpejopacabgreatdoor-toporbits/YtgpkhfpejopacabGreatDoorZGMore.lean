/- What a closed list holds; points that stay; rows of points; what cannot be cut; nothing of the program. -/
import Derived.Test.YtgpkhfpejopacabGreatDoorZPUnr
/- Lists that are permutations; what makers make; cosets; nothing of the program. -/
namespace Go.Proofs.YtgpkhfpejopacabGreatDoor.Gc

structure IsP (n : Nat) (l : List Nat) : Prop where
  len : l.length = n
  lt : ∀ x ∈ l, x < n
  nd : l.Nodup
theorem IsP.at {n : Nat} {l : List Nat} (h : IsP n l) {i : Nat} (hi : i < n) : l.getD i 0 < n := by
  have : i < l.length := by rw [h.len]; exact hi
  exact h.lt _ (by simp [List.getD_eq_getElem?_getD, this])
theorem IsP.pm {n : Nat} {l : List Nat} (h : IsP n l) : Pm n (fun i => l.getD i 0) := by
  refine ⟨fun i hi => h.at hi, fun i j hi hj e => ?_⟩
  have h1 : i < l.length := by rw [h.len]; exact hi
  have h2 : j < l.length := by rw [h.len]; exact hj
  have e' : l[i] = l[j] := by simpa [List.getD_eq_getElem?_getD, h1, h2] using e
  exact (List.getElem_inj h.nd).1 e'
theorem IsP.map {n : Nat} {l : List Nat} (h : IsP n l) : (List.range n).map (fun i => l.getD i 0) = l := by
  apply List.ext_getElem
  · simp [h.len]
  · intro i h1 h2
    simp [List.getD_eq_getElem?_getD, h2]
theorem isP_of {n : Nat} {f : Nat → Nat} (P : Pm n f) : IsP n ((List.range n).map f) := by
  refine ⟨by simp, fun x hx => ?_, ?_⟩
  · obtain ⟨i, hi, rfl⟩ := List.mem_map.1 hx
    exact P.lt i (List.mem_range.1 hi)
  · rw [List.nodup_iff_pairwise_ne, List.pairwise_map]
    refine List.Pairwise.imp_of_mem (fun {a b} ha hb hab => ?_) List.pairwise_lt_range
    intro e
    have := P.inj a b (List.mem_range.1 ha) (List.mem_range.1 hb) e
    omega
theorem isP_ext {n : Nat} {a b : List Nat} (ha : a.length = n) (hb : b.length = n) (h : ∀ i, i < n → a.getD i 0 = b.getD i 0) : a = b := by
  apply List.ext_getElem
  · rw [ha, hb]
  · intro i h1 h2
    have := h i (by omega)
    simpa [List.getD_eq_getElem?_getD, h1, h2] using this

def thenL (a b : List Nat) : List Nat := a.map fun x => b.getD x 0
theorem thenL_len (a b : List Nat) : (thenL a b).length = a.length := by simp [thenL]
theorem thenL_at {n : Nat} {a b : List Nat} (ha : a.length = n) {i : Nat} (hi : i < n) : (thenL a b).getD i 0 = b.getD (a.getD i 0) 0 := by
  have : i < a.length := by omega
  simp [thenL, List.getD_eq_getElem?_getD, this]
theorem IsP.then {n : Nat} {a b : List Nat} (ha : IsP n a) (hb : IsP n b) : IsP n (thenL a b) := by
  have h := isP_of (ha.pm.comp hb.pm)
  have e : (List.range n).map (fun x => b.getD (a.getD x 0) 0) = thenL a b := by
    refine isP_ext (n := n) (by simp) (by rw [thenL_len, ha.len]) fun i hi => ?_
    rw [thenL_at ha.len hi]
    simp [hi]
  rw [← e]; exact h
def idL (n : Nat) : List Nat := List.range n
theorem idL_len (n : Nat) : (idL n).length = n := by simp [idL]
theorem idL_at {n i : Nat} (hi : i < n) : (idL n).getD i 0 = i := by simp [idL, hi]
theorem isP_id (n : Nat) : IsP n (idL n) := by
  have := isP_of (Pm.id n)
  simpa [idL] using this
theorem then_assoc {n : Nat} {a b c : List Nat} (ha : IsP n a) (hb : b.length = n) : thenL (thenL a b) c = thenL a (thenL b c) := by
  refine isP_ext (n := n) (by rw [thenL_len, thenL_len, ha.len]) (by rw [thenL_len, ha.len]) fun i hi => ?_
  rw [thenL_at (by rw [thenL_len, ha.len]) hi, thenL_at ha.len hi, thenL_at ha.len hi, thenL_at hb (ha.at hi)]
theorem id_then {n : Nat} {a : List Nat} (ha : a.length = n) : thenL (idL n) a = a :=
  isP_ext (n := n) (by rw [thenL_len, idL_len]) ha fun i hi => by rw [thenL_at (idL_len n) hi, idL_at hi]
theorem then_id {n : Nat} {a : List Nat} (ha : IsP n a) : thenL a (idL n) = a :=
  isP_ext (n := n) (by rw [thenL_len, ha.len]) ha.len fun i hi => by rw [thenL_at ha.len hi, idL_at (ha.at hi)]

/-! ### powers, and undoing -/
def powL (n : Nat) (a : List Nat) : Nat → List Nat
  | 0 => idL n
  | k + 1 => thenL (powL n a k) a
theorem powL_isP {n : Nat} {a : List Nat} (ha : IsP n a) : ∀ k, IsP n (powL n a k)
  | 0 => isP_id n
  | k + 1 => (powL_isP ha k).then ha
theorem powL_at {n : Nat} {a : List Nat} (ha : IsP n a) {i : Nat} (hi : i < n) : ∀ k, (powL n a k).getD i 0 = itr (fun i => a.getD i 0) k i
  | 0 => idL_at hi
  | k + 1 => by
    show (thenL (powL n a k) a).getD i 0 = a.getD (itr _ k i) 0
    rw [thenL_at (powL_isP ha k).len hi, powL_at ha hi k]
theorem dvd_fac : ∀ n d, 1 ≤ d → d ≤ n → d ∣ fac n
  | 0, d, h1, h2 => by omega
  | n + 1, d, h1, h2 => by
    rw [fac]
    by_cases e : d = n + 1
    · subst e; exact Nat.dvd_mul_left _ _
    · exact Nat.dvd_trans (dvd_fac n d h1 (by omega)) (Nat.dvd_mul_right _ _)
theorem powL_fac {n : Nat} {a : List Nat} (ha : IsP n a) : powL n a (fac n) = idL n := by
  refine isP_ext (n := n) (powL_isP ha _).len (idL_len n) fun i hi => ?_
  rw [powL_at ha hi, idL_at hi, ha.pm.dvd hi]
  have := (ha.pm.per hi).1
  exact dvd_fac n _ this.1 this.2.1
/-- What undoes a. -/
def invL (n : Nat) (a : List Nat) : List Nat := powL n a (fac n - 1)
theorem invL_isP {n : Nat} {a : List Nat} (ha : IsP n a) : IsP n (invL n a) := powL_isP ha _
theorem inv_then {n : Nat} {a : List Nat} (ha : IsP n a) : thenL (invL n a) a = idL n := by
  have h := powL_fac ha
  have : fac n = (fac n - 1) + 1 := by have := fac_pos n; omega
  rw [this] at h
  exact h
theorem powL_comm {n : Nat} {a : List Nat} (ha : IsP n a) : ∀ k, thenL a (powL n a k) = thenL (powL n a k) a
  | 0 => by show thenL a (idL n) = thenL (idL n) a; rw [then_id ha, id_then ha.len]
  | k + 1 => by
    show thenL a (thenL (powL n a k) a) = thenL (thenL (powL n a k) a) a
    rw [← then_assoc ha (powL_isP ha k).len, powL_comm ha k]
theorem then_inv {n : Nat} {a : List Nat} (ha : IsP n a) : thenL a (invL n a) = idL n := by
  rw [invL, powL_comm ha]; exact inv_then ha
theorem then_cancel {n : Nat} {a b c : List Nat} (ha : IsP n a) (hb : IsP n b) (hc : IsP n c) (h : thenL b a = thenL c a) : b = c := by
  have h2 : thenL (thenL b a) (invL n a) = thenL (thenL c a) (invL n a) := by rw [h]
  rw [then_assoc hb ha.len, then_assoc hc ha.len, then_inv ha, then_id hb, then_id hc] at h2
  exact h2

/-! ### all of them, by rank -/
theorem eraseIdx_perm {l : List Nat} {i : Nat} (h : i < l.length) : (l.getD i 0 :: l.eraseIdx i).Perm l := by
  rw [List.getD_eq_getElem?_getD, List.getElem?_eq_getElem h, Option.getD_some, List.eraseIdx_eq_take_drop_succ]
  have e : l = l.take i ++ l[i] :: l.drop (i + 1) := by rw [← List.drop_eq_getElem_cons h, List.take_append_drop]
  conv => rhs; rw [e]
  exact List.perm_middle.symm
theorem unrL_perm : ∀ (m : Nat) (left : List Nat) (k : Nat), left.length = m → k < fac m → (unrL m left k).Perm left
  | 0, left, k, h, _ => by rw [List.length_eq_zero_iff.1 h]; exact List.Perm.refl _
  | m + 1, left, k, h, hk => by
    have hd := div_fac hk
    rw [unrL]
    refine (List.Perm.cons _ (unrL_perm m _ _ ?_ (mod_fac k m))).trans (eraseIdx_perm (by omega))
    rw [List.length_eraseIdx_of_lt (by omega), h]; omega
theorem unrL_inj : ∀ (m : Nat) (left : List Nat) (k k' : Nat), left.length = m → left.Nodup → k < fac m → k' < fac m → unrL m left k = unrL m left k' → k = k'
  | 0, _, k, k', _, _, h1, h2, _ => by rw [fac] at h1 h2; omega
  | m + 1, left, k, k', h, nd, h1, h2, e => by
    have d1 := div_fac h1
    have d2 := div_fac h2
    rw [unrL, unrL] at e
    obtain ⟨e1, e2⟩ := List.cons.inj e
    have l1 : k / fac m < left.length := by omega
    have l2 : k' / fac m < left.length := by omega
    have e3 : k / fac m = k' / fac m := by
      have : left[k / fac m] = left[k' / fac m] := by simpa [List.getD_eq_getElem?_getD, l1, l2] using e1
      exact (List.getElem_inj nd).1 this
    rw [← e3] at e2
    have e4 := unrL_inj m _ _ _ (by rw [List.length_eraseIdx_of_lt l1, h]; omega) (nd.sublist (List.eraseIdx_sublist _ _)) (mod_fac k m) (mod_fac k' m) e2
    rw [← Nat.div_add_mod k (fac m), ← Nat.div_add_mod k' (fac m), e3, e4]
def unr (n k : Nat) : List Nat := unrL n (List.range n) k
theorem unr_isP {n k : Nat} (hk : k < fac n) : IsP n (unr n k) := by
  have h := unrL_perm n (List.range n) k (by simp) hk
  exact ⟨by rw [unr, h.length_eq]; simp, fun x hx => List.mem_range.1 (h.mem_iff.1 hx), h.nodup_iff.2 List.nodup_range⟩
def rnk (n : Nat) (l : List Nat) : Nat := rkS n (fun i => l.getD i 0) n
theorem rnk_lt (n : Nat) (l : List Nat) : rnk n l < fac n := rank_lt n _
theorem unr_rnk {n : Nat} {l : List Nat} (h : IsP n l) : unr n (rnk n l) = l := by
  have := unr_rank h.pm
  rw [h.map] at this
  exact this
theorem rnk_unr {n k : Nat} (hk : k < fac n) : rnk n (unr n k) = k :=
  unrL_inj n _ _ _ (by simp) List.nodup_range (rnk_lt _ _) hk (unr_rnk (unr_isP hk))
theorem rnk_inj {n : Nat} {a b : List Nat} (ha : IsP n a) (hb : IsP n b) (h : rnk n a = rnk n b) : a = b := by
  rw [← unr_rnk ha, h, unr_rnk hb]
/-! ### what makers make -/
inductive Gen (n : Nat) (ms : List (List Nat)) : List Nat → Prop
  | one : Gen n ms (idL n)
  | step (a m : List Nat) : Gen n ms a → m ∈ ms → Gen n ms (thenL a m)
theorem Gen.isP {n : Nat} {ms : List (List Nat)} (hm : ∀ m ∈ ms, IsP n m) {a : List Nat} (h : Gen n ms a) : IsP n a := by
  induction h with
  | one => exact isP_id n
  | step a m _ h2 ih => exact ih.then (hm m h2)
theorem Gen.then {n : Nat} {ms : List (List Nat)} (hm : ∀ m ∈ ms, IsP n m) {a b : List Nat} (ha : Gen n ms a) (hb : Gen n ms b) : Gen n ms (thenL a b) := by
  induction hb with
  | one => rw [then_id (ha.isP hm)]; exact ha
  | step b m h1 h2 ih =>
    rw [← then_assoc (ha.isP hm) (h1.isP hm).len]
    exact .step _ m ih h2
theorem Gen.pow {n : Nat} {ms : List (List Nat)} (hm : ∀ m ∈ ms, IsP n m) {a : List Nat} (ha : Gen n ms a) : ∀ k, Gen n ms (powL n a k)
  | 0 => .one
  | k + 1 => (ha.pow hm k).then hm ha
theorem Gen.inv {n : Nat} {ms : List (List Nat)} (hm : ∀ m ∈ ms, IsP n m) {a : List Nat} (ha : Gen n ms a) : Gen n ms (invL n a) := ha.pow hm _
theorem Gen.maker {n : Nat} {ms : List (List Nat)} (hm : ∀ m ∈ ms, IsP n m) {m : List Nat} (h : m ∈ ms) : Gen n ms m := by
  have := Gen.step (n := n) (ms := ms) _ m .one h
  rwa [id_then (hm m h).len] at this
theorem Gen.mono {n : Nat} {ms ms' : List (List Nat)} (h : ∀ m ∈ ms, m ∈ ms') {a : List Nat} (ha : Gen n ms a) : Gen n ms' a := by
  induction ha with
  | one => exact .one
  | step a m _ h2 ih => exact .step a m ih (h m h2)

/-! ### counting -/
open Classical in
/-- The members, by their ranks. -/
noncomputable def els (n : Nat) (G : List Nat → Prop) : List (List Nat) := ((List.range (fac n)).map (unr n)).filter fun l => decide (G l)
theorem all_nodup (n : Nat) : ((List.range (fac n)).map (unr n)).Nodup := by
  rw [List.nodup_iff_pairwise_ne, List.pairwise_map]
  refine List.Pairwise.imp_of_mem (fun {a b} ha hb hab => ?_) List.pairwise_lt_range
  intro e
  have := congrArg (rnk n) e
  rw [rnk_unr (List.mem_range.1 ha), rnk_unr (List.mem_range.1 hb)] at this
  omega
open Classical in
theorem mem_els {n : Nat} {G : List Nat → Prop} {l : List Nat} : l ∈ els n G ↔ IsP n l ∧ G l := by
  unfold els
  rw [List.mem_filter, List.mem_map]
  constructor
  · rintro ⟨⟨k, hk, rfl⟩, h⟩
    exact ⟨unr_isP (List.mem_range.1 hk), of_decide_eq_true h⟩
  · rintro ⟨h1, h2⟩
    exact ⟨⟨rnk n l, List.mem_range.2 (rnk_lt n l), unr_rnk h1⟩, decide_eq_true h2⟩
theorem els_nodup (n : Nat) (G : List Nat → Prop) : (els n G).Nodup := (all_nodup n).filter _
/-- A group of permutations of n points. -/
structure Grp (n : Nat) (G : List Nat → Prop) : Prop where
  isP : ∀ a, G a → IsP n a
  one : G (idL n)
  mul : ∀ a b, G a → G b → G (thenL a b)
theorem Grp.pow {n : Nat} {G : List Nat → Prop} (h : Grp n G) {a : List Nat} (ha : G a) : ∀ k, G (powL n a k)
  | 0 => h.one
  | k + 1 => h.mul _ _ (h.pow ha k) ha
theorem Grp.inv {n : Nat} {G : List Nat → Prop} (h : Grp n G) {a : List Nat} (ha : G a) : G (invL n a) := h.pow ha _
theorem Grp.mem {n : Nat} {G : List Nat → Prop} (h : Grp n G) {a : List Nat} : a ∈ els n G ↔ G a := by
  rw [mem_els]; exact ⟨fun x => x.2, fun x => ⟨h.isP a x, x⟩⟩
theorem gen_grp {n : Nat} {ms : List (List Nat)} (hm : ∀ m ∈ ms, IsP n m) : Grp n (Gen n ms) := ⟨fun _ h => h.isP hm, .one, fun _ _ h1 h2 => h1.then hm h2⟩
/-- Where all fibres are of one size. -/
theorem fiber {α β : Type} [DecidableEq β] (F : α → β) (s : Nat) : ∀ (k : Nat) (L : List α), L.length ≤ k → (∀ a ∈ L, (L.filter fun x => decide (F x = F a)).length = s) → L.length = s * (L.map F).eraseDups.length
  | _, [], _, _ => by simp
  | 0, a :: L, h, _ => by simp at h
  | k + 1, a :: L, h, hf => by
    have h1 := hf a (by simp)
    have hlen : (a :: L).length = ((a :: L).filter fun x => decide (F x = F a)).length + (L.filter fun x => !decide (F x = F a)).length := by
      have := List.length_eq_countP_add_countP (fun x => decide (F x = F a)) (l := a :: L)
      rw [List.countP_eq_length_filter, List.countP_eq_length_filter] at this
      have e : ((a :: L).filter fun x => decide ¬ (decide (F x = F a) = true)) = L.filter fun x => !decide (F x = F a) := by
        rw [List.filter_cons_of_neg (by simp)]
        refine List.filter_congr fun x _ => ?_
        simp
      rw [e] at this
      exact this
    have hk : (L.filter fun x => !decide (F x = F a)).length ≤ k := by
      have := List.length_filter_le (fun x => !decide (F x = F a)) L
      simp at h; omega
    have ih := fiber F s k (L.filter fun x => !decide (F x = F a)) hk (fun b hb => by
      obtain ⟨hb1, hb2⟩ := List.mem_filter.1 hb
      have hb3 : F b ≠ F a := by simpa using hb2
      rw [← hf b (by simp [hb1]), List.filter_filter, List.filter_cons_of_neg (by simpa using hb3.symm)]
      congr 1
      refine List.filter_congr fun x _ => ?_
      by_cases e : F x = F b
      · simp [e, hb3]
      · simp [e])
    have e2 : ((a :: L).map F).eraseDups = F a :: ((L.filter fun x => !decide (F x = F a)).map F).eraseDups := by
      rw [List.map_cons, List.eraseDups_cons]
      congr 2
      rw [List.filter_map]
      congr 1
    rw [hlen, h1, ih, e2, List.length_cons, Nat.mul_succ, Nat.add_comm]

end Go.Proofs.YtgpkhfpejopacabGreatDoor.Gc

/- Lagrange; orbits and what stays; Cauchy and Frobenius; nothing of the program. -/
namespace Go.Proofs.YtgpkhfpejopacabGreatDoor.Gc

theorem nodup_map {α β : Type} {f : α → β} {l : List α} (nd : l.Nodup) (h : ∀ a ∈ l, ∀ b ∈ l, f a = f b → a = b) : (l.map f).Nodup := by
  rw [List.nodup_iff_pairwise_ne, List.pairwise_map]
  exact List.Pairwise.imp_of_mem (fun {a b} ha hb hab e => hab (h a ha b hb e)) (List.nodup_iff_pairwise_ne.1 nd)
theorem eraseDups_nodup {α : Type} [DecidableEq α] : ∀ (k : Nat) (l : List α), l.length ≤ k → l.eraseDups.Nodup
  | _, [], _ => by simp
  | 0, a :: l, h => by simp at h
  | k + 1, a :: l, h => by
    rw [List.eraseDups_cons, List.nodup_cons]
    refine ⟨fun hm => ?_, eraseDups_nodup k _ (Nat.le_trans (List.length_filter_le _ _) (by simpa using h))⟩
    rw [List.mem_eraseDups] at hm
    have := (List.mem_filter.1 hm).2
    simp at this
/-- A fibre is a coset. -/
theorem fib_len {n : Nat} {G S : List Nat → Prop} {β : Type} [DecidableEq β] (hG : Grp n G) (hS : ∀ h, S h → G h) (F : List Nat → β)
    (hF : ∀ x a, G x → G a → (F x = F a ↔ ∃ h, S h ∧ x = thenL h a)) {a : List Nat} (ha : G a) :
    ((els n G).filter fun x => decide (F x = F a)).length = (els n S).length := by
  have hp : ((els n G).filter fun x => decide (F x = F a)).Perm ((els n S).map fun h => thenL h a) := by
    refine (List.perm_ext_iff_of_nodup ((els_nodup n G).filter _) (nodup_map (els_nodup n S) ?_)).2 fun x => ?_
    · intro b hb c hc e
      exact then_cancel (hG.isP a ha) (mem_els.1 hb).1 (mem_els.1 hc).1 e
    · rw [List.mem_filter, List.mem_map, hG.mem]
      constructor
      · rintro ⟨h1, h2⟩
        obtain ⟨h, h3, h4⟩ := (hF x a h1 ha).1 (of_decide_eq_true h2)
        exact ⟨h, mem_els.2 ⟨hG.isP h (hS h h3), h3⟩, h4.symm⟩
      · rintro ⟨h, h1, rfl⟩
        have h2 := (mem_els.1 h1).2
        have h3 := hG.mul h a (hS h h2) ha
        exact ⟨h3, decide_eq_true ((hF _ a h3 ha).2 ⟨h, h2, rfl⟩)⟩
  rw [hp.length_eq, List.length_map]
theorem orb_stab {n : Nat} {G S : List Nat → Prop} {β : Type} [DecidableEq β] (hG : Grp n G) (hS : ∀ h, S h → G h) (F : List Nat → β)
    (hF : ∀ x a, G x → G a → (F x = F a ↔ ∃ h, S h ∧ x = thenL h a)) : (els n G).length = (els n S).length * ((els n G).map F).eraseDups.length :=
  fiber F _ _ _ (Nat.le_refl _) fun _ ha => fib_len hG hS F hF (hG.mem.1 ha)
theorem els_pos {n : Nat} {G : List Nat → Prop} (hG : Grp n G) : 1 ≤ (els n G).length := List.length_pos_iff.2 fun e => by
  have := hG.mem.2 hG.one
  rw [e] at this; cases this
/-- One point. -/
theorem point_count {n x : Nat} {G : List Nat → Prop} (hG : Grp n G) (hx : x < n) : (els n G).length = (els n fun h => G h ∧ h.getD x 0 = x).length * ((els n G).map fun a => a.getD x 0).eraseDups.length := by
  refine orb_stab (S := fun h => G h ∧ h.getD x 0 = x) hG (fun h x => x.1) (fun a => a.getD x 0) fun y a hy ha => ?_
  have py := hG.isP y hy
  have pa := hG.isP a ha
  constructor
  · intro e
    refine ⟨thenL y (invL n a), ⟨hG.mul _ _ hy (hG.inv ha), ?_⟩, ?_⟩
    · rw [thenL_at py.len hx]
      show (invL n a).getD (y.getD x 0) 0 = x
      have e' : y.getD x 0 = a.getD x 0 := e
      rw [e', ← thenL_at pa.len hx, then_inv pa, idL_at hx]
    · rw [then_assoc py (invL_isP pa).len, inv_then pa, then_id py]
  · rintro ⟨h, ⟨h1, h2⟩, rfl⟩
    show (thenL h a).getD x 0 = a.getD x 0
    rw [thenL_at (hG.isP h h1).len hx, h2]

/-! ### orbits -/
def Orb (G : List Nat → Prop) (x y : Nat) : Prop := ∃ a, G a ∧ a.getD x 0 = y
theorem Orb.refl {n : Nat} {G : List Nat → Prop} (hG : Grp n G) {x : Nat} (hx : x < n) : Orb G x x := ⟨idL n, hG.one, idL_at hx⟩
theorem Orb.lt {n : Nat} {G : List Nat → Prop} (hG : Grp n G) {x y : Nat} (hx : x < n) (h : Orb G x y) : y < n := by
  obtain ⟨a, h1, rfl⟩ := h
  exact (hG.isP a h1).at hx
theorem Orb.symm {n : Nat} {G : List Nat → Prop} (hG : Grp n G) {x y : Nat} (hx : x < n) (h : Orb G x y) : Orb G y x := by
  obtain ⟨a, h1, rfl⟩ := h
  refine ⟨invL n a, hG.inv h1, ?_⟩
  rw [← thenL_at (hG.isP a h1).len hx, then_inv (hG.isP a h1), idL_at hx]
theorem Orb.trans {n : Nat} {G : List Nat → Prop} (hG : Grp n G) {x y z : Nat} (hx : x < n) (h : Orb G x y) (k : Orb G y z) : Orb G x z := by
  obtain ⟨a, h1, rfl⟩ := h
  obtain ⟨b, k1, rfl⟩ := k
  exact ⟨thenL a b, hG.mul a b h1 k1, thenL_at (hG.isP a h1).len hx⟩
open Classical in
noncomputable def orbL (n : Nat) (G : List Nat → Prop) (x : Nat) : List Nat := (List.range n).filter fun y => decide (Orb G x y)
open Classical in
theorem mem_orbL {n : Nat} {G : List Nat → Prop} {x y : Nat} : y ∈ orbL n G x ↔ y < n ∧ Orb G x y := by
  unfold orbL; rw [List.mem_filter, List.mem_range]; simp
open Classical in
theorem orbL_nodup (n : Nat) (G : List Nat → Prop) (x : Nat) : (orbL n G x).Nodup := List.nodup_range.filter _
theorem orb_len {n x : Nat} {G : List Nat → Prop} (hG : Grp n G) (hx : x < n) : ((els n G).map fun a => a.getD x 0).eraseDups.length = (orbL n G x).length := by
  refine List.Perm.length_eq ((List.perm_ext_iff_of_nodup (eraseDups_nodup _ _ (Nat.le_refl _)) (orbL_nodup n G x)).2 fun y => ?_)
  rw [List.mem_eraseDups, List.mem_map, mem_orbL]
  constructor
  · rintro ⟨a, h1, rfl⟩
    have h1 := hG.mem.1 h1
    exact ⟨(hG.isP a h1).at hx, a, h1, rfl⟩
  · rintro ⟨_, a, h1, rfl⟩
    exact ⟨a, hG.mem.2 h1, rfl⟩
theorem stab_orb {n x : Nat} {G : List Nat → Prop} (hG : Grp n G) (hx : x < n) : (els n G).length = (els n fun h => G h ∧ h.getD x 0 = x).length * (orbL n G x).length := by
  rw [← orb_len hG hx]; exact point_count hG hx
theorem orbL_eq {n x y : Nat} {G : List Nat → Prop} (hG : Grp n G) (hx : x < n) (h : Orb G x y) : orbL n G y = orbL n G x := by
  have hy := h.lt hG hx
  unfold orbL
  refine List.filter_congr fun z _ => ?_
  rw [decide_eq_decide]
  exact ⟨fun k => h.trans hG hx k, fun k => (h.symm hG hx).trans hG hy k⟩
/-- The least point of an orbit. -/
noncomputable def repO (n : Nat) (G : List Nat → Prop) (x : Nat) : Nat := (orbL n G x).headD x
theorem repO_mem {n x : Nat} {G : List Nat → Prop} (hG : Grp n G) (hx : x < n) : repO n G x ∈ orbL n G x := by
  have hm : x ∈ orbL n G x := mem_orbL.2 ⟨hx, Orb.refl hG hx⟩
  unfold repO
  cases he : orbL n G x with
  | nil => rw [he] at hm; cases hm
  | cons a l => simp
theorem repO_eq {n x y : Nat} {G : List Nat → Prop} (hG : Grp n G) (hx : x < n) (hy : y < n) : repO n G x = repO n G y ↔ Orb G x y := by
  constructor
  · intro e
    have h1 := (mem_orbL.1 (repO_mem hG hx)).2
    have h2 := (mem_orbL.1 (repO_mem hG hy)).2
    rw [← e] at h2
    exact h1.trans hG hx (h2.symm hG hy)
  · intro h
    have e := orbL_eq hG hx h
    have hm : x ∈ orbL n G x := mem_orbL.2 ⟨hx, Orb.refl hG hx⟩
    unfold repO
    rw [e]
    cases he : orbL n G x with
    | nil => rw [he] at hm; cases hm
    | cons a l => simp

/-! ### sums -/
theorem sum_swap {α β : Type} (p : α → β → Bool) (M : List β) : ∀ L : List α, (L.map fun a => M.countP (p a)).sum = (M.map fun x => L.countP fun a => p a x).sum
  | [] => by
    show 0 = _
    induction M with
    | nil => rfl
    | cons x M ih => rw [List.map_cons, List.sum_cons, ← ih]; rfl
  | a :: L => by
    rw [List.map_cons, List.sum_cons, sum_swap p M L]
    induction M with
    | nil => rfl
    | cons x M ih =>
      simp only [List.map_cons, List.sum_cons, List.countP_cons] at ih ⊢
      omega
theorem sum_fibres {α : Type} (g : α → Nat) (F : α → Nat) (R : List Nat) (nd : R.Nodup) : ∀ L : List α, (∀ x ∈ L, F x ∈ R) → (L.map g).sum = (R.map fun r => ((L.filter fun x => decide (F x = r)).map g).sum).sum
  | [], _ => by
    show 0 = _
    induction R with
    | nil => rfl
    | cons r R ih => rw [List.map_cons, List.sum_cons, ← ih (List.nodup_cons.1 nd).2 (fun x hx => by cases hx)]; rfl
  | a :: L, h => by
    rw [List.map_cons, List.sum_cons, sum_fibres g F R nd L (fun x hx => h x (by simp [hx]))]
    have hm := h a (by simp)
    have key : ∀ R : List Nat, R.Nodup → (R.map fun r => (((a :: L).filter fun x => decide (F x = r)).map g).sum).sum = (if F a ∈ R then g a else 0) + (R.map fun r => ((L.filter fun x => decide (F x = r)).map g).sum).sum := by
      intro R
      induction R with
      | nil => intro _; simp
      | cons r R ih =>
        intro nd
        obtain ⟨n1, n2⟩ := List.nodup_cons.1 nd
        rw [List.map_cons, List.sum_cons, ih n2, List.map_cons, List.sum_cons]
        by_cases e : F a = r
        · subst e
          rw [List.filter_cons_of_pos (by simp), if_neg n1, if_pos (by simp), List.map_cons, List.sum_cons]; omega
        · rw [List.filter_cons_of_neg (by simpa using e)]
          by_cases e2 : F a ∈ R
          · rw [if_pos e2, if_pos (by simp [e2])]; omega
          · rw [if_neg e2, if_neg (by simp [e, e2])]; omega
    rw [key R nd, if_pos hm]
open Classical in
/-- The points that are the least of their orbits. -/
noncomputable def reps (n : Nat) (G : List Nat → Prop) : List Nat := (List.range n).filter fun x => decide (repO n G x = x)
theorem sum_const {α : Type} (g : α → Nat) (c : Nat) : ∀ L : List α, (∀ x ∈ L, g x = c) → (L.map g).sum = L.length * c
  | [], _ => by simp
  | a :: L, h => by
    rw [List.map_cons, List.sum_cons, h a (by simp), sum_const g c L (fun x hx => h x (by simp [hx])), List.length_cons, Nat.succ_mul]; omega
open Classical in
theorem burnside_points {n : Nat} {G : List Nat → Prop} (hG : Grp n G) : ((List.range n).map fun x => (els n fun h => G h ∧ h.getD x 0 = x).length).sum = (reps n G).length * (els n G).length := by
  rw [sum_fibres _ (repO n G) (reps n G) (List.nodup_range.filter _) _ (fun x hx => by
    have hx := List.mem_range.1 hx
    have h1 := mem_orbL.1 (repO_mem hG hx)
    refine List.mem_filter.2 ⟨List.mem_range.2 h1.1, decide_eq_true ?_⟩
    exact ((repO_eq hG hx h1.1).2 h1.2).symm)]
  refine sum_const _ _ _ fun r hr => ?_
  obtain ⟨h1, h2⟩ := List.mem_filter.1 hr
  have hrn := List.mem_range.1 h1
  have h2 := of_decide_eq_true h2
  have e : ((List.range n).filter fun x => decide (repO n G x = r)) = orbL n G r := by
    unfold orbL
    refine List.filter_congr fun x hx => ?_
    have hx := List.mem_range.1 hx
    rw [decide_eq_decide]
    constructor
    · intro e; exact (repO_eq hG hrn hx).1 (h2.trans e.symm)
    · intro e; exact ((repO_eq hG hrn hx).2 e).symm.trans h2
  rw [e, sum_const _ ((els n fun h => G h ∧ h.getD r 0 = r).length) _ (fun x hx => ?_), stab_orb hG hrn, Nat.mul_comm]
  obtain ⟨hxn, hxo⟩ := mem_orbL.1 hx
  have s1 := stab_orb hG hxn
  have s2 := stab_orb hG hrn
  rw [orbL_eq hG hrn hxo, s2] at s1
  have hpos : 0 < (orbL n G r).length := List.length_pos_iff.2 fun e => by
    have := mem_orbL.2 ⟨hrn, Orb.refl hG hrn⟩
    rw [e] at this; cases this
  exact (Nat.eq_of_mul_eq_mul_right hpos s1).symm

end Go.Proofs.YtgpkhfpejopacabGreatDoor.Gc

namespace Go.Proofs.YtgpkhfpejopacabGreatDoor.Gc

/-- A list that holds what moves nothing and, with each, what it and a maker come to, holds all that the makers make. -/
theorem gen_closed {n : Nat} {ms L : List (List Nat)} (h1 : idL n ∈ L) (hg : ∀ a ∈ L, Gen n ms a) (hc : ∀ a ∈ L, ∀ m ∈ ms, thenL a m ∈ L) (a : List Nat) : a ∈ L ↔ Gen n ms a := by
  refine ⟨hg a, fun h => ?_⟩
  induction h with
  | one => exact h1
  | step a m _ h2 ih => exact hc a ih m h2
/-- It is no longer than all there are. -/
theorem perms_le {n : Nat} {L : List (List Nat)} (nd : L.Nodup) (hp : ∀ a ∈ L, IsP n a) : L.length ≤ fac n := by
  have h := nodup_map (f := rnk n) nd (fun a ha b hb e => rnk_inj (hp a ha) (hp b hb) e)
  have hperm : (L.map (rnk n)).Perm ((List.range (fac n)).filter fun k => decide (k ∈ L.map (rnk n))) := by
    refine (List.perm_ext_iff_of_nodup h (List.nodup_range.filter _)).2 fun k => ?_
    rw [List.mem_filter, List.mem_range, decide_eq_true_eq]
    refine ⟨fun hk => ⟨?_, hk⟩, fun hk => hk.2⟩
    obtain ⟨a, _, rfl⟩ := List.mem_map.1 hk
    exact rnk_lt n a
  have h1 := hperm.length_eq
  have h2 := List.length_filter_le (fun k => decide (k ∈ L.map (rnk n))) (List.range (fac n))
  rw [List.length_map] at h1
  rw [List.length_range] at h2
  omega
open Classical in
theorem els_and (n : Nat) (G p : List Nat → Prop) : els n (fun a => G a ∧ p a) = (els n G).filter fun a => decide (p a) := by
  unfold els
  rw [List.filter_filter]
  refine List.filter_congr fun l _ => ?_
  by_cases h1 : G l <;> by_cases h2 : p l <;> simp [h1, h2]
def fixN (n : Nat) (a : List Nat) : Nat := (List.range n).countP fun x => decide (a.getD x 0 = x)
/-- Cauchy and Frobenius: the points that stay are, together, the order times the orbits. -/
theorem burnside {n : Nat} {G : List Nat → Prop} (hG : Grp n G) : ((els n G).map (fixN n)).sum = (reps n G).length * (els n G).length := by
  rw [← burnside_points hG]
  have h := sum_swap (fun (a : List Nat) (x : Nat) => decide (a.getD x 0 = x)) (List.range n) (els n G)
  refine h.trans ?_
  congr 1
  refine List.map_congr_left fun x _ => ?_
  rw [els_and, List.countP_eq_length_filter]
  congr 1
  refine List.filter_congr fun a _ => ?_
  rw [decide_eq_decide]

/-! ### rows of points -/
/-- Each row of t points, all unlike, is where the first t go. -/
def Moves (n : Nat) (G : List Nat → Prop) (t : Nat) : Prop := ∀ r : List Nat, r.length = t → r.Nodup → (∀ x ∈ r, x < n) → ∃ a, G a ∧ a.take t = r
theorem Moves.pair {n : Nat} {G : List Nat → Prop} (hG : Grp n G) (h : Moves n G 2) {x y u v : Nat} (hx : x < n) (hy : y < n) (hxy : x ≠ y) (hu : u < n) (hv : v < n) (huv : u ≠ v) : ∃ a, G a ∧ a.getD x 0 = u ∧ a.getD y 0 = v := by
  have h2 : 2 ≤ n := by omega
  obtain ⟨a, a1, a2⟩ := h [x, y] rfl (by simp [hxy]) (by simp [hx, hy])
  obtain ⟨b, b1, b2⟩ := h [u, v] rfl (by simp [huv]) (by simp [hu, hv])
  have pa := hG.isP a a1
  have pb := hG.isP b b1
  have at2 : ∀ {l : List Nat} {p q : Nat}, l.length = n → l.take 2 = [p, q] → l.getD 0 0 = p ∧ l.getD 1 0 = q := by
    intro l p q hl e
    match l, hl, e with
    | a :: b :: l, _, e =>
      simp at e
      exact ⟨e.1, e.2⟩
    | [a], hl, _ => simp at hl; omega
    | [], hl, _ => simp at hl; omega
  obtain ⟨c1, c2⟩ := at2 pa.len a2
  obtain ⟨d1, d2⟩ := at2 pb.len b2
  refine ⟨thenL (invL n a) b, hG.mul _ _ (hG.inv a1) b1, ?_, ?_⟩
  · rw [thenL_at (invL_isP pa).len hx]
    have : (invL n a).getD x 0 = 0 := by rw [← c1, ← thenL_at pa.len (by omega), then_inv pa, idL_at (by omega)]
    rw [this, d1]
  · rw [thenL_at (invL_isP pa).len hy]
    have : (invL n a).getD y 0 = 1 := by rw [← c2, ← thenL_at pa.len (by omega), then_inv pa, idL_at (by omega)]
    rw [this, d2]
end Go.Proofs.YtgpkhfpejopacabGreatDoor.Gc
