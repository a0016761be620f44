/- Lagrange; orbits and what stays; Cauchy and Frobenius; nothing of the program. -/
import Derived.Test.YtmaplmgecohjbaaGPure
namespace Go.Proofs.Ytmaplmgecohjbaa

theorem nodup_map {α β : Type} {f : α → β} {l : List α} (nd : l.Nodup) (h : ∀ a ∈ l, ∀ b ∈ l, f a = f b → a = b) : (l.map f).Nodup := by
  rw [List.nodup_iff_pairwise_ne, List.pairwise_map]
  exact List.Pairwise.imp_of_mem (fun {a b} ha hb hab e => hab (h a ha b hb e)) (List.nodup_iff_pairwise_ne.1 nd)
theorem eraseDups_nodup {α : Type} [DecidableEq α] : ∀ (k : Nat) (l : List α), l.length ≤ k → l.eraseDups.Nodup
  | _, [], _ => by simp
  | 0, a :: l, h => by simp at h
  | k + 1, a :: l, h => by
    rw [List.eraseDups_cons, List.nodup_cons]
    refine ⟨fun hm => ?_, eraseDups_nodup k _ (Nat.le_trans (List.length_filter_le _ _) (by simpa using h))⟩
    rw [List.mem_eraseDups] at hm
    have := (List.mem_filter.1 hm).2
    simp at this
theorem mem_ed {α : Type} [DecidableEq α] {a : α} {l : List α} : a ∈ l.eraseDups ↔ a ∈ l := List.mem_eraseDups
/-- A fibre is a coset. -/
theorem fib_len {n : Nat} {G S : List Nat → Prop} {β : Type} [DecidableEq β] (hG : Grp n G) (hS : ∀ h, S h → G h) (F : List Nat → β)
    (hF : ∀ x a, G x → G a → (F x = F a ↔ ∃ h, S h ∧ x = thenL h a)) {a : List Nat} (ha : G a) :
    ((els n G).filter fun x => decide (F x = F a)).length = (els n S).length := by
  have hp : ((els n G).filter fun x => decide (F x = F a)).Perm ((els n S).map fun h => thenL h a) := by
    refine (List.perm_ext_iff_of_nodup ((els_nodup n G).filter _) (nodup_map (els_nodup n S) ?_)).2 fun x => ?_
    · intro b hb c hc e
      exact then_cancel (hG.isP a ha) (mem_els.1 hb).1 (mem_els.1 hc).1 e
    · rw [List.mem_filter, List.mem_map, hG.mem]
      constructor
      · rintro ⟨h1, h2⟩
        obtain ⟨h, h3, h4⟩ := (hF x a h1 ha).1 (of_decide_eq_true h2)
        exact ⟨h, mem_els.2 ⟨hG.isP h (hS h h3), h3⟩, h4.symm⟩
      · rintro ⟨h, h1, rfl⟩
        have h2 := (mem_els.1 h1).2
        have h3 := hG.mul h a (hS h h2) ha
        exact ⟨h3, decide_eq_true ((hF _ a h3 ha).2 ⟨h, h2, rfl⟩)⟩
  rw [hp.length_eq, List.length_map]
theorem orb_stab {n : Nat} {G S : List Nat → Prop} {β : Type} [DecidableEq β] (hG : Grp n G) (hS : ∀ h, S h → G h) (F : List Nat → β)
    (hF : ∀ x a, G x → G a → (F x = F a ↔ ∃ h, S h ∧ x = thenL h a)) : (els n G).length = (els n S).length * ((els n G).map F).eraseDups.length :=
  fiber F _ _ _ (Nat.le_refl _) fun _ ha => fib_len hG hS F hF (hG.mem.1 ha)
theorem els_pos {n : Nat} {G : List Nat → Prop} (hG : Grp n G) : 1 ≤ (els n G).length := List.length_pos_iff.2 fun e => by
  have := hG.mem.2 hG.one
  rw [e] at this; cases this
open Classical in
/-- Lagrange. -/
theorem lagrange {n : Nat} {G H : List Nat → Prop} (hG : Grp n G) (hH : Grp n H) (hs : ∀ a, H a → G a) : (els n H).length ∣ (els n G).length := by
  refine ⟨_, orb_stab (β := List Nat → Prop) hG hs (fun x y => ∃ h, H h ∧ y = thenL h x) fun x a hx ha => ?_⟩
  constructor
  · intro e
    have h1 : (fun y => ∃ h, H h ∧ y = thenL h x) x := ⟨idL n, hH.one, (id_then (hG.isP x hx).len).symm⟩
    rw [e] at h1
    exact h1
  · rintro ⟨h, h1, rfl⟩
    funext y
    refine propext ⟨?_, ?_⟩
    · rintro ⟨g, h2, rfl⟩
      exact ⟨thenL g h, hH.mul g h h2 h1, (then_assoc (hH.isP g h2) (hH.isP h h1).len).symm⟩
    · rintro ⟨g, h2, rfl⟩
      refine ⟨thenL g (invL n h), hH.mul _ _ h2 (hH.inv h1), ?_⟩
      rw [then_assoc (hH.isP g h2) (hH.isP _ (hH.inv h1)).len, ← then_assoc (hH.isP _ (hH.inv h1)) (hH.isP h h1).len, inv_then (hH.isP h h1), id_then (hG.isP a ha).len]
theorem order_fac {n : Nat} {G : List Nat → Prop} (hG : Grp n G) : (els n G).length ∣ fac n := by
  have := lagrange (full_grp n) hG hG.isP
  rwa [full_len] at this

/-- What leaves the points below t where they are, and where these go. -/
theorem deep_count {n t : Nat} {G : List Nat → Prop} (hG : Grp n G) (ht : t ≤ n) : ∃ I : List (List Nat), I.Nodup ∧ (∀ r, r ∈ I ↔ ∃ a, G a ∧ a.take t = r) ∧ (els n G).length = (els n fun h => G h ∧ ∀ i, i < t → h.getD i 0 = i).length * I.length := by
  refine ⟨_, eraseDups_nodup _ _ (Nat.le_refl _), fun r => ?_, orb_stab (S := fun h => G h ∧ ∀ i, i < t → h.getD i 0 = i) hG (fun h x => x.1) (fun a => a.take t) fun x a hx ha => ?_⟩
  · rw [mem_ed, List.mem_map]
    exact ⟨fun ⟨a, h1, h2⟩ => ⟨a, hG.mem.1 h1, h2⟩, fun ⟨a, h1, h2⟩ => ⟨a, hG.mem.2 h1, h2⟩⟩
  have px := hG.isP x hx
  have pa := hG.isP a ha
  have hti : ∀ (l : List Nat) (i : Nat), l.length = n → i < t → (l.take t).getD i 0 = l.getD i 0 := fun l i hl hi => by
    simp [List.getD_eq_getElem?_getD, hi]
  constructor
  · intro e
    refine ⟨thenL x (invL n a), ⟨hG.mul _ _ hx (hG.inv ha), fun i hi => ?_⟩, ?_⟩
    · have e1 : x.getD i 0 = a.getD i 0 := by rw [← hti x i px.len hi, e, hti a i pa.len hi]
      rw [thenL_at px.len (by omega), e1, ← thenL_at pa.len (by omega), then_inv pa, idL_at (by omega)]
    · rw [then_assoc px (invL_isP pa).len, inv_then pa, then_id px]
  · rintro ⟨h, ⟨h1, h2⟩, rfl⟩
    have ph := hG.isP h h1
    apply List.ext_getElem
    · rw [List.length_take, List.length_take, thenL_len, ph.len, pa.len]
    · intro i h3 h4
      have hi : i < t := by rw [List.length_take] at h3; omega
      have e1 : (thenL h a).getD i 0 = a.getD i 0 := by rw [thenL_at ph.len (by omega), h2 i hi]
      have l1 : i < (thenL h a).length := by rw [thenL_len, ph.len]; omega
      have l2 : i < a.length := by rw [pa.len]; omega
      rw [List.getElem_take, List.getElem_take]
      simpa [List.getD_eq_getElem?_getD, l1, l2] using e1
/-- One point. -/
theorem point_count {n x : Nat} {G : List Nat → Prop} (hG : Grp n G) (hx : x < n) : (els n G).length = (els n fun h => G h ∧ h.getD x 0 = x).length * ((els n G).map fun a => a.getD x 0).eraseDups.length := by
  refine orb_stab (S := fun h => G h ∧ h.getD x 0 = x) hG (fun h x => x.1) (fun a => a.getD x 0) fun y a hy ha => ?_
  have py := hG.isP y hy
  have pa := hG.isP a ha
  constructor
  · intro e
    refine ⟨thenL y (invL n a), ⟨hG.mul _ _ hy (hG.inv ha), ?_⟩, ?_⟩
    · rw [thenL_at py.len hx]
      show (invL n a).getD (y.getD x 0) 0 = x
      have e' : y.getD x 0 = a.getD x 0 := e
      rw [e', ← thenL_at pa.len hx, then_inv pa, idL_at hx]
    · rw [then_assoc py (invL_isP pa).len, inv_then pa, then_id py]
  · rintro ⟨h, ⟨h1, h2⟩, rfl⟩
    show (thenL h a).getD x 0 = a.getD x 0
    rw [thenL_at (hG.isP h h1).len hx, h2]

/-! ### orbits -/
def Orb (G : List Nat → Prop) (x y : Nat) : Prop := ∃ a, G a ∧ a.getD x 0 = y
theorem Orb.refl {n : Nat} {G : List Nat → Prop} (hG : Grp n G) {x : Nat} (hx : x < n) : Orb G x x := ⟨idL n, hG.one, idL_at hx⟩
theorem Orb.lt {n : Nat} {G : List Nat → Prop} (hG : Grp n G) {x y : Nat} (hx : x < n) (h : Orb G x y) : y < n := by
  obtain ⟨a, h1, rfl⟩ := h
  exact (hG.isP a h1).at hx
theorem Orb.symm {n : Nat} {G : List Nat → Prop} (hG : Grp n G) {x y : Nat} (hx : x < n) (h : Orb G x y) : Orb G y x := by
  obtain ⟨a, h1, rfl⟩ := h
  refine ⟨invL n a, hG.inv h1, ?_⟩
  rw [← thenL_at (hG.isP a h1).len hx, then_inv (hG.isP a h1), idL_at hx]
theorem Orb.trans {n : Nat} {G : List Nat → Prop} (hG : Grp n G) {x y z : Nat} (hx : x < n) (h : Orb G x y) (k : Orb G y z) : Orb G x z := by
  obtain ⟨a, h1, rfl⟩ := h
  obtain ⟨b, k1, rfl⟩ := k
  exact ⟨thenL a b, hG.mul a b h1 k1, thenL_at (hG.isP a h1).len hx⟩
open Classical in
noncomputable def orbL (n : Nat) (G : List Nat → Prop) (x : Nat) : List Nat := (List.range n).filter fun y => decide (Orb G x y)
open Classical in
theorem mem_orbL {n : Nat} {G : List Nat → Prop} {x y : Nat} : y ∈ orbL n G x ↔ y < n ∧ Orb G x y := by
  unfold orbL; rw [List.mem_filter, List.mem_range]; simp
open Classical in
theorem orbL_nodup (n : Nat) (G : List Nat → Prop) (x : Nat) : (orbL n G x).Nodup := List.nodup_range.filter _
theorem orb_len {n x : Nat} {G : List Nat → Prop} (hG : Grp n G) (hx : x < n) : ((els n G).map fun a => a.getD x 0).eraseDups.length = (orbL n G x).length := by
  refine List.Perm.length_eq ((List.perm_ext_iff_of_nodup (eraseDups_nodup _ _ (Nat.le_refl _)) (orbL_nodup n G x)).2 fun y => ?_)
  rw [List.mem_eraseDups, List.mem_map, mem_orbL]
  constructor
  · rintro ⟨a, h1, rfl⟩
    have h1 := hG.mem.1 h1
    exact ⟨(hG.isP a h1).at hx, a, h1, rfl⟩
  · rintro ⟨_, a, h1, rfl⟩
    exact ⟨a, hG.mem.2 h1, rfl⟩
theorem stab_orb {n x : Nat} {G : List Nat → Prop} (hG : Grp n G) (hx : x < n) : (els n G).length = (els n fun h => G h ∧ h.getD x 0 = x).length * (orbL n G x).length := by
  rw [← orb_len hG hx]; exact point_count hG hx
theorem orbL_eq {n x y : Nat} {G : List Nat → Prop} (hG : Grp n G) (hx : x < n) (h : Orb G x y) : orbL n G y = orbL n G x := by
  have hy := h.lt hG hx
  unfold orbL
  refine List.filter_congr fun z _ => ?_
  rw [decide_eq_decide]
  exact ⟨fun k => h.trans hG hx k, fun k => (h.symm hG hx).trans hG hy k⟩
/-- The least point of an orbit. -/
noncomputable def repO (n : Nat) (G : List Nat → Prop) (x : Nat) : Nat := (orbL n G x).headD x
theorem repO_mem {n x : Nat} {G : List Nat → Prop} (hG : Grp n G) (hx : x < n) : repO n G x ∈ orbL n G x := by
  have hm : x ∈ orbL n G x := mem_orbL.2 ⟨hx, Orb.refl hG hx⟩
  unfold repO
  cases he : orbL n G x with
  | nil => rw [he] at hm; cases hm
  | cons a l => simp
theorem repO_eq {n x y : Nat} {G : List Nat → Prop} (hG : Grp n G) (hx : x < n) (hy : y < n) : repO n G x = repO n G y ↔ Orb G x y := by
  constructor
  · intro e
    have h1 := (mem_orbL.1 (repO_mem hG hx)).2
    have h2 := (mem_orbL.1 (repO_mem hG hy)).2
    rw [← e] at h2
    exact h1.trans hG hx (h2.symm hG hy)
  · intro h
    have e := orbL_eq hG hx h
    have hm : x ∈ orbL n G x := mem_orbL.2 ⟨hx, Orb.refl hG hx⟩
    unfold repO
    rw [e]
    cases he : orbL n G x with
    | nil => rw [he] at hm; cases hm
    | cons a l => simp

/-! ### sums -/
theorem sum_swap {α β : Type} (p : α → β → Bool) (M : List β) : ∀ L : List α, (L.map fun a => M.countP (p a)).sum = (M.map fun x => L.countP fun a => p a x).sum
  | [] => by
    show 0 = _
    induction M with
    | nil => rfl
    | cons x M ih => rw [List.map_cons, List.sum_cons, ← ih]; rfl
  | a :: L => by
    rw [List.map_cons, List.sum_cons, sum_swap p M L]
    induction M with
    | nil => rfl
    | cons x M ih =>
      simp only [List.map_cons, List.sum_cons, List.countP_cons] at ih ⊢
      omega
theorem sum_fibres {α : Type} (g : α → Nat) (F : α → Nat) (R : List Nat) (nd : R.Nodup) : ∀ L : List α, (∀ x ∈ L, F x ∈ R) → (L.map g).sum = (R.map fun r => ((L.filter fun x => decide (F x = r)).map g).sum).sum
  | [], _ => by
    show 0 = _
    induction R with
    | nil => rfl
    | cons r R ih => rw [List.map_cons, List.sum_cons, ← ih (List.nodup_cons.1 nd).2 (fun x hx => by cases hx)]; rfl
  | a :: L, h => by
    rw [List.map_cons, List.sum_cons, sum_fibres g F R nd L (fun x hx => h x (by simp [hx]))]
    have hm := h a (by simp)
    have key : ∀ R : List Nat, R.Nodup → (R.map fun r => (((a :: L).filter fun x => decide (F x = r)).map g).sum).sum = (if F a ∈ R then g a else 0) + (R.map fun r => ((L.filter fun x => decide (F x = r)).map g).sum).sum := by
      intro R
      induction R with
      | nil => intro _; simp
      | cons r R ih =>
        intro nd
        obtain ⟨n1, n2⟩ := List.nodup_cons.1 nd
        rw [List.map_cons, List.sum_cons, ih n2, List.map_cons, List.sum_cons]
        by_cases e : F a = r
        · subst e
          rw [List.filter_cons_of_pos (by simp), if_neg n1, if_pos (by simp), List.map_cons, List.sum_cons]; omega
        · rw [List.filter_cons_of_neg (by simpa using e)]
          by_cases e2 : F a ∈ R
          · rw [if_pos e2, if_pos (by simp [e2])]; omega
          · rw [if_neg e2, if_neg (by simp [e, e2])]; omega
    rw [key R nd, if_pos hm]
open Classical in
/-- The points that are the least of their orbits. -/
noncomputable def reps (n : Nat) (G : List Nat → Prop) : List Nat := (List.range n).filter fun x => decide (repO n G x = x)
theorem sum_const {α : Type} (g : α → Nat) (c : Nat) : ∀ L : List α, (∀ x ∈ L, g x = c) → (L.map g).sum = L.length * c
  | [], _ => by simp
  | a :: L, h => by
    rw [List.map_cons, List.sum_cons, h a (by simp), sum_const g c L (fun x hx => h x (by simp [hx])), List.length_cons, Nat.succ_mul]; omega
open Classical in
theorem burnside_points {n : Nat} {G : List Nat → Prop} (hG : Grp n G) : ((List.range n).map fun x => (els n fun h => G h ∧ h.getD x 0 = x).length).sum = (reps n G).length * (els n G).length := by
  rw [sum_fibres _ (repO n G) (reps n G) (List.nodup_range.filter _) _ (fun x hx => by
    have hx := List.mem_range.1 hx
    have h1 := mem_orbL.1 (repO_mem hG hx)
    refine List.mem_filter.2 ⟨List.mem_range.2 h1.1, decide_eq_true ?_⟩
    exact ((repO_eq hG hx h1.1).2 h1.2).symm)]
  refine sum_const _ _ _ fun r hr => ?_
  obtain ⟨h1, h2⟩ := List.mem_filter.1 hr
  have hrn := List.mem_range.1 h1
  have h2 := of_decide_eq_true h2
  have e : ((List.range n).filter fun x => decide (repO n G x = r)) = orbL n G r := by
    unfold orbL
    refine List.filter_congr fun x hx => ?_
    have hx := List.mem_range.1 hx
    rw [decide_eq_decide]
    constructor
    · intro e; exact (repO_eq hG hrn hx).1 (h2.trans e.symm)
    · intro e; exact ((repO_eq hG hrn hx).2 e).symm.trans h2
  rw [e, sum_const _ ((els n fun h => G h ∧ h.getD r 0 = r).length) _ (fun x hx => ?_), stab_orb hG hrn, Nat.mul_comm]
  obtain ⟨hxn, hxo⟩ := mem_orbL.1 hx
  have s1 := stab_orb hG hxn
  have s2 := stab_orb hG hrn
  rw [orbL_eq hG hrn hxo, s2] at s1
  have hpos : 0 < (orbL n G r).length := List.length_pos_iff.2 fun e => by
    have := mem_orbL.2 ⟨hrn, Orb.refl hG hrn⟩
    rw [e] at this; cases this
  exact (Nat.eq_of_mul_eq_mul_right hpos s1).symm

end Go.Proofs.Ytmaplmgecohjbaa
