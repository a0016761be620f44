/- A group of permutations that moves numbers (colourings by their numbers): orbits, what stays, Cauchy and Frobenius; nothing of the program. -/
import Derived.Test.YtmaplmgecohjbaaGMore
namespace Go.Proofs.Ytmaplmgecohjbaa

/-- Permutations of n points move the numbers of a list. -/
structure Acts (n : Nat) (X : List Nat) (act : List Nat → Nat → Nat) : Prop where
  nd : X.Nodup
  mem : ∀ a c, IsP n a → c ∈ X → act a c ∈ X
  one : ∀ c, c ∈ X → act (idL n) c = c
  mul : ∀ a b c, IsP n a → IsP n b → c ∈ X → act (thenL a b) c = act b (act a c)
theorem Acts.part {n : Nat} {X : List Nat} {act : List Nat → Nat → Nat} (h : Acts n X act) (p : Nat → Bool) (hp : ∀ a c, IsP n a → c ∈ X → p c = true → p (act a c) = true) : Acts n (X.filter p) act :=
  ⟨h.nd.filter _, fun a c ha hc => List.mem_filter.2 ⟨h.mem a c ha (List.mem_filter.1 hc).1, hp a c ha (List.mem_filter.1 hc).1 (List.mem_filter.1 hc).2⟩,
    fun c hc => h.one c (List.mem_filter.1 hc).1, fun a b c ha hb hc => h.mul a b c ha hb (List.mem_filter.1 hc).1⟩
theorem Acts.undo {n : Nat} {X : List Nat} {act : List Nat → Nat → Nat} (h : Acts n X act) {a : List Nat} {c : Nat} (ha : IsP n a) (hc : c ∈ X) : act (invL n a) (act a c) = c := by
  rw [← h.mul a _ c ha (invL_isP ha) hc, then_inv ha, h.one c hc]

def OrbA (G : List Nat → Prop) (act : List Nat → Nat → Nat) (x y : Nat) : Prop := ∃ a, G a ∧ act a x = y
theorem OrbA.refl {n : Nat} {X : List Nat} {act : List Nat → Nat → Nat} {G : List Nat → Prop} (h : Acts n X act) (hG : Grp n G) {x : Nat} (hx : x ∈ X) : OrbA G act x x := ⟨idL n, hG.one, h.one x hx⟩
theorem OrbA.mem {n : Nat} {X : List Nat} {act : List Nat → Nat → Nat} {G : List Nat → Prop} (h : Acts n X act) (hG : Grp n G) {x y : Nat} (hx : x ∈ X) (k : OrbA G act x y) : y ∈ X := by
  obtain ⟨a, h1, rfl⟩ := k
  exact h.mem a x (hG.isP a h1) hx
theorem OrbA.symm {n : Nat} {X : List Nat} {act : List Nat → Nat → Nat} {G : List Nat → Prop} (h : Acts n X act) (hG : Grp n G) {x y : Nat} (hx : x ∈ X) (k : OrbA G act x y) : OrbA G act y x := by
  obtain ⟨a, h1, rfl⟩ := k
  exact ⟨invL n a, hG.inv h1, h.undo (hG.isP a h1) hx⟩
theorem OrbA.trans {n : Nat} {X : List Nat} {act : List Nat → Nat → Nat} {G : List Nat → Prop} (h : Acts n X act) (hG : Grp n G) {x y z : Nat} (hx : x ∈ X) (k : OrbA G act x y) (k' : OrbA G act y z) : OrbA G act x z := by
  obtain ⟨a, h1, rfl⟩ := k
  obtain ⟨b, k1, rfl⟩ := k'
  exact ⟨thenL a b, hG.mul a b h1 k1, h.mul a b x (hG.isP a h1) (hG.isP b k1) hx⟩
open Classical in
noncomputable def orbA (X : List Nat) (G : List Nat → Prop) (act : List Nat → Nat → Nat) (x : Nat) : List Nat := X.filter fun y => decide (OrbA G act x y)
theorem mem_orbA {X : List Nat} {G : List Nat → Prop} {act : List Nat → Nat → Nat} {x y : Nat} : y ∈ orbA X G act x ↔ y ∈ X ∧ OrbA G act x y := by
  unfold orbA; rw [List.mem_filter]; simp
/-- What leaves a number where it is. -/
theorem stab_orbA {n x : Nat} {X : List Nat} {act : List Nat → Nat → Nat} {G : List Nat → Prop} (h : Acts n X act) (hG : Grp n G) (hx : x ∈ X) :
    (els n G).length = (els n fun a => G a ∧ act a x = x).length * (orbA X G act x).length := by
  have e : ((els n G).map fun a => act a x).eraseDups.length = (orbA X G act x).length := by
    refine List.Perm.length_eq ((List.perm_ext_iff_of_nodup (eraseDups_nodup _ _ (Nat.le_refl _)) (h.nd.filter _)).2 fun y => ?_)
    have hm : y ∈ X.filter (fun y => @decide (OrbA G act x y) (Classical.propDecidable _)) ↔ y ∈ X ∧ OrbA G act x y := mem_orbA
    rw [List.mem_eraseDups, List.mem_map]
    refine Iff.trans ?_ hm.symm
    constructor
    · rintro ⟨a, ha, rfl⟩
      have hg := hG.mem.1 ha
      exact ⟨h.mem a x (hG.isP a hg) hx, a, hg, rfl⟩
    · rintro ⟨_, a, ha, rfl⟩
      exact ⟨a, hG.mem.2 ha, rfl⟩
  rw [← e]
  refine orb_stab (S := fun a => G a ∧ act a x = x) hG (fun a k => k.1) (fun a => act a x) fun y a hy ha => ?_
  have py := hG.isP y hy
  have pa := hG.isP a ha
  constructor
  · intro e
    have e' : act y x = act a x := e
    refine ⟨thenL y (invL n a), ⟨hG.mul _ _ hy (hG.inv ha), ?_⟩, ?_⟩
    · rw [h.mul y _ x py (invL_isP pa) hx, e', h.undo pa hx]
    · rw [then_assoc py (invL_isP pa).len, inv_then pa, then_id py]
  · rintro ⟨b, ⟨h1, h2⟩, rfl⟩
    show act (thenL b a) x = act a x
    rw [h.mul b a x (hG.isP b h1) pa hx, h2]
theorem orbA_eq {n x y : Nat} {X : List Nat} {act : List Nat → Nat → Nat} {G : List Nat → Prop} (h : Acts n X act) (hG : Grp n G) (hx : x ∈ X) (k : OrbA G act x y) : orbA X G act y = orbA X G act x := by
  have hy := k.mem h hG hx
  unfold orbA
  refine List.filter_congr fun z _ => ?_
  rw [decide_eq_decide]
  exact ⟨fun q => k.trans h hG hx q, fun q => (k.symm h hG hx).trans h hG hy q⟩
/-- The first of a number's orbit, as the list goes. -/
noncomputable def repA (X : List Nat) (G : List Nat → Prop) (act : List Nat → Nat → Nat) (x : Nat) : Nat := (orbA X G act x).headD x
theorem repA_mem {n x : Nat} {X : List Nat} {act : List Nat → Nat → Nat} {G : List Nat → Prop} (h : Acts n X act) (hG : Grp n G) (hx : x ∈ X) : repA X G act x ∈ orbA X G act x := by
  have hm : x ∈ orbA X G act x := mem_orbA.2 ⟨hx, OrbA.refl h hG hx⟩
  unfold repA
  cases he : orbA X G act x with
  | nil => rw [he] at hm; cases hm
  | cons a l => simp
theorem repA_eq {n x y : Nat} {X : List Nat} {act : List Nat → Nat → Nat} {G : List Nat → Prop} (h : Acts n X act) (hG : Grp n G) (hx : x ∈ X) (hy : y ∈ X) : repA X G act x = repA X G act y ↔ OrbA G act x y := by
  constructor
  · intro e
    have h1 := (mem_orbA.1 (repA_mem h hG hx)).2
    have h2 := (mem_orbA.1 (repA_mem h hG hy)).2
    rw [← e] at h2
    exact h1.trans h hG hx (h2.symm h hG hy)
  · intro k
    have e := orbA_eq h hG hx k
    have hm : y ∈ orbA X G act y := mem_orbA.2 ⟨hy, OrbA.refl h hG hy⟩
    unfold repA
    rw [e] at hm ⊢
    cases he : orbA X G act x with
    | nil => rw [he] at hm; cases hm
    | cons a l => simp
open Classical in
noncomputable def repsA (X : List Nat) (G : List Nat → Prop) (act : List Nat → Nat → Nat) : List Nat := X.filter fun x => decide (repA X G act x = x)
open Classical in
theorem burnsideA_points {n : Nat} {X : List Nat} {act : List Nat → Nat → Nat} {G : List Nat → Prop} (h : Acts n X act) (hG : Grp n G) : (X.map fun x => (els n fun a => G a ∧ act a x = x).length).sum = (repsA X G act).length * (els n G).length := by
  rw [sum_fibres _ (repA X G act) (repsA X G act) (h.nd.filter _) _ (fun x hx => by
    have h1 := mem_orbA.1 (repA_mem h hG hx)
    refine List.mem_filter.2 ⟨h1.1, decide_eq_true ?_⟩
    exact ((repA_eq h hG hx h1.1).2 h1.2).symm)]
  refine sum_const _ _ _ fun r hr => ?_
  obtain ⟨hrn, h2⟩ := List.mem_filter.1 hr
  have h2 := of_decide_eq_true h2
  have e : (X.filter fun x => decide (repA X G act x = r)) = orbA X G act r := by
    unfold orbA
    refine List.filter_congr fun x hx => ?_
    rw [decide_eq_decide]
    constructor
    · intro e; exact (repA_eq h hG hrn hx).1 (h2.trans e.symm)
    · intro e; exact ((repA_eq h hG hrn hx).2 e).symm.trans h2
  rw [e, sum_const _ ((els n fun a => G a ∧ act a r = r).length) _ (fun x hx => ?_), stab_orbA h hG hrn, Nat.mul_comm]
  obtain ⟨hxn, hxo⟩ := mem_orbA.1 hx
  have s1 := stab_orbA h hG hxn
  have s2 := stab_orbA h hG hrn
  rw [orbA_eq h hG hrn hxo, s2] at s1
  have hpos : 0 < (orbA X G act r).length := List.length_pos_iff.2 fun e => by
    have := mem_orbA.2 ⟨hrn, OrbA.refl h hG hrn⟩
    rw [e] at this; cases this
  exact (Nat.eq_of_mul_eq_mul_right hpos s1).symm
/-- Cauchy and Frobenius: the numbers that stay are, together, the order times the orbits. -/
theorem burnsideA {n : Nat} {X : List Nat} {act : List Nat → Nat → Nat} {G : List Nat → Prop} (h : Acts n X act) (hG : Grp n G) : ((els n G).map fun a => X.countP fun c => decide (act a c = c)).sum = (repsA X G act).length * (els n G).length := by
  rw [← burnsideA_points h hG]
  have q := sum_swap (fun (a : List Nat) (x : Nat) => decide (act a x = x)) X (els n G)
  refine q.trans ?_
  congr 1
  refine List.map_congr_left fun x _ => ?_
  rw [els_and, List.countP_eq_length_filter]
  congr 1
  refine List.filter_congr fun a _ => ?_
  rw [decide_eq_decide]

end Go.Proofs.Ytmaplmgecohjbaa
