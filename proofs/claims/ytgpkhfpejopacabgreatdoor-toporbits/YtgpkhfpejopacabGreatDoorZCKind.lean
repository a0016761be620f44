/- Kinds of permutations: how many cycles have each length; nothing of the program. -/
import Derived.Test.YtgpkhfpejopacabGreatDoorZGMore
/- A group of permutations that moves numbers (colourings by their numbers): orbits, what stays, Cauchy and Frobenius; nothing of the program. -/
namespace Go.Proofs.YtgpkhfpejopacabGreatDoor.Gc

/-- Permutations of n points move the numbers of a list. -/
structure Acts (n : Nat) (X : List Nat) (act : List Nat → Nat → Nat) : Prop where
  nd : X.Nodup
  mem : ∀ a c, IsP n a → c ∈ X → act a c ∈ X
  one : ∀ c, c ∈ X → act (idL n) c = c
  mul : ∀ a b c, IsP n a → IsP n b → c ∈ X → act (thenL a b) c = act b (act a c)
theorem Acts.part {n : Nat} {X : List Nat} {act : List Nat → Nat → Nat} (h : Acts n X act) (p : Nat → Bool) (hp : ∀ a c, IsP n a → c ∈ X → p c = true → p (act a c) = true) : Acts n (X.filter p) act :=
  ⟨h.nd.filter _, fun a c ha hc => List.mem_filter.2 ⟨h.mem a c ha (List.mem_filter.1 hc).1, hp a c ha (List.mem_filter.1 hc).1 (List.mem_filter.1 hc).2⟩,
    fun c hc => h.one c (List.mem_filter.1 hc).1, fun a b c ha hb hc => h.mul a b c ha hb (List.mem_filter.1 hc).1⟩
theorem Acts.undo {n : Nat} {X : List Nat} {act : List Nat → Nat → Nat} (h : Acts n X act) {a : List Nat} {c : Nat} (ha : IsP n a) (hc : c ∈ X) : act (invL n a) (act a c) = c := by
  rw [← h.mul a _ c ha (invL_isP ha) hc, then_inv ha, h.one c hc]

def OrbA (G : List Nat → Prop) (act : List Nat → Nat → Nat) (x y : Nat) : Prop := ∃ a, G a ∧ act a x = y
theorem OrbA.refl {n : Nat} {X : List Nat} {act : List Nat → Nat → Nat} {G : List Nat → Prop} (h : Acts n X act) (hG : Grp n G) {x : Nat} (hx : x ∈ X) : OrbA G act x x := ⟨idL n, hG.one, h.one x hx⟩
theorem OrbA.mem {n : Nat} {X : List Nat} {act : List Nat → Nat → Nat} {G : List Nat → Prop} (h : Acts n X act) (hG : Grp n G) {x y : Nat} (hx : x ∈ X) (k : OrbA G act x y) : y ∈ X := by
  obtain ⟨a, h1, rfl⟩ := k
  exact h.mem a x (hG.isP a h1) hx
theorem OrbA.symm {n : Nat} {X : List Nat} {act : List Nat → Nat → Nat} {G : List Nat → Prop} (h : Acts n X act) (hG : Grp n G) {x y : Nat} (hx : x ∈ X) (k : OrbA G act x y) : OrbA G act y x := by
  obtain ⟨a, h1, rfl⟩ := k
  exact ⟨invL n a, hG.inv h1, h.undo (hG.isP a h1) hx⟩
theorem OrbA.trans {n : Nat} {X : List Nat} {act : List Nat → Nat → Nat} {G : List Nat → Prop} (h : Acts n X act) (hG : Grp n G) {x y z : Nat} (hx : x ∈ X) (k : OrbA G act x y) (k' : OrbA G act y z) : OrbA G act x z := by
  obtain ⟨a, h1, rfl⟩ := k
  obtain ⟨b, k1, rfl⟩ := k'
  exact ⟨thenL a b, hG.mul a b h1 k1, h.mul a b x (hG.isP a h1) (hG.isP b k1) hx⟩
open Classical in
noncomputable def orbA (X : List Nat) (G : List Nat → Prop) (act : List Nat → Nat → Nat) (x : Nat) : List Nat := X.filter fun y => decide (OrbA G act x y)
theorem mem_orbA {X : List Nat} {G : List Nat → Prop} {act : List Nat → Nat → Nat} {x y : Nat} : y ∈ orbA X G act x ↔ y ∈ X ∧ OrbA G act x y := by
  unfold orbA; rw [List.mem_filter]; simp
/-- What leaves a number where it is. -/
theorem stab_orbA {n x : Nat} {X : List Nat} {act : List Nat → Nat → Nat} {G : List Nat → Prop} (h : Acts n X act) (hG : Grp n G) (hx : x ∈ X) :
    (els n G).length = (els n fun a => G a ∧ act a x = x).length * (orbA X G act x).length := by
  have e : ((els n G).map fun a => act a x).eraseDups.length = (orbA X G act x).length := by
    refine List.Perm.length_eq ((List.perm_ext_iff_of_nodup (eraseDups_nodup _ _ (Nat.le_refl _)) (h.nd.filter _)).2 fun y => ?_)
    have hm : y ∈ X.filter (fun y => @decide (OrbA G act x y) (Classical.propDecidable _)) ↔ y ∈ X ∧ OrbA G act x y := mem_orbA
    rw [List.mem_eraseDups, List.mem_map]
    refine Iff.trans ?_ hm.symm
    constructor
    · rintro ⟨a, ha, rfl⟩
      have hg := hG.mem.1 ha
      exact ⟨h.mem a x (hG.isP a hg) hx, a, hg, rfl⟩
    · rintro ⟨_, a, ha, rfl⟩
      exact ⟨a, hG.mem.2 ha, rfl⟩
  rw [← e]
  refine orb_stab (S := fun a => G a ∧ act a x = x) hG (fun a k => k.1) (fun a => act a x) fun y a hy ha => ?_
  have py := hG.isP y hy
  have pa := hG.isP a ha
  constructor
  · intro e
    have e' : act y x = act a x := e
    refine ⟨thenL y (invL n a), ⟨hG.mul _ _ hy (hG.inv ha), ?_⟩, ?_⟩
    · rw [h.mul y _ x py (invL_isP pa) hx, e', h.undo pa hx]
    · rw [then_assoc py (invL_isP pa).len, inv_then pa, then_id py]
  · rintro ⟨b, ⟨h1, h2⟩, rfl⟩
    show act (thenL b a) x = act a x
    rw [h.mul b a x (hG.isP b h1) pa hx, h2]
theorem orbA_eq {n x y : Nat} {X : List Nat} {act : List Nat → Nat → Nat} {G : List Nat → Prop} (h : Acts n X act) (hG : Grp n G) (hx : x ∈ X) (k : OrbA G act x y) : orbA X G act y = orbA X G act x := by
  have hy := k.mem h hG hx
  unfold orbA
  refine List.filter_congr fun z _ => ?_
  rw [decide_eq_decide]
  exact ⟨fun q => k.trans h hG hx q, fun q => (k.symm h hG hx).trans h hG hy q⟩
/-- The first of a number's orbit, as the list goes. -/
noncomputable def repA (X : List Nat) (G : List Nat → Prop) (act : List Nat → Nat → Nat) (x : Nat) : Nat := (orbA X G act x).headD x
theorem repA_mem {n x : Nat} {X : List Nat} {act : List Nat → Nat → Nat} {G : List Nat → Prop} (h : Acts n X act) (hG : Grp n G) (hx : x ∈ X) : repA X G act x ∈ orbA X G act x := by
  have hm : x ∈ orbA X G act x := mem_orbA.2 ⟨hx, OrbA.refl h hG hx⟩
  unfold repA
  cases he : orbA X G act x with
  | nil => rw [he] at hm; cases hm
  | cons a l => simp
theorem repA_eq {n x y : Nat} {X : List Nat} {act : List Nat → Nat → Nat} {G : List Nat → Prop} (h : Acts n X act) (hG : Grp n G) (hx : x ∈ X) (hy : y ∈ X) : repA X G act x = repA X G act y ↔ OrbA G act x y := by
  constructor
  · intro e
    have h1 := (mem_orbA.1 (repA_mem h hG hx)).2
    have h2 := (mem_orbA.1 (repA_mem h hG hy)).2
    rw [← e] at h2
    exact h1.trans h hG hx (h2.symm h hG hy)
  · intro k
    have e := orbA_eq h hG hx k
    have hm : y ∈ orbA X G act y := mem_orbA.2 ⟨hy, OrbA.refl h hG hy⟩
    unfold repA
    rw [e] at hm ⊢
    cases he : orbA X G act x with
    | nil => rw [he] at hm; cases hm
    | cons a l => simp
open Classical in
noncomputable def repsA (X : List Nat) (G : List Nat → Prop) (act : List Nat → Nat → Nat) : List Nat := X.filter fun x => decide (repA X G act x = x)
open Classical in
theorem burnsideA_points {n : Nat} {X : List Nat} {act : List Nat → Nat → Nat} {G : List Nat → Prop} (h : Acts n X act) (hG : Grp n G) : (X.map fun x => (els n fun a => G a ∧ act a x = x).length).sum = (repsA X G act).length * (els n G).length := by
  rw [sum_fibres _ (repA X G act) (repsA X G act) (h.nd.filter _) _ (fun x hx => by
    have h1 := mem_orbA.1 (repA_mem h hG hx)
    refine List.mem_filter.2 ⟨h1.1, decide_eq_true ?_⟩
    exact ((repA_eq h hG hx h1.1).2 h1.2).symm)]
  refine sum_const _ _ _ fun r hr => ?_
  obtain ⟨hrn, h2⟩ := List.mem_filter.1 hr
  have h2 := of_decide_eq_true h2
  have e : (X.filter fun x => decide (repA X G act x = r)) = orbA X G act r := by
    unfold orbA
    refine List.filter_congr fun x hx => ?_
    rw [decide_eq_decide]
    constructor
    · intro e; exact (repA_eq h hG hrn hx).1 (h2.trans e.symm)
    · intro e; exact ((repA_eq h hG hrn hx).2 e).symm.trans h2
  rw [e, sum_const _ ((els n fun a => G a ∧ act a r = r).length) _ (fun x hx => ?_), stab_orbA h hG hrn, Nat.mul_comm]
  obtain ⟨hxn, hxo⟩ := mem_orbA.1 hx
  have s1 := stab_orbA h hG hxn
  have s2 := stab_orbA h hG hrn
  rw [orbA_eq h hG hrn hxo, s2] at s1
  have hpos : 0 < (orbA X G act r).length := List.length_pos_iff.2 fun e => by
    have := mem_orbA.2 ⟨hrn, OrbA.refl h hG hrn⟩
    rw [e] at this; cases this
  exact (Nat.eq_of_mul_eq_mul_right hpos s1).symm
/-- Cauchy and Frobenius: the numbers that stay are, together, the order times the orbits. -/
theorem burnsideA {n : Nat} {X : List Nat} {act : List Nat → Nat → Nat} {G : List Nat → Prop} (h : Acts n X act) (hG : Grp n G) : ((els n G).map fun a => X.countP fun c => decide (act a c = c)).sum = (repsA X G act).length * (els n G).length := by
  rw [← burnsideA_points h hG]
  have q := sum_swap (fun (a : List Nat) (x : Nat) => decide (act a x = x)) X (els n G)
  refine q.trans ?_
  congr 1
  refine List.map_congr_left fun x _ => ?_
  rw [els_and, List.countP_eq_length_filter]
  congr 1
  refine List.filter_congr fun a _ => ?_
  rw [decide_eq_decide]

end Go.Proofs.YtgpkhfpejopacabGreatDoor.Gc

/- Colourings as lists and as numbers, moved by permutations; how many stay; nothing of the program. (numL and its first laws stand in G52 of wip/group, too: strike them there when both are wanted.) -/
namespace Go.Proofs.YtgpkhfpejopacabGreatDoor.Gc

/-- The digits' number, the first the least. -/
def numL (b : Nat) : List Nat → Nat
  | [] => 0
  | x :: l => x + b * numL b l
theorem numL_lt {b : Nat} (hb : 0 < b) : ∀ {l : List Nat}, (∀ x ∈ l, x < b) → numL b l < b ^ l.length
  | [], _ => by simp [numL]
  | x :: l, h => by
    have h1 := h x (by simp)
    have h2 := numL_lt hb (l := l) (fun y hy => h y (by simp [hy]))
    rw [numL, List.length_cons, Nat.pow_succ, Nat.mul_comm (b ^ l.length) b]
    have h3 : b * (numL b l + 1) ≤ b * b ^ l.length := Nat.mul_le_mul_left b h2
    rw [Nat.mul_add, Nat.mul_one] at h3
    omega
/-- So many digits of a number. -/
def dig (b : Nat) : Nat → Nat → List Nat
  | 0, _ => []
  | n + 1, c => c % b :: dig b n (c / b)
theorem dig_len (b : Nat) : ∀ n c, (dig b n c).length = n
  | 0, _ => rfl
  | n + 1, c => by rw [dig, List.length_cons, dig_len b n]
theorem dig_lt {b : Nat} (hb : 0 < b) : ∀ n c, ∀ x ∈ dig b n c, x < b
  | 0, _, x, h => by cases h
  | n + 1, c, x, h => by
    rw [dig] at h
    rcases List.mem_cons.1 h with e | e
    · rw [e]; exact Nat.mod_lt _ hb
    · exact dig_lt hb n _ x e
theorem num_dig {b : Nat} : ∀ n c, c < b ^ n → numL b (dig b n c) = c
  | 0, c, h => by
    have : c = 0 := by simpa using h
    rw [this]; rfl
  | n + 1, c, h => by
    rw [dig, numL, num_dig n (c / b) (by
      rw [Nat.pow_succ] at h
      exact Nat.div_lt_of_lt_mul (by rw [Nat.mul_comm]; exact h))]
    have := Nat.div_add_mod c b
    omega
theorem dig_num {b : Nat} : ∀ {l : List Nat}, (∀ x ∈ l, x < b) → dig b l.length (numL b l) = l
  | [], _ => rfl
  | x :: l, h => by
    have hx := h x (by simp)
    have hb : 0 < b := by omega
    rw [List.length_cons, dig, numL]
    have e1 : (x + b * numL b l) % b = x := by rw [Nat.add_mul_mod_self_left, Nat.mod_eq_of_lt hx]
    have e2 : (x + b * numL b l) / b = numL b l := by rw [Nat.add_mul_div_left _ _ hb, Nat.div_eq_of_lt hx, Nat.zero_add]
    rw [e1, e2, dig_num fun y hy => h y (by simp [hy])]
theorem dig_inj {b n c d : Nat} (hc : c < b ^ n) (hd : d < b ^ n) (h : dig b n c = dig b n d) : c = d := by
  rw [← num_dig n c hc, h, num_dig n d hd]

theorem getD_mem {l : List Nat} {i : Nat} (h : i < l.length) : l.getD i 0 ∈ l := by simp [List.getD_eq_getElem?_getD, h]
/-- A colouring moved: the point a[i] has the colour that i had. -/
def mvd (n : Nat) (a l : List Nat) : List Nat := (List.range n).map fun y => l.getD ((invL n a).getD y 0) 0
theorem mvd_len (n : Nat) (a l : List Nat) : (mvd n a l).length = n := by simp [mvd]
theorem mvd_at {n : Nat} {a l : List Nat} {y : Nat} (hy : y < n) : (mvd n a l).getD y 0 = l.getD ((invL n a).getD y 0) 0 := by simp [mvd, hy]
theorem ext_getD {l m : List Nat} {n : Nat} (hl : l.length = n) (hm : m.length = n) (h : ∀ y, y < n → l.getD y 0 = m.getD y 0) : l = m := by
  refine List.ext_getElem (by omega) fun y h1 h2 => ?_
  have := h y (by omega)
  simpa [List.getD_eq_getElem?_getD, h1, h2] using this
theorem inv_a {n : Nat} {a : List Nat} (ha : IsP n a) {i : Nat} (hi : i < n) : (invL n a).getD (a.getD i 0) 0 = i := by
  rw [← thenL_at ha.len hi, then_inv ha, idL_at hi]
theorem a_inv {n : Nat} {a : List Nat} (ha : IsP n a) {i : Nat} (hi : i < n) : a.getD ((invL n a).getD i 0) 0 = i := by
  rw [← thenL_at (invL_isP ha).len hi, inv_then ha, idL_at hi]
theorem mvd_lt {n k : Nat} {a l : List Nat} (ha : IsP n a) (hl : l.length = n) (hk : ∀ x ∈ l, x < k) : ∀ x ∈ mvd n a l, x < k := by
  intro x hx
  obtain ⟨y, hy, rfl⟩ := List.mem_map.1 hx
  have hi := (invL_isP ha).at (List.mem_range.1 hy)
  exact hk _ (getD_mem (by rw [hl]; exact hi))
theorem mvd_one {n : Nat} {l : List Nat} (hl : l.length = n) : mvd n (idL n) l = l := by
  refine ext_getD (mvd_len _ _ _) hl fun y hy => ?_
  rw [mvd_at hy]
  have e : (invL n (idL n)).getD y 0 = y := by
    have := inv_a (isP_id n) hy
    rwa [idL_at hy] at this
  rw [e]
theorem mvd_mul {n : Nat} {a b l : List Nat} (ha : IsP n a) (hb : IsP n b) : mvd n (thenL a b) l = mvd n b (mvd n a l) := by
  refine ext_getD (mvd_len _ _ _) (mvd_len _ _ _) fun y hy => ?_
  have hy1 := (invL_isP hb).at hy
  have hy2 := (invL_isP ha).at hy1
  rw [mvd_at hy, mvd_at hy, mvd_at hy1]
  congr 1
  have pab := ha.then hb
  -- both are carried to y
  have e1 : (thenL a b).getD ((invL n a).getD ((invL n b).getD y 0) 0) 0 = y := by
    rw [thenL_at ha.len hy2, a_inv ha hy1, a_inv hb hy]
  have := inv_a pab hy2
  rw [e1] at this
  exact this
/-- A colouring's number moved. -/
def actC (n k : Nat) (a : List Nat) (c : Nat) : Nat := numL k (mvd n a (dig k n c))
theorem dig_actC {n k : Nat} {a : List Nat} (hk : 0 < k) (ha : IsP n a) (c : Nat) : dig k n (actC n k a c) = mvd n a (dig k n c) := by
  unfold actC
  have h := dig_num (mvd_lt ha (dig_len k n c) (dig_lt hk n c))
  rwa [mvd_len] at h
theorem actC_lt {n k : Nat} {a : List Nat} (hk : 0 < k) (ha : IsP n a) (c : Nat) : actC n k a c < k ^ n := by
  have := numL_lt hk (mvd_lt ha (dig_len k n c) (dig_lt hk n c))
  rwa [mvd_len] at this
theorem actC_acts {n k : Nat} (hk : 0 < k) : Acts n (List.range (k ^ n)) (actC n k) where
  nd := List.nodup_range
  mem := fun a c ha _ => List.mem_range.2 (actC_lt hk ha c)
  one := fun c hc => by
    unfold actC
    rw [mvd_one (dig_len k n c), num_dig n c (List.mem_range.1 hc)]
  mul := fun a b c ha hb _ => by
    show numL k (mvd n (thenL a b) (dig k n c)) = numL k (mvd n b (dig k n (actC n k a c)))
    rw [dig_actC hk ha, mvd_mul ha hb]

/-! ### all colourings -/
def cols (k : Nat) : Nat → List (List Nat)
  | 0 => [[]]
  | t + 1 => (cols k t).flatMap fun l => (List.range k).map fun x => l ++ [x]
theorem mem_cols {k : Nat} : ∀ {t : Nat} {l : List Nat}, l ∈ cols k t ↔ l.length = t ∧ ∀ x ∈ l, x < k
  | 0, l => by
    unfold cols
    rw [List.mem_singleton]
    constructor
    · rintro rfl; simp
    · rintro ⟨h, _⟩; exact List.length_eq_zero_iff.1 h
  | t + 1, l => by
    unfold cols
    rw [List.mem_flatMap]
    constructor
    · rintro ⟨p, hp, hl⟩
      obtain ⟨x, hx, rfl⟩ := List.mem_map.1 hl
      obtain ⟨h1, h2⟩ := mem_cols.1 hp
      refine ⟨by simp [h1], fun y hy => ?_⟩
      rcases List.mem_append.1 hy with h | h
      · exact h2 y h
      · rw [List.mem_singleton.1 h]; exact List.mem_range.1 hx
    · rintro ⟨h1, h2⟩
      have hne : l ≠ [] := by intro e; rw [e] at h1; simp at h1
      refine ⟨l.dropLast, mem_cols.2 ⟨by rw [List.length_dropLast, h1]; omega, fun x hx => h2 x ((List.dropLast_sublist l).subset hx)⟩, List.mem_map.2 ⟨l.getLast hne, List.mem_range.2 (h2 _ (List.getLast_mem hne)), List.dropLast_concat_getLast hne⟩⟩
theorem cols_nodup (k : Nat) : ∀ t, (cols k t).Nodup
  | 0 => by simp [cols]
  | t + 1 => by
    unfold cols
    rw [List.nodup_iff_pairwise_ne, List.pairwise_flatMap]
    refine ⟨fun l _ => ?_, ?_⟩
    · rw [← List.nodup_iff_pairwise_ne]
      exact nodup_map List.nodup_range fun x _ y _ e => by simpa using e
    · refine List.Pairwise.imp_of_mem (fun {p q} hp hq hpq x hx y hy e => hpq ?_) (List.nodup_iff_pairwise_ne.1 (cols_nodup k t))
      obtain ⟨u, _, rfl⟩ := List.mem_map.1 hx
      obtain ⟨v, _, rfl⟩ := List.mem_map.1 hy
      have l1 := (mem_cols.1 hp).1
      have l2 := (mem_cols.1 hq).1
      exact List.append_inj_left e (by omega)
theorem cols_perm {k : Nat} (hk : 0 < k) (n : Nat) : ((List.range (k ^ n)).map (dig k n)).Perm (cols k n) := by
  refine (List.perm_ext_iff_of_nodup (nodup_map List.nodup_range fun c hc d hd e => dig_inj (List.mem_range.1 hc) (List.mem_range.1 hd) e) (cols_nodup k n)).2 fun l => ?_
  rw [List.mem_map, mem_cols]
  constructor
  · rintro ⟨c, _, rfl⟩; exact ⟨dig_len k n c, dig_lt hk n c⟩
  · rintro ⟨h1, h2⟩
    have h3 := numL_lt hk h2
    rw [h1] at h3
    refine ⟨numL k l, List.mem_range.2 h3, ?_⟩
    have := dig_num h2
    rwa [h1] at this

/-! ### colourings that are even on parts -/
/-- Each point has the colour of its part's first. -/
def Even (rep : Nat → Nat) (t : Nat) (l : List Nat) : Prop := ∀ x, x < t → l.getD x 0 = l.getD (rep x) 0
/-- How many parts have begun. -/
def parts (rep : Nat → Nat) (t : Nat) : Nat := (List.range t).countP fun x => decide (rep x = x)
/-! ### what stays -/
theorem mvd_same {n : Nat} {a l : List Nat} (ha : IsP n a) (hl : l.length = n) : mvd n a l = l ↔ ∀ i, i < n → l.getD (a.getD i 0) 0 = l.getD i 0 := by
  constructor
  · intro h i hi
    have e := mvd_at (a := a) (l := l) (ha.at hi)
    rw [h, inv_a ha hi] at e
    exact e
  · intro h
    refine ext_getD (mvd_len _ _ _) hl fun y hy => ?_
    have hi := (invL_isP ha).at hy
    rw [mvd_at hy, ← h _ hi, a_inv ha hy]
/-- The first point of a point's cycle. -/
noncomputable def cycRep (n : Nat) (a : List Nat) (x : Nat) : Nat := if x < n then repO n (Gen n [a]) x else x
theorem one_isP {n : Nat} {a : List Nat} (ha : IsP n a) : ∀ m ∈ [a], IsP n m := fun m hm => by rw [List.mem_singleton.1 hm]; exact ha
theorem repO_low {n y : Nat} {G : List Nat → Prop} (hG : Grp n G) (hy : y < n) : repO n G y ≤ y := by
  have hm : y ∈ orbL n G y := mem_orbL.2 ⟨hy, Orb.refl hG hy⟩
  have hp : (orbL n G y).Pairwise (· < ·) := List.pairwise_lt_range.filter _
  unfold repO
  cases h : orbL n G y with
  | nil => simp
  | cons a t =>
    rw [h] at hm hp
    rw [List.headD_cons]
    rcases List.mem_cons.1 hm with e | e
    · omega
    · exact Nat.le_of_lt ((List.pairwise_cons.1 hp).1 y e)
theorem cycRep_le {n : Nat} {a : List Nat} (ha : IsP n a) (x : Nat) : cycRep n a x ≤ x := by
  unfold cycRep
  split
  · rename_i h; exact repO_low (gen_grp (one_isP ha)) h
  · exact Nat.le_refl _
theorem cycRep_twice {n : Nat} {a : List Nat} (ha : IsP n a) (x : Nat) : cycRep n a (cycRep n a x) = cycRep n a x := by
  have hG := gen_grp (one_isP ha)
  by_cases h : x < n
  · have h1 := mem_orbL.1 (repO_mem hG h)
    have e : cycRep n a x = repO n (Gen n [a]) x := if_pos h
    rw [e]
    unfold cycRep
    rw [if_pos h1.1]
    exact (repO_eq hG h1.1 h).2 (h1.2.symm hG h)
  · have e : cycRep n a x = x := if_neg h
    rw [e, e]
theorem mvd_even {n : Nat} {a l : List Nat} (ha : IsP n a) (hl : l.length = n) : mvd n a l = l ↔ Even (cycRep n a) n l := by
  have hm := one_isP ha
  have hG := gen_grp hm
  rw [mvd_same ha hl]
  constructor
  · intro h x hx
    have key : ∀ g, Gen n [a] g → ∀ i, i < n → l.getD (g.getD i 0) 0 = l.getD i 0 := by
      intro g hg
      induction hg with
      | one => intro i hi; rw [idL_at hi]
      | step g m h1 h2 ih =>
        intro i hi
        have pg := h1.isP hm
        rw [List.mem_singleton.1 h2, thenL_at pg.len hi, h _ (pg.at hi), ih i hi]
    have h1 := mem_orbL.1 (repO_mem hG hx)
    obtain ⟨g, hg, e⟩ := h1.2
    have e2 : cycRep n a x = repO n (Gen n [a]) x := if_pos hx
    rw [e2, ← e, key g hg x hx]
  · intro h i hi
    have hai := ha.at hi
    have e1 : cycRep n a (a.getD i 0) = cycRep n a i := by
      unfold cycRep
      rw [if_pos hai, if_pos hi]
      exact ((repO_eq hG hi hai).2 ⟨a, Gen.maker hm (by simp), rfl⟩).symm
    rw [h _ hai, e1, ← h i hi]
end Go.Proofs.YtgpkhfpejopacabGreatDoor.Gc

namespace Go.Proofs.YtgpkhfpejopacabGreatDoor.Gc

/-- The permutation as a function. -/
def fnL (a : List Nat) : Nat → Nat := fun i => a.getD i 0
/-- Of each length, from 1 to 7, how many cycles have it. -/
noncomputable def kd (n : Nat) (a : List Nat) : List Nat := (List.range 7).map fun j => (lens n (fnL a)).count (j + 1)
theorem kd_len (n : Nat) (a : List Nat) : (kd n a).length = 7 := by simp [kd]
theorem kd_at {n : Nat} {a : List Nat} {j : Nat} (hj : j < 7) : (kd n a).getD j 0 = (lens n (fnL a)).count (j + 1) := by simp [kd, hj]
theorem counts_sum : ∀ l : List Nat, (∀ x ∈ l, 1 ≤ x ∧ x ≤ 7) → ((List.range 7).map fun j => l.count (j + 1)).sum = l.length
  | [], _ => by simp [List.range_succ]
  | x :: l, h => by
    have ih := counts_sum l fun y hy => h y (by simp [hy])
    have hx := h x (by simp)
    simp only [List.range_succ, List.range_zero, List.nil_append, List.map_cons, List.map_nil, List.sum_cons, List.sum_nil, List.cons_append, Nat.reduceAdd, Nat.zero_add] at ih ⊢
    simp only [List.count_cons, List.length_cons, beq_iff_eq]
    rcases (show x = 1 ∨ x = 2 ∨ x = 3 ∨ x = 4 ∨ x = 5 ∨ x = 6 ∨ x = 7 by omega) with rfl | rfl | rfl | rfl | rfl | rfl | rfl <;> simp <;> omega
theorem lens_in {n : Nat} {a : List Nat} (ha : IsP n a) (hn : n ≤ 7) : ∀ x ∈ lens n (fnL a), 1 ≤ x ∧ x ≤ 7 := fun x hx => by
  have := (ha.pm : Pm n (fnL a)).lens_mem hx
  omega
theorem kd_sum {n : Nat} {a : List Nat} (ha : IsP n a) (hn : n ≤ 7) : (kd n a).sum = (leads n (fnL a) n).length := by
  unfold kd
  rw [counts_sum _ (lens_in ha hn)]
  unfold lens
  rw [List.length_map]
theorem kd_small {n : Nat} {a : List Nat} (hn : n ≤ 7) : ∀ j, j < 7 → (kd n a).getD j 0 ≤ 7 := fun j hj => by
  rw [kd_at hj]
  refine Nat.le_trans List.count_le_length ?_
  unfold lens leads
  rw [List.length_map]
  refine Nat.le_trans (List.length_filter_le _ _) ?_
  rw [List.length_range]; exact hn

theorem gen_itr {n : Nat} {a : List Nat} (ha : IsP n a) {g : List Nat} (h : Gen n [a] g) : ∃ k, ∀ i, i < n → g.getD i 0 = itr (fnL a) k i := by
  induction h with
  | one => exact ⟨0, fun i hi => by rw [idL_at hi]; rfl⟩
  | step g m h1 h2 ih =>
    obtain ⟨k, hk⟩ := ih
    refine ⟨k + 1, fun i hi => ?_⟩
    rw [List.mem_singleton.1 h2, thenL_at (h1.isP (one_isP ha)).len hi, hk i hi]
    rfl
theorem itr_gen {n : Nat} {a : List Nat} (ha : IsP n a) : ∀ k, ∃ g, Gen n [a] g ∧ ∀ i, i < n → g.getD i 0 = itr (fnL a) k i
  | 0 => ⟨idL n, Gen.one, fun i hi => by rw [idL_at hi]; rfl⟩
  | k + 1 => by
    obtain ⟨g, hg, h⟩ := itr_gen ha k
    refine ⟨thenL g a, Gen.step g a hg (by simp), fun i hi => ?_⟩
    rw [thenL_at (hg.isP (one_isP ha)).len hi, h i hi]
    rfl
theorem lead_rep {n : Nat} {a : List Nat} (ha : IsP n a) {x : Nat} (hx : x < n) : leadB n (fnL a) x = decide (cycRep n a x = x) := by
  have P : Pm n (fnL a) := ha.pm
  have hG := gen_grp (one_isP ha)
  rw [Bool.eq_iff_iff, decide_eq_true_iff, P.lead hx]
  have e : cycRep n a x = repO n (Gen n [a]) x := if_pos hx
  rw [e]
  constructor
  · intro h
    obtain ⟨g, hg, eg⟩ := (mem_orbL.1 (repO_mem hG hx)).2
    obtain ⟨k, hk⟩ := gen_itr ha hg
    have h1 := h k
    rw [← hk x hx, eg] at h1
    have h2 := repO_low hG hx
    omega
  · intro h k
    obtain ⟨g, hg, hk⟩ := itr_gen ha k
    rw [← hk x hx]
    have hy : g.getD x 0 < n := (hg.isP (one_isP ha)).at hx
    have h1 := (repO_eq hG hx hy).2 ⟨g, hg, rfl⟩
    have h2 := repO_low hG hy
    omega
end Go.Proofs.YtgpkhfpejopacabGreatDoor.Gc
