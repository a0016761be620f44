/- Quasigroups: units, order, brackets, closed sets, other names; nothing of the program. -/
import Derived.Test.YtgpkhfpejopacabGreatDoorLInter
namespace Go.Proofs.YtgpkhfpejopacabGreatDoor

/-- The first of which it holds. -/
def fstN (n : Nat) (p : Nat → Bool) : Option Nat := (List.range n).find? p
def allN (n : Nat) (p : Nat → Bool) : Bool := (List.range n).all p
theorem allN_iff {n : Nat} {p : Nat → Bool} : allN n p = true ↔ ∀ x, x < n → p x = true := by
  unfold allN
  rw [List.all_eq_true]
  exact ⟨fun h x hx => h x (List.mem_range.2 hx), fun h x hx => h x (List.mem_range.1 hx)⟩
theorem allN_no {n : Nat} {p : Nat → Bool} {x : Nat} (hx : x < n) (h : p x = false) : allN n p = false := by
  cases e : allN n p with
  | false => rfl
  | true => have := allN_iff.1 e x hx; rw [h] at this; cases this
theorem allN_congr {n : Nat} {p q : Nat → Bool} (h : ∀ x, x < n → p x = q x) : allN n p = allN n q := by
  cases e : allN n q with
  | true => exact allN_iff.2 fun x hx => by rw [h x hx]; exact allN_iff.1 e x hx
  | false =>
    cases e' : allN n p with
    | false => rfl
    | true =>
      have : allN n q = true := allN_iff.2 fun x hx => by rw [← h x hx]; exact allN_iff.1 e' x hx
      rw [e] at this; cases this
theorem fst_at {n : Nat} {p : Nat → Bool} {x : Nat} (hx : x < n) (h : p x = true) (hb : ∀ y, y < x → p y = false) : fstN n p = some x := by
  unfold fstN
  rw [List.find?_range_eq_some]
  exact ⟨h, List.mem_range.2 hx, fun j hj => by rw [hb j hj]; rfl⟩
theorem fst_none {n : Nat} {p : Nat → Bool} (h : ∀ y, y < n → p y = false) : fstN n p = none := by
  unfold fstN
  rw [List.find?_range_eq_none]
  intro i hi
  rw [h i hi]; rfl
theorem fst_some {n : Nat} {p : Nat → Bool} {x : Nat} (h : fstN n p = some x) : x < n ∧ p x = true ∧ ∀ y, y < x → p y = false := by
  unfold fstN at h
  rw [List.find?_range_eq_some] at h
  exact ⟨List.mem_range.1 h.2.1, h.1, fun y hy => by have := h.2.2 y hy; simpa using this⟩
theorem fst_no {n : Nat} {p : Nat → Bool} (h : fstN n p = none) : ∀ y, y < n → p y = false := by
  unfold fstN at h
  rw [List.find?_range_eq_none] at h
  intro y hy
  have := h y hy
  simpa using this
theorem fst_congr {n : Nat} {p q : Nat → Bool} (h : ∀ x, x < n → p x = q x) : fstN n p = fstN n q := by
  cases e : fstN n q with
  | none => exact fst_none fun y hy => by rw [h y hy]; exact fst_no e y hy
  | some x =>
    obtain ⟨h1, h2, h3⟩ := fst_some e
    exact fst_at h1 (by rw [h x h1]; exact h2) fun y hy => by rw [h y (by omega)]; exact h3 y hy
/-- All is so, if nothing is first in not being so. -/
theorem allN_fst {n : Nat} {p : Nat → Bool} : allN n p = !(fstN n fun x => !p x).isSome := by
  cases e : fstN n fun x => !p x with
  | none => exact allN_iff.2 fun x hx => by have := fst_no e x hx; simpa using this
  | some x =>
    obtain ⟨h1, h2, h3⟩ := fst_some e
    exact allN_no h1 (by simpa using h2)

def unitB (n : Nat) (t : Nat → Nat → Nat) (x : Nat) : Bool := allN n fun y => t x y == y && t y x == y
def comB (n : Nat) (t : Nat → Nat → Nat) : Bool := allN n fun x => allN n fun y => t x y == t y x
def assB (n : Nat) (t : Nat → Nat → Nat) : Bool := allN n fun x => allN n fun y => allN n fun z => t (t x y) z == t x (t y z)
def idmB (n : Nat) (t : Nat → Nat → Nat) : Bool := allN n fun x => t x x == x
def cloB (n : Nat) (t : Nat → Nat → Nat) (h : Nat → Bool) : Bool := allN n fun x => allN n fun y => !h x || !h y || h (t x y)
/-- How many closed sets there are ahead of this one. -/
def parB (n : Nat) (t : Nat → Nat → Nat) (k : Nat) : Nat := (List.range k).countP fun set => decide (1 ≤ set) && cloB n t set.testBit
theorem parB_succ {n : Nat} {t : Nat → Nat → Nat} {k : Nat} (h : 1 ≤ k) : parB n t (k + 1) = parB n t k + if cloB n t k.testBit = true then 1 else 0 := by
  unfold parB
  rw [List.range_succ, List.countP_append, List.countP_singleton]
  simp [h]
theorem parB_one (n : Nat) (t : Nat → Nat → Nat) : parB n t 1 = 0 := by
  simp [parB]
theorem parB_le (n : Nat) (t : Nat → Nat → Nat) (k : Nat) : parB n t k ≤ k := by
  unfold parB
  exact Nat.le_trans List.countP_le_length (by simp)
/-- Do these names lead from one to the other? -/
def rnB (n : Nat) (s t : Nat → Nat → Nat) (p : Nat → Nat) : Bool := allN n fun x => allN n fun y => t (p x) (p y) == p (s x y)

theorem com_tri {n : Nat} {t : Nat → Nat → Nat} : comB n t = true ↔ ∀ x, x < n → ∀ y, y < x → t x y = t y x := by
  unfold comB
  rw [allN_iff]
  constructor
  · intro h x hx y hy
    have := allN_iff.1 (h x hx) y (by omega)
    simpa using this
  · intro h x hx
    refine allN_iff.2 fun y hy => ?_
    rcases Nat.lt_trichotomy x y with e | e | e
    · simpa using (h y hy x e).symm
    · subst e; simp
    · simpa using h x hx y e
theorem unit_iff {n : Nat} {t : Nat → Nat → Nat} {u : Nat} : unitB n t u = true ↔ ∀ y, y < n → t u y = y ∧ t y u = y := by
  unfold unitB
  rw [allN_iff]
  exact ⟨fun h y hy => by have := h y hy; simpa using this, fun h y hy => by have := h y hy; simpa using this⟩
theorem ass_iff {n : Nat} {t : Nat → Nat → Nat} : assB n t = true ↔ ∀ x y z, x < n → y < n → z < n → t (t x y) z = t x (t y z) := by
  unfold assB
  rw [allN_iff]
  constructor
  · intro h x y z hx hy hz
    have := allN_iff.1 (allN_iff.1 (h x hx) y hy) z hz
    simpa using this
  · intro h x hx
    refine allN_iff.2 fun y hy => allN_iff.2 fun z hz => ?_
    simpa using h x y z hx hy hz
theorem clo_iff {n : Nat} {t : Nat → Nat → Nat} {H : Nat → Bool} : cloB n t H = true ↔ ∀ x y, x < n → y < n → H x = true → H y = true → H (t x y) = true := by
  unfold cloB
  rw [allN_iff]
  constructor
  · intro h x y hx hy h1 h2
    have := allN_iff.1 (h x hx) y hy
    simpa [h1, h2] using this
  · intro h x hx
    refine allN_iff.2 fun y hy => ?_
    cases h1 : H x with
    | false => rfl
    | true =>
      cases h2 : H y with
      | false => rfl
      | true => simpa using h x y hx hy h1 h2
theorem rn_iff {n : Nat} {s t : Nat → Nat → Nat} {p : Nat → Nat} : rnB n s t p = true ↔ ∀ x y, x < n → y < n → t (p x) (p y) = p (s x y) := by
  unfold rnB
  rw [allN_iff]
  constructor
  · intro h x y hx hy
    have := allN_iff.1 (h x hx) y hy
    simpa using this
  · intro h x hx
    refine allN_iff.2 fun y hy => ?_
    simpa using h x y hx hy

/-- What associates has a unit. -/
theorem grp_unit {n : Nat} {t : Nat → Nat → Nat} (L : Lat n t) (h0 : 0 < n) (ha : assB n t = true) : ∃ u, u < n ∧ unitB n t u = true := by
  have A := ass_iff.1 ha
  obtain ⟨e, he, e0⟩ := L.onto h0 h0
  have R : ∀ y, y < n → t y e = y := fun y hy => by
    obtain ⟨r, hr, rfl⟩ := L.ontoC h0 hy
    rw [A r 0 e hr h0 he, e0]
  refine ⟨e, he, unit_iff.2 fun z hz => ⟨?_, R z hz⟩⟩
  refine L.row 0 h0 _ _ (L.lt _ _ he hz) hz ?_
  rw [← A 0 e z h0 he hz, R 0 h0]
theorem unit_one {n : Nat} {t : Nat → Nat → Nat} {u v : Nat} (hu : u < n) (hv : v < n) (h1 : unitB n t u = true) (h2 : unitB n t v = true) : u = v := by
  have a := (unit_iff.1 h1 v hv).1
  have b := (unit_iff.1 h2 u hu).2
  omega
theorem grp_inv {n : Nat} {t : Nat → Nat → Nat} (ha : assB n t = true) {u x l r : Nat} (hu : unitB n t u = true) (hx : x < n) (hl : l < n) (hr : r < n) (e1 : t x l = u) (e2 : t r x = u) : l = r := by
  have A := ass_iff.1 ha r x l hr hx hl
  rw [e1, e2, (unit_iff.1 hu l hl).1, (unit_iff.1 hu r hr).2] at A
  exact A
/-- In what is closed, what is taken to a member is a member. -/
theorem clo_onto {n : Nat} {t : Nat → Nat → Nat} (L : Lat n t) {H : Nat → Bool} (hc : cloB n t H = true) {h x : Nat} (hh : h < n) (hx : x < n) (Hh : H h = true) (Hx : H x = true) : ∃ y, y < n ∧ H y = true ∧ t h y = x := by
  have C := clo_iff.1 hc
  obtain ⟨y, hy, e⟩ := inj_onto (n := n) (f := fun y => if H y then t h y else y) (fun i hi => by
    split
    · exact L.lt h i hh hi
    · exact hi) (fun i j hi hj e => by
    by_cases h1 : H i = true
    · by_cases h2 : H j = true
      · rw [if_pos h1, if_pos h2] at e
        exact L.row h hh i j hi hj e
      · rw [if_pos h1, if_neg h2] at e
        exact (h2 (e ▸ C h i hh hi Hh h1)).elim
    · by_cases h2 : H j = true
      · rw [if_neg h1, if_pos h2] at e
        exact (h1 (e ▸ C h j hh hj Hh h2)).elim
      · rw [if_neg h1, if_neg h2] at e
        exact e) hx
  by_cases h1 : H y = true
  · rw [if_pos h1] at e
    exact ⟨y, hy, h1, e⟩
  · rw [if_neg h1] at e
    subst e
    exact (h1 Hx).elim
theorem clo_unit {n : Nat} {t : Nat → Nat → Nat} (L : Lat n t) {H : Nat → Bool} (hc : cloB n t H = true) {h u : Nat} (hh : h < n) (Hh : H h = true) (hu : u < n) (hU : unitB n t u = true) : H u = true := by
  obtain ⟨y, hy, h1, e⟩ := clo_onto L hc hh hh Hh Hh
  have : y = u := L.row h hh y u hy hu (by rw [e, (unit_iff.1 hU h hh).2])
  subst this
  exact h1
def inC (n : Nat) (t : Nat → Nat → Nat) (H : Nat → Bool) (c x : Nat) : Bool := (List.range n).any fun h => H h && t c h == x
theorem inC_iff {n : Nat} {t : Nat → Nat → Nat} {H : Nat → Bool} {c x : Nat} : inC n t H c x = true ↔ ∃ h, h < n ∧ H h = true ∧ t c h = x := by
  unfold inC
  rw [List.any_eq_true]
  constructor
  · rintro ⟨h, h1, h2⟩
    rw [Bool.and_eq_true, beq_iff_eq] at h2
    exact ⟨h, List.mem_range.1 h1, h2⟩
  · rintro ⟨h, h1, h2, h3⟩
    exact ⟨h, List.mem_range.2 h1, by rw [h2, h3]; simp⟩
theorem sm_dvd {d : Nat} {f : Nat → Nat} : ∀ {n : Nat}, (∀ i, i < n → d ∣ f i) → d ∣ Sm n f
  | 0, _ => by simp [Sm]
  | n + 1, h => by
    rw [Sm_succ]
    exact Nat.dvd_add (sm_dvd fun i hi => h i (by omega)) (h n (by omega))
/-- Lagrange. -/
theorem clo_dvd {n : Nat} {t : Nat → Nat → Nat} (L : Lat n t) (ha : assB n t = true) {H : Nat → Bool} (hc : cloB n t H = true) {h u : Nat} (hh : h < n) (Hh : H h = true) (hu : u < n) (hU : unitB n t u = true) : (List.range n).countP H ∣ n := by
  have A := ass_iff.1 ha
  have C := clo_iff.1 hc
  have Hu := clo_unit L hc hh Hh hu hU
  have U := unit_iff.1 hU
  have I : ∀ c, c < n → inC n t H c c = true := fun c hc => inC_iff.2 ⟨u, hu, Hu, (U c hc).2⟩
  have S : ∀ c x, c < n → x < n → inC n t H c x = true → inC n t H x c = true := fun c x hc' hx h => by
    obtain ⟨k, hk, Hk, e⟩ := inC_iff.1 h
    obtain ⟨y, hy, Hy, e2⟩ := clo_onto L hc hk hu Hk Hu
    refine inC_iff.2 ⟨y, hy, Hy, ?_⟩
    rw [← e, A c k y hc' hk hy, e2, (U c hc').2]
  have T : ∀ c x y, c < n → x < n → y < n → inC n t H c x = true → inC n t H x y = true → inC n t H c y = true := fun c x y hc' hx hy h1 h2 => by
    obtain ⟨k, hk, Hk, e⟩ := inC_iff.1 h1
    obtain ⟨l, hl, Hl, e2⟩ := inC_iff.1 h2
    refine inC_iff.2 ⟨t k l, L.lt k l hk hl, C k l hk hl Hk Hl, ?_⟩
    rw [← A c k l hc' hk hl, e, e2]
  obtain ⟨rep, hrep⟩ : ∃ rep : Nat → Nat, ∀ x, x < n → fstN n (inC n t H x) = some (rep x) := by
    refine ⟨fun x => (fstN n (inC n t H x)).getD 0, fun x hx => ?_⟩
    cases e : fstN n (inC n t H x) with
    | none => have := fst_no e x hx; rw [I x hx] at this; cases this
    | some y => simp [e]
  have rlt : ∀ x, x < n → rep x < n := fun x hx => (fst_some (hrep x hx)).1
  have rin : ∀ x, x < n → inC n t H x (rep x) = true := fun x hx => (fst_some (hrep x hx)).2.1
  have same : ∀ c x, c < n → x < n → inC n t H c x = true → rep x = rep c := fun c x hc' hx h => by
    have : fstN n (inC n t H x) = fstN n (inC n t H c) := fst_congr fun y hy => by
      cases e : inC n t H c y with
      | true => exact T x c y hx hc' hy (S c x hc' hx h) e
      | false =>
        cases e' : inC n t H x y with
        | false => rfl
        | true => rw [T c x y hc' hx hy h e'] at e; cases e
    rw [hrep x hx, hrep c hc'] at this
    exact Option.some.inj this
  have key : (List.range n).countP (fun _ => true) = Sm n fun c => (List.range n).countP fun x => true && rep x == c := countP_key fun x hx => rlt x (List.mem_range.1 hx)
  have hn : (List.range n).countP (fun _ => true) = n := by simp
  rw [hn] at key
  generalize hd : (List.range n).countP H = d
  have hd' : ∀ c, c < n → d ∣ (List.range n).countP fun x => true && rep x == c := fun c hc' => by
    by_cases hr : rep c = c
    · have e1 : ((List.range n).countP fun x => true && rep x == c) = (List.range n).countP (inC n t H c) := List.countP_congr fun x hx => by
        have hx := List.mem_range.1 hx
        rw [Bool.true_and, beq_iff_eq]
        constructor
        · intro e
          have := rin x hx
          rw [e] at this
          exact S x c hx hc' this
        · intro e
          rw [same c x hc' hx e, hr]
      have e2 : (List.range n).countP (inC n t H c) = (List.range n).countP H := by
        rw [← (perm_range (f := t c) (fun i hi => L.lt c i hc' hi) (L.row c hc')).countP_eq, List.countP_map]
        refine List.countP_congr fun x hx => ?_
        have hx := List.mem_range.1 hx
        show inC n t H c (t c x) = true ↔ _
        rw [inC_iff]
        constructor
        · rintro ⟨k, hk, Hk, e⟩
          rw [← L.row c hc' k x hk hx e]; exact Hk
        · intro e
          exact ⟨x, hx, e, rfl⟩
      rw [e1, e2, hd]
      exact Nat.dvd_refl _
    · have e1 : ((List.range n).countP fun x => true && rep x == c) = 0 := by
        rw [List.countP_eq_zero]
        intro x hx
        have hx := List.mem_range.1 hx
        rw [Bool.true_and, beq_iff_eq]
        intro e
        subst e
        exact hr (same x _ hx (rlt x hx) (rin x hx))
      rw [e1]
      exact Nat.dvd_zero _
  have := sm_dvd hd'
  rw [← key] at this
  exact this
/-- A set that is not empty has a member. -/
theorem bit_ex {n k : Nat} (h1 : 1 ≤ k) (h2 : k < 2 ^ n) : ∃ x, x < n ∧ k.testBit x = true := by
  obtain ⟨i, hi⟩ := Nat.exists_testBit_of_ne_zero (show k ≠ 0 by omega)
  refine ⟨i, ?_, hi⟩
  refine Classical.byContradiction fun h => ?_
  have : k < 2 ^ i := Nat.lt_of_lt_of_le h2 (Nat.pow_le_pow_right (by decide) (by omega))
  rw [Nat.testBit_lt_two_pow this] at hi
  cases hi

/-- What has other names. -/
theorem lat_left {n : Nat} {t : Nat → Nat → Nat} (L : Lat n t) {a b : Nat} (ha : a < n) (hb : b < n) : ∃ y, fstN n (fun y => t a y == b) = some y ∧ y < n ∧ t a y = b := by
  obtain ⟨j, hj, e⟩ := L.onto ha hb
  cases h : fstN n (fun y => t a y == b) with
  | none => have := fst_no h j hj; simp [e] at this
  | some y => obtain ⟨h1, h2, _⟩ := fst_some h; exact ⟨y, rfl, h1, by simpa using h2⟩
theorem lat_right {n : Nat} {t : Nat → Nat → Nat} (L : Lat n t) {a b : Nat} (ha : a < n) (hb : b < n) : ∃ x, fstN n (fun x => t x a == b) = some x ∧ x < n ∧ t x a = b := by
  obtain ⟨j, hj, e⟩ := L.ontoC ha hb
  cases h : fstN n (fun x => t x a == b) with
  | none => have := fst_no h j hj; simp [e] at this
  | some y => obtain ⟨h1, h2, _⟩ := fst_some h; exact ⟨y, rfl, h1, by simpa using h2⟩
end Go.Proofs.YtgpkhfpejopacabGreatDoor
