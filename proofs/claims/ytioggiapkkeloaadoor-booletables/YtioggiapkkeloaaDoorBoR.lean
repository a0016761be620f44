/- Tables as lists: what is wrong, spectra, sums of products, how far, how immune; nothing of the program. -/
import Derived.Test.YtioggiapkkeloaaDoorBoQ
namespace Go.Proofs.YtioggiapkkeloaaDoor

/-- How many bits a table of this length has; 9: none that may be. -/
def btN (l : Nat) : Nat := ((List.range 9).find? fun n => 2 ^ n == l).getD 9
theorem bt_pow : ∀ n : Fin 9, btN (2 ^ n.val) = n.val := by decide
theorem bt_some {l : Nat} (h : btN l ≤ 8) : l = 2 ^ btN l := by
  unfold btN at h ⊢
  cases e : (List.range 9).find? fun n => 2 ^ n == l with
  | none => rw [e] at h; simp at h
  | some n =>
    have := List.find?_some e
    simp at this
    simp [this]
theorem bt_none {l : Nat} (h : ∀ n, n ≤ 8 → 2 ^ n ≠ l) : btN l = 9 := by
  unfold btN
  have : ((List.range 9).find? fun n => 2 ^ n == l) = none := by
    rw [List.find?_eq_none]
    intro n hn
    have := List.mem_range.1 hn
    simpa using h n (by omega)
  rw [this]; rfl
theorem bt_le (l : Nat) : btN l ≤ 9 := by
  unfold btN
  cases e : (List.range 9).find? fun n => 2 ^ n == l with
  | none => simp
  | some n =>
    have := List.mem_range.1 (List.mem_of_find?_eq_some e)
    simp; omega
def bitB (x : Int) : Bool := x == 0 || x == 1
/-- What is wrong with a table. -/
def tF (l : List Int) : Nat := if btN l.length = 9 then 2 else if (List.range l.length).all (fun j => bitB (l.getD j 0)) then 0 else 1
structure GoodT (n : Nat) (l : List Int) : Prop where
  le : n ≤ 8
  len : l.length = 2 ^ n
  bit : ∀ j, j < 2 ^ n → l.getD j 0 = 0 ∨ l.getD j 0 = 1
theorem pow256 {n : Nat} (h : n ≤ 8) : 1 ≤ 2 ^ n ∧ 2 ^ n ≤ 256 := ⟨Nat.two_pow_pos n, show 2 ^ n ≤ 2 ^ 8 from Nat.pow_le_pow_right (by decide) h⟩
theorem tF_good {n : Nat} {l : List Int} (G : GoodT n l) : tF l = 0 := by
  have hb : btN l.length = n := by rw [G.len]; exact bt_pow ⟨n, by have := G.le; omega⟩
  unfold tF
  rw [hb, if_neg (by have := G.le; omega), if_pos]
  rw [List.all_eq_true]
  intro j hj
  have := G.bit j (by rw [← G.len]; exact List.mem_range.1 hj)
  unfold bitB
  simpa using this
theorem tF_ok {l : List Int} (h : tF l = 0) : GoodT (btN l.length) l := by
  unfold tF at h
  split at h
  · cases h
  · rename_i h1
    split at h
    · rename_i h2
      have h8 : btN l.length ≤ 8 := by have := bt_le l.length; omega
      refine ⟨h8, bt_some h8, fun j hj => ?_⟩
      rw [List.all_eq_true] at h2
      have := h2 j (List.mem_range.2 (by rw [bt_some h8]; exact hj))
      unfold bitB at this
      simpa using this
    · cases h
theorem tF_shape {l : List Int} (h : btN l.length = 9) : tF l = 2 := by unfold tF; rw [if_pos h]
theorem tF_range {l : List Int} (h : btN l.length ≤ 8) {j : Nat} (hj : j < l.length) (hb : ¬ (l.getD j 0 = 0 ∨ l.getD j 0 = 1)) : tF l = 1 := by
  unfold tF
  rw [if_neg (by omega), if_neg]
  intro k
  rw [List.all_eq_true] at k
  have := k j (List.mem_range.2 hj)
  unfold bitB at this
  exact hb (by simpa using this)
theorem tF_cases (l : List Int) : tF l = 0 ∨ tF l = 1 ∨ tF l = 2 := by
  unfold tF
  repeat' split
  all_goals simp
/-- The weight of a number below 256. -/
def wt (x : Nat) : Nat := wtk 8 x
theorem wt_half {x : Nat} (h : x < 256) : wt x = x % 2 + wt (x / 2) := by
  unfold wt
  rw [wtk, wtk_more (n := 7) 1 (show x / 2 < 2 ^ 7 by omega)]
theorem wt_is {n x : Nat} (hn : n ≤ 8) (hx : x < 2 ^ n) : wt x = wtk n x := by
  unfold wt
  rw [show 8 = n + (8 - n) by omega, wtk_more _ hx]
theorem wt_le (x : Nat) : wt x ≤ 8 := wtk_le 8 x
theorem wt_nil : wt 0 = 0 := wtk_nil 8
theorem and_lt {a x N : Nat} (h : a < N) : a &&& x < N := Nat.lt_of_le_of_lt Nat.and_le_left h
def tf (l : List Int) (x : Nat) : Int := l.getD x 0
/-- The spectrum of a table. -/
def spF (n : Nat) (l : List Int) (a : Nat) : Int := Wh n (tg (tf l)) a
def spL (n : Nat) (l : List Int) : List Int := (List.range (2 ^ n)).map (spF n l)
@[simp] theorem spL_len (n : Nat) (l : List Int) : (spL n l).length = 2 ^ n := by simp [spL]
theorem spL_at {n a : Nat} (l : List Int) (h : a < 2 ^ n) : (spL n l).getD a 0 = spF n l a := by simp [spL, h]
theorem spF_sum {n a : Nat} (l : List Int) (hn : n ≤ 8) (ha : a < 2 ^ n) : spF n l a = sm (2 ^ n) fun x => sg2 (wt (a &&& x)) * tg (tf l) x := by
  unfold spF
  rw [Wh_sum]
  exact sm_congr fun x _ => by rw [wt_is hn (and_lt ha)]
/-- The sum of products of a table. -/
def anL (n : Nat) (l : List Int) : List Int := (List.range (2 ^ n)).map (anF n (tf l))
@[simp] theorem anL_len (n : Nat) (l : List Int) : (anL n l).length = 2 ^ n := by simp [anL]
theorem anL_at {n u : Nat} (l : List Int) (h : u < 2 ^ n) : (anL n l).getD u 0 = anF n (tf l) u := by simp [anL, h]
theorem anL_good {n : Nat} {l : List Int} (G : GoodT n l) : GoodT n (anL n l) := ⟨G.le, by simp, fun j hj => by rw [anL_at l hj]; unfold anF; omega⟩
theorem list_is {n : Nat} {l m : List Int} (h1 : l.length = n) (h2 : m.length = n) (h : ∀ j, j < n → l.getD j 0 = m.getD j 0) : l = m := by
  apply List.ext_getElem (by rw [h1, h2])
  intro j a b
  have := h j (by omega)
  simpa [List.getD_eq_getElem?_getD, a, b] using this
theorem anL_anL {n : Nat} {l : List Int} (G : GoodT n l) : anL n (anL n l) = l := by
  refine list_is (n := 2 ^ n) (by simp) G.len fun j hj => ?_
  rw [anL_at _ hj]
  have e : anF n (tf (anL n l)) j = anF n (anF n (tf l)) j := by
    unfold anF
    rw [Pu_congr (g := tf (anL n l)) (h := fun x => Pu n x (tf l) % 2) fun x hx => anL_at l hx]
  rw [e, an_an hj (G.bit j hj)]
  rfl
/-- The sum that the document takes: up to u. -/
theorem an_upto {n u : Nat} (l : List Int) (hu : u < 2 ^ n) : Pu n u (tf l) = sm (u + 1) fun x => if x &&& u = x then tf l x else 0 := by
  rw [Pu_sum]
  have key : ∀ k, sm (u + 1 + k) (fun x => if x &&& u = x then tf l x else 0) = sm (u + 1) fun x => if x &&& u = x then tf l x else 0 := by
    intro k
    induction k with
    | zero => rfl
    | succ k ih =>
      rw [← Nat.add_assoc, sm, ih, if_neg, Int.add_zero]
      intro e
      have : (u + 1 + k) &&& u ≤ u := Nat.and_le_right
      omega
  rw [show 2 ^ n = u + 1 + (2 ^ n - (u + 1)) by omega, key]
/-- The degree, by the numbers below k. -/
def dgT (a : Nat → Int) : Nat → Nat
  | 0 => 0
  | k + 1 => if a k = 1 ∧ dgT a k < wt k then wt k else dgT a k
theorem dgT_le (a : Nat → Int) : ∀ k, dgT a k ≤ 8
  | 0 => by simp [dgT]
  | k + 1 => by
    rw [dgT]
    have := dgT_le a k
    have := wt_le k
    split <;> omega
theorem dgT_at (a : Nat → Int) : ∀ {k u : Nat}, u < k → a u = 1 → wt u ≤ dgT a k
  | k + 1, u, h, e => by
    rw [dgT]
    by_cases hk : u = k
    · subst hk
      split
      · exact Nat.le_refl _
      · rename_i c
        have : ¬ dgT a u < wt u := fun x => c ⟨e, x⟩
        omega
    · have := dgT_at a (k := k) (u := u) (by omega) e
      split <;> omega
theorem dgT_is (a : Nat → Int) : ∀ k, dgT a k = 0 ∨ ∃ u, u < k ∧ a u = 1 ∧ wt u = dgT a k
  | 0 => .inl rfl
  | k + 1 => by
    rw [dgT]
    split
    · rename_i c
      exact .inr ⟨k, by omega, c.1, rfl⟩
    · rcases dgT_is a k with h | ⟨u, hu, e, hw⟩
      · exact .inl h
      · exact .inr ⟨u, by omega, e, hw⟩
theorem dgT_congr {a b : Nat → Int} : ∀ {k : Nat}, (∀ u, u < k → a u = b u) → dgT a k = dgT b k
  | 0, _ => rfl
  | k + 1, h => by rw [dgT, dgT, dgT_congr fun u hu => h u (by omega), h k (by omega)]
/-- The degree of a table. -/
def dgN (n : Nat) (l : List Int) : Nat := dgT (anF n (tf l)) (2 ^ n)
/-- Up to m bits the spectrum is 0. -/
def imB (n : Nat) (S : Nat → Int) (m : Nat) : Bool := (List.range (2 ^ n)).all fun a => a == 0 || decide (m < wt a) || S a == 0
theorem imB_iff {n m : Nat} {S : Nat → Int} : imB n S m = true ↔ ∀ a, a < 2 ^ n → a ≠ 0 → wt a ≤ m → S a = 0 := by
  unfold imB
  rw [List.all_eq_true]
  constructor
  · intro h a ha h0 hw
    have := h a (List.mem_range.2 ha)
    simp [h0] at this
    rcases this with h | h
    · omega
    · exact h
  · intro h a ha
    have ha := List.mem_range.1 ha
    by_cases h0 : a = 0
    · simp [h0]
    · by_cases hw : wt a ≤ m
      · simp [h a ha h0 hw]
      · simp; omega
/-- How immune: the greatest such m. -/
def imN (n : Nat) (S : Nat → Int) : Nat → Nat
  | 0 => 0
  | m + 1 => if imB n S (m + 1) then m + 1 else imN n S m
theorem imN_le (n : Nat) (S : Nat → Int) : ∀ m, imN n S m ≤ m
  | 0 => Nat.le_refl _
  | m + 1 => by
    have := imN_le n S m
    rw [imN]; split <;> omega
theorem imB_zero {n : Nat} (S : Nat → Int) (hn : n ≤ 8) : imB n S 0 = true := imB_iff.2 fun a ha h0 hw => by
  have := wtk_pos ha h0
  rw [wt_is hn ha] at hw
  omega
theorem imN_is {n : Nat} (S : Nat → Int) (hn : n ≤ 8) : ∀ m, imB n S (imN n S m) = true
  | 0 => imB_zero S hn
  | m + 1 => by
    rw [imN]
    split
    · assumption
    · exact imN_is S hn m
theorem imB_down {n m k : Nat} {S : Nat → Int} (h : imB n S m = true) (hk : k ≤ m) : imB n S k = true := imB_iff.2 fun a ha h0 hw => imB_iff.1 h a ha h0 (by omega)
theorem imN_most {n k : Nat} {S : Nat → Int} (h : imB n S k = true) : ∀ {m : Nat}, k ≤ m → k ≤ imN n S m
  | 0, hk => by simp [imN]; omega
  | m + 1, hk => by
    rw [imN]
    split
    · omega
    · rename_i c
      by_cases e : k = m + 1
      · subst e; exact (c h).elim
      · exact imN_most h (by omega)
/-- Siegenthaler, of a table. -/
theorem sieg_table {n : Nat} {l : List Int} (G : GoodT n l) : dgN n l + imN n (spF n l) n ≤ n := by
  have hi := imB_iff.1 (imN_is (spF n l) G.le n)
  have hm := imN_le n (spF n l) n
  rcases dgT_is (anF n (tf l)) (2 ^ n) with h | ⟨u, hu, e, hw⟩
  · unfold dgN; omega
  · unfold dgN
    rw [← hw]
    apply Classical.byContradiction
    intro hc
    have hz := siegenthaler (n := n) (m := imN n (spF n l) n) (u := u) (t := tf l) (fun a ha h0 hb => hi a ha h0 (by rw [wt_is G.le ha]; exact hb)) hm (by rw [← wt_is G.le hu]; omega)
    unfold anF at e
    omega
/-- How far: half of what the greatest number of the spectrum lacks of all. -/
def FarIs (N : Nat) (S : Nat → Int) (f : Nat) : Prop := (∀ a, a < N → S a ≤ N - 2 * f ∧ -(N - 2 * f : Int) ≤ S a) ∧ ∃ a, a < N ∧ (S a = N - 2 * f ∨ S a = -(N - 2 * f : Int))
theorem FarIs.one {N f f' : Nat} {S : Nat → Int} (h : FarIs N S f) (h' : FarIs N S f') : f = f' := by
  obtain ⟨a, ha, e⟩ := h.2
  obtain ⟨b, hb, e'⟩ := h'.2
  have h1 := h.1 b hb
  have h2 := h'.1 a ha
  have h3 := h.1 a ha
  have h4 := h'.1 b hb
  rcases e with e | e <;> rcases e' with e' | e' <;> omega
theorem tg_sq {t : Nat → Int} {x : Nat} (h : t x = 0 ∨ t x = 1) : tg t x * tg t x = 1 := by
  unfold tg
  rcases h with e | e <;> rw [e] <;> rfl
theorem pars_table {n : Nat} {l : List Int} (G : GoodT n l) : (sm (2 ^ n) fun a => spF n l a * spF n l a) = 2 ^ n * 2 ^ n := by
  unfold spF
  rw [parseval, sm_congr (g := fun _ => 1) fun x hx => tg_sq (G.bit x hx), sm_const]
  simp
theorem sq_le {a b : Int} (h1 : a ≤ b) (h2 : -b ≤ a) : a * a ≤ b * b := by
  have h : 0 ≤ (b - a) * (b + a) := Int.mul_nonneg (by omega) (by omega)
  have e : (b - a) * (b + a) = b * b - a * a := by grind
  omega
theorem sm_mono {f g : Nat → Int} : ∀ {n : Nat}, (∀ i, i < n → f i ≤ g i) → sm n f ≤ sm n g
  | 0, _ => Int.le_refl _
  | n + 1, h => by
    have h1 := sm_mono (n := n) fun i hi => h i (by omega)
    have h2 := h n (by omega)
    rw [sm, sm]; omega
/-- No function is too far from all sums. -/
theorem far_bound {n f : Nat} {l : List Int} (G : GoodT n l) (h : FarIs (2 ^ n) (spF n l) f) : (2 ^ n : Int) ≤ ((2 ^ n : Nat) - 2 * f : Int) * ((2 ^ n : Nat) - 2 * f : Int) := by
  have e1 := pars_table G
  have e2 : (sm (2 ^ n) fun a => spF n l a * spF n l a) ≤ sm (2 ^ n) fun _ => ((2 ^ n : Nat) - 2 * f : Int) * ((2 ^ n : Nat) - 2 * f : Int) := sm_mono fun a ha => sq_le (h.1 a ha).1 (h.1 a ha).2
  rw [e1, sm_const] at e2
  have hp : (0 : Int) < ((2 ^ n : Nat) : Int) := by have := Nat.two_pow_pos n; omega
  have e3 : ((2 ^ n : Nat) : Int) = 2 ^ n := by simp
  rw [← e3] at e2 ⊢
  exact Int.le_of_mul_le_mul_left e2 hp
/-- All numbers of the spectrum have one size. -/
def Flat (N : Nat) (S : Nat → Int) : Prop := ∀ a, a < N → S a = S 0 ∨ S a = - S 0
theorem flat_sq {n : Nat} {l : List Int} (G : GoodT n l) (h : Flat (2 ^ n) (spF n l)) : spF n l 0 * spF n l 0 = 2 ^ n := by
  have e1 := pars_table G
  have e2 : (sm (2 ^ n) fun a => spF n l a * spF n l a) = sm (2 ^ n) fun _ => spF n l 0 * spF n l 0 := sm_congr fun a ha => by
    rcases h a ha with e | e <;> rw [e]
    rw [Int.neg_mul_neg]
  rw [e2, sm_const] at e1
  have hp : ((2 ^ n : Nat) : Int) ≠ 0 := by have := Nat.two_pow_pos n; omega
  have e3 : ((2 ^ n : Nat) : Int) = 2 ^ n := by simp
  rw [← e3] at e1 ⊢
  exact Int.eq_of_mul_eq_mul_left hp e1
theorem sq_pow : ∀ n : Fin 9, ∀ c : Fin 17, c.val * c.val = 2 ^ n.val → n.val % 2 = 0 ∧ c.val = 2 ^ (n.val / 2) := by decide
theorem flat_pow {n : Nat} {l : List Int} (G : GoodT n l) (h : Flat (2 ^ n) (spF n l)) : n % 2 = 0 ∧ (spF n l 0 = 2 ^ (n / 2) ∨ spF n l 0 = -(2 ^ (n / 2))) := by
  have e := flat_sq G h
  have hb := pow256 G.le
  have e3 : ((2 ^ n : Nat) : Int) = 2 ^ n := by simp
  obtain ⟨c, hc⟩ : ∃ c : Nat, c = (spF n l 0).natAbs := ⟨_, rfl⟩
  have e1 : c * c = 2 ^ n := by
    have : ((c * c : Nat) : Int) = spF n l 0 * spF n l 0 := by rw [hc, ← Int.natAbs_mul_self]
    rw [e, ← e3] at this
    omega
  have hc16 : c < 17 := by
    apply Classical.byContradiction
    intro k
    have := Nat.mul_le_mul (show 17 ≤ c by omega) (show 17 ≤ c by omega)
    omega
  obtain ⟨h1, h2⟩ := sq_pow ⟨n, by have := G.le; omega⟩ ⟨c, hc16⟩ e1
  dsimp only at h1 h2
  refine ⟨h1, ?_⟩
  have h3 : ((2 ^ (n / 2) : Nat) : Int) = 2 ^ (n / 2) := by simp
  rw [← h3, ← h2]
  omega
/-- Rothaus, of a table. -/
theorem roth_table {n : Nat} {l : List Int} (G : GoodT n l) (h : Flat (2 ^ n) (spF n l)) (hn : 2 < n) : dgN n l ≤ n / 2 := by
  obtain ⟨h1, h2⟩ := flat_pow G h
  obtain ⟨k, rfl⟩ : ∃ k, n = 2 * k := ⟨n / 2, by omega⟩
  rw [show 2 * k / 2 = k by omega] at h2 ⊢
  rcases dgT_is (anF (2 * k) (tf l)) (2 ^ (2 * k)) with h0 | ⟨u, hu, e, hw⟩
  · unfold dgN; omega
  · unfold dgN
    rw [← hw]
    apply Classical.byContradiction
    intro hc
    have hs : ∀ a, a < 2 ^ (2 * k) → ∃ s : Int, Sg s ∧ spF (2 * k) l a = 2 ^ k * s := fun a ha => by
      rcases h a ha with e1 | e1 <;> rcases h2 with e2 | e2 <;> rw [e1, e2]
      · exact ⟨1, .inl rfl, by omega⟩
      · exact ⟨-1, .inr rfl, by omega⟩
      · exact ⟨-1, .inr rfl, by omega⟩
      · exact ⟨1, .inl rfl, by omega⟩
    have hz := rothaus (k := k) (u := u) (t := tf l) (s := fun a => if ha : a < 2 ^ (2 * k) then (hs a ha).choose else 1) (by omega) (fun a ha => by rw [dif_pos ha]; exact (hs a ha).choose_spec.1) (fun a ha => by rw [dif_pos ha]; exact (hs a ha).choose_spec.2) (by rw [← wt_is G.le hu]; omega)
    unfold anF at e
    omega
/-- A bent function is as far as may be. -/
theorem flat_far {n f : Nat} {l : List Int} (G : GoodT n l) (h : Flat (2 ^ n) (spF n l)) (hf : FarIs (2 ^ n) (spF n l) f) : ((2 ^ n : Nat) - 2 * f : Int) * ((2 ^ n : Nat) - 2 * f : Int) = 2 ^ n := by
  rw [← flat_sq G h]
  obtain ⟨a, ha, e⟩ := hf.2
  have hS : spF n l 0 * spF n l 0 = spF n l a * spF n l a := by
    rcases h a ha with k | k <;> rw [k]
    rw [Int.neg_mul_neg]
  rw [hS]
  rcases e with e | e <;> rw [e]
  rw [Int.neg_mul_neg]
/-- The function of a spectrum. -/
def bkF (n : Nat) (S : Nat → Int) (x : Nat) : Int := if Wh n S x < 0 then 1 else 0
def bkL (n : Nat) (m : List Int) : List Int := (List.range (2 ^ n)).map (bkF n (tf m))
theorem back_spec {n : Nat} {l : List Int} (G : GoodT n l) : bkL n (spL n l) = l := by
  refine list_is (n := 2 ^ n) (by simp [bkL]) G.len fun j hj => ?_
  have e1 : (bkL n (spL n l)).getD j 0 = bkF n (tf (spL n l)) j := by simp [bkL, hj]
  rw [e1]
  unfold bkF
  rw [Wh_congr (g := tf (spL n l)) (h := Wh n (tg (tf l))) j fun x hx => spL_at l hx, Wh_Wh n _ j hj]
  have hp : (0 : Int) < 2 ^ n := Int.pow_pos (by decide)
  show (if 2 ^ n * (1 - 2 * l.getD j 0) < 0 then (1 : Int) else 0) = l.getD j 0
  rcases G.bit j hj with e | e <;> rw [e]
  · rw [if_neg]; omega
  · rw [if_pos]; omega
theorem spF_abs {n a : Nat} {l : List Int} (G : GoodT n l) (ha : a < 2 ^ n) : -(2 ^ n : Int) ≤ spF n l a ∧ spF n l a ≤ 2 ^ n := by
  rw [spF_sum l G.le ha]
  have key : ∀ N : Nat, N ≤ 2 ^ n → -(N : Int) ≤ (sm N fun x => sg2 (wt (a &&& x)) * tg (tf l) x) ∧ (sm N fun x => sg2 (wt (a &&& x)) * tg (tf l) x) ≤ N := by
    intro N
    induction N with
    | zero => simp [sm]
    | succ N ih =>
      intro hN
      have := ih (by omega)
      have h1 := sg2_sg (wt (a &&& N))
      have h2 := G.bit N (by omega)
      rw [sm]
      have h3 : tg (tf l) N = 1 ∨ tg (tf l) N = -1 := by
        unfold tg tf
        rcases h2 with e | e <;> rw [e] <;> simp
      rcases h1 with e | e <;> rcases h3 with k | k <;> rw [e, k] <;> omega
  have := key _ (Nat.le_refl _)
  have e3 : ((2 ^ n : Nat) : Int) = 2 ^ n := by simp
  omega
end Go.Proofs.YtioggiapkkeloaaDoor
