/- A slice of rows of the call's own, as equations; what solving them tells of the shortest taps. -/
import Derived.Test.YtglomemadcdagaaRGau
import Derived.Test.YtglomemadcdagaaR33
namespace Go.Proofs.Ytglomemadcdagaa
open Go.RowKit

theorem tmod_emod (x p : Int) : (x.tmod p + p) % p = x % p := by
  rw [Int.add_emod_right, Int.tmod_eq_emod]
  split
  · simp
  · rw [Int.sub_emod, Int.emod_emod, show ((p.natAbs : Int)) % p = 0 from Int.emod_eq_zero_of_dvd (Int.dvd_natAbs.2 (Int.dvd_refl _)), Int.sub_zero, Int.emod_emod]
theorem tmod_bd (x p : Int) (hp : 0 < p) : -p < x.tmod p ∧ x.tmod p < p := by
  constructor
  · have h1 := Int.emod_nonneg x (show p ≠ 0 by omega); have h2 := Int.emod_lt_of_pos x hp; rw [Int.tmod_eq_emod]; split <;> omega
  · exact Int.tmod_lt_of_pos x hp
theorem inv_small {P : Nat} {d : Int} (hs : smB P = true) (h0 : 0 ≤ d) (h1 : d < P) (hd : d ≠ 0) : ∃ e : Nat, 1 ≤ e ∧ e < P ∧ (e : Int) * d % P = 1 := by
  have hp := smB_bd hs
  obtain ⟨e, he⟩ := inv_of hs (x := d) (fun h => by have := Int.le_of_dvd (by omega) h; omega)
  have h2 := Int.emod_nonneg e (show (P : Int) ≠ 0 by omega)
  have h3 := Int.emod_lt_of_pos e (show 0 < (P : Int) by omega)
  have h4 : (e % P) * d % P = 1 := by
    have h5 : (P : Int) ∣ e % P * d - 1 := by
      have h6 := Int.dvd_mul_of_dvd_left (c := d) (emod_dvd (P : Int) e)
      have h7 := Int.dvd_add h6 he
      rwa [Int.sub_mul, show e % P * d - e * d + (e * d - 1) = e % P * d - 1 by omega] at h7
    rw [Int.emod_eq_emod_iff_emod_sub_eq_zero.2 (Int.emod_eq_zero_of_dvd h5)]
    exact Int.emod_eq_of_lt (by omega) (by omega)
  have h5 : e % P ≠ 0 := fun h => by rw [h] at h4; simp at h4
  refine ⟨(e % P).toNat, by omega, by omega, ?_⟩
  rw [Int.toNat_of_nonneg h2]; exact h4

/-- A solution: the leading rows tell it. -/
theorem Gs.some {p : Int} {A0 A : Nat → Nat → Int} {R m at' : Nat} {ld : Nat → Nat} (G : Gs p A0 A R m m at' ld) (hz : ∀ r, at' ≤ r → r < R → A r m = 0) : ∃ x, Sol p A0 R m x := by
  refine ⟨fun c => sumTo (fun i => if ld i = c then A i m else 0) at', (G.sol _).2 fun r hr => ?_⟩
  have h1 : sumTo (fun c => A r c * sumTo (fun i => if ld i = c then A i m else 0) at') m = A r m := by
    rw [sumTo_congr (g := fun c => sumTo (fun i => if ld i = c then A r (ld i) * A i m else 0) at') (fun c _ => by
      rw [← sumTo_mul]
      exact sumTo_congr (fun i _ => by
        split
        · rename_i e; rw [← e]
        · rw [Int.mul_zero]))]
    rw [sumTo_swap (fun c i => if ld i = c then A r (ld i) * A i m else 0)]
    rw [sumTo_congr (g := fun i => A r (ld i) * A i m) (fun i hi => sumTo_one _ (G.inc i hi) (if_pos rfl) (fun c _ hne => if_neg (fun e => hne e.symm)))]
    by_cases hra : r < at'
    · exact sumTo_one (A r m) hra (by rw [G.unit r r hra hr, if_pos rfl, Int.one_mul]) (fun i hi hne => by rw [G.unit i r hi hr, if_neg (fun e => hne e.symm), Int.zero_mul])
    · rw [sumTo_zero (fun i hi => by rw [G.unit i r hi hr, if_neg (by omega), Int.zero_mul]), hz r (by omega) hr]
  rw [h1, Int.sub_self]
  exact Int.dvd_zero _

/-- What solving tells. -/
def SolIs (p : Int) (A : Nat → Nat → Int) (R m z : Nat) (l : List Int) : Prop :=
  (z = 0 ∧ ∀ x, ¬ Sol p A R m x) ∨
  (z = 2 ∧ l = [] ∧ (∃ x, Sol p A R m x) ∧ ∃ D : Nat → Int, (∃ c, c < m ∧ ¬ p ∣ D c) ∧ ∀ x, Sol p A R m x → Sol p A R m (fun c => x c + D c)) ∨
  (z = 1 ∧ m ≤ R ∧ l.length = m ∧ (∀ i, i < m → 0 ≤ l.getD i 0 ∧ l.getD i 0 < p) ∧ (∃ x, Sol p A R m x) ∧ ∀ x, Sol p A R m x → ∀ i, i < m → p ∣ x i - l.getD i 0)

/-- The equations of taps of length l. -/
def rowsM (f : Nat → Int) (l : Nat) : Nat → Nat → Int := fun i c => if c < l then f (l + i - 1 - c) else f (l + i)
theorem sol_makes {p : Int} {f : Nat → Int} {N l : Nat} {x : Nat → Int} (h : Sol p (rowsM f l) (N - l) l x) : Makes p ((List.range l).map x) f N := by
  intro j h1 h2
  have hl : ((List.range l).map x).length = l := by simp
  rw [hl] at h1
  have h3 := h (j - l) (by omega)
  unfold rowsM at h3
  rw [if_neg (by omega), show l + (j - l) = j by omega] at h3
  rw [sumTo_congr (g := fun a => ((List.range l).map x).getD a 0 * f (j - 1 - a)) (fun c hc => by
    rw [if_pos hc, Int.mul_comm]; simp [hc])] at h3
  unfold dot
  rw [hl]
  have h4 := Int.dvd_neg.2 h3
  rwa [Int.neg_sub] at h4
theorem makes_sol {p : Int} {f : Nat → Int} {N : Nat} {T : List Int} (h : Makes p T f N) : Sol p (rowsM f T.length) (N - T.length) T.length (fun c => T.getD c 0) := by
  intro i hi
  have h3 := h (T.length + i) (by omega) (by omega)
  unfold rowsM
  rw [if_neg (by omega)]
  rw [sumTo_congr (g := fun a => T.getD a 0 * f (T.length + i - 1 - a)) (fun c hc => by rw [if_pos hc, Int.mul_comm])]
  unfold dot at h3
  have h4 := Int.dvd_neg.2 h3
  rwa [Int.neg_sub] at h4
theorem short_none {p : Int} {f : Nat → Int} {N l z : Nat} {T u : List Int} (hmin : ∀ U, Makes p U f N → T.length ≤ U.length) (hl : l < T.length) (h : SolIs p (rowsM f l) (N - l) l z u) : z = 0 := by
  have no : ¬ ∃ x, Sol p (rowsM f l) (N - l) l x := by
    rintro ⟨x, hx⟩
    have := hmin _ (sol_makes hx)
    simp at this
    omega
  rcases h with h | h | h
  · exact h.1
  · exact absurd h.2.2.1 no
  · exact absurd h.2.2.2.2.1 no
theorem just_some {p : Int} {f : Nat → Int} {N z : Nat} {T u : List Int} (hs : smB p = true) (hb : belB p T = true) (hT : Makes p T f N) (hmin : ∀ U, Makes p U f N → T.length ≤ U.length) (h : SolIs p (rowsM f T.length) (N - T.length) T.length z u) :
    (2 * T.length ≤ N → z = 1 ∧ u = T) ∧ (N < 2 * T.length → z = 2) := by
  have hx := makes_sol hT
  constructor
  · intro h2
    rcases h with h | h | h
    · exact absurd hx (h.2 _)
    · obtain ⟨_, _, _, D, ⟨c, hc, hne⟩, hD⟩ := h
      refine absurd (only_taps hs rfl hT hmin h2 D (fun n h3 h4 => ?_) c hc) hne
      have h5 := Int.dvd_sub (hD _ hx (n - T.length) (by omega)) (hx (n - T.length) (by omega))
      rw [sumTo_congr (g := fun c => rowsM f T.length (n - T.length) c * T.getD c 0 + rowsM f T.length (n - T.length) c * D c) (fun c _ => by rw [Int.mul_add]), sumTo_add] at h5
      rw [sumTo_congr (f := fun c => rowsM f T.length (n - T.length) c * D c) (g := fun c => D c * f (n - 1 - c)) (fun c hc => by
        unfold rowsM; rw [if_pos hc, show T.length + (n - T.length) - 1 - c = n - 1 - c by omega, Int.mul_comm])] at h5
      generalize sumTo (fun c => rowsM f T.length (n - T.length) c * T.getD c 0) T.length = X at h5
      generalize sumTo (fun c => D c * f (n - 1 - c)) T.length = Y at h5 ⊢
      rwa [show X + Y - rowsM f T.length (n - T.length) T.length - (X - rowsM f T.length (n - T.length) T.length) = Y by omega] at h5
    · obtain ⟨h3, _, h4, h5, _, h6⟩ := h
      refine ⟨h3, List.ext_getElem h4 (fun i h7 h8 => ?_)⟩
      have e1 : u.getD i 0 = u[i] := by simp [h7]
      have e2 : T.getD i 0 = T[i] := by simp [h8]
      rw [← e1, ← e2]
      have h9 := h6 _ hx i h8
      have a1 := h5 i h8
      have a2 := belB_iff.1 hb i h8
      obtain ⟨q, hq⟩ := h9
      have hp := smB_bd hs
      have : q = 0 := by
        rcases Int.lt_trichotomy q 0 with h | h | h
        · have := Int.mul_le_mul_of_nonneg_left (show q ≤ -1 by omega) (show 0 ≤ p by omega)
          omega
        · exact h
        · have := Int.mul_le_mul_of_nonneg_left (show 1 ≤ q by omega) (show 0 ≤ p by omega)
          omega
      rw [this] at hq
      omega
  · intro h2
    rcases h with h | h | h
    · exact absurd hx (h.2 _)
    · exact h.1
    · have := h.2.1; omega

/-! ### Rows in memory -/
/-- Block g holds R slices, each of a row of its own of n numbers. -/
structure Mat (w : World) (base g R n : Nat) (B cp : Nat → Nat) (A : Nat → Nat → Int) : Prop where
  out : ∃ cur, w.heap[g]? = some (.cells cur 22 (0, 0)) ∧ ∀ i, i < R → cur[i]? = some (.slice (some ⟨B i, 0, none⟩) n (cp i))
  row : ∀ i, i < R → Own w (B i) n (A i)
  sep : ∀ i j, i < R → j < R → B i = B j → i = j
  lo : ∀ i, i < R → base ≤ B i ∧ B i ≠ g
theorem Mat.hd {w : World} {base g R n : Nat} {B cp : Nat → Nat} {A : Nat → Nat → Int} (h : Mat w base g R n B cp A) {i : Nat} (hi : i < R) : w.cell? ⟨g, i, none⟩ = some (.slice (some ⟨B i, 0, none⟩) n (cp i)) := by
  obtain ⟨cur, h1, h2⟩ := h.out
  rw [cell_of_row w g i _ _ _ h1, h2 i hi]
theorem Mat.hdf {w : World} {base g R n : Nat} {B cp : Nat → Nat} {A : Nat → Nat → Int} (h : Mat w base g R n B cp A) (i : Nat) : w.frozen? ⟨g, i, none⟩ = false := by
  obtain ⟨cur, h1, _⟩ := h.out
  exact frozen_of_row w g i _ _ h1
theorem Mat.cell {w : World} {base g R n : Nat} {B cp : Nat → Nat} {A : Nat → Nat → Int} (h : Mat w base g R n B cp A) {i j : Nat} (hi : i < R) (hj : j < n) : w.cell? ⟨B i, j, none⟩ = some (.int .i64 (A i j)) := (h.row i hi).cell j hj
theorem Mat.frozen {w : World} {base g R n : Nat} {B cp : Nat → Nat} {A : Nat → Nat → Int} (h : Mat w base g R n B cp A) {i : Nat} (hi : i < R) (j : Nat) : w.frozen? ⟨B i, j, none⟩ = false := (h.row i hi).frozen j
theorem Mat.congr {w : World} {base g R n : Nat} {B cp : Nat → Nat} {A A' : Nat → Nat → Int} (h : Mat w base g R n B cp A) (e : ∀ i j, i < R → j < n → A i j = A' i j) : Mat w base g R n B cp A' :=
  ⟨h.out, fun i hi => (h.row i hi).congr (fun j hj => e i j hi hj), h.sep, h.lo⟩
theorem Mat.drew {w : World} {base g R n : Nat} {B cp : Nat → Nat} {A : Nat → Nat → Int} (h : Mat w base g R n B cp A) : Mat w.drew base g R n B cp A := ⟨h.out, h.row, h.sep, h.lo⟩
theorem Mat.glt {w : World} {base g R n : Nat} {B cp : Nat → Nat} {A : Nat → Nat → Int} (h : Mat w base g R n B cp A) : g < w.heap.size := by
  obtain ⟨cur, h1, _⟩ := h.out
  exact (Array.getElem?_eq_some_iff.1 h1).1
theorem Mat.set {w : World} {base g R n : Nat} {B cp : Nat → Nat} {A : Nat → Nat → Int} (h : Mat w base g R n B cp A) {i : Nat} (hi : i < R) (j : Nat) (v : Int) :
    Mat (w.setCell ⟨B i, j, none⟩ (.int .i64 v)) base g R n B cp (fun r => if r = i then upd (A r) j v else A r) := by
  obtain ⟨cur, h1, h2⟩ := h.out
  refine ⟨⟨cur, (heap_setCell_other w _ g _ (fun e => (h.lo i hi).2 e.symm)).trans h1, h2⟩, fun r hr => ?_, h.sep, h.lo⟩
  by_cases e : r = i
  · subst e
    rw [if_pos rfl]
    exact (h.row r hr).set j v
  · rw [if_neg e]
    exact (h.row r hr).other _ _ (fun e' => e (h.sep r i hr hi e'))
/-- Blocks that stay as they were. -/
theorem Mat.kept {w w' : World} {base g R n : Nat} {B cp : Nat → Nat} {A : Nat → Nat → Int} (h : Mat w base g R n B cp A) (hk : ∀ k, (k = g ∨ ∃ i, i < R ∧ k = B i) → w'.heap[k]? = w.heap[k]?) : Mat w' base g R n B cp A := by
  obtain ⟨cur, h1, h2⟩ := h.out
  refine ⟨⟨cur, (hk g (.inl rfl)).trans h1, h2⟩, fun i hi => ?_, h.sep, h.lo⟩
  obtain ⟨c, h3, h4⟩ := h.row i hi
  exact ⟨c, (hk _ (.inr ⟨i, hi, rfl⟩)).trans h3, h4⟩
theorem Mat.swap {w : World} {base g R n : Nat} {B cp : Nat → Nat} {A : Nat → Nat → Int} (h : Mat w base g R n B cp A) {a k : Nat} (ha : a < R) (hk : k < R) :
    Mat ((w.setCell ⟨g, a, none⟩ (.slice (some ⟨B k, 0, none⟩) n (cp k))).setCell ⟨g, k, none⟩ (.slice (some ⟨B a, 0, none⟩) n (cp a))) base g R n
      (fun i => if i = a then B k else if i = k then B a else B i) (fun i => if i = a then cp k else if i = k then cp a else cp i) (swapM A a k) := by
  obtain ⟨cur, h1, h2⟩ := h.out
  have hB : ∀ i, i < R → ∃ i', i' < R ∧ (if i = a then B k else if i = k then B a else B i) = B i' ∧ swapM A a k i = A i' ∧ (i = a ∧ i' = k ∨ i ≠ a ∧ i = k ∧ i' = a ∨ i ≠ a ∧ i ≠ k ∧ i' = i) := by
    intro i hi
    unfold swapM
    by_cases e1 : i = a
    · exact ⟨k, hk, by rw [if_pos e1], by rw [if_pos e1], .inl ⟨e1, rfl⟩⟩
    · by_cases e2 : i = k
      · exact ⟨a, ha, by rw [if_neg e1, if_pos e2], by rw [if_neg e1, if_pos e2], .inr (.inl ⟨e1, e2, rfl⟩)⟩
      · exact ⟨i, hi, by rw [if_neg e1, if_neg e2], by rw [if_neg e1, if_neg e2], .inr (.inr ⟨e1, e2, rfl⟩)⟩
  refine ⟨⟨_, heap_setCell_same _ _ _ _ _ _ (heap_setCell_same _ _ _ _ _ _ h1), fun i hi => ?_⟩, fun i hi => ?_, fun i j hi hj e => ?_, fun i hi => ?_⟩
  · have hs : i < cur.size := (Array.getElem?_eq_some_iff.1 (h2 i hi)).1
    rw [Array.getElem?_setIfInBounds, Array.getElem?_setIfInBounds]
    by_cases e2 : k = i
    · subst e2
      rw [if_pos rfl, if_pos (by simp [hs])]
      by_cases e1 : k = a
      · subst e1; simp
      · simp [e1]
    · rw [if_neg e2]
      by_cases e1 : a = i
      · subst e1; rw [if_pos rfl, if_pos hs]; simp
      · rw [if_neg e1, h2 i hi]; simp [Ne.symm e1, Ne.symm e2]
  · obtain ⟨i', hi', e1, e2, _⟩ := hB i hi
    rw [e1, e2]
    exact ((h.row i' hi').other _ _ (h.lo i' hi').2).other _ _ (h.lo i' hi').2
  · obtain ⟨i', hi', e1, _, c1⟩ := hB i hi
    obtain ⟨j', hj', e2, _, c2⟩ := hB j hj
    have e' : (if i = a then B k else if i = k then B a else B i) = (if j = a then B k else if j = k then B a else B j) := e
    rw [e1, e2] at e'
    have := h.sep i' j' hi' hj' e'
    omega
  · obtain ⟨i', hi', e1, _, _⟩ := hB i hi
    show base ≤ (if i = a then B k else if i = k then B a else B i) ∧ (if i = a then B k else if i = k then B a else B i) ≠ g
    rw [e1]
    exact h.lo i' hi'
theorem ownsRow_other {w : World} {base n : Nat} {e : TypeId} {size : Nat} {v : Value} {xs : List Value} (h : w.ownsRow base e size v n xs) (a : Addr) (u : Value) (hb : a.block < base) : (w.setCell a u).ownsRow base e size v n xs := by
  obtain ⟨h1, h2 | ⟨g, cap, cur, h3, h4, h5, h6⟩⟩ := h
  · exact ⟨h1, .inl h2⟩
  · exact ⟨h1, .inr ⟨g, cap, cur, h3, h4, (heap_setCell_other w a g u (by omega)).trans h5, h6⟩⟩

/-! ### Rows on their way -/
/-- Row t, its first j numbers made e times as great. -/
def scaleTo (p : Int) (A : Nat → Nat → Int) (t : Nat) (e : Int) (j : Nat) : Nat → Nat → Int := fun r x => if r = t ∧ x < j then A t x * e % p else A r x
theorem scaleTo_zero (p : Int) (A : Nat → Nat → Int) (t : Nat) (e : Int) (r x : Nat) : A r x = scaleTo p A t e 0 r x := by unfold scaleTo; rw [if_neg (by omega)]
theorem scaleTo_at (p : Int) (A : Nat → Nat → Int) (t : Nat) (e : Int) (j : Nat) : scaleTo p A t e j t j = A t j := by unfold scaleTo; rw [if_neg (by omega)]
theorem scaleTo_succ {p : Int} {A : Nat → Nat → Int} {t j : Nat} {e x : Int} (hx : x = A t j) (r y : Nat) : (if r = t then upd (scaleTo p A t e j r) j (x * e % p) else scaleTo p A t e j r) y = scaleTo p A t e (j + 1) r y := by
  by_cases er : r = t
  · subst er
    rw [if_pos rfl]
    unfold upd scaleTo
    by_cases ey : y = j
    · subst ey; rw [if_pos rfl, if_pos ⟨rfl, by omega⟩, hx]
    · rw [if_neg ey]
      by_cases hy : y < j
      · rw [if_pos ⟨rfl, hy⟩, if_pos ⟨rfl, by omega⟩]
      · rw [if_neg (by omega), if_neg (by omega)]
  · rw [if_neg er]
    unfold scaleTo
    rw [if_neg (fun h => er h.1), if_neg (fun h => er h.1)]
theorem scaleTo_full {p : Int} {A : Nat → Nat → Int} {t n : Nat} {e : Int} (r x : Nat) (hx : x < n) : scaleTo p A t e n r x = scaleM p A t e r x := by
  unfold scaleTo scaleM
  by_cases ei : r = t
  · rw [if_pos ⟨ei, hx⟩, if_pos ei]
  · rw [if_neg (fun h => ei h.1), if_neg ei]
/-- The rows ahead of i, and of row i the first j numbers, cleared. -/
def clearTo (p : Int) (A : Nat → Nat → Int) (t c i j : Nat) : Nat → Nat → Int := fun r x => if r < i ∨ (r = i ∧ x < j) then clearM p A t c r x else A r x
theorem clearTo_zero (p : Int) (A : Nat → Nat → Int) (t c : Nat) (r x : Nat) : A r x = clearTo p A t c 0 0 r x := by unfold clearTo; rw [if_neg (by omega)]
theorem clearTo_at (p : Int) (A : Nat → Nat → Int) (t c i j x : Nat) (hx : j ≤ x) : clearTo p A t c i j i x = A i x := by unfold clearTo; rw [if_neg (by omega)]
theorem clearTo_lead (p : Int) (A : Nat → Nat → Int) (t c i j x : Nat) : clearTo p A t c i j t x = A t x := by
  unfold clearTo
  split
  · unfold clearM; rw [if_pos rfl]
  · rfl
theorem clearTo_succ {p : Int} {A : Nat → Nat → Int} {t c i j : Nat} {x f y : Int} (hit : i ≠ t) (hx : x = A i j) (hf : f = A i c) (hy : y = A t j) (r z : Nat) :
    (if r = i then upd (clearTo p A t c i j r) j ((x - f * y) % p) else clearTo p A t c i j r) z = clearTo p A t c i (j + 1) r z := by
  by_cases er : r = i
  · subst er
    rw [if_pos rfl]
    unfold upd clearTo
    by_cases ey : z = j
    · subst ey
      rw [if_pos rfl, if_pos (by omega), hx, hf, hy]
      unfold clearM
      rw [if_neg hit]
    · rw [if_neg ey]
      by_cases hz : z < j
      · rw [if_pos (by omega), if_pos (by omega)]
      · rw [if_neg (by omega), if_neg (by omega)]
  · rw [if_neg er]
    unfold clearTo
    by_cases hr : r < i
    · rw [if_pos (by omega), if_pos (by omega)]
    · rw [if_neg (by omega), if_neg (by omega)]
theorem clearTo_row {p : Int} {A : Nat → Nat → Int} {t c i n : Nat} (r x : Nat) (hx : x < n) : clearTo p A t c i n r x = clearTo p A t c (i + 1) 0 r x := by
  unfold clearTo
  by_cases hr : r < i + 1
  · rw [if_pos (by omega), if_pos (by omega)]
  · rw [if_neg (by omega), if_neg (by omega)]
theorem clearTo_skip {p : Int} {A : Nat → Nat → Int} {t c i : Nat} (r x : Nat) (h : i = t ∨ A i c = 0 ∧ 0 ≤ A i x ∧ A i x < p) : clearTo p A t c i 0 r x = clearTo p A t c (i + 1) 0 r x := by
  unfold clearTo
  by_cases hr : r < i
  · rw [if_pos (by omega), if_pos (by omega)]
  · rw [if_neg (by omega)]
    by_cases e : r = i
    · rw [if_pos (by omega), e]
      unfold clearM
      by_cases et : i = t
      · rw [if_pos et, et]
      · rcases h with h | ⟨h0, h1, h2⟩
        · exact absurd h et
        · rw [if_neg et, h0, Int.zero_mul, Int.sub_zero, Int.emod_eq_of_lt h1 h2]
    · rw [if_neg (by omega)]
theorem clearTo_full {p : Int} {A : Nat → Nat → Int} {t c R : Nat} (r x : Nat) (hr : r < R) : clearTo p A t c R 0 r x = clearM p A t c r x := by unfold clearTo; rw [if_pos (by omega)]

end Go.Proofs.Ytglomemadcdagaa
