/- The walk of Check. -/
import Derived.Test.YtjfjdidibglhaaaDoorPBase
import Derived.Test.YtjfjdidibglhaaaDoorLInter
import Derived.Test.YtjfjdidibglhaaaDoorLExt
import Derived.Shelf.Abstract
import Derived.Deep.RegionHeld3
import Derived.Deep.MidRow
/- The walk of apart. -/
/- What is wrong with a square, with rows: as the document looks, as the program looks; nothing of the program. -/
/- Lists of numbers that are permutations, and what is wrong with the others; rows of truths. -/
namespace Go.Proofs.YtjfjdidibglhaaaDoor
open Go.RowKit

def inLB (bd : Int) (l : List Int) : Bool := l.all fun x => decide (0 ≤ x) && decide (x < bd)
theorem inLB_iff (bd : Int) (l : List Int) : inLB bd l = true ↔ ∀ j, j < l.length → 0 ≤ l.getD j 0 ∧ l.getD j 0 < bd := by
  unfold inLB
  rw [List.all_eq_true]
  constructor
  · intro h j hj
    have := h l[j] (List.getElem_mem hj)
    simpa [hj] using this
  · intro h x hx
    obtain ⟨j, hj, rfl⟩ := List.mem_iff_getElem.1 hx
    have := h j hj
    simpa [hj] using this
theorem inLB_no {bd : Int} {l : List Int} (h : ¬ ∀ j, j < l.length → 0 ≤ l.getD j 0 ∧ l.getD j 0 < bd) : inLB bd l = false := by
  rw [Bool.eq_false_iff]; exact fun e => h ((inLB_iff bd l).1 e)
def dupB (l : List Int) : Bool := (List.range l.length).any fun i => (List.range i).any fun j => l.getD i 0 == l.getD j 0
theorem dupB_iff (l : List Int) : dupB l = true ↔ ∃ i j, j < i ∧ i < l.length ∧ l.getD i 0 = l.getD j 0 := by
  unfold dupB
  simp only [List.any_eq_true, List.mem_range, beq_iff_eq]
  constructor
  · rintro ⟨i, hi, j, hj, e⟩; exact ⟨i, j, hj, hi, e⟩
  · rintro ⟨i, j, hj, hi, e⟩; exact ⟨i, hi, j, hj, e⟩
theorem dupB_no {l : List Int} (h : ∀ i j, j < i → i < l.length → l.getD i 0 ≠ l.getD j 0) : dupB l = false := by
  rw [Bool.eq_false_iff]; intro e
  obtain ⟨i, j, h1, h2, h3⟩ := (dupB_iff l).1 e
  exact h i j h1 h2 h3
/-- What is wrong with a permutation. -/
def pF (l : List Int) : Int := if 12 < l.length then 3 else if inLB l.length l = false then 1 else if dupB l = true then 6 else 0
def pl (n : Nat) (f : Nat → Nat) : List Int := (List.range n).map fun i => (f i : Int)
@[simp] theorem pl_len (n : Nat) (f : Nat → Nat) : (pl n f).length = n := by simp [pl]
theorem pl_at {n : Nat} (f : Nat → Nat) {i : Nat} (h : i < n) : (pl n f).getD i 0 = (f i : Int) := by simp [pl, h]
theorem pl_congr {n : Nat} {f g : Nat → Nat} (h : ∀ i, i < n → f i = g i) : pl n f = pl n g := by
  unfold pl
  exact List.map_congr_left fun i hi => by rw [h i (List.mem_range.1 hi)]
theorem pl_inj {n : Nat} {f g : Nat → Nat} (h : pl n f = pl n g) {i : Nat} (hi : i < n) : f i = g i := by
  have h1 := pl_at f hi
  rw [h, pl_at g hi] at h1
  omega
theorem pF_cases (l : List Int) : pF l = 0 ∨ pF l = 1 ∨ pF l = 3 ∨ pF l = 6 := by
  unfold pF
  split
  · exact .inr (.inr (.inl rfl))
  · split
    · exact .inr (.inl rfl)
    · split
      · exact .inr (.inr (.inr rfl))
      · exact .inl rfl
theorem pF_ok {l : List Int} (h : pF l = 0) : ∃ n f, n ≤ 12 ∧ Pm n f ∧ l = pl n f := by
  unfold pF at h
  by_cases h1 : 12 < l.length
  · rw [if_pos h1] at h; omega
  · rw [if_neg h1] at h
    by_cases h2 : inLB l.length l = false
    · rw [if_pos h2] at h; omega
    · rw [if_neg h2] at h
      by_cases h3 : dupB l = true
      · rw [if_pos h3] at h; omega
      · have h2 := (inLB_iff _ _).1 (Bool.not_eq_false _ ▸ h2)
        refine ⟨l.length, fun i => (l.getD i 0).toNat, by omega, ⟨fun i hi => ?_, fun i j hi hj e => ?_⟩, ?_⟩
        · have := h2 i hi; show (l.getD i 0).toNat < _; omega
        · have e : (l.getD i 0).toNat = (l.getD j 0).toNat := e
          have a1 := h2 i hi
          have a2 := h2 j hj
          have e' : l.getD i 0 = l.getD j 0 := by omega
          rcases Nat.lt_trichotomy i j with h4 | h4 | h4
          · exact absurd ((dupB_iff l).2 ⟨j, i, h4, hj, e'.symm⟩) h3
          · exact h4
          · exact absurd ((dupB_iff l).2 ⟨i, j, h4, hi, e'⟩) h3
        · refine List.ext_getElem (by simp) fun i h4 h5 => ?_
          have e1 : l.getD i 0 = l[i] := by simp [h4]
          have := h2 i h4
          simp only [pl, List.getElem_map, List.getElem_range]
          rw [Int.toNat_of_nonneg (by omega), e1]
theorem pF_pl {n : Nat} {f : Nat → Nat} (P : Pm n f) (hn : n ≤ 12) : pF (pl n f) = 0 := by
  unfold pF
  rw [if_neg (by simp; omega)]
  have h1 : inLB (pl n f).length (pl n f) = true := (inLB_iff _ _).2 fun j hj => by
    rw [pl_len] at hj
    rw [pl_at f hj, pl_len]
    have := P.lt j hj
    omega
  rw [h1, if_neg (by simp)]
  rw [dupB_no (fun i j h2 h3 e => ?_)]
  · simp
  · rw [pl_len] at h3
    rw [pl_at f h3, pl_at f (by omega)] at e
    have := P.inj i j h3 (by omega) (by omega)
    omega
theorem pF_len {l : List Int} (h : pF l = 0) : l.length ≤ 12 := by
  obtain ⟨n, f, hn, _, rfl⟩ := pF_ok h
  simpa using hn

/-- A row of 12 truths. -/
def brow (f : Nat → Bool) : Array Value := ((List.range 12).map fun j => Value.bool (f j)).toArray
theorem brow_size (f : Nat → Bool) : (brow f).size = 12 := by simp [brow]
theorem brow_at (f : Nat → Bool) (j : Nat) (h : j < 12) : (brow f)[j]? = some (.bool (f j)) := by simp [brow, h]
def updB (f : Nat → Bool) (i : Nat) : Nat → Bool := fun j => if j = i then true else f j
theorem brow_set (f : Nat → Bool) (i : Nat) : (brow f).setIfInBounds i (.bool true) = brow (updB f i) := by
  apply Array.ext_getElem?
  intro j
  rw [Array.getElem?_setIfInBounds]
  by_cases hj : j < 12
  · rw [brow_at _ _ hj]
    by_cases e : i = j
    · subst e; rw [if_pos rfl, brow_at _ _ hj, if_pos (by simpa [brow_size] using hj)]; simp [updB]
    · rw [if_neg e, brow_at _ _ hj]; simp [updB, Ne.symm e]
  · simp [brow, hj]; omega
def BRow (w : World) (g : Nat) (f : Nat → Bool) : Prop := w.heap[g]? = some (.cells (brow f) 53 (0, 0))
theorem BRow.lt {w : World} {g : Nat} {f : Nat → Bool} (h : BRow w g f) : g < w.heap.size := (Array.getElem?_eq_some_iff.1 h).1
theorem BRow.cell {w : World} {g : Nat} {f : Nat → Bool} (h : BRow w g f) (j : Nat) (hj : j < 12) : w.cell? ⟨g, j, none⟩ = some (.bool (f j)) := by rw [cell_of_row w g j _ _ _ h, brow_at _ _ hj]
theorem BRow.frozen {w : World} {g : Nat} {f : Nat → Bool} (h : BRow w g f) (j : Nat) : w.frozen? ⟨g, j, none⟩ = false := frozen_of_row w g j _ _ h
theorem BRow.set {w : World} {g : Nat} {f : Nat → Bool} (h : BRow w g f) (i : Nat) : BRow (w.setCell ⟨g, i, none⟩ (.bool true)) g (updB f i) := by
  unfold BRow; rw [heap_setCell_same w g i _ _ _ h, brow_set]
theorem BRow.below {w w' : World} {g : Nat} {f : Nat → Bool} (h : BRow w g f) (hb : Below w.heap.size w w') : BRow w' g f := (hb.block g h.lt).trans h
theorem BRow.congr {w : World} {g : Nat} {f f' : Nat → Bool} (h : BRow w g f) (e : ∀ j, j < 12 → f j = f' j) : BRow w g f' := by
  have : brow f = brow f' := by
    unfold brow; congr 1; apply List.map_congr_left; intro j hj; rw [e j (by simpa using hj)]
  unfold BRow; rw [← this]; exact h
theorem BRow.made0 (w : World) : BRow (w.alloc (.cells #[.bool false, .bool false, .bool false, .bool false, .bool false, .bool false, .bool false, .bool false, .bool false, .bool false, .bool false, .bool false] 53)) w.heap.size (fun _ => false) := heap_alloc_new w _

end Go.Proofs.YtjfjdidibglhaaaDoor

namespace Go.Proofs.YtjfjdidibglhaaaDoor

/-- The number in a row and column of what stands row by row. -/
def sq (n : Nat) (L : List Int) (i j : Nat) : Nat := (L.getD (i * n + j) 0).toNat
/-- No number twice in a row or column. -/
def Ap (m n : Nat) (t : Nat → Nat → Nat) : Prop := ∀ i j i' j', i < m → j < n → i' < m → j' < n → t i j = t i' j' → (i = i' → j = j') ∧ (j = j' → i = i')
def onB (n : Nat) (L : List Int) : Bool := (List.range L.length).all fun i => (List.range i).all fun k => !(L.getD i 0 == L.getD k 0 && (i / n == k / n || i % n == k % n))
theorem onB_iff {n : Nat} {L : List Int} : onB n L = true ↔ ∀ i k, k < i → i < L.length → L.getD i 0 = L.getD k 0 → i / n ≠ k / n ∧ i % n ≠ k % n := by
  unfold onB
  rw [List.all_eq_true]
  constructor
  · intro h i k hk hi e
    have h1 := h i (List.mem_range.2 hi)
    rw [List.all_eq_true] at h1
    have h2 := h1 k (List.mem_range.2 hk)
    simp only [e, beq_self_eq_true, Bool.true_and, Bool.not_eq_true', Bool.or_eq_false_iff, beq_eq_false_iff_ne] at h2
    exact h2
  · intro h i hi
    rw [List.all_eq_true]
    intro k hk
    have hi := List.mem_range.1 hi
    have hk := List.mem_range.1 hk
    by_cases e : L.getD i 0 = L.getD k 0
    · have := h i k hk hi e
      simp only [e, beq_self_eq_true, Bool.true_and, Bool.not_eq_true', Bool.or_eq_false_iff, beq_eq_false_iff_ne]
      exact this
    · have : (L.getD i 0 == L.getD k 0) = false := beq_eq_false_iff_ne.2 e
      rw [this]; rfl
theorem cell_lt {m n i j : Nat} (hi : i < m) (hj : j < n) : i * n + j < m * n := by
  have : (i + 1) * n ≤ m * n := Nat.mul_le_mul_right n hi
  rw [Nat.add_mul] at this
  omega
theorem onB_ap {m n : Nat} {L : List Int} (hl : L.length = m * n) (h0 : ∀ j, j < L.length → 0 ≤ L.getD j 0) : onB n L = true ↔ Ap m n (sq n L) := by
  rw [onB_iff]
  have key : ∀ a b, a < L.length → b < L.length → (L.getD a 0).toNat = (L.getD b 0).toNat → L.getD a 0 = L.getD b 0 := fun a b ha hb e => by
    have := h0 a ha; have := h0 b hb; omega
  constructor
  · intro h i j i' j' hi hj hi' hj' e
    have l1 := cell_lt hi hj
    have l2 := cell_lt hi' hj'
    have e' := key _ _ (by omega) (by omega) e
    have d1 := divmod (i := i) hj
    have d2 := divmod (i := i') hj'
    rcases Nat.lt_trichotomy (i * n + j) (i' * n + j') with hlt | heq | hgt
    · have := h _ _ hlt (by omega) e'.symm
      rw [d1.1, d1.2, d2.1, d2.2] at this
      exact ⟨fun x => absurd x.symm this.1, fun x => absurd x.symm this.2⟩
    · have a1 := d1.1; have a2 := d1.2
      rw [heq, d2.1] at a1
      rw [heq, d2.2] at a2
      exact ⟨fun _ => a2.symm, fun _ => a1.symm⟩
    · have := h _ _ hgt (by omega) e'
      rw [d1.1, d1.2, d2.1, d2.2] at this
      exact ⟨fun x => absurd x this.1, fun x => absurd x this.2⟩
  · intro h i k hk hi e
    have hn : 0 < n := by
      rcases Nat.eq_zero_or_pos n with h | h
      · subst h; omega
      · exact h
    have c1 : i / n < m := Nat.div_lt_of_lt_mul (by rw [Nat.mul_comm]; omega)
    have c2 : k / n < m := Nat.div_lt_of_lt_mul (by rw [Nat.mul_comm]; omega)
    have e1 : i / n * n + i % n = i := Nat.div_add_mod' i n
    have e2 : k / n * n + k % n = k := Nat.div_add_mod' k n
    have := h (i / n) (i % n) (k / n) (k % n) c1 (Nat.mod_lt _ hn) c2 (Nat.mod_lt _ hn) (by unfold sq; rw [e1, e2, e])
    constructor
    · intro x
      have := this.1 x
      rw [x, this, e2] at e1
      omega
    · intro x
      have := this.2 x
      rw [x, this, e2] at e1
      omega
theorem ap_lat {n : Nat} {t : Nat → Nat → Nat} (h : Ap n n t) (hlt : ∀ i j, i < n → j < n → t i j < n) : Lat n t :=
  ⟨hlt, fun i hi j k hj hk e => (h i j i k hi hj hi hk e).1 rfl, fun j hj i k hi hk e => (h i j k j hi hj hk hj e).2 rfl⟩
theorem lat_ap {n : Nat} {t : Nat → Nat → Nat} (h : Lat n t) : Ap n n t := fun i j i' j' hi hj hi' hj' e =>
  ⟨fun x => by subst x; exact h.row i hi j j' hj hj' e, fun x => by subst x; exact h.col j hj i i' hi hi' e⟩
/-- What is wrong with a square. -/
def lF (s : Int) (L : List Int) : Nat := if s < 1 ∨ 8 < s then 1 else if (L.length : Int) ≠ s * s then 2 else if inLB s L = false then 1 else if onB s.toNat L then 0 else 6
structure GoodS (n : Nat) (L : List Int) : Prop where
  pos : 0 < n
  le : n ≤ 8
  len : L.length = n * n
  at0 : ∀ j, j < n * n → 0 ≤ L.getD j 0 ∧ L.getD j 0 < n
  lat : Lat n (sq n L)
theorem GoodS.val {n : Nat} {L : List Int} (h : GoodS n L) {i j : Nat} (hi : i < n) (hj : j < n) : L.getD (i * n + j) 0 = (sq n L i j : Int) := by
  have := (h.at0 _ (cell_lt hi hj)).1
  unfold sq; omega
theorem lF_ok {s : Int} {L : List Int} (h : lF s L = 0) : ∃ n : Nat, s = n ∧ GoodS n L := by
  unfold lF at h
  split at h
  · cases h
  · rename_i h1
    split at h
    · cases h
    · rename_i h2
      split at h
      · cases h
      · rename_i h3
        split at h
        · rename_i h4
          have h3 : inLB s L = true := by simpa using h3
          rw [inLB_iff] at h3
          obtain ⟨n, rfl⟩ : ∃ n : Nat, s = n := ⟨s.toNat, by omega⟩
          have hl : L.length = n * n := by
            have : (L.length : Int) = (n : Int) * n := by simpa using h2
            exact_mod_cast this
          have hn : ((n : Int)).toNat = n := by omega
          rw [hn] at h4
          refine ⟨n, rfl, by omega, by omega, hl, fun j hj => h3 j (by omega), ap_lat ((onB_ap hl fun j hj => (h3 j hj).1).1 h4) fun i j hi hj => ?_⟩
          have := h3 (i * n + j) (by have := cell_lt hi hj; omega)
          unfold sq; omega
        · cases h
theorem lF_good {n : Nat} {L : List Int} (h : GoodS n L) : lF n L = 0 := by
  unfold lF
  have h1 := h.pos; have h2 := h.le
  rw [if_neg (by omega), if_neg (by rw [h.len]; simp), if_neg (by
    have : inLB n L = true := by rw [inLB_iff]; intro j hj; exact h.at0 j (by rw [← h.len]; exact hj)
    rw [this]; simp), if_pos]
  have hn : ((n : Int)).toNat = n := by omega
  rw [hn, onB_ap h.len fun j hj => (h.at0 j (by rw [← h.len]; exact hj)).1]
  exact lat_ap h.lat
theorem lF_cases (s : Int) (L : List Int) : lF s L = 0 ∨ lF s L = 1 ∨ lF s L = 2 ∨ lF s L = 6 := by
  unfold lF
  split
  · exact .inr (.inl rfl)
  · split
    · exact .inr (.inr (.inl rfl))
    · split
      · exact .inr (.inl rfl)
      · split
        · exact .inl rfl
        · exact .inr (.inr (.inr rfl))
/-- What is wrong with rows. -/
def rowsF (n : Nat) : List (List Int) → Nat
  | [] => 0
  | r :: rs => if r.length ≠ n then 2 else if inLB n r = false then 1 else rowsF n rs
def eF (n : Int) (rows : List (List Int)) : Nat := if n < 1 ∨ 8 < n then 1 else if n < rows.length then 3 else if rowsF n.toNat rows ≠ 0 then rowsF n.toNat rows else if onB n.toNat rows.flatten then 0 else 6
end Go.Proofs.YtjfjdidibglhaaaDoor

/- The walks of isSide, isOf; tellers; asked; those who tell what comes for the first time. -/
namespace Go.Proofs.YtjfjdidibglhaaaDoor
open Go.RowKit

def sideB (n : Int) : Bool := decide (1 ≤ n) && decide (n ≤ 8)
def ofB (n x : Int) : Bool := decide (0 ≤ x) && decide (x < n)
theorem isSide_any (n : Int) (w : World) : Calls Tryd.prog 49 #[.int .i64 n] w fun e w' => e = .returned (.bool (sideB n)) ∧ w' = w := by
  unfold sideB
  by_cases h : 1 ≤ n
  · have hd : decide (1 ≤ n) = true := decide_eq_true h
    by_cases h2 : n ≤ 8
    · have hd2 : decide (n ≤ 8) = true := decide_eq_true h2
      go_enter Tryd.func49, Tryd.ntmps49
      go_wp2
      go_ret
      simp [hd, hd2]
    · have hd2 : decide (n ≤ 8) = false := decide_eq_false h2
      go_enter Tryd.func49, Tryd.ntmps49
      go_wp2
      go_ret
      simp
  · have hd : decide (1 ≤ n) = false := decide_eq_false h
    go_enter Tryd.func49, Tryd.ntmps49
    go_wp2
    go_ret
    simp
theorem isOf_any (n x : Int) (w : World) : Calls Tryd.prog 50 #[.int .i64 n, .int .i64 x] w fun e w' => e = .returned (.bool (ofB n x)) ∧ w' = w := by
  unfold ofB
  by_cases h : 0 ≤ x
  · have hd : decide (0 ≤ x) = true := decide_eq_true h
    by_cases h2 : x < n
    · have hd2 : decide (x < n) = true := decide_eq_true h2
      go_enter Tryd.func50, Tryd.ntmps50
      go_wp2
      go_ret
      simp [hd, hd2]
    · have hd2 : decide (x < n) = false := decide_eq_false h2
      go_enter Tryd.func50, Tryd.ntmps50
      go_wp2
      go_ret
      simp
  · have hd : decide (0 ≤ x) = false := decide_eq_false h
    go_enter Tryd.func50, Tryd.ntmps50
    go_wp2
    go_ret
    simp

/-- The function tells the number in each place. -/
def TellAt (g : Nat) (lb : Array Value) (m n : Nat) (t : Nat → Nat → Nat) (w : World) : Prop :=
  ∀ W : World, Below w.heap.size w W → ∀ r c : Nat, r < m → c < n → Calls Tryd.prog g (#[.int .i64 (r : Int), .int .i64 (c : Int)] ++ lb) W fun e w' => e = .returned (.int .i64 (t r c : Int)) ∧ Below W.heap.size W w'
def Teller (v : Value) (m n : Nat) (t : Nat → Nat → Nat) (w : World) : Prop :=
  ∃ g lb, v = .func (.func g) #[] lb ∧ (∀ args w, (callFunc g args).run Tryd.prog w = .ok (.enter g args) w) ∧ TellAt g lb m n t w
theorem Teller.below {v : Value} {m n : Nat} {t : Nat → Nat → Nat} {w W : World} (h : Teller v m n t w) (hb : Below w.heap.size w W) : Teller v m n t W := by
  obtain ⟨g, lb, rfl, e, h⟩ := h
  exact ⟨g, lb, rfl, e, fun W' b r c hr hc => h W' (Below.next hb b) r c hr hc⟩
theorem Teller.congr {v : Value} {m n : Nat} {t t' : Nat → Nat → Nat} {w : World} (h : Teller v m n t w) (he : ∀ r c, r < m → c < n → t r c = t' r c) : Teller v m n t' w := by
  obtain ⟨g, lb, rfl, e, h⟩ := h
  exact ⟨g, lb, rfl, e, fun W' b r c hr hc => by rw [← he r c hr hc]; exact h W' b r c hr hc⟩

theorem e36 : ∀ args w, (callFunc 63 args).run Tryd.prog w = .ok (.enter 63 args) w := enters_of Tryd.func63 (by kernel_rfl) rfl
set_option maxHeartbeats 1000000 in
theorem asked1_any (m n : Nat) (L : List Int) (v : Value) (w W : World) (b : Nat) (hv : Sl w v L) (hl : L.length = m * n) (hm : m ≤ 8) (hn : n ≤ 8) (h0 : ∀ j, j < m * n → 0 ≤ L.getD j 0)
    (hbx : w.heap[b]? = some (.cells #[.int .i64 (n : Int), v] 49 (0, 0))) (hB : Below w.heap.size w W) (r c : Nat) (hr : r < m) (hc : c < n) :
    Calls Tryd.prog 63 #[.int .i64 (r : Int), .int .i64 (c : Int), .pointer (some ⟨b, 0, none⟩)] W fun e w' => e = .returned (.int .i64 (sq n L r c : Int)) ∧ Below W.heap.size W w' := by
  have hlt := cell_lt hr hc
  obtain ⟨a, off, cap, rfl, ha, hcell⟩ := (hv.below hB).form hl (by omega)
  have hbl : b < w.heap.size := (Array.getElem?_eq_some_iff.1 hbx).1
  have hbx' := (hB.block b hbl).trans hbx
  have h1 : W.cell? ⟨b, 0, none⟩ = some (.int .i64 (n : Int)) := by rw [cell_of_row _ _ _ _ _ _ hbx']; rfl
  have h2 : W.cell? ⟨b, 1, none⟩ = some (.slice (some ⟨a, off, none⟩) (m * n) cap) := by rw [cell_of_row _ _ _ _ _ _ hbx']; rfl
  have h3 := hcell _ hlt
  have h4 : L.getD (r * n + c) 0 = (sq n L r c : Int) := by have := h0 _ hlt; unfold sq; omega
  rw [h4] at h3
  have hmn : m * n ≤ 99 := Nat.le_trans (Nat.mul_le_mul hm hn) (by decide)
  have hrn : r * n ≤ 99 := by omega
  obtain ⟨q, hq⟩ : ∃ q, q = r * n := ⟨_, rfl⟩
  obtain ⟨k, hk⟩ : ∃ k, k = q + c := ⟨_, rfl⟩
  have hmul : (r : Int) * (n : Int) = (q : Int) := by rw [hq]; simp
  have hadd : (q : Int) + (c : Int) = (k : Int) := by rw [hk]; simp
  rw [← hq, ← hk] at h3 hlt
  have hq99 : q ≤ 99 := by omega
  have hk99 : k ≤ 99 := by omega
  have hkz : (k : Int) < ((m * n : Nat) : Int) := by omega
  generalize sq n L r c = x at *
  generalize m * n = z at *
  clear hcell h0 hbx hbx' hv h4 hq hk hrn
  go_enter Tryd.func63, Tryd.ntmps63
  go_wp2
  go_ret
  exact ⟨rfl, Below.refl _ _⟩
set_option maxHeartbeats 1000000 in
theorem asked_any (m n : Nat) (L : List Int) (v : Value) (w : World) (hv : Sl w v L) (hl : L.length = m * n) (hm : m ≤ 8) (hn : n ≤ 8) (h0 : ∀ j, j < m * n → 0 ≤ L.getD j 0) :
    Calls Tryd.prog 52 #[.agg #[.int .i64 (n : Int), v]] w fun e w' => (∃ y, e = .returned y ∧ Teller y m n (sq n L) w') ∧ Below w.heap.size w w' := by
  go_enter Tryd.func52, Tryd.ntmps52
  go_wp2
  go_ret
  have hb := balloc w (.cells #[.int .i64 (n : Int), v] 49)
  refine ⟨⟨_, rfl, _, _, rfl, e36, fun W b r c hr hc => ?_⟩, hb⟩
  exact asked1_any m n L v _ W w.heap.size (hv.below hb) hl hm hn h0 (heap_alloc_new w _) b r c hr hc

/-- Block g holds which pairs have come. -/
def Met (w : World) (g : Nat) (f : Nat → Bool) : Prop := ∃ cur, w.heap[g]? = some (.cells cur 94 (0, 0)) ∧ ∀ j, j < 8 * 8 → cur[j]? = some (.bool (f j))
def updM (f : Nat → Bool) (i : Nat) : Nat → Bool := fun j => if j = i then true else f j
theorem Met.lt {w : World} {g : Nat} {f : Nat → Bool} (h : Met w g f) : g < w.heap.size := by
  obtain ⟨cur, h, _⟩ := h
  exact (Array.getElem?_eq_some_iff.1 h).1
theorem Met.cell {w : World} {g : Nat} {f : Nat → Bool} (h : Met w g f) (j : Nat) (hj : j < 8 * 8) : w.cell? ⟨g, j, none⟩ = some (.bool (f j)) := by
  obtain ⟨cur, h, hc⟩ := h
  rw [cell_of_row w g j _ _ _ h, hc j hj]
theorem Met.frozen {w : World} {g : Nat} {f : Nat → Bool} (h : Met w g f) (j : Nat) : w.frozen? ⟨g, j, none⟩ = false := by
  obtain ⟨cur, h, _⟩ := h
  exact frozen_of_row w g j _ _ h
theorem Met.set {w : World} {g : Nat} {f : Nat → Bool} (h : Met w g f) (i : Nat) : Met (w.setCell ⟨g, i, none⟩ (.bool true)) g (updM f i) := by
  obtain ⟨cur, h, hc⟩ := h
  refine ⟨_, heap_setCell_same w g i _ _ _ h, fun j hj => ?_⟩
  have hcj := hc j hj
  have hlt : j < cur.size := (Array.getElem?_eq_some_iff.1 hcj).1
  rw [Array.getElem?_setIfInBounds]
  by_cases e : i = j
  · subst e; rw [if_pos rfl, if_pos hlt]; simp [updM]
  · rw [if_neg e, hcj]; simp [updM, Ne.symm e]
theorem Met.other {w : World} {g : Nat} {f : Nat → Bool} (h : Met w g f) (a : Addr) (v : Value) (hne : g ≠ a.block) : Met (w.setCell a v) g f := by
  obtain ⟨cur, h, hc⟩ := h
  exact ⟨cur, (heap_setCell_other w a g v hne).trans h, hc⟩
theorem Met.below {w w' : World} {g : Nat} {f : Nat → Bool} (h : Met w g f) (hb : Below w.heap.size w w') : Met w' g f := by
  have hl := h.lt
  obtain ⟨cur, h, hc⟩ := h
  exact ⟨cur, (hb.block g hl).trans h, hc⟩
theorem Met.congr {w : World} {g : Nat} {f f' : Nat → Bool} (h : Met w g f) (e : ∀ j, j < 8 * 8 → f j = f' j) : Met w g f' := by
  obtain ⟨cur, h, hc⟩ := h
  exact ⟨cur, h, fun j hj => by rw [hc j hj, e j hj]⟩
set_option maxRecDepth 100000 in
theorem once_any (w : World) : Calls Tryd.prog 62 #[] w fun e w' => e = .returned (.func (.func 74) #[] #[.pointer (some ⟨w.heap.size, 0, none⟩)]) ∧ Met w' w.heap.size (fun _ => false) ∧ Below w.heap.size w w' := by
  go_enter Tryd.func62, Tryd.ntmps62
  go_wp2
  go_ret
  refine ⟨rfl, ⟨_, heap_alloc_new w _, fun j hj => ?_⟩, balloc w _⟩
  have h : (((List.range (8 * 8)).map fun _ => Value.bool false).toArray)[j]? = some (.bool false) := by
    rw [List.getElem?_toArray, List.getElem?_map, List.getElem?_range hj]
    rfl
  exact h
theorem e43 : ∀ args w, (callFunc 74 args).run Tryd.prog w = .ok (.enter 74 args) w := enters_of Tryd.func74 (by kernel_rfl) rfl
set_option maxHeartbeats 1000000 in
theorem once1_old (g a b : Nat) (f : Nat → Bool) (W : World) (ha : a < 8) (hb : b < 8) (hM : Met W g f) (hf : f (a * 8 + b) = true) :
    Calls Tryd.prog 74 #[.int .i64 (a : Int), .int .i64 (b : Int), .pointer (some ⟨g, 0, none⟩)] W fun e w' => e = .returned (.bool false) ∧ w' = W := by
  have h1 := hM.cell (a * 8 + b) (by omega)
  have h3 : (a : Int) < 8 := by omega
  have h4 : (b : Int) < 8 := by omega
  rw [hf] at h1
  clear hM hf
  go_enter Tryd.func74, Tryd.ntmps74
  go_wp2
  go_ret
  exact ⟨rfl, rfl⟩
set_option maxHeartbeats 1000000 in
theorem once1_new (g a b : Nat) (f : Nat → Bool) (W : World) (ha : a < 8) (hb : b < 8) (hM : Met W g f) (hf : f (a * 8 + b) = false) :
    Calls Tryd.prog 74 #[.int .i64 (a : Int), .int .i64 (b : Int), .pointer (some ⟨g, 0, none⟩)] W fun e w' => e = .returned (.bool true) ∧ w' = W.setCell ⟨g, a * 8 + b, none⟩ (.bool true) := by
  have h1 := hM.cell (a * 8 + b) (by omega)
  have h2 := hM.frozen (a * 8 + b)
  have h3 : (a : Int) < 8 := by omega
  have h4 : (b : Int) < 8 := by omega
  rw [hf] at h1
  clear hM hf
  go_enter Tryd.func74, Tryd.ntmps74
  go_wp2
  go_ret
  exact ⟨rfl, rfl⟩
end Go.Proofs.YtjfjdidibglhaaaDoor

namespace Go.Proofs.YtjfjdidibglhaaaDoor
open Go.RowKit

/-- The cell lies ahead of this one. -/
def Sn (r c i j : Nat) : Prop := i < r ∨ (i = r ∧ j < c)
structure ApI (m n : Nat) (t : Nat → Nat → Nat) (r c : Nat) (f g : Nat → Bool) : Prop where
  f : ∀ a x, x < 8 → (f (a * 8 + x) = true ↔ ∃ j, a < m ∧ j < n ∧ Sn r c a j ∧ t a j = x)
  g : ∀ b x, x < 8 → (g (b * 8 + x) = true ↔ ∃ i, i < m ∧ b < n ∧ Sn r c i b ∧ t i b = x)
  ap : ∀ i j i' j', i < m → j < n → i' < m → j' < n → Sn r c i j → Sn r c i' j' → t i j = t i' j' → (i = i' → j = j') ∧ (j = j' → i = i')
theorem ApI.start (m n : Nat) (t : Nat → Nat → Nat) : ApI m n t 0 0 (fun _ => false) (fun _ => false) := by
  have h : ∀ i j, ¬ Sn 0 0 i j := fun i j h => by unfold Sn at h; omega
  exact ⟨fun a x _ => ⟨fun e => (by cases e), fun ⟨j, _, _, s, _⟩ => (h _ _ s).elim⟩, fun a x _ => ⟨fun e => (by cases e), fun ⟨j, _, _, s, _⟩ => (h _ _ s).elim⟩, fun i j _ _ _ _ _ _ s => (h _ _ s).elim⟩
theorem eight {a x a' x' : Nat} (h : x < 8) (h' : x' < 8) : a * 8 + x = a' * 8 + x' ↔ a = a' ∧ x = x' := by omega
theorem sn_succ {r c i j : Nat} : Sn r (c + 1) i j ↔ Sn r c i j ∨ (i = r ∧ j = c) := by unfold Sn; omega
theorem ApI.step {m n : Nat} {t : Nat → Nat → Nat} {r c : Nat} {f g : Nat → Bool} (h : ApI m n t r c f g) (hr : r < m) (hc : c < n) (hx : t r c < 8) (h1 : f (r * 8 + t r c) = false) (h2 : g (c * 8 + t r c) = false) :
    ApI m n t r (c + 1) (updM f (r * 8 + t r c)) (updM g (c * 8 + t r c)) := by
  have n1 : ∀ j, j < n → Sn r c r j → t r j ≠ t r c := fun j hj s e => by
    have := (h.f r (t r c) hx).2 ⟨j, hr, hj, s, e⟩
    rw [h1] at this; cases this
  have n2 : ∀ i, i < m → Sn r c i c → t i c ≠ t r c := fun i hi s e => by
    have := (h.g c (t r c) hx).2 ⟨i, hi, hc, s, e⟩
    rw [h2] at this; cases this
  refine ⟨fun a x hx' => ?_, fun b x hx' => ?_, fun i j i' j' hi hj hi' hj' s s' e => ?_⟩
  · unfold updM
    by_cases e : a * 8 + x = r * 8 + t r c
    · rw [if_pos e]
      obtain ⟨rfl, rfl⟩ := (eight hx' hx).1 e
      exact ⟨fun _ => ⟨c, hr, hc, sn_succ.2 (.inr ⟨rfl, rfl⟩), rfl⟩, fun _ => rfl⟩
    · rw [if_neg e, h.f a x hx']
      constructor
      · rintro ⟨j, a1, a2, a3, a4⟩; exact ⟨j, a1, a2, sn_succ.2 (.inl a3), a4⟩
      · rintro ⟨j, a1, a2, a3, a4⟩
        rcases sn_succ.1 a3 with a3 | ⟨rfl, rfl⟩
        · exact ⟨j, a1, a2, a3, a4⟩
        · subst a4; exact (e rfl).elim
  · unfold updM
    by_cases e : b * 8 + x = c * 8 + t r c
    · rw [if_pos e]
      obtain ⟨rfl, rfl⟩ := (eight hx' hx).1 e
      exact ⟨fun _ => ⟨r, hr, hc, sn_succ.2 (.inr ⟨rfl, rfl⟩), rfl⟩, fun _ => rfl⟩
    · rw [if_neg e, h.g b x hx']
      constructor
      · rintro ⟨j, a1, a2, a3, a4⟩; exact ⟨j, a1, a2, sn_succ.2 (.inl a3), a4⟩
      · rintro ⟨j, a1, a2, a3, a4⟩
        rcases sn_succ.1 a3 with a3 | ⟨rfl, rfl⟩
        · exact ⟨j, a1, a2, a3, a4⟩
        · subst a4; exact (e rfl).elim
  · rcases sn_succ.1 s with s | ⟨rfl, rfl⟩
    · rcases sn_succ.1 s' with s' | ⟨rfl, rfl⟩
      · exact h.ap i j i' j' hi hj hi' hj' s s' e
      · exact ⟨fun x => by subst x; exact (n1 j hj s e).elim, fun x => by subst x; exact (n2 i hi s e).elim⟩
    · rcases sn_succ.1 s' with s' | ⟨rfl, rfl⟩
      · exact ⟨fun x => by subst x; exact (n1 j' hj' s' e.symm).elim, fun x => by subst x; exact (n2 i' hi' s' e.symm).elim⟩
      · exact ⟨fun _ => rfl, fun _ => rfl⟩
theorem ApI.next {m n : Nat} {t : Nat → Nat → Nat} {r : Nat} {f g : Nat → Bool} (h : ApI m n t r n f g) : ApI m n t (r + 1) 0 f g := by
  have k : ∀ i j, j < n → (Sn r n i j ↔ Sn (r + 1) 0 i j) := fun i j hj => by unfold Sn; omega
  refine ⟨fun a x hx => ?_, fun b x hx => ?_, fun i j i' j' hi hj hi' hj' s s' e => h.ap i j i' j' hi hj hi' hj' ((k _ _ hj).2 s) ((k _ _ hj').2 s') e⟩
  · rw [h.f a x hx]
    exact ⟨fun ⟨j, a1, a2, a3, a4⟩ => ⟨j, a1, a2, (k _ _ a2).1 a3, a4⟩, fun ⟨j, a1, a2, a3, a4⟩ => ⟨j, a1, a2, (k _ _ a2).2 a3, a4⟩⟩
  · rw [h.g b x hx]
    exact ⟨fun ⟨j, a1, a2, a3, a4⟩ => ⟨j, a1, a2, (k _ _ a2).1 a3, a4⟩, fun ⟨j, a1, a2, a3, a4⟩ => ⟨j, a1, a2, (k _ _ a2).2 a3, a4⟩⟩
theorem ApI.bad1 {m n : Nat} {t : Nat → Nat → Nat} {r c : Nat} {f g : Nat → Bool} (h : ApI m n t r c f g) (hr : r < m) (hc : c < n) (hx : t r c < 8) (h1 : f (r * 8 + t r c) = true) : ¬ Ap m n t := fun ha => by
  obtain ⟨j, a1, a2, a3, a4⟩ := (h.f r _ hx).1 h1
  have := (ha r j r c hr a2 hr hc a4).1 rfl
  unfold Sn at a3; omega
theorem ApI.bad2 {m n : Nat} {t : Nat → Nat → Nat} {r c : Nat} {f g : Nat → Bool} (h : ApI m n t r c f g) (hr : r < m) (hc : c < n) (hx : t r c < 8) (h1 : g (c * 8 + t r c) = true) : ¬ Ap m n t := fun ha => by
  obtain ⟨i, a1, a2, a3, a4⟩ := (h.g c _ hx).1 h1
  have := (ha i c r c a1 hc hr hc a4).2 rfl
  unfold Sn at a3; omega
theorem ApI.all {m n : Nat} {t : Nat → Nat → Nat} {f g : Nat → Bool} (h : ApI m n t m 0 f g) : Ap m n t := fun i j i' j' hi hj hi' hj' e => h.ap i j i' j' hi hj hi' hj' (.inl hi) (.inl hi') e

set_option maxHeartbeats 4000000 in
theorem apart_any (m n : Nat) (t : Nat → Nat → Nat) (v : Value) (w : World) (b : Bool) (hm : m ≤ 8) (hn : n ≤ 8) (ht : ∀ r c, r < m → c < n → t r c < 8) (hT : Teller v m n t w) (hb : b = true ↔ Ap m n t) :
    Calls Tryd.prog 51 #[.int .i64 (m : Int), .int .i64 (n : Int), v] w fun e w' => e = .returned (.bool b) ∧ Below w.heap.size w w' := by
  obtain ⟨g, lb, rfl, eg, hT⟩ := hT
  have HT : Hid (TellAt g lb m n t w) := hT
  have HB : Hid (b = true ↔ Ap m n t) := hb
  have HX : Hid (∀ r c, r < m → c < n → t r c < 8) := ht
  have hbf : ¬ Ap m n t → b = false := fun h => by
    cases b with
    | false => rfl
    | true => exact (h (hb.1 rfl)).elim
  have HF : Hid (¬ Ap m n t → b = false) := hbf
  have E43 := e43
  clear hT hb ht hbf
  go_enter Tryd.func51, Tryd.ntmps51
  have C1 := once_any w
  go_wp2_with (first
    | (go_at_call 62; refine C1.mono ?_; rintro e w1 ⟨rfl, hM1, b1⟩; have C2 := once_any w1; clear C1)
    | (go_at_call 62; refine C2.mono ?_; rintro e w2 ⟨rfl, hM2, b2⟩; clear C2))
  have hs1 := hM1.lt
  replace hM1 := hM1.below b2
  have hs2 := hM2.lt
  have b12 := Below.next b1 b2
  clear b1 b2
  go_loopw [15] (fun i wr => ∃ (r : Nat) (f h : Nat → Bool), i = .int .i64 (r : Int) ∧ r ≤ m ∧ Met wr w.heap.size f ∧ Met wr w1.heap.size h ∧ Hid (ApI m n t r 0 f h) ∧ Below w.heap.size w wr) (fun i _ => (m - intOf i).toNat)
  case atStart => exact ⟨0, _, _, rfl, by omega, hM1, hM2, ApI.start m n t, b12⟩
  case round =>
    clear hM1 hM2 b12
    obtain ⟨r, f, h, rfl, hr, hM1, hM2, HI, hB⟩ := hrel
    by_cases hlt : r < m
    · have hdr : decide ((r : Int) < (m : Int)) = true := by simp; omega
      go_wp2
      go_loopw [19] (fun i wr => ∃ (c : Nat) (f h : Nat → Bool), i = .int .i64 (c : Int) ∧ c ≤ n ∧ Met wr w.heap.size f ∧ Met wr w1.heap.size h ∧ Hid (ApI m n t r c f h) ∧ Below w.heap.size w wr) (fun i _ => (n - intOf i).toNat)
      case atStart => exact ⟨0, _, _, rfl, by omega, hM1, hM2, HI, hB⟩
      case round =>
        clear hM1 hM2 HI hB f h
        obtain ⟨c, f, h, rfl, hc, hM1, hM2, HI, hB⟩ := hrel
        by_cases hlc : c < n
        · have hdc : decide ((c : Int) < (n : Int)) = true := by simp; omega
          have C := HT.out _ hB r c hlt hlc
          have hx8 := HX.out r c hlt hlc
          obtain ⟨x, Hx⟩ : ∃ x, Hid (t r c = x) := ⟨_, rfl⟩
          rw [Hx.out] at C hx8
          have hxr : r < 8 := by omega
          have hxc : c < 8 := by omega
          cases hf : f (r * 8 + x) with
          | true =>
            have hbb : b = false := HF.out (HI.out.bad1 hlt hlc (by rw [Hx.out]; exact hx8) (by rw [Hx.out]; exact hf))
            subst hbb
            have D1 := fun W (hM : Met W w.heap.size f) => once1_old w.heap.size r x f W hxr hx8 hM hf
            go_wp2_with (first
              | (go_at_fn g; refine C.mono ?_; rintro e w3 ⟨rfl, b3⟩)
              | (go_at_call 74; refine (D1 _ (hM1.below b3)).mono ?_; rintro e w4 ⟨rfl, rfl⟩))
            go_ret
            exact ⟨rfl, Below.next hB b3⟩
          | false =>
            have D1 := fun W (hM : Met W w.heap.size f) => once1_new w.heap.size r x f W hxr hx8 hM hf
            cases hh : h (c * 8 + x) with
            | true =>
              have hbb : b = false := HF.out (HI.out.bad2 hlt hlc (by rw [Hx.out]; exact hx8) (by rw [Hx.out]; exact hh))
              subst hbb
              have D2 := fun W (hM : Met W w1.heap.size h) => once1_old w1.heap.size c x h W hxc hx8 hM hh
              go_wp2_with (first
                | (go_at_fn g; refine C.mono ?_; rintro e w3 ⟨rfl, b3⟩)
                | (go_at_call 74; refine (D1 _ (hM1.below b3)).mono ?_; rintro e w4 ⟨rfl, rfl⟩; clear D1)
                | (go_at_call 74; refine (D2 _ ((hM2.below b3).other _ _ (by show w1.heap.size ≠ w.heap.size; omega))).mono ?_; rintro e w4 ⟨rfl, rfl⟩; clear D2))
              go_ret
              exact ⟨rfl, (Below.next hB b3).setCell (Nat.le_refl _) _⟩
            | false =>
              have HI2 := HI.out.step hlt hlc (by rw [Hx.out]; exact hx8) (by rw [Hx.out]; exact hf) (by rw [Hx.out]; exact hh)
              rw [Hx.out] at HI2
              have HI3 : Hid (ApI m n t r (c + 1) (updM f (r * 8 + x)) (updM h (c * 8 + x))) := HI2
              have D2 := fun W (hM : Met W w1.heap.size h) => once1_new w1.heap.size c x h W hxc hx8 hM hh
              clear HI2 HI
              go_wp2_with (first
                | (go_at_fn g; refine C.mono ?_; rintro e w3 ⟨rfl, b3⟩)
                | (go_at_call 74; refine (D1 _ (hM1.below b3)).mono ?_; rintro e w4 ⟨rfl, rfl⟩; clear D1)
                | (go_at_call 74; refine (D2 _ ((hM2.below b3).other _ _ (by show w1.heap.size ≠ w.heap.size; omega))).mono ?_; rintro e w4 ⟨rfl, rfl⟩; clear D2))
              go_roundw
              case rel =>
                refine ⟨c + 1, _, _, by go_num, by omega, ((hM1.below b3).set _).other _ _ (by show w.heap.size ≠ w1.heap.size; omega), ((hM2.below b3).other _ _ (by show w1.heap.size ≠ w.heap.size; omega)).set _, HI3, ((Below.next hB b3).setCell (Nat.le_refl _) _).setCell (by show w.heap.size ≤ w1.heap.size; omega) _⟩
              case measure => simp [intOf]; omega
        · have hdc : decide ((c : Int) < (n : Int)) = false := by simp; omega
          obtain rfl : c = n := by omega
          go_wp2
          go_roundw
          case rel => exact ⟨r + 1, f, h, by go_num, by omega, hM1, hM2, HI.out.next, hB⟩
          case measure => simp [intOf]; omega
    · have hdr : decide ((r : Int) < (m : Int)) = false := by simp; omega
      obtain rfl : r = m := by omega
      have hbb : b = true := HB.out.2 HI.out.all
      subst hbb
      go_wp2
      go_ret
      exact ⟨rfl, hB⟩
end Go.Proofs.YtjfjdidibglhaaaDoor

namespace Go.Proofs.YtjfjdidibglhaaaDoor
open Go.RowKit

theorem lF_far {s : Int} {L : List Int} (h : s < 1 ∨ 8 < s) : lF s L = 1 := by unfold lF; rw [if_pos h]
theorem lF_shape {n : Nat} {L : List Int} (h1 : 1 ≤ n) (h8 : n ≤ 8) (h : L.length ≠ n * n) : lF n L = 2 := by
  unfold lF
  rw [if_neg (by omega), if_pos]
  intro e
  exact h (by exact_mod_cast e)
theorem lF_out {n : Nat} {L : List Int} {j : Nat} (h1 : 1 ≤ n) (h8 : n ≤ 8) (hl : L.length = n * n) (hj : j < n * n) (h : ¬ (0 ≤ L.getD j 0 ∧ L.getD j 0 < n)) : lF n L = 1 := by
  unfold lF
  rw [if_neg (by omega), if_neg (by rw [hl]; simp), if_pos]
  exact inLB_no fun k => h (k j (by omega))
theorem lF_on {n : Nat} {L : List Int} (h1 : 1 ≤ n) (h8 : n ≤ 8) (hl : L.length = n * n) (h : ∀ j, j < n * n → 0 ≤ L.getD j 0 ∧ L.getD j 0 < n) : lF n L = if onB n L then 0 else 6 := by
  unfold lF
  have hn : ((n : Int)).toNat = n := by omega
  rw [if_neg (by omega), if_neg (by rw [hl]; simp), if_neg (by rw [(inLB_iff _ _).2 fun j hj => h j (by omega)]; simp), hn]
theorem und24r : ∃ d, Tryd.prog.underlying 49 = some d ∧ d.isRow = true := ⟨_, Tryd.underlying49, rfl⟩
theorem inf24 : (Tryd.prog.info? 49).map (·.size) = some 2 := by kernel_rfl
theorem range_two (w : World) (b : Nat) (x y : Value) (h0 : w.cell? ⟨b, 0, none⟩ = some x) (h1 : w.cell? ⟨b, 1, none⟩ = some y) : w.rangeAt b 0 [x, y] := by
  intro j v hj
  match j, hj with
  | 0, hj => simp only [List.getElem?_cons_zero, Option.some.injEq] at hj; subst hj; exact h0
  | 1, hj => simp only [List.getElem?_cons_succ, List.getElem?_cons_zero, Option.some.injEq] at hj; subst hj; exact h1
  | j + 2, hj => simp at hj

set_option maxHeartbeats 4000000 in
theorem Check_far (s : Int) (v : Value) (w : World) (h : s < 1 ∨ 8 < s) :
    Calls Tryd.prog 36 #[.agg #[.int .i64 s, v]] w fun e w' => e = .returned (.int .i64 1) ∧ Below w.heap.size w w' := by
  have C := fun W => isSide_any s W
  have hs : sideB s = false := by unfold sideB; rcases h with h | h <;> simp <;> omega
  rw [hs] at C
  clear hs h
  go_enter Tryd.func36, Tryd.ntmps36
  go_wp2_with (go_at_call 49; refine (C _).mono ?_; rintro e w1 ⟨rfl, rfl⟩)
  go_ret
  exact ⟨rfl, balloc w _⟩
set_option maxHeartbeats 4000000 in
theorem Check_shape (n : Nat) (L : List Int) (v : Value) (w : World) (h1 : 1 ≤ n) (h8 : n ≤ 8) (hv : Sl w v L) (_hll : L.length ≤ maxLen) (hl : L.length ≠ n * n) :
    Calls Tryd.prog 36 #[.agg #[.int .i64 (n : Int), v]] w fun e w' => e = .returned (.int .i64 2) ∧ Below w.heap.size w w' := by
  have C := fun W => isSide_any n W
  have hs : sideB n = true := by unfold sideB; simp; omega
  rw [hs] at C
  obtain ⟨a, cap, rfl, _⟩ := hv
  obtain ⟨z, hz⟩ : ∃ z, z = n * n := ⟨_, rfl⟩
  have hz99 : z ≤ 99 := by rw [hz]; exact Nat.le_trans (Nat.mul_le_mul h8 h8) (by decide)
  have hmul : (n : Int) * (n : Int) = (z : Int) := by rw [hz]; simp
  have hne : ((L.length : Int) != (z : Int)) = true := by simp; omega
  generalize L.length = q at *
  clear hs hz hl
  go_enter Tryd.func36, Tryd.ntmps36
  go_wp2_with (go_at_call 49; refine (C _).mono ?_; rintro e w1 ⟨rfl, rfl⟩)
  go_ret
  exact ⟨rfl, balloc w _⟩
set_option maxRecDepth 100000 in
set_option maxHeartbeats 8000000 in
theorem Check_main (n : Nat) (L : List Int) (v : Value) (w : World) (h1 : 1 ≤ n) (h8 : n ≤ 8) (hv : Sl w v L) (hl : L.length = n * n) :
    Calls Tryd.prog 36 #[.agg #[.int .i64 (n : Int), v]] w fun e w' => e = .returned (.int .i64 (lF n L : Int)) ∧ Below w.heap.size w w' := by
  have C := fun W => isSide_any n W
  have hs : sideB n = true := by unfold sideB; simp; omega
  rw [hs] at C
  have hpos : 0 < n * n := Nat.mul_pos h1 h1
  have HV : Hid (Sl w v L) := hv
  obtain ⟨a, off, cap, rfl, ha, hcell⟩ := hv.form hl hpos
  obtain ⟨u, hu⟩ : ∃ u, u = lF n L := ⟨_, rfl⟩
  have HU : Hid (u = lF n L) := hu
  rw [← hu]
  obtain ⟨z, hz⟩ : ∃ z, z = n * n := ⟨_, rfl⟩
  have hz99 : z ≤ 99 := by rw [hz]; exact Nat.le_trans (Nat.mul_le_mul h8 h8) (by decide)
  have hmul : (n : Int) * (n : Int) = (z : Int) := by rw [hz]; simp
  have hne : ((z : Int) != (z : Int)) = false := by simp
  have HL : Hid (L.length = n * n) := hl
  have HZ : Hid (z = n * n) := hz
  have HC : Hid (∀ j, j < z → w.cell? ⟨a, off + j, none⟩ = some (.int .i64 (L.getD j 0))) := by rw [hz]; exact hcell
  rw [← hz] at HV ⊢
  have b0 := balloc w (.cells #[.int .i64 (n : Int), .slice (some ⟨a, off, none⟩) z cap] 49)
  have hx0 : (w.alloc (.cells #[.int .i64 (n : Int), .slice (some ⟨a, off, none⟩) z cap] 49)).cell? ⟨w.heap.size, 0, none⟩ = some (.int .i64 (n : Int)) := by rw [cell_of_row _ _ _ _ _ _ (heap_alloc_new w _)]; rfl
  have hx1 : (w.alloc (.cells #[.int .i64 (n : Int), .slice (some ⟨a, off, none⟩) z cap] 49)).cell? ⟨w.heap.size, 1, none⟩ = some (.slice (some ⟨a, off, none⟩) z cap) := by rw [cell_of_row _ _ _ _ _ _ (heap_alloc_new w _)]; rfl
  have hsz : w.heap.size < (w.alloc (.cells #[.int .i64 (n : Int), .slice (some ⟨a, off, none⟩) z cap] 49)).heap.size := by simp
  clear hs hcell hl hz hu
  go_enter Tryd.func36, Tryd.ntmps36
  go_wp2_with (go_at_call 49; refine (C _).mono ?_; rintro e w1 ⟨rfl, rfl⟩)
  clear C
  go_loopw [21] (fun i wr => ∃ j : Nat, i = .int .i64 (j : Int) ∧ j ≤ z ∧ Hid (∀ q, q < j → 0 ≤ L.getD q 0 ∧ L.getD q 0 < n) ∧ wr.cell? ⟨w.heap.size, 0, none⟩ = some (.int .i64 (n : Int)) ∧ wr.cell? ⟨w.heap.size, 1, none⟩ = some (.slice (some ⟨a, off, none⟩) z cap) ∧ w.heap.size < wr.heap.size ∧ Below w.heap.size w wr) (fun i _ => (z - intOf i).toNat)
  case atStart => exact ⟨0, rfl, by omega, (fun q h => by omega : ∀ q, q < 0 → _), hx0, hx1, hsz, b0⟩
  case round =>
    clear hx0 hx1 b0 hsz
    obtain ⟨j, rfl, hj, HJ, hx0, hx1, hsz, b0⟩ := hrel
    by_cases hlt : j < z
    · have hdj : decide ((j : Int) < (z : Int)) = true := by simp; omega
      have hji : (j : Int) < z := by omega
      have hj0 : (0 : Int) ≤ (j : Int) := by omega
      have hcj := (b0.cell (p := ⟨a, off + j, none⟩) ha).trans (HC.out j hlt)
      obtain ⟨x, hx⟩ : ∃ x, x = L.getD j 0 := ⟨_, rfl⟩
      rw [← hx] at hcj
      have C2 := fun W => isOf_any n x W
      by_cases hin : 0 ≤ x ∧ x < n
      · have ho : ofB n x = true := by unfold ofB; simp; omega
        have HJ2 : Hid (∀ q, q < j + 1 → 0 ≤ L.getD q 0 ∧ L.getD q 0 < n) := fun q hq => by
          by_cases e : q = j
          · subst e; rw [← hx]; exact hin
          · exact HJ.out q (by omega)
        rw [ho] at C2
        clear hin HJ hx
        go_wp2_with (go_at_call 50; refine (C2 _).mono ?_; rintro e w1 ⟨rfl, rfl⟩)
        go_roundw
        case rel => exact ⟨j + 1, by go_num, by omega, HJ2, hx0, hx1, hsz, b0⟩
        case measure => simp [intOf]; omega
      · have ho : ofB n x = false := by unfold ofB; simp; omega
        have hu1 : u = 1 := by rw [HU.out]; exact lF_out h1 h8 HL.out (by rw [← HZ.out]; exact hlt) (by rw [← hx]; exact hin)
        subst hu1
        rw [ho] at C2
        clear hin HJ hx
        go_wp2_with (go_at_call 50; refine (C2 _).mono ?_; rintro e w1 ⟨rfl, rfl⟩)
        go_ret
        exact ⟨rfl, b0⟩
    · have hdj : decide ((j : Int) < (z : Int)) = false := by simp; omega
      obtain rfl : j = z := by omega
      have hon := lF_on h1 h8 HL.out (by rw [← HZ.out]; exact HJ.out)
      rw [← HU.out] at hon
      have A1 := fun W (b : Below w.heap.size w W) => asked_any n n L _ W (HV.out.below b) HL.out h8 h8 (by rw [← HZ.out]; exact fun q hq => (HJ.out q hq).1)
      have A2 := fun y W (hT : Teller y n n (sq n L) W) => apart_any n n (sq n L) y W (onB n L) h8 h8 (fun r c hr hc => by
        have := (HJ.out _ (by rw [HZ.out]; exact cell_lt hr hc)).2
        unfold sq; omega) hT (onB_ap HL.out (by rw [HL.out, ← HZ.out]; exact fun q hq => (HJ.out q hq).1))
      have HON : Hid (u = if onB n L then 0 else 6) := hon
      have HS : Hid (w.heap.size < wr.heap.size) := hsz
      have hrg := range_two wr w.heap.size _ _ hx0 hx1
      generalize onB n L = o at *
      clear hon HJ HU
      go_wp2_with fail
      refine wp_region_noPanic ?_
      refine wp_region_held_drew (S := fun w' => w'.cell? ⟨w.heap.size, 0, none⟩ = some (.int .i64 (n : Int)) ∧ w'.rangeAt w.heap.size 0 [.int .i64 (n : Int), .slice (some ⟨a, off, none⟩) j cap]) (by kernel_rfl) (⟨hx0, hrg⟩) (fun hSx => ?_)
      refine wpAnyH_take (i := 0) (v := .pointer (some ⟨w.heap.size, 0, none⟩)) rfl (by kernel_rfl) (by kernel_rfl) (by kernel_rfl) (fun _ _ _ h => h) (Or.inl ⟨by rfl, fun w' hSw => by (try dsimp only at hSw); go_simp⟩) hSx ?_
      try simp only [Act.put, List.setIfInBounds_toArray]
      refine wpAnyH_take (i := 1) (v := .int .i64 (n : Int)) rfl (by kernel_rfl) (by kernel_rfl) (by kernel_rfl) (fun _ _ _ h => h) (Or.inl ⟨by rfl, fun w' hSw => by (try dsimp only at hSw); have hSw1 := hSw.1; go_simp⟩) hSx ?_
      try simp only [Act.put]
      refine wpAnyH_take (i := 2) (v := .pointer (some ⟨w.heap.size, 0, none⟩)) rfl (by kernel_rfl) (by kernel_rfl) (by kernel_rfl) (fun _ _ _ h => h) (Or.inl ⟨by rfl, fun w' hSw => by (try dsimp only at hSw); go_simp⟩) hSx ?_
      try simp only [Act.put]
      refine wpAnyH_take (i := 3) (v := .int .i64 (n : Int)) rfl (by kernel_rfl) (by kernel_rfl) (by kernel_rfl) (fun _ _ _ h => h) (Or.inl ⟨by rfl, fun w' hSw => by (try dsimp only at hSw); have hSw1 := hSw.1; go_simp⟩) hSx ?_
      try simp only [Act.put]
      refine wpAnyH_take (i := 4) (v := .agg #[.int .i64 (n : Int), .slice (some ⟨a, off, none⟩) j cap]) rfl (by kernel_rfl) (by kernel_rfl) (by kernel_rfl) (fun _ _ _ h => h) (yieldsIf_load_mid (by rfl) 49 _ rfl w.heap.size 0 rfl [.int .i64 (n : Int), .slice (some ⟨a, off, none⟩) j cap] _ (fun _ h => h.2) Tryd.underlying49 rfl inf24) hSx ?_
      try simp only [Act.put]
      refine wpAnyH_ready (rs := [5]) (by kernel_rfl) (by simp) ?_
      refine AllReadyH.cons rfl (fun J hJ => ?_) AllReadyH.nil
      go_simp
      refine (A1 _ b0.drew).mono ?_
      rintro e w5 ⟨⟨y, rfl, hT⟩, b5⟩
      have hS5 : w5.cell? ⟨w.heap.size, 0, none⟩ = some (.int .i64 (n : Int)) ∧ w5.rangeAt w.heap.size 0 [.int .i64 (n : Int), .slice (some ⟨a, off, none⟩) j cap] := by
        have k : ∀ o, w5.cell? ⟨w.heap.size, o, none⟩ = wr.cell? ⟨w.heap.size, o, none⟩ := fun o => b5.cell (p := ⟨w.heap.size, o, none⟩) HS.out
        exact ⟨(k 0).trans hx0, range_two w5 _ _ _ ((k 0).trans hx0) ((k 1).trans hx1)⟩
      have b15 := Below.next b0.drew b5
      go_wp2_with fail
      refine hJ.out _ _ hS5 (fun hSy => ?_)
      clear hJ J
      try simp only [Act.put, List.setIfInBounds_toArray, List.set_cons_zero, List.set_cons_succ]
      refine wpAnyH_ready (rs := [6]) (by kernel_rfl) (by simp) ?_
      refine AllReadyH.cons rfl (fun J hJ => ?_) AllReadyH.nil
      go_simp
      refine (A2 y w5 hT).mono ?_
      rintro e w6 ⟨rfl, b6⟩
      have hS6 : w6.cell? ⟨w.heap.size, 0, none⟩ = some (.int .i64 (n : Int)) ∧ w6.rangeAt w.heap.size 0 [.int .i64 (n : Int), .slice (some ⟨a, off, none⟩) j cap] := by
        have k : ∀ o, w6.cell? ⟨w.heap.size, o, none⟩ = w5.cell? ⟨w.heap.size, o, none⟩ := fun o => b6.cell (p := ⟨w.heap.size, o, none⟩) (Nat.lt_of_lt_of_le HS.out b5.size)
        have k2 : ∀ o, w5.cell? ⟨w.heap.size, o, none⟩ = wr.cell? ⟨w.heap.size, o, none⟩ := fun o => b5.cell (p := ⟨w.heap.size, o, none⟩) HS.out
        exact ⟨(k 0).trans ((k2 0).trans hx0), range_two w6 _ _ _ ((k 0).trans ((k2 0).trans hx0)) ((k 1).trans ((k2 1).trans hx1))⟩
      have b16 := Below.next b15 b6
      go_wp2_with fail
      refine hJ.out _ _ hS6 (fun hSz => ?_)
      clear hJ J
      try simp only [Act.put, List.setIfInBounds_toArray, List.set_cons_zero, List.set_cons_succ]
      refine wpAnyH_take (i := 7) (v := .bool (!o)) rfl (by kernel_rfl) (by kernel_rfl) (by kernel_rfl) (fun _ _ _ h => h) (Or.inl ⟨by rfl, fun w' hSw => by (try dsimp only at hSw); go_simp⟩) hSz ?_
      try simp only [Act.put, List.setIfInBounds_toArray]
      refine wpAnyH_done (by kernel_rfl) ?_ _
      refine NoPanic.normal ?_
      clear hSx hSy hSz hS5 hS6 hx0 hx1 hrg A1 A2
      cases o with
      | true =>
        have hu0 : u = 0 := HON.out
        subst hu0
        go_wp2
        go_ret
        exact ⟨rfl, b16⟩
      | false =>
        have hu0 : u = 6 := HON.out
        subst hu0
        go_wp2
        go_ret
        exact ⟨rfl, b16⟩
theorem Check_any (s : Int) (L : List Int) (v : Value) (w : World) (hv : Sl w v L) (hll : L.length ≤ maxLen) :
    Calls Tryd.prog 36 #[.agg #[.int .i64 s, v]] w fun e w' => e = .returned (.int .i64 (lF s L : Int)) ∧ Below w.heap.size w w' := by
  by_cases h : s < 1 ∨ 8 < s
  · rw [lF_far h]; exact Check_far s v w h
  · obtain ⟨n, rfl⟩ : ∃ n : Nat, s = n := ⟨s.toNat, by omega⟩
    by_cases hl : L.length = n * n
    · exact Check_main n L v w (by omega) (by omega) hv hl
    · rw [lF_shape (by omega) (by omega) hl]; exact Check_shape n L v w (by omega) (by omega) hv hll hl

end Go.Proofs.YtjfjdidibglhaaaDoor
