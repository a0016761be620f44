/- A design that passes; numbers of lists; nothing of the program. -/
import Derived.Test.YtlmjlffipinjiabDoorPBase
import Derived.Test.YtlmjlffipinjiabDoorDNext
import Derived.Deep.QuietTactic
import Derived.BigQuiet
import Derived.Deep.RegionHeld3
import Derived.Deep.MidRow
import Derived.Test.YtlmjlffipinjiabDoorDPure
/- Lists of numbers that are permutations, and what is wrong with the others; rows of truths. -/
namespace Go.Proofs.YtlmjlffipinjiabDoor
open Go.RowKit

def inLB (bd : Int) (l : List Int) : Bool := l.all fun x => decide (0 ≤ x) && decide (x < bd)
theorem inLB_iff (bd : Int) (l : List Int) : inLB bd l = true ↔ ∀ j, j < l.length → 0 ≤ l.getD j 0 ∧ l.getD j 0 < bd := by
  unfold inLB
  rw [List.all_eq_true]
  constructor
  · intro h j hj
    have := h l[j] (List.getElem_mem hj)
    simpa [hj] using this
  · intro h x hx
    obtain ⟨j, hj, rfl⟩ := List.mem_iff_getElem.1 hx
    have := h j hj
    simpa [hj] using this
theorem inLB_no {bd : Int} {l : List Int} (h : ¬ ∀ j, j < l.length → 0 ≤ l.getD j 0 ∧ l.getD j 0 < bd) : inLB bd l = false := by
  rw [Bool.eq_false_iff]; exact fun e => h ((inLB_iff bd l).1 e)
def dupB (l : List Int) : Bool := (List.range l.length).any fun i => (List.range i).any fun j => l.getD i 0 == l.getD j 0
theorem dupB_iff (l : List Int) : dupB l = true ↔ ∃ i j, j < i ∧ i < l.length ∧ l.getD i 0 = l.getD j 0 := by
  unfold dupB
  simp only [List.any_eq_true, List.mem_range, beq_iff_eq]
  constructor
  · rintro ⟨i, hi, j, hj, e⟩; exact ⟨i, j, hj, hi, e⟩
  · rintro ⟨i, j, hj, hi, e⟩; exact ⟨i, hi, j, hj, e⟩
theorem dupB_no {l : List Int} (h : ∀ i j, j < i → i < l.length → l.getD i 0 ≠ l.getD j 0) : dupB l = false := by
  rw [Bool.eq_false_iff]; intro e
  obtain ⟨i, j, h1, h2, h3⟩ := (dupB_iff l).1 e
  exact h i j h1 h2 h3
/-- What is wrong with a permutation. -/
def pF (l : List Int) : Int := if 12 < l.length then 3 else if inLB l.length l = false then 1 else if dupB l = true then 6 else 0
def pl (n : Nat) (f : Nat → Nat) : List Int := (List.range n).map fun i => (f i : Int)
@[simp] theorem pl_len (n : Nat) (f : Nat → Nat) : (pl n f).length = n := by simp [pl]
theorem pl_at {n : Nat} (f : Nat → Nat) {i : Nat} (h : i < n) : (pl n f).getD i 0 = (f i : Int) := by simp [pl, h]
theorem pl_congr {n : Nat} {f g : Nat → Nat} (h : ∀ i, i < n → f i = g i) : pl n f = pl n g := by
  unfold pl
  exact List.map_congr_left fun i hi => by rw [h i (List.mem_range.1 hi)]
theorem pl_inj {n : Nat} {f g : Nat → Nat} (h : pl n f = pl n g) {i : Nat} (hi : i < n) : f i = g i := by
  have h1 := pl_at f hi
  rw [h, pl_at g hi] at h1
  omega
theorem pF_cases (l : List Int) : pF l = 0 ∨ pF l = 1 ∨ pF l = 3 ∨ pF l = 6 := by
  unfold pF
  split
  · exact .inr (.inr (.inl rfl))
  · split
    · exact .inr (.inl rfl)
    · split
      · exact .inr (.inr (.inr rfl))
      · exact .inl rfl
theorem pF_ok {l : List Int} (h : pF l = 0) : ∃ n f, n ≤ 12 ∧ Pm n f ∧ l = pl n f := by
  unfold pF at h
  by_cases h1 : 12 < l.length
  · rw [if_pos h1] at h; omega
  · rw [if_neg h1] at h
    by_cases h2 : inLB l.length l = false
    · rw [if_pos h2] at h; omega
    · rw [if_neg h2] at h
      by_cases h3 : dupB l = true
      · rw [if_pos h3] at h; omega
      · have h2 := (inLB_iff _ _).1 (Bool.not_eq_false _ ▸ h2)
        refine ⟨l.length, fun i => (l.getD i 0).toNat, by omega, ⟨fun i hi => ?_, fun i j hi hj e => ?_⟩, ?_⟩
        · have := h2 i hi; show (l.getD i 0).toNat < _; omega
        · have e : (l.getD i 0).toNat = (l.getD j 0).toNat := e
          have a1 := h2 i hi
          have a2 := h2 j hj
          have e' : l.getD i 0 = l.getD j 0 := by omega
          rcases Nat.lt_trichotomy i j with h4 | h4 | h4
          · exact absurd ((dupB_iff l).2 ⟨j, i, h4, hj, e'.symm⟩) h3
          · exact h4
          · exact absurd ((dupB_iff l).2 ⟨i, j, h4, hi, e'⟩) h3
        · refine List.ext_getElem (by simp) fun i h4 h5 => ?_
          have e1 : l.getD i 0 = l[i] := by simp [h4]
          have := h2 i h4
          simp only [pl, List.getElem_map, List.getElem_range]
          rw [Int.toNat_of_nonneg (by omega), e1]
theorem pF_pl {n : Nat} {f : Nat → Nat} (P : Pm n f) (hn : n ≤ 12) : pF (pl n f) = 0 := by
  unfold pF
  rw [if_neg (by simp; omega)]
  have h1 : inLB (pl n f).length (pl n f) = true := (inLB_iff _ _).2 fun j hj => by
    rw [pl_len] at hj
    rw [pl_at f hj, pl_len]
    have := P.lt j hj
    omega
  rw [h1, if_neg (by simp)]
  rw [dupB_no (fun i j h2 h3 e => ?_)]
  · simp
  · rw [pl_len] at h3
    rw [pl_at f h3, pl_at f (by omega)] at e
    have := P.inj i j h3 (by omega) (by omega)
    omega
theorem pF_len {l : List Int} (h : pF l = 0) : l.length ≤ 12 := by
  obtain ⟨n, f, hn, _, rfl⟩ := pF_ok h
  simpa using hn

/-- A row of 12 truths. -/
def brow (f : Nat → Bool) : Array Value := ((List.range 12).map fun j => Value.bool (f j)).toArray
theorem brow_size (f : Nat → Bool) : (brow f).size = 12 := by simp [brow]
theorem brow_at (f : Nat → Bool) (j : Nat) (h : j < 12) : (brow f)[j]? = some (.bool (f j)) := by simp [brow, h]
def updB (f : Nat → Bool) (i : Nat) : Nat → Bool := fun j => if j = i then true else f j
theorem brow_set (f : Nat → Bool) (i : Nat) : (brow f).setIfInBounds i (.bool true) = brow (updB f i) := by
  apply Array.ext_getElem?
  intro j
  rw [Array.getElem?_setIfInBounds]
  by_cases hj : j < 12
  · rw [brow_at _ _ hj]
    by_cases e : i = j
    · subst e; rw [if_pos rfl, brow_at _ _ hj, if_pos (by simpa [brow_size] using hj)]; simp [updB]
    · rw [if_neg e, brow_at _ _ hj]; simp [updB, Ne.symm e]
  · simp [brow, hj]; omega
def BRow (w : World) (g : Nat) (f : Nat → Bool) : Prop := w.heap[g]? = some (.cells (brow f) 188 (0, 0))
theorem BRow.lt {w : World} {g : Nat} {f : Nat → Bool} (h : BRow w g f) : g < w.heap.size := (Array.getElem?_eq_some_iff.1 h).1
theorem BRow.cell {w : World} {g : Nat} {f : Nat → Bool} (h : BRow w g f) (j : Nat) (hj : j < 12) : w.cell? ⟨g, j, none⟩ = some (.bool (f j)) := by rw [cell_of_row w g j _ _ _ h, brow_at _ _ hj]
theorem BRow.frozen {w : World} {g : Nat} {f : Nat → Bool} (h : BRow w g f) (j : Nat) : w.frozen? ⟨g, j, none⟩ = false := frozen_of_row w g j _ _ h
theorem BRow.set {w : World} {g : Nat} {f : Nat → Bool} (h : BRow w g f) (i : Nat) : BRow (w.setCell ⟨g, i, none⟩ (.bool true)) g (updB f i) := by
  unfold BRow; rw [heap_setCell_same w g i _ _ _ h, brow_set]
theorem BRow.below {w w' : World} {g : Nat} {f : Nat → Bool} (h : BRow w g f) (hb : Below w.heap.size w w') : BRow w' g f := (hb.block g h.lt).trans h
theorem BRow.congr {w : World} {g : Nat} {f f' : Nat → Bool} (h : BRow w g f) (e : ∀ j, j < 12 → f j = f' j) : BRow w g f' := by
  have : brow f = brow f' := by
    unfold brow; congr 1; apply List.map_congr_left; intro j hj; rw [e j (by simpa using hj)]
  unfold BRow; rw [← this]; exact h
theorem BRow.made0 (w : World) : BRow (w.alloc (.cells #[.bool false, .bool false, .bool false, .bool false, .bool false, .bool false, .bool false, .bool false, .bool false, .bool false, .bool false, .bool false] 188)) w.heap.size (fun _ => false) := heap_alloc_new w _

end Go.Proofs.YtlmjlffipinjiabDoor

/- The walk of the document's NextSet. -/
/- The walks of the document's Lies and all. -/
namespace Go.Proofs.YtlmjlffipinjiabDoor
open Go.RowKit

theorem ofNat_at (b : List Nat) {j : Nat} (hj : j < b.length) : (b.map Int.ofNat).getD j 0 = ((b.getD j 0 : Nat) : Int) := by
  simp [hj]
theorem contains_get {b : List Nat} {x j : Nat} (hj : j < b.length) (e : b.getD j 0 = x) : b.contains x = true := by
  rw [List.contains_iff_mem, ← e, List.getD_eq_getElem?_getD, List.getElem?_eq_getElem hj]
  exact List.getElem_mem hj
theorem contains_no {b : List Nat} {x : Nat} (h : ∀ j, j < b.length → b.getD j 0 ≠ x) : b.contains x = false := by
  cases e : b.contains x with
  | false => rfl
  | true =>
    rw [List.contains_iff_mem] at e
    obtain ⟨j, hj, e⟩ := List.mem_iff_getElem.1 e
    exact (h j hj (by rw [List.getD_eq_getElem?_getD, List.getElem?_eq_getElem hj]; exact e)).elim
set_option maxHeartbeats 4000000 in
theorem Lies_any (b : List Nat) (x : Nat) (q : Bool) (v : Value) (w : World) (hv : Sl w v (b.map Int.ofNat)) (hb : b.length ≤ 99) (hq : b.contains x = q) :
    Calls Tryd.prog 13 #[v, .int .i64 (x : Int)] w fun e w' => e = .returned (.bool q) ∧ w' = w := by
  obtain ⟨a, cap, rfl, hc⟩ := hv
  rw [List.length_map] at hc ⊢
  have HC : Hid (∀ j, j < b.length → ∃ b' off, a = some ⟨b', off, none⟩ ∧ w.cell? ⟨b', off + j, none⟩ = some (.int .i64 ((b.getD j 0 : Nat) : Int))) := fun j hj => by
    obtain ⟨b', off, e1, e2⟩ := hc j hj
    rw [ofNat_at b hj] at e2
    exact ⟨b', off, e1, e2⟩
  have HQ : Hid (b.contains x = q) := hq
  have HN : Hid ((∀ j, j < b.length → b.getD j 0 ≠ x) → b.contains x = false) := contains_no
  have HY : Hid (∀ j, j < b.length → b.getD j 0 = x → b.contains x = true) := fun j hj e => contains_get hj e
  generalize hn : b.length = n at *
  clear hc hq
  go_enter Tryd.func13, Tryd.ntmps13
  go_wp2
  go_loopw [5] (fun i wr => ∃ j : Nat, i = .int .i64 (j : Int) ∧ j ≤ n ∧ Hid (∀ m, m < j → b.getD m 0 ≠ x) ∧ wr = w) (fun i _ => (n - intOf i).toNat)
  case atStart => exact ⟨0, rfl, by omega, (show ∀ m, m < 0 → _ from fun m h => by omega), rfl⟩
  case round =>
    obtain ⟨j, rfl, hj, HJ, hw⟩ := hrel
    subst hw
    by_cases hlt : j < n
    · have hdj : decide ((j : Int) < (n : Int)) = true := by simp; omega
      have hji : (j : Int) < n := by omega
      obtain ⟨b', off, rfl, hcell⟩ := HC.out j hlt
      by_cases he : b.getD j 0 = x
      · obtain rfl : q = true := by rw [← HQ.out]; exact HY.out j hlt he
        rw [he] at hcell
        have e1 : ((x : Int) == (x : Int)) = true := by simp
        clear he
        go_wp2
        go_ret
        exact ⟨rfl, rfl⟩
      · have hne : (((b.getD j 0 : Nat) : Int) == (x : Int)) = false := beq_eq_false_iff_ne.2 (by omega)
        have HJ2 : Hid (∀ m, m < j + 1 → b.getD m 0 ≠ x) := fun m hm => by
          by_cases e : m = j
          · subst e; exact he
          · exact HJ.out m (by omega)
        obtain ⟨X, hX⟩ : ∃ X : Int, X = ((b.getD j 0 : Nat) : Int) := ⟨_, rfl⟩
        rw [← hX] at hcell hne
        clear he HJ hX
        go_wp2
        go_roundw
        case rel => exact ⟨j + 1, by go_num, by omega, HJ2, trivial⟩
        case measure => simp [intOf]; omega
    · have hdj : decide ((j : Int) < (n : Int)) = false := by simp; omega
      obtain rfl : j = n := by omega
      obtain rfl : q = false := by rw [← HQ.out]; exact HN.out HJ.out
      go_wp2
      go_ret
      exact ⟨rfl, rfl⟩
end Go.Proofs.YtlmjlffipinjiabDoor

namespace Go.Proofs.YtlmjlffipinjiabDoor
open Go.RowKit

def fl (t : Nat) (f : Nat → Nat) : List Nat := (List.range t).map f
theorem fl_len (t : Nat) (f : Nat → Nat) : (fl t f).length = t := by simp [fl]
theorem fl_get {t : Nat} (f : Nat → Nat) {i : Nat} (h : i < t) : (fl t f).getD i 0 = f i := by simp [fl, h]
theorem fl_of (s : List Nat) : fl s.length (fun i => s.getD i 0) = s := by
  apply List.ext_getElem
  · simp [fl]
  · intro i h1 h2
    simp [fl, h2]
/-- What comes next, place by place. -/
def nxF (f : Nat → Nat) (i : Nat) (m : Nat) : Nat := if m < i then f m else f i + 1 + (m - i)
theorem nx_fun {v t i : Nat} {f : Nat → Nat} (hi : i < t) (hm : ∀ m, i < m → m < t → v ≤ f m + (t - m)) (hx : f i + (t - i) < v) : nx v (fl t f) = some (fl t (nxF f i)) := by
  rw [nx_at (i := i) (by rw [fl_len]; exact hi) (fun m h1 h2 => by
    rw [fl_len] at h2 ⊢
    rw [fl_get f h2]
    exact hm m h1 h2) (by rw [fl_len, fl_get f hi]; exact hx)]
  congr 1
  rw [fl_len, fl_get f hi]
  apply List.ext_getElem
  · simp [fl]; omega
  · intro m h1 h2
    have hmt : m < t := by simpa [fl] using h2
    rw [List.getElem_append]
    by_cases h : m < i
    · have h' : m < (List.take i (fl t f)).length := by rw [List.length_take, fl_len]; omega
      rw [dif_pos h']
      simp [fl, nxF, h]
    · have h' : ¬ m < (List.take i (fl t f)).length := by rw [List.length_take, fl_len]; omega
      rw [dif_neg h']
      have e : min i t = i := by omega
      simp [fl, nxF, h, e]
theorem nx_off {v t : Nat} {f : Nat → Nat} (hm : ∀ m, m < t → v ≤ f m + (t - m)) : nx v (fl t f) = none := nx_full fun m h => by
  rw [fl_len] at h ⊢
  rw [fl_get f h]
  exact hm m h
end Go.Proofs.YtlmjlffipinjiabDoor

/- The walk of the document's DesignFault. -/
namespace Go.Proofs.YtlmjlffipinjiabDoor
open Go.RowKit

/-- Rows of rows that are read. -/
def Rw (w : World) (v : Value) (ls : List (List Int)) : Prop := ∃ a cap, v = .slice a ls.length cap ∧ ∀ i l, ls[i]? = some l → ∃ b off u, a = some ⟨b, off, none⟩ ∧ w.cell? ⟨b, off + i, none⟩ = some u ∧ Sl w u l
theorem Rw.below {w w' : World} {v : Value} {ls : List (List Int)} (h : Rw w v ls) (hb : Below w.heap.size w w') : Rw w' v ls := by
  obtain ⟨a, cap, rfl, h⟩ := h
  refine ⟨a, cap, rfl, fun i l hl => ?_⟩
  obtain ⟨b, off, u, e, hc, hS⟩ := h i l hl
  exact ⟨b, off, u, e, (hb.cell (World.block_lt_of_cell? _ _ hc)).trans hc, hS.below hb⟩
/-- A design in a box, as it is read later. -/
theorem des_box (s : Int) (u : Value) (w : World) : ∀ W, Below (w.alloc (.cells #[.int .i64 s, u] 37)).heap.size (w.alloc (.cells #[.int .i64 s, u] 37)) W →
    W.cell? ⟨w.heap.size, 0, none⟩ = some (.int .i64 s) ∧ W.cell? ⟨w.heap.size, 1, none⟩ = some u := fun W b => by
  have k1 := (b.block w.heap.size (by simp)).trans (heap_alloc_new w (.cells #[.int .i64 s, u] 37))
  exact ⟨by rw [cell_of_row _ _ _ _ _ _ k1]; rfl, by rw [cell_of_row _ _ _ _ _ _ k1]; rfl⟩
/-- What is wrong with a block. -/
def bF (p : Int) (b : List Int) : Nat := if (List.range b.length).all (fun j => decide (0 ≤ b.getD j 0) && decide (b.getD j 0 < p)) then (if (List.range b.length).all (fun j => decide (j = 0 ∨ b.getD (j - 1) 0 < b.getD j 0)) then 0 else 2) else 1
def blF (p : Int) : List (List Int) → Nat
  | [] => 0
  | b :: bs => if bF p b ≠ 0 then bF p b else blF p bs
def dF (p : Int) (ls : List (List Int)) : Nat := if p < 1 ∨ 40 < p then 1 else if 200 < ls.length then 3 else blF p ls
theorem bF_out {p : Int} {b : List Int} {j : Nat} (hj : j < b.length) (h : ¬ (0 ≤ b.getD j 0 ∧ b.getD j 0 < p)) : bF p b = 1 := by
  unfold bF
  rw [if_neg]
  intro k
  have := List.all_eq_true.1 k j (List.mem_range.2 hj)
  rw [Bool.and_eq_true, decide_eq_true_eq, decide_eq_true_eq] at this
  exact h this
theorem bF_in {p : Int} {b : List Int} (h : ∀ j, j < b.length → 0 ≤ b.getD j 0 ∧ b.getD j 0 < p) : bF p b = if (List.range b.length).all (fun j => decide (j = 0 ∨ b.getD (j - 1) 0 < b.getD j 0)) then 0 else 2 := by
  unfold bF
  rw [if_pos]
  rw [List.all_eq_true]
  intro j hj
  have := h j (List.mem_range.1 hj)
  rw [Bool.and_eq_true, decide_eq_true_eq, decide_eq_true_eq]
  exact this
theorem bF_fall {p : Int} {b : List Int} {j : Nat} (h : ∀ j, j < b.length → 0 ≤ b.getD j 0 ∧ b.getD j 0 < p) (h1 : 1 ≤ j) (hj : j < b.length) (hf : b.getD j 0 ≤ b.getD (j - 1) 0) : bF p b = 2 := by
  rw [bF_in h, if_neg]
  intro k
  have := List.all_eq_true.1 k j (List.mem_range.2 hj)
  rw [decide_eq_true_eq] at this
  omega
theorem bF_ok {p : Int} {b : List Int} (h : ∀ j, j < b.length → 0 ≤ b.getD j 0 ∧ b.getD j 0 < p) (hr : ∀ j, 1 ≤ j → j < b.length → b.getD (j - 1) 0 < b.getD j 0) : bF p b = 0 := by
  rw [bF_in h, if_pos]
  rw [List.all_eq_true]
  intro j hj
  rw [decide_eq_true_eq]
  by_cases e : j = 0
  · exact .inl e
  · exact .inr (hr j (by omega) (List.mem_range.1 hj))
theorem blF_at {p : Int} : ∀ {ls : List (List Int)} {i : Nat} {b : List Int}, ls[i]? = some b → (∀ m c, m < i → ls[m]? = some c → bF p c = 0) → bF p b ≠ 0 → blF p ls = bF p b
  | [], i, b, h, _, _ => by simp at h
  | c :: ls, 0, b, h, _, hn => by
    obtain rfl : c = b := by simpa using h
    unfold blF
    rw [if_pos hn]
  | c :: ls, i + 1, b, h, hm, hn => by
    have h0 := hm 0 c (by omega) rfl
    unfold blF
    rw [if_neg (by omega)]
    exact blF_at (i := i) (by simpa using h) (fun m d hd e => hm (m + 1) d (by omega) (by simpa using e)) hn
theorem blF_none {p : Int} : ∀ {ls : List (List Int)}, (∀ (m : Nat) (c : List Int), ls[m]? = some c → bF p c = 0) → blF p ls = 0
  | [], _ => rfl
  | c :: ls, h => by
    have h0 := h 0 c rfl
    unfold blF
    rw [if_neg (by omega)]
    exact blF_none fun m d e => h (m + 1) d (by simpa using e)
end Go.Proofs.YtlmjlffipinjiabDoor

namespace Go.Proofs.YtlmjlffipinjiabDoor

structure GoodD (v : Nat) (B : List (List Nat)) : Prop where
  pos : 1 ≤ v
  le : v ≤ 40
  few : B.length ≤ 200
  rs : ∀ b ∈ B, Rs v 0 b
theorem GoodD.bls {v : Nat} {B : List (List Nat)} (h : GoodD v B) : Bls v B := fun b hb => rise_pts (rs_iff.1 (h.rs b hb)).1 fun x hx => ((rs_iff.1 (h.rs b hb)).2 x hx).2
theorem GoodD.len {v : Nat} {B : List (List Nat)} (h : GoodD v B) {b : List Nat} (hb : b ∈ B) : b.length ≤ 40 := Nat.le_trans (h.bls b hb).le h.le
def toZ (B : List (List Nat)) : List (List Int) := B.map fun b => b.map Int.ofNat
theorem bF_zero {p : Int} {b : List Int} (h : bF p b = 0) : (∀ j, j < b.length → 0 ≤ b.getD j 0 ∧ b.getD j 0 < p) ∧ ∀ j, 1 ≤ j → j < b.length → b.getD (j - 1) 0 < b.getD j 0 := by
  have h1 : ∀ j, j < b.length → 0 ≤ b.getD j 0 ∧ b.getD j 0 < p := fun j hj => Classical.byContradiction fun hn => by
    have := bF_out hj hn
    omega
  refine ⟨h1, fun j hj1 hj => Classical.byContradiction fun hn => ?_⟩
  have := bF_fall h1 hj1 hj (by omega)
  omega
theorem blF_zero {p : Int} : ∀ {ls : List (List Int)}, blF p ls = 0 → ∀ b ∈ ls, bF p b = 0
  | [], _, b, hb => by simp at hb
  | c :: ls, h, b, hb => by
    unfold blF at h
    split at h
    · rename_i hn; exact (hn h).elim
    · rename_i hn
      rcases List.mem_cons.1 hb with rfl | hb
      · omega
      · exact blF_zero h b hb
theorem toNat_rs {v : Nat} : ∀ {b : List Int} {lo : Nat}, (∀ j, j < b.length → (lo : Int) ≤ b.getD j 0 ∧ b.getD j 0 < v) → (∀ j, 1 ≤ j → j < b.length → b.getD (j - 1) 0 < b.getD j 0) → Rs v lo (b.map Int.toNat) ∧ (b.map Int.toNat).map Int.ofNat = b
  | [], _, _, _ => ⟨trivial, rfl⟩
  | x :: b, lo, h1, h2 => by
    have hx := h1 0 (by simp)
    rw [List.getD_cons_zero] at hx
    have ht : ((x.toNat : Nat) : Int) = x := by omega
    have key : ∀ j, j < b.length → x < b.getD j 0 := by
      intro j
      induction j with
      | zero => intro hj; have := h2 1 (by omega) (by simpa using hj); simpa using this
      | succ j ih =>
        intro hj
        have a := ih (by omega)
        have c := h2 (j + 2) (by omega) (by rw [List.length_cons]; omega)
        rw [show j + 2 - 1 = j + 1 by omega, List.getD_cons_succ, List.getD_cons_succ] at c
        omega
    obtain ⟨r1, r2⟩ := toNat_rs (b := b) (lo := x.toNat + 1) (fun j hj => by
      have a := key j hj
      have c := h1 (j + 1) (by rw [List.length_cons]; omega)
      simp only [List.getD_cons_succ] at c
      exact ⟨by omega, c.2⟩) (fun j hj1 hj => by
      have c := h2 (j + 1) (by omega) (by simpa using hj)
      obtain ⟨j', rfl⟩ : ∃ j', j = j' + 1 := ⟨j - 1, by omega⟩
      rw [show j' + 1 + 1 - 1 = j' + 1 by omega, List.getD_cons_succ, List.getD_cons_succ] at c
      rw [show j' + 1 - 1 = j' by omega]
      exact c)
    refine ⟨⟨by omega, by omega, r1⟩, ?_⟩
    rw [List.map_cons, List.map_cons, r2]
    show Int.ofNat x.toNat :: b = x :: b
    rw [show Int.ofNat x.toNat = x from ht]
theorem dF_ok {p : Int} {ls : List (List Int)} (h : dF p ls = 0) : ∃ v B, p = ((v : Nat) : Int) ∧ ls = toZ B ∧ GoodD v B := by
  unfold dF at h
  split at h
  · cases h
  · rename_i h1
    split at h
    · cases h
    · rename_i h2
      obtain ⟨v, rfl⟩ : ∃ v : Nat, p = v := ⟨p.toNat, by omega⟩
      have hb := blF_zero h
      refine ⟨v, ls.map fun b => b.map Int.toNat, rfl, ?_, by omega, by omega, by simpa using (by omega : ls.length ≤ 200), fun b hbm => ?_⟩
      · unfold toZ
        rw [List.map_map]
        have : ls.map (fun b => (b.map Int.toNat).map Int.ofNat) = ls.map id := List.map_congr_left fun b hbm => by
          obtain ⟨a, c⟩ := bF_zero (hb b hbm)
          exact (toNat_rs (lo := 0) (fun j hj => by have := a j hj; omega) c).2
        rw [List.map_id] at this
        exact this.symm
      · obtain ⟨c, hc, rfl⟩ := List.mem_map.1 hbm
        obtain ⟨a, d⟩ := bF_zero (hb c hc)
        exact (toNat_rs (lo := 0) (fun j hj => by have := a j hj; omega) d).1
/-- A list's number: who is ahead has the lesser one. -/
def vlN : List Nat → Nat
  | [] => 0
  | x :: s => x * 41 ^ s.length + vlN s
theorem vlN_lt : ∀ {s : List Nat}, (∀ x ∈ s, x < 41) → vlN s < 41 ^ s.length
  | [], _ => by simp [vlN]
  | x :: s, h => by
    have h1 := vlN_lt (s := s) fun y hy => h y (List.mem_cons_of_mem _ hy)
    have h2 := h x List.mem_cons_self
    unfold vlN
    rw [List.length_cons, Nat.pow_succ]
    have : (x + 1) * 41 ^ s.length ≤ 41 * 41 ^ s.length := Nat.mul_le_mul_right _ h2
    rw [Nat.add_mul] at this
    rw [Nat.mul_comm (41 ^ s.length) 41]
    omega
theorem vlN_llt : ∀ {s t : List Nat}, (∀ x ∈ s, x < 41) → (∀ x ∈ t, x < 41) → s.length = t.length → llt s t → vlN s < vlN t
  | [], _, _, _, _, h => by cases h
  | _ :: _, [], _, _, hl, _ => by simp at hl
  | x :: s, y :: t, h1, h2, hl, h => by
    have hl' : s.length = t.length := by simpa using hl
    have b1 := vlN_lt (s := s) fun z hz => h1 z (List.mem_cons_of_mem _ hz)
    unfold vlN
    rcases h with h | ⟨rfl, h⟩
    · have : (x + 1) * 41 ^ s.length ≤ y * 41 ^ s.length := Nat.mul_le_mul_right _ h
      rw [Nat.add_mul] at this
      rw [← hl']
      omega
    · have := vlN_llt (fun z hz => h1 z (List.mem_cons_of_mem _ hz)) (fun z hz => h2 z (List.mem_cons_of_mem _ hz)) hl' h
      rw [hl']
      omega
end Go.Proofs.YtlmjlffipinjiabDoor
