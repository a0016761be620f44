/- The walks of isSide, isOf; tellers; asked; those who tell what comes for the first time. -/
import Derived.Test.YtjfjdidibglhaabLAp
import Derived.Shelf.Abstract
namespace Go.Proofs.Ytjfjdidibglhaab
open Go.RowKit

def sideB (n : Int) : Bool := decide (1 ≤ n) && decide (n ≤ 8)
def ofB (n x : Int) : Bool := decide (0 ≤ x) && decide (x < n)
theorem isSide_any (n : Int) (w : World) : Calls Try.prog 14 #[.int .i64 n] w fun e w' => e = .returned (.bool (sideB n)) ∧ w' = w := by
  unfold sideB
  by_cases h : 1 ≤ n
  · have hd : decide (1 ≤ n) = true := decide_eq_true h
    by_cases h2 : n ≤ 8
    · have hd2 : decide (n ≤ 8) = true := decide_eq_true h2
      go_enter Try.func14, Try.ntmps14
      go_wp2
      go_ret
      simp [hd, hd2]
    · have hd2 : decide (n ≤ 8) = false := decide_eq_false h2
      go_enter Try.func14, Try.ntmps14
      go_wp2
      go_ret
      simp
  · have hd : decide (1 ≤ n) = false := decide_eq_false h
    go_enter Try.func14, Try.ntmps14
    go_wp2
    go_ret
    simp
theorem isOf_any (n x : Int) (w : World) : Calls Try.prog 15 #[.int .i64 n, .int .i64 x] w fun e w' => e = .returned (.bool (ofB n x)) ∧ w' = w := by
  unfold ofB
  by_cases h : 0 ≤ x
  · have hd : decide (0 ≤ x) = true := decide_eq_true h
    by_cases h2 : x < n
    · have hd2 : decide (x < n) = true := decide_eq_true h2
      go_enter Try.func15, Try.ntmps15
      go_wp2
      go_ret
      simp [hd, hd2]
    · have hd2 : decide (x < n) = false := decide_eq_false h2
      go_enter Try.func15, Try.ntmps15
      go_wp2
      go_ret
      simp
  · have hd : decide (0 ≤ x) = false := decide_eq_false h
    go_enter Try.func15, Try.ntmps15
    go_wp2
    go_ret
    simp

/-- The function tells the number in each place. -/
def TellAt (g : Nat) (lb : Array Value) (m n : Nat) (t : Nat → Nat → Nat) (w : World) : Prop :=
  ∀ W : World, Below w.heap.size w W → ∀ r c : Nat, r < m → c < n → Calls Try.prog g (#[.int .i64 (r : Int), .int .i64 (c : Int)] ++ lb) W fun e w' => e = .returned (.int .i64 (t r c : Int)) ∧ Below W.heap.size W w'
def Teller (v : Value) (m n : Nat) (t : Nat → Nat → Nat) (w : World) : Prop :=
  ∃ g lb, v = .func (.func g) #[] lb ∧ (∀ args w, (callFunc g args).run Try.prog w = .ok (.enter g args) w) ∧ TellAt g lb m n t w
theorem Teller.below {v : Value} {m n : Nat} {t : Nat → Nat → Nat} {w W : World} (h : Teller v m n t w) (hb : Below w.heap.size w W) : Teller v m n t W := by
  obtain ⟨g, lb, rfl, e, h⟩ := h
  exact ⟨g, lb, rfl, e, fun W' b r c hr hc => h W' (Below.next hb b) r c hr hc⟩
theorem Teller.congr {v : Value} {m n : Nat} {t t' : Nat → Nat → Nat} {w : World} (h : Teller v m n t w) (he : ∀ r c, r < m → c < n → t r c = t' r c) : Teller v m n t' w := by
  obtain ⟨g, lb, rfl, e, h⟩ := h
  exact ⟨g, lb, rfl, e, fun W' b r c hr hc => by rw [← he r c hr hc]; exact h W' b r c hr hc⟩

theorem e36 : ∀ args w, (callFunc 18 args).run Try.prog w = .ok (.enter 18 args) w := enters_of Try.func18 (by kernel_rfl) rfl
set_option maxHeartbeats 1000000 in
theorem asked1_any (m n : Nat) (L : List Int) (v : Value) (w W : World) (b : Nat) (hv : Sl w v L) (hl : L.length = m * n) (hm : m ≤ 8) (hn : n ≤ 8) (h0 : ∀ j, j < m * n → 0 ≤ L.getD j 0)
    (hbx : w.heap[b]? = some (.cells #[.int .i64 (n : Int), v] 24 (0, 0))) (hB : Below w.heap.size w W) (r c : Nat) (hr : r < m) (hc : c < n) :
    Calls Try.prog 18 #[.int .i64 (r : Int), .int .i64 (c : Int), .pointer (some ⟨b, 0, none⟩)] W fun e w' => e = .returned (.int .i64 (sq n L r c : Int)) ∧ Below W.heap.size W w' := by
  have hlt := cell_lt hr hc
  obtain ⟨a, off, cap, rfl, ha, hcell⟩ := (hv.below hB).form hl (by omega)
  have hbl : b < w.heap.size := (Array.getElem?_eq_some_iff.1 hbx).1
  have hbx' := (hB.block b hbl).trans hbx
  have h1 : W.cell? ⟨b, 0, none⟩ = some (.int .i64 (n : Int)) := by rw [cell_of_row _ _ _ _ _ _ hbx']; rfl
  have h2 : W.cell? ⟨b, 1, none⟩ = some (.slice (some ⟨a, off, none⟩) (m * n) cap) := by rw [cell_of_row _ _ _ _ _ _ hbx']; rfl
  have h3 := hcell _ hlt
  have h4 : L.getD (r * n + c) 0 = (sq n L r c : Int) := by have := h0 _ hlt; unfold sq; omega
  rw [h4] at h3
  have hmn : m * n ≤ 99 := Nat.le_trans (Nat.mul_le_mul hm hn) (by decide)
  have hrn : r * n ≤ 99 := by omega
  obtain ⟨q, hq⟩ : ∃ q, q = r * n := ⟨_, rfl⟩
  obtain ⟨k, hk⟩ : ∃ k, k = q + c := ⟨_, rfl⟩
  have hmul : (r : Int) * (n : Int) = (q : Int) := by rw [hq]; simp
  have hadd : (q : Int) + (c : Int) = (k : Int) := by rw [hk]; simp
  rw [← hq, ← hk] at h3 hlt
  have hq99 : q ≤ 99 := by omega
  have hk99 : k ≤ 99 := by omega
  have hkz : (k : Int) < ((m * n : Nat) : Int) := by omega
  generalize sq n L r c = x at *
  generalize m * n = z at *
  clear hcell h0 hbx hbx' hv h4 hq hk hrn
  go_enter Try.func18, Try.ntmps18
  go_wp2
  go_ret
  exact ⟨rfl, Below.refl _ _⟩
set_option maxHeartbeats 1000000 in
theorem asked_any (m n : Nat) (L : List Int) (v : Value) (w : World) (hv : Sl w v L) (hl : L.length = m * n) (hm : m ≤ 8) (hn : n ≤ 8) (h0 : ∀ j, j < m * n → 0 ≤ L.getD j 0) :
    Calls Try.prog 10 #[.agg #[.int .i64 (n : Int), v]] w fun e w' => (∃ y, e = .returned y ∧ Teller y m n (sq n L) w') ∧ Below w.heap.size w w' := by
  go_enter Try.func10, Try.ntmps10
  go_wp2
  go_ret
  have hb := balloc w (.cells #[.int .i64 (n : Int), v] 24)
  refine ⟨⟨_, rfl, _, _, rfl, e36, fun W b r c hr hc => ?_⟩, hb⟩
  exact asked1_any m n L v _ W w.heap.size (hv.below hb) hl hm hn h0 (heap_alloc_new w _) b r c hr hc

/-- Block g holds which pairs have come. -/
def Met (w : World) (g : Nat) (f : Nat → Bool) : Prop := ∃ cur, w.heap[g]? = some (.cells cur 53 (0, 0)) ∧ ∀ j, j < 8 * 8 → cur[j]? = some (.bool (f j))
def updM (f : Nat → Bool) (i : Nat) : Nat → Bool := fun j => if j = i then true else f j
theorem Met.lt {w : World} {g : Nat} {f : Nat → Bool} (h : Met w g f) : g < w.heap.size := by
  obtain ⟨cur, h, _⟩ := h
  exact (Array.getElem?_eq_some_iff.1 h).1
theorem Met.cell {w : World} {g : Nat} {f : Nat → Bool} (h : Met w g f) (j : Nat) (hj : j < 8 * 8) : w.cell? ⟨g, j, none⟩ = some (.bool (f j)) := by
  obtain ⟨cur, h, hc⟩ := h
  rw [cell_of_row w g j _ _ _ h, hc j hj]
theorem Met.frozen {w : World} {g : Nat} {f : Nat → Bool} (h : Met w g f) (j : Nat) : w.frozen? ⟨g, j, none⟩ = false := by
  obtain ⟨cur, h, _⟩ := h
  exact frozen_of_row w g j _ _ h
theorem Met.set {w : World} {g : Nat} {f : Nat → Bool} (h : Met w g f) (i : Nat) : Met (w.setCell ⟨g, i, none⟩ (.bool true)) g (updM f i) := by
  obtain ⟨cur, h, hc⟩ := h
  refine ⟨_, heap_setCell_same w g i _ _ _ h, fun j hj => ?_⟩
  have hcj := hc j hj
  have hlt : j < cur.size := (Array.getElem?_eq_some_iff.1 hcj).1
  rw [Array.getElem?_setIfInBounds]
  by_cases e : i = j
  · subst e; rw [if_pos rfl, if_pos hlt]; simp [updM]
  · rw [if_neg e, hcj]; simp [updM, Ne.symm e]
theorem Met.other {w : World} {g : Nat} {f : Nat → Bool} (h : Met w g f) (a : Addr) (v : Value) (hne : g ≠ a.block) : Met (w.setCell a v) g f := by
  obtain ⟨cur, h, hc⟩ := h
  exact ⟨cur, (heap_setCell_other w a g v hne).trans h, hc⟩
theorem Met.below {w w' : World} {g : Nat} {f : Nat → Bool} (h : Met w g f) (hb : Below w.heap.size w w') : Met w' g f := by
  have hl := h.lt
  obtain ⟨cur, h, hc⟩ := h
  exact ⟨cur, (hb.block g hl).trans h, hc⟩
theorem Met.congr {w : World} {g : Nat} {f f' : Nat → Bool} (h : Met w g f) (e : ∀ j, j < 8 * 8 → f j = f' j) : Met w g f' := by
  obtain ⟨cur, h, hc⟩ := h
  exact ⟨cur, h, fun j hj => by rw [hc j hj, e j hj]⟩
set_option maxRecDepth 100000 in
theorem once_any (w : World) : Calls Try.prog 17 #[] w fun e w' => e = .returned (.func (.func 24) #[] #[.pointer (some ⟨w.heap.size, 0, none⟩)]) ∧ Met w' w.heap.size (fun _ => false) ∧ Below w.heap.size w w' := by
  go_enter Try.func17, Try.ntmps17
  go_wp2
  go_ret
  refine ⟨rfl, ⟨_, heap_alloc_new w _, fun j hj => ?_⟩, balloc w _⟩
  have h : (((List.range (8 * 8)).map fun _ => Value.bool false).toArray)[j]? = some (.bool false) := by
    rw [List.getElem?_toArray, List.getElem?_map, List.getElem?_range hj]
    rfl
  exact h
theorem e43 : ∀ args w, (callFunc 24 args).run Try.prog w = .ok (.enter 24 args) w := enters_of Try.func24 (by kernel_rfl) rfl
set_option maxHeartbeats 1000000 in
theorem once1_old (g a b : Nat) (f : Nat → Bool) (W : World) (ha : a < 8) (hb : b < 8) (hM : Met W g f) (hf : f (a * 8 + b) = true) :
    Calls Try.prog 24 #[.int .i64 (a : Int), .int .i64 (b : Int), .pointer (some ⟨g, 0, none⟩)] W fun e w' => e = .returned (.bool false) ∧ w' = W := by
  have h1 := hM.cell (a * 8 + b) (by omega)
  have h3 : (a : Int) < 8 := by omega
  have h4 : (b : Int) < 8 := by omega
  rw [hf] at h1
  clear hM hf
  go_enter Try.func24, Try.ntmps24
  go_wp2
  go_ret
  exact ⟨rfl, rfl⟩
set_option maxHeartbeats 1000000 in
theorem once1_new (g a b : Nat) (f : Nat → Bool) (W : World) (ha : a < 8) (hb : b < 8) (hM : Met W g f) (hf : f (a * 8 + b) = false) :
    Calls Try.prog 24 #[.int .i64 (a : Int), .int .i64 (b : Int), .pointer (some ⟨g, 0, none⟩)] W fun e w' => e = .returned (.bool true) ∧ w' = W.setCell ⟨g, a * 8 + b, none⟩ (.bool true) := by
  have h1 := hM.cell (a * 8 + b) (by omega)
  have h2 := hM.frozen (a * 8 + b)
  have h3 : (a : Int) < 8 := by omega
  have h4 : (b : Int) < 8 := by omega
  rw [hf] at h1
  clear hM hf
  go_enter Try.func24, Try.ntmps24
  go_wp2
  go_ret
  exact ⟨rfl, rfl⟩
end Go.Proofs.Ytjfjdidibglhaab
