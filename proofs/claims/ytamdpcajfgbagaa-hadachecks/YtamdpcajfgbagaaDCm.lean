/- Rows of truths in memory; what a search keeps. -/
import Derived.Test.YtamdpcajfgbagaaDLw
import Derived.Test.YtamdpcajfgbagaaDCut
namespace Go.Proofs.Ytamdpcajfgbagaa
open Go.RowKit

/-- Block g holds n truths. -/
def Bo (w : World) (g n : Nat) (f : Nat → Bool) : Prop := ∃ cur t, w.heap[g]? = some (.cells cur t (0, 0)) ∧ ∀ j, j < n → cur[j]? = some (.bool (f j))
theorem Bo.lt {w : World} {g n : Nat} {f : Nat → Bool} (h : Bo w g n f) : g < w.heap.size := by
  obtain ⟨cur, t, h, _⟩ := h
  exact (Array.getElem?_eq_some_iff.1 h).1
theorem Bo.cell {w : World} {g n : Nat} {f : Nat → Bool} (h : Bo w g n f) (j : Nat) (hj : j < n) : w.cell? ⟨g, j, none⟩ = some (.bool (f j)) := by
  obtain ⟨cur, t, h, hc⟩ := h
  rw [cell_of_row w g j _ _ _ h, hc j hj]
theorem Bo.frozen {w : World} {g n : Nat} {f : Nat → Bool} (h : Bo w g n f) (j : Nat) : w.frozen? ⟨g, j, none⟩ = false := by
  obtain ⟨cur, t, h, _⟩ := h
  exact frozen_of_row w g j _ _ h
def upT (f : Nat → Bool) (i : Nat) (v : Bool) : Nat → Bool := fun j => if j = i then v else f j
theorem Bo.set {w : World} {g n : Nat} {f : Nat → Bool} (h : Bo w g n f) (i : Nat) (v : Bool) : Bo (w.setCell ⟨g, i, none⟩ (.bool v)) g n (upT f i v) := by
  obtain ⟨cur, t, h, hc⟩ := h
  refine ⟨_, t, heap_setCell_same w g i _ _ _ h, fun j hj => ?_⟩
  have hcj := hc j hj
  have hlt : j < cur.size := (Array.getElem?_eq_some_iff.1 hcj).1
  rw [Array.getElem?_setIfInBounds]
  by_cases e : i = j
  · subst e; rw [if_pos rfl, if_pos hlt]; simp [upT]
  · rw [if_neg e, hcj]; simp [upT, Ne.symm e]
theorem Bo.other {w : World} {g n : Nat} {f : Nat → Bool} (h : Bo w g n f) (a : Addr) (v : Value) (hne : g ≠ a.block) : Bo (w.setCell a v) g n f := by
  obtain ⟨cur, t, h, hc⟩ := h
  exact ⟨cur, t, (heap_setCell_other w a g v hne).trans h, hc⟩
theorem Bo.below {w w' : World} {g n : Nat} {f : Nat → Bool} (h : Bo w g n f) (hb : Below w.heap.size w w') : Bo w' g n f := by
  have hl := h.lt
  obtain ⟨cur, t, h, hc⟩ := h
  exact ⟨cur, t, (hb.block g hl).trans h, hc⟩
theorem Bo.congr {w : World} {g n : Nat} {f f' : Nat → Bool} (h : Bo w g n f) (e : ∀ j, j < n → f j = f' j) : Bo w g n f' := by
  obtain ⟨cur, t, h, hc⟩ := h
  exact ⟨cur, t, h, fun j hj => by rw [hc j hj, e j hj]⟩
/-- All but two blocks are as they were. -/
def K2 (B0 g1 g2 : Nat) (w W : World) : Prop := Below B0 w W ∧ ∀ b, b < w.heap.size → b ≠ g1 → b ≠ g2 → W.heap[b]? = w.heap[b]?
theorem K2.refl (B0 g1 g2 : Nat) (w : World) : K2 B0 g1 g2 w w := ⟨Below.refl _ _, fun _ _ _ _ => rfl⟩
theorem K2.trans {B0 g1 g2 : Nat} {a b c : World} (h : K2 B0 g1 g2 a b) (k : K2 B0 g1 g2 b c) : K2 B0 g1 g2 a c := ⟨h.1.trans k.1, fun x hx h1 h2 => (k.2 x (Nat.lt_of_lt_of_le hx h.1.size) h1 h2).trans (h.2 x hx h1 h2)⟩
theorem K2.of {B0 g1 g2 : Nat} {w W : World} (h : Below w.heap.size w W) (hB : B0 ≤ w.heap.size) : K2 B0 g1 g2 w W := ⟨h.mono hB, fun x hx _ _ => h.block x hx⟩
theorem K2.set1 {B0 g1 g2 : Nat} {w W : World} (h : K2 B0 g1 g2 w W) (hB : B0 ≤ g1) (i : Nat) (v : Value) : K2 B0 g1 g2 w (W.setCell ⟨g1, i, none⟩ v) := ⟨h.1.setCell (p := ⟨g1, i, none⟩) hB _, fun x hx h1 h2 => (heap_setCell_other W ⟨g1, i, none⟩ x v h1).trans (h.2 x hx h1 h2)⟩
theorem K2.set2 {B0 g1 g2 : Nat} {w W : World} (h : K2 B0 g1 g2 w W) (hB : B0 ≤ g2) (i : Nat) (v : Value) : K2 B0 g1 g2 w (W.setCell ⟨g2, i, none⟩ v) := ⟨h.1.setCell (p := ⟨g2, i, none⟩) hB _, fun x hx h1 h2 => (heap_setCell_other W ⟨g2, i, none⟩ x v h2).trans (h.2 x hx h1 h2)⟩
/-- The rows of a design, in old memory. -/
def DRowB (B0 : Nat) (w : World) (a : Option Addr) (B : List (List Nat)) : Prop := ∀ (i : Nat) (b : List Nat), B[i]? = some b → ∃ bb off ua uc, a = some ⟨bb, off, none⟩ ∧ ∀ W, Below B0 w W → W.cell? ⟨bb, off + i, none⟩ = some (.slice ua b.length uc) ∧ Sl W (.slice ua b.length uc) (b.map Int.ofNat)
/-- What is marked when the first j points of a block are. -/
def mk1 (D : Nat → Bool) (b : List Nat) (j : Nat) : Nat → Bool := fun x => D x || (b.take j).contains x
theorem mk1_step {D : Nat → Bool} {b : List Nat} {j y : Nat} (h : b[j]? = some y) : upT (mk1 D b j) y true = mk1 D b (j + 1) := by
  funext x
  unfold upT mk1
  rw [List.take_add_one, h]
  by_cases e : x = y
  · subst e; simp
  · simp [e]
theorem mk1_all (D : Nat → Bool) (b : List Nat) : mk1 D b b.length = addD D b := by
  unfold mk1 addD
  rw [List.take_length]
theorem mk1_none (D : Nat → Bool) (b : List Nat) : mk1 D b 0 = D := by
  funext x
  simp [mk1]
def un1 (D : Nat → Bool) (b : List Nat) (j : Nat) : Nat → Bool := fun x => if (b.take j).contains x = true then false else addD D b x
theorem un1_step {D : Nat → Bool} {b : List Nat} {j y : Nat} (h : b[j]? = some y) : upT (un1 D b j) y false = un1 D b (j + 1) := by
  funext x
  unfold upT un1
  rw [List.take_add_one, h]
  by_cases e : x = y
  · subst e; simp
  · simp [e]
theorem un1_all {D : Nat → Bool} {b : List Nat} (hf : fitD D b = true) : un1 D b b.length = D := by
  funext x
  unfold un1 addD
  rw [List.take_length]
  by_cases h : b.contains x = true
  · rw [if_pos h, (fitD_iff.1 hf).2 x (List.contains_iff_mem.1 h)]
  · rw [if_neg h, Bool.eq_false_iff.2 h, Bool.or_false]
theorem un1_none (D : Nat → Bool) (b : List Nat) : un1 D b 0 = addD D b := by
  funext x
  simp [un1]
def undN (v : Nat) (D : Nat → Bool) : Nat := (List.range v).countP fun x => !D x
theorem undN_lt {v x : Nat} {D : Nat → Bool} {b : List Nat} (hx : x < v) (hd : D x = false) (hb : b.contains x = true) : undN v (addD D b) < undN v D := by
  unfold undN addD
  have key : ∀ l : List Nat, l.countP (fun x => !(D x || b.contains x)) ≤ l.countP (fun x => !D x) ∧ (x ∈ l → l.countP (fun x => !(D x || b.contains x)) < l.countP (fun x => !D x)) := by
    intro l
    induction l with
    | nil => exact ⟨Nat.le_refl _, fun h => by simp at h⟩
    | cons y l ih =>
      rw [List.countP_cons, List.countP_cons]
      have e : (if (!(D y || b.contains y)) = true then 1 else 0) ≤ (if (!D y) = true then 1 else 0) := by
        cases D y <;> cases b.contains y <;> decide
      refine ⟨by omega, fun hm => ?_⟩
      rcases List.mem_cons.1 hm with rfl | hm
      · have h1 := ih.1
        rw [hd, hb, if_neg (by decide), if_pos (by decide)]
        omega
      · have := ih.2 hm
        omega
  exact (key _).2 (List.mem_range.2 hx)
end Go.Proofs.Ytamdpcajfgbagaa
