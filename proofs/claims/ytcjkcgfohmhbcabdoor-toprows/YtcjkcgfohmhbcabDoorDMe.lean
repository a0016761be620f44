/- The walk of the document's MeetsOf. -/
import Derived.Test.YtcjkcgfohmhbcabDoorDPure
import Derived.Test.YtcjkcgfohmhbcabDoorDLw
import Derived.Test.YtcjkcgfohmhbcabDoorDFish
import Derived.OwnWalk
/- Blocks that cut the points; the first list of them; nothing of the program. -/
namespace Go.Proofs.YtcjkcgfohmhbcabDoor

end Go.Proofs.YtcjkcgfohmhbcabDoor

/- Rows of truths in memory; what a search keeps. -/
namespace Go.Proofs.YtcjkcgfohmhbcabDoor
open Go.RowKit

/-- Block g holds n truths. -/
def Bo (w : World) (g n : Nat) (f : Nat → Bool) : Prop := ∃ cur t, w.heap[g]? = some (.cells cur t (0, 0)) ∧ ∀ j, j < n → cur[j]? = some (.bool (f j))
theorem Bo.lt {w : World} {g n : Nat} {f : Nat → Bool} (h : Bo w g n f) : g < w.heap.size := by
  obtain ⟨cur, t, h, _⟩ := h
  exact (Array.getElem?_eq_some_iff.1 h).1
theorem Bo.cell {w : World} {g n : Nat} {f : Nat → Bool} (h : Bo w g n f) (j : Nat) (hj : j < n) : w.cell? ⟨g, j, none⟩ = some (.bool (f j)) := by
  obtain ⟨cur, t, h, hc⟩ := h
  rw [cell_of_row w g j _ _ _ h, hc j hj]
theorem Bo.frozen {w : World} {g n : Nat} {f : Nat → Bool} (h : Bo w g n f) (j : Nat) : w.frozen? ⟨g, j, none⟩ = false := by
  obtain ⟨cur, t, h, _⟩ := h
  exact frozen_of_row w g j _ _ h
def upT (f : Nat → Bool) (i : Nat) (v : Bool) : Nat → Bool := fun j => if j = i then v else f j
theorem Bo.set {w : World} {g n : Nat} {f : Nat → Bool} (h : Bo w g n f) (i : Nat) (v : Bool) : Bo (w.setCell ⟨g, i, none⟩ (.bool v)) g n (upT f i v) := by
  obtain ⟨cur, t, h, hc⟩ := h
  refine ⟨_, t, heap_setCell_same w g i _ _ _ h, fun j hj => ?_⟩
  have hcj := hc j hj
  have hlt : j < cur.size := (Array.getElem?_eq_some_iff.1 hcj).1
  rw [Array.getElem?_setIfInBounds]
  by_cases e : i = j
  · subst e; rw [if_pos rfl, if_pos hlt]; simp [upT]
  · rw [if_neg e, hcj]; simp [upT, Ne.symm e]
theorem Bo.other {w : World} {g n : Nat} {f : Nat → Bool} (h : Bo w g n f) (a : Addr) (v : Value) (hne : g ≠ a.block) : Bo (w.setCell a v) g n f := by
  obtain ⟨cur, t, h, hc⟩ := h
  exact ⟨cur, t, (heap_setCell_other w a g v hne).trans h, hc⟩
theorem Bo.below {w w' : World} {g n : Nat} {f : Nat → Bool} (h : Bo w g n f) (hb : Below w.heap.size w w') : Bo w' g n f := by
  have hl := h.lt
  obtain ⟨cur, t, h, hc⟩ := h
  exact ⟨cur, t, (hb.block g hl).trans h, hc⟩
theorem Bo.congr {w : World} {g n : Nat} {f f' : Nat → Bool} (h : Bo w g n f) (e : ∀ j, j < n → f j = f' j) : Bo w g n f' := by
  obtain ⟨cur, t, h, hc⟩ := h
  exact ⟨cur, t, h, fun j hj => by rw [hc j hj, e j hj]⟩
/-- All but two blocks are as they were. -/
def K2 (B0 g1 g2 : Nat) (w W : World) : Prop := Below B0 w W ∧ ∀ b, b < w.heap.size → b ≠ g1 → b ≠ g2 → W.heap[b]? = w.heap[b]?
theorem K2.refl (B0 g1 g2 : Nat) (w : World) : K2 B0 g1 g2 w w := ⟨Below.refl _ _, fun _ _ _ _ => rfl⟩
theorem K2.trans {B0 g1 g2 : Nat} {a b c : World} (h : K2 B0 g1 g2 a b) (k : K2 B0 g1 g2 b c) : K2 B0 g1 g2 a c := ⟨h.1.trans k.1, fun x hx h1 h2 => (k.2 x (Nat.lt_of_lt_of_le hx h.1.size) h1 h2).trans (h.2 x hx h1 h2)⟩
theorem K2.of {B0 g1 g2 : Nat} {w W : World} (h : Below w.heap.size w W) (hB : B0 ≤ w.heap.size) : K2 B0 g1 g2 w W := ⟨h.mono hB, fun x hx _ _ => h.block x hx⟩
theorem K2.set2 {B0 g1 g2 : Nat} {w W : World} (h : K2 B0 g1 g2 w W) (hB : B0 ≤ g2) (i : Nat) (v : Value) : K2 B0 g1 g2 w (W.setCell ⟨g2, i, none⟩ v) := ⟨h.1.setCell (p := ⟨g2, i, none⟩) hB _, fun x hx h1 h2 => (heap_setCell_other W ⟨g2, i, none⟩ x v h2).trans (h.2 x hx h1 h2)⟩
end Go.Proofs.YtcjkcgfohmhbcabDoor

/- The walk of the document's Together. -/
namespace Go.Proofs.YtcjkcgfohmhbcabDoor
open Go.RowKit

end Go.Proofs.YtcjkcgfohmhbcabDoor

namespace Go.Proofs.YtcjkcgfohmhbcabDoor
open Go.RowKit

/-- In how many points two blocks meet. -/
def metB (B : List (List Nat)) (n : Nat) : Bool := (List.range B.length).any fun i => (List.range i).any fun j => mt (B.getD i []) (B.getD j []) == n
theorem metB_iff {B : List (List Nat)} {n : Nat} : metB B n = true ↔ ∃ i j, j < i ∧ i < B.length ∧ mt (B.getD i []) (B.getD j []) = n := by
  unfold metB
  rw [List.any_eq_true]
  constructor
  · rintro ⟨i, hi, h⟩
    rw [List.any_eq_true] at h
    obtain ⟨j, hj, h⟩ := h
    exact ⟨i, j, List.mem_range.1 hj, List.mem_range.1 hi, by simpa using h⟩
  · rintro ⟨i, j, hj, hi, h⟩
    refine ⟨i, List.mem_range.2 hi, ?_⟩
    rw [List.any_eq_true]
    exact ⟨j, List.mem_range.2 hj, by simpa using h⟩
def mtL (v : Nat) (B : List (List Nat)) : List Nat := (List.range (v + 1)).filter (metB B)
def SeenM (B : List (List Nat)) (i j : Nat) (f : Nat → Bool) : Prop := ∀ n, f n = true ↔ ∃ i' j', j' < i' ∧ (i' < i ∨ (i' = i ∧ j' < j)) ∧ mt (B.getD i' []) (B.getD j' []) = n
theorem SeenM.zero (B : List (List Nat)) : SeenM B 0 0 (fun _ => false) := fun n => by
  constructor
  · intro h; cases h
  · rintro ⟨i, j, h1, h2 | h2, _⟩ <;> omega
theorem SeenM.step {B : List (List Nat)} {i j : Nat} {f : Nat → Bool} (h : SeenM B i j f) (hj : j < i) : SeenM B i (j + 1) (upT f (mt (B.getD i []) (B.getD j [])) true) := fun n => by
  unfold upT
  by_cases e : n = mt (B.getD i []) (B.getD j [])
  · rw [if_pos e]
    exact ⟨fun _ => ⟨i, j, hj, .inr ⟨rfl, by omega⟩, e.symm⟩, fun _ => rfl⟩
  · rw [if_neg e, h n]
    constructor
    · rintro ⟨i', j', h1, h2, h3⟩
      exact ⟨i', j', h1, by omega, h3⟩
    · rintro ⟨i', j', h1, h2, h3⟩
      refine ⟨i', j', h1, ?_, h3⟩
      rcases h2 with h2 | ⟨h2, h4⟩
      · exact .inl h2
      · by_cases e2 : j' = j
        · subst h2 e2; exact (e h3.symm).elim
        · exact .inr ⟨h2, by omega⟩
theorem SeenM.row {B : List (List Nat)} {i : Nat} {f : Nat → Bool} (h : SeenM B i i f) : SeenM B (i + 1) 0 f := fun n => by
  rw [h n]
  constructor
  · rintro ⟨i', j', h1, h2, h3⟩
    exact ⟨i', j', h1, by omega, h3⟩
  · rintro ⟨i', j', h1, h2, h3⟩
    exact ⟨i', j', h1, by omega, h3⟩
theorem SeenM.all {B : List (List Nat)} {f : Nat → Bool} (h : SeenM B B.length 0 f) : f = metB B := by
  funext n
  rw [Bool.eq_iff_iff, h n, metB_iff]
  constructor
  · rintro ⟨i', j', h1, h2, h3⟩
    exact ⟨i', j', h1, by omega, h3⟩
  · rintro ⟨i', j', h1, h2, h3⟩
    exact ⟨i', j', h1, by omega, h3⟩
theorem own_low {w : World} {b b' n : Nat} {v : Value} {l : List Value} (h : w.ownsRow b 3 1 v n l) (hb : b' ≤ b) : w.ownsRow b' 3 1 v n l := by
  obtain ⟨h0, h | ⟨g, cap, cur, h1, h2, h3⟩⟩ := h
  · exact ⟨h0, .inl h⟩
  · exact ⟨h0, .inr ⟨g, cap, cur, h1, Nat.le_trans hb h2, h3⟩⟩
end Go.Proofs.YtcjkcgfohmhbcabDoor
