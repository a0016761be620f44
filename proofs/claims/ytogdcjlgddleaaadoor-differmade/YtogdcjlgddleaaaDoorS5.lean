/- Sets as arrays of truths: the walks of image and list. -/
import Derived.Test.YtogdcjlgddleaaaDoorDLw
import Derived.Test.YtogdcjlgddleaaaDoorDCut
import Derived.Test.YtogdcjlgddleaaaDoorDFish
import Derived.OwnWalk
import Derived.Test.YtogdcjlgddleaaaDoorB1
import Derived.Test.YtogdcjlgddleaaaDoorTIn
import Derived.Laws.OwnMore
import Derived.Test.YtogdcjlgddleaaaDoorS3
import Derived.Deep.MidRow
import Derived.Deep.RegionHeld3
/- The walk of the document's Sorted. -/
/- The walk of the document's ComplementOf. -/
/- Rows of truths in memory; what a search keeps. -/
namespace Go.Proofs.YtogdcjlgddleaaaDoor
open Go.RowKit

/-- Block g holds n truths. -/
def Bo (w : World) (g n : Nat) (f : Nat → Bool) : Prop := ∃ cur t, w.heap[g]? = some (.cells cur t (0, 0)) ∧ ∀ j, j < n → cur[j]? = some (.bool (f j))
theorem Bo.lt {w : World} {g n : Nat} {f : Nat → Bool} (h : Bo w g n f) : g < w.heap.size := by
  obtain ⟨cur, t, h, _⟩ := h
  exact (Array.getElem?_eq_some_iff.1 h).1
theorem Bo.cell {w : World} {g n : Nat} {f : Nat → Bool} (h : Bo w g n f) (j : Nat) (hj : j < n) : w.cell? ⟨g, j, none⟩ = some (.bool (f j)) := by
  obtain ⟨cur, t, h, hc⟩ := h
  rw [cell_of_row w g j _ _ _ h, hc j hj]
theorem Bo.frozen {w : World} {g n : Nat} {f : Nat → Bool} (h : Bo w g n f) (j : Nat) : w.frozen? ⟨g, j, none⟩ = false := by
  obtain ⟨cur, t, h, _⟩ := h
  exact frozen_of_row w g j _ _ h
def upT (f : Nat → Bool) (i : Nat) (v : Bool) : Nat → Bool := fun j => if j = i then v else f j
theorem Bo.set {w : World} {g n : Nat} {f : Nat → Bool} (h : Bo w g n f) (i : Nat) (v : Bool) : Bo (w.setCell ⟨g, i, none⟩ (.bool v)) g n (upT f i v) := by
  obtain ⟨cur, t, h, hc⟩ := h
  refine ⟨_, t, heap_setCell_same w g i _ _ _ h, fun j hj => ?_⟩
  have hcj := hc j hj
  have hlt : j < cur.size := (Array.getElem?_eq_some_iff.1 hcj).1
  rw [Array.getElem?_setIfInBounds]
  by_cases e : i = j
  · subst e; rw [if_pos rfl, if_pos hlt]; simp [upT]
  · rw [if_neg e, hcj]; simp [upT, Ne.symm e]
theorem Bo.other {w : World} {g n : Nat} {f : Nat → Bool} (h : Bo w g n f) (a : Addr) (v : Value) (hne : g ≠ a.block) : Bo (w.setCell a v) g n f := by
  obtain ⟨cur, t, h, hc⟩ := h
  exact ⟨cur, t, (heap_setCell_other w a g v hne).trans h, hc⟩
theorem Bo.below {w w' : World} {g n : Nat} {f : Nat → Bool} (h : Bo w g n f) (hb : Below w.heap.size w w') : Bo w' g n f := by
  have hl := h.lt
  obtain ⟨cur, t, h, hc⟩ := h
  exact ⟨cur, t, (hb.block g hl).trans h, hc⟩
theorem Bo.congr {w : World} {g n : Nat} {f f' : Nat → Bool} (h : Bo w g n f) (e : ∀ j, j < n → f j = f' j) : Bo w g n f' := by
  obtain ⟨cur, t, h, hc⟩ := h
  exact ⟨cur, t, h, fun j hj => by rw [hc j hj, e j hj]⟩
/-- All but two blocks are as they were. -/
def K2 (B0 g1 g2 : Nat) (w W : World) : Prop := Below B0 w W ∧ ∀ b, b < w.heap.size → b ≠ g1 → b ≠ g2 → W.heap[b]? = w.heap[b]?
theorem K2.refl (B0 g1 g2 : Nat) (w : World) : K2 B0 g1 g2 w w := ⟨Below.refl _ _, fun _ _ _ _ => rfl⟩
theorem K2.trans {B0 g1 g2 : Nat} {a b c : World} (h : K2 B0 g1 g2 a b) (k : K2 B0 g1 g2 b c) : K2 B0 g1 g2 a c := ⟨h.1.trans k.1, fun x hx h1 h2 => (k.2 x (Nat.lt_of_lt_of_le hx h.1.size) h1 h2).trans (h.2 x hx h1 h2)⟩
theorem K2.of {B0 g1 g2 : Nat} {w W : World} (h : Below w.heap.size w W) (hB : B0 ≤ w.heap.size) : K2 B0 g1 g2 w W := ⟨h.mono hB, fun x hx _ _ => h.block x hx⟩
theorem K2.set1 {B0 g1 g2 : Nat} {w W : World} (h : K2 B0 g1 g2 w W) (hB : B0 ≤ g1) (i : Nat) (v : Value) : K2 B0 g1 g2 w (W.setCell ⟨g1, i, none⟩ v) := ⟨h.1.setCell (p := ⟨g1, i, none⟩) hB _, fun x hx h1 h2 => (heap_setCell_other W ⟨g1, i, none⟩ x v h1).trans (h.2 x hx h1 h2)⟩
theorem K2.set2 {B0 g1 g2 : Nat} {w W : World} (h : K2 B0 g1 g2 w W) (hB : B0 ≤ g2) (i : Nat) (v : Value) : K2 B0 g1 g2 w (W.setCell ⟨g2, i, none⟩ v) := ⟨h.1.setCell (p := ⟨g2, i, none⟩) hB _, fun x hx h1 h2 => (heap_setCell_other W ⟨g2, i, none⟩ x v h2).trans (h.2 x hx h1 h2)⟩
/-- The rows of a design, in old memory. -/
def DRowB (B0 : Nat) (w : World) (a : Option Addr) (B : List (List Nat)) : Prop := ∀ (i : Nat) (b : List Nat), B[i]? = some b → ∃ bb off ua uc, a = some ⟨bb, off, none⟩ ∧ ∀ W, Below B0 w W → W.cell? ⟨bb, off + i, none⟩ = some (.slice ua b.length uc) ∧ Sl W (.slice ua b.length uc) (b.map Int.ofNat)
/-- What is marked when the first j points of a block are. -/
def mk1 (D : Nat → Bool) (b : List Nat) (j : Nat) : Nat → Bool := fun x => D x || (b.take j).contains x
theorem mk1_step {D : Nat → Bool} {b : List Nat} {j y : Nat} (h : b[j]? = some y) : upT (mk1 D b j) y true = mk1 D b (j + 1) := by
  funext x
  unfold upT mk1
  rw [List.take_add_one, h]
  by_cases e : x = y
  · subst e; simp
  · simp [e]
theorem mk1_all (D : Nat → Bool) (b : List Nat) : mk1 D b b.length = addD D b := by
  unfold mk1 addD
  rw [List.take_length]
theorem mk1_none (D : Nat → Bool) (b : List Nat) : mk1 D b 0 = D := by
  funext x
  simp [mk1]
def un1 (D : Nat → Bool) (b : List Nat) (j : Nat) : Nat → Bool := fun x => if (b.take j).contains x = true then false else addD D b x
theorem un1_step {D : Nat → Bool} {b : List Nat} {j y : Nat} (h : b[j]? = some y) : upT (un1 D b j) y false = un1 D b (j + 1) := by
  funext x
  unfold upT un1
  rw [List.take_add_one, h]
  by_cases e : x = y
  · subst e; simp
  · simp [e]
theorem un1_all {D : Nat → Bool} {b : List Nat} (hf : fitD D b = true) : un1 D b b.length = D := by
  funext x
  unfold un1 addD
  rw [List.take_length]
  by_cases h : b.contains x = true
  · rw [if_pos h, (fitD_iff.1 hf).2 x (List.contains_iff_mem.1 h)]
  · rw [if_neg h, Bool.eq_false_iff.2 h, Bool.or_false]
theorem un1_none (D : Nat → Bool) (b : List Nat) : un1 D b 0 = addD D b := by
  funext x
  simp [un1]
def undN (v : Nat) (D : Nat → Bool) : Nat := (List.range v).countP fun x => !D x
theorem undN_lt {v x : Nat} {D : Nat → Bool} {b : List Nat} (hx : x < v) (hd : D x = false) (hb : b.contains x = true) : undN v (addD D b) < undN v D := by
  unfold undN addD
  have key : ∀ l : List Nat, l.countP (fun x => !(D x || b.contains x)) ≤ l.countP (fun x => !D x) ∧ (x ∈ l → l.countP (fun x => !(D x || b.contains x)) < l.countP (fun x => !D x)) := by
    intro l
    induction l with
    | nil => exact ⟨Nat.le_refl _, fun h => by simp at h⟩
    | cons y l ih =>
      rw [List.countP_cons, List.countP_cons]
      have e : (if (!(D y || b.contains y)) = true then 1 else 0) ≤ (if (!D y) = true then 1 else 0) := by
        cases D y <;> cases b.contains y <;> decide
      refine ⟨by omega, fun hm => ?_⟩
      rcases List.mem_cons.1 hm with rfl | hm
      · have h1 := ih.1
        rw [hd, hb, if_neg (by decide), if_pos (by decide)]
        omega
      · have := ih.2 hm
        omega
  exact (key _).2 (List.mem_range.2 hx)
end Go.Proofs.YtogdcjlgddleaaaDoor

/- The walk of the document's Together. -/
namespace Go.Proofs.YtogdcjlgddleaaaDoor
open Go.RowKit

theorem mt_take {b c : List Nat} {j : Nat} (hj : j < b.length) : mt (b.take (j + 1)) c = mt (b.take j) c + if c.contains (b.getD j 0) = true then 1 else 0 := by
  unfold mt
  rw [List.take_add_one, List.getElem?_eq_getElem hj, List.countP_append, List.getD_eq_getElem?_getD, List.getElem?_eq_getElem hj]
  simp [List.countP_cons]
end Go.Proofs.YtogdcjlgddleaaaDoor

/- Rows of rows of one's own. -/
/- The walk of the document's MeetsOf. -/
namespace Go.Proofs.YtogdcjlgddleaaaDoor
open Go.RowKit

/-- In how many points two blocks meet. -/
def metB (B : List (List Nat)) (n : Nat) : Bool := (List.range B.length).any fun i => (List.range i).any fun j => mt (B.getD i []) (B.getD j []) == n
theorem metB_iff {B : List (List Nat)} {n : Nat} : metB B n = true ↔ ∃ i j, j < i ∧ i < B.length ∧ mt (B.getD i []) (B.getD j []) = n := by
  unfold metB
  rw [List.any_eq_true]
  constructor
  · rintro ⟨i, hi, h⟩
    rw [List.any_eq_true] at h
    obtain ⟨j, hj, h⟩ := h
    exact ⟨i, j, List.mem_range.1 hj, List.mem_range.1 hi, by simpa using h⟩
  · rintro ⟨i, j, hj, hi, h⟩
    refine ⟨i, List.mem_range.2 hi, ?_⟩
    rw [List.any_eq_true]
    exact ⟨j, List.mem_range.2 hj, by simpa using h⟩
def mtL (v : Nat) (B : List (List Nat)) : List Nat := (List.range (v + 1)).filter (metB B)
def SeenM (B : List (List Nat)) (i j : Nat) (f : Nat → Bool) : Prop := ∀ n, f n = true ↔ ∃ i' j', j' < i' ∧ (i' < i ∨ (i' = i ∧ j' < j)) ∧ mt (B.getD i' []) (B.getD j' []) = n
theorem SeenM.zero (B : List (List Nat)) : SeenM B 0 0 (fun _ => false) := fun n => by
  constructor
  · intro h; cases h
  · rintro ⟨i, j, h1, h2 | h2, _⟩ <;> omega
theorem SeenM.step {B : List (List Nat)} {i j : Nat} {f : Nat → Bool} (h : SeenM B i j f) (hj : j < i) : SeenM B i (j + 1) (upT f (mt (B.getD i []) (B.getD j [])) true) := fun n => by
  unfold upT
  by_cases e : n = mt (B.getD i []) (B.getD j [])
  · rw [if_pos e]
    exact ⟨fun _ => ⟨i, j, hj, .inr ⟨rfl, by omega⟩, e.symm⟩, fun _ => rfl⟩
  · rw [if_neg e, h n]
    constructor
    · rintro ⟨i', j', h1, h2, h3⟩
      exact ⟨i', j', h1, by omega, h3⟩
    · rintro ⟨i', j', h1, h2, h3⟩
      refine ⟨i', j', h1, ?_, h3⟩
      rcases h2 with h2 | ⟨h2, h4⟩
      · exact .inl h2
      · by_cases e2 : j' = j
        · subst h2 e2; exact (e h3.symm).elim
        · exact .inr ⟨h2, by omega⟩
theorem SeenM.row {B : List (List Nat)} {i : Nat} {f : Nat → Bool} (h : SeenM B i i f) : SeenM B (i + 1) 0 f := fun n => by
  rw [h n]
  constructor
  · rintro ⟨i', j', h1, h2, h3⟩
    exact ⟨i', j', h1, by omega, h3⟩
  · rintro ⟨i', j', h1, h2, h3⟩
    exact ⟨i', j', h1, by omega, h3⟩
theorem SeenM.all {B : List (List Nat)} {f : Nat → Bool} (h : SeenM B B.length 0 f) : f = metB B := by
  funext n
  rw [Bool.eq_iff_iff, h n, metB_iff]
  constructor
  · rintro ⟨i', j', h1, h2, h3⟩
    exact ⟨i', j', h1, by omega, h3⟩
  · rintro ⟨i', j', h1, h2, h3⟩
    exact ⟨i', j', h1, by omega, h3⟩
theorem info4 : ∃ i, Tryd.prog.info? 4 = some i ∧ i.zero = some (.bool false) ∧ i.size = 1 ∧ i.bytes = 1 := by
  have h1 : ((Tryd.prog.info? 4).bind fun i => i.zero) = some (.bool false) := by kernel_rfl
  have h2 : ((Tryd.prog.info? 4).map fun i => i.size) = some 1 := by kernel_rfl
  have h3 : ((Tryd.prog.info? 4).map fun i => i.bytes) = some 1 := by kernel_rfl
  cases h : Tryd.prog.info? 4 with
  | none => rw [h] at h2; cases h2
  | some i =>
    rw [h] at h1 h2 h3
    exact ⟨i, rfl, h1, Option.some.inj h2, Option.some.inj h3⟩
theorem bo_new (w : World) (n : Nat) : Bo (w.alloc (.cells (madeCells #[.bool false] n) 4)) w.heap.size n (fun _ => false) := by
  refine ⟨_, 4, heap_alloc_new w _, fun j hj => ?_⟩
  rw [Array.getElem?_eq_getElem (by rw [size_madeCells]; exact hj)]
  simp [madeCells, Nat.mod_one]
theorem own_low {w : World} {b b' n : Nat} {v : Value} {l : List Value} (h : w.ownsRow b 3 1 v n l) (hb : b' ≤ b) : w.ownsRow b' 3 1 v n l := by
  obtain ⟨h0, h | ⟨g, cap, cur, h1, h2, h3⟩⟩ := h
  · exact ⟨h0, .inl h⟩
  · exact ⟨h0, .inr ⟨g, cap, cur, h1, Nat.le_trans hb h2, h3⟩⟩
theorem filter_succ (f : Nat → Bool) (m : Nat) : (List.range (m + 1)).filter f = (List.range m).filter f ++ if f m = true then [m] else [] := by
  rw [List.range_succ, List.filter_append]
  cases h : f m <;> simp [h]
end Go.Proofs.YtogdcjlgddleaaaDoor

namespace Go.Proofs.YtogdcjlgddleaaaDoor
open Go.RowKit

theorem undR : Tryd.prog.underlying 27 = some (.slice 22) := by kernel_rfl
theorem info36 : ∃ i, Tryd.prog.info? 22 = some i ∧ i.zero = some (.slice none 0 0) ∧ i.size = 1 ∧ i.bytes = 24 := by
  have h1 : (Tryd.prog.info? 22).map (·.zero) = some (some (.slice none 0 0)) := by kernel_rfl
  have h2 : (Tryd.prog.info? 22).map (·.size) = some 1 := by kernel_rfl
  have h3 : (Tryd.prog.info? 22).map (·.bytes) = some 24 := by kernel_rfl
  cases h : Tryd.prog.info? 22 with
  | none => rw [h] at h1; cases h1
  | some i =>
    rw [h] at h1 h2 h3
    exact ⟨i, rfl, Option.some.inj h1, Option.some.inj h2, Option.some.inj h3⟩
/-- A row of numbers of one's own. -/
def ORow (w : World) (base : Nat) (u : Value) (l : List Nat) : Prop := w.ownsRow base 3 1 u l.length ((l.map Int.ofNat).map (Value.int .i64))
theorem own_keep {w w' : World} {base n : Nat} {e : TypeId} {v : Value} {xs : List Value} (h : w.ownsRow base e 1 v n xs) (k : ∀ b, base ≤ b → b < w.heap.size → w'.heap[b]? = w.heap[b]?) : w'.ownsRow base e 1 v n xs := by
  obtain ⟨h3, h4 | ⟨g, cap, cur, h5, h6, h7, h8⟩⟩ := h
  · exact ⟨h3, .inl h4⟩
  · exact ⟨h3, .inr ⟨g, cap, cur, h5, h6, (k g h6 (Array.getElem?_eq_some_iff.1 h7).1).trans h7, h8⟩⟩
def OR (w : World) (base : Nat) (v : Value) (ls : List (List Nat)) : Prop :=
  ∃ vals : List Value, w.ownsRow base 22 1 v ls.length vals ∧ ∀ (i : Nat) (u : Value) (l : List Nat), vals[i]? = some u → ls[i]? = some l → ORow w base u l
theorem OR.nil (w : World) (base : Nat) : OR w base (.slice none 0 0) [] := ⟨[], World.ownsRow_nil _ _ _ _, fun i u l h _ => by simp at h⟩
theorem OR.keep {w w' : World} {base : Nat} {v : Value} {ls : List (List Nat)} (h : OR w base v ls) (k : ∀ b, base ≤ b → b < w.heap.size → w'.heap[b]? = w.heap[b]?) : OR w' base v ls := by
  obtain ⟨vals, h1, h2⟩ := h
  exact ⟨vals, own_keep h1 k, fun i u l hu hl => own_keep (h2 i u l hu hl) k⟩
theorem OR.below {w w' : World} {base : Nat} {v : Value} {ls : List (List Nat)} (h : OR w base v ls) (k : Below w.heap.size w w') : OR w' base v ls := h.keep fun b _ hb => k.block b hb
theorem ORow.below {w w' : World} {base : Nat} {u : Value} {l : List Nat} (h : ORow w base u l) (k : Below w.heap.size w w') : ORow w' base u l := own_keep h fun b _ hb => k.block b hb
/-- One row more. -/
theorem OR.more {wa w2 : World} {base : Nat} {v v' u : Value} {ls : List (List Nat)} {l : List Nat} {vals : List Value} (h1 : wa.ownsRow base 22 1 v ls.length vals) (h2 : ∀ (i : Nat) (u : Value) (l : List Nat), vals[i]? = some u → ls[i]? = some l → ORow wa base u l) (hu : ORow wa base u l)
    (hown : w2.ownsRow base 22 1 v' (ls.length + 1) (vals ++ [u])) (hgr : wa.grownBy w2 v.ownBlock) : OR w2 base v' (ls ++ [l]) := by
  have key : ∀ {u l}, ORow wa base u l → ORow w2 base u l := by
    rintro u l ⟨h0, hn | ⟨g, cap, cur, e1, hg, k1, k2⟩⟩
    · exact ⟨h0, .inl hn⟩
    · refine ⟨h0, .inr ⟨g, cap, cur, e1, hg, (hgr.block g (Array.getElem?_eq_some_iff.1 k1).1 (fun e => ?_)).trans k1, k2⟩⟩
      obtain ⟨_, ⟨rfl, _⟩ | ⟨g', cap', cur', rfl, _, hg', _⟩⟩ := h1
      · simp [Value.ownBlock] at e
      · have e2 : g = g' := by simpa [Value.ownBlock] using e
        subst e2
        rw [hg'] at k1
        simp at k1
  have hlen : vals.length = ls.length := by have := h1.1; omega
  refine ⟨vals ++ [u], by rw [List.length_append]; exact hown, fun i u' l' e1 e2 => ?_⟩
  by_cases hi : i < vals.length
  · rw [List.getElem?_append_left hi] at e1
    rw [List.getElem?_append_left (by omega)] at e2
    exact key (h2 i u' l' e1 e2)
  · rw [List.getElem?_append_right (by omega)] at e1
    rw [List.getElem?_append_right (by omega)] at e2
    have h0 : i - vals.length = 0 := by
      rcases Nat.eq_zero_or_pos (i - vals.length) with h | h
      · exact h
      · rw [List.getElem?_eq_none (by simp; omega)] at e1; simp at e1
    rw [h0] at e1
    rw [show i - ls.length = 0 by omega] at e2
    simp at e1 e2
    subst e1 e2
    exact key hu
theorem ORow.sl {w : World} {base : Nat} {u : Value} {l : List Nat} (h : ORow w base u l) : Sl w u (l.map Int.ofNat) := Sl.owned (by rw [List.length_map]; exact h)
/-- It reads as rows of numbers. -/
theorem OR.rw {w : World} {base : Nat} {v : Value} {ls : List (List Nat)} (h : OR w base v ls) : Rw w v (toZ ls) := by
  obtain ⟨vals, h1, h2⟩ := h
  have hz : (toZ ls).length = ls.length := by simp [toZ]
  obtain ⟨h3, ⟨rfl, h4⟩ | ⟨g, cap, cur, rfl, h6, h7, h8, h9, h10, ht⟩⟩ := h1
  · refine ⟨none, 0, by rw [hz, h4], fun i l hl => ?_⟩
    have : toZ ls = [] := List.length_eq_zero_iff.1 (by rw [hz, h4])
    rw [this] at hl; simp at hl
  · refine ⟨_, cap, by rw [hz], fun i l hl => ?_⟩
    obtain ⟨hi, e⟩ := List.getElem?_eq_some_iff.1 hl
    rw [hz] at hi
    have e2 : (cur.toList.take (ls.length * 1))[i]? = vals[i]? := by rw [ht]
    rw [List.getElem?_take, if_pos (by omega)] at e2
    obtain ⟨u, hu⟩ : ∃ u, vals[i]? = some u := ⟨vals[i]'(by omega), by simp⟩
    refine ⟨g, 0, u, rfl, ?_, ?_⟩
    · rw [cell_of_row w g _ _ _ _ h7, Nat.zero_add, ← Array.getElem?_toList, e2, hu]
    · have := (h2 i u ls[i] hu (List.getElem?_eq_getElem hi)).sl
      rw [← e]
      simpa [toZ] using this
theorem OR.cap {w : World} {base : Nat} {v : Value} {ls : List (List Nat)} (h : OR w base v ls) : ∃ a c, v = .slice a ls.length c := by
  obtain ⟨a, c, e, _⟩ := h.rw
  exact ⟨a, c, by rw [e]; simp [toZ]⟩
end Go.Proofs.YtogdcjlgddleaaaDoor

namespace Go.Proofs.YtogdcjlgddleaaaDoor
open Go.RowKit

/-- The three boxes: the design, the answer, what is built. -/
structure BoxS (s v p : Nat) (dv ov : Value) (W : World) : Prop where
  d : W.heap[s]? = some (.cells #[.int .i64 (v : Int), dv] 29 (0, 0))
  r : W.heap[s + 1]? = some (.cells #[.int .i64 0, .slice none 0 0] 29 (0, 0))
  o : W.heap[s + 2]? = some (.cells #[.int .i64 (p : Int), ov] 29 (0, 0))
theorem BoxS.lt {s v p : Nat} {dv ov : Value} {W : World} (h : BoxS s v p dv ov W) : s + 3 ≤ W.heap.size := by
  have := (Array.getElem?_eq_some_iff.1 h.o).1
  omega
theorem BoxS.low {s v p : Nat} {dv ov : Value} {W W' : World} (h : BoxS s v p dv ov W) (b : Below (s + 3) W W') : BoxS s v p dv ov W' :=
  ⟨(b.block s (by omega)).trans h.d, (b.block (s + 1) (by omega)).trans h.r, (b.block (s + 2) (by omega)).trans h.o⟩
theorem BoxS.cells {s v p : Nat} {dv ov : Value} {W : World} (h : BoxS s v p dv ov W) : W.cell? ⟨s, 0, none⟩ = some (.int .i64 (v : Int)) ∧ W.cell? ⟨s, 1, none⟩ = some dv ∧ W.cell? ⟨s + 1 + 1, 0, none⟩ = some (.int .i64 (p : Int)) ∧ W.cell? ⟨s + 1 + 1, 1, none⟩ = some ov :=
  ⟨by rw [cell_of_row _ _ _ _ _ _ h.d]; rfl, by rw [cell_of_row _ _ _ _ _ _ h.d]; rfl, by rw [cell_of_row _ _ _ _ _ _ h.o]; rfl, by rw [cell_of_row _ _ _ _ _ _ h.o]; rfl⟩
theorem BoxS.put {s v p : Nat} {dv ov : Value} {W : World} (h : BoxS s v p dv ov W) (nv : Value) : BoxS s v p dv nv (W.setCell ⟨s + 1 + 1, 1, none⟩ nv) :=
  ⟨(heap_setCell_other W ⟨s + 2, 1, none⟩ s nv (by show s ≠ s + 2; omega)).trans h.d, (heap_setCell_other W ⟨s + 2, 1, none⟩ (s + 1) nv (by show s + 1 ≠ s + 2; omega)).trans h.r, heap_setCell_same W (s + 2) 1 _ _ nv h.o⟩
theorem BoxS.start (w : World) (v p : Nat) (dv : Value) : BoxS w.heap.size v p dv (.slice none 0 0) (((w.alloc (.cells #[.int .i64 (v : Int), dv] 29)).alloc (.cells #[.int .i64 0, .slice none 0 0] 29)).alloc (.cells #[.int .i64 (p : Int), .slice none 0 0] 29)) := by
  refine ⟨?_, ?_, ?_⟩
  · exact ((balloc _ _).block _ (by simp; omega)).trans (((balloc _ _).block _ (by simp)).trans (heap_alloc_new w _))
  · have := heap_alloc_new (w.alloc (.cells #[.int .i64 (v : Int), dv] 29)) (.cells #[.int .i64 0, .slice none 0 0] 29)
    rw [show (w.alloc (.cells #[.int .i64 (v : Int), dv] 29)).heap.size = w.heap.size + 1 by simp] at this
    exact ((balloc _ _).block _ (by simp)).trans this
  · have := heap_alloc_new ((w.alloc (.cells #[.int .i64 (v : Int), dv] 29)).alloc (.cells #[.int .i64 0, .slice none 0 0] 29)) (.cells #[.int .i64 (p : Int), .slice none 0 0] 29)
    rw [show ((w.alloc (.cells #[.int .i64 (v : Int), dv] 29)).alloc (.cells #[.int .i64 0, .slice none 0 0] 29)).heap.size = w.heap.size + 2 by simp] at this
    exact this
theorem oth_succ (x : Nat) (b : List Nat) : oth (x + 1) b = oth x b ++ if b.contains x = true then [] else [x] := by
  unfold oth
  rw [filter_succ]
  cases b.contains x <;> rfl
theorem take_map_succ {B : List (List Nat)} (f : List Nat → List Nat) {i : Nat} {b : List Nat} (h : B[i]? = some b) : (B.take (i + 1)).map f = (B.take i).map f ++ [f b] := by
  rw [List.take_add_one, h, List.map_append]; rfl
theorem inf24 : (Tryd.prog.info? 29).map (·.size) = some 2 := by kernel_rfl
theorem own_form {w : World} {base n : Nat} {e : TypeId} {v : Value} {xs : List Value} (h : w.ownsRow base e 1 v n xs) : ∃ a c, v = .slice a n c := by
  obtain ⟨_, ⟨rfl, rfl⟩ | ⟨g, cap, cur, rfl, _⟩⟩ := h
  · exact ⟨_, _, rfl⟩
  · exact ⟨_, _, rfl⟩
theorem post_d {fn : Func} {R : Ending → World → Prop} {a : Act} {w : World} {g : Nat} {x y : Value} (slot : Tmp) (hres : fn.results = #[.cell slot 29]) (hp : a.tmps.getD slot undef = .pointer (some ⟨g, 0, none⟩)) (hr : w.heap[g]? = some (.cells #[x, y] 29 (0, 0))) (hd : a.defers = []) (hR : R (.returned (.agg #[x, y])) w) : bodyPost Tryd.prog fn R .ret a w :=
  bodyPost_ret (results_cell_row hres a.tmps w g 29 #[x, y] (0, 0) _ hp hr Tryd.underlying29 rfl inf24) hd hR
end Go.Proofs.YtogdcjlgddleaaaDoor

namespace Go.Proofs.YtogdcjlgddleaaaDoor
open Go.RowKit

theorem map_swap (A C : List Nat) (x y : Nat) : (((((A ++ y :: x :: C).map Int.ofNat).map (Value.int .i64)).set A.length (.int .i64 (x : Int))).set (A.length + 1) (.int .i64 (y : Int))) = ((A ++ x :: y :: C).map Int.ofNat).map (Value.int .i64) := by
  have := swap_list ((A.map Int.ofNat).map (Value.int .i64)) ((C.map Int.ofNat).map (Value.int .i64)) (.int .i64 (x : Int)) (.int .i64 (y : Int))
  simp only [List.length_map] at this
  simp only [List.map_append, List.map_cons]
  exact this
set_option maxRecDepth 100000 in
set_option maxHeartbeats 4000000 in
theorem Sorted_any (l : List Nat) (u : Value) (w : World) (hu : Sl w u (l.map Int.ofNat)) (h9 : l.length ≤ 99) :
    Calls Tryd.prog 34 #[u] w fun e w' => ∃ x, e = .returned x ∧ ORow w' w.heap.size x (s3 l) ∧ Below w.heap.size w w' := by
  obtain ⟨a, ca, rfl, hA⟩ := sl_at hu
  obtain ⟨i3, hi3, hz0, hz1, hz2⟩ := info3
  have HA : Hid (∀ i, i < l.length → ∃ b off, a = some ⟨b, off, none⟩ ∧ w.cell? ⟨b, off + i, none⟩ = some (.int .i64 ((l.getD i 0 : Nat) : Int))) := hA
  have HT : Hid (∀ i, i < l.length → l.take (i + 1) = l.take i ++ [l.getD i 0]) := fun i hi => by
    rw [List.take_add_one, List.getElem?_eq_getElem hi, List.getD_eq_getElem?_getD, List.getElem?_eq_getElem hi]; rfl
  have HE : Hid (∀ b : List Nat, b.Perm (l.take l.length) → b.Pairwise (· ≤ ·) → b = s3 l) := fun b h1 h2 => s3_of (by rw [List.take_length] at h1; exact h1) h2
  have HTL : Hid (∀ i, i ≤ l.length → (l.take i).length = i) := fun i hi => by rw [List.length_take]; omega
  obtain ⟨S, HS⟩ : ∃ S, Hid (s3 l = S) := ⟨_, rfl⟩
  rw [HS.out] at HE ⊢
  generalize l.length = n at *
  obtain ⟨s, Hs⟩ : ∃ s, Hid (w.heap.size = s) := ⟨_, rfl⟩
  rw [Hs.out]
  have HB0 : Hid (Below s w w) := Below.refl _ _
  have HSS : Hid (s ≤ w.heap.size) := by rw [Hs.out]; exact Nat.le_refl _
  clear hu hA
  go_enter Tryd.func34, Tryd.ntmps34
  go_wp2
  go_loopw [3, 4] (fun ov iv wr => ∃ (i : Nat) (b : List Nat), iv = .int .i64 (i : Int) ∧ i ≤ n ∧ Hid (b.Perm (l.take i)) ∧ Hid (b.Pairwise (· ≤ ·)) ∧ Hid (b.length = i) ∧ wr.ownsRow s 3 1 ov i ((b.map Int.ofNat).map (Value.int .i64)) ∧ Below s w wr) (fun _ iv _ => (n - intOf iv).toNat)
  case atStart => exact ⟨0, [], rfl, by omega, List.Perm.refl _, List.Pairwise.nil, rfl, World.ownsRow_nil _ _ _ _, HB0.out⟩
  case round =>
    obtain ⟨i, b, rfl, hi, HP, HQ, HL, hown, hB⟩ := hrel
    have hss : s ≤ wr.heap.size := Nat.le_trans HSS.out hB.size
    by_cases hlt : i < n
    · have hdi : decide ((i : Int) < (n : Int)) = true := by simp; omega
      have hii : (i : Int) < (n : Int) := by omega
      obtain ⟨b1, o1, rfl, c1⟩ := HA.out i hlt
      replace c1 := (hB.cell (by rw [← Hs.out]; exact World.block_lt_of_cell? _ _ c1)).trans c1
      have hT := HT.out i hlt
      obtain ⟨x, hx⟩ : ∃ x, l.getD i 0 = x := ⟨_, rfl⟩
      rw [hx] at hT c1
      have HT1 : Hid (l.take (i + 1) = l.take i ++ [x]) := hT
      obtain ⟨oa, oc, rfl⟩ := own_form hown
      clear hT hx HA HE
      go_wp2_with (first
        | (at_builtin; refine wpList_append_own _ rfl _ _ 22 rfl s 3 i3 (.int .i64 0) 1 8 und22 hi3 hz0 hz1 hz2 rfl (by decide) _ _ _ rfl (hown.alloc _) ⟨wr.heap.size, 0, none⟩ 1 1 [.int .i64 (x : Int)] rfl rfl ?c1 ?c2 ?c3 ?c4 ?c5 ?_)
        | go_in)
      case c1 =>
        intro j u hj
        match j, hj with
        | 0, hj => simp at hj; subst hj; simp [Addr.add]
      case c2 => intro u hu; simp at hu; subst hu; rfl
      case c3 => unfold maxLen; omega
      case c4 => omega
      case c5 => simp; omega
      · intro v' w2 hown' hgrow _
        have hb2 : Below s w w2 := (hB.alloc (by omega) _).grown hgrow (by simp; omega) (fun k hk => (hown.lt k hk).1)
        have hown2 : w2.ownsRow s 3 1 v' (i + 1) (((b ++ x :: []).map Int.ofNat).map (Value.int .i64)) := by simpa using hown'
        obtain ⟨g, cap, rfl⟩ : ∃ g cap, v' = .slice (some ⟨g, 0, none⟩) (i + 1) cap := by
          obtain ⟨_, ⟨rfl, h0⟩ | ⟨g, cap, cur, rfl, _⟩⟩ := hown2
          · omega
          · exact ⟨g, cap, rfl⟩
        have HHO : Hid (w2.ownsRow s 3 1 (.slice (some ⟨g, 0, none⟩) (i + 1) cap) (i + 1) (((b ++ x :: []).map Int.ofNat).map (Value.int .i64))) := hown2
        have HPP : Hid ((b ++ []).Perm (l.take i)) := by show List.Perm _ _; simpa using HP.out
        have HQQ : Hid ((b ++ []).Pairwise (· ≤ ·)) := by show List.Pairwise _ _; simpa using HQ.out
        clear hown' hown2 hgrow hown hB c1 HP HQ
        go_wp2
        go_loopw [5] (fun kv wr' => ∃ (A C : List Nat), kv = .int .i64 (A.length : Int) ∧ Hid ((A ++ C).Perm (l.take i)) ∧ Hid ((A ++ C).Pairwise (· ≤ ·)) ∧ Hid (∀ c ∈ C, x ≤ c) ∧ Hid ((A ++ C).length = i) ∧ wr'.ownsRow s 3 1 (.slice (some ⟨g, 0, none⟩) (i + 1) cap) (i + 1) (((A ++ x :: C).map Int.ofNat).map (Value.int .i64)) ∧ Below s w wr') (fun kv _ => (intOf kv).toNat)
        case atStart => exact ⟨b, [], by rw [HL.out], HPP, HQQ, fun c hc => by simp at hc, by show _ = _; simpa using HL.out, HHO.out, hb2⟩
        case round =>
          clear HPP HQQ HHO hb2 HL
          obtain ⟨A, C, rfl, HP, HQ, HC, HL, hown, hB⟩ := hrel
          have hAl : A.length ≤ i := by rw [← HL.out, List.length_append]; omega
          have k1 : wr.cell? ⟨g, A.length, none⟩ = some (.int .i64 (x : Int)) := by
            rw [hown.cellAt A.length (by omega)]; simp
          have f1 := hown.frozenAt A.length
          have fin : (∀ B y, A = B ++ [y] → y ≤ x) → Hid ((A ++ x :: C).Perm (l.take (i + 1))) ∧ Hid ((A ++ x :: C).Pairwise (· ≤ ·)) ∧ Hid ((A ++ x :: C).length = i + 1) := fun h3 =>
            ⟨by show List.Perm _ _; rw [HT1.out]; exact (mid_perm A C x).trans ((List.Perm.cons x HP.out).trans (snoc_perm _ x).symm), ins_end (R := (· ≤ ·)) (fun _ _ _ => Nat.le_trans) HQ.out HC.out h3, by show _ = _; have := HL.out; simp at this ⊢; omega⟩
          rcases List.eq_nil_or_concat A with e | ⟨B, y, e⟩
          · have h0 : A.length = 0 := by rw [e]; rfl
            have hk : decide ((0 : Int) < (A.length : Int)) = false := by rw [h0]; rfl
            have hk2 : ¬ (0 : Int) < (A.length : Int) := by omega
            obtain ⟨HF1, HF2, HF3⟩ := fin fun B y e2 => by rw [e] at e2; simp at e2
            clear fin e HP HQ HC HL k1 f1
            generalize A.length = k at *
            go_wp2
            go_quiet (fail)
            go_wp2
            go_roundw
            case rel => exact ⟨i + 1, _, by go_num, by omega, HF1, HF2, HF3, hown, hB.trans ⟨rfl, rfl, rfl, Nat.le_refl _, fun _ _ => rfl⟩⟩
            case measure => simp [intOf]; omega
          · have e : A = B ++ [y] := by rw [e, List.concat_eq_append]
            have hl1 : A.length = B.length + 1 := by rw [e]; simp
            have k2 : wr.cell? ⟨g, B.length, none⟩ = some (.int .i64 (y : Int)) := by
              rw [hown.cellAt B.length (by omega), e]; simp
            have f2 := hown.frozenAt B.length
            have hk : decide ((0 : Int) < (A.length : Int)) = true := by simp; omega
            have hk2 : (0 : Int) < (A.length : Int) := by omega
            have hkN : decide (0 < A.length) = true := by simp; omega
            have hkM : 0 < A.length := by omega
            have hk3 : (A.length : Int) - 1 = (B.length : Int) := by omega
            by_cases hyx : x < y
            · have hd : decide ((x : Int) < (y : Int)) = true := by simp; omega
              have hdi2 : (x : Int) < (y : Int) := by omega
              have hdN : decide (x < y) = true := by simp; omega
              have HSW : Hid (∀ W : World, W.ownsRow s 3 1 (.slice (some ⟨g, 0, none⟩) (i + 1) cap) (i + 1) (((A ++ x :: C).map Int.ofNat).map (Value.int .i64)) → ((W.setCell ⟨g, B.length, none⟩ (.int .i64 (x : Int))).setCell ⟨g, B.length + 1, none⟩ (.int .i64 (y : Int))).ownsRow s 3 1 (.slice (some ⟨g, 0, none⟩) (i + 1) cap) (i + 1) (((B ++ x :: (y :: C)).map Int.ofNat).map (Value.int .i64))) := fun W hW => by
                have h1 := ((hW.stored B.length (.int .i64 (x : Int))).1.stored (B.length + 1) (.int .i64 (y : Int))).1
                rw [e, show B ++ [y] ++ x :: C = B ++ y :: x :: C by simp, map_swap] at h1
                exact h1
              have HP2 : Hid ((B ++ (y :: C)).Perm (l.take i)) := by show List.Perm _ _; have := HP.out; rw [e] at this; simpa using this
              have hst := ins_step (R := (· ≤ ·)) (A := B) (C := C) (x := x) (y := y) (by have := HQ.out; rw [e] at this; exact this) HC.out (by omega)
              have HQ2 : Hid ((B ++ (y :: C)).Pairwise (· ≤ ·)) := hst.1
              have HC2 : Hid (∀ c ∈ y :: C, x ≤ c) := hst.2
              have HL2 : Hid ((B ++ (y :: C)).length = i) := by show _ = _; have := HL.out; rw [e] at this; simp at this ⊢; omega
              have hgs : Hid (s ≤ g) := by
                obtain ⟨_, ⟨e0, _⟩ | ⟨g', cap', cur, e0, hg, _⟩⟩ := hown
                · cases e0
                · cases e0; exact hg
              clear fin e HP HQ HC HL hst
              rw [← hl1] at HSW
              have Hl1 : Hid (A.length = B.length + 1) := hl1
              have HBK : Hid (∃ k, B.length = k) := ⟨_, rfl⟩
              have hkq : B.length < i + 1 := by omega
              clear hl1
              generalize HB : B.length = k at *
              generalize A.length = q at *
              go_wp2
              go_quiet (fail)
              go_wp2
              go_region
              all_goals
                go_wp2
                go_roundw
                case rel => exact ⟨B, y :: C, by rw [HB], HP2, HQ2, HC2, HL2, HSW.out _ hown, ((hB.trans (c := wr.drewN _) ⟨rfl, rfl, rfl, Nat.le_refl _, fun _ _ => rfl⟩).setCell (p := ⟨g, k, none⟩) hgs.out _).setCell (p := ⟨g, q, none⟩) hgs.out _⟩
                case measure => simp [intOf]; have := Hl1.out; omega
            · have hd : decide ((x : Int) < (y : Int)) = false := by simp; omega
              have hdi2 : ¬ (x : Int) < (y : Int) := by omega
              have hdN : decide (x < y) = false := by simp; omega
              obtain ⟨HF1, HF2, HF3⟩ := fin fun B' y' e2 => by
                rw [e] at e2
                have := (List.append_inj' e2 rfl).2
                have e3 : y = y' := by simpa using this
                omega
              clear fin e HP HQ HC HL
              have Hl1 : Hid (A.length = B.length + 1) := hl1
              have hkq : B.length < i + 1 := by omega
              clear hl1
              generalize B.length = k at *
              generalize A.length = q at *
              go_wp2
              go_quiet (fail)
              go_wp2
              go_roundw
              case rel => exact ⟨i + 1, _, by go_num, by omega, HF1, HF2, HF3, hown, hB.trans ⟨rfl, rfl, rfl, Nat.le_refl _, fun _ _ => rfl⟩⟩
              case measure => simp [intOf]; omega
    · have hdi : decide ((i : Int) < (n : Int)) = false := by simp; omega
      obtain rfl : i = n := by omega
      obtain rfl : b = S := HE.out b HP.out HQ.out
      go_wp2
      go_ret
      refine ⟨_, rfl, ?_, hB⟩
      unfold ORow
      rw [HL.out]
      exact hown

end Go.Proofs.YtogdcjlgddleaaaDoor

namespace Go.Proofs.YtogdcjlgddleaaaDoor
open Go.RowKit

/-- A row of 60 truths. -/
def zrow (f : Nat → Bool) : Array Value := ((List.range 60).map fun j => Value.bool (f j)).toArray
@[simp] theorem zrow_size (f : Nat → Bool) : (zrow f).size = 60 := by simp [zrow]
theorem zrow_at (f : Nat → Bool) (j : Nat) (h : j < 60) : (zrow f)[j]? = some (.bool (f j)) := by simp [zrow, h]
theorem zrow_set (f : Nat → Bool) (i : Nat) (v : Bool) : (zrow f).setIfInBounds i (.bool v) = zrow (upT f i v) := by
  apply Array.ext_getElem?
  intro j
  rw [Array.getElem?_setIfInBounds]
  by_cases hj : j < 60
  · rw [zrow_at _ _ hj]
    by_cases e : i = j
    · subst e; rw [if_pos rfl, zrow_at _ _ hj, if_pos (by simpa using hj)]; simp [upT]
    · rw [if_neg e, zrow_at _ _ hj]; simp [upT, Ne.symm e]
  · simp [zrow, hj]; omega
theorem zrow_congr {f g : Nat → Bool} (h : ∀ j, j < 60 → f j = g j) : zrow f = zrow g := by
  unfold zrow
  congr 1
  apply List.map_congr_left
  intro j hj
  rw [h j (by simpa using hj)]
theorem zrow_inj {f g : Nat → Bool} (h : zrow f = zrow g) {j : Nat} (hj : j < 60) : f j = g j := by
  have h1 := zrow_at f j hj
  rw [h, zrow_at g j hj] at h1
  simpa using h1.symm
theorem zrow_one (f : Nat → Bool) : (zrow f).all (·.oneCell') = true := by
  rw [Array.all_eq_true]
  intro i hi
  have h := zrow_at f i (by simpa using hi)
  rw [Array.getElem?_eq_getElem hi] at h
  rw [Option.some.inj h]; rfl
def ZRow (w : World) (g : Nat) (f : Nat → Bool) : Prop := w.heap[g]? = some (.cells (zrow f) 44 (0, 0))
theorem ZRow.lt {w : World} {g : Nat} {f : Nat → Bool} (h : ZRow w g f) : g < w.heap.size := (Array.getElem?_eq_some_iff.1 h).1
theorem ZRow.cell {w : World} {g : Nat} {f : Nat → Bool} (h : ZRow w g f) (j : Nat) (hj : j < 60) : w.cell? ⟨g, j, none⟩ = some (.bool (f j)) := by
  rw [cell_of_row w g j _ _ _ h, zrow_at _ _ hj]
theorem ZRow.frozen {w : World} {g : Nat} {f : Nat → Bool} (h : ZRow w g f) (j : Nat) : w.frozen? ⟨g, j, none⟩ = false := frozen_of_row w g j _ _ h
theorem ZRow.set {w : World} {g : Nat} {f : Nat → Bool} (h : ZRow w g f) (i : Nat) (v : Bool) : ZRow (w.setCell ⟨g, i, none⟩ (.bool v)) g (upT f i v) := by
  unfold ZRow
  rw [heap_setCell_same w g i _ _ _ h, zrow_set]
theorem ZRow.other {w : World} {g : Nat} {f : Nat → Bool} (h : ZRow w g f) (a : Addr) (v : Value) (hne : g ≠ a.block) : ZRow (w.setCell a v) g f := by
  unfold ZRow
  rw [heap_setCell_other w a g v hne]; exact h
theorem ZRow.below {w w' : World} {g : Nat} {f : Nat → Bool} (h : ZRow w g f) (hb : Below w.heap.size w w') : ZRow w' g f := (hb.block g h.lt).trans h
theorem ZRow.whole {w : World} {g : Nat} {f : Nat → Bool} (h : ZRow w g f) (f' : Nat → Bool) : ZRow (w.setRow g (zrow f')) g f' := setRow_heap w g _ _ _ _ h
theorem ZRow.made (w : World) (f : Nat → Bool) : ZRow (w.alloc (.cells (zrow f) 44)) w.heap.size f := heap_alloc_new w _
theorem bsetRow {B g : Nat} {w0 w : World} (hb : Below B w0 w) (hBg : B ≤ g) (cs : Array Value) : Below B w0 (w.setRow g cs) :=
  ⟨hb.os, hb.tape, hb.output, by simpa using hb.size, fun k hk => (setRow_other w g k cs (by omega)).trans (hb.block k hk)⟩
theorem undB : Tryd.prog.underlying 44 = some (.array 60 4) := by kernel_rfl
theorem infB (f : Nat → Bool) : (Tryd.prog.info? 44).map (·.size) = some (zrow f).size := by rw [zrow_size]; kernel_rfl
theorem post_zrow {fn : Func} {R : Ending → World → Prop} {a : Act} {w : World} {g : Nat} {f : Nat → Bool} (slot : Tmp) (hres : fn.results = #[.cell slot 44])
    (hp : a.tmps.getD slot undef = .pointer (some ⟨g, 0, none⟩)) (hr : ZRow w g f) (hd : a.defers = []) (hR : R (.returned (.agg (zrow f))) w) : bodyPost Tryd.prog fn R .ret a w :=
  bodyPost_ret (results_cell_row hres a.tmps w g 44 (zrow f) (0, 0) _ hp hr undB rfl (infB f)) hd hR
theorem idxB (f : Nat → Bool) (k : Nat) (h : k < 60) (w : World) : (Instr.index 44 (.agg (zrow f)) (.int .i64 (k : Int))).run Tryd.prog w = .ok (.bool (f k)) w := by
  have hi : (0 : Int) ≤ (k : Int) ∧ (k : Int) < ((60 : Nat) : Int) := by omega
  simp [Instr.index, run_underlying undB, asIntOf, hi, go_sem]
  rw [if_pos h, zrow_at f k h]
  rfl
theorem imF_none (v : Nat) (t s : Nat) : imF v [] t s = fun _ => false := by funext x; simp [imF]
theorem imF_next (v : Nat) (l : List Nat) (t s x : Nat) : upT (imF v l t s) (mvN v t s x) true = imF v (l ++ [x]) t s := by
  funext y
  unfold upT imF
  rw [List.map_append]
  by_cases e : y = mvN v t s x
  · rw [if_pos e]; simp [e]
  · rw [if_neg e]; simp [e]
theorem mv_int {v x t s m : Nat} (hm : x * t = m) : ((m : Int) + (s : Int)).tmod (v : Int) = (mvN v t s x : Int) := by
  unfold mvN
  rw [hm, ← Int.natCast_add, Int.ofNat_tmod]
set_option maxRecDepth 100000 in
set_option maxHeartbeats 8000000 in
theorem image_any (v t s : Nat) (D : List Nat) (u : Value) (w : World) (hG : GoodS v D) (hu : Sl w u (D.map Int.ofNat)) (ht : t < 60) (hs : s < 60) :
    Calls Tryd.prog 17 #[.int .i64 (v : Int), u, .int .i64 (t : Int), .int .i64 (s : Int)] w fun e w' => e = .returned (.agg (zrow (imF v D t s))) ∧ Below w.heap.size w w' := by
  obtain ⟨a, ca, rfl, hA⟩ := sl_at hu
  have hz : ∀ w, (zeroValue 44).run Tryd.prog w = .ok (.agg (zrow fun _ => false)) w := fun w => by kernel_rfl
  have h1 := hG.pos
  have h60 := hG.le
  have hlen := hG.len
  obtain ⟨g, Hg⟩ : ∃ g, Hid (w.heap.size = g) := ⟨_, rfl⟩
  have HA : Hid (∀ i, i < D.length → ∃ b off, a = some ⟨b, off, none⟩ ∧ ∀ W, Below g w W → W.cell? ⟨b, off + i, none⟩ = some (.int .i64 ((D.getD i 0 : Nat) : Int))) := fun i hi => by
    obtain ⟨b, o, e, hc⟩ := hA i hi
    exact ⟨b, o, e, fun W bW => (bW.cell (by rw [← Hg.out]; exact World.block_lt_of_cell? _ _ hc)).trans hc⟩
  have HV : Hid (∀ i, i < D.length → D.getD i 0 < v) := fun i hi => by
    rw [List.getD_eq_getElem?_getD, List.getElem?_eq_getElem hi]; exact hG.lt _ (List.getElem_mem hi)
  have HN : Hid (∀ i, i < D.length → upT (imF v (D.take i) t s) (mvN v t s (D.getD i 0)) true = imF v (D.take (i + 1)) t s) := fun i hi => by rw [imF_next, take_up hi]
  have HE : Hid (imF v (D.take D.length) t s = imF v D t s) := by show imF v (D.take D.length) t s = imF v D t s; rw [List.take_length]
  have hr1 := ZRow.made w (fun _ => false)
  have hr0 := hr1.below (balloc _ (.cells (zrow fun _ => false) 44))
  have hr2 := ZRow.made (w.alloc (.cells (zrow fun _ => false) 44)) (fun _ => false)
  rw [World.size_alloc] at hr2
  have hb0 := Below.next (balloc w (.cells (zrow fun _ => false) 44)) (balloc _ (.cells (zrow fun _ => false) 44))
  rw [Hg.out] at hr0 hr2 hb0 ⊢
  generalize D.length = n at *
  have hv0 : (v : Int) ≠ 0 := by omega
  have hw4 : ¬ v = 0 := by omega
  have hgw : w.heap.size = g := Hg.out
  have h60i : ((60 : Nat) : Int) = 60 := rfl
  clear hu hA hr1
  go_enter Tryd.func17, Tryd.ntmps17
  go_wp2
  (try rw [hgw])
  go_loopw [14] (fun iv wr => ∃ i : Nat, iv = .int .i64 (i : Int) ∧ i ≤ n ∧ ZRow wr g (fun _ => false) ∧ ZRow wr (g + 1) (imF v (D.take i) t s) ∧ Below g w wr) (fun iv _ => (n - intOf iv).toNat)
  case atStart => exact ⟨0, rfl, by omega, hr0, by rw [List.take_zero, imF_none]; exact hr2, hb0⟩
  case round =>
    clear hr0 hr2 hb0 hz
    obtain ⟨i, rfl, hi, hr0, hr2, hB⟩ := hrel
    by_cases hlt : i < n
    · have hii : (i : Int) < n := by omega
      have hdec : decide ((i : Int) < n) = true := by simp; omega
      obtain ⟨b1, o1, rfl, c1⟩ := HA.out i hlt
      replace c1 := c1 _ hB
      have hxv := HV.out i hlt
      have hN := HN.out i hlt
      obtain ⟨x, hx⟩ : ∃ x, D.getD i 0 = x := ⟨_, rfl⟩
      rw [hx] at c1 hxv hN
      obtain ⟨m, hm⟩ : ∃ m, x * t = m := ⟨_, rfl⟩
      have hmi : (x : Int) * (t : Int) = (m : Int) := by rw [← hm]; simp
      have hmb : m ≤ 60 * 60 := by rw [← hm]; exact Nat.mul_le_mul (by omega) (by omega)
      have hmod := mv_int (v := v) (s := s) hm
      obtain ⟨k, Hk⟩ : ∃ k, Hid (mvN v t s x = k) := ⟨_, rfl⟩
      have hkv : k < v := by rw [← Hk.out]; exact Nat.mod_lt _ (by omega)
      rw [Hk.out] at hmod hN
      have hk60 : (k : Int) < 60 := by omega
      have hfz := hr2.frozen k
      have hcm := hr2.cell k (by omega)
      have hset := hr2.set k true
      have hset0 := hr0.other ⟨g + 1, k, none⟩ (.bool true) (by simp)
      have hB2 := hB.setCell (p := ⟨g + 1, k, none⟩) (Nat.le_succ _) (.bool true)
      rw [hN] at hset
      generalize imF v (D.take i) t s k = fk at hcm
      clear hN hx hm HA HV HN HE hr0 hr2 hB hkv
      go_wp2
      go_roundw
      case rel => exact ⟨i + 1, by go_num, by omega, hset0, hset, hB2⟩
      case measure => simp [intOf]; omega
    · have hdec : decide ((i : Int) < n) = false := by simp; omega
      obtain rfl : i = n := by omega
      rw [HE.out] at hr2
      go_wp2_with (first
        | (refine wpList_load_row rfl 44 _ rfl (g + 1) rfl 44 _ (0, 0) _ hr2 undB rfl (infB _) ?_)
        | (refine wpList_store_row rfl 44 _ _ rfl g _ rfl rfl 44 _ hr0 (infB _) (by simp) (zrow_one _) ?_))
      exact post_zrow 8 Tryd.results17 rfl (hr0.whole _) rfl ⟨rfl, bsetRow hB (Nat.le_refl _) _⟩
theorem ran_up (f : Nat → Bool) (k : Nat) : (List.range (k + 1)).filter f = (List.range k).filter f ++ if f k = true then [k] else [] := by
  rw [List.range_succ, List.filter_append]
  cases h : f k <;> simp [h]
set_option maxRecDepth 100000 in
set_option maxHeartbeats 8000000 in
theorem list_any (f : Nat → Bool) (w : World) :
    Calls Tryd.prog 18 #[.agg (zrow f)] w fun e w' => ∃ x, e = .returned x ∧ ORow w' w.heap.size x ((List.range 60).filter f) ∧ Below w.heap.size w w' := by
  obtain ⟨i3, hi3, hz0, hz1, hz2⟩ := info3
  have hr0 := ZRow.made w f
  have hb0 := balloc w (.cells (zrow f) 44)
  obtain ⟨g, Hg⟩ : ∃ g, Hid (w.heap.size = g) := ⟨_, rfl⟩
  have HIx : Hid (∀ k : Nat, k < 60 → ∀ w, (Instr.index 44 (.agg (zrow f)) (.int .i64 (k : Int))).run Tryd.prog w = .ok (.bool (f k)) w) := fun k hk w => idxB f k hk w
  have HU : Hid (∀ k, (List.range (k + 1)).filter f = (List.range k).filter f ++ if f k = true then [k] else []) := ran_up f
  have HLn : Hid (∀ k, ((List.range k).filter f).length ≤ k) := fun k => Nat.le_trans (List.length_filter_le _ _) (by simp)
  rw [Hg.out] at hr0 hb0 ⊢
  obtain ⟨F, HF⟩ : ∃ F : Nat → List Nat, Hid (∀ k, (List.range k).filter f = F k) := ⟨fun k => (List.range k).filter f, fun _ => rfl⟩
  have HU2 : Hid (∀ k, F (k + 1) = F k ++ if f k = true then [k] else []) := fun k => by rw [← HF.out, ← HF.out]; exact HU.out k
  have HL2 : Hid (∀ k, (F k).length ≤ k) := fun k => by rw [← HF.out]; exact HLn.out k
  have HF0 : Hid (F 0 = []) := by show F 0 = []; rw [← HF.out]; rfl
  rw [HF.out]
  have hgw : w.heap.size = g := Hg.out
  clear HU HLn HF
  go_enter Tryd.func18, Tryd.ntmps18
  go_wp2_with (first
    | (refine wpList_load_row rfl 44 _ rfl g rfl 44 _ (0, 0) _ hr0 undB rfl (infB _) ?_))
  clear hr0
  go_loopw [3, 7] (fun ov kv wr => ∃ k : Nat, kv = .int .i64 (k : Int) ∧ k ≤ 60 ∧ ORow wr g ov (F k) ∧ Below g w wr) (fun _ kv _ => (60 - intOf kv).toNat)
  case atStart => exact ⟨0, rfl, by omega, by rw [HF0.out]; exact World.ownsRow_nil _ _ _ _, hb0⟩
  case round =>
    clear hb0
    obtain ⟨k, rfl, hk, hown, hB⟩ := hrel
    have hgs : g ≤ wr.heap.size := by rw [← hgw]; exact hB.size
    by_cases hlt : k < 60
    · have hdi : decide ((k : Int) < 60) = true := by simp; omega
      have hii : (k : Int) < 60 := by omega
      have hix := HIx.out k hlt
      have hU := HU2.out k
      have hL := HL2.out k
      cases hf : f k
      · rw [hf] at hix hU
        have HUU : Hid (F (k + 1) = F k) := by show _ = _; rw [hU]; simp
        clear hU hf HIx HU2 HL2 HF0
        go_wp2
        go_roundw
        case rel => exact ⟨k + 1, by go_num, by omega, by rw [HUU.out]; exact hown, hB⟩
        case measure => simp [intOf]; omega
      · rw [hf] at hix hU
        have HUU : Hid (F (k + 1) = F k ++ [k]) := by show _ = _; rw [hU]; simp
        obtain ⟨l, Hl⟩ : ∃ l, Hid (F k = l) := ⟨_, rfl⟩
        rw [Hl.out] at HUU hL hown
        unfold ORow at hown
        obtain ⟨oa, oc, rfl⟩ := own_form hown
        clear hU hf HIx HU2 HL2 HF0 Hl
        go_wp2_with (first
          | (at_builtin; refine wpList_append_own _ rfl _ _ 22 rfl g 3 i3 (.int .i64 0) 1 8 und22 hi3 hz0 hz1 hz2 rfl (by decide) _ _ _ rfl (hown.alloc _) ⟨wr.heap.size, 0, none⟩ 1 1 [.int .i64 (k : Int)] rfl rfl ?c1 ?c2 ?c3 ?c4 ?c5 ?_)
          | go_in)
        case c1 =>
          intro j u hj
          match j, hj with
          | 0, hj => simp at hj; subst hj; simp [Addr.add]
        case c2 => intro u hu; simp at hu; subst hu; rfl
        case c3 => unfold maxLen; omega
        case c4 => omega
        case c5 => simp; omega
        · intro v' w2 hown' hgrow _
          have hb2 : Below g w w2 := (hB.alloc (by omega) _).grown hgrow (by simp; omega) (fun k hk => (hown.lt k hk).1)
          have hown2 : w2.ownsRow g 3 1 v' (l.length + 1) (((l ++ [k]).map Int.ofNat).map (Value.int .i64)) := by simpa using hown'
          have hown3 : ORow w2 g v' (F (k + 1)) := by
            rw [HUU.out]
            unfold ORow
            rw [List.length_append]
            exact hown2
          clear hown' hown2 hgrow hown hB
          go_wp2
          go_roundw
          case rel => exact ⟨k + 1, by go_num, by omega, hown3, hb2⟩
          case measure => simp [intOf]; omega
    · have hdi : decide ((k : Int) < 60) = false := by simp; omega
      obtain rfl : k = 60 := by omega
      go_wp2
      go_ret
      exact ⟨_, rfl, hown, hB⟩

end Go.Proofs.YtogdcjlgddleaaaDoor
