/- The walk of the document's ComplementOf. -/
import Derived.Test.YtogdcjlgddleaaaDoorDLw
import Derived.Test.YtogdcjlgddleaaaDoorDCut
import Derived.Test.YtogdcjlgddleaaaDoorDFish
import Derived.OwnWalk
/- Rows of truths in memory; what a search keeps. -/
namespace Go.Proofs.YtogdcjlgddleaaaDoor
open Go.RowKit

/-- Block g holds n truths. -/
def Bo (w : World) (g n : Nat) (f : Nat → Bool) : Prop := ∃ cur t, w.heap[g]? = some (.cells cur t (0, 0)) ∧ ∀ j, j < n → cur[j]? = some (.bool (f j))
theorem Bo.lt {w : World} {g n : Nat} {f : Nat → Bool} (h : Bo w g n f) : g < w.heap.size := by
  obtain ⟨cur, t, h, _⟩ := h
  exact (Array.getElem?_eq_some_iff.1 h).1
theorem Bo.cell {w : World} {g n : Nat} {f : Nat → Bool} (h : Bo w g n f) (j : Nat) (hj : j < n) : w.cell? ⟨g, j, none⟩ = some (.bool (f j)) := by
  obtain ⟨cur, t, h, hc⟩ := h
  rw [cell_of_row w g j _ _ _ h, hc j hj]
theorem Bo.frozen {w : World} {g n : Nat} {f : Nat → Bool} (h : Bo w g n f) (j : Nat) : w.frozen? ⟨g, j, none⟩ = false := by
  obtain ⟨cur, t, h, _⟩ := h
  exact frozen_of_row w g j _ _ h
def upT (f : Nat → Bool) (i : Nat) (v : Bool) : Nat → Bool := fun j => if j = i then v else f j
theorem Bo.set {w : World} {g n : Nat} {f : Nat → Bool} (h : Bo w g n f) (i : Nat) (v : Bool) : Bo (w.setCell ⟨g, i, none⟩ (.bool v)) g n (upT f i v) := by
  obtain ⟨cur, t, h, hc⟩ := h
  refine ⟨_, t, heap_setCell_same w g i _ _ _ h, fun j hj => ?_⟩
  have hcj := hc j hj
  have hlt : j < cur.size := (Array.getElem?_eq_some_iff.1 hcj).1
  rw [Array.getElem?_setIfInBounds]
  by_cases e : i = j
  · subst e; rw [if_pos rfl, if_pos hlt]; simp [upT]
  · rw [if_neg e, hcj]; simp [upT, Ne.symm e]
theorem Bo.other {w : World} {g n : Nat} {f : Nat → Bool} (h : Bo w g n f) (a : Addr) (v : Value) (hne : g ≠ a.block) : Bo (w.setCell a v) g n f := by
  obtain ⟨cur, t, h, hc⟩ := h
  exact ⟨cur, t, (heap_setCell_other w a g v hne).trans h, hc⟩
theorem Bo.below {w w' : World} {g n : Nat} {f : Nat → Bool} (h : Bo w g n f) (hb : Below w.heap.size w w') : Bo w' g n f := by
  have hl := h.lt
  obtain ⟨cur, t, h, hc⟩ := h
  exact ⟨cur, t, (hb.block g hl).trans h, hc⟩
theorem Bo.congr {w : World} {g n : Nat} {f f' : Nat → Bool} (h : Bo w g n f) (e : ∀ j, j < n → f j = f' j) : Bo w g n f' := by
  obtain ⟨cur, t, h, hc⟩ := h
  exact ⟨cur, t, h, fun j hj => by rw [hc j hj, e j hj]⟩
/-- All but two blocks are as they were. -/
def K2 (B0 g1 g2 : Nat) (w W : World) : Prop := Below B0 w W ∧ ∀ b, b < w.heap.size → b ≠ g1 → b ≠ g2 → W.heap[b]? = w.heap[b]?
theorem K2.refl (B0 g1 g2 : Nat) (w : World) : K2 B0 g1 g2 w w := ⟨Below.refl _ _, fun _ _ _ _ => rfl⟩
theorem K2.trans {B0 g1 g2 : Nat} {a b c : World} (h : K2 B0 g1 g2 a b) (k : K2 B0 g1 g2 b c) : K2 B0 g1 g2 a c := ⟨h.1.trans k.1, fun x hx h1 h2 => (k.2 x (Nat.lt_of_lt_of_le hx h.1.size) h1 h2).trans (h.2 x hx h1 h2)⟩
theorem K2.of {B0 g1 g2 : Nat} {w W : World} (h : Below w.heap.size w W) (hB : B0 ≤ w.heap.size) : K2 B0 g1 g2 w W := ⟨h.mono hB, fun x hx _ _ => h.block x hx⟩
theorem K2.set1 {B0 g1 g2 : Nat} {w W : World} (h : K2 B0 g1 g2 w W) (hB : B0 ≤ g1) (i : Nat) (v : Value) : K2 B0 g1 g2 w (W.setCell ⟨g1, i, none⟩ v) := ⟨h.1.setCell (p := ⟨g1, i, none⟩) hB _, fun x hx h1 h2 => (heap_setCell_other W ⟨g1, i, none⟩ x v h1).trans (h.2 x hx h1 h2)⟩
theorem K2.set2 {B0 g1 g2 : Nat} {w W : World} (h : K2 B0 g1 g2 w W) (hB : B0 ≤ g2) (i : Nat) (v : Value) : K2 B0 g1 g2 w (W.setCell ⟨g2, i, none⟩ v) := ⟨h.1.setCell (p := ⟨g2, i, none⟩) hB _, fun x hx h1 h2 => (heap_setCell_other W ⟨g2, i, none⟩ x v h2).trans (h.2 x hx h1 h2)⟩
/-- The rows of a design, in old memory. -/
def DRowB (B0 : Nat) (w : World) (a : Option Addr) (B : List (List Nat)) : Prop := ∀ (i : Nat) (b : List Nat), B[i]? = some b → ∃ bb off ua uc, a = some ⟨bb, off, none⟩ ∧ ∀ W, Below B0 w W → W.cell? ⟨bb, off + i, none⟩ = some (.slice ua b.length uc) ∧ Sl W (.slice ua b.length uc) (b.map Int.ofNat)
/-- What is marked when the first j points of a block are. -/
def mk1 (D : Nat → Bool) (b : List Nat) (j : Nat) : Nat → Bool := fun x => D x || (b.take j).contains x
theorem mk1_step {D : Nat → Bool} {b : List Nat} {j y : Nat} (h : b[j]? = some y) : upT (mk1 D b j) y true = mk1 D b (j + 1) := by
  funext x
  unfold upT mk1
  rw [List.take_add_one, h]
  by_cases e : x = y
  · subst e; simp
  · simp [e]
theorem mk1_all (D : Nat → Bool) (b : List Nat) : mk1 D b b.length = addD D b := by
  unfold mk1 addD
  rw [List.take_length]
theorem mk1_none (D : Nat → Bool) (b : List Nat) : mk1 D b 0 = D := by
  funext x
  simp [mk1]
def un1 (D : Nat → Bool) (b : List Nat) (j : Nat) : Nat → Bool := fun x => if (b.take j).contains x = true then false else addD D b x
theorem un1_step {D : Nat → Bool} {b : List Nat} {j y : Nat} (h : b[j]? = some y) : upT (un1 D b j) y false = un1 D b (j + 1) := by
  funext x
  unfold upT un1
  rw [List.take_add_one, h]
  by_cases e : x = y
  · subst e; simp
  · simp [e]
theorem un1_all {D : Nat → Bool} {b : List Nat} (hf : fitD D b = true) : un1 D b b.length = D := by
  funext x
  unfold un1 addD
  rw [List.take_length]
  by_cases h : b.contains x = true
  · rw [if_pos h, (fitD_iff.1 hf).2 x (List.contains_iff_mem.1 h)]
  · rw [if_neg h, Bool.eq_false_iff.2 h, Bool.or_false]
theorem un1_none (D : Nat → Bool) (b : List Nat) : un1 D b 0 = addD D b := by
  funext x
  simp [un1]
def undN (v : Nat) (D : Nat → Bool) : Nat := (List.range v).countP fun x => !D x
theorem undN_lt {v x : Nat} {D : Nat → Bool} {b : List Nat} (hx : x < v) (hd : D x = false) (hb : b.contains x = true) : undN v (addD D b) < undN v D := by
  unfold undN addD
  have key : ∀ l : List Nat, l.countP (fun x => !(D x || b.contains x)) ≤ l.countP (fun x => !D x) ∧ (x ∈ l → l.countP (fun x => !(D x || b.contains x)) < l.countP (fun x => !D x)) := by
    intro l
    induction l with
    | nil => exact ⟨Nat.le_refl _, fun h => by simp at h⟩
    | cons y l ih =>
      rw [List.countP_cons, List.countP_cons]
      have e : (if (!(D y || b.contains y)) = true then 1 else 0) ≤ (if (!D y) = true then 1 else 0) := by
        cases D y <;> cases b.contains y <;> decide
      refine ⟨by omega, fun hm => ?_⟩
      rcases List.mem_cons.1 hm with rfl | hm
      · have h1 := ih.1
        rw [hd, hb, if_neg (by decide), if_pos (by decide)]
        omega
      · have := ih.2 hm
        omega
  exact (key _).2 (List.mem_range.2 hx)
end Go.Proofs.YtogdcjlgddleaaaDoor

/- The walk of the document's Together. -/
namespace Go.Proofs.YtogdcjlgddleaaaDoor
open Go.RowKit

theorem mt_take {b c : List Nat} {j : Nat} (hj : j < b.length) : mt (b.take (j + 1)) c = mt (b.take j) c + if c.contains (b.getD j 0) = true then 1 else 0 := by
  unfold mt
  rw [List.take_add_one, List.getElem?_eq_getElem hj, List.countP_append, List.getD_eq_getElem?_getD, List.getElem?_eq_getElem hj]
  simp [List.countP_cons]
end Go.Proofs.YtogdcjlgddleaaaDoor

/- Rows of rows of one's own. -/
/- The walk of the document's MeetsOf. -/
namespace Go.Proofs.YtogdcjlgddleaaaDoor
open Go.RowKit

/-- In how many points two blocks meet. -/
def metB (B : List (List Nat)) (n : Nat) : Bool := (List.range B.length).any fun i => (List.range i).any fun j => mt (B.getD i []) (B.getD j []) == n
theorem metB_iff {B : List (List Nat)} {n : Nat} : metB B n = true ↔ ∃ i j, j < i ∧ i < B.length ∧ mt (B.getD i []) (B.getD j []) = n := by
  unfold metB
  rw [List.any_eq_true]
  constructor
  · rintro ⟨i, hi, h⟩
    rw [List.any_eq_true] at h
    obtain ⟨j, hj, h⟩ := h
    exact ⟨i, j, List.mem_range.1 hj, List.mem_range.1 hi, by simpa using h⟩
  · rintro ⟨i, j, hj, hi, h⟩
    refine ⟨i, List.mem_range.2 hi, ?_⟩
    rw [List.any_eq_true]
    exact ⟨j, List.mem_range.2 hj, by simpa using h⟩
def mtL (v : Nat) (B : List (List Nat)) : List Nat := (List.range (v + 1)).filter (metB B)
def SeenM (B : List (List Nat)) (i j : Nat) (f : Nat → Bool) : Prop := ∀ n, f n = true ↔ ∃ i' j', j' < i' ∧ (i' < i ∨ (i' = i ∧ j' < j)) ∧ mt (B.getD i' []) (B.getD j' []) = n
theorem SeenM.zero (B : List (List Nat)) : SeenM B 0 0 (fun _ => false) := fun n => by
  constructor
  · intro h; cases h
  · rintro ⟨i, j, h1, h2 | h2, _⟩ <;> omega
theorem SeenM.step {B : List (List Nat)} {i j : Nat} {f : Nat → Bool} (h : SeenM B i j f) (hj : j < i) : SeenM B i (j + 1) (upT f (mt (B.getD i []) (B.getD j [])) true) := fun n => by
  unfold upT
  by_cases e : n = mt (B.getD i []) (B.getD j [])
  · rw [if_pos e]
    exact ⟨fun _ => ⟨i, j, hj, .inr ⟨rfl, by omega⟩, e.symm⟩, fun _ => rfl⟩
  · rw [if_neg e, h n]
    constructor
    · rintro ⟨i', j', h1, h2, h3⟩
      exact ⟨i', j', h1, by omega, h3⟩
    · rintro ⟨i', j', h1, h2, h3⟩
      refine ⟨i', j', h1, ?_, h3⟩
      rcases h2 with h2 | ⟨h2, h4⟩
      · exact .inl h2
      · by_cases e2 : j' = j
        · subst h2 e2; exact (e h3.symm).elim
        · exact .inr ⟨h2, by omega⟩
theorem SeenM.row {B : List (List Nat)} {i : Nat} {f : Nat → Bool} (h : SeenM B i i f) : SeenM B (i + 1) 0 f := fun n => by
  rw [h n]
  constructor
  · rintro ⟨i', j', h1, h2, h3⟩
    exact ⟨i', j', h1, by omega, h3⟩
  · rintro ⟨i', j', h1, h2, h3⟩
    exact ⟨i', j', h1, by omega, h3⟩
theorem SeenM.all {B : List (List Nat)} {f : Nat → Bool} (h : SeenM B B.length 0 f) : f = metB B := by
  funext n
  rw [Bool.eq_iff_iff, h n, metB_iff]
  constructor
  · rintro ⟨i', j', h1, h2, h3⟩
    exact ⟨i', j', h1, by omega, h3⟩
  · rintro ⟨i', j', h1, h2, h3⟩
    exact ⟨i', j', h1, by omega, h3⟩
theorem info4 : ∃ i, Tryd.prog.info? 4 = some i ∧ i.zero = some (.bool false) ∧ i.size = 1 ∧ i.bytes = 1 := by
  have h1 : ((Tryd.prog.info? 4).bind fun i => i.zero) = some (.bool false) := by kernel_rfl
  have h2 : ((Tryd.prog.info? 4).map fun i => i.size) = some 1 := by kernel_rfl
  have h3 : ((Tryd.prog.info? 4).map fun i => i.bytes) = some 1 := by kernel_rfl
  cases h : Tryd.prog.info? 4 with
  | none => rw [h] at h2; cases h2
  | some i =>
    rw [h] at h1 h2 h3
    exact ⟨i, rfl, h1, Option.some.inj h2, Option.some.inj h3⟩
theorem bo_new (w : World) (n : Nat) : Bo (w.alloc (.cells (madeCells #[.bool false] n) 4)) w.heap.size n (fun _ => false) := by
  refine ⟨_, 4, heap_alloc_new w _, fun j hj => ?_⟩
  rw [Array.getElem?_eq_getElem (by rw [size_madeCells]; exact hj)]
  simp [madeCells, Nat.mod_one]
theorem own_low {w : World} {b b' n : Nat} {v : Value} {l : List Value} (h : w.ownsRow b 3 1 v n l) (hb : b' ≤ b) : w.ownsRow b' 3 1 v n l := by
  obtain ⟨h0, h | ⟨g, cap, cur, h1, h2, h3⟩⟩ := h
  · exact ⟨h0, .inl h⟩
  · exact ⟨h0, .inr ⟨g, cap, cur, h1, Nat.le_trans hb h2, h3⟩⟩
theorem filter_succ (f : Nat → Bool) (m : Nat) : (List.range (m + 1)).filter f = (List.range m).filter f ++ if f m = true then [m] else [] := by
  rw [List.range_succ, List.filter_append]
  cases h : f m <;> simp [h]
end Go.Proofs.YtogdcjlgddleaaaDoor

namespace Go.Proofs.YtogdcjlgddleaaaDoor
open Go.RowKit

theorem undR : Tryd.prog.underlying 27 = some (.slice 22) := by kernel_rfl
theorem info36 : ∃ i, Tryd.prog.info? 22 = some i ∧ i.zero = some (.slice none 0 0) ∧ i.size = 1 ∧ i.bytes = 24 := by
  have h1 : (Tryd.prog.info? 22).map (·.zero) = some (some (.slice none 0 0)) := by kernel_rfl
  have h2 : (Tryd.prog.info? 22).map (·.size) = some 1 := by kernel_rfl
  have h3 : (Tryd.prog.info? 22).map (·.bytes) = some 24 := by kernel_rfl
  cases h : Tryd.prog.info? 22 with
  | none => rw [h] at h1; cases h1
  | some i =>
    rw [h] at h1 h2 h3
    exact ⟨i, rfl, Option.some.inj h1, Option.some.inj h2, Option.some.inj h3⟩
/-- A row of numbers of one's own. -/
def ORow (w : World) (base : Nat) (u : Value) (l : List Nat) : Prop := w.ownsRow base 3 1 u l.length ((l.map Int.ofNat).map (Value.int .i64))
theorem own_keep {w w' : World} {base n : Nat} {e : TypeId} {v : Value} {xs : List Value} (h : w.ownsRow base e 1 v n xs) (k : ∀ b, base ≤ b → b < w.heap.size → w'.heap[b]? = w.heap[b]?) : w'.ownsRow base e 1 v n xs := by
  obtain ⟨h3, h4 | ⟨g, cap, cur, h5, h6, h7, h8⟩⟩ := h
  · exact ⟨h3, .inl h4⟩
  · exact ⟨h3, .inr ⟨g, cap, cur, h5, h6, (k g h6 (Array.getElem?_eq_some_iff.1 h7).1).trans h7, h8⟩⟩
def OR (w : World) (base : Nat) (v : Value) (ls : List (List Nat)) : Prop :=
  ∃ vals : List Value, w.ownsRow base 22 1 v ls.length vals ∧ ∀ (i : Nat) (u : Value) (l : List Nat), vals[i]? = some u → ls[i]? = some l → ORow w base u l
theorem OR.nil (w : World) (base : Nat) : OR w base (.slice none 0 0) [] := ⟨[], World.ownsRow_nil _ _ _ _, fun i u l h _ => by simp at h⟩
theorem OR.keep {w w' : World} {base : Nat} {v : Value} {ls : List (List Nat)} (h : OR w base v ls) (k : ∀ b, base ≤ b → b < w.heap.size → w'.heap[b]? = w.heap[b]?) : OR w' base v ls := by
  obtain ⟨vals, h1, h2⟩ := h
  exact ⟨vals, own_keep h1 k, fun i u l hu hl => own_keep (h2 i u l hu hl) k⟩
theorem OR.below {w w' : World} {base : Nat} {v : Value} {ls : List (List Nat)} (h : OR w base v ls) (k : Below w.heap.size w w') : OR w' base v ls := h.keep fun b _ hb => k.block b hb
theorem ORow.below {w w' : World} {base : Nat} {u : Value} {l : List Nat} (h : ORow w base u l) (k : Below w.heap.size w w') : ORow w' base u l := own_keep h fun b _ hb => k.block b hb
/-- One row more. -/
theorem OR.more {wa w2 : World} {base : Nat} {v v' u : Value} {ls : List (List Nat)} {l : List Nat} {vals : List Value} (h1 : wa.ownsRow base 22 1 v ls.length vals) (h2 : ∀ (i : Nat) (u : Value) (l : List Nat), vals[i]? = some u → ls[i]? = some l → ORow wa base u l) (hu : ORow wa base u l)
    (hown : w2.ownsRow base 22 1 v' (ls.length + 1) (vals ++ [u])) (hgr : wa.grownBy w2 v.ownBlock) : OR w2 base v' (ls ++ [l]) := by
  have key : ∀ {u l}, ORow wa base u l → ORow w2 base u l := by
    rintro u l ⟨h0, hn | ⟨g, cap, cur, e1, hg, k1, k2⟩⟩
    · exact ⟨h0, .inl hn⟩
    · refine ⟨h0, .inr ⟨g, cap, cur, e1, hg, (hgr.block g (Array.getElem?_eq_some_iff.1 k1).1 (fun e => ?_)).trans k1, k2⟩⟩
      obtain ⟨_, ⟨rfl, _⟩ | ⟨g', cap', cur', rfl, _, hg', _⟩⟩ := h1
      · simp [Value.ownBlock] at e
      · have e2 : g = g' := by simpa [Value.ownBlock] using e
        subst e2
        rw [hg'] at k1
        simp at k1
  have hlen : vals.length = ls.length := by have := h1.1; omega
  refine ⟨vals ++ [u], by rw [List.length_append]; exact hown, fun i u' l' e1 e2 => ?_⟩
  by_cases hi : i < vals.length
  · rw [List.getElem?_append_left hi] at e1
    rw [List.getElem?_append_left (by omega)] at e2
    exact key (h2 i u' l' e1 e2)
  · rw [List.getElem?_append_right (by omega)] at e1
    rw [List.getElem?_append_right (by omega)] at e2
    have h0 : i - vals.length = 0 := by
      rcases Nat.eq_zero_or_pos (i - vals.length) with h | h
      · exact h
      · rw [List.getElem?_eq_none (by simp; omega)] at e1; simp at e1
    rw [h0] at e1
    rw [show i - ls.length = 0 by omega] at e2
    simp at e1 e2
    subst e1 e2
    exact key hu
theorem ORow.sl {w : World} {base : Nat} {u : Value} {l : List Nat} (h : ORow w base u l) : Sl w u (l.map Int.ofNat) := Sl.owned (by rw [List.length_map]; exact h)
/-- It reads as rows of numbers. -/
theorem OR.rw {w : World} {base : Nat} {v : Value} {ls : List (List Nat)} (h : OR w base v ls) : Rw w v (toZ ls) := by
  obtain ⟨vals, h1, h2⟩ := h
  have hz : (toZ ls).length = ls.length := by simp [toZ]
  obtain ⟨h3, ⟨rfl, h4⟩ | ⟨g, cap, cur, rfl, h6, h7, h8, h9, h10, ht⟩⟩ := h1
  · refine ⟨none, 0, by rw [hz, h4], fun i l hl => ?_⟩
    have : toZ ls = [] := List.length_eq_zero_iff.1 (by rw [hz, h4])
    rw [this] at hl; simp at hl
  · refine ⟨_, cap, by rw [hz], fun i l hl => ?_⟩
    obtain ⟨hi, e⟩ := List.getElem?_eq_some_iff.1 hl
    rw [hz] at hi
    have e2 : (cur.toList.take (ls.length * 1))[i]? = vals[i]? := by rw [ht]
    rw [List.getElem?_take, if_pos (by omega)] at e2
    obtain ⟨u, hu⟩ : ∃ u, vals[i]? = some u := ⟨vals[i]'(by omega), by simp⟩
    refine ⟨g, 0, u, rfl, ?_, ?_⟩
    · rw [cell_of_row w g _ _ _ _ h7, Nat.zero_add, ← Array.getElem?_toList, e2, hu]
    · have := (h2 i u ls[i] hu (List.getElem?_eq_getElem hi)).sl
      rw [← e]
      simpa [toZ] using this
theorem OR.cap {w : World} {base : Nat} {v : Value} {ls : List (List Nat)} (h : OR w base v ls) : ∃ a c, v = .slice a ls.length c := by
  obtain ⟨a, c, e, _⟩ := h.rw
  exact ⟨a, c, by rw [e]; simp [toZ]⟩
end Go.Proofs.YtogdcjlgddleaaaDoor

namespace Go.Proofs.YtogdcjlgddleaaaDoor
open Go.RowKit

/-- The three boxes: the design, the answer, what is built. -/
structure BoxS (s v p : Nat) (dv ov : Value) (W : World) : Prop where
  d : W.heap[s]? = some (.cells #[.int .i64 (v : Int), dv] 29 (0, 0))
  r : W.heap[s + 1]? = some (.cells #[.int .i64 0, .slice none 0 0] 29 (0, 0))
  o : W.heap[s + 2]? = some (.cells #[.int .i64 (p : Int), ov] 29 (0, 0))
theorem BoxS.lt {s v p : Nat} {dv ov : Value} {W : World} (h : BoxS s v p dv ov W) : s + 3 ≤ W.heap.size := by
  have := (Array.getElem?_eq_some_iff.1 h.o).1
  omega
theorem BoxS.low {s v p : Nat} {dv ov : Value} {W W' : World} (h : BoxS s v p dv ov W) (b : Below (s + 3) W W') : BoxS s v p dv ov W' :=
  ⟨(b.block s (by omega)).trans h.d, (b.block (s + 1) (by omega)).trans h.r, (b.block (s + 2) (by omega)).trans h.o⟩
theorem BoxS.cells {s v p : Nat} {dv ov : Value} {W : World} (h : BoxS s v p dv ov W) : W.cell? ⟨s, 0, none⟩ = some (.int .i64 (v : Int)) ∧ W.cell? ⟨s, 1, none⟩ = some dv ∧ W.cell? ⟨s + 1 + 1, 0, none⟩ = some (.int .i64 (p : Int)) ∧ W.cell? ⟨s + 1 + 1, 1, none⟩ = some ov :=
  ⟨by rw [cell_of_row _ _ _ _ _ _ h.d]; rfl, by rw [cell_of_row _ _ _ _ _ _ h.d]; rfl, by rw [cell_of_row _ _ _ _ _ _ h.o]; rfl, by rw [cell_of_row _ _ _ _ _ _ h.o]; rfl⟩
theorem BoxS.put {s v p : Nat} {dv ov : Value} {W : World} (h : BoxS s v p dv ov W) (nv : Value) : BoxS s v p dv nv (W.setCell ⟨s + 1 + 1, 1, none⟩ nv) :=
  ⟨(heap_setCell_other W ⟨s + 2, 1, none⟩ s nv (by show s ≠ s + 2; omega)).trans h.d, (heap_setCell_other W ⟨s + 2, 1, none⟩ (s + 1) nv (by show s + 1 ≠ s + 2; omega)).trans h.r, heap_setCell_same W (s + 2) 1 _ _ nv h.o⟩
theorem BoxS.start (w : World) (v p : Nat) (dv : Value) : BoxS w.heap.size v p dv (.slice none 0 0) (((w.alloc (.cells #[.int .i64 (v : Int), dv] 29)).alloc (.cells #[.int .i64 0, .slice none 0 0] 29)).alloc (.cells #[.int .i64 (p : Int), .slice none 0 0] 29)) := by
  refine ⟨?_, ?_, ?_⟩
  · exact ((balloc _ _).block _ (by simp; omega)).trans (((balloc _ _).block _ (by simp)).trans (heap_alloc_new w _))
  · have := heap_alloc_new (w.alloc (.cells #[.int .i64 (v : Int), dv] 29)) (.cells #[.int .i64 0, .slice none 0 0] 29)
    rw [show (w.alloc (.cells #[.int .i64 (v : Int), dv] 29)).heap.size = w.heap.size + 1 by simp] at this
    exact ((balloc _ _).block _ (by simp)).trans this
  · have := heap_alloc_new ((w.alloc (.cells #[.int .i64 (v : Int), dv] 29)).alloc (.cells #[.int .i64 0, .slice none 0 0] 29)) (.cells #[.int .i64 (p : Int), .slice none 0 0] 29)
    rw [show ((w.alloc (.cells #[.int .i64 (v : Int), dv] 29)).alloc (.cells #[.int .i64 0, .slice none 0 0] 29)).heap.size = w.heap.size + 2 by simp] at this
    exact this
theorem oth_succ (x : Nat) (b : List Nat) : oth (x + 1) b = oth x b ++ if b.contains x = true then [] else [x] := by
  unfold oth
  rw [filter_succ]
  cases b.contains x <;> rfl
theorem take_map_succ {B : List (List Nat)} (f : List Nat → List Nat) {i : Nat} {b : List Nat} (h : B[i]? = some b) : (B.take (i + 1)).map f = (B.take i).map f ++ [f b] := by
  rw [List.take_add_one, h, List.map_append]; rfl
theorem inf24 : (Tryd.prog.info? 29).map (·.size) = some 2 := by kernel_rfl
theorem own_form {w : World} {base n : Nat} {e : TypeId} {v : Value} {xs : List Value} (h : w.ownsRow base e 1 v n xs) : ∃ a c, v = .slice a n c := by
  obtain ⟨_, ⟨rfl, rfl⟩ | ⟨g, cap, cur, rfl, _⟩⟩ := h
  · exact ⟨_, _, rfl⟩
  · exact ⟨_, _, rfl⟩
theorem post_d {fn : Func} {R : Ending → World → Prop} {a : Act} {w : World} {g : Nat} {x y : Value} (slot : Tmp) (hres : fn.results = #[.cell slot 29]) (hp : a.tmps.getD slot undef = .pointer (some ⟨g, 0, none⟩)) (hr : w.heap[g]? = some (.cells #[x, y] 29 (0, 0))) (hd : a.defers = []) (hR : R (.returned (.agg #[x, y])) w) : bodyPost Tryd.prog fn R .ret a w :=
  bodyPost_ret (results_cell_row hres a.tmps w g 29 #[x, y] (0, 0) _ hp hr Tryd.underlying29 rfl inf24) hd hR
end Go.Proofs.YtogdcjlgddleaaaDoor
