/- Slices of moves that are read. -/
import Derived.Test.YtgpkhfpejopacabGreatDoorZGB
import Derived.Deep.MidRow
import Derived.Laws.MakeOwn
namespace Go.Proofs.YtgpkhfpejopacabGreatDoor.Gc
open Go.RowKit

/-- A move's cells. -/
def mvL (x : List Nat) : List Value := (List.range 7).map fun j => Value.int .i64 (x.getD j 0 : Int)
@[simp] theorem mvL_len (x : List Nat) : (mvL x).length = 7 := by simp [mvL]
theorem mv_eq (x : List Nat) : mv x = .agg (mvL x).toArray := rfl
theorem mvL_one (x : List Nat) : ∀ v ∈ mvL x, v.oneCell' = true := by
  intro v hv
  obtain ⟨j, _, rfl⟩ := List.mem_map.1 hv
  rfl
set_option maxRecDepth 100000 in
theorem inf62L (x : List Nat) : (Tryz.prog.info? 95).map (·.size) = some (mvL x).length := by rw [mvL_len]; kernel_rfl
set_option maxRecDepth 100000 in
theorem und58 : Tryz.prog.underlying 85 = some (.slice 95) := by kernel_rfl
set_option maxRecDepth 100000 in
theorem info62 : ∃ i, Tryz.prog.info? 95 = some i ∧ i.zero = some (.agg (mrow fun _ => 0)) ∧ i.size = 7 ∧ i.bytes = 56 := by
  have h1 : (Tryz.prog.info? 95).map (·.zero) = some (some (.agg (mrow fun _ => 0))) := by kernel_rfl
  have h2 : (Tryz.prog.info? 95).map (·.size) = some 7 := by kernel_rfl
  have h3 : (Tryz.prog.info? 95).map (·.bytes) = some 56 := by kernel_rfl
  cases h : Tryz.prog.info? 95 with
  | none => rw [h] at h1; cases h1
  | some i =>
    rw [h] at h1 h2 h3
    exact ⟨i, rfl, Option.some.inj h1, Option.some.inj h2, Option.some.inj h3⟩
/-- Cells below a mark stay. -/
theorem range_below {w w' : World} {B b o : Nat} {cs : List Value} (h : w.rangeAt b o cs) (hb : Below B w w') (hB : b < B) : w'.rangeAt b o cs := fun j v hv => (hb.cell (p := ⟨b, o + j, none⟩) hB).trans (h j v hv)
theorem there_below {w w' : World} {B b o n : Nat} (h : w.there b o n) (hb : Below B w w') (hB : b < B) : w'.there b o n := fun j hj => by
  rw [hb.cell (p := ⟨b, o + j, none⟩) hB, hb.frozen (p := ⟨b, o + j, none⟩) hB]; exact h j hj
theorem bsets {B M : Nat} (h : B ≤ M) : ∀ (vs : List Value) (o : Nat) (w : World), Below B w (w.setCells M o vs)
  | [], _, w => Below.refl B w
  | v :: vs, o, w => ((Below.refl B w).setCell (p := ⟨M, o, none⟩) h v).trans (bsets h vs (o + 1) _)
theorem sets_size (M : Nat) : ∀ (vs : List Value) (o : Nat) (w : World), (w.setCells M o vs).heap.size = w.heap.size
  | [], _, _ => rfl
  | v :: vs, o, w => by rw [World.setCells, sets_size M vs (o + 1)]; simp

/-- A slice that reads as moves. -/
def Mvs (w : World) (v : Value) (xs : List (List Nat)) : Prop :=
  ∃ a cap, v = .slice a xs.length cap ∧ ∀ (i : Nat) (x : List Nat), xs[i]? = some x → ∃ b off, a = some ⟨b, off, none⟩ ∧ b < w.heap.size ∧ w.rangeAt b (off + i * 7) (mvL x)
theorem Mvs.below {w w' : World} {v : Value} {xs : List (List Nat)} (h : Mvs w v xs) (hb : Below w.heap.size w w') : Mvs w' v xs := by
  obtain ⟨a, cap, rfl, h⟩ := h
  refine ⟨a, cap, rfl, fun i x hx => ?_⟩
  obtain ⟨b, off, e, h1, h2⟩ := h i x hx
  exact ⟨b, off, e, Nat.lt_of_lt_of_le h1 hb.size, range_below h2 hb h1⟩
theorem Mvs.at {w : World} {a : Option Addr} {n c : Nat} {xs : List (List Nat)} (h : Mvs w (.slice a n c) xs) {i : Nat} {x : List Nat} (hx : xs[i]? = some x) : ∃ b off, a = some ⟨b, off, none⟩ ∧ b < w.heap.size ∧ w.rangeAt b (off + i * 7) (mvL x) := by
  obtain ⟨a', cap, e, h'⟩ := h
  cases e
  exact h' i x hx
theorem Mvs.form {w : World} {v : Value} {xs : List (List Nat)} (h : Mvs w v xs) : ∃ a cap, v = .slice a xs.length cap := by
  obtain ⟨a, cap, e, _⟩ := h
  exact ⟨a, cap, e⟩
/-- A row of moves, laid anew. -/
theorem made_there (w : World) (k : Nat) (e : TypeId) : (w.alloc (.cells (madeCells (mrow fun _ => 0) (k * 7)) e)).there w.heap.size 0 (k * 7) := by
  intro j hj
  rw [Nat.zero_add]
  rw [cell_of_row _ _ j _ _ _ (heap_alloc_new w _), frozen_of_row _ _ j _ _ (heap_alloc_new w _)]
  refine ⟨?_, rfl⟩
  rw [Array.getElem?_eq_getElem (by rw [size_madeCells]; exact hj)]
  rfl
theorem there_sub {w : World} {b n i : Nat} (h : w.there b 0 (n * 7)) (hi : i < n) : w.there b (0 + i * 7) 7 := fun j hj => by
  have := h (i * 7 + j) (by omega)
  rw [Nat.zero_add] at this ⊢
  exact this

/-- A load of a row at a step of a region that draws. -/
theorem step_load_mid {P : Program} {ops : Array Oper} {op : Oper} {a : Act} {w : World} {K : Act → World → Prop} {Q : Exit → Act → World → Prop} {E : Prop} (hgd : op.guard = none) (ty : TypeId) (x : Operand) (ho : op.op = .load ty x)
    (b o : Nat) (hx : a.eval x = .pointer (some ⟨b, o, none⟩)) (cs : List Value) (d : TypeDesc) (hc : w.rangeAt b o cs)
    (hu : P.underlying ty = some d) (hd : d.isRow = true) (hi : (P.info? ty).map (·.size) = some cs.length)
    (h : K (a.put op.dst (.agg cs.toArray)) w) : if Region.wanted op (yielded ops a.tmps) = true then Oper.wp P op a w K Q else E := by
  have hw : Region.wanted op (yielded ops a.tmps) = true := by simp [Region.wanted, hgd]
  rw [if_pos hw]
  exact wp_load_mid ty x ho b o hx cs d hc hu hd hi h

end Go.Proofs.YtgpkhfpejopacabGreatDoor.Gc
