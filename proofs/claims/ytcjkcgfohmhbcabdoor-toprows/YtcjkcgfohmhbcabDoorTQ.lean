/- What TopRows needs of chapter 20's texts: all that walks nothing. -/
import Derived.Test.YtcjkcgfohmhbcabDoorPBase
import Derived.Test.YtcjkcgfohmhbcabDoorP14
import Derived.Test.YtcjkcgfohmhbcabDoorWdB
import Derived.Laws.MakeOwn
namespace Go.Proofs.YtcjkcgfohmhbcabDoor
open Go.RowKit

set_option maxRecDepth 100000

theorem nat_at (s : List Nat) (a : Nat) : (s.map Int.ofNat).getD a 0 = ((s.getD a 0 : Nat) : Int) := by
  rw [List.getD_eq_getElem?_getD, List.getD_eq_getElem?_getD, List.getElem?_map]
  cases s[a]? <;> rfl
/-- A word as it lies, with room. -/
def Wd (w : World) (v : Value) (M : List Nat) : Prop := ∃ (a : Option Addr) (c : Nat), v = .slice a M.length c ∧ M.length ≤ c ∧ ∀ j, j < M.length → ∃ b o, a = some ⟨b, o, none⟩ ∧ w.cell? ⟨b, o + j, none⟩ = some (.int .i64 ((M.getD j 0 : Nat) : Int))
theorem Wd.below {w w' : World} {v : Value} {M : List Nat} (h : Wd w v M) (hb : Below w.heap.size w w') : Wd w' v M := by
  obtain ⟨a, c, e, h0, h⟩ := h
  refine ⟨a, c, e, h0, fun j hj => ?_⟩
  obtain ⟨b, o, e1, e2⟩ := h j hj
  exact ⟨b, o, e1, (hb.cell (World.block_lt_of_cell? _ _ e2)).trans e2⟩
theorem Wd.sl {w : World} {v : Value} {M : List Nat} (h : Wd w v M) : Sl w v (M.map Int.ofNat) := by
  obtain ⟨a, c, e, _, h⟩ := h
  refine ⟨a, c, by rw [List.length_map]; exact e, fun j hj => ?_⟩
  obtain ⟨b, o, e1, e2⟩ := h j (by simpa using hj)
  exact ⟨b, o, e1, by rw [nat_at]; exact e2⟩

theorem own_formT {w : World} {base n : Nat} {e : TypeId} {v : Value} {xs : List Value} (h : w.ownsRow base e 1 v n xs) : ∃ a c, v = .slice a n c := by
  obtain ⟨_, ⟨rfl, rfl⟩ | ⟨g, cap, cur, rfl, _⟩⟩ := h
  · exact ⟨_, _, rfl⟩
  · exact ⟨_, _, rfl⟩
/-- The numbers of a row of one's own. -/
def nz (l : List Nat) : List Value := (l.map Int.ofNat).map (Value.int .i64)
def bfE (k n : Int) : Nat := if k < 1 ∨ 10 < k ∨ n < 1 then 1 else if 12 < n ∨ 4096 < k.toNat ^ n.toNat then 3 else 0

def updV {T : Type} (f : Nat → T) (i : Nat) (v : T) : Nat → T := fun j => if j = i then v else f j
/-- Block g is a row of one's own whose first n values are f's. -/
def OwV {T : Type} (t : TypeId) (en : T → Value) (w : World) (g n : Nat) (f : Nat → T) : Prop := ∃ cur, w.heap[g]? = some (.cells cur t (0, 0)) ∧ ∀ j, j < n → cur[j]? = some (en (f j))
theorem OwV.lt {T : Type} {t : TypeId} {en : T → Value} {w : World} {g n : Nat} {f : Nat → T} (h : OwV t en w g n f) : g < w.heap.size := by
  obtain ⟨cur, h, _⟩ := h
  exact (Array.getElem?_eq_some_iff.1 h).1
theorem OwV.cell {T : Type} {t : TypeId} {en : T → Value} {w : World} {g n : Nat} {f : Nat → T} (h : OwV t en w g n f) (j : Nat) (hj : j < n) : w.cell? ⟨g, j, none⟩ = some (en (f j)) := by
  obtain ⟨cur, h, hc⟩ := h
  rw [cell_of_row w g j _ _ _ h, hc j hj]
theorem OwV.frozen {T : Type} {t : TypeId} {en : T → Value} {w : World} {g n : Nat} {f : Nat → T} (h : OwV t en w g n f) (j : Nat) : w.frozen? ⟨g, j, none⟩ = false := by
  obtain ⟨cur, h, _⟩ := h
  exact frozen_of_row w g j _ _ h
theorem OwV.set {T : Type} {t : TypeId} {en : T → Value} {w : World} {g n : Nat} {f : Nat → T} (h : OwV t en w g n f) (i : Nat) (v : T) : OwV t en (w.setCell ⟨g, i, none⟩ (en v)) g n (updV f i v) := by
  obtain ⟨cur, h, hc⟩ := h
  refine ⟨_, heap_setCell_same w g i _ _ _ h, fun j hj => ?_⟩
  have hcj := hc j hj
  have hlt : j < cur.size := (Array.getElem?_eq_some_iff.1 hcj).1
  rw [Array.getElem?_setIfInBounds]
  by_cases e : i = j
  · subst e; rw [if_pos rfl, if_pos hlt]; simp [updV]
  · rw [if_neg e, hcj]; simp [updV, Ne.symm e]
theorem OwV.below {T : Type} {t : TypeId} {en : T → Value} {w w' : World} {g n : Nat} {f : Nat → T} (h : OwV t en w g n f) (hb : Below w.heap.size w w') : OwV t en w' g n f := by
  have hl := h.lt
  obtain ⟨cur, h, hc⟩ := h
  exact ⟨cur, (hb.block g hl).trans h, hc⟩
theorem OwV.congr {T : Type} {t : TypeId} {en : T → Value} {w : World} {g n : Nat} {f f' : Nat → T} (h : OwV t en w g n f) (e : ∀ j, j < n → f j = f' j) : OwV t en w g n f' := by
  obtain ⟨cur, h, hc⟩ := h
  exact ⟨cur, h, fun j hj => by rw [hc j hj, e j hj]⟩
theorem OwV.other {T : Type} {t : TypeId} {en : T → Value} {w : World} {g n : Nat} {f : Nat → T} (h : OwV t en w g n f) (a : Addr) (v : Value) (hne : g ≠ a.block) : OwV t en (w.setCell a v) g n f := by
  obtain ⟨cur, h, hc⟩ := h
  exact ⟨cur, (heap_setCell_other w a g v hne).trans h, hc⟩
theorem OwV.made {T : Type} {t : TypeId} {en : T → Value} (n : Nat) (w : World) (f : Nat → T) (z : Value) (hz : ∀ {j}, z = en (f j)) : OwV t en (w.alloc (.cells (madeCells #[z] n) t)) w.heap.size n f :=
  ⟨_, heap_alloc_new w _, fun j hj => by simp only [madeCells, Array.getElem?_map, Array.getElem?_range, hj, if_true, Option.map_some]; rw [← hz]; simp [Nat.mod_one]⟩
theorem OwV.low {T : Type} {t : TypeId} {en : T → Value} {w w' : World} {B g n : Nat} {f : Nat → T} (h : OwV t en w g n f) (hb : Below B w w') (hg : g < B) : OwV t en w' g n f := by
  obtain ⟨cur, h, hc⟩ := h
  exact ⟨cur, (hb.block g hg).trans h, hc⟩
theorem und44 : Tryd.prog.underlying 30 = some (.slice 4) := by kernel_rfl
theorem info4T : ∃ i, Tryd.prog.info? 4 = some i ∧ i.zero = some (.bool false) ∧ i.size = 1 ∧ i.bytes = 1 := by
  refine ⟨_, rfl, ?_, ?_, ?_⟩ <;> kernel_rfl
theorem run_makeB (n : Nat) (hn : n ≤ 100000) (w : World) : (Instr.makeSlice 30 (.int .i64 (n : Int)) (.int .i64 (n : Int))).run Tryd.prog w = .ok (.slice (some ⟨w.heap.size, 0, none⟩) n n) (w.alloc (.cells (madeCells #[.bool false] n) 4)) := by
  obtain ⟨i4, hi, hz0, hz1, hz2⟩ := info4T
  have h := run_make (P := Tryd.prog) w 30 4 i4 (.bool false) und44 hi hz0 .i64 .i64 n n (by omega) (by omega) (by rw [hz2]; omega) (by omega)
  simpa [hz1, Value.cells] using h
theorem Wd.form {w : World} {v : Value} {M : List Nat} (h : Wd w v M) : ∃ a m c, v = .slice a m c := by
  obtain ⟨a, c, e, _⟩ := h
  exact ⟨a, _, c, e⟩
theorem Wd.len {w : World} {v : Value} {M : List Nat} (h : Wd w v M) {m : Nat} (e : M.length = m) : ∃ a c, v = .slice a m c := by
  obtain ⟨a, c, rfl, _⟩ := h
  exact ⟨a, c, by rw [e]⟩
def bjN (k n : Nat) : List Nat := bru k (k ^ n) (k ^ n) (k ^ n - 1) 0
def bjZ (k n : Int) : List Nat := if bfE k n = 0 then bjN k.toNat n.toNat else []
def FBruijn : Prop := ∀ (k n : Int) (w : World), Calls Tryd.prog 7 #[.int .i64 k, .int .i64 n] w fun e w' => (∃ y, e = .returned (.tuple #[y, .int .i64 (bfE k n : Int)]) ∧ Wd w' y (bjZ k n)) ∧ Below w.heap.size w w'
theorem bjN_len {a b : Nat} (h1 : 1 ≤ a) (h2 : a ≤ 10) (h3 : 1 ≤ b) (h4 : b ≤ 12) (h5 : a ^ b ≤ 4096) : (bjN a b).length = a ^ b := (bru_good a (a ^ b) (a ^ b) (a ^ b - 1) 0 (chB_at h1 h2 h3 h4 h5)).1
end Go.Proofs.YtcjkcgfohmhbcabDoor
