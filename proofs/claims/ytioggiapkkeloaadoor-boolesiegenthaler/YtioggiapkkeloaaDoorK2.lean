/- Rows of one's own, of any kind of values. -/
import Derived.Test.YtioggiapkkeloaaDoorK1
namespace Go.Proofs.YtioggiapkkeloaaDoor
open Go.RowKit

def updV {T : Type} (f : Nat → T) (i : Nat) (v : T) : Nat → T := fun j => if j = i then v else f j
/-- Block g is a row of one's own whose first n values are f's. -/
def OwV {T : Type} (t : TypeId) (en : T → Value) (w : World) (g n : Nat) (f : Nat → T) : Prop := ∃ cur, w.heap[g]? = some (.cells cur t (0, 0)) ∧ ∀ j, j < n → cur[j]? = some (en (f j))
theorem OwV.lt {T : Type} {t : TypeId} {en : T → Value} {w : World} {g n : Nat} {f : Nat → T} (h : OwV t en w g n f) : g < w.heap.size := by
  obtain ⟨cur, h, _⟩ := h
  exact (Array.getElem?_eq_some_iff.1 h).1
theorem OwV.cell {T : Type} {t : TypeId} {en : T → Value} {w : World} {g n : Nat} {f : Nat → T} (h : OwV t en w g n f) (j : Nat) (hj : j < n) : w.cell? ⟨g, j, none⟩ = some (en (f j)) := by
  obtain ⟨cur, h, hc⟩ := h
  rw [cell_of_row w g j _ _ _ h, hc j hj]
theorem OwV.frozen {T : Type} {t : TypeId} {en : T → Value} {w : World} {g n : Nat} {f : Nat → T} (h : OwV t en w g n f) (j : Nat) : w.frozen? ⟨g, j, none⟩ = false := by
  obtain ⟨cur, h, _⟩ := h
  exact frozen_of_row w g j _ _ h
theorem OwV.set {T : Type} {t : TypeId} {en : T → Value} {w : World} {g n : Nat} {f : Nat → T} (h : OwV t en w g n f) (i : Nat) (v : T) : OwV t en (w.setCell ⟨g, i, none⟩ (en v)) g n (updV f i v) := by
  obtain ⟨cur, h, hc⟩ := h
  refine ⟨_, heap_setCell_same w g i _ _ _ h, fun j hj => ?_⟩
  have hcj := hc j hj
  have hlt : j < cur.size := (Array.getElem?_eq_some_iff.1 hcj).1
  rw [Array.getElem?_setIfInBounds]
  by_cases e : i = j
  · subst e; rw [if_pos rfl, if_pos hlt]; simp [updV]
  · rw [if_neg e, hcj]; simp [updV, Ne.symm e]
theorem OwV.below {T : Type} {t : TypeId} {en : T → Value} {w w' : World} {g n : Nat} {f : Nat → T} (h : OwV t en w g n f) (hb : Below w.heap.size w w') : OwV t en w' g n f := by
  have hl := h.lt
  obtain ⟨cur, h, hc⟩ := h
  exact ⟨cur, (hb.block g hl).trans h, hc⟩
theorem OwV.congr {T : Type} {t : TypeId} {en : T → Value} {w : World} {g n : Nat} {f f' : Nat → T} (h : OwV t en w g n f) (e : ∀ j, j < n → f j = f' j) : OwV t en w g n f' := by
  obtain ⟨cur, h, hc⟩ := h
  exact ⟨cur, h, fun j hj => by rw [hc j hj, e j hj]⟩
theorem OwV.other {T : Type} {t : TypeId} {en : T → Value} {w : World} {g n : Nat} {f : Nat → T} (h : OwV t en w g n f) (a : Addr) (v : Value) (hne : g ≠ a.block) : OwV t en (w.setCell a v) g n f := by
  obtain ⟨cur, h, hc⟩ := h
  exact ⟨cur, (heap_setCell_other w a g v hne).trans h, hc⟩
theorem OwV.sl {w : World} {g n : Nat} {f : Nat → Int} (h : OwV 3 (fun b => .int .i64 b) w g n f) (cap : Nat) : Sl w (.slice (some ⟨g, 0, none⟩) n cap) ((List.range n).map f) := Own.sl h cap
theorem OwV.made {T : Type} {t : TypeId} {en : T → Value} (n : Nat) (w : World) (f : Nat → T) (z : Value) (hz : ∀ {j}, z = en (f j)) : OwV t en (w.alloc (.cells (madeCells #[z] n) t)) w.heap.size n f :=
  ⟨_, heap_alloc_new w _, fun j hj => by simp only [madeCells, Array.getElem?_map, Array.getElem?_range, hj, if_true, Option.map_some]; rw [← hz]; simp [Nat.mod_one]⟩
theorem OwV.cellset {T : Type} {t : TypeId} {en : T → Value} {w : World} {g n : Nat} {f : Nat → T} (h : OwV t en w g n f) (i u : Nat) (v : T) (_hne : i ≠ u) (hu : u < n) : ∃ x, ((w.drew.setCell ⟨g, i, none⟩ (en v)).cell? ⟨g, u, none⟩ = some (en x)) := ⟨_, (OwV.set (w := w.drew) h i v).cell u hu⟩
theorem orS {a b : Nat} (ha : a < 1000) (hb : b < 1000) : bits .or .i64 (a : Int) (b : Int) = ((a ||| b : Nat) : Int) := by
  have hx : a ||| b < 2 ^ 10 := Nat.or_lt_two_pow (by omega) (by omega)
  have h1 : (BitVec.ofInt (8 * 8) (a : Int)).toNat = a := by
    rw [BitVec.ofInt_natCast, BitVec.toNat_ofNat]; exact Nat.mod_eq_of_lt (by omega)
  have h2 : (BitVec.ofInt (8 * 8) (b : Int)).toNat = b := by
    rw [BitVec.ofInt_natCast, BitVec.toNat_ofNat]; exact Nat.mod_eq_of_lt (by omega)
  show IntKind.i64.wrap ((BitVec.ofInt (8 * 8) (a : Int) ||| BitVec.ofInt (8 * 8) (b : Int)).toNat : Int) = _
  rw [BitVec.toNat_or, h1, h2, IntKind.wrap_i64]
  omega
end Go.Proofs.YtioggiapkkeloaaDoor
