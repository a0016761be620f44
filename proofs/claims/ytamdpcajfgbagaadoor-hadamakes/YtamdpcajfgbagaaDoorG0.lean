/- Rows of numbers in blocks of their own; two squares in boxes. -/
import Derived.Test.YtamdpcajfgbagaaDoorH5
namespace Go.Proofs.YtamdpcajfgbagaaDoor
open Go.RowKit

theorem own_ne24 {w : World} {g n b : Nat} {f : Nat → Int} {cs : Array Value} (h : Own w g n f) (hb : w.heap[b]? = some (.cells cs 24 (0, 0))) : g ≠ b := by
  rintro rfl
  obtain ⟨cur, h, _⟩ := h
  rw [hb] at h
  simp at h
/-- Nothing, or a block of numbers. -/
def OwnS (w : World) (y : Value) (l : List Int) : Prop := (y = .slice none 0 0 ∧ l = []) ∨ ∃ g cap, y = .slice (some ⟨g, 0, none⟩) l.length cap ∧ Own w g l.length (fun j => l.getD j 0)
theorem OwnS.nil (w : World) : OwnS w (.slice none 0 0) [] := .inl ⟨rfl, rfl⟩
theorem OwnS.of {w : World} {base : Nat} {y : Value} {l : List Int} (h : w.ownsRow base 3 1 y l.length (vi l)) : OwnS w y l := by
  obtain ⟨_, ⟨rfl, hn⟩ | ⟨g, cap, cur, rfl, _, hg, _, _, _, ht⟩⟩ := h
  · exact .inl ⟨rfl, List.length_eq_zero_iff.1 hn⟩
  · refine .inr ⟨g, cap, rfl, cur, hg, fun j hj => ?_⟩
    have h2 : (cur.toList.take (l.length * 1))[j]? = (vi l)[j]? := by rw [ht]
    rw [List.getElem?_take, if_pos (by omega)] at h2
    rw [← Array.getElem?_toList, h2]
    simp [vi, hj]
theorem OwnS.fl {w : World} {base n : Nat} {t : Nat → Nat → Int} {y : Value} (h : w.ownsRow base 3 1 y (n * n) (vi (flI n t (n * n)))) : OwnS w y (flI n t (n * n)) := OwnS.of (base := base) (by rw [flI_len]; exact h)
theorem OwnS.sl {w : World} {y : Value} {l : List Int} (h : OwnS w y l) : Sl w y l := by
  rcases h with ⟨rfl, rfl⟩ | ⟨g, cap, rfl, h⟩
  · exact Sl.nil w
  · exact ⟨_, cap, rfl, fun j hj => ⟨g, 0, rfl, by rw [Nat.zero_add]; exact h.cell j hj⟩⟩
theorem OwnS.below {w w' : World} {y : Value} {l : List Int} (h : OwnS w y l) (hb : Below w.heap.size w w') : OwnS w' y l := by
  rcases h with h | ⟨g, cap, e, h⟩
  · exact .inl h
  · exact .inr ⟨g, cap, e, h.below hb⟩
theorem OwnS.slice {w : World} {y : Value} {l : List Int} (h : OwnS w y l) : ∃ a n c, y = .slice a n c := by
  rcases h with ⟨rfl, _⟩ | ⟨g, cap, rfl, _⟩
  · exact ⟨_, _, _, rfl⟩
  · exact ⟨_, _, _, rfl⟩
theorem OwnS.put {w : World} {y u v : Value} {l : List Int} {b : Nat} {cs : Array Value} (h : OwnS w y l) (hb : w.heap[b]? = some (.cells cs 24 (0, 0))) : OwnS ((w.setCell ⟨b, 0, none⟩ u).setCell ⟨b, 1, none⟩ v) y l := by
  rcases h with h | ⟨g, cap, e, h⟩
  · exact .inl h
  · exact .inr ⟨g, cap, e, (h.other ⟨b, 0, none⟩ u (own_ne24 h hb)).other ⟨b, 1, none⟩ v (own_ne24 h hb)⟩
/-- Two squares in boxes. -/
structure Sq2 (V X : World) (qa ra : Nat) (n : Int) (y : Value) (m : Int) (z : Value) : Prop where
  j : Below V.heap.size V X
  q : X.heap[qa]? = some (.cells #[.int .i64 n, y] 24 (0, 0))
  r : X.heap[ra]? = some (.cells #[.int .i64 m, z] 24 (0, 0))
  lq : V.heap.size ≤ qa
  lr : V.heap.size ≤ ra
  ne : qa ≠ ra
section
variable {V X : World} {qa ra : Nat} {n m : Int} {y z : Value}
theorem Sq2.below (h : Sq2 V X qa ra n y m z) {X' : World} (b : Below X.heap.size X X') : Sq2 V X' qa ra n y m z :=
  ⟨Below.next h.j b, (b.block qa (Array.getElem?_eq_some_iff.1 h.q).1).trans h.q, (b.block ra (Array.getElem?_eq_some_iff.1 h.r).1).trans h.r, h.lq, h.lr, h.ne⟩
theorem Sq2.put1 (h : Sq2 V X qa ra n y m z) (n' : Int) (y' : Value) : Sq2 V ((X.setCell ⟨qa, 0, none⟩ (.int .i64 n')).setCell ⟨qa, 1, none⟩ y') qa ra n' y' m z :=
  ⟨(h.j.setCell (p := ⟨qa, 0, none⟩) h.lq _).setCell (p := ⟨qa, 1, none⟩) h.lq _, heap_setCell_same _ qa 1 _ _ _ (heap_setCell_same X qa 0 _ _ _ h.q), (heap_setCell_other _ ⟨qa, 1, none⟩ ra _ (Ne.symm h.ne)).trans ((heap_setCell_other X ⟨qa, 0, none⟩ ra _ (Ne.symm h.ne)).trans h.r), h.lq, h.lr, h.ne⟩
theorem Sq2.put2 (h : Sq2 V X qa ra n y m z) (m' : Int) (z' : Value) : Sq2 V ((X.setCell ⟨ra, 0, none⟩ (.int .i64 m')).setCell ⟨ra, 1, none⟩ z') qa ra n y m' z' :=
  ⟨(h.j.setCell (p := ⟨ra, 0, none⟩) h.lr _).setCell (p := ⟨ra, 1, none⟩) h.lr _, (heap_setCell_other _ ⟨ra, 1, none⟩ qa _ h.ne).trans ((heap_setCell_other X ⟨ra, 0, none⟩ qa _ h.ne).trans h.q), heap_setCell_same _ ra 1 _ _ _ (heap_setCell_same X ra 0 _ _ _ h.r), h.lq, h.lr, h.ne⟩
theorem Sq2.cells (h : Sq2 V X qa ra n y m z) : (X.cell? ⟨qa, 0, none⟩ = some (.int .i64 n) ∧ X.cell? ⟨qa, 1, none⟩ = some y) ∧ (X.cell? ⟨ra, 0, none⟩ = some (.int .i64 m) ∧ X.cell? ⟨ra, 1, none⟩ = some z) :=
  ⟨⟨by rw [cell_of_row _ _ _ _ _ _ h.q]; rfl, by rw [cell_of_row _ _ _ _ _ _ h.q]; rfl⟩, by rw [cell_of_row _ _ _ _ _ _ h.r]; rfl, by rw [cell_of_row _ _ _ _ _ _ h.r]; rfl⟩
theorem Sq2.froz (h : Sq2 V X qa ra n y m z) : (X.frozen? ⟨qa, 0, none⟩ = false ∧ X.frozen? ⟨qa, 1, none⟩ = false) ∧ (X.frozen? ⟨ra, 0, none⟩ = false ∧ X.frozen? ⟨ra, 1, none⟩ = false) :=
  ⟨⟨frozen_of_row X qa 0 _ _ h.q, frozen_of_row X qa 1 _ _ h.q⟩, frozen_of_row X ra 0 _ _ h.r, frozen_of_row X ra 1 _ _ h.r⟩
end
end Go.Proofs.YtamdpcajfgbagaaDoor
