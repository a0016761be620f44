/- What the faces of chapter 16 are to tell of graphs; strongFact over that. -/
import Derived.Test.YtlmjlffipinjiabDoorPBase
import Derived.Test.YtlmjlffipinjiabDoorSgF
import Derived.Deep.QuietTactic
import Derived.BigQuiet
import Derived.Laws.ResultCell
import Derived.Laws.Rows
import Derived.OwnWalk
import Derived.Deep.AppendLies
/- The walk of the document's NumbersOf. -/
/- The walks of the document's GraphFault and commonTo. -/
namespace Go.Proofs.YtlmjlffipinjiabDoor.Sg
open Go.RowKit

theorem wrapN9 {q : Nat} (h : q ≤ 99999) : IntKind.i64.wrap (q : Int) = (q : Int) := by rw [IntKind.wrap_i64]; omega
theorem wrapZ {z : Int} (h1 : -99999 ≤ z) (h2 : z ≤ 99999) : IntKind.i64.wrap z = z := by rw [IntKind.wrap_i64]; omega
theorem sq576 {n : Nat} (h : n ≤ 24) : n * n ≤ 999 - 423 := Nat.le_trans (Nat.mul_le_mul h h) (by decide)
end Go.Proofs.YtlmjlffipinjiabDoor.Sg

namespace Go.Proofs.YtlmjlffipinjiabDoor.Sg
open Go.RowKit

set_option maxRecDepth 100000 in
theorem inf28 : (Tryd.prog.info? 45).map (·.size) = some 4 := by kernel_rfl
set_option maxRecDepth 100000 in
theorem post_st2 {fn : Func} {R : Ending → World → Prop} {a : Act} {w : World} {g : Nat} {x0 x1 x2 x3 z : Value} (slot u : Tmp) (hres : fn.results = #[.cell slot 45, .tmp u]) (hp : a.tmps.getD slot undef = .pointer (some ⟨g, 0, none⟩)) (hr : w.heap[g]? = some (.cells #[x0, x1, x2, x3] 45 (0, 0))) (hu : a.tmps.getD u undef = z) (hd : a.defers = []) (hR : R (.returned (.tuple #[.agg #[x0, x1, x2, x3], z])) w) : bodyPost Tryd.prog fn R .ret a w := by
  refine bodyPost_ret (v := .tuple #[.agg #[x0, x1, x2, x3], z]) ?_ hd hR
  rw [results_cell_tmp hres, hp, hu]
  have h1 : (asAddr (.pointer (some ⟨g, 0, none⟩))).run Tryd.prog w = .ok ⟨g, 0, none⟩ w := by simp [asAddr]
  rw [h1]
  show ((loadVar 45 ⟨g, 0, none⟩).run Tryd.prog w).andThen _ = _
  rw [run_loadVar_row w g 45 45 #[x0, x1, x2, x3] (0, 0) _ hr Tryd.underlying45 rfl inf28]
  rfl
/-- Four cells stored one after another. -/
def put4 (w : World) (g : Nat) (y0 y1 y2 y3 : Value) : World := (((w.setCell ⟨g, 0, none⟩ y0).setCell ⟨g, 1, none⟩ y1).setCell ⟨g, 2, none⟩ y2).setCell ⟨g, 3, none⟩ y3
theorem put4_row {w : World} {g : Nat} {x0 x1 x2 x3 : Value} {t : TypeId} (h : w.heap[g]? = some (.cells #[x0, x1, x2, x3] t (0, 0))) (y0 y1 y2 y3 : Value) : (put4 w g y0 y1 y2 y3).heap[g]? = some (.cells #[y0, y1, y2, y3] t (0, 0)) := by
  have h1 := heap_setCell_same w g 0 _ _ y0 h
  have h2 := heap_setCell_same _ g 1 _ _ y1 h1
  have h3 := heap_setCell_same _ g 2 _ _ y2 h2
  have h4 := heap_setCell_same _ g 3 _ _ y3 h3
  exact h4
theorem put4_below {w W : World} {B g : Nat} (h : Below B w W) (hg : B ≤ g) (y0 y1 y2 y3 : Value) : Below B w (put4 W g y0 y1 y2 y3) :=
  (((h.setCell (p := ⟨g, 0, none⟩) hg y0).setCell (p := ⟨g, 1, none⟩) hg y1).setCell (p := ⟨g, 2, none⟩) hg y2).setCell (p := ⟨g, 3, none⟩) hg y3
/-- What a row of four lets one do. -/
theorem row4 {w : World} {g : Nat} {x0 x1 x2 x3 : Value} {t : TypeId} (h : w.heap[g]? = some (.cells #[x0, x1, x2, x3] t (0, 0))) : w.cell? ⟨g, 0, none⟩ = some x0 ∧ w.cell? ⟨g, 1, none⟩ = some x1 ∧ w.cell? ⟨g, 2, none⟩ = some x2 ∧ w.cell? ⟨g, 3, none⟩ = some x3 ∧ w.frozen? ⟨g, 0, none⟩ = false ∧ w.frozen? ⟨g, 1, none⟩ = false ∧ w.frozen? ⟨g, 2, none⟩ = false ∧ w.frozen? ⟨g, 3, none⟩ = false := by
  refine ⟨?_, ?_, ?_, ?_, frozen_of_row w g 0 _ _ h, frozen_of_row w g 1 _ _ h, frozen_of_row w g 2 _ _ h, frozen_of_row w g 3 _ _ h⟩ <;> rw [cell_of_row _ _ _ _ _ _ h] <;> rfl
/-- The box of the graph and that of the answer. -/
structure GB (w : World) (n : Nat) (s : Value) (wr : World) : Prop where
  box : wr.heap[w.heap.size]? = some (.cells #[.int .i64 (n : Int), s] 27 (0, 0))
  res : wr.heap[w.heap.size + 1]? = some (.cells #[.int .i64 0, .int .i64 0, .int .i64 0, .int .i64 0] 45 (0, 0))
  bel : Below w.heap.size w wr
theorem GB.next {w wr w1 : World} {n : Nat} {s : Value} (h : GB w n s wr) (b : Below wr.heap.size wr w1) : GB w n s w1 :=
  ⟨(b.block _ (Array.getElem?_eq_some_iff.1 h.box).1).trans h.box, (b.block _ (Array.getElem?_eq_some_iff.1 h.res).1).trans h.res, Below.next h.bel b⟩
theorem GB.quiet {w wr : World} {n : Nat} {s : Value} (h : GB w n s wr) (q : Nat) : GB w n s (wr.drewN q) := ⟨h.box, h.res, bdrewN h.bel q⟩
theorem GB.x0 {w wr : World} {n : Nat} {s : Value} (h : GB w n s wr) : wr.cell? ⟨w.heap.size, 0, none⟩ = some (.int .i64 (n : Int)) := by rw [cell_of_row _ _ _ _ _ _ h.box]; rfl
theorem GB.x1 {w wr : World} {n : Nat} {s : Value} (h : GB w n s wr) : wr.cell? ⟨w.heap.size, 1, none⟩ = some s := by rw [cell_of_row _ _ _ _ _ _ h.box]; rfl
theorem GB.new (w : World) (n : Nat) (s : Value) : GB w n s ((w.alloc (.cells #[.int .i64 (n : Int), s] 27)).alloc (.cells #[.int .i64 0, .int .i64 0, .int .i64 0, .int .i64 0] 45)) :=
  ⟨(Below.heap_alloc _ _ _ (by simp)).trans (heap_alloc_new w _), by have := heap_alloc_new (w.alloc (.cells #[.int .i64 (n : Int), s] 27)) (.cells #[.int .i64 0, .int .i64 0, .int .i64 0, .int .i64 0] 45); simpa using this, Below.next (balloc _ _) (balloc _ _)⟩
end Go.Proofs.YtlmjlffipinjiabDoor.Sg

/- The walks of the document's OtherOf and FriendOf. -/
namespace Go.Proofs.YtlmjlffipinjiabDoor.Sg
open Go.RowKit

set_option maxRecDepth 100000 in
theorem inf24 : (Tryd.prog.info? 27).map (·.size) = some 2 := by kernel_rfl
def vi (l : List Int) : List Value := l.map (Value.int .i64)
theorem vi_snoc (f : Nat → Int) (k : Nat) : vi ((List.range (k + 1)).map f) = vi ((List.range k).map f) ++ [.int .i64 (f k)] := by
  rw [List.range_succ, List.map_append]; simp [vi]
theorem own_slice {w : World} {base n : Nat} {e : TypeId} {size : Nat} {v : Value} {xs : List Value} (h : w.ownsRow base e size v n xs) : ∃ a c, v = .slice a n c := by
  obtain ⟨_, ⟨e, e2⟩ | ⟨g', cap, cur, e, _⟩⟩ := h
  · exact ⟨_, _, by rw [e, e2]⟩
  · exact ⟨_, _, e⟩
theorem own_diff {w : World} {base n g : Nat} {v : Value} {xs : List Value} {cs : Array Value} (h : w.ownsRow base 3 1 v n xs) (hg : w.heap[g]? = some (.cells cs 27 (0, 0))) : v.ownBlock ≠ some g := by
  obtain ⟨_, ⟨rfl, _⟩ | ⟨g', cap, cur, rfl, _, h7, _⟩⟩ := h
  · intro e; cases e
  · intro e
    obtain rfl : g' = g := by simpa [Value.ownBlock] using e
    rw [hg] at h7
    simp at h7
theorem orow_other {w : World} {base n : Nat} {e : TypeId} {size : Nat} {v : Value} {xs : List Value} (h : w.ownsRow base e size v n xs) (a : Addr) (u : Value) (hne : v.ownBlock ≠ some a.block) : (w.setCell a u).ownsRow base e size v n xs := by
  obtain ⟨h3, h4 | ⟨g, cap, cur, rfl, h6, h7, h8⟩⟩ := h
  · exact ⟨h3, .inl h4⟩
  · exact ⟨h3, .inr ⟨g, cap, cur, rfl, h6, (heap_setCell_other w a g u fun e => hne (by simp [Value.ownBlock, e])).trans h7, h8⟩⟩
set_option maxRecDepth 100000 in
theorem post_sq {fn : Func} {R : Ending → World → Prop} {a : Act} {w : World} {g : Nat} {x y : Value} (slot : Tmp) (hres : fn.results = #[.cell slot 27]) (hp : a.tmps.getD slot undef = .pointer (some ⟨g, 0, none⟩)) (hr : w.heap[g]? = some (.cells #[x, y] 27 (0, 0))) (hd : a.defers = []) (hR : R (.returned (.agg #[x, y])) w) : bodyPost Tryd.prog fn R .ret a w :=
  bodyPost_ret (results_cell_row hres a.tmps w g 27 #[x, y] (0, 0) _ hp hr Tryd.underlying27 rfl inf24) hd hR
set_option maxRecDepth 100000 in
theorem post_sq2 {fn : Func} {R : Ending → World → Prop} {a : Act} {w : World} {g : Nat} {x y z : Value} (slot u : Tmp) (hres : fn.results = #[.cell slot 27, .tmp u]) (hp : a.tmps.getD slot undef = .pointer (some ⟨g, 0, none⟩)) (hr : w.heap[g]? = some (.cells #[x, y] 27 (0, 0))) (hu : a.tmps.getD u undef = z) (hd : a.defers = []) (hR : R (.returned (.tuple #[.agg #[x, y], z])) w) : bodyPost Tryd.prog fn R .ret a w := by
  refine bodyPost_ret (v := .tuple #[.agg #[x, y], z]) ?_ hd hR
  rw [results_cell_tmp hres, hp, hu]
  have h1 : (asAddr (.pointer (some ⟨g, 0, none⟩))).run Tryd.prog w = .ok ⟨g, 0, none⟩ w := by simp [asAddr]
  rw [h1]
  show ((loadVar 27 ⟨g, 0, none⟩).run Tryd.prog w).andThen _ = _
  rw [run_loadVar_row w g 27 27 #[x, y] (0, 0) _ hr Tryd.underlying27 rfl inf24]
  rfl
theorem row2 {w : World} {g : Nat} {x0 x1 : Value} {t : TypeId} (h : w.heap[g]? = some (.cells #[x0, x1] t (0, 0))) : w.cell? ⟨g, 0, none⟩ = some x0 ∧ w.cell? ⟨g, 1, none⟩ = some x1 ∧ w.frozen? ⟨g, 0, none⟩ = false ∧ w.frozen? ⟨g, 1, none⟩ = false := by
  refine ⟨?_, ?_, frozen_of_row w g 0 _ _ h, frozen_of_row w g 1 _ _ h⟩ <;> rw [cell_of_row _ _ _ _ _ _ h] <;> rfl
theorem put2_row {w : World} {g : Nat} {x0 x1 : Value} {t : TypeId} (h : w.heap[g]? = some (.cells #[x0, x1] t (0, 0))) (y0 y1 : Value) : ((w.setCell ⟨g, 0, none⟩ y0).setCell ⟨g, 1, none⟩ y1).heap[g]? = some (.cells #[y0, y1] t (0, 0)) := by
  have h1 := heap_setCell_same w g 0 _ _ y0 h
  have h2 := heap_setCell_same _ g 1 _ _ y1 h1
  exact h2
theorem row_sl {w : World} {base : Nat} {y : Value} {l : List Int} {n : Nat} (h : w.ownsRow base 3 1 y n (vi l)) (hn : l.length = n) : Sl w y l := by
  subst hn
  exact Sl.owned h
/-- A square that grows in a box of its own (block q), the answer's box (block r). -/
structure AB (w : World) (q r : Nat) (n : Int) (k : Nat) (l : List Int) (o : Value) (wr : World) : Prop where
  sbox : wr.heap[q]? = some (.cells #[.int .i64 n, o] 27 (0, 0))
  rbox : wr.heap[r]? = some (.cells #[.int .i64 0, .slice none 0 0] 27 (0, 0))
  row : wr.ownsRow w.heap.size 3 1 o k (vi l)
  bel : Below w.heap.size w wr
theorem AB.quiet {w wr : World} {q r k : Nat} {n : Int} {l : List Int} {o : Value} (h : AB w q r n k l o wr) (c : Nat) : AB w q r n k l o (wr.drewN c) := ⟨h.sbox, h.rbox, h.row, bdrewN h.bel c⟩
/-- The answer stored: what was made, in the answer's box. -/
theorem AB.ret {w wr : World} {q r k : Nat} {n : Int} {l : List Int} {o : Value} (h : AB w q r n k l o wr) (hr : w.heap.size ≤ r) : ((wr.setCell ⟨r, 0, none⟩ (.int .i64 n)).setCell ⟨r, 1, none⟩ o).heap[r]? = some (.cells #[.int .i64 n, o] 27 (0, 0)) ∧ ((wr.setCell ⟨r, 0, none⟩ (.int .i64 n)).setCell ⟨r, 1, none⟩ o).ownsRow w.heap.size 3 1 o k (vi l) ∧ Below w.heap.size w ((wr.setCell ⟨r, 0, none⟩ (.int .i64 n)).setCell ⟨r, 1, none⟩ o) := by
  refine ⟨put2_row h.rbox _ _, ?_, (h.bel.setCell (p := ⟨r, 0, none⟩) hr _).setCell (p := ⟨r, 1, none⟩) hr _⟩
  exact orow_other (orow_other h.row _ _ (own_diff h.row h.rbox)) _ _ (own_diff h.row h.rbox)
theorem news_q (w : World) (u : Value) : (w.alloc (.cells #[u] 3)).cell? ⟨w.heap.size, 0, none⟩ = some u := by
  rw [cell_of_row _ _ _ _ _ _ (heap_alloc_new w _)]; rfl
theorem AB.kept {w wr w2 : World} {q r k : Nat} {n : Int} {l : List Int} {o : Value} (h : AB w q r n k l o wr) {u : Value} (hg : (wr.alloc (.cells #[u] 3)).grownBy w2 o.ownBlock) {b : Nat} {cs : Array Value} (hb : wr.heap[b]? = some (.cells cs 27 (0, 0))) : w2.heap[b]? = some (.cells cs 27 (0, 0)) := by
  have hl : b < wr.heap.size := (Array.getElem?_eq_some_iff.1 hb).1
  exact (hg.block b (by simp; omega) (fun e => own_diff h.row hb e.symm)).trans (((balloc wr (.cells #[u] 3)).block b hl).trans hb)
theorem AB.grown {w wr w2 : World} {q r k : Nat} {n : Int} {l : List Int} {o : Value} (h : AB w q r n k l o wr) {u : Value} (hg : (wr.alloc (.cells #[u] 3)).grownBy w2 o.ownBlock) : Below w.heap.size w w2 := by
  have hs := h.bel.size
  exact (Below.next h.bel (balloc wr (.cells #[u] 3))).grown hg (by simp; omega) (fun j hj => (h.row.lt j hj).1)
/-- One number more. -/
theorem AB.more {w wr w2 : World} {q r k : Nat} {n : Int} {l : List Int} {o v' : Value} (h : AB w q r n k l o wr) {u : Int} (hg : (wr.alloc (.cells #[.int .i64 u] 3)).grownBy w2 o.ownBlock) (hW : w2.ownsRow w.heap.size 3 1 v' (k + 1) (vi (l ++ [u]))) (hq : w.heap.size ≤ q) (hqr : r ≠ q) : AB w q r n (k + 1) (l ++ [u]) v' (w2.setCell ⟨q, 1, none⟩ v') := by
  have h1 := h.kept hg h.sbox
  have h2 := h.kept hg h.rbox
  refine ⟨?_, (heap_setCell_other w2 ⟨q, 1, none⟩ r v' hqr).trans h2, orow_other hW _ _ (own_diff hW h1), (h.grown hg).setCell (p := ⟨q, 1, none⟩) hq v'⟩
  rw [heap_setCell_same w2 q 1 _ _ v' h1]
  rfl
end Go.Proofs.YtlmjlffipinjiabDoor.Sg

/- The walk of the document's FriendOf. -/
namespace Go.Proofs.YtlmjlffipinjiabDoor.Sg
open Go.RowKit

/-- What is told of a friend. -/
def FrT (n : Nat) (A : Nat → Nat → Int) (x u : Nat) : Prop := (Fri n A ∧ u = 0 ∧ x < n ∧ (∀ b, b < n → b ≠ x → A x b = 1) ∧ ∀ y, y < x → ∃ b, b < n ∧ b ≠ y ∧ A y b = 0) ∨ (¬ Fri n A ∧ u = 4 ∧ x = 0)
theorem FrT.one {n x u x' u' : Nat} {A : Nat → Nat → Int} (h : FrT n A x u) (h' : FrT n A x' u') : x = x' ∧ u = u' := by
  rcases h with ⟨F, rfl, hx, h1, h2⟩ | ⟨F, rfl, rfl⟩ <;> rcases h' with ⟨F', rfl, hx', h1', h2'⟩ | ⟨F', rfl, rfl⟩
  · refine ⟨?_, rfl⟩
    apply Classical.byContradiction
    intro hne
    rcases Nat.lt_or_gt_of_ne hne with k | k
    · obtain ⟨b, hb, hbn, e⟩ := h2' x k
      rw [h1 b hb hbn] at e
      exact absurd e (by decide)
    · obtain ⟨b, hb, hbn, e⟩ := h2 x' k
      rw [h1' b hb hbn] at e
      exact absurd e (by decide)
  · exact absurd F F'
  · exact absurd F' F
  · exact ⟨rfl, rfl⟩
theorem fri_of {n : Nat} {A : Nat → Nat → Int} (h : ∀ a b, a < n → b < a → cmG n A a b = 1) : Fri n A := fun a b ha hb hne => by
  rcases Nat.lt_or_gt_of_ne hne with k | k
  · rw [Gr.cm_sym]; exact h b a hb k
  · exact h a b ha k
end Go.Proofs.YtlmjlffipinjiabDoor.Sg

namespace Go.Proofs.YtlmjlffipinjiabDoor.Sg
open Go.RowKit

theorem own_ne24 {w : World} {g n b : Nat} {f : Nat → Int} {cs : Array Value} (h : Own w g n f) (hb : w.heap[b]? = some (.cells cs 27 (0, 0))) : g ≠ b := by
  rintro rfl
  obtain ⟨cur, h, _⟩ := h
  rw [hb] at h
  simp at h
/-- Nothing, or a block of numbers. -/
def OwnS (w : World) (y : Value) (l : List Int) : Prop := (y = .slice none 0 0 ∧ l = []) ∨ ∃ g cap, y = .slice (some ⟨g, 0, none⟩) l.length cap ∧ Own w g l.length (fun j => l.getD j 0)
theorem OwnS.nil (w : World) : OwnS w (.slice none 0 0) [] := .inl ⟨rfl, rfl⟩
theorem OwnS.of {w : World} {base : Nat} {y : Value} {l : List Int} (h : w.ownsRow base 3 1 y l.length (vi l)) : OwnS w y l := by
  obtain ⟨_, ⟨rfl, hn⟩ | ⟨g, cap, cur, rfl, _, hg, _, _, _, ht⟩⟩ := h
  · exact .inl ⟨rfl, List.length_eq_zero_iff.1 hn⟩
  · refine .inr ⟨g, cap, rfl, cur, hg, fun j hj => ?_⟩
    have h2 : (cur.toList.take (l.length * 1))[j]? = (vi l)[j]? := by rw [ht]
    rw [List.getElem?_take, if_pos (by omega)] at h2
    rw [← Array.getElem?_toList, h2]
    simp [vi, hj]
theorem OwnS.sl {w : World} {y : Value} {l : List Int} (h : OwnS w y l) : Sl w y l := by
  rcases h with ⟨rfl, rfl⟩ | ⟨g, cap, rfl, h⟩
  · exact Sl.nil w
  · exact ⟨_, cap, rfl, fun j hj => ⟨g, 0, rfl, by rw [Nat.zero_add]; exact h.cell j hj⟩⟩
theorem OwnS.below {w w' : World} {y : Value} {l : List Int} (h : OwnS w y l) (hb : Below w.heap.size w w') : OwnS w' y l := by
  rcases h with h | ⟨g, cap, e, h⟩
  · exact .inl h
  · exact .inr ⟨g, cap, e, h.below hb⟩
theorem OwnS.len {w : World} {y : Value} {l : List Int} (h : OwnS w y l) : ∃ a c, y = .slice a l.length c := by
  obtain ⟨a, c, e, _⟩ := h.sl
  exact ⟨a, c, e⟩
theorem sl_len {w : World} {v : Value} {l : List Int} (h : Sl w v l) : ∃ a c, v = .slice a l.length c := by
  obtain ⟨a, c, e, _⟩ := h
  exact ⟨a, c, e⟩
def NuR (s : Int) (L : List Int) (P D N F : Int) (u : Nat) : Prop := (gF s L ≠ 0 ∧ u = gF s L ∧ P = 0 ∧ D = 0 ∧ N = 0 ∧ F = 0) ∨ ∃ n : Nat, s = n ∧ GoodG n L ∧ NmT n (gx n L) P D N F u
theorem NuR.one {s : Int} {L : List Int} {P D N F P' D' N' F' : Int} {u u' : Nat} (h : NuR s L P D N F u) (h' : NuR s L P' D' N' F' u') : P = P' ∧ D = D' ∧ N = N' ∧ F = F' ∧ u = u' := by
  rcases h with ⟨h0, rfl, rfl, rfl, rfl, rfl⟩ | ⟨n, rfl, G, h⟩ <;> rcases h' with ⟨h0', rfl, rfl, rfl, rfl, rfl⟩ | ⟨n', e, G', h'⟩
  · exact ⟨rfl, rfl, rfl, rfl, rfl⟩
  · subst e; exact absurd (gF_good G') h0
  · exact absurd (gF_good G) h0'
  · obtain rfl : n = n' := by omega
    exact h.one h' G.pos
/-- The other graph's cells, and its side. -/
def otC (n : Nat) (L : List Int) : List Int := (List.range (n * n)).map fun j => otG (gx n L) (j / n) (j % n)
def otL (s : Int) (L : List Int) : List Int := if gF s L = 0 then otC s.toNat L else []
def otS (s : Int) (L : List Int) : Int := if gF s L = 0 then s else 0
def FrR (s : Int) (L : List Int) (x u : Nat) : Prop := (gF s L ≠ 0 ∧ u = gF s L ∧ x = 0) ∨ ∃ n : Nat, s = n ∧ GoodG n L ∧ FrT n (gx n L) x u
theorem FrR.one {s : Int} {L : List Int} {x u x' u' : Nat} (h : FrR s L x u) (h' : FrR s L x' u') : x = x' ∧ u = u' := by
  rcases h with ⟨h0, rfl, rfl⟩ | ⟨n, rfl, G, h⟩ <;> rcases h' with ⟨h0', rfl, rfl⟩ | ⟨n', e, G', h'⟩
  · exact ⟨rfl, rfl⟩
  · subst e; exact absurd (gF_good G') h0
  · exact absurd (gF_good G) h0'
  · obtain rfl : n = n' := by omega
    exact h.one h'
def tN (n : Nat) : Nat := (trL n).length
def trC (n : Nat) : List Int := (List.range (tN n * tN n)).map fun j => trG n (j / tN n) (j % tN n)
def tE (n : Int) : Nat := if n < 2 ∨ 7 < n then 1 else 0
def tS (n : Int) : Int := if tE n = 0 then (tN n.toNat : Int) else 0
def tL (n : Int) : List Int := if tE n = 0 then trC n.toNat else []
/-- What the four numbers could be. -/
def FtP (v k l m : Int) : Prop := k * (k - l - 1) = (v - k - 1) * m ∧ ((2 * k + (v - 1) * (l - m) = 0 ∧ v % 2 = 1) ∨ ∃ r f : Nat, 1 ≤ r ∧ (r * r : Int) = (l - m) * (l - m) + 4 * (k - m) ∧ (f : Int) < v ∧ (v - 1 - 2 * f) * r = 2 * k + (v - 1) * (l - m))
def FtO (v k l m : Int) : Prop := v < 2 ∨ 1000 < v ∨ k < 1 ∨ v ≤ k ∨ l < 0 ∨ v < l ∨ m < 0 ∨ v < m
def FtR (v k l m : Int) (q : Bool) (u : Nat) : Prop := (FtO v k l m ∧ q = false ∧ u = 1) ∨ (¬ FtO v k l m ∧ u = 0 ∧ (q = true ↔ FtP v k l m))
def FNum : Prop := ∀ (s : Int) (L : List Int) (v : Value) (W : World), Sl W v L → L.length ≤ maxLen → Calls Tryd.prog 12 #[.agg #[.int .i64 s, v]] W fun e w' => (∃ (P D N F : Int) (u : Nat), e = .returned (.tuple #[.agg #[.int .i64 P, .int .i64 D, .int .i64 N, .int .i64 F], .int .i64 (u : Int)]) ∧ NuR s L P D N F u) ∧ Below W.heap.size W w'
theorem gx_range {n a b : Nat} (f : Nat → Nat → Int) (ha : a < n) (hb : b < n) : gx n ((List.range (n * n)).map fun j => f (j / n) (j % n)) a b = f a b := by
  unfold gx
  have h := cell_ltG ha hb
  obtain ⟨e1, e2⟩ := cell_div (i := a) (j := b) (n := n) hb
  simp [h, e1, e2]
theorem tr_bit (n a b : Nat) : trG n a b = 0 ∨ trG n a b = 1 := by unfold trG; split <;> simp
theorem tr_gr (n v : Nat) : Gr v (trG n) where
  bit a b _ _ := tr_bit n a b
  sym a b _ _ := by
    unfold trG
    by_cases h : a ≠ b ∧ (trL n).getD a 0 &&& (trL n).getD b 0 ≠ 0
    · rw [if_pos h, if_pos ⟨Ne.symm h.1, by rw [Nat.and_comm]; exact h.2⟩]
    · rw [if_neg h, if_neg fun k => h ⟨Ne.symm k.1, by rw [Nat.and_comm]; exact k.2⟩]
  diag a _ := if_neg fun h => h.1 rfl
theorem tr_good {n : Nat} (h2 : 2 ≤ n) (h7 : n ≤ 7) : GoodG (tN n) (trC n) := by
  have ht : 1 ≤ tN n ∧ tN n ≤ 24 := by
    have key : ∀ i : Fin 8, 2 ≤ i.val → 1 ≤ tN i.val ∧ tN i.val ≤ 24 := by decide +kernel
    exact key ⟨n, by omega⟩ h2
  exact ⟨ht.1, ht.2, by simp [trC], (tr_gr n (tN n)).congr fun a b ha hb => gx_range (trG n) ha hb⟩
/-- The numbers of a triangle. -/
theorem tr_stn {n : Nat} (h3 : 3 < n) (h7 : n ≤ 7) : StN (tN n) (2 * (n - 2)) (n - 2) 4 (gx (tN n) (trC n)) := by
  have S := (tr_stg h3 h7).congr (B := gx (tN n) (trC n)) fun a b ha hb => gx_range (trG n) ha hb
  have G := (tr_good (show 2 ≤ n by omega) h7)
  have key : ∀ i : Fin 8, 3 < i.val → 2 * i.val ≤ tN i.val + 2 := by decide +kernel
  have hk := key ⟨n, by omega⟩ h3
  dsimp only at hk
  unfold tN at hk
  exact S.stn G.gr G.pos (by omega) (by omega)
theorem fact_num {P D N F : Int} {u : Nat} (h : NuR 10 (trC 5) P D N F u) : P = 10 ∧ D = 6 ∧ N = 3 ∧ F = 4 ∧ u = 0 := by
  have G := tr_good (n := 5) (by decide) (by decide)
  have S := tr_stn (n := 5) (by decide) (by decide)
  have e : tN 5 = 10 := by decide +kernel
  rw [e] at G S
  have : NuR 10 (trC 5) 10 6 3 4 0 := .inr ⟨10, rfl, G, .inl ⟨rfl, rfl, S⟩⟩
  exact h.one this
theorem tE5 : tE 5 = 0 := by decide
theorem tS5 : tS 5 = 10 := by decide +kernel
theorem tL5 : tL 5 = trC 5 := rfl
end Go.Proofs.YtlmjlffipinjiabDoor.Sg
