/- The law TripleCuts. -/
import Derived.Test.YtdeofjmgjhfkcabDoorP2
import Derived.Test.YtdeofjmgjhfkcabDoorC1
import Derived.Test.YtdeofjmgjhfkcabDoorY5
import Derived.Test.YtdeofjmgjhfkcabDoorB5
import Derived.Test.YtdeofjmgjhfkcabDoorU3
import Derived.Test.YtdeofjmgjhfkcabDoorC2
import Derived.Test.YtdeofjmgjhfkcabDoorK1
import Derived.Test.YtdeofjmgjhfkcabDoorD1
import Derived.Test.YtdeofjmgjhfkcabDoorL3
import Derived.Test.YtdeofjmgjhfkcabDoorF3
import Derived.Test.YtdeofjmgjhfkcabDoorH9
import Derived.Test.YtdeofjmgjhfkcabDoorTCut
/- The walk of Grow. -/
/- The walks of Double and Product. -/
namespace Go.Proofs.YtdeofjmgjhfkcabDoor
open Go.RowKit

/-- An answer that is stored into its box. -/
theorem res_put {w w1 : World} {t base s : Nat} {p : Int} {y : Value} {Z : List (List Nat)} (hr : w1.heap[t]? = some (.cells #[.int .i64 0, .slice none 0 0] 25 (0, 0))) (hb : Below s w w1) (hs : s ≤ t) (ht : t < base) (hO : OR w1 base y Z) :
    ((w1.setCell ⟨t, 0, none⟩ (.int .i64 p)).setCell ⟨t, 1, none⟩ y).heap[t]? = some (.cells #[.int .i64 p, y] 25 (0, 0)) ∧ Rw ((w1.setCell ⟨t, 0, none⟩ (.int .i64 p)).setCell ⟨t, 1, none⟩ y) y (toZ Z) ∧ Below s w ((w1.setCell ⟨t, 0, none⟩ (.int .i64 p)).setCell ⟨t, 1, none⟩ y) := by
  have h6 := heap_setCell_same w1 t 0 _ 25 (.int .i64 p) hr
  have h7 := heap_setCell_same _ t 1 _ 25 y h6
  refine ⟨by simpa using h7, (hO.keep fun b hb' _ => (heap_setCell_other _ ⟨t, 1, none⟩ b _ (by show b ≠ t; omega)).trans (heap_setCell_other w1 ⟨t, 0, none⟩ b _ (by show b ≠ t; omega))).rw, ?_⟩
  exact (hb.setCell (p := ⟨t, 0, none⟩) hs _).setCell (p := ⟨t, 1, none⟩) hs _
theorem res_none {w w1 : World} {t s : Nat} (hr : w1.heap[t]? = some (.cells #[.int .i64 0, .slice none 0 0] 25 (0, 0))) (hb : Below s w w1) (hs : s ≤ t) :
    ((w1.setCell ⟨t, 0, none⟩ (.int .i64 0)).setCell ⟨t, 1, none⟩ (.slice none 0 0)).heap[t]? = some (.cells #[.int .i64 0, .slice none 0 0] 25 (0, 0)) ∧ Below s w ((w1.setCell ⟨t, 0, none⟩ (.int .i64 0)).setCell ⟨t, 1, none⟩ (.slice none 0 0)) := by
  have h6 := heap_setCell_same w1 t 0 _ 25 (.int .i64 0) hr
  have h7 := heap_setCell_same _ t 1 _ 25 (.slice none 0 0) h6
  exact ⟨by simpa using h7, (hb.setCell (p := ⟨t, 0, none⟩) hs _).setCell (p := ⟨t, 1, none⟩) hs _⟩
end Go.Proofs.YtdeofjmgjhfkcabDoor

namespace Go.Proofs.YtdeofjmgjhfkcabDoor
open Go.RowKit

/-- What Grow tells. -/
def GoT (v : Int) (ls : List (List Int)) (p f : Int) (Z : List (List Nat)) : Prop := (GfT v ls f ∧ f ≠ 0 ∧ p = 0 ∧ Z = []) ∨ (∃ (n : Nat) (L : List (List Nat)), v = n ∧ ls = toZ L ∧ Pk n L ∧ 1 ≤ n ∧ n ≤ 9 ∧ ls.length ≤ 200 ∧ ((gr n 12 L = none ∧ f = 4 ∧ p = 0 ∧ Z = []) ∨ (∃ R, gr n 12 L = some R ∧ f = 0 ∧ p = n ∧ Srtd R Z)))
theorem own_low2 {w : World} {b b' n : Nat} {t : TypeId} {v : Value} {l : List Value} (h : w.ownsRow b t 1 v n l) (hb : b' ≤ b) : w.ownsRow b' t 1 v n l := by
  obtain ⟨h0, h | ⟨g, cap, cur, h1, h2, h3⟩⟩ := h
  · exact ⟨h0, .inl h⟩
  · exact ⟨h0, .inr ⟨g, cap, cur, h1, Nat.le_trans hb h2, h3⟩⟩
theorem OR.low {w : World} {b b' : Nat} {v : Value} {ls : List (List Nat)} (h : OR w b v ls) (hb : b' ≤ b) : OR w b' v ls := by
  obtain ⟨vals, h1, h2⟩ := h
  exact ⟨vals, own_low2 h1 hb, fun i u l hu hl => own_low2 (h2 i u l hu hl) hb⟩
/-- An answer that is stored into its box; its rows are new. -/
theorem res_putO {w w1 : World} {t base s : Nat} {p : Int} {y : Value} {Z : List (List Nat)} (hr : w1.heap[t]? = some (.cells #[.int .i64 0, .slice none 0 0] 25 (0, 0))) (hb : Below s w w1) (hs : s ≤ t) (ht : t < base) (hO : OR w1 base y Z) :
    ((w1.setCell ⟨t, 0, none⟩ (.int .i64 p)).setCell ⟨t, 1, none⟩ y).heap[t]? = some (.cells #[.int .i64 p, y] 25 (0, 0)) ∧ OR ((w1.setCell ⟨t, 0, none⟩ (.int .i64 p)).setCell ⟨t, 1, none⟩ y) s y Z ∧ Below s w ((w1.setCell ⟨t, 0, none⟩ (.int .i64 p)).setCell ⟨t, 1, none⟩ y) := by
  have h6 := heap_setCell_same w1 t 0 _ 25 (.int .i64 p) hr
  have h7 := heap_setCell_same _ t 1 _ 25 y h6
  refine ⟨by simpa using h7, (hO.keep fun b hb' _ => (heap_setCell_other _ ⟨t, 1, none⟩ b _ (by show b ≠ t; omega)).trans (heap_setCell_other w1 ⟨t, 0, none⟩ b _ (by show b ≠ t; omega))).low (by omega), ?_⟩
  exact (hb.setCell (p := ⟨t, 0, none⟩) hs _).setCell (p := ⟨t, 1, none⟩) hs _
def GoP (v : Int) (ls : List (List Int)) (w : World) (e : Ending) (w' : World) : Prop := ∃ x Z p f, e = .returned (.tuple #[.agg #[.int .i64 p, x], .int .i64 f]) ∧ GoT v ls p f Z ∧ OR w' w.heap.size x Z ∧ Below w.heap.size w w'
theorem rw_nil0 (w : World) : Rw w (.slice none 0 0) (toZ []) := ⟨none, 0, rfl, fun i l h => by simp [toZ] at h⟩
theorem GoP.bad {v f : Int} {ls : List (List Int)} {w w' : World} (h : GfT v ls f) (hf : f ≠ 0) (hb : Below w.heap.size w w') : GoP v ls w (.returned (.tuple #[.agg #[.int .i64 0, .slice none 0 0], .int .i64 f])) w' := ⟨_, [], 0, f, rfl, .inl ⟨h, hf, rfl, rfl⟩, OR.nil _ _, hb⟩
theorem rows_any {w : World} {u : Value} {ls : List (List Int)} (hu : Rw w u ls) : ∃ a cap, u = .slice a ls.length cap ∧ ∀ i, i < ls.length → ∃ l b off r, ls[i]? = some l ∧ a = some ⟨b, off, none⟩ ∧ ∀ W, Below w.heap.size w W → W.cell? ⟨b, off + i, none⟩ = some r ∧ Sl W r l := by
  obtain ⟨a, cap, rfl, h⟩ := hu
  refine ⟨a, cap, rfl, fun i hi => ?_⟩
  obtain ⟨b, off, r, e, hc, hs⟩ := h i _ (List.getElem?_eq_getElem hi)
  exact ⟨_, b, off, r, List.getElem?_eq_getElem hi, e, fun W hW => ⟨(hW.cell (World.block_lt_of_cell? _ _ hc)).trans hc, hs.below hW⟩⟩
theorem sl_thr {w : World} {r : Value} {x y z : Nat} (h : Sl w r ([x, y, z].map Int.ofNat)) : ∃ rq ro rc, r = .slice (some ⟨rq, ro, none⟩) 3 rc ∧ ∀ W, Below w.heap.size w W → W.cell? ⟨rq, ro, none⟩ = some (.int .i64 (x : Int)) ∧ W.cell? ⟨rq, ro + 1, none⟩ = some (.int .i64 (y : Int)) ∧ W.cell? ⟨rq, ro + 2, none⟩ = some (.int .i64 (z : Int)) := by
  obtain ⟨a, cap, rfl, h⟩ := h
  obtain ⟨b, off, rfl, h0⟩ := h 0 (by simp)
  obtain ⟨b1, o1, e1, h1⟩ := h 1 (by simp)
  obtain ⟨b2, o2, e2, h2⟩ := h 2 (by simp)
  cases e1
  cases e2
  exact ⟨b, off, cap, rfl, fun W hW => ⟨(hW.cell (World.block_lt_of_cell? _ _ h0)).trans h0, (hW.cell (World.block_lt_of_cell? _ _ h1)).trans h1, (hW.cell (World.block_lt_of_cell? _ _ h2)).trans h2⟩⟩
theorem tc_nil (i : Nat) : tc [] i = false := by unfold tc cv; simp
theorem gR_nil (v : Nat) : gR v (tc []) = gR v (fun _ => false) := gR_congr fun i _ => tc_nil i
theorem zero_cells (v : Nat) : Tryd.zeroCells44.setIfInBounds 1 (.int .i64 (v : Int)) = (.slice none 0 0 :: gR v (fun _ => false)).toArray := by kernel_rfl
theorem Gr.kp_rows {w w0 w2 wr : World} {base gb : Nat} (hb : Below w.heap.size w w2) (hg : w.heap.size ≤ gb) (h : Kp base gb w2 wr) (_ : w0 = w0) : Below w.heap.size w wr := hb.trans (h.lo.mono hg)
set_option maxRecDepth 100000 in
set_option maxHeartbeats 4000000 in
theorem Grow_far (v : Int) (ls : List (List Int)) (n : Nat) (u : Value) (w : World) (hu : ∃ a c, u = .slice a n c) (h : v < 1 ∨ 9 < v) : Calls Tryd.prog 5 #[.int .i64 v, u] w (GoP v ls w) := by
  have hr := heap_alloc_new w (.cells #[.int .i64 0, .slice none 0 0] 25)
  have HB0 : Hid (Below w.heap.size w (w.alloc (.cells #[.int .i64 0, .slice none 0 0] 25))) := balloc w _
  have H7 : Hid (_ ∧ _) := res_none hr HB0.out (Nat.le_refl _)
  have H8 : Hid (_ ∧ Below w.heap.size w _) := ⟨hr, HB0.out⟩
  have HG : Hid (GfT v ls 1) := .inl ⟨rfl, h⟩
  have z0 := frozen_of_row _ _ 0 _ _ hr
  have z1 := frozen_of_row _ _ 1 _ _ hr
  have y0 := cell_of_row _ _ 0 _ _ _ hr
  have y1 := cell_of_row _ _ 1 _ _ _ hr
  obtain ⟨ua, uc, rfl⟩ := hu
  clear hr
  by_cases h1 : v < 1
  · have hd : decide (v < 1) = true := decide_eq_true h1
    clear h
    go_enter Tryd.func5, Tryd.ntmps5
    go_wp2
    first
      | exact post_d2 4 5 rfl rfl H8.out.1 rfl rfl (GoP.bad HG.out (by omega) H8.out.2)
      | exact post_d2 4 5 rfl rfl H7.out.1 rfl rfl (GoP.bad HG.out (by omega) H7.out.2)
  · have hd : decide (v < 1) = false := decide_eq_false h1
    have h2 : 9 < v := h.resolve_left h1
    have hd2 : decide (9 < v) = true := decide_eq_true h2
    have hd3 : decide (v > 9) = true := decide_eq_true h2
    clear h
    go_enter Tryd.func5, Tryd.ntmps5
    go_wp2
    first
      | exact post_d2 4 5 rfl rfl H8.out.1 rfl rfl (GoP.bad HG.out (by omega) H8.out.2)
      | exact post_d2 4 5 rfl rfl H7.out.1 rfl rfl (GoP.bad HG.out (by omega) H7.out.2)
set_option maxRecDepth 100000 in
set_option maxHeartbeats 4000000 in
theorem Grow_many (v : Int) (ls : List (List Int)) (u : Value) (w : World) (hu : ∃ a c, u = .slice a ls.length c) (h1 : 1 ≤ v) (h9 : v ≤ 9) (hl : ls.length ≤ maxLen) (h2 : 200 < ls.length) : Calls Tryd.prog 5 #[.int .i64 v, u] w (GoP v ls w) := by
  have hr := heap_alloc_new w (.cells #[.int .i64 0, .slice none 0 0] 25)
  have HB0 : Hid (Below w.heap.size w (w.alloc (.cells #[.int .i64 0, .slice none 0 0] 25))) := balloc w _
  have H7 : Hid (_ ∧ _) := res_none hr HB0.out (Nat.le_refl _)
  have H8 : Hid (_ ∧ Below w.heap.size w _) := ⟨hr, HB0.out⟩
  have HG : Hid (GfT v ls 3) := .inr (.inl ⟨rfl, h1, h9, h2⟩)
  have z0 := frozen_of_row _ _ 0 _ _ hr
  have z1 := frozen_of_row _ _ 1 _ _ hr
  have y0 := cell_of_row _ _ 0 _ _ _ hr
  have y1 := cell_of_row _ _ 1 _ _ _ hr
  obtain ⟨ua, uc, rfl⟩ := hu
  unfold maxLen at hl
  obtain ⟨n, Hn⟩ : ∃ n, Hid (ls.length = n) := ⟨_, rfl⟩
  rw [Hn.out] at h2 hl ⊢
  have hd : decide (v < 1) = false := decide_eq_false (by omega)
  have hd2 : decide (9 < v) = false := decide_eq_false (by omega)
  have hd3 : decide (v > 9) = false := decide_eq_false (by omega)
  have hd4 : decide ((200 : Int) < (n : Int)) = true := decide_eq_true (by omega)
  have hd5 : decide ((n : Int) > 200) = true := decide_eq_true (by omega)
  have h6 : ¬ v < 1 := by omega
  have h7 : ¬ 9 < v := by omega
  have h8 : (200 : Int) < (n : Int) := by omega
  clear hr
  go_enter Tryd.func5, Tryd.ntmps5
  go_wp2
  first
    | exact post_d2 4 5 rfl rfl H8.out.1 rfl rfl (GoP.bad HG.out (by omega) H8.out.2)
    | exact post_d2 4 5 rfl rfl H7.out.1 rfl rfl (GoP.bad HG.out (by omega) H7.out.2)
set_option maxRecDepth 100000 in
set_option maxHeartbeats 16000000 in
theorem Grow_in (v : Nat) (ls : List (List Int)) (u : Value) (w : World) (h1 : 1 ≤ v) (h9 : v ≤ 9) (hl : ls.length ≤ 200) (hll : ∀ l ∈ ls, l.length ≤ maxLen) (hu : Rw w u ls) : Calls Tryd.prog 5 #[.int .i64 (v : Int), u] w (GoP (v : Int) ls w) := by
  obtain ⟨a, cap, rfl, hrows⟩ := rows_any hu
  have HROW : Hid (∀ i, i < ls.length → ∃ l b off r, ls[i]? = some l ∧ a = some ⟨b, off, none⟩ ∧ ∀ W, Below w.heap.size w W → W.cell? ⟨b, off + i, none⟩ = some r ∧ Sl W r l) := hrows
  have HBAD : Hid (∀ (i : Nat) (l : List Int) (f : Nat), ls[i]? = some l → (∀ (j : Nat) (l' : List Int), j < i → ls[j]? = some l' → tF (v : Int) l' = 0) → tF (v : Int) l = f → f ≠ 0 → GfT (v : Int) ls (f : Int)) := fun i l f h2 h3 h4 h5 => .inr (.inr (.inl ⟨by omega, by omega, hl, i, l, h2, h3, by rw [h4], by omega⟩))
  have HALL : Hid ((∀ (j : Nat) (l' : List Int), j < ls.length → ls[j]? = some l' → tF (v : Int) l' = 0) → ∃ L, ls = toZ L ∧ Rise3 v L) := fun h => all_rise fun l hl' => by
    obtain ⟨j, hj⟩ := List.getElem?_of_mem hl'
    exact h j l (List.getElem?_eq_some_iff.1 hj).1 hj
  have HMK : Hid (∀ L, ls = toZ L → Rise3 v L → ¬ Pk v L → GfT (v : Int) ls 6) := fun L e hR hp => .inr (.inr (.inr ⟨hl, v, L, rfl, h1, h9, e, hR, .inl ⟨hp, rfl⟩⟩))
  have HOK : Hid (∀ L p f Z, ls = toZ L → Pk v L → ((gr v 12 L = none ∧ f = 4 ∧ p = 0 ∧ Z = []) ∨ (∃ R, gr v 12 L = some R ∧ f = 0 ∧ p = ((v : Nat) : Int) ∧ Srtd R Z)) → GoT (v : Int) ls p f Z) := fun L p f Z e hp h => .inr ⟨v, L, rfl, e, hp, h1, h9, hl, h⟩
  have HCT : Hid (∀ (l : List Int) (r : Value) (W : World), l ∈ ls → Sl W r l → Calls Tryd.prog 11 #[.int .i64 (v : Int), r] W fun e w' => e = .returned (.int .i64 (tF (v : Int) l : Int)) ∧ Below W.heap.size W w') := fun l r W hm hs => checkTriple_any v h1 h9 l r W hs (hll l hm)
  have hr0 := heap_alloc_new w (.cells #[.int .i64 0, .slice none 0 0] 25)
  have HB0 : Hid (Below w.heap.size w (w.alloc (.cells #[.int .i64 0, .slice none 0 0] 25))) := balloc w _
  have HT : Hid (∀ W, Below (w.heap.size + 1) (w.alloc (.cells #[.int .i64 0, .slice none 0 0] 25)) W → W.heap[w.heap.size]? = some (.cells #[.int .i64 0, .slice none 0 0] 25 (0, 0)) ∧ Below w.heap.size w W) := fun W h => ⟨(h.block _ (by omega)).trans hr0, HB0.out.trans (h.mono (by omega))⟩
  have HBS : Hid (Below (w.heap.size + 1) (w.alloc (.cells #[.int .i64 0, .slice none 0 0] 25)) (w.alloc (.cells #[.int .i64 0, .slice none 0 0] 25))) := Below.refl _ _
  have HNI : Hid (∀ (W : World), Below (w.heap.size + 1) (w.alloc (.cells #[.int .i64 0, .slice none 0 0] 25)) W → _) := fun W h => res_none (HT.out W h).1 (HT.out W h).2 (Nat.le_refl _)
  have HTL : Hid (∀ l ∈ ls, l.length ≤ maxLen) := hll
  have HTA0 : Hid (∀ (j : Nat) (l' : List Int), j < 0 → ls[j]? = some l' → tF (v : Int) l' = 0) := fun j l' h => by omega
  have hd : decide ((v : Int) < 1) = false := decide_eq_false (by omega)
  have hd2 : decide (9 < (v : Int)) = false := decide_eq_false (by omega)
  have hd3 : decide ((v : Int) > 9) = false := decide_eq_false (by omega)
  have h6 : ¬ (v : Int) < 1 := by omega
  have h7 : ¬ 9 < (v : Int) := by omega
  generalize hn : ls.length = n at *
  have hd4 : decide ((200 : Int) < (n : Int)) = false := decide_eq_false (by omega)
  have hd5 : decide ((n : Int) > 200) = false := decide_eq_false (by omega)
  have h8 : ¬ (200 : Int) < (n : Int) := by omega
  obtain ⟨w0, Hw0⟩ : ∃ w0, Hid (w0 = (w.alloc (.cells #[.int .i64 0, .slice none 0 0] 25))) := ⟨_, rfl⟩
  rw [← Hw0.out] at HB0 HT HBS HNI
  clear hrows hu hll hr0
  go_enter Tryd.func5, Tryd.ntmps5
  go_wp2
  rw [← Hw0.out]
  go_loopw [25] (fun iv wr => ∃ (i : Nat), iv = .int .i64 (i : Int) ∧ i ≤ n ∧ Hid (∀ (j : Nat) (l' : List Int), j < i → ls[j]? = some l' → tF (v : Int) l' = 0) ∧ Below (w.heap.size + 1) w0 wr) (fun iv _ => (n - intOf iv).toNat)
  case atStart => exact ⟨0, rfl, by omega, HTA0, HBS.out⟩
  case round =>
    clear HTA0 HBS
    obtain ⟨i, rfl, hi, HTA, hB⟩ := hrel
    by_cases hlt : i < n
    · have hdi : decide ((i : Int) < (n : Int)) = true := by simp; omega
      have hii : (i : Int) < (n : Int) := by omega
      have hni : ¬ (n : Int) ≤ (i : Int) := by omega
      obtain ⟨l, b, off, r, hli, rfl, hrow⟩ := HROW.out i hlt
      obtain ⟨rc, hs⟩ := hrow wr (HT.out wr hB).2
      have CT := HCT.out l r wr (List.mem_of_getElem? hli) hs
      obtain ⟨f, Hf⟩ : ∃ f, Hid (tF (v : Int) l = f) := ⟨_, rfl⟩
      rw [Hf.out] at CT
      have HC : Hid (Calls Tryd.prog 11 #[.int .i64 (v : Int), r] wr fun e w' => e = .returned (.int .i64 (f : Int)) ∧ Below wr.heap.size wr w') := CT
      have HW : Hid (∀ W, Below wr.heap.size wr W → Below (w.heap.size + 1) w0 W) := fun W h => hB.trans (h.mono (by have := hB.size; have := HB0.out.size; rw [Hw0.out] at this; rw [World.size_alloc] at this; rw [Hw0.out, World.size_alloc] at *; omega))
      obtain ⟨ra, rcap, rfl, _⟩ := id hs
      by_cases hf : f ≠ 0
      · have HG : Hid (GfT (v : Int) ls (f : Int)) := HBAD.out i l f hli HTA.out Hf.out hf
        have g1 : ((f : Int) != 0) = true := by simp; omega
        have g2 : ¬ (f : Int) = 0 := by omega
        generalize l.length = ll at *
        clear hrow hs CT hB HTA
        go_wp2_with (go_at_call 11; refine HC.out.mono ?_; rintro e w1 ⟨rfl, hb⟩; clear HC; have hB1 := HW.out w1 hb; have H7 : Hid (_ ∧ _) := HNI.out w1 hB1; have H8 : Hid (_ ∧ _) := HT.out w1 hB1; have hr := H8.out.1; have z0 := frozen_of_row _ _ 0 _ _ hr; have z1 := frozen_of_row _ _ 1 _ _ hr; have y0 := cell_of_row _ _ 0 _ _ _ hr; have y1 := cell_of_row _ _ 1 _ _ _ hr; clear hr hb hB1)
        first
          | exact post_d2 4 5 rfl rfl H8.out.1 rfl rfl (GoP.bad HG.out (by omega) H8.out.2)
          | exact post_d2 4 5 rfl rfl H7.out.1 rfl rfl (GoP.bad HG.out (by omega) H7.out.2)
      · have hf0 : f = 0 := by omega
        subst hf0
        have HT2 : Hid (∀ (j : Nat) (l' : List Int), j < i + 1 → ls[j]? = some l' → tF (v : Int) l' = 0) := fun j l' hj he => by
          by_cases e : j = i
          · subst e
            rw [hli] at he
            cases he
            exact Hf.out
          · exact HTA.out j l' (by omega) he
        generalize l.length = ll at *
        clear hrow hs CT hB HTA
        go_wp2_with (go_at_call 11; refine HC.out.mono ?_; rintro e w1 ⟨rfl, hb⟩; clear HC; have hB1 := HW.out w1 hb; clear hb)
        go_roundw
        case rel => exact ⟨i + 1, by go_num, by omega, HT2, hB1⟩
        case measure => simp [intOf]; omega
    · have hdi : decide ((i : Int) < (n : Int)) = false := by simp; omega
      have hii : ¬ (i : Int) < (n : Int) := by omega
      obtain rfl : i = n := by omega
      obtain ⟨L, hLs, hR⟩ := HALL.out HTA.out
      have hnL : L.length = i := by rw [← hn, hLs]; simp [toZ]
      have HR3 : Hid (Rise3 v L) := hR
      have HLS : Hid (ls = toZ L) := hLs
      have hgbs : w.heap.size + 1 ≤ wr.heap.size := by have := hB.size; have e := congrArg (fun w : World => w.heap.size) Hw0.out; simp at e; omega
      have HBg : Hid (Below (w.heap.size + 1) w0 wr) := hB
      have hgr0 : Gr (wr.alloc (.cells (.slice none 0 0 :: gR v (fun _ => false)).toArray 44)) (wr.heap.size + 1) wr.heap.size v [] := by
        refine ⟨.slice none 0 0, ?_, OR.nil _ _, by omega, by simp⟩
        rw [gR_nil]
        exact heap_alloc_new wr _
      have HG0 : Hid (Gr (wr.alloc (.cells (.slice none 0 0 :: gR v (fun _ => false)).toArray 44)) (wr.heap.size + 1) wr.heap.size v (L.take 0)) := hgr0
      have HBG : Hid (Below wr.heap.size wr (wr.alloc (.cells (.slice none 0 0 :: gR v (fun _ => false)).toArray 44))) := balloc wr _
      have HZC : Hid (Tryd.zeroCells44.setIfInBounds 1 (.int .i64 (v : Int)) = (.slice none 0 0 :: gR v (fun _ => false)).toArray) := zero_cells v
      have HG2 : Hid (∀ L' : List (List Nat), L' = L.take i → L' = L) := fun L' e => by rw [e, ← hnL, List.take_length]
      clear hgr0 hR hLs hB
      go_wp2
      rw [HZC.out]
      obtain ⟨w3, Hw3⟩ : ∃ w3, Hid (w3 = wr.alloc (.cells (.slice none 0 0 :: gR v (fun _ => false)).toArray 44)) := ⟨_, rfl⟩
      rw [← Hw3.out] at HG0 HBG ⊢
      have HWW : Hid (∀ W, Kp (wr.heap.size + 1) wr.heap.size w3 W → W.heap[w.heap.size]? = some (.cells #[.int .i64 0, .slice none 0 0] 25 (0, 0)) ∧ Below w.heap.size w W) := fun W h => by
        obtain ⟨k1, k2⟩ := HT.out w3 (HBg.out.trans (HBG.out.mono hgbs))
        exact ⟨(h.lo.block _ (by omega)).trans k1, k2.trans (h.lo.mono (by omega))⟩
      have HNW : Hid (∀ W, Kp (wr.heap.size + 1) wr.heap.size w3 W → _) := fun W h => res_none (HWW.out W h).1 (HWW.out W h).2 (Nat.le_refl _)
      generalize hgb : wr.heap.size = gb at *
      have HP0 : Hid (Pk v (L.take 0)) := Pk.nil v
      have HK0 : Hid (Kp (gb + 1) gb w3 w3) := Kp.refl _ _ _
      clear Hw3 HBG HBg HZC HT HNI HCT HBAD HALL hgb hdi hii hd4 hd5 h8
      go_loopw [42] (fun iv wr => ∃ (k : Nat), iv = .int .i64 (k : Int) ∧ k ≤ i ∧ Hid (Pk v (L.take k)) ∧ Gr wr (gb + 1) gb v (L.take k) ∧ Kp (gb + 1) gb w3 wr) (fun iv _ => (i - intOf iv).toNat)
      case atStart => exact ⟨0, rfl, by omega, HP0, HG0.out, HK0.out⟩
      case round =>
        clear HP0 HG0 HK0
        obtain ⟨k, rfl, hk, HP, hG, hK⟩ := hrel
        by_cases hlk : k < i
        · have hdk : decide ((k : Int) < (i : Int)) = true := by simp; omega
          have hki : (k : Int) < (i : Int) := by omega
          have hnk : ¬ (i : Int) ≤ (k : Int) := by omega
          obtain ⟨l, b, off, r, hli, rfl, hrow⟩ := HROW.out k hlk
          obtain ⟨c, hc⟩ : ∃ c, L[k]? = some c := ⟨_, List.getElem?_eq_getElem (by omega)⟩
          obtain ⟨x, y, z, rfl, hxy, hyz, hzv⟩ := HR3.out c (List.mem_of_getElem? hc)
          have hl2 : l = [x, y, z].map Int.ofNat := by
            rw [HLS.out] at hli
            unfold toZ at hli
            rw [List.getElem?_map, hc] at hli
            exact (Option.some.inj hli).symm
          subst hl2
          obtain ⟨rc0, hs⟩ := hrow wr (HWW.out wr hK).2
          obtain ⟨rq, ro, rc, rfl, hcell⟩ := sl_thr hs
          have HCE : Hid (∀ W, Below wr.heap.size wr W → W.cell? ⟨rq, ro, none⟩ = some (.int .i64 (x : Int)) ∧ W.cell? ⟨rq, ro + 1, none⟩ = some (.int .i64 (y : Int)) ∧ W.cell? ⟨rq, ro + 2, none⟩ = some (.int .i64 (z : Int))) := hcell
          obtain ⟨_, hsw⟩ := hrow w (Below.refl _ _)
          obtain ⟨rq2, ro2, rc2, er, hcw⟩ := sl_thr hsw
          cases er
          have HCW : Hid (∀ W, Kp (gb + 1) gb w3 W → W.cell? ⟨rq, ro, none⟩ = some (.int .i64 (x : Int)) ∧ W.cell? ⟨rq, ro + 1, none⟩ = some (.int .i64 (y : Int)) ∧ W.cell? ⟨rq, ro + 2, none⟩ = some (.int .i64 (z : Int))) := fun W h => hcw W (HWW.out W h).2
          have hGd : Gr wr.drew (gb + 1) gb v (L.take k) := hG
          have hKd : Kp (gb + 1) gb w3 wr.drew := ⟨hK.lo.drew, hK.at'⟩
          have CL := lay_any (gb + 1) gb v x y z (L.take k) wr.drew hGd hxy hyz (by omega) (by have := HP.out.few h9; omega)
          have HKD : Hid (Kp (gb + 1) gb w3 wr.drew) := hKd
          have HKU : Hid (Kp (gb + 1) gb w3 wr) := hK
          have HTK : Hid (L.take (k + 1) = L.take k ++ [[x, y, z]]) := by show _ = _; rw [List.take_add_one, hc]; rfl
          cases hcv : (cv (L.take k) x y || cv (L.take k) x z || cv (L.take k) y z)
          · have HPN : Hid (Pk v (L.take (k + 1))) := pk_next HP.out hc hxy hyz hzv hcv
            rw [hcv] at CL
            have CL2 : Hid (Calls Tryd.prog 12 #[.pointer (some ⟨gb, 0, none⟩), .int .i64 (x : Int), .int .i64 (y : Int), .int .i64 (z : Int)] wr.drew fun e w' => e = .returned (.bool true) ∧ Gr w' (gb + 1) gb v (L.take (k + 1)) ∧ Kp (gb + 1) gb w3 w') := by
              refine CL.mono ?_
              rintro e w' (⟨h0, _⟩ | ⟨_, rfl, hg, hk⟩)
              · cases h0
              · exact ⟨rfl, by rw [HTK.out]; exact hg, hKd.trans hk⟩
            clear CL hcv hcell hcw hrow hs hsw hG hK hGd hKd hc hli
            go_wp2
            clear rc0
            refine wp_region_noPanic ?_
            refine wp_region_held_drew (S := fun w' => w'.cell? ⟨rq, ro, none⟩ = some (.int .i64 (x : Int)) ∧ w'.cell? ⟨rq, ro + 1, none⟩ = some (.int .i64 (y : Int)) ∧ w'.cell? ⟨rq, ro + 2, none⟩ = some (.int .i64 (z : Int))) (by kernel_rfl) (HCW.out _ HKD.out) (fun hSx => ?_)
            refine wpAnyH_take (i := 0) (v := .pointer (some ⟨gb, 0, none⟩)) rfl (by kernel_rfl) (by kernel_rfl) (by kernel_rfl) (fun _ _ _ h => h) (Or.inl ⟨by rfl, fun w' hSw => by (try dsimp only at hSw); obtain ⟨hs0, hs1, hs2⟩ := hSw; go_simp⟩) hSx ?_
            try simp only [Act.put, List.setIfInBounds_toArray]
            refine wpAnyH_take (i := 1) (v := .slice (some ⟨rq, ro, none⟩) 3 rc) rfl (by kernel_rfl) (by kernel_rfl) (by kernel_rfl) (fun _ _ _ h => h) (Or.inl ⟨by rfl, fun w' hSw => by (try dsimp only at hSw); obtain ⟨hs0, hs1, hs2⟩ := hSw; go_simp⟩) hSx ?_
            try simp only [Act.put]
            refine wpAnyH_take (i := 2) (v := .pointer (some ⟨rq, ro, none⟩)) rfl (by kernel_rfl) (by kernel_rfl) (by kernel_rfl) (fun _ _ _ h => h) (Or.inl ⟨by rfl, fun w' hSw => by (try dsimp only at hSw); obtain ⟨hs0, hs1, hs2⟩ := hSw; go_simp⟩) hSx ?_
            try simp only [Act.put]
            refine wpAnyH_take (i := 3) (v := .int .i64 (x : Int)) rfl (by kernel_rfl) (by kernel_rfl) (by kernel_rfl) (fun _ _ _ h => h) (Or.inl ⟨by rfl, fun w' hSw => by (try dsimp only at hSw); obtain ⟨hs0, hs1, hs2⟩ := hSw; go_simp⟩) hSx ?_
            try simp only [Act.put]
            refine wpAnyH_take (i := 4) (v := .slice (some ⟨rq, ro, none⟩) 3 rc) rfl (by kernel_rfl) (by kernel_rfl) (by kernel_rfl) (fun _ _ _ h => h) (Or.inl ⟨by rfl, fun w' hSw => by (try dsimp only at hSw); obtain ⟨hs0, hs1, hs2⟩ := hSw; go_simp⟩) hSx ?_
            try simp only [Act.put]
            refine wpAnyH_take (i := 5) (v := .pointer (some ⟨rq, ro + 1, none⟩)) rfl (by kernel_rfl) (by kernel_rfl) (by kernel_rfl) (fun _ _ _ h => h) (Or.inl ⟨by rfl, fun w' hSw => by (try dsimp only at hSw); obtain ⟨hs0, hs1, hs2⟩ := hSw; go_simp⟩) hSx ?_
            try simp only [Act.put]
            refine wpAnyH_take (i := 6) (v := .int .i64 (y : Int)) rfl (by kernel_rfl) (by kernel_rfl) (by kernel_rfl) (fun _ _ _ h => h) (Or.inl ⟨by rfl, fun w' hSw => by (try dsimp only at hSw); obtain ⟨hs0, hs1, hs2⟩ := hSw; go_simp⟩) hSx ?_
            try simp only [Act.put]
            refine wpAnyH_take (i := 7) (v := .slice (some ⟨rq, ro, none⟩) 3 rc) rfl (by kernel_rfl) (by kernel_rfl) (by kernel_rfl) (fun _ _ _ h => h) (Or.inl ⟨by rfl, fun w' hSw => by (try dsimp only at hSw); obtain ⟨hs0, hs1, hs2⟩ := hSw; go_simp⟩) hSx ?_
            try simp only [Act.put]
            refine wpAnyH_take (i := 8) (v := .pointer (some ⟨rq, ro + 2, none⟩)) rfl (by kernel_rfl) (by kernel_rfl) (by kernel_rfl) (fun _ _ _ h => h) (Or.inl ⟨by rfl, fun w' hSw => by (try dsimp only at hSw); obtain ⟨hs0, hs1, hs2⟩ := hSw; go_simp⟩) hSx ?_
            try simp only [Act.put]
            refine wpAnyH_take (i := 9) (v := .int .i64 (z : Int)) rfl (by kernel_rfl) (by kernel_rfl) (by kernel_rfl) (fun _ _ _ h => h) (Or.inl ⟨by rfl, fun w' hSw => by (try dsimp only at hSw); obtain ⟨hs0, hs1, hs2⟩ := hSw; go_simp⟩) hSx ?_
            try simp only [Act.put]
            refine wpAnyH_ready (rs := [10]) (by kernel_rfl) (by simp) ?_
            refine AllReadyH.cons rfl (fun J hJ => ?_) AllReadyH.nil
            go_simp
            refine (CL2.out).mono ?_
            rintro e w4 ⟨rfl, hG4, hK4⟩
            clear CL2
            go_wp2_with fail
            refine hJ.out _ _ (HCW.out _ hK4) (fun hSx => ?_)
            clear hJ J
            try simp only [Act.put, List.setIfInBounds_toArray, List.set_cons_zero, List.set_cons_succ]
            refine wpAnyH_take (i := 11) (v := .bool false) rfl (by kernel_rfl) (by kernel_rfl) (by kernel_rfl) (fun _ _ _ h => h) (Or.inl ⟨by rfl, fun w' hSw => by (try dsimp only at hSw); obtain ⟨hs0, hs1, hs2⟩ := hSw; go_simp⟩) hSx ?_
            try simp only [Act.put, List.setIfInBounds_toArray]
            refine wpAnyH_done (by kernel_rfl) ?_ _
            refine NoPanic.normal ?_
            clear hSx
            go_wp2
            go_roundw
            case rel => exact ⟨k + 1, by go_num, by omega, HPN, hG4, hK4⟩
            case measure => simp [intOf]; omega
          · have HMB : Hid (GfT (v : Int) ls 6) := HMK.out L HLS.out HR3.out (pk_not hc hxy hyz hzv hcv)
            rw [hcv] at CL
            have CL2 : Hid (Calls Tryd.prog 12 #[.pointer (some ⟨gb, 0, none⟩), .int .i64 (x : Int), .int .i64 (y : Int), .int .i64 (z : Int)] wr.drew fun e w' => e = .returned (.bool false) ∧ w' = wr.drew) := by
              refine CL.mono ?_
              rintro e w' (⟨_, rfl, hw⟩ | ⟨h0, _⟩)
              · exact ⟨rfl, hw⟩
              · cases h0
            clear CL hcv hcell hcw hrow hs hsw hG hK hGd hc hli
            go_wp2
            clear rc0
            refine wp_region_noPanic ?_
            refine wp_region_held_drew (S := fun w' => w'.cell? ⟨rq, ro, none⟩ = some (.int .i64 (x : Int)) ∧ w'.cell? ⟨rq, ro + 1, none⟩ = some (.int .i64 (y : Int)) ∧ w'.cell? ⟨rq, ro + 2, none⟩ = some (.int .i64 (z : Int))) (by kernel_rfl) (HCW.out _ HKD.out) (fun hSx => ?_)
            refine wpAnyH_take (i := 0) (v := .pointer (some ⟨gb, 0, none⟩)) rfl (by kernel_rfl) (by kernel_rfl) (by kernel_rfl) (fun _ _ _ h => h) (Or.inl ⟨by rfl, fun w' hSw => by (try dsimp only at hSw); obtain ⟨hs0, hs1, hs2⟩ := hSw; go_simp⟩) hSx ?_
            try simp only [Act.put, List.setIfInBounds_toArray]
            refine wpAnyH_take (i := 1) (v := .slice (some ⟨rq, ro, none⟩) 3 rc) rfl (by kernel_rfl) (by kernel_rfl) (by kernel_rfl) (fun _ _ _ h => h) (Or.inl ⟨by rfl, fun w' hSw => by (try dsimp only at hSw); obtain ⟨hs0, hs1, hs2⟩ := hSw; go_simp⟩) hSx ?_
            try simp only [Act.put]
            refine wpAnyH_take (i := 2) (v := .pointer (some ⟨rq, ro, none⟩)) rfl (by kernel_rfl) (by kernel_rfl) (by kernel_rfl) (fun _ _ _ h => h) (Or.inl ⟨by rfl, fun w' hSw => by (try dsimp only at hSw); obtain ⟨hs0, hs1, hs2⟩ := hSw; go_simp⟩) hSx ?_
            try simp only [Act.put]
            refine wpAnyH_take (i := 3) (v := .int .i64 (x : Int)) rfl (by kernel_rfl) (by kernel_rfl) (by kernel_rfl) (fun _ _ _ h => h) (Or.inl ⟨by rfl, fun w' hSw => by (try dsimp only at hSw); obtain ⟨hs0, hs1, hs2⟩ := hSw; go_simp⟩) hSx ?_
            try simp only [Act.put]
            refine wpAnyH_take (i := 4) (v := .slice (some ⟨rq, ro, none⟩) 3 rc) rfl (by kernel_rfl) (by kernel_rfl) (by kernel_rfl) (fun _ _ _ h => h) (Or.inl ⟨by rfl, fun w' hSw => by (try dsimp only at hSw); obtain ⟨hs0, hs1, hs2⟩ := hSw; go_simp⟩) hSx ?_
            try simp only [Act.put]
            refine wpAnyH_take (i := 5) (v := .pointer (some ⟨rq, ro + 1, none⟩)) rfl (by kernel_rfl) (by kernel_rfl) (by kernel_rfl) (fun _ _ _ h => h) (Or.inl ⟨by rfl, fun w' hSw => by (try dsimp only at hSw); obtain ⟨hs0, hs1, hs2⟩ := hSw; go_simp⟩) hSx ?_
            try simp only [Act.put]
            refine wpAnyH_take (i := 6) (v := .int .i64 (y : Int)) rfl (by kernel_rfl) (by kernel_rfl) (by kernel_rfl) (fun _ _ _ h => h) (Or.inl ⟨by rfl, fun w' hSw => by (try dsimp only at hSw); obtain ⟨hs0, hs1, hs2⟩ := hSw; go_simp⟩) hSx ?_
            try simp only [Act.put]
            refine wpAnyH_take (i := 7) (v := .slice (some ⟨rq, ro, none⟩) 3 rc) rfl (by kernel_rfl) (by kernel_rfl) (by kernel_rfl) (fun _ _ _ h => h) (Or.inl ⟨by rfl, fun w' hSw => by (try dsimp only at hSw); obtain ⟨hs0, hs1, hs2⟩ := hSw; go_simp⟩) hSx ?_
            try simp only [Act.put]
            refine wpAnyH_take (i := 8) (v := .pointer (some ⟨rq, ro + 2, none⟩)) rfl (by kernel_rfl) (by kernel_rfl) (by kernel_rfl) (fun _ _ _ h => h) (Or.inl ⟨by rfl, fun w' hSw => by (try dsimp only at hSw); obtain ⟨hs0, hs1, hs2⟩ := hSw; go_simp⟩) hSx ?_
            try simp only [Act.put]
            refine wpAnyH_take (i := 9) (v := .int .i64 (z : Int)) rfl (by kernel_rfl) (by kernel_rfl) (by kernel_rfl) (fun _ _ _ h => h) (Or.inl ⟨by rfl, fun w' hSw => by (try dsimp only at hSw); obtain ⟨hs0, hs1, hs2⟩ := hSw; go_simp⟩) hSx ?_
            try simp only [Act.put]
            refine wpAnyH_ready (rs := [10]) (by kernel_rfl) (by simp) ?_
            refine AllReadyH.cons rfl (fun J hJ => ?_) AllReadyH.nil
            go_simp
            refine (CL2.out).mono ?_
            rintro e w4 ⟨rfl, hw⟩
            replace hw := hw.symm
            subst hw
            clear CL2
            go_wp2_with fail
            refine hJ.out _ _ (HCW.out _ HKD.out) (fun hSx => ?_)
            clear hJ J
            try simp only [Act.put, List.setIfInBounds_toArray, List.set_cons_zero, List.set_cons_succ]
            refine wpAnyH_take (i := 11) (v := .bool true) rfl (by kernel_rfl) (by kernel_rfl) (by kernel_rfl) (fun _ _ _ h => h) (Or.inl ⟨by rfl, fun w' hSw => by (try dsimp only at hSw); obtain ⟨hs0, hs1, hs2⟩ := hSw; go_simp⟩) hSx ?_
            try simp only [Act.put, List.setIfInBounds_toArray]
            refine wpAnyH_done (by kernel_rfl) ?_ _
            refine NoPanic.normal ?_
            clear hSx
            have H7 : Hid (_ ∧ _) := HNW.out _ hKd
            have H8 : Hid (_ ∧ _) := HWW.out _ hKd
            have hr := (HWW.out wr HKU.out).1
            have z0 := frozen_of_row _ _ 0 _ _ hr
            have z1 := frozen_of_row _ _ 1 _ _ hr
            have y0 := cell_of_row _ _ 0 _ _ _ hr
            have y1 := cell_of_row _ _ 1 _ _ _ hr
            clear hr hKd
            have HU := HNW.out wr HKU.out
            have H9 : Hid (((wr.setCell ⟨w.heap.size, 0, none⟩ (.int .i64 0)).setCell ⟨w.heap.size, 1, none⟩ (.slice none 0 0)).drew.heap[w.heap.size]? = some (.cells #[.int .i64 0, .slice none 0 0] 25 (0, 0)) ∧ Below w.heap.size w ((wr.setCell ⟨w.heap.size, 0, none⟩ (.int .i64 0)).setCell ⟨w.heap.size, 1, none⟩ (.slice none 0 0)).drew) := ⟨HU.1, HU.2.drew⟩
            clear HU
            go_wp2
            first
              | exact post_d2 4 5 rfl rfl H9.out.1 rfl rfl (GoP.bad HMB.out (by omega) H9.out.2)
              | exact post_d2 4 5 rfl rfl H8.out.1 rfl rfl (GoP.bad HMB.out (by omega) H8.out.2)
              | exact post_d2 4 5 rfl rfl H7.out.1 rfl rfl (GoP.bad HMB.out (by omega) H7.out.2)
        · have hdk : decide ((k : Int) < (i : Int)) = false := by simp; omega
          have hki : ¬ (k : Int) < (i : Int) := by omega
          obtain rfl : k = i := by omega
          have eL := HG2.out _ rfl
          rw [eL] at hG HP
          have CF := fill_any v (gb + 1) gb h9 12 L wr hG HP.out (by omega)
          have HKW : Hid (Kp (gb + 1) gb w3 wr) := hK
          cases hgr : gr v 12 L with
          | none =>
            have CF2 : Hid (Calls Tryd.prog 13 #[.pointer (some ⟨gb, 0, none⟩)] wr fun e w' => e = .returned (.bool false) ∧ Kp (gb + 1) gb w3 w') := by
              refine CF.mono ?_
              rintro e w' (⟨R', e1, _⟩ | ⟨_, rfl, _, hk⟩)
              · rw [hgr] at e1; cases e1
              · exact ⟨rfl, hK.trans hk⟩
            have HGO : Hid (GoT (v : Int) ls 0 4 []) := HOK.out L 0 4 [] HLS.out HP.out (.inl ⟨hgr, rfl, rfl, rfl⟩)
            clear CF hgr hG hK eL
            go_wp2_with (go_at_call 13; refine CF2.out.mono ?_; rintro e w4 ⟨rfl, hk⟩; clear CF2; have H7 : Hid (_ ∧ _) := HNW.out w4 hk; have H8 : Hid (_ ∧ _) := HWW.out w4 hk; have hr := H8.out.1; have z0 := frozen_of_row _ _ 0 _ _ hr; have z1 := frozen_of_row _ _ 1 _ _ hr; have y0 := cell_of_row _ _ 0 _ _ _ hr; have y1 := cell_of_row _ _ 1 _ _ _ hr; clear hr hk)
            first
              | exact post_d2 4 5 rfl rfl H8.out.1 rfl rfl ⟨_, [], 0, 4, rfl, HGO.out, OR.nil _ _, H8.out.2⟩
              | exact post_d2 4 5 rfl rfl H7.out.1 rfl rfl ⟨_, [], 0, 4, rfl, HGO.out, OR.nil _ _, H7.out.2⟩
          | some R =>
            have CF2 : Hid (Calls Tryd.prog 13 #[.pointer (some ⟨gb, 0, none⟩)] wr fun e w' => e = .returned (.bool true) ∧ Gr w' (gb + 1) gb v R ∧ Kp (gb + 1) gb w3 w') := by
              refine CF.mono ?_
              rintro e w' (⟨R', e1, rfl, hg, hk⟩ | ⟨e1, _⟩)
              · rw [hgr] at e1
                cases e1
                exact ⟨rfl, hg, hK.trans hk⟩
              · rw [hgr] at e1; cases e1
            obtain ⟨pR, _, _⟩ := gr_sys HP.out hgr
            have HTE : Hid (∀ W, Gr W (gb + 1) gb v R → Calls Tryd.prog 14 #[.pointer (some ⟨gb, 0, none⟩), .int .i64 (v : Int)] W fun e w' => ∃ x Z, e = .returned (.agg #[.int .i64 (v : Int), x]) ∧ Srtd R Z ∧ OR w' (gb + 1) x Z ∧ Below (gb + 1) W w') := fun W hW => tell_any v (gb + 1) gb 44 _ R W hW pR.three (by have := pR.few h9; omega)
            have HGO : Hid (∀ Z, Srtd R Z → GoT (v : Int) ls (v : Int) 0 Z) := fun Z hZ => HOK.out L _ 0 Z HLS.out HP.out (.inr ⟨R, hgr, rfl, rfl, hZ⟩)
            clear CF hgr hG hK eL pR
            go_wp2_with (first
              | (go_at_call 13; refine CF2.out.mono ?_; rintro e w4 ⟨rfl, hg, hk⟩; clear CF2; have HG4 : Hid (Gr w4 (gb + 1) gb v R) := hg; have HK4 : Hid (Kp (gb + 1) gb w3 w4) := hk; clear hg hk)
              | (go_at_call 14; refine (HTE.out w4 HG4.out).mono ?_; rintro e w5 ⟨tx, Z, rfl, hS, hO, hb⟩; clear HTE; have hr : w5.heap[w.heap.size]? = _ := (hb.block _ (by omega)).trans (HWW.out w4 HK4.out).1; obtain ⟨xa, xc, rfl⟩ := hO.cap; have HS5 : Hid (Srtd R Z) := hS; have H7 : Hid (_ ∧ _ ∧ _) := res_putO (p := (v : Int)) hr ((HWW.out w4 HK4.out).2.trans (hb.mono (by omega))) (Nat.le_refl _) (by omega) hO; have z0 := frozen_of_row _ _ 0 _ _ hr; have z1 := frozen_of_row _ _ 1 _ _ hr; have y0 := cell_of_row _ _ 0 _ _ _ hr; have y1 := cell_of_row _ _ 1 _ _ _ hr; generalize Z.length = zl at *; clear hr hb hO hS))
            exact post_d2 4 5 rfl rfl H7.out.1 rfl rfl ⟨_, Z, _, 0, rfl, HGO.out Z HS5.out, H7.out.2.1, H7.out.2.2⟩
theorem Grow_any (v : Int) (ls : List (List Int)) (u : Value) (w : World) (hu : Rw w u ls) (hl : ls.length ≤ maxLen) (hll : ∀ l ∈ ls, l.length ≤ maxLen) : Calls Tryd.prog 5 #[.int .i64 v, u] w (GoP v ls w) := by
  have hu' : ∃ a c, u = .slice a ls.length c := by
    obtain ⟨a, c, e, _⟩ := hu
    exact ⟨a, c, e⟩
  by_cases h1 : v < 1 ∨ 9 < v
  · exact Grow_far v ls _ u w hu' h1
  · by_cases h2 : 200 < ls.length
    · exact Grow_many v ls u w hu' (by omega) (by omega) hl h2
    · obtain ⟨n, rfl⟩ : ∃ n : Nat, v = n := ⟨v.toNat, by omega⟩
      exact Grow_in n ls u w (by omega) (by omega) (by omega) hll hu

end Go.Proofs.YtdeofjmgjhfkcabDoor

/- The walk of Passes. -/
namespace Go.Proofs.YtdeofjmgjhfkcabDoor
open Go.RowKit

set_option maxRecDepth 100000 in
set_option maxHeartbeats 4000000 in
theorem Passes_bad (p f : Int) (hf : f ≠ 0) (n : Nat) (u : Value) (w : World) (hu : ∃ a c, u = .slice a n c)
    (C : Hid (∀ W, Below w.heap.size w W → Calls Tryd.prog 10 #[.agg #[.int .i64 p, u]] W fun e w' => e = .returned (.int .i64 f) ∧ Below W.heap.size W w')) :
    Calls Tryd.prog 7 #[.agg #[.int .i64 p, u]] w fun e w' => e = .returned (.tuple #[.int .i64 0, .int .i64 f]) ∧ Below w.heap.size w w' := by
  obtain ⟨x0, x1⟩ := des_box p u w _ (Below.refl _ _)
  have HB0 : Hid (Below w.heap.size w (w.alloc (.cells #[.int .i64 p, u] 25))) := balloc _ _
  obtain ⟨ua, uc, rfl⟩ := hu
  have g1 : (f != 0) = true := by simp; omega
  have g2 : ¬ f = 0 := hf
  go_enter Tryd.func7, Tryd.ntmps7
  go_wp2_with (go_at_call 10; refine (C.out _ HB0.out).mono ?_; rintro e w1 ⟨rfl, hb⟩; clear C; have HB1 : Hid (Below w.heap.size w w1) := Below.next HB0.out hb; clear hb)
  exact bodyPost_ret (v := .tuple #[.int .i64 0, .int .i64 f]) (by simp [results, Tryd.results7, go_sem]) rfl ⟨rfl, HB1.out⟩
theorem rows_nd {v : Nat} {B : List (List Nat)} (s : Sys v B) : ∀ b ∈ B, b.length = 3 ∧ (∀ x ∈ b, x < v) ∧ b.Nodup := fun b hb => ⟨s.sz b hb, fun x hx => (s.bl b hb).lt x hx, (s.bl b hb).1⟩
set_option maxRecDepth 100000 in
set_option maxHeartbeats 4000000 in
theorem Passes_good (v : Nat) (B : List (List Nat)) (u : Value) (w : World) (s : Sys v B) (G : GoodD v B) (hu : Rw w u (toZ B))
    (C : Hid (∀ W, Below w.heap.size w W → Calls Tryd.prog 10 #[.agg #[.int .i64 (v : Int), u]] W fun e w' => e = .returned (.int .i64 0) ∧ Below W.heap.size W w')) :
    Calls Tryd.prog 7 #[.agg #[.int .i64 (v : Int), u]] w fun e w' => e = .returned (.tuple #[.int .i64 ((mO (thB B) v v / 24 : Nat) : Int), .int .i64 0]) ∧ Below w.heap.size w w' := by
  have HC : Hid (∀ W, Below (w.alloc (.cells #[.int .i64 (v : Int), u] 25)).heap.size (w.alloc (.cells #[.int .i64 (v : Int), u] 25)) W → W.cell? ⟨w.heap.size, 0, none⟩ = some (.int .i64 (v : Int)) ∧ W.cell? ⟨w.heap.size, 1, none⟩ = some u) := des_box v u w
  have HB0 : Hid (Below w.heap.size w (w.alloc (.cells #[.int .i64 (v : Int), u] 25))) := balloc _ _
  obtain ⟨w0, Hw0⟩ : ∃ w0, Hid (w0 = w.alloc (.cells #[.int .i64 (v : Int), u] 25)) := ⟨_, rfl⟩
  rw [← Hw0.out] at HC HB0
  have HTH : Hid (∀ W, Below w.heap.size w W → Calls Tryd.prog 19 #[.agg #[.int .i64 (v : Int), u]] W fun e w' => ∃ g h, e = .returned (.slice (some ⟨g, 0, none⟩) v v) ∧ Tb w' g v v h (thB B) ∧ Below W.heap.size W w') := fun W b => thirds_any v B u W G.le G.few (rows_nd s) (hu.below b)
  have HPA : Hid (∀ (W : World) (g : Nat) (h : Nat → Nat), Tb W g v v h (thB B) → Calls Tryd.prog 18 #[.int .i64 (v : Int), .slice (some ⟨g, 0, none⟩) v v] W fun e w' => e = .returned (.int .i64 ((mO (thB B) v v / 24 : Nat) : Int)) ∧ Below W.heap.size W w') := fun W g h t => passes_any v g h (thB B) W G.le t fun x y hx hy hn => th_lt s (thB_th s) hx hy hn
  obtain ⟨ua, uc, eu, _⟩ := hu
  have el : (toZ B).length = B.length := by simp [toZ]
  rw [el] at eu
  subst eu
  obtain ⟨x0, x1⟩ := HC.out w0 (Below.refl _ _)
  rw [Hw0.out] at x0 x1
  generalize mO (thB B) v v / 24 = Z at *
  generalize B.length = n at *
  go_enter Tryd.func7, Tryd.ntmps7
  go_wp2_with (go_at_call 10; rw [← Hw0.out]; refine (C.out _ HB0.out).mono ?_; rintro e w1 ⟨rfl, hb⟩; clear C; have HB1 : Hid (Below w.heap.size w w1) := Below.next HB0.out hb; have HS : Hid (∀ W', Below w1.heap.size w1 W' → (W'.cell? ⟨w.heap.size, 0, none⟩ = some (.int .i64 (v : Int)) ∧ W'.cell? ⟨w.heap.size, 1, none⟩ = some (.slice ua n uc))) := fun W' h => HC.out _ (Below.next hb h); clear hb)
  refine wp_region_noPanic ?_
  refine wp_region_held_drew (S := fun w' => w'.cell? ⟨w.heap.size, 0, none⟩ = some (.int .i64 (v : Int)) ∧ w'.cell? ⟨w.heap.size, 1, none⟩ = some (.slice ua n uc)) (by kernel_rfl) (HS.out _ (Below.refl _ w1).drew) (fun hSx => ?_)
  refine wpAnyH_take (i := 0) (v := .pointer (some ⟨w.heap.size, 0, none⟩)) rfl (by kernel_rfl) (by kernel_rfl) (by kernel_rfl) (fun _ _ _ h => h) (Or.inl ⟨by rfl, fun w' hSw => by (try dsimp only at hSw); obtain ⟨hs0, hs1⟩ := hSw; go_simp⟩) hSx ?_
  try simp only [Act.put, List.setIfInBounds_toArray]
  refine wpAnyH_take (i := 1) (v := .int .i64 (v : Int)) rfl (by kernel_rfl) (by kernel_rfl) (by kernel_rfl) (fun _ _ _ h => h) (Or.inl ⟨by rfl, fun w' hSw => by (try dsimp only at hSw); obtain ⟨hs0, hs1⟩ := hSw; go_simp⟩) hSx ?_
  try simp only [Act.put]
  refine wpAnyH_take (i := 2) (v := .agg #[.int .i64 (v : Int), .slice ua n uc]) rfl (by kernel_rfl) (by kernel_rfl) (by kernel_rfl) (fun _ _ _ h => h) (Or.inl ⟨by rfl, fun w' hSw => by (try dsimp only at hSw); obtain ⟨hs0, hs1⟩ := hSw; go_simp⟩) hSx ?_
  try simp only [Act.put]
  refine wpAnyH_ready (rs := [3]) (by kernel_rfl) (by simp) ?_
  refine AllReadyH.cons rfl (fun J hJ => ?_) AllReadyH.nil
  go_simp
  refine (HTH.out w1.drew (Below.next HB1.out (Below.refl _ w1).drew)).mono ?_
  rintro e w2 ⟨g, h, rfl, hT, hb2⟩
  have hb12 : Below w1.heap.size w1 w2 := Below.next (Below.refl _ w1).drew hb2
  go_wp2_with fail
  refine hJ.out _ _ (HS.out _ hb12) (fun hSx => ?_)
  clear hJ J
  try simp only [Act.put, List.setIfInBounds_toArray, List.set_cons_zero, List.set_cons_succ]
  refine wpAnyH_ready (rs := [4]) (by kernel_rfl) (by simp) ?_
  refine AllReadyH.cons rfl (fun J hJ => ?_) AllReadyH.nil
  go_simp
  refine (HPA.out w2 g h hT).mono ?_
  rintro e w3 ⟨rfl, hb3⟩
  have hb13 : Below w1.heap.size w1 w3 := Below.next hb12 hb3
  go_wp2_with fail
  refine hJ.out _ _ (HS.out _ hb13) (fun hSx => ?_)
  clear hJ J
  try simp only [Act.put, List.setIfInBounds_toArray, List.set_cons_zero, List.set_cons_succ]
  refine wpAnyH_ready (rs := [5]) (by kernel_rfl) (by simp) ?_
  refine AllReadyH.cons rfl (fun J hJ => ?_) AllReadyH.nil
  go_simp
  refine hJ.out _ _ (HS.out _ hb13) (fun hSx => ?_)
  clear hJ J
  try simp only [Act.put, List.setIfInBounds_toArray, List.set_cons_zero, List.set_cons_succ]
  refine wpAnyH_ready (rs := [6]) (by kernel_rfl) (by simp) ?_
  refine AllReadyH.cons rfl (fun J hJ => ?_) AllReadyH.nil
  go_simp
  refine hJ.out _ _ (HS.out _ hb13) (fun hSx => ?_)
  clear hJ J
  try simp only [Act.put, List.setIfInBounds_toArray, List.set_cons_zero, List.set_cons_succ]
  refine wpAnyH_done (by kernel_rfl) ?_ _
  refine NoPanic.normal ?_
  go_wp2
  exact bodyPost_ret (v := .tuple #[.int .i64 (Z : Int), .int .i64 0]) (by simp [results, Tryd.results7, go_sem]) rfl ⟨rfl, Below.next HB1.out hb13⟩

end Go.Proofs.YtdeofjmgjhfkcabDoor

/- The law TripleKirkman. -/
/- The systems that are made are systems. -/
namespace Go.Proofs.YtdeofjmgjhfkcabDoor
open Go.RowKit

theorem nb_perm' {A B : List (List Nat)} (h : A.Perm B) (s : List Nat) : nb A s = nb B s := h.countP_eq _
theorem nb_s3 (L : List (List Nat)) (s : List Nat) : nb (L.map s3) s = nb L s := by
  unfold nb
  rw [List.countP_map]
  refine List.countP_congr fun b _ => ?_
  simp [s3_mem]
theorem sys_perm {v : Nat} {A B : List (List Nat)} (h : A.Perm B) (s : Sys v A) : Sys v B :=
  ⟨fun b hb => s.bl b (h.mem_iff.2 hb), fun b hb => s.sz b (h.mem_iff.2 hb), fun p q hp hq hn => by rw [← nb_perm' h]; exact s.l2 p q hp hq hn⟩
theorem sys_s3 {v : Nat} {A : List (List Nat)} (s : Sys v A) : Sys v (A.map s3) := by
  refine ⟨fun b hb => ?_, fun b hb => ?_, fun p q hp hq hn => by rw [nb_s3]; exact s.l2 p q hp hq hn⟩
  · obtain ⟨c, hc, rfl⟩ := List.mem_map.1 hb
    have := s.bl c hc
    exact ⟨(s3_perm c).nodup_iff.2 this.1, fun x hx => this.lt x (s3_mem.1 hx)⟩
  · obtain ⟨c, hc, rfl⟩ := List.mem_map.1 hb
    rw [s3_len]; exact s.sz c hc
theorem mkL_sys {n : Nat} (h3 : n ≤ 33) (h : n % 6 = 1 ∨ n % 6 = 3) : Sys n (mkL n) := by
  unfold mkL
  by_cases h1 : n % 6 = 1
  · rw [if_pos h1]
    refine sys_perm (docK_perm _) (sys_s3 ?_)
    have hq : n = 6 * (n / 6) + 1 := by omega
    have h5 : n / 6 ≤ 5 := by omega
    generalize n / 6 = t at *
    subst hq
    match t, h5 with
    | 0, _ => exact chk_sys docK0
    | 1, _ => exact chk_sys docK1
    | 2, _ => exact chk_sys docK2
    | 3, _ => exact chk_sys docK3
    | 4, _ => exact chk_sys docK4
    | 5, _ => exact chk_sys docK5
  · rw [if_neg h1]
    refine sys_perm (docB_perm _) (sys_s3 ?_)
    have hq : n = 6 * (n / 6) + 3 := by omega
    have h5 : n / 6 ≤ 5 := by omega
    generalize n / 6 = t at *
    subst hq
    match t, h5 with
    | 0, _ => exact chk_sys docB0
    | 1, _ => exact chk_sys docB1
    | 2, _ => exact chk_sys docB2
    | 3, _ => exact chk_sys docB3
    | 4, _ => exact chk_sys docB4
    | 5, _ => exact chk_sys docB5
theorem rise_s3 {b : List Nat} (hn : b.Nodup) (h : b.Pairwise (· ≤ ·)) : b.Pairwise (· < ·) :=
  (h.and hn).imp fun ⟨a, b⟩ => Nat.lt_of_le_of_ne a b
/-- A system whose points and blocks are in order is a design. -/
theorem sys_good {v : Nat} {L Z : List (List Nat)} (hv : 1 ≤ v) (h33 : v ≤ 33) (s : Sys v L) (hS : Srtd L Z) (hs3 : ∀ b ∈ L, b.Pairwise (· ≤ ·)) : Sys v Z ∧ GoodD v Z := by
  have sZ : Sys v Z := sys_perm hS.perm.symm s
  have hl := sys_len sZ
  refine ⟨sZ, hv, by omega, ?_, fun b hb => rs_iff.2 ⟨rise_s3 (sZ.bl b hb).1 (hs3 b (hS.perm.mem_iff.1 hb)), fun x hx => ⟨Nat.zero_le _, (sZ.bl b hb).lt x hx⟩⟩⟩
  have : v * (v - 1) ≤ 33 * 32 := Nat.mul_le_mul h33 (by omega)
  omega
theorem mkL_s3 (n : Nat) : ∀ b ∈ mkL n, b.Pairwise (· ≤ ·) := by
  have key : ∀ {M : List (List Nat)} {L : List (List Nat)}, (M.map s3).Perm L → ∀ b ∈ L, b.Pairwise (· ≤ ·) := fun h b hb => by
    obtain ⟨c, _, rfl⟩ := List.mem_map.1 (h.mem_iff.2 hb)
    exact s3_le c
  unfold mkL
  by_cases h : n % 6 = 1
  · rw [if_pos h]; exact key (docK_perm _)
  · rw [if_neg h]; exact key (docB_perm _)
/-- How many points a system may have. -/
theorem sys_mod {v : Nat} {B : List (List Nat)} (hv : 1 ≤ v) (s : Sys v B) : v % 6 = 1 ∨ v % 6 = 3 := by
  by_cases h3 : v ≤ 3
  · by_cases h2 : v = 2
    · exfalso
      subst h2
      have h := s.l2 0 1 (by omega) (by omega) (by omega)
      have : 0 < nb B [0, 1] := by omega
      unfold nb at this
      obtain ⟨b, hb, _⟩ := List.countP_pos_iff.1 this
      have h1 := (s.bl b hb).le
      have h2 := s.sz b hb
      omega
    · omega
  · have hL := (sys_lev s.bl (by omega)).1 s
    obtain ⟨r, T⟩ := two_of s.bl s.sz (by omega) (by omega) hL.2.2
    exact (kirkman_mod T (by omega)).2

end Go.Proofs.YtdeofjmgjhfkcabDoor

namespace Go.Proofs.YtdeofjmgjhfkcabDoor
open Go.RowKit

theorem TfT.same {p e e' : Int} {ls : List (List Int)} (h : TfT p ls e) (h' : TfT p ls e') : e = e' := TfT.one (fun v B e1 e2 G => by rw [e1, e2]; exact good_dF G) h h'
theorem good_short {v : Nat} {B : List (List Nat)} (G : GoodD v B) : (toZ B).length ≤ maxLen ∧ ∀ l ∈ toZ B, l.length ≤ maxLen := by
  refine ⟨by have := G.few; simp [toZ]; unfold maxLen; omega, fun l hl => ?_⟩
  obtain ⟨b, hb, rfl⟩ := List.mem_map.1 hl
  have := G.len hb
  rw [List.length_map]; unfold maxLen; omega
theorem Make_good (n : Nat) (w : World) (h1 : 1 ≤ n) (h3 : n ≤ 33) (h : n % 6 = 1 ∨ n % 6 = 3) :
    Calls Tryd.prog 9 #[.int .i64 (n : Int)] w fun e w' => ∃ x Z, e = .returned (.tuple #[.agg #[.int .i64 (n : Int), x], .int .i64 0]) ∧ (Sys n Z ∧ GoodD n Z) ∧ Rw w' x (toZ Z) ∧ Below w.heap.size w w' := by
  have key : ∀ {Z}, Srtd (mkL n) Z → Sys n Z ∧ GoodD n Z := fun hS => sys_good h1 h3 (mkL_sys h3 h) hS (mkL_s3 n)
  by_cases h6 : n % 6 = 1
  · refine (Make_sk n w h1 h3 h6).mono ?_
    rintro e w' ⟨x, Z, rfl, hS, hR, hb⟩
    exact ⟨x, Z, rfl, key (by unfold mkL; rw [if_pos h6]; exact hS), hR, hb⟩
  · refine (Make_bo n w h1 h3 (by omega)).mono ?_
    rintro e w' ⟨x, Z, rfl, hS, hR, hb⟩
    exact ⟨x, Z, rfl, key (by unfold mkL; rw [if_neg h6]; exact hS), hR, hb⟩
theorem TCheck_sys (v : Nat) (B : List (List Nat)) (u : Value) (w : World) (s : Sys v B) (G : GoodD v B) (hu : Rw w u (toZ B)) :
    Calls Tryd.prog 10 #[.agg #[.int .i64 (v : Int), u]] w fun e w' => e = .returned (.int .i64 0) ∧ Below w.heap.size w w' := by
  obtain ⟨g1, g2⟩ := good_short G
  refine (TCheck_any v (toZ B) u w hu g1 g2).mono ?_
  rintro e w' ⟨f, rfl, hT, hb⟩
  rw [hT.same (.inr ⟨v, B, rfl, rfl, G, .inl ⟨s, rfl⟩⟩)]
  exact ⟨rfl, hb⟩
set_option maxRecDepth 100000 in
set_option maxHeartbeats 4000000 in
theorem Fact_any (w : World) : Calls Tryd.prog 4 #[] w fun e w' => e = .returned (.bool true) ∧ Below w.heap.size w w' := by
  have C1 : Hid (∀ W, Calls Tryd.prog 9 #[.int .i64 7] W fun e w' => ∃ x Z, e = .returned (.tuple #[.agg #[.int .i64 7, x], .int .i64 0]) ∧ (Sys 7 Z ∧ GoodD 7 Z) ∧ Rw w' x (toZ Z) ∧ Below W.heap.size W w') := fun W => Make_good 7 W (by omega) (by omega) (by omega)
  have HDB : Hid (∀ (p : Int) (y : Value) (W0 W : World), Below (W0.alloc (.cells #[.int .i64 p, y] 25)).heap.size (W0.alloc (.cells #[.int .i64 p, y] 25)) W → W.cell? ⟨W0.heap.size, 0, none⟩ = some (.int .i64 p) ∧ W.cell? ⟨W0.heap.size, 1, none⟩ = some y) := fun p y W0 W h => des_box p y W0 W h
  go_enter Tryd.func4, Tryd.ntmps4
  go_wp2_with (first
    | (go_at_call 9; refine (C1.out _).mono ?_; rintro e w1 ⟨x, Z, rfl, ⟨hs, hG⟩, hR, hB⟩; clear C1; obtain ⟨xa, xc, rfl⟩ := rw_form hR; have hl : Z.length = 7 := (by have := sys_len hs; omega); have bb := balloc w1 (.cells #[.int .i64 7, .slice xa Z.length xc] 25); have C2 : Hid (Calls Tryd.prog 10 #[.agg #[.int .i64 7, .slice xa Z.length xc]] (w1.alloc (.cells #[.int .i64 7, .slice xa Z.length xc] 25)) fun e w' => e = .returned (.int .i64 0) ∧ Below (w1.alloc (.cells #[.int .i64 7, .slice xa Z.length xc] 25)).heap.size (w1.alloc (.cells #[.int .i64 7, .slice xa Z.length xc] 25)) w') := TCheck_sys 7 Z _ _ hs hG (hR.below bb); have HB : Hid (Below w.heap.size w (w1.alloc (.cells #[.int .i64 7, .slice xa Z.length xc] 25))) := Below.next hB bb; rw [hl] at C2 HB ⊢; clear hs hG hR hB bb hl)
    | (go_at_call 10; refine C2.out.mono ?_; rintro e w2 ⟨rfl, hb⟩; clear C2; obtain ⟨k0, k1⟩ := HDB.out _ _ _ _ hb; have HB2 : Hid (Below w.heap.size w w2) := Below.next HB.out hb; clear hb))
  go_ret
  exact ⟨rfl, HB2.out⟩
/-- The answer of Check is one. -/
theorem TCheck_one (p : Int) (ls : List (List Int)) : ∃ f : Int, TfT p ls f ∧ (f = 0 → ∃ v B, p = ((v : Nat) : Int) ∧ ls = toZ B ∧ GoodD v B ∧ Sys v B) := by
  by_cases hz : dF p ls = 0
  · obtain ⟨v, B, e1, e2, G⟩ := dF_ok hz
    by_cases hs : Sys v B
    · exact ⟨0, .inr ⟨v, B, e1, e2, G, .inl ⟨hs, rfl⟩⟩, fun _ => ⟨v, B, e1, e2, G, hs⟩⟩
    · exact ⟨4, .inr ⟨v, B, e1, e2, G, .inr ⟨hs, rfl⟩⟩, fun h => by omega⟩
  · exact ⟨dF p ls, .inl ⟨hz, rfl⟩, fun h => by omega⟩
/-- The walks of the law, one a case. -/
theorem kirk_cases : True := trivial
end Go.Proofs.YtdeofjmgjhfkcabDoor

/- What Grow answers, of nine points or seven: a system, or one fault. -/
namespace Go.Proofs.YtdeofjmgjhfkcabDoor
open Go.RowKit

theorem got_sys {n : Nat} (h1 : 1 ≤ n) (h9 : n ≤ 9) {L R Z : List (List Nat)} (hp : Pk n L) (hg : gr n 12 L = some R) (hS : Srtd R Z) : Sys n Z ∧ GoodD n Z := by
  obtain ⟨pR, fR, _⟩ := gr_sys hp hg
  exact sys_good h1 (by omega) (pR.sys fR) hS fun b hb => by
    obtain ⟨x, y, z, rfl, h1, h2, _⟩ := pR.rise b hb
    simp; omega
/-- Either one fault, or a system, whichever way it is told. -/
theorem got_two (n : Nat) (ls : List (List Int)) (h1 : 1 ≤ n) (h9 : n ≤ 9) :
    (∃ f0 : Int, f0 ≠ 0 ∧ ∀ p f Z, GoT n ls p f Z → f = f0 ∧ p = 0 ∧ Z = []) ∨ (∀ p f Z, GoT n ls p f Z → f = 0 ∧ p = n ∧ Sys n Z ∧ GoodD n Z) := by
  by_cases hx : ∃ f : Int, GfT n ls f ∧ f ≠ 0
  · obtain ⟨f0, hf, h0⟩ := hx
    refine .inl ⟨f0, h0, fun p f Z h => ?_⟩
    rcases h with ⟨a, _, b, c⟩ | ⟨m, L, e1, e2, hP, m1, m9, hl, _⟩
    · exact ⟨a.one hf, b, c⟩
    · exact (h0 (hf.one (.inr (.inr (.inr ⟨hl, m, L, e1, m1, m9, e2, hP.rise, .inr ⟨hP, rfl⟩⟩))))).elim
  · by_cases hy : ∃ L, ls = toZ L ∧ gr n 12 L = none
    · obtain ⟨L, e1, e2⟩ := hy
      refine .inl ⟨4, by omega, fun p f Z h => ?_⟩
      rcases h with ⟨a, b, _⟩ | ⟨m, M, g1, g2, _, _, _, _, ⟨_, g4, g5, g6⟩ | ⟨R, g3, _⟩⟩
      · exact (hx ⟨_, a, b⟩).elim
      · exact ⟨g4, g5, g6⟩
      · have : m = n := by omega
        subst this
        rw [toZ_one (e1.symm.trans g2)] at e2
        rw [e2] at g3
        cases g3
    · refine .inr fun p f Z h => ?_
      rcases h with ⟨a, b, _⟩ | ⟨m, M, g1, g2, hP, _, _, _, ⟨g3, _⟩ | ⟨R, g3, g4, g5, hS⟩⟩
      · exact (hx ⟨_, a, b⟩).elim
      · have : m = n := by omega
        subst this
        exact (hy ⟨M, g2, g3⟩).elim
      · have : m = n := by omega
        subst this
        exact ⟨g4, g5, got_sys h1 h9 hP g3 hS⟩
theorem Grow_bad {n : Nat} {ls : List (List Int)} {f0 : Int} (hb : ∀ p f Z, GoT n ls p f Z → f = f0 ∧ p = 0 ∧ Z = []) {u : Value} {w : World} (hu : Rw w u ls) (hl : ls.length ≤ maxLen) (hll : ∀ l ∈ ls, l.length ≤ maxLen) :
    Hid (∀ W, Below w.heap.size w W → Calls Tryd.prog 5 #[.int .i64 (n : Int), u] W fun e w' => ∃ a c, e = .returned (.tuple #[.agg #[.int .i64 0, .slice a 0 c], .int .i64 f0]) ∧ Below W.heap.size W w') := fun W hW => by
  refine (Grow_any n ls u W (hu.below hW) hl hll).mono ?_
  rintro e w' ⟨x, Z, p, f, rfl, hg, hO, hB⟩
  obtain ⟨rfl, rfl, rfl⟩ := hb p f Z hg
  obtain ⟨a, c, rfl⟩ := hO.cap
  exact ⟨a, c, rfl, hB⟩
theorem Grow_good {n : Nat} {ls : List (List Int)} (hb : ∀ p f Z, GoT n ls p f Z → f = 0 ∧ p = n ∧ Sys n Z ∧ GoodD n Z) {u : Value} {w : World} (hu : Rw w u ls) (hl : ls.length ≤ maxLen) (hll : ∀ l ∈ ls, l.length ≤ maxLen) :
    Hid (∀ W, Below w.heap.size w W → Calls Tryd.prog 5 #[.int .i64 (n : Int), u] W fun e w' => ∃ x Z, e = .returned (.tuple #[.agg #[.int .i64 (n : Int), x], .int .i64 0]) ∧ (Sys n Z ∧ GoodD n Z) ∧ OR w' W.heap.size x Z ∧ Below W.heap.size W w') := fun W hW => by
  refine (Grow_any n ls u W (hu.below hW) hl hll).mono ?_
  rintro e w' ⟨x, Z, p, f, rfl, hg, hO, hB⟩
  obtain ⟨rfl, rfl, hs⟩ := hb p f Z hg
  exact ⟨x, Z, rfl, hs, hO, hB⟩
theorem Par9 {Z : List (List Nat)} {x : Value} {w : World} (s : Sys 9 Z) (G : GoodD 9 Z) (hT : Tab w) (hu : Rw w x (toZ Z)) :
    Hid (∀ W, Below w.heap.size w W → Calls Tryd.prog 6 #[.agg #[.int .i64 9, x]] W fun e w' => ∃ a c, e = .returned (.tuple #[.slice a 3 c, .int .i64 0]) ∧ Below W.heap.size W w') := fun W hW => by
  obtain ⟨r, T⟩ := sys_two s (by omega) ((sys_lev s.bl (by omega)).1 s).2.2
  have hne : Z ≠ [] := fun e => by
    have := sys_len s
    rw [e] at this
    simp at this
  obtain ⟨l, hl, h3⟩ := nine_par T hne
  refine (Parallel_good 9 Z x W (hT.next hW) G (hu.below hW) (by omega)).mono ?_
  rintro e w' ⟨⟨h, _⟩ | ⟨l', y, h, rfl, hy⟩, hB⟩
  · rw [hl] at h; cases h
  · rw [hl] at h
    cases h
    obtain ⟨a, c, e, _⟩ := hy
    rw [List.length_map, h3] at e
    exact ⟨a, c, by rw [e], hB⟩
theorem Pas_is {v m : Nat} {Z : List (List Nat)} {x : Value} {w : World} (s : Sys v Z) (G : GoodD v Z) (hu : Rw w x (toZ Z)) (hm : mO (thB Z) v v / 24 = m) :
    Hid (∀ W, Below w.heap.size w W → Calls Tryd.prog 7 #[.agg #[.int .i64 (v : Int), x]] W fun e w' => e = .returned (.tuple #[.int .i64 (m : Int), .int .i64 0]) ∧ Below W.heap.size W w') := fun W hW => by
  have := Passes_good v Z x W s G (hu.below hW) (fun W' h' => TCheck_sys v Z x W' s G (hu.below (Below.next hW h')))
  rwa [hm] at this
theorem Pas9 {Z : List (List Nat)} {x : Value} {w : World} (s : Sys 9 Z) (G : GoodD 9 Z) (hu : Rw w x (toZ Z)) :
    Hid (∀ W, Below w.heap.size w W → Calls Tryd.prog 7 #[.agg #[.int .i64 9, x]] W fun e w' => e = .returned (.tuple #[.int .i64 0, .int .i64 0]) ∧ Below W.heap.size W w') := by
  obtain ⟨r, T⟩ := sys_two s (by omega) ((sys_lev s.bl (by omega)).1 s).2.2
  have h : mO (thB Z) 9 9 = 0 := nine_pasch s T (thB_th s)
  exact Pas_is (v := 9) (m := 0) s G hu (by rw [h])
theorem Pas7 {Z : List (List Nat)} {x : Value} {w : World} (s : Sys 7 Z) (G : GoodD 7 Z) (hu : Rw w x (toZ Z)) :
    Hid (∀ W, Below w.heap.size w W → Calls Tryd.prog 7 #[.agg #[.int .i64 7, x]] W fun e w' => e = .returned (.tuple #[.int .i64 7, .int .i64 0]) ∧ Below W.heap.size W w') := by
  obtain ⟨r, T⟩ := sys_two s (by omega) ((sys_lev s.bl (by omega)).1 s).2.2
  have h : mO (thB Z) 7 7 = 168 := seven_pasch s T (thB_th s)
  exact Pas_is (v := 7) (m := 7) s G hu (by rw [h])
theorem mt7 {Z : List (List Nat)} (s : Sys 7 Z) : mtL 7 Z = [1] := by
  obtain ⟨r, T⟩ := sys_two s (by omega) ((sys_lev s.bl (by omega)).1 s).2.2
  have hl := sys_len s
  have h1 : ∀ n, metB Z n = decide (n = 1) := fun n => by
    rw [Bool.eq_iff_iff, metB_iff, decide_eq_true_iff]
    constructor
    · rintro ⟨i, j, h1, h2, h3⟩
      rw [seven_mt s T h2 (by omega) (by omega)] at h3
      exact h3.symm
    · rintro rfl
      exact ⟨1, 0, by omega, by omega, seven_mt s T (by omega) (by omega) (by omega)⟩
  unfold mtL
  rw [funext h1]
  decide
theorem Mee7 {Z : List (List Nat)} {x : Value} {w : World} (s : Sys 7 Z) (G : GoodD 7 Z) (hT : Tab w) (hu : Rw w x (toZ Z)) :
    Hid (∀ W, Below w.heap.size w W → Calls Tryd.prog 8 #[.agg #[.int .i64 7, x]] W fun e w' => ∃ b off c, e = .returned (.tuple #[.slice (some ⟨b, off, none⟩) 1 c, .int .i64 0]) ∧ (∀ W', Below w'.heap.size w' W' → W'.cell? ⟨b, off, none⟩ = some (.int .i64 1)) ∧ Below W.heap.size W w') := fun W hW => by
  have := Meets_good 7 Z x W (hT.next hW) G (hu.below hW)
  rw [mt7 s] at this
  refine this.mono ?_
  rintro e w' ⟨y, rfl, hy, hB⟩
  have hs : Sl w' y [1] := Sl.owned hy
  obtain ⟨a, c, rfl, hc⟩ := hs
  obtain ⟨b, off, rfl, h1⟩ := hc 0 (by simp)
  refine ⟨b, off, c, rfl, fun W' hW' => ?_, hB⟩
  have h2 : w'.cell? ⟨b, off, none⟩ = some (.int .i64 1) := by simpa using h1
  exact (hW'.cell (World.block_lt_of_cell? _ _ h2)).trans h2
end Go.Proofs.YtdeofjmgjhfkcabDoor

namespace Go.Proofs.YtdeofjmgjhfkcabDoor
open Go.RowKit

/-- A design that is stored into a box which held another. -/
theorem res_put4 {w w1 : World} {t s : Nat} {p : Int} {y c0 c1 : Value} (hr : w1.heap[t]? = some (.cells #[c0, c1] 25 (0, 0))) (hb : Below s w w1) (hs : s ≤ t) :
    ((w1.setCell ⟨t, 0, none⟩ (.int .i64 p)).setCell ⟨t, 1, none⟩ y).heap[t]? = some (.cells #[.int .i64 p, y] 25 (0, 0)) ∧ Below s w ((w1.setCell ⟨t, 0, none⟩ (.int .i64 p)).setCell ⟨t, 1, none⟩ y) := by
  have h6 := heap_setCell_same w1 t 0 _ 25 (.int .i64 p) hr
  have h7 := heap_setCell_same _ t 1 _ 25 y h6
  exact ⟨by simpa using h7, (hb.setCell (p := ⟨t, 0, none⟩) hs _).setCell (p := ⟨t, 1, none⟩) hs _⟩
theorem rw_put4 {w1 : World} {t base : Nat} {p : Int} {y z : Value} {Z : List (List Nat)} (ht : t < base) (hO : OR w1 base z Z) : Rw ((w1.setCell ⟨t, 0, none⟩ (.int .i64 p)).setCell ⟨t, 1, none⟩ y) z (toZ Z) :=
  (hO.keep fun b hb' _ => (heap_setCell_other _ ⟨t, 1, none⟩ b _ (by show b ≠ t; omega)).trans (heap_setCell_other w1 ⟨t, 0, none⟩ b _ (by show b ≠ t; omega))).rw
theorem box_row {w : World} {t : Nat} {p : Int} {y : Value} (hr : w.heap[t]? = some (.cells #[.int .i64 p, y] 25 (0, 0))) : Hid (∀ W, Below w.heap.size w W → W.cell? ⟨t, 0, none⟩ = some (.int .i64 p) ∧ W.cell? ⟨t, 1, none⟩ = some y) := fun W h => by
  have h2 : W.heap[t]? = _ := (h.block t (Array.getElem?_eq_some_iff.1 hr).1).trans hr
  exact ⟨cell_of_row _ _ 0 _ _ _ h2, cell_of_row _ _ 1 _ _ _ h2⟩
set_option maxRecDepth 100000 in
set_option maxHeartbeats 8000000 in
theorem Cut_NN (f : Int) (hf : f ≠ 0) (g : Int) (hg : g ≠ 0) (n : Nat) (u : Value) (w : World) (hu : ∃ a c, u = .slice a n c) (_HT : Hid (Tab w))
    (H9 : Hid (∀ W, Below w.heap.size w W → Calls Tryd.prog 5 #[.int .i64 9, u] W fun e w' => ∃ a c, e = .returned (.tuple #[.agg #[.int .i64 0, .slice a 0 c], .int .i64 f]) ∧ Below W.heap.size W w'))
    (H7 : Hid (∀ W, Below w.heap.size w W → Calls Tryd.prog 5 #[.int .i64 7, u] W fun e w' => ∃ a c, e = .returned (.tuple #[.agg #[.int .i64 0, .slice a 0 c], .int .i64 g]) ∧ Below W.heap.size W w'))
    : Calls Tryd.prog 3 #[u] w fun e w' => e = .returned (.bool true) ∧ Below w.heap.size w w' := by
  have HF : Hid (∀ W, Calls Tryd.prog 4 #[] W fun e w' => e = .returned (.bool true) ∧ Below W.heap.size W w') := Fact_any
  obtain ⟨ua, uc, rfl⟩ := hu
  have f1 : (f == 0) = false := by simp; omega
  have f2 : ¬ f = 0 := hf
  have g1 : (g != 0) = true := by simp; omega
  have g2 : ¬ g = 0 := hg
  go_enter Tryd.func3, Tryd.ntmps3
  go_wp2_with (first
    | (go_at_call 4; refine (HF.out _).mono ?_; rintro e w1 ⟨rfl, hb⟩; clear HF; have HB1 : Hid (Below w.heap.size w w1) := hb; clear hb)
    | (go_at_call 5; refine (H9.out _ HB1.out).mono ?_; rintro e w2 ⟨xa, xc, rfl, hb⟩; clear H9; have hr0 := heap_alloc_new w2 (.cells #[.int .i64 0, .slice xa 0 xc] 25); have bb := balloc w2 (.cells #[.int .i64 0, .slice xa 0 xc] 25); have HB2 : Hid (Below w.heap.size w (w2.alloc (.cells #[.int .i64 0, .slice xa 0 xc] 25))) := Below.next HB1.out (Below.next hb bb); have HS2 : Hid (w.heap.size ≤ w2.heap.size) := (Below.next HB1.out hb).size; have HR2 : Hid ((w2.alloc (.cells #[.int .i64 0, .slice xa 0 xc] 25)).heap[w2.heap.size]? = some (.cells #[.int .i64 0, .slice xa 0 xc] 25 (0, 0))) := hr0; have HZ2 : Hid ((w2.alloc (.cells #[.int .i64 0, .slice xa 0 xc] 25)).heap.size = w2.heap.size + 1) := World.size_alloc _ _; clear hb bb hr0)
    | (go_at_call 5; refine (H7.out _ HB2.out).mono ?_; rintro e w5 ⟨ya, yc, rfl, hb⟩; clear H7; have HB5 : Hid (Below w.heap.size w w5) := Below.next HB2.out hb; have hr : w5.heap[w2.heap.size]? = _ := (hb.block w2.heap.size (by have := HZ2.out; omega)).trans HR2.out; have z0 := frozen_of_row _ _ 0 _ _ hr; have z1 := frozen_of_row _ _ 1 _ _ hr; have y0 := cell_of_row _ _ 0 _ _ _ hr; have y1 := cell_of_row _ _ 1 _ _ _ hr; have HE : Hid (_ ∧ _) := res_put4 (p := 0) (y := .slice ya 0 yc) hr HB5.out HS2.out; clear hr hb))
  go_ret
  exact ⟨rfl, HE.out.2⟩
set_option maxRecDepth 100000 in
set_option maxHeartbeats 8000000 in
theorem Cut_NG (f : Int) (hf : f ≠ 0) (n : Nat) (u : Value) (w : World) (hu : ∃ a c, u = .slice a n c) (HT : Hid (Tab w))
    (H9 : Hid (∀ W, Below w.heap.size w W → Calls Tryd.prog 5 #[.int .i64 9, u] W fun e w' => ∃ a c, e = .returned (.tuple #[.agg #[.int .i64 0, .slice a 0 c], .int .i64 f]) ∧ Below W.heap.size W w'))
    (H7 : Hid (∀ W, Below w.heap.size w W → Calls Tryd.prog 5 #[.int .i64 7, u] W fun e w' => ∃ x Z, e = .returned (.tuple #[.agg #[.int .i64 7, x], .int .i64 0]) ∧ (Sys 7 Z ∧ GoodD 7 Z) ∧ OR w' W.heap.size x Z ∧ Below W.heap.size W w'))
    : Calls Tryd.prog 3 #[u] w fun e w' => e = .returned (.bool true) ∧ Below w.heap.size w w' := by
  have HF : Hid (∀ W, Calls Tryd.prog 4 #[] W fun e w' => e = .returned (.bool true) ∧ Below W.heap.size W w') := Fact_any
  obtain ⟨ua, uc, rfl⟩ := hu
  have f1 : (f == 0) = false := by simp; omega
  have f2 : ¬ f = 0 := hf
  go_enter Tryd.func3, Tryd.ntmps3
  go_wp2_with (first
    | (go_at_call 4; refine (HF.out _).mono ?_; rintro e w1 ⟨rfl, hb⟩; clear HF; have HB1 : Hid (Below w.heap.size w w1) := hb; clear hb)
    | (go_at_call 5; refine (H9.out _ HB1.out).mono ?_; rintro e w2 ⟨xa, xc, rfl, hb⟩; clear H9; have hr0 := heap_alloc_new w2 (.cells #[.int .i64 0, .slice xa 0 xc] 25); have bb := balloc w2 (.cells #[.int .i64 0, .slice xa 0 xc] 25); have HB2 : Hid (Below w.heap.size w (w2.alloc (.cells #[.int .i64 0, .slice xa 0 xc] 25))) := Below.next HB1.out (Below.next hb bb); have HS2 : Hid (w.heap.size ≤ w2.heap.size) := (Below.next HB1.out hb).size; have HR2 : Hid ((w2.alloc (.cells #[.int .i64 0, .slice xa 0 xc] 25)).heap[w2.heap.size]? = some (.cells #[.int .i64 0, .slice xa 0 xc] 25 (0, 0))) := hr0; have HZ2 : Hid ((w2.alloc (.cells #[.int .i64 0, .slice xa 0 xc] 25)).heap.size = w2.heap.size + 1) := World.size_alloc _ _; clear hb bb hr0)
    | (go_at_call 5; refine (H7.out _ HB2.out).mono ?_; rintro e w5 ⟨y, Y, rfl, ⟨sY, gY⟩, hO, hb⟩; clear H7; obtain ⟨ya, yc, rfl⟩ := hO.cap; generalize hyl : Y.length = yl at *; have HB5 : Hid (Below w.heap.size w w5) := Below.next HB2.out hb; have hr : w5.heap[w2.heap.size]? = _ := (hb.block w2.heap.size (by have := HZ2.out; omega)).trans HR2.out; have z0 := frozen_of_row _ _ 0 _ _ hr; have z1 := frozen_of_row _ _ 1 _ _ hr; have y0 := cell_of_row _ _ 0 _ _ _ hr; have y1 := cell_of_row _ _ 1 _ _ _ hr; have HE : Hid (_ ∧ _) := res_put4 (p := 7) (y := .slice ya yl yc) hr HB5.out HS2.out; have hRw := rw_put4 (p := 7) (y := .slice ya yl yc) (t := w2.heap.size) (by have := HZ2.out; omega) hO; have HTT : Hid (Tab ((w5.setCell ⟨w2.heap.size, 0, none⟩ (.int .i64 7)).setCell ⟨w2.heap.size, 1, none⟩ (.slice ya yl yc))) := HT.out.next HE.out.2; have HME := Mee7 sY gY HTT.out hRw; have HPT := Pas7 sY gY hRw; have HBX : Hid (∀ W, Below ((w5.setCell ⟨w2.heap.size, 0, none⟩ (.int .i64 7)).setCell ⟨w2.heap.size, 1, none⟩ (.slice ya yl yc)).heap.size ((w5.setCell ⟨w2.heap.size, 0, none⟩ (.int .i64 7)).setCell ⟨w2.heap.size, 1, none⟩ (.slice ya yl yc)) W → W.cell? ⟨w2.heap.size, 0, none⟩ = some (.int .i64 7) ∧ W.cell? ⟨w2.heap.size, 1, none⟩ = some (.slice ya yl yc)) := box_row HE.out.1; have m0 := (HBX.out _ (Below.refl _ _)).1; have m1 := (HBX.out _ (Below.refl _ _)).2; clear hr hb hRw sY gY hO hyl)
    | (go_at_call 8; refine (HME.out _ (Below.refl _ _)).mono ?_; rintro e w6 ⟨ob, oo, oc, rfl, ho, hb⟩; clear HME m0 m1; have HK6 : Hid (Below ((w5.setCell ⟨w2.heap.size, 0, none⟩ (.int .i64 7)).setCell ⟨w2.heap.size, 1, none⟩ (.slice ya yl yc)).heap.size ((w5.setCell ⟨w2.heap.size, 0, none⟩ (.int .i64 7)).setCell ⟨w2.heap.size, 1, none⟩ (.slice ya yl yc)) w6) := hb; have HO6 : Hid (∀ W', Below w6.heap.size w6 W' → W'.cell? ⟨ob, oo, none⟩ = some (.int .i64 1)) := ho; have m0 := (HBX.out _ hb).1; have m1 := (HBX.out _ hb).2; clear hb ho)
    | (go_at_call 7; refine (HPT.out _ HK6.out).mono ?_; rintro e w7 ⟨rfl, hb⟩; clear HPT; have HB7 : Hid (Below w.heap.size w w7) := Below.next HE.out.2 (Below.next HK6.out hb); have o0 := HO6.out _ hb; clear hb m0 m1))
  go_ret
  exact ⟨rfl, HB7.out⟩
set_option maxRecDepth 100000 in
set_option maxHeartbeats 8000000 in
theorem Cut_GN (g : Int) (hg : g ≠ 0) (n : Nat) (u : Value) (w : World) (hu : ∃ a c, u = .slice a n c) (HT : Hid (Tab w))
    (H9 : Hid (∀ W, Below w.heap.size w W → Calls Tryd.prog 5 #[.int .i64 9, u] W fun e w' => ∃ x Z, e = .returned (.tuple #[.agg #[.int .i64 9, x], .int .i64 0]) ∧ (Sys 9 Z ∧ GoodD 9 Z) ∧ OR w' W.heap.size x Z ∧ Below W.heap.size W w'))
    (H7 : Hid (∀ W, Below w.heap.size w W → Calls Tryd.prog 5 #[.int .i64 7, u] W fun e w' => ∃ a c, e = .returned (.tuple #[.agg #[.int .i64 0, .slice a 0 c], .int .i64 g]) ∧ Below W.heap.size W w'))
    : Calls Tryd.prog 3 #[u] w fun e w' => e = .returned (.bool true) ∧ Below w.heap.size w w' := by
  have HF : Hid (∀ W, Calls Tryd.prog 4 #[] W fun e w' => e = .returned (.bool true) ∧ Below W.heap.size W w') := Fact_any
  obtain ⟨ua, uc, rfl⟩ := hu
  have g1 : (g != 0) = true := by simp; omega
  have g2 : ¬ g = 0 := hg
  go_enter Tryd.func3, Tryd.ntmps3
  go_wp2_with (first
    | (go_at_call 4; refine (HF.out _).mono ?_; rintro e w1 ⟨rfl, hb⟩; clear HF; have HB1 : Hid (Below w.heap.size w w1) := hb; clear hb)
    | (go_at_call 5; refine (H9.out _ HB1.out).mono ?_; rintro e w2 ⟨x, Z, rfl, ⟨sZ, gZ⟩, hO, hb⟩; clear H9; obtain ⟨xa, xc, rfl⟩ := hO.cap; generalize hzl : Z.length = zl at *; have hr0 := heap_alloc_new w2 (.cells #[.int .i64 9, .slice xa zl xc] 25); have bb := balloc w2 (.cells #[.int .i64 9, .slice xa zl xc] 25); have HB2 : Hid (Below w.heap.size w (w2.alloc (.cells #[.int .i64 9, .slice xa zl xc] 25))) := Below.next HB1.out (Below.next hb bb); have HS2 : Hid (w.heap.size ≤ w2.heap.size) := (Below.next HB1.out hb).size; have HR2 : Hid ((w2.alloc (.cells #[.int .i64 9, .slice xa zl xc] 25)).heap[w2.heap.size]? = some (.cells #[.int .i64 9, .slice xa zl xc] 25 (0, 0))) := hr0; have HZ2 : Hid ((w2.alloc (.cells #[.int .i64 9, .slice xa zl xc] 25)).heap.size = w2.heap.size + 1) := World.size_alloc _ _; have hRw : Rw (w2.alloc (.cells #[.int .i64 9, .slice xa zl xc] 25)) (.slice xa zl xc) (toZ Z) := hO.rw.below bb; have HPA := Par9 sZ gZ (HT.out.next HB2.out) hRw; have HPS := Pas9 sZ gZ hRw; have HDX : Hid (∀ W, Below (w2.alloc (.cells #[.int .i64 9, .slice xa zl xc] 25)).heap.size (w2.alloc (.cells #[.int .i64 9, .slice xa zl xc] 25)) W → W.cell? ⟨w2.heap.size, 0, none⟩ = some (.int .i64 9) ∧ W.cell? ⟨w2.heap.size, 1, none⟩ = some (.slice xa zl xc)) := fun W h => des_box 9 _ w2 W h; obtain ⟨k0, k1⟩ := HDX.out _ (Below.refl _ _); clear hb bb hr0 hRw sZ gZ hO hzl)
    | (go_at_call 6; refine (HPA.out _ (Below.refl _ _)).mono ?_; rintro e w3 ⟨la, lc, rfl, hb⟩; clear HPA k0 k1; have HK3 : Hid (Below (w2.alloc (.cells #[.int .i64 9, .slice xa zl xc] 25)).heap.size (w2.alloc (.cells #[.int .i64 9, .slice xa zl xc] 25)) w3) := hb; have HB3 : Hid (Below w.heap.size w w3) := Below.next HB2.out hb; obtain ⟨k0, k1⟩ := HDX.out _ hb; clear hb)
    | (go_at_call 7; refine (HPS.out _ HK3.out).mono ?_; rintro e w4 ⟨rfl, hb⟩; clear HPS; have HK4 : Hid (Below (w2.alloc (.cells #[.int .i64 9, .slice xa zl xc] 25)).heap.size (w2.alloc (.cells #[.int .i64 9, .slice xa zl xc] 25)) w4) := Below.next HK3.out hb; have HB4 : Hid (Below w.heap.size w w4) := Below.next HB3.out hb; clear hb k0 k1)
    | (go_at_call 5; refine (H7.out _ HB4.out).mono ?_; rintro e w5 ⟨ya, yc, rfl, hb⟩; clear H7; have HB5 : Hid (Below w.heap.size w w5) := Below.next HB4.out hb; have hr : w5.heap[w2.heap.size]? = _ := (hb.block w2.heap.size (by have := HK4.out.size; have := HZ2.out; omega)).trans ((HK4.out.block w2.heap.size (by have := HZ2.out; omega)).trans HR2.out); have z0 := frozen_of_row _ _ 0 _ _ hr; have z1 := frozen_of_row _ _ 1 _ _ hr; have y0 := cell_of_row _ _ 0 _ _ _ hr; have y1 := cell_of_row _ _ 1 _ _ _ hr; have HE : Hid (_ ∧ _) := res_put4 (p := 0) (y := .slice ya 0 yc) hr HB5.out HS2.out; clear hr hb))
  go_ret
  exact ⟨rfl, HE.out.2⟩
set_option maxRecDepth 100000 in
set_option maxHeartbeats 8000000 in
theorem Cut_GG (n : Nat) (u : Value) (w : World) (hu : ∃ a c, u = .slice a n c) (HT : Hid (Tab w))
    (H9 : Hid (∀ W, Below w.heap.size w W → Calls Tryd.prog 5 #[.int .i64 9, u] W fun e w' => ∃ x Z, e = .returned (.tuple #[.agg #[.int .i64 9, x], .int .i64 0]) ∧ (Sys 9 Z ∧ GoodD 9 Z) ∧ OR w' W.heap.size x Z ∧ Below W.heap.size W w'))
    (H7 : Hid (∀ W, Below w.heap.size w W → Calls Tryd.prog 5 #[.int .i64 7, u] W fun e w' => ∃ x Z, e = .returned (.tuple #[.agg #[.int .i64 7, x], .int .i64 0]) ∧ (Sys 7 Z ∧ GoodD 7 Z) ∧ OR w' W.heap.size x Z ∧ Below W.heap.size W w'))
    : Calls Tryd.prog 3 #[u] w fun e w' => e = .returned (.bool true) ∧ Below w.heap.size w w' := by
  have HF : Hid (∀ W, Calls Tryd.prog 4 #[] W fun e w' => e = .returned (.bool true) ∧ Below W.heap.size W w') := Fact_any
  obtain ⟨ua, uc, rfl⟩ := hu
  go_enter Tryd.func3, Tryd.ntmps3
  go_wp2_with (first
    | (go_at_call 4; refine (HF.out _).mono ?_; rintro e w1 ⟨rfl, hb⟩; clear HF; have HB1 : Hid (Below w.heap.size w w1) := hb; clear hb)
    | (go_at_call 5; refine (H9.out _ HB1.out).mono ?_; rintro e w2 ⟨x, Z, rfl, ⟨sZ, gZ⟩, hO, hb⟩; clear H9; obtain ⟨xa, xc, rfl⟩ := hO.cap; generalize hzl : Z.length = zl at *; have hr0 := heap_alloc_new w2 (.cells #[.int .i64 9, .slice xa zl xc] 25); have bb := balloc w2 (.cells #[.int .i64 9, .slice xa zl xc] 25); have HB2 : Hid (Below w.heap.size w (w2.alloc (.cells #[.int .i64 9, .slice xa zl xc] 25))) := Below.next HB1.out (Below.next hb bb); have HS2 : Hid (w.heap.size ≤ w2.heap.size) := (Below.next HB1.out hb).size; have HR2 : Hid ((w2.alloc (.cells #[.int .i64 9, .slice xa zl xc] 25)).heap[w2.heap.size]? = some (.cells #[.int .i64 9, .slice xa zl xc] 25 (0, 0))) := hr0; have HZ2 : Hid ((w2.alloc (.cells #[.int .i64 9, .slice xa zl xc] 25)).heap.size = w2.heap.size + 1) := World.size_alloc _ _; have hRw : Rw (w2.alloc (.cells #[.int .i64 9, .slice xa zl xc] 25)) (.slice xa zl xc) (toZ Z) := hO.rw.below bb; have HPA := Par9 sZ gZ (HT.out.next HB2.out) hRw; have HPS := Pas9 sZ gZ hRw; have HDX : Hid (∀ W, Below (w2.alloc (.cells #[.int .i64 9, .slice xa zl xc] 25)).heap.size (w2.alloc (.cells #[.int .i64 9, .slice xa zl xc] 25)) W → W.cell? ⟨w2.heap.size, 0, none⟩ = some (.int .i64 9) ∧ W.cell? ⟨w2.heap.size, 1, none⟩ = some (.slice xa zl xc)) := fun W h => des_box 9 _ w2 W h; obtain ⟨k0, k1⟩ := HDX.out _ (Below.refl _ _); clear hb bb hr0 hRw sZ gZ hO hzl)
    | (go_at_call 6; refine (HPA.out _ (Below.refl _ _)).mono ?_; rintro e w3 ⟨la, lc, rfl, hb⟩; clear HPA k0 k1; have HK3 : Hid (Below (w2.alloc (.cells #[.int .i64 9, .slice xa zl xc] 25)).heap.size (w2.alloc (.cells #[.int .i64 9, .slice xa zl xc] 25)) w3) := hb; have HB3 : Hid (Below w.heap.size w w3) := Below.next HB2.out hb; obtain ⟨k0, k1⟩ := HDX.out _ hb; clear hb)
    | (go_at_call 7; refine (HPS.out _ HK3.out).mono ?_; rintro e w4 ⟨rfl, hb⟩; clear HPS; have HK4 : Hid (Below (w2.alloc (.cells #[.int .i64 9, .slice xa zl xc] 25)).heap.size (w2.alloc (.cells #[.int .i64 9, .slice xa zl xc] 25)) w4) := Below.next HK3.out hb; have HB4 : Hid (Below w.heap.size w w4) := Below.next HB3.out hb; clear hb k0 k1)
    | (go_at_call 5; refine (H7.out _ HB4.out).mono ?_; rintro e w5 ⟨y, Y, rfl, ⟨sY, gY⟩, hO, hb⟩; clear H7; obtain ⟨ya, yc, rfl⟩ := hO.cap; generalize hyl : Y.length = yl at *; have HB5 : Hid (Below w.heap.size w w5) := Below.next HB4.out hb; have hr : w5.heap[w2.heap.size]? = _ := (hb.block w2.heap.size (by have := HK4.out.size; have := HZ2.out; omega)).trans ((HK4.out.block w2.heap.size (by have := HZ2.out; omega)).trans HR2.out); have z0 := frozen_of_row _ _ 0 _ _ hr; have z1 := frozen_of_row _ _ 1 _ _ hr; have y0 := cell_of_row _ _ 0 _ _ _ hr; have y1 := cell_of_row _ _ 1 _ _ _ hr; have HE : Hid (_ ∧ _) := res_put4 (p := 7) (y := .slice ya yl yc) hr HB5.out HS2.out; have hRw := rw_put4 (p := 7) (y := .slice ya yl yc) (t := w2.heap.size) (by have := HK4.out.size; have := HZ2.out; omega) hO; have HTT : Hid (Tab ((w5.setCell ⟨w2.heap.size, 0, none⟩ (.int .i64 7)).setCell ⟨w2.heap.size, 1, none⟩ (.slice ya yl yc))) := HT.out.next HE.out.2; have HME := Mee7 sY gY HTT.out hRw; have HPT := Pas7 sY gY hRw; have HBX : Hid (∀ W, Below ((w5.setCell ⟨w2.heap.size, 0, none⟩ (.int .i64 7)).setCell ⟨w2.heap.size, 1, none⟩ (.slice ya yl yc)).heap.size ((w5.setCell ⟨w2.heap.size, 0, none⟩ (.int .i64 7)).setCell ⟨w2.heap.size, 1, none⟩ (.slice ya yl yc)) W → W.cell? ⟨w2.heap.size, 0, none⟩ = some (.int .i64 7) ∧ W.cell? ⟨w2.heap.size, 1, none⟩ = some (.slice ya yl yc)) := box_row HE.out.1; have m0 := (HBX.out _ (Below.refl _ _)).1; have m1 := (HBX.out _ (Below.refl _ _)).2; clear hr hb hRw sY gY hO hyl)
    | (go_at_call 8; refine (HME.out _ (Below.refl _ _)).mono ?_; rintro e w6 ⟨ob, oo, oc, rfl, ho, hb⟩; clear HME m0 m1; have HK6 : Hid (Below ((w5.setCell ⟨w2.heap.size, 0, none⟩ (.int .i64 7)).setCell ⟨w2.heap.size, 1, none⟩ (.slice ya yl yc)).heap.size ((w5.setCell ⟨w2.heap.size, 0, none⟩ (.int .i64 7)).setCell ⟨w2.heap.size, 1, none⟩ (.slice ya yl yc)) w6) := hb; have HO6 : Hid (∀ W', Below w6.heap.size w6 W' → W'.cell? ⟨ob, oo, none⟩ = some (.int .i64 1)) := ho; have m0 := (HBX.out _ hb).1; have m1 := (HBX.out _ hb).2; clear hb ho)
    | (go_at_call 7; refine (HPT.out _ HK6.out).mono ?_; rintro e w7 ⟨rfl, hb⟩; clear HPT; have HB7 : Hid (Below w.heap.size w w7) := Below.next HE.out.2 (Below.next HK6.out hb); have o0 := HO6.out _ hb; clear hb m0 m1))
  go_ret
  exact ⟨rfl, HB7.out⟩
theorem Cuts_law (ls : List (List Int)) (u : Value) (w : World) (hT : Tab w) (hu : Rw w u ls) (hll : ∀ l ∈ ls, l.length ≤ maxLen) (hl : ls.length ≤ maxLen) :
    Calls Tryd.prog 3 #[u] w fun e w' => e = .returned (.bool true) ∧ Below w.heap.size w w' := by
  have hu' : ∃ a c, u = .slice a ls.length c := by
    obtain ⟨a, c, e, _⟩ := hu
    exact ⟨a, c, e⟩
  rcases got_two 9 ls (by omega) (by omega) with ⟨f, hf, h9⟩ | h9 <;> rcases got_two 7 ls (by omega) (by omega) with ⟨g, hg, h7⟩ | h7
  · exact Cut_NN f hf g hg _ u w hu' hT (Grow_bad h9 hu hl hll) (Grow_bad h7 hu hl hll)
  · exact Cut_NG f hf _ u w hu' hT (Grow_bad h9 hu hl hll) (Grow_good h7 hu hl hll)
  · exact Cut_GN g hg _ u w hu' hT (Grow_good h9 hu hl hll) (Grow_bad h7 hu hl hll)
  · exact Cut_GG _ u w hu' hT (Grow_good h9 hu hl hll) (Grow_good h7 hu hl hll)

end Go.Proofs.YtdeofjmgjhfkcabDoor
