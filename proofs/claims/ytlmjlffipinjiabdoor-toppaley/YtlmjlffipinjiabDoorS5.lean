/- Sets as arrays of truths: the walks of image and list. -/
import Derived.Test.YtlmjlffipinjiabDoorDOw
import Derived.Test.YtlmjlffipinjiabDoorB1
import Derived.Test.YtlmjlffipinjiabDoorTIn
import Derived.Laws.OwnMore
import Derived.Test.YtlmjlffipinjiabDoorS1
import Derived.Deep.MidRow
import Derived.Deep.RegionHeld3
/- The walk of the document's ComplementOf. -/
namespace Go.Proofs.YtlmjlffipinjiabDoor
open Go.RowKit

/-- The three boxes: the design, the answer, what is built. -/
structure BoxS (s v p : Nat) (dv ov : Value) (W : World) : Prop where
  d : W.heap[s]? = some (.cells #[.int .i64 (v : Int), dv] 37 (0, 0))
  r : W.heap[s + 1]? = some (.cells #[.int .i64 0, .slice none 0 0] 37 (0, 0))
  o : W.heap[s + 2]? = some (.cells #[.int .i64 (p : Int), ov] 37 (0, 0))
theorem BoxS.lt {s v p : Nat} {dv ov : Value} {W : World} (h : BoxS s v p dv ov W) : s + 3 ≤ W.heap.size := by
  have := (Array.getElem?_eq_some_iff.1 h.o).1
  omega
theorem BoxS.low {s v p : Nat} {dv ov : Value} {W W' : World} (h : BoxS s v p dv ov W) (b : Below (s + 3) W W') : BoxS s v p dv ov W' :=
  ⟨(b.block s (by omega)).trans h.d, (b.block (s + 1) (by omega)).trans h.r, (b.block (s + 2) (by omega)).trans h.o⟩
theorem BoxS.cells {s v p : Nat} {dv ov : Value} {W : World} (h : BoxS s v p dv ov W) : W.cell? ⟨s, 0, none⟩ = some (.int .i64 (v : Int)) ∧ W.cell? ⟨s, 1, none⟩ = some dv ∧ W.cell? ⟨s + 1 + 1, 0, none⟩ = some (.int .i64 (p : Int)) ∧ W.cell? ⟨s + 1 + 1, 1, none⟩ = some ov :=
  ⟨by rw [cell_of_row _ _ _ _ _ _ h.d]; rfl, by rw [cell_of_row _ _ _ _ _ _ h.d]; rfl, by rw [cell_of_row _ _ _ _ _ _ h.o]; rfl, by rw [cell_of_row _ _ _ _ _ _ h.o]; rfl⟩
theorem BoxS.put {s v p : Nat} {dv ov : Value} {W : World} (h : BoxS s v p dv ov W) (nv : Value) : BoxS s v p dv nv (W.setCell ⟨s + 1 + 1, 1, none⟩ nv) :=
  ⟨(heap_setCell_other W ⟨s + 2, 1, none⟩ s nv (by show s ≠ s + 2; omega)).trans h.d, (heap_setCell_other W ⟨s + 2, 1, none⟩ (s + 1) nv (by show s + 1 ≠ s + 2; omega)).trans h.r, heap_setCell_same W (s + 2) 1 _ _ nv h.o⟩
theorem BoxS.start (w : World) (v p : Nat) (dv : Value) : BoxS w.heap.size v p dv (.slice none 0 0) (((w.alloc (.cells #[.int .i64 (v : Int), dv] 37)).alloc (.cells #[.int .i64 0, .slice none 0 0] 37)).alloc (.cells #[.int .i64 (p : Int), .slice none 0 0] 37)) := by
  refine ⟨?_, ?_, ?_⟩
  · exact ((balloc _ _).block _ (by simp; omega)).trans (((balloc _ _).block _ (by simp)).trans (heap_alloc_new w _))
  · have := heap_alloc_new (w.alloc (.cells #[.int .i64 (v : Int), dv] 37)) (.cells #[.int .i64 0, .slice none 0 0] 37)
    rw [show (w.alloc (.cells #[.int .i64 (v : Int), dv] 37)).heap.size = w.heap.size + 1 by simp] at this
    exact ((balloc _ _).block _ (by simp)).trans this
  · have := heap_alloc_new ((w.alloc (.cells #[.int .i64 (v : Int), dv] 37)).alloc (.cells #[.int .i64 0, .slice none 0 0] 37)) (.cells #[.int .i64 (p : Int), .slice none 0 0] 37)
    rw [show ((w.alloc (.cells #[.int .i64 (v : Int), dv] 37)).alloc (.cells #[.int .i64 0, .slice none 0 0] 37)).heap.size = w.heap.size + 2 by simp] at this
    exact this
theorem oth_succ (x : Nat) (b : List Nat) : oth (x + 1) b = oth x b ++ if b.contains x = true then [] else [x] := by
  unfold oth
  rw [filter_succ]
  cases b.contains x <;> rfl
theorem take_map_succ {B : List (List Nat)} (f : List Nat → List Nat) {i : Nat} {b : List Nat} (h : B[i]? = some b) : (B.take (i + 1)).map f = (B.take i).map f ++ [f b] := by
  rw [List.take_add_one, h, List.map_append]; rfl
theorem inf24 : (Tryd.prog.info? 37).map (·.size) = some 2 := by kernel_rfl
theorem own_form {w : World} {base n : Nat} {e : TypeId} {v : Value} {xs : List Value} (h : w.ownsRow base e 1 v n xs) : ∃ a c, v = .slice a n c := by
  obtain ⟨_, ⟨rfl, rfl⟩ | ⟨g, cap, cur, rfl, _⟩⟩ := h
  · exact ⟨_, _, rfl⟩
  · exact ⟨_, _, rfl⟩
theorem post_d {fn : Func} {R : Ending → World → Prop} {a : Act} {w : World} {g : Nat} {x y : Value} (slot : Tmp) (hres : fn.results = #[.cell slot 37]) (hp : a.tmps.getD slot undef = .pointer (some ⟨g, 0, none⟩)) (hr : w.heap[g]? = some (.cells #[x, y] 37 (0, 0))) (hd : a.defers = []) (hR : R (.returned (.agg #[x, y])) w) : bodyPost Tryd.prog fn R .ret a w :=
  bodyPost_ret (results_cell_row hres a.tmps w g 37 #[x, y] (0, 0) _ hp hr Tryd.underlying37 rfl inf24) hd hR
end Go.Proofs.YtlmjlffipinjiabDoor

/- The walk of the document's Sorted. -/
namespace Go.Proofs.YtlmjlffipinjiabDoor
open Go.RowKit

theorem map_swap (A C : List Nat) (x y : Nat) : (((((A ++ y :: x :: C).map Int.ofNat).map (Value.int .i64)).set A.length (.int .i64 (x : Int))).set (A.length + 1) (.int .i64 (y : Int))) = ((A ++ x :: y :: C).map Int.ofNat).map (Value.int .i64) := by
  have := swap_list ((A.map Int.ofNat).map (Value.int .i64)) ((C.map Int.ofNat).map (Value.int .i64)) (.int .i64 (x : Int)) (.int .i64 (y : Int))
  simp only [List.length_map] at this
  simp only [List.map_append, List.map_cons]
  exact this
end Go.Proofs.YtlmjlffipinjiabDoor

namespace Go.Proofs.YtlmjlffipinjiabDoor
open Go.RowKit

theorem take_up {D : List Nat} {i : Nat} (h : i < D.length) : D.take (i + 1) = D.take i ++ [D.getD i 0] := by
  rw [List.take_add_one, List.getElem?_eq_getElem h, List.getD_eq_getElem?_getD, List.getElem?_eq_getElem h]; rfl

/-- A row of 60 truths. -/
def zrow (f : Nat → Bool) : Array Value := ((List.range 60).map fun j => Value.bool (f j)).toArray
@[simp] theorem zrow_size (f : Nat → Bool) : (zrow f).size = 60 := by simp [zrow]
theorem zrow_at (f : Nat → Bool) (j : Nat) (h : j < 60) : (zrow f)[j]? = some (.bool (f j)) := by simp [zrow, h]
theorem zrow_set (f : Nat → Bool) (i : Nat) (v : Bool) : (zrow f).setIfInBounds i (.bool v) = zrow (upT f i v) := by
  apply Array.ext_getElem?
  intro j
  rw [Array.getElem?_setIfInBounds]
  by_cases hj : j < 60
  · rw [zrow_at _ _ hj]
    by_cases e : i = j
    · subst e; rw [if_pos rfl, zrow_at _ _ hj, if_pos (by simpa using hj)]; simp [upT]
    · rw [if_neg e, zrow_at _ _ hj]; simp [upT, Ne.symm e]
  · simp [zrow, hj]; omega
theorem zrow_congr {f g : Nat → Bool} (h : ∀ j, j < 60 → f j = g j) : zrow f = zrow g := by
  unfold zrow
  congr 1
  apply List.map_congr_left
  intro j hj
  rw [h j (by simpa using hj)]
theorem zrow_inj {f g : Nat → Bool} (h : zrow f = zrow g) {j : Nat} (hj : j < 60) : f j = g j := by
  have h1 := zrow_at f j hj
  rw [h, zrow_at g j hj] at h1
  simpa using h1.symm
theorem zrow_one (f : Nat → Bool) : (zrow f).all (·.oneCell') = true := by
  rw [Array.all_eq_true]
  intro i hi
  have h := zrow_at f i (by simpa using hi)
  rw [Array.getElem?_eq_getElem hi] at h
  rw [Option.some.inj h]; rfl
def ZRow (w : World) (g : Nat) (f : Nat → Bool) : Prop := w.heap[g]? = some (.cells (zrow f) 96 (0, 0))
theorem ZRow.lt {w : World} {g : Nat} {f : Nat → Bool} (h : ZRow w g f) : g < w.heap.size := (Array.getElem?_eq_some_iff.1 h).1
theorem ZRow.cell {w : World} {g : Nat} {f : Nat → Bool} (h : ZRow w g f) (j : Nat) (hj : j < 60) : w.cell? ⟨g, j, none⟩ = some (.bool (f j)) := by
  rw [cell_of_row w g j _ _ _ h, zrow_at _ _ hj]
theorem ZRow.frozen {w : World} {g : Nat} {f : Nat → Bool} (h : ZRow w g f) (j : Nat) : w.frozen? ⟨g, j, none⟩ = false := frozen_of_row w g j _ _ h
theorem ZRow.set {w : World} {g : Nat} {f : Nat → Bool} (h : ZRow w g f) (i : Nat) (v : Bool) : ZRow (w.setCell ⟨g, i, none⟩ (.bool v)) g (upT f i v) := by
  unfold ZRow
  rw [heap_setCell_same w g i _ _ _ h, zrow_set]
theorem ZRow.other {w : World} {g : Nat} {f : Nat → Bool} (h : ZRow w g f) (a : Addr) (v : Value) (hne : g ≠ a.block) : ZRow (w.setCell a v) g f := by
  unfold ZRow
  rw [heap_setCell_other w a g v hne]; exact h
theorem ZRow.below {w w' : World} {g : Nat} {f : Nat → Bool} (h : ZRow w g f) (hb : Below w.heap.size w w') : ZRow w' g f := (hb.block g h.lt).trans h
theorem ZRow.whole {w : World} {g : Nat} {f : Nat → Bool} (h : ZRow w g f) (f' : Nat → Bool) : ZRow (w.setRow g (zrow f')) g f' := setRow_heap w g _ _ _ _ h
theorem ZRow.made (w : World) (f : Nat → Bool) : ZRow (w.alloc (.cells (zrow f) 96)) w.heap.size f := heap_alloc_new w _
theorem bsetRow {B g : Nat} {w0 w : World} (hb : Below B w0 w) (hBg : B ≤ g) (cs : Array Value) : Below B w0 (w.setRow g cs) :=
  ⟨hb.os, hb.tape, hb.output, by simpa using hb.size, fun k hk => (setRow_other w g k cs (by omega)).trans (hb.block k hk)⟩
set_option maxRecDepth 100000 in
theorem undB : Tryd.prog.underlying 96 = some (.array 60 4) := by kernel_rfl
set_option maxRecDepth 100000 in
theorem infB (f : Nat → Bool) : (Tryd.prog.info? 96).map (·.size) = some (zrow f).size := by rw [zrow_size]; kernel_rfl
set_option maxRecDepth 100000 in
theorem post_zrow {fn : Func} {R : Ending → World → Prop} {a : Act} {w : World} {g : Nat} {f : Nat → Bool} (slot : Tmp) (hres : fn.results = #[.cell slot 96])
    (hp : a.tmps.getD slot undef = .pointer (some ⟨g, 0, none⟩)) (hr : ZRow w g f) (hd : a.defers = []) (hR : R (.returned (.agg (zrow f))) w) : bodyPost Tryd.prog fn R .ret a w :=
  bodyPost_ret (results_cell_row hres a.tmps w g 96 (zrow f) (0, 0) _ hp hr undB rfl (infB f)) hd hR
set_option maxRecDepth 100000 in
theorem idxB (f : Nat → Bool) (k : Nat) (h : k < 60) (w : World) : (Instr.index 96 (.agg (zrow f)) (.int .i64 (k : Int))).run Tryd.prog w = .ok (.bool (f k)) w := by
  have hi : (0 : Int) ≤ (k : Int) ∧ (k : Int) < ((60 : Nat) : Int) := by omega
  simp [Instr.index, run_underlying undB, asIntOf, hi, go_sem]
  rw [if_pos h, zrow_at f k h]
  rfl
theorem imF_none (v : Nat) (t s : Nat) : imF v [] t s = fun _ => false := by funext x; simp [imF]
theorem imF_next (v : Nat) (l : List Nat) (t s x : Nat) : upT (imF v l t s) (mvN v t s x) true = imF v (l ++ [x]) t s := by
  funext y
  unfold upT imF
  rw [List.map_append]
  by_cases e : y = mvN v t s x
  · rw [if_pos e]; simp [e]
  · rw [if_neg e]; simp [e]
theorem mv_int {v x t s m : Nat} (hm : x * t = m) : ((m : Int) + (s : Int)).tmod (v : Int) = (mvN v t s x : Int) := by
  unfold mvN
  rw [hm, ← Int.natCast_add, Int.ofNat_tmod]
set_option maxRecDepth 100000 in
set_option maxHeartbeats 8000000 in
theorem image_any (v t s : Nat) (D : List Nat) (u : Value) (w : World) (hG : GoodS v D) (hu : Sl w u (D.map Int.ofNat)) (ht : t < 60) (hs : s < 60) :
    Calls Tryd.prog 45 #[.int .i64 (v : Int), u, .int .i64 (t : Int), .int .i64 (s : Int)] w fun e w' => e = .returned (.agg (zrow (imF v D t s))) ∧ Below w.heap.size w w' := by
  obtain ⟨a, ca, rfl, hA⟩ := sl_at hu
  have hz : ∀ w, (zeroValue 96).run Tryd.prog w = .ok (.agg (zrow fun _ => false)) w := fun w => by kernel_rfl
  have h1 := hG.pos
  have h60 := hG.le
  have hlen := hG.len
  obtain ⟨g, Hg⟩ : ∃ g, Hid (w.heap.size = g) := ⟨_, rfl⟩
  have HA : Hid (∀ i, i < D.length → ∃ b off, a = some ⟨b, off, none⟩ ∧ ∀ W, Below g w W → W.cell? ⟨b, off + i, none⟩ = some (.int .i64 ((D.getD i 0 : Nat) : Int))) := fun i hi => by
    obtain ⟨b, o, e, hc⟩ := hA i hi
    exact ⟨b, o, e, fun W bW => (bW.cell (by rw [← Hg.out]; exact World.block_lt_of_cell? _ _ hc)).trans hc⟩
  have HV : Hid (∀ i, i < D.length → D.getD i 0 < v) := fun i hi => by
    rw [List.getD_eq_getElem?_getD, List.getElem?_eq_getElem hi]; exact hG.lt _ (List.getElem_mem hi)
  have HN : Hid (∀ i, i < D.length → upT (imF v (D.take i) t s) (mvN v t s (D.getD i 0)) true = imF v (D.take (i + 1)) t s) := fun i hi => by rw [imF_next, take_up hi]
  have HE : Hid (imF v (D.take D.length) t s = imF v D t s) := by show imF v (D.take D.length) t s = imF v D t s; rw [List.take_length]
  have hr1 := ZRow.made w (fun _ => false)
  have hr0 := hr1.below (balloc _ (.cells (zrow fun _ => false) 96))
  have hr2 := ZRow.made (w.alloc (.cells (zrow fun _ => false) 96)) (fun _ => false)
  rw [World.size_alloc] at hr2
  have hb0 := Below.next (balloc w (.cells (zrow fun _ => false) 96)) (balloc _ (.cells (zrow fun _ => false) 96))
  rw [Hg.out] at hr0 hr2 hb0 ⊢
  generalize D.length = n at *
  have hv0 : (v : Int) ≠ 0 := by omega
  have hw4 : ¬ v = 0 := by omega
  have hgw : w.heap.size = g := Hg.out
  have h60i : ((60 : Nat) : Int) = 60 := rfl
  clear hu hA hr1
  go_enter Tryd.func45, Tryd.ntmps45
  go_wp2
  (try rw [hgw])
  go_loopw [14] (fun iv wr => ∃ i : Nat, iv = .int .i64 (i : Int) ∧ i ≤ n ∧ ZRow wr g (fun _ => false) ∧ ZRow wr (g + 1) (imF v (D.take i) t s) ∧ Below g w wr) (fun iv _ => (n - intOf iv).toNat)
  case atStart => exact ⟨0, rfl, by omega, hr0, by rw [List.take_zero, imF_none]; exact hr2, hb0⟩
  case round =>
    clear hr0 hr2 hb0 hz
    obtain ⟨i, rfl, hi, hr0, hr2, hB⟩ := hrel
    by_cases hlt : i < n
    · have hii : (i : Int) < n := by omega
      have hdec : decide ((i : Int) < n) = true := by simp; omega
      obtain ⟨b1, o1, rfl, c1⟩ := HA.out i hlt
      replace c1 := c1 _ hB
      have hxv := HV.out i hlt
      have hN := HN.out i hlt
      obtain ⟨x, hx⟩ : ∃ x, D.getD i 0 = x := ⟨_, rfl⟩
      rw [hx] at c1 hxv hN
      obtain ⟨m, hm⟩ : ∃ m, x * t = m := ⟨_, rfl⟩
      have hmi : (x : Int) * (t : Int) = (m : Int) := by rw [← hm]; simp
      have hmb : m ≤ 60 * 60 := by rw [← hm]; exact Nat.mul_le_mul (by omega) (by omega)
      have hmod := mv_int (v := v) (s := s) hm
      obtain ⟨k, Hk⟩ : ∃ k, Hid (mvN v t s x = k) := ⟨_, rfl⟩
      have hkv : k < v := by rw [← Hk.out]; exact Nat.mod_lt _ (by omega)
      rw [Hk.out] at hmod hN
      have hk60 : (k : Int) < 60 := by omega
      have hfz := hr2.frozen k
      have hcm := hr2.cell k (by omega)
      have hset := hr2.set k true
      have hset0 := hr0.other ⟨g + 1, k, none⟩ (.bool true) (by simp)
      have hB2 := hB.setCell (p := ⟨g + 1, k, none⟩) (Nat.le_succ _) (.bool true)
      rw [hN] at hset
      generalize imF v (D.take i) t s k = fk at hcm
      clear hN hx hm HA HV HN HE hr0 hr2 hB hkv
      go_wp2
      go_roundw
      case rel => exact ⟨i + 1, by go_num, by omega, hset0, hset, hB2⟩
      case measure => simp [intOf]; omega
    · have hdec : decide ((i : Int) < n) = false := by simp; omega
      obtain rfl : i = n := by omega
      rw [HE.out] at hr2
      go_wp2_with (first
        | (refine wpList_load_row rfl 96 _ rfl (g + 1) rfl 96 _ (0, 0) _ hr2 undB rfl (infB _) ?_)
        | (refine wpList_store_row rfl 96 _ _ rfl g _ rfl rfl 96 _ hr0 (infB _) (by simp) (zrow_one _) ?_))
      exact post_zrow 8 Tryd.results45 rfl (hr0.whole _) rfl ⟨rfl, bsetRow hB (Nat.le_refl _) _⟩
theorem ran_up (f : Nat → Bool) (k : Nat) : (List.range (k + 1)).filter f = (List.range k).filter f ++ if f k = true then [k] else [] := by
  rw [List.range_succ, List.filter_append]
  cases h : f k <;> simp [h]
set_option maxRecDepth 100000 in
set_option maxHeartbeats 8000000 in
theorem list_any (f : Nat → Bool) (w : World) :
    Calls Tryd.prog 46 #[.agg (zrow f)] w fun e w' => ∃ x, e = .returned x ∧ ORow w' w.heap.size x ((List.range 60).filter f) ∧ Below w.heap.size w w' := by
  obtain ⟨i3, hi3, hz0, hz1, hz2⟩ := info3
  have hr0 := ZRow.made w f
  have hb0 := balloc w (.cells (zrow f) 96)
  obtain ⟨g, Hg⟩ : ∃ g, Hid (w.heap.size = g) := ⟨_, rfl⟩
  have HIx : Hid (∀ k : Nat, k < 60 → ∀ w, (Instr.index 96 (.agg (zrow f)) (.int .i64 (k : Int))).run Tryd.prog w = .ok (.bool (f k)) w) := fun k hk w => idxB f k hk w
  have HU : Hid (∀ k, (List.range (k + 1)).filter f = (List.range k).filter f ++ if f k = true then [k] else []) := ran_up f
  have HLn : Hid (∀ k, ((List.range k).filter f).length ≤ k) := fun k => Nat.le_trans (List.length_filter_le _ _) (by simp)
  rw [Hg.out] at hr0 hb0 ⊢
  obtain ⟨F, HF⟩ : ∃ F : Nat → List Nat, Hid (∀ k, (List.range k).filter f = F k) := ⟨fun k => (List.range k).filter f, fun _ => rfl⟩
  have HU2 : Hid (∀ k, F (k + 1) = F k ++ if f k = true then [k] else []) := fun k => by rw [← HF.out, ← HF.out]; exact HU.out k
  have HL2 : Hid (∀ k, (F k).length ≤ k) := fun k => by rw [← HF.out]; exact HLn.out k
  have HF0 : Hid (F 0 = []) := by show F 0 = []; rw [← HF.out]; rfl
  rw [HF.out]
  have hgw : w.heap.size = g := Hg.out
  clear HU HLn HF
  go_enter Tryd.func46, Tryd.ntmps46
  go_wp2_with (first
    | (refine wpList_load_row rfl 96 _ rfl g rfl 96 _ (0, 0) _ hr0 undB rfl (infB _) ?_))
  clear hr0
  go_loopw [3, 7] (fun ov kv wr => ∃ k : Nat, kv = .int .i64 (k : Int) ∧ k ≤ 60 ∧ ORow wr g ov (F k) ∧ Below g w wr) (fun _ kv _ => (60 - intOf kv).toNat)
  case atStart => exact ⟨0, rfl, by omega, by rw [HF0.out]; exact World.ownsRow_nil _ _ _ _, hb0⟩
  case round =>
    clear hb0
    obtain ⟨k, rfl, hk, hown, hB⟩ := hrel
    have hgs : g ≤ wr.heap.size := by rw [← hgw]; exact hB.size
    by_cases hlt : k < 60
    · have hdi : decide ((k : Int) < 60) = true := by simp; omega
      have hii : (k : Int) < 60 := by omega
      have hix := HIx.out k hlt
      have hU := HU2.out k
      have hL := HL2.out k
      cases hf : f k
      · rw [hf] at hix hU
        have HUU : Hid (F (k + 1) = F k) := by show _ = _; rw [hU]; simp
        clear hU hf HIx HU2 HL2 HF0
        go_wp2
        go_roundw
        case rel => exact ⟨k + 1, by go_num, by omega, by rw [HUU.out]; exact hown, hB⟩
        case measure => simp [intOf]; omega
      · rw [hf] at hix hU
        have HUU : Hid (F (k + 1) = F k ++ [k]) := by show _ = _; rw [hU]; simp
        obtain ⟨l, Hl⟩ : ∃ l, Hid (F k = l) := ⟨_, rfl⟩
        rw [Hl.out] at HUU hL hown
        unfold ORow at hown
        obtain ⟨oa, oc, rfl⟩ := own_form hown
        clear hU hf HIx HU2 HL2 HF0 Hl
        go_wp2_with (first
          | (at_builtin; refine wpList_append_own _ rfl _ _ 22 rfl g 3 i3 (.int .i64 0) 1 8 und22 hi3 hz0 hz1 hz2 rfl (by decide) _ _ _ rfl (hown.alloc _) ⟨wr.heap.size, 0, none⟩ 1 1 [.int .i64 (k : Int)] rfl rfl ?c1 ?c2 ?c3 ?c4 ?c5 ?_)
          | go_in)
        case c1 =>
          intro j u hj
          match j, hj with
          | 0, hj => simp at hj; subst hj; simp [Addr.add]
        case c2 => intro u hu; simp at hu; subst hu; rfl
        case c3 => unfold maxLen; omega
        case c4 => omega
        case c5 => simp; omega
        · intro v' w2 hown' hgrow _
          have hb2 : Below g w w2 := (hB.alloc (by omega) _).grown hgrow (by simp; omega) (fun k hk => (hown.lt k hk).1)
          have hown2 : w2.ownsRow g 3 1 v' (l.length + 1) (((l ++ [k]).map Int.ofNat).map (Value.int .i64)) := by simpa using hown'
          have hown3 : ORow w2 g v' (F (k + 1)) := by
            rw [HUU.out]
            unfold ORow
            rw [List.length_append]
            exact hown2
          clear hown' hown2 hgrow hown hB
          go_wp2
          go_roundw
          case rel => exact ⟨k + 1, by go_num, by omega, hown3, hb2⟩
          case measure => simp [intOf]; omega
    · have hdi : decide ((k : Int) < 60) = false := by simp; omega
      obtain rfl : k = 60 := by omega
      go_wp2
      go_ret
      exact ⟨_, rfl, hown, hB⟩

end Go.Proofs.YtlmjlffipinjiabDoor
