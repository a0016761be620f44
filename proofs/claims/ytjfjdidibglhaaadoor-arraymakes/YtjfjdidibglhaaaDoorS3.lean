/- The document's SquaresRuns, walked. -/
import Derived.Test.YtjfjdidibglhaaaDoorS1
import Derived.Test.YtjfjdidibglhaaaDoorDR
import Derived.Deep.RegionHeld3
import Derived.Laws.MakeOwn
import Derived.Test.YtjfjdidibglhaaaDoorL5
import Derived.Deep.AppendLies
/- The walk of Squares. -/
namespace Go.Proofs.YtjfjdidibglhaaaDoor.Ar
open Go.RowKit

/-- The run of a cell. -/
def roQ (n : Nat) (qs : List (Int × List Int)) (j : Nat) : List Int := [((j / n : Nat) : Int), ((j % n : Nat) : Int)] ++ qs.map fun q => q.2.getD j 0
def rwQ (n : Nat) (qs : List (Int × List Int)) : List (List Int) := (List.range (n * n)).map (roQ n qs)
theorem roQ_len (n : Nat) (qs : List (Int × List Int)) (j : Nat) : (roQ n qs j).length = qs.length + 2 := by simp [roQ]
theorem roQ_more {n i j : Nat} {qs : List (Int × List Int)} {q : Int × List Int} (h : qs[i]? = some q) : (roQ n (qs.take (i + 1)) j).map (Value.int .i64) = (roQ n (qs.take i) j).map (Value.int .i64) ++ [.int .i64 (q.2.getD j 0)] := by
  unfold roQ
  rw [List.take_add_one, h]
  simp
theorem run_makeR (n : Nat) (hn : n ≤ 999) (w : World) : (Instr.makeSlice 25 (.int .i64 (n : Int)) (.int .i64 (n : Int))).run Tryd.prog w = .ok (.slice (some ⟨w.heap.size, 0, none⟩) n n) (w.alloc (.cells (madeCells #[.slice none 0 0] n) 22)) := by
  obtain ⟨i22, hi, hz0, hz1, hz2⟩ := info40
  have h := run_make (P := Tryd.prog) w 25 22 i22 (.slice none 0 0) undR hi hz0 .i64 .i64 n n (by omega) (by omega) (by rw [hz2]; omega) (by omega)
  simpa [hz1, Value.cells] using h
/-- All blocks but one stay. -/
structure Kg (g B : Nat) (w w' : World) : Prop where
  size : w.heap.size ≤ w'.heap.size
  block : ∀ k, k < B → k ≠ g → w'.heap[k]? = w.heap[k]?
theorem Kg.trans {g B : Nat} {a b c : World} (h : Kg g B a b) (k : Kg g B b c) : Kg g B a c := ⟨Nat.le_trans h.size k.size, fun j hj hne => (k.block j hj hne).trans (h.block j hj hne)⟩
theorem Kg.refl (g B : Nat) (w : World) : Kg g B w w := ⟨Nat.le_refl _, fun _ _ _ => rfl⟩
theorem Kg.alloc {g B : Nat} {a b : World} (h : Kg g B a b) (hB : B ≤ b.heap.size) (o : Obj) : Kg g B a (b.alloc o) := ⟨by have := h.size; simp; omega, fun k hk hne => (Below.heap_alloc _ _ _ (by omega)).trans (h.block k hk hne)⟩
theorem Kg.drew {g B : Nat} {a b : World} (h : Kg g B a b) : Kg g B a b.drew := ⟨h.size, h.block⟩
theorem Kg.set {g B : Nat} {a b : World} (h : Kg g B a b) (i : Nat) (v : Value) : Kg g B a (b.setCell ⟨g, i, none⟩ v) := ⟨by simpa using h.size, fun k hk hne => (heap_setCell_other b ⟨g, i, none⟩ k v hne).trans (h.block k hk hne)⟩
theorem Kg.grown {g B : Nat} {a b c : World} {ob : Option Nat} (h : Kg g B a b) (hG : b.grownBy c ob) (hB : B ≤ b.heap.size) (hob : ∀ k, ob = some k → B ≤ k) : Kg g B a c := ⟨Nat.le_trans h.size hG.size, fun k hk hne => (hG.block k (by omega) (fun e => by have := hob k e.symm; omega)).trans (h.block k hk hne)⟩
theorem set_same {w : World} {g c : Nat} {cur : Array Value} {t : TypeId} (h : w.heap[g]? = some (.cells cur t (0, 0))) (u : Value) : (w.setCell ⟨g, c, none⟩ u).heap[g]? = some (.cells (cur.setIfInBounds c u) t (0, 0)) := heap_setCell_same w g c _ _ _ h
theorem own_set {w : World} {base n g c : Nat} {e : TypeId} {v u : Value} {xs : List Value} (h : w.ownsRow base e 1 v n xs) (hg : g < base) : (w.setCell ⟨g, c, none⟩ u).ownsRow base e 1 v n xs := own_keep h fun b hb _ => heap_setCell_other w ⟨g, c, none⟩ b u (by show b ≠ g; omega)
theorem own_sliceI' {w : World} {base n : Nat} {v : Value} {xs : List Value} (h : w.ownsRow base 3 1 v n xs) : ∃ a c, v = .slice a n c := by
  obtain ⟨_, ⟨rfl, rfl⟩ | ⟨g, cap, cur, rfl, _⟩⟩ := h
  · exact ⟨_, _, rfl⟩
  · exact ⟨_, _, rfl⟩
theorem own_two (w : World) (x y : Int) : (w.alloc (.cells #[.int .i64 x, .int .i64 y] 3)).ownsRow w.heap.size 3 1 (.slice (some ⟨w.heap.size, 0, none⟩) 2 2) 2 [.int .i64 x, .int .i64 y] :=
  ⟨rfl, .inr ⟨w.heap.size, 2, #[.int .i64 x, .int .i64 y], rfl, Nat.le_refl _, heap_alloc_new w _, by omega, by unfold maxLen; omega, rfl, rfl⟩⟩
set_option maxRecDepth 100000 in
set_option maxHeartbeats 4000000 in
theorem Squares_bad (qs : List (Int × List Int)) (v : Value) (w : World) (hv : SqL w v qs) (hl : qs.length ≤ maxLen) (hll : ∀ q ∈ qs, q.2.length ≤ maxLen) (h0 : csF qs ≠ 0) :
    Calls Tryd.prog 10 #[v] w fun e w' => e = .returned (.tuple #[.slice none 0 0, .int .i64 (csF qs : Int)]) ∧ Below w.heap.size w w' := by
  have C := checkSquares_any qs v w hv hl hll
  obtain ⟨z, Hz⟩ : ∃ z, Hid (csF qs = z) := ⟨_, rfl⟩
  rw [Hz.out] at C h0 ⊢
  have hne : ((z : Int) != 0) = true := by simp; omega
  obtain ⟨n, Hn⟩ : ∃ n, Hid (qs.length = n) := ⟨_, rfl⟩
  obtain ⟨a, cap, rfl, -⟩ := hv
  rw [Hn.out] at C ⊢
  clear hl hll
  go_enter Tryd.func10, Tryd.ntmps10
  go_wp2_with (go_at_call 22; refine C.mono ?_; rintro e1 w1 ⟨rfl, b1⟩; clear C)
  go_ret2
  exact ⟨rfl, b1⟩
/-- Rows of one's own, and no error. -/
def OzQ (w : World) (ls : List (List Int)) (e : Ending) (w' : World) : Prop := ∃ y, e = .returned (.tuple #[y, .int .i64 0]) ∧ OZ w' w.heap.size y ls
set_option maxRecDepth 100000 in
set_option maxHeartbeats 16000000 in
theorem Squares_ok (n : Nat) (qs : List (Int × List Int)) (v : Value) (w : World) (hv : SqL w v qs) (hG : GoodQ n qs) (h1 : 1 ≤ n) (h8 : n ≤ 8) :
    Calls Tryd.prog 10 #[v] w fun e w' => OzQ w (rwQ n qs) e w' ∧ Below w.heap.size w w' := by
  obtain ⟨i3, ti, tz0, tz1, tz2⟩ := info3
  have HI3 : Hid (Tryd.prog.info? 3 = some i3 ∧ i3.zero = some (.int .i64 0) ∧ i3.size = 1 ∧ i3.bytes = 8) := ⟨ti, tz0, tz1, tz2⟩
  clear ti tz0 tz1 tz2
  obtain ⟨z, Hz⟩ : ∃ z, Hid (n * n = z) := ⟨_, rfl⟩
  have hz64 : z ≤ 99 := by rw [← Hz.out]; exact Nat.le_trans (Nat.mul_le_mul h8 h8) (by decide)
  have hz1 : 1 ≤ z := by rw [← Hz.out]; exact Nat.mul_pos h1 h1
  have HLL : Hid (∀ (i : Nat) (q : Int × List Int), qs[i]? = some q → q.1 = (n : Int) ∧ q.2.length = z) := fun i q h => by
    obtain ⟨e, hg⟩ := hG.sq q (List.mem_of_getElem? h)
    exact ⟨e, by rw [← Hz.out]; exact hg.len⟩
  have hq6 := hG.l6
  have hq1 := hG.l1
  have C := checkSquares_any qs v w hv (by unfold maxLen; omega) (fun q hq => by obtain ⟨i, hi⟩ := List.getElem?_of_mem hq; rw [(HLL.out i q hi).2]; unfold maxLen; omega)
  rw [hG.csF] at C
  obtain ⟨q, Hq⟩ : ∃ q, Hid (qs.length = q) := ⟨_, rfl⟩
  have HV : Hid (∀ W, Below w.heap.size w W → SqL W v qs) := fun W b => hv.below b
  obtain ⟨q0, hq0⟩ : ∃ q0, qs[0]? = some q0 := ⟨_, List.getElem?_eq_getElem (by omega)⟩
  have HQ0 : Hid (qs[0]? = some q0) := hq0
  obtain ⟨a, cap, rfl, -⟩ := hv
  rw [Hq.out] at C HV hq6 hq1 ⊢
  obtain ⟨b, off, u0, rfl, c0, -, -⟩ := (HV.out w (Below.refl _ _)).at hq0 rfl
  rw [(HLL.out 0 q0 hq0).1, Nat.zero_mul, Nat.add_zero] at c0
  have hbl0 := block_lt_of_cell c0
  have HC0 : Hid (∀ W, Below w.heap.size w W → W.cell? ⟨b, off, none⟩ = some (.int .i64 (n : Int))) := fun W bW => (bW.cell (p := ⟨b, off, none⟩) hbl0).trans c0
  have hmul : (n : Int) * (n : Int) = (z : Int) := by rw [← Hz.out]; simp
  have hni : (n : Int) ≠ 0 := by omega
  have hqi : (0 : Int) < (q : Int) := by omega
  have hmk := run_makeR z (by omega)
  have HAT : Hid (∀ i, i < q → ∃ b, qs[i]? = some b) := fun i hi => ⟨_, List.getElem?_eq_getElem (by rw [Hq.out]; exact hi)⟩
  have HROW : Hid (rwQ n qs = (List.range z).map (roQ n qs)) := by show _ = _; unfold rwQ; rw [Hz.out]
  have HRL : Hid (∀ j, (roQ n qs j).length = q + 2) := fun j => by rw [roQ_len, Hq.out]
  have HMORE : Hid (∀ (i j : Nat) (p : Int × List Int), qs[i]? = some p → (roQ n (qs.take (i + 1)) j).map (Value.int .i64) = (roQ n (qs.take i) j).map (Value.int .i64) ++ [.int .i64 (p.2.getD j 0)]) := fun i j p h => roQ_more h
  have HEND : Hid (∀ j, roQ n (qs.take q) j = roQ n qs j) := fun j => by rw [List.take_of_length_le (by rw [Hq.out]; exact Nat.le_refl _)]
  have H00 : Hid (∀ j, (roQ n (qs.take 0) j).map (Value.int .i64) = [.int .i64 ((j / n : Nat) : Int), .int .i64 ((j % n : Nat) : Int)]) := fun j => by simp [roQ]
  clear hG hq0 c0
  go_enter Tryd.func10, Tryd.ntmps10
  go_wp2_with (go_at_call 22; refine C.mono ?_; rintro e1 w1 ⟨rfl, b1⟩; clear C; have c0 := HC0.out _ b1)
  obtain ⟨g, Hg⟩ : ∃ g, Hid (w1.heap.size = g) := ⟨_, rfl⟩
  have hgw : w.heap.size ≤ g := by rw [← Hg.out]; exact b1.size
  have hm0 : (w1.alloc (.cells (madeCells #[.slice none 0 0] z) 22)).heap[g]? = some (.cells (madeCells #[.slice none 0 0] z) 22 (0, 0)) := by rw [← Hg.out]; exact heap_alloc_new w1 _
  have hb0 : Below w.heap.size w (w1.alloc (.cells (madeCells #[.slice none 0 0] z) 22)) := Below.next b1 (balloc _ _)
  have hsz0 : (madeCells #[Value.slice none 0 0] z).size = z := by rw [size_madeCells]
  rw [Hg.out]
  go_loopw [7, 9, 25, 40] (fun _ _ iv _ wr => ∃ (c : Nat) (cur : Array Value), iv = .int .i64 (c : Int) ∧ c ≤ z ∧ wr.heap[g]? = some (.cells cur 22 (0, 0)) ∧ cur.size = z ∧ Hid (∀ j, j < c → ∃ u, cur[j]? = some u ∧ wr.ownsRow (g + 1) 3 1 u (q + 2) ((roQ n qs j).map (Value.int .i64))) ∧ Below w.heap.size w wr) (fun _ _ iv _ _ => (z - intOf iv).toNat)
  case atStart => exact ⟨0, _, rfl, by omega, hm0, hsz0, (show ∀ j, j < 0 → _ from fun j h => by omega), hb0⟩
  case round =>
    clear hm0 hb0 hsz0 c0 b1
    obtain ⟨c, cur, rfl, hc, hgb, hcs, HR, hB⟩ := hrel
    have hgl : g < wr.heap.size := (Array.getElem?_eq_some_iff.1 hgb).1
    by_cases hlt : c < z
    · have hdc : decide ((c : Int) < (z : Int)) = true := by simp; omega
      have hci : (c : Int) < (z : Int) := by omega
      obtain ⟨x, Hx⟩ : ∃ x, Hid (c / n = x) := ⟨_, rfl⟩
      obtain ⟨y, Hy⟩ : ∃ y, Hid (c % n = y) := ⟨_, rfl⟩
      have hx1 : (c : Int).tdiv (n : Int) = (x : Int) := by rw [← Hx.out]; rfl
      have hy1 : (c : Int).tmod (n : Int) = (y : Int) := by rw [← Hy.out]; rfl
      have hxl : x ≤ c := by rw [← Hx.out]; exact Nat.div_le_self _ _
      have hyl : y ≤ c := by rw [← Hy.out]; exact Nat.mod_le _ _
      obtain ⟨w2, Hw2⟩ : ∃ w2 : World, Hid (w2 = wr) := ⟨_, rfl⟩
      have HB2 : Hid (Below w.heap.size w w2) := by rw [Hw2.out]; exact hB
      have hs2 : w.heap.size ≤ wr.heap.size := hB.size
      -- the block of runs, in a world that keeps it
      have HCELL : Hid (∀ (W : World) (cu : Array Value), W.heap[g]? = some (.cells cu 22 (0, 0)) → cu.size = z → (∃ u, W.cell? ⟨g, c, none⟩ = some u) ∧ W.frozen? ⟨g, c, none⟩ = false) := fun W cu h hz => ⟨⟨cu[c]'(by omega), by rw [cell_of_row W g c _ _ _ h]; simp [hz, hlt]⟩, frozen_of_row W g c _ _ h⟩
      obtain ⟨⟨oldc, hold⟩, hfz⟩ := HCELL.out wr cur hgb hcs
      have hgS := set_same (c := c) hgb (.slice (some ⟨wr.heap.size, 0, none⟩) 2 2)
      have hsS : (wr.setCell ⟨g, c, none⟩ (.slice (some ⟨wr.heap.size, 0, none⟩) 2 2)).heap.size = wr.heap.size := by simp
      have hoS := own_two (wr.setCell ⟨g, c, none⟩ (.slice (some ⟨wr.heap.size, 0, none⟩) 2 2)) x y
      rw [hsS] at hoS
      have hBB : Below w.heap.size w ((wr.setCell ⟨g, c, none⟩ (.slice (some ⟨wr.heap.size, 0, none⟩) 2 2)).alloc (.cells #[.int .i64 (x : Int), .int .i64 (y : Int)] 3)).drew := ((hB.setCell (p := ⟨g, c, none⟩) hgw _).alloc (by rw [hsS]; exact hs2) _).drew
      have hKB : Kg g w2.heap.size w2 ((wr.setCell ⟨g, c, none⟩ (.slice (some ⟨wr.heap.size, 0, none⟩) 2 2)).alloc (.cells #[.int .i64 (x : Int), .int .i64 (y : Int)] 3)).drew := by
        rw [Hw2.out]
        exact (((Kg.refl g _ wr).set c _).alloc (by rw [hsS]; exact Nat.le_refl _) _).drew
      have e00 := H00.out c
      rw [Hx.out, Hy.out] at e00
      have HST : Hid (∃ (cu : Array Value) (xv : Value), ((wr.setCell ⟨g, c, none⟩ (.slice (some ⟨wr.heap.size, 0, none⟩) 2 2)).alloc (.cells #[.int .i64 (x : Int), .int .i64 (y : Int)] 3)).drew.heap[g]? = some (.cells cu 22 (0, 0)) ∧ cu.size = z ∧ cu[c]? = some xv ∧ (∀ j, j ≠ c → cu[j]? = cur[j]?) ∧ ((wr.setCell ⟨g, c, none⟩ (.slice (some ⟨wr.heap.size, 0, none⟩) 2 2)).alloc (.cells #[.int .i64 (x : Int), .int .i64 (y : Int)] 3)).drew.ownsRow w2.heap.size 3 1 xv (0 + 2) ((roQ n (qs.take 0) c).map (Value.int .i64))) := by
        refine ⟨_, _, (Below.heap_alloc _ _ _ (by rw [hsS]; exact hgl)).trans hgS, by simp [hcs], ?_, fun j hj => ?_, by rw [Hw2.out, e00]; exact hoS⟩
        · rw [Array.getElem?_setIfInBounds, if_pos rfl, if_pos (by omega)]
        · rw [Array.getElem?_setIfInBounds, if_neg (Ne.symm hj)]
      have hn0 : ¬ n = 0 := by omega
      clear hgS hoS e00 hsS
      go_wp2_with fail
      refine wp_region_noPanic ?_
      refine wp_region_held_drew (S := fun _ => True) (by kernel_rfl) trivial (fun hSx => ?_)
      refine wpAnyH_take (i := 0) (v := .slice (some ⟨g, 0, none⟩) z z) rfl (by kernel_rfl) (by kernel_rfl) (by kernel_rfl) (fun _ _ _ h => h) (Or.inl ⟨by rfl, fun w' hSw => by go_simp⟩) hSx ?_
      try simp only [Act.put, List.setIfInBounds_toArray]
      refine wpAnyH_take (i := 1) (v := .int .i64 (c : Int)) rfl (by kernel_rfl) (by kernel_rfl) (by kernel_rfl) (fun _ _ _ h => h) (Or.inl ⟨by rfl, fun w' hSw => by go_simp⟩) hSx ?_
      try simp only [Act.put]
      refine wpAnyH_take (i := 2) (v := .int .i64 (c : Int)) rfl (by kernel_rfl) (by kernel_rfl) (by kernel_rfl) (fun _ _ _ h => h) (Or.inl ⟨by rfl, fun w' hSw => by go_simp⟩) hSx ?_
      try simp only [Act.put]
      refine wpAnyH_take (i := 3) (v := .int .i64 (n : Int)) rfl (by kernel_rfl) (by kernel_rfl) (by kernel_rfl) (fun _ _ _ h => h) (Or.inl ⟨by rfl, fun w' hSw => by go_simp⟩) hSx ?_
      try simp only [Act.put]
      refine wpAnyH_take (i := 4) (v := .int .i64 (x : Int)) rfl (by kernel_rfl) (by kernel_rfl) (by kernel_rfl) (fun _ _ _ h => h) (Or.inl ⟨by rfl, fun w' hSw => by go_simp; rw [IntKind.wrap_i64]; omega⟩) hSx ?_
      try simp only [Act.put]
      refine wpAnyH_take (i := 5) (v := .int .i64 (c : Int)) rfl (by kernel_rfl) (by kernel_rfl) (by kernel_rfl) (fun _ _ _ h => h) (Or.inl ⟨by rfl, fun w' hSw => by go_simp⟩) hSx ?_
      try simp only [Act.put]
      refine wpAnyH_take (i := 6) (v := .int .i64 (n : Int)) rfl (by kernel_rfl) (by kernel_rfl) (by kernel_rfl) (fun _ _ _ h => h) (Or.inl ⟨by rfl, fun w' hSw => by go_simp⟩) hSx ?_
      try simp only [Act.put]
      refine wpAnyH_take (i := 7) (v := .int .i64 (y : Int)) rfl (by kernel_rfl) (by kernel_rfl) (by kernel_rfl) (fun _ _ _ h => h) (Or.inl ⟨by rfl, fun w' hSw => by go_simp⟩) hSx ?_
      try simp only [Act.put]
      refine wpAnyH_ready (rs := [8]) (by kernel_rfl) (by simp) ?_
      refine (AllReadyH.cons rfl (fun J hJ => ?_) AllReadyH.nil)
      go_simp
      refine hJ.out _ _ (trivial) (fun hSx => ?_)
      clear hJ J
      try simp only [Act.put, List.setIfInBounds_toArray, List.set_cons_zero, List.set_cons_succ]
      refine wpAnyH_take (i := 9) (v := .pointer (some ⟨g, c, none⟩)) rfl (by kernel_rfl) (by kernel_rfl) (by kernel_rfl) (fun _ _ _ h => h) (Or.inl ⟨by rfl, fun w' hSw => by go_simp⟩) hSx ?_
      try simp only [Act.put, List.setIfInBounds_toArray]
      refine wpAnyH_ready (rs := [10]) (by kernel_rfl) (by simp) ?_
      refine (AllReadyH.cons rfl (fun J hJ => ?_) AllReadyH.nil)
      go_simp
      refine hJ.out _ _ (trivial) (fun hSx => ?_)
      clear hJ J
      try simp only [Act.put, List.setIfInBounds_toArray, List.set_cons_zero, List.set_cons_succ]
      refine wpAnyH_done (by kernel_rfl) ?_ _
      refine NoPanic.normal ?_
      clear hSx hold hfz
      revert HST hKB hBB
      generalize ((wr.setCell ⟨g, c, none⟩ (.slice (some ⟨wr.heap.size, 0, none⟩) 2 2)).alloc (.cells #[.int .i64 (x : Int), .int .i64 (y : Int)] 3)).drew = w3
      intro hBB hKB HST
      go_wp2
      go_loopw [9, 40] (fun _ iv wr' => ∃ (i : Nat) (cu : Array Value) (xv : Value), iv = .int .i64 (i : Int) ∧ i ≤ q ∧ wr'.heap[g]? = some (.cells cu 22 (0, 0)) ∧ cu.size = z ∧ cu[c]? = some xv ∧ Hid (∀ j, j ≠ c → cu[j]? = cur[j]?) ∧ wr'.ownsRow w2.heap.size 3 1 xv (i + 2) ((roQ n (qs.take i) c).map (Value.int .i64)) ∧ Kg g w2.heap.size w2 wr' ∧ Below w.heap.size w wr') (fun _ iv _ => (q - intOf iv).toNat)
      case atStart =>
        obtain ⟨cu, xv, k1, k2, k3, k4, k5⟩ := HST.out
        exact ⟨0, cu, xv, rfl, by omega, k1, k2, k3, k4, k5, hKB, hBB⟩
      case round =>
        have hgw2 : g < w2.heap.size := by rw [Hw2.out]; exact hgl
        have hww2 : w.heap.size ≤ w2.heap.size := by rw [Hw2.out]; exact hs2
        clear HST hKB hBB hB
        obtain ⟨i, cu, xv, rfl, hi, k1, k2, k3, K4, k5, k6, hB⟩ := hrel
        have hsz := k6.size
        by_cases hli : i < q
        · have hdi : decide ((i : Int) < (q : Int)) = true := by simp; omega
          have hii : (i : Int) < (q : Int) := by omega
          obtain ⟨⟨s, M⟩, hqi2⟩ := HAT.out i hli
          obtain ⟨es, el⟩ := HLL.out i (s, M) hqi2
          dsimp only at es el
          subst es
          have HMO : Hid ((roQ n (qs.take (i + 1)) c).map (Value.int .i64) = (roQ n (qs.take i) c).map (Value.int .i64) ++ [.int .i64 (M.getD c 0)]) := HMORE.out i c _ hqi2
          obtain ⟨b', off', u, eb, c1w, c2w, hSu⟩ := (HV.out w (Below.refl _ _)).at hqi2 rfl
          simp only [Option.some.injEq, Addr.mk.injEq, and_true] at eb
          obtain ⟨rfl, rfl⟩ := eb
          dsimp only at c1w c2w hSu
          obtain ⟨mb, mo, mc, rfl, hmb, hm0⟩ := hSu.form el (show 0 < z by omega)
          have hmcw := hm0 c hlt
          obtain ⟨yv, Hyv⟩ : ∃ yv, Hid (M.getD c 0 = yv) := ⟨_, rfl⟩
          rw [Hyv.out] at hmcw HMO
          have c1 := (hB.cell (p := ⟨b, off + i * 2, none⟩) (World.block_lt_of_cell? _ _ c1w)).trans c1w
          have c2 := (hB.cell (p := ⟨b, off + i * 2 + 1, none⟩) (World.block_lt_of_cell? _ _ c2w)).trans c2w
          obtain ⟨fl, Hfl⟩ : ∃ fl, Hid ((roQ n (qs.take i) c).map (Value.int .i64) = fl) := ⟨_, rfl⟩
          rw [Hfl.out] at k5 HMO
          have bx := balloc wr (.cells #[.int .i64 (n : Int), .slice (some ⟨mb, mo, none⟩) z mc] 49)
          obtain ⟨x0, x1⟩ := sq_box2 (n : Int) (.slice (some ⟨mb, mo, none⟩) z mc) wr
          have HbB : Hid ((wr.alloc (.cells #[.int .i64 (n : Int), .slice (some ⟨mb, mo, none⟩) z mc] 49)).heap.size = wr.heap.size + 1) := by show _ = _; simp
          obtain ⟨w4, Hw4⟩ : ∃ w4, Hid (wr.alloc (.cells #[.int .i64 (n : Int), .slice (some ⟨mb, mo, none⟩) z mc] 49) = w4) := ⟨_, rfl⟩
          rw [Hw4.out] at x0 x1 bx HbB
          have hB4 := Below.next hB bx
          have hgr : g < wr.heap.size := (Array.getElem?_eq_some_iff.1 k1).1
          have hxb : ∀ h, xv.ownBlock = some h → w2.heap.size ≤ h ∧ h < wr.heap.size := fun h hh => ⟨(k5.lt h hh).1, (k5.lt h hh).2⟩
          have HS : Hid (∀ W, Below w.heap.size w W → W.heap[wr.heap.size]? = w4.heap[wr.heap.size]? → W.cell? ⟨wr.heap.size, 1, none⟩ = some (.slice (some ⟨mb, mo, none⟩) z mc) ∧ W.cell? ⟨mb, mo + c, none⟩ = some (.int .i64 yv)) := fun W bW hW =>
            ⟨(World.cell?_of_block (a := ⟨wr.heap.size, 1, none⟩) hW).trans x1, (bW.cell (p := ⟨mb, mo + c, none⟩) hmb).trans hmcw⟩
          -- the worlds of the region
          have k5A : (w4.alloc (.cells #[.int .i64 yv] 3)).drew.ownsRow w2.heap.size 3 1 xv (i + 2) fl := own_keep k5 fun k _ hk => ((Below.heap_alloc _ _ _ (by have := HbB.out; omega)).trans (bx.block k hk))
          have k1A : (w4.alloc (.cells #[.int .i64 yv] 3)).drew.heap[g]? = some (.cells cu 22 (0, 0)) := (Below.heap_alloc _ _ _ (by have := HbB.out; omega)).trans ((bx.block g hgr).trans k1)
          have k14 : w4.heap[g]? = some (.cells cu 22 (0, 0)) := (bx.block g hgr).trans k1
          have hcA : (w4.alloc (.cells #[.int .i64 yv] 3)).drew.cell? ⟨g, c, none⟩ = some xv := by rw [cell_of_row _ g c _ _ _ k1A]; exact k3
          have hc4 : w4.cell? ⟨g, c, none⟩ = some xv := by rw [cell_of_row _ g c _ _ _ k14]; exact k3
          have hKA : Kg g w2.heap.size w2 (w4.alloc (.cells #[.int .i64 yv] 3)).drew := by
            have h4 : Kg g w2.heap.size w2 w4 := by rw [← Hw4.out]; exact k6.alloc (by omega) _
            exact (h4.alloc (by have := HbB.out; omega) _).drew
          have hBA : Below w.heap.size w (w4.alloc (.cells #[.int .i64 yv] 3)).drew := (hB4.alloc hB4.size _).drew
          have hbA : (w4.alloc (.cells #[.int .i64 yv] 3)).drew.heap[wr.heap.size]? = w4.heap[wr.heap.size]? := Below.heap_alloc _ _ _ (by have := HbB.out; omega)
          have HSA : Hid ((w4.alloc (.cells #[.int .i64 yv] 3)).drew.heap.size = wr.heap.size + 1 + 1) := by show (w4.alloc (.cells #[.int .i64 yv] 3)).heap.size = _; have := HbB.out; simp; omega
          obtain ⟨xa, xc, rfl⟩ := own_sliceI' k5
          clear hm0 hSu hqi2 c1w c2w
          go_wp2_with fail
          rw [Hw4.out]
          go_wp2_with fail
          refine wp_region_noPanic ?_
          refine wp_region_held_drew (S := fun W => W.cell? ⟨wr.heap.size, 1, none⟩ = some (.slice (some ⟨mb, mo, none⟩) z mc) ∧ W.cell? ⟨mb, mo + c, none⟩ = some (.int .i64 yv)) (by kernel_rfl) (HS.out _ hB4.drew rfl) (fun hSx => ?_)
          refine wpAnyH_take (i := 0) (v := .slice (some ⟨g, 0, none⟩) z z) rfl (by kernel_rfl) (by kernel_rfl) (by kernel_rfl) (fun _ _ _ h => h) (Or.inl ⟨by rfl, fun w' hSw => by (try dsimp only at hSw); obtain ⟨hs0, hs1⟩ := hSw; go_simp⟩) hSx ?_
          try simp only [Act.put, List.setIfInBounds_toArray]
          refine wpAnyH_take (i := 1) (v := .int .i64 (c : Int)) rfl (by kernel_rfl) (by kernel_rfl) (by kernel_rfl) (fun _ _ _ h => h) (Or.inl ⟨by rfl, fun w' hSw => by (try dsimp only at hSw); obtain ⟨hs0, hs1⟩ := hSw; go_simp⟩) hSx ?_
          try simp only [Act.put]
          refine wpAnyH_take (i := 2) (v := .slice (some ⟨g, 0, none⟩) z z) rfl (by kernel_rfl) (by kernel_rfl) (by kernel_rfl) (fun _ _ _ h => h) (Or.inl ⟨by rfl, fun w' hSw => by (try dsimp only at hSw); obtain ⟨hs0, hs1⟩ := hSw; go_simp⟩) hSx ?_
          try simp only [Act.put]
          refine wpAnyH_take (i := 3) (v := .int .i64 (c : Int)) rfl (by kernel_rfl) (by kernel_rfl) (by kernel_rfl) (fun _ _ _ h => h) (Or.inl ⟨by rfl, fun w' hSw => by (try dsimp only at hSw); obtain ⟨hs0, hs1⟩ := hSw; go_simp⟩) hSx ?_
          try simp only [Act.put]
          refine wpAnyH_take (i := 4) (v := .pointer (some ⟨g, c, none⟩)) rfl (by kernel_rfl) (by kernel_rfl) (by kernel_rfl) (fun _ _ _ h => h) (Or.inl ⟨by rfl, fun w' hSw => by (try dsimp only at hSw); obtain ⟨hs0, hs1⟩ := hSw; go_simp⟩) hSx ?_
          try simp only [Act.put]
          refine wpAnyH_take (i := 6) (v := .pointer (some ⟨wr.heap.size, 1, none⟩)) rfl (by kernel_rfl) (by kernel_rfl) (by kernel_rfl) (fun _ _ _ h => h) (Or.inl ⟨by rfl, fun w' hSw => by (try dsimp only at hSw); obtain ⟨hs0, hs1⟩ := hSw; go_simp⟩) hSx ?_
          try simp only [Act.put]
          refine wpAnyH_take (i := 7) (v := .slice (some ⟨mb, mo, none⟩) z mc) rfl (by kernel_rfl) (by kernel_rfl) (by kernel_rfl) (fun _ _ _ h => h) (Or.inl ⟨by rfl, fun w' hSw => by (try dsimp only at hSw); obtain ⟨hs0, hs1⟩ := hSw; go_simp⟩) hSx ?_
          try simp only [Act.put]
          refine wpAnyH_take (i := 8) (v := .int .i64 (c : Int)) rfl (by kernel_rfl) (by kernel_rfl) (by kernel_rfl) (fun _ _ _ h => h) (Or.inl ⟨by rfl, fun w' hSw => by (try dsimp only at hSw); obtain ⟨hs0, hs1⟩ := hSw; go_simp⟩) hSx ?_
          try simp only [Act.put]
          refine wpAnyH_take (i := 9) (v := .pointer (some ⟨mb, mo + c, none⟩)) rfl (by kernel_rfl) (by kernel_rfl) (by kernel_rfl) (fun _ _ _ h => h) (Or.inl ⟨by rfl, fun w' hSw => by (try dsimp only at hSw); obtain ⟨hs0, hs1⟩ := hSw; go_simp⟩) hSx ?_
          try simp only [Act.put]
          refine wpAnyH_take (i := 10) (v := .int .i64 yv) rfl (by kernel_rfl) (by kernel_rfl) (by kernel_rfl) (fun _ _ _ h => h) (Or.inl ⟨by rfl, fun w' hSw => by (try dsimp only at hSw); obtain ⟨hs0, hs1⟩ := hSw; go_simp⟩) hSx ?_
          try simp only [Act.put]
          refine wpAnyH_ready (rs := [5, 11]) (by kernel_rfl) (by simp) ?_
          refine (AllReadyH.cons rfl (fun J hJ => ?_) (AllReadyH.cons rfl (fun J hJ => ?_) AllReadyH.nil))
          · go_simp
            refine hJ.out _ _ (HS.out _ hB4.drew rfl) (fun hSx => ?_)
            clear hJ J
            try simp only [Act.put, List.setIfInBounds_toArray, List.set_cons_zero, List.set_cons_succ]
            refine wpAnyH_ready (rs := [11]) (by kernel_rfl) (by simp) ?_
            refine (AllReadyH.cons rfl (fun J hJ => ?_) AllReadyH.nil)
            go_simp
            refine hJ.out _ _ (HS.out _ hBA hbA) (fun hSx => ?_)
            clear hJ J
            try simp only [Act.put, List.setIfInBounds_toArray, List.set_cons_zero, List.set_cons_succ]
            refine wpAnyH_ready (rs := [12]) (by kernel_rfl) (by simp) ?_
            refine (AllReadyH.cons rfl (fun J hJ => ?_) AllReadyH.nil)
            rw [if_pos (by rfl)]
            refine wp_append_lies _ _ _ 22 rfl w2.heap.size 3 i3 (.int .i64 0) 1 8 und22 HI3.out.1 HI3.out.2.1 HI3.out.2.2.1 HI3.out.2.2.2 rfl (by decide) (.slice xa (i + 2) xc) (i + 2) fl rfl k5A ⟨w4.heap.size, 0, none⟩ 1 1 [.int .i64 yv] rfl rfl (news_row w4 _ _) (fun u hu => by simp at hu; subst hu; rfl) (by decide) (by unfold maxLen; omega) (by omega) (by have := HSA.out; omega) _ rfl ?_
            intro og oc w7 hW7 hg7 _ _
            have hK7 : Kg g w2.heap.size w2 w7 := hKA.grown hg7 (by have := HSA.out; omega) (fun k hk => (hxb k hk).1)
            have hB7 : Below w.heap.size w w7 := hBA.grown hg7 (by have := HSA.out; omega) (fun k hk => by have := (hxb k hk).1; omega)
            have hb7 : w7.heap[wr.heap.size]? = w4.heap[wr.heap.size]? := (hg7.block wr.heap.size (by have := HSA.out; omega) (fun e => by have := (hxb _ e.symm).2; omega)).trans hbA
            have k17 : w7.heap[g]? = some (.cells cu 22 (0, 0)) := (hg7.block g (by have := HSA.out; omega) (fun e => by have := (hxb _ e.symm).1; omega)).trans k1A
            refine hJ.out _ _ (HS.out _ hB7 hb7) (fun hSx => ?_)
            clear hJ J
            try simp only [Act.put, List.setIfInBounds_toArray]
            refine wpAnyH_take (i := 13) (v := .pointer (some ⟨g, c, none⟩)) rfl (by kernel_rfl) (by kernel_rfl) (by kernel_rfl) (fun _ _ _ h => h) (Or.inl ⟨by rfl, fun w' hSw => by (try dsimp only at hSw); obtain ⟨hs0, hs1⟩ := hSw; go_simp⟩) hSx ?_
            try simp only [Act.put]
            obtain ⟨⟨oldc, hold⟩, hfz⟩ := HCELL.out _ cu k17 k2
            have hb8 : (w7.setCell ⟨g, c, none⟩ (.slice (some ⟨og, 0, none⟩) (i + 2 + 1) oc)).heap[wr.heap.size]? = w4.heap[wr.heap.size]? := (heap_setCell_other w7 ⟨g, c, none⟩ wr.heap.size _ (by show wr.heap.size ≠ g; omega)).trans hb7
            have hB8 := hB7.setCell (p := ⟨g, c, none⟩) hgw (.slice (some ⟨og, 0, none⟩) (i + 2 + 1) oc)
            refine wpAnyH_ready (rs := [14]) (by kernel_rfl) (by simp) ?_
            refine (AllReadyH.cons rfl (fun J hJ => ?_) AllReadyH.nil)
            go_simp
            refine hJ.out _ _ (HS.out _ hB8 hb8) (fun hSx => ?_)
            clear hJ J
            try simp only [Act.put, List.setIfInBounds_toArray, List.set_cons_zero, List.set_cons_succ]
            refine wpAnyH_done (by kernel_rfl) ?_ _
            refine NoPanic.normal ?_
            have k18 := set_same (c := c) k17 (.slice (some ⟨og, 0, none⟩) (i + 2 + 1) oc)
            have hO8 : (w7.setCell ⟨g, c, none⟩ (.slice (some ⟨og, 0, none⟩) (i + 2 + 1) oc)).ownsRow w2.heap.size 3 1 (.slice (some ⟨og, 0, none⟩) (i + 2 + 1) oc) (i + 1 + 2) ((roQ n (qs.take (i + 1)) c).map (Value.int .i64)) := by
              rw [HMO.out]
              exact own_set hW7 hgw2
            clear hSx HS hold hfz hcA hc4
            go_wp2
            go_roundw
            case rel => exact ⟨i + 1, _, _, by go_num, by omega, k18, by simp [k2], by rw [Array.getElem?_setIfInBounds, if_pos rfl, if_pos (by omega)], (show ∀ j, j ≠ c → _ from fun j hj => by rw [Array.getElem?_setIfInBounds, if_neg (Ne.symm hj)]; exact K4.out j hj), hO8, hK7.set c _, hB8⟩
            case measure => simp [intOf]; omega
          · go_simp
            refine hJ.out _ _ (HS.out _ hBA hbA) (fun hSx => ?_)
            clear hJ J
            try simp only [Act.put, List.setIfInBounds_toArray, List.set_cons_zero, List.set_cons_succ]
            refine wpAnyH_ready (rs := [5]) (by kernel_rfl) (by simp) ?_
            refine (AllReadyH.cons rfl (fun J hJ => ?_) AllReadyH.nil)
            go_simp
            refine hJ.out _ _ (HS.out _ hBA hbA) (fun hSx => ?_)
            clear hJ J
            try simp only [Act.put, List.setIfInBounds_toArray, List.set_cons_zero, List.set_cons_succ]
            refine wpAnyH_ready (rs := [12]) (by kernel_rfl) (by simp) ?_
            refine (AllReadyH.cons rfl (fun J hJ => ?_) AllReadyH.nil)
            rw [if_pos (by rfl)]
            refine wp_append_lies _ _ _ 22 rfl w2.heap.size 3 i3 (.int .i64 0) 1 8 und22 HI3.out.1 HI3.out.2.1 HI3.out.2.2.1 HI3.out.2.2.2 rfl (by decide) (.slice xa (i + 2) xc) (i + 2) fl rfl k5A ⟨w4.heap.size, 0, none⟩ 1 1 [.int .i64 yv] rfl rfl (news_row w4 _ _) (fun u hu => by simp at hu; subst hu; rfl) (by decide) (by unfold maxLen; omega) (by omega) (by have := HSA.out; omega) _ rfl ?_
            intro og oc w7 hW7 hg7 _ _
            have hK7 : Kg g w2.heap.size w2 w7 := hKA.grown hg7 (by have := HSA.out; omega) (fun k hk => (hxb k hk).1)
            have hB7 : Below w.heap.size w w7 := hBA.grown hg7 (by have := HSA.out; omega) (fun k hk => by have := (hxb k hk).1; omega)
            have hb7 : w7.heap[wr.heap.size]? = w4.heap[wr.heap.size]? := (hg7.block wr.heap.size (by have := HSA.out; omega) (fun e => by have := (hxb _ e.symm).2; omega)).trans hbA
            have k17 : w7.heap[g]? = some (.cells cu 22 (0, 0)) := (hg7.block g (by have := HSA.out; omega) (fun e => by have := (hxb _ e.symm).1; omega)).trans k1A
            refine hJ.out _ _ (HS.out _ hB7 hb7) (fun hSx => ?_)
            clear hJ J
            try simp only [Act.put, List.setIfInBounds_toArray]
            refine wpAnyH_take (i := 13) (v := .pointer (some ⟨g, c, none⟩)) rfl (by kernel_rfl) (by kernel_rfl) (by kernel_rfl) (fun _ _ _ h => h) (Or.inl ⟨by rfl, fun w' hSw => by (try dsimp only at hSw); obtain ⟨hs0, hs1⟩ := hSw; go_simp⟩) hSx ?_
            try simp only [Act.put]
            obtain ⟨⟨oldc, hold⟩, hfz⟩ := HCELL.out _ cu k17 k2
            have hb8 : (w7.setCell ⟨g, c, none⟩ (.slice (some ⟨og, 0, none⟩) (i + 2 + 1) oc)).heap[wr.heap.size]? = w4.heap[wr.heap.size]? := (heap_setCell_other w7 ⟨g, c, none⟩ wr.heap.size _ (by show wr.heap.size ≠ g; omega)).trans hb7
            have hB8 := hB7.setCell (p := ⟨g, c, none⟩) hgw (.slice (some ⟨og, 0, none⟩) (i + 2 + 1) oc)
            refine wpAnyH_ready (rs := [14]) (by kernel_rfl) (by simp) ?_
            refine (AllReadyH.cons rfl (fun J hJ => ?_) AllReadyH.nil)
            go_simp
            refine hJ.out _ _ (HS.out _ hB8 hb8) (fun hSx => ?_)
            clear hJ J
            try simp only [Act.put, List.setIfInBounds_toArray, List.set_cons_zero, List.set_cons_succ]
            refine wpAnyH_done (by kernel_rfl) ?_ _
            refine NoPanic.normal ?_
            have k18 := set_same (c := c) k17 (.slice (some ⟨og, 0, none⟩) (i + 2 + 1) oc)
            have hO8 : (w7.setCell ⟨g, c, none⟩ (.slice (some ⟨og, 0, none⟩) (i + 2 + 1) oc)).ownsRow w2.heap.size 3 1 (.slice (some ⟨og, 0, none⟩) (i + 2 + 1) oc) (i + 1 + 2) ((roQ n (qs.take (i + 1)) c).map (Value.int .i64)) := by
              rw [HMO.out]
              exact own_set hW7 hgw2
            clear hSx HS hold hfz hcA hc4
            go_wp2
            go_roundw
            case rel => exact ⟨i + 1, _, _, by go_num, by omega, k18, by simp [k2], by rw [Array.getElem?_setIfInBounds, if_pos rfl, if_pos (by omega)], (show ∀ j, j ≠ c → _ from fun j hj => by rw [Array.getElem?_setIfInBounds, if_neg (Ne.symm hj)]; exact K4.out j hj), hO8, hK7.set c _, hB8⟩
            case measure => simp [intOf]; omega
        · have hdi : decide ((i : Int) < (q : Int)) = false := by simp; omega
          obtain rfl : i = q := by omega
          rw [HEND.out c] at k5
          have HR2 : Hid (∀ j, j < c + 1 → ∃ u, cu[j]? = some u ∧ wr.ownsRow (g + 1) 3 1 u (i + 2) ((roQ n qs j).map (Value.int .i64))) := fun j hj => by
            by_cases e : j = c
            · subst e
              exact ⟨xv, k3, by
                obtain ⟨h1, h2 | ⟨g', cap', cur', h3, h4, h5⟩⟩ := k5
                · exact ⟨h1, .inl h2⟩
                · exact ⟨h1, .inr ⟨g', cap', cur', h3, by omega, h5⟩⟩⟩
            · obtain ⟨u, hu1, hu2⟩ := HR.out j (by omega)
              refine ⟨u, (K4.out j e).trans hu1, own_keep (by rw [← Hw2.out] at hu2; exact hu2) fun b hb1 hb2 => k6.block b hb2 (by omega)⟩
          clear HR k5
          go_wp2
          go_roundw
          case rel => exact ⟨c + 1, cu, by go_num, by omega, k1, k2, HR2, hB⟩
          case measure => simp [intOf]; omega
    · have hdc : decide ((c : Int) < (z : Int)) = false := by simp; omega
      obtain rfl : c = z := by omega
      have HO : Hid (OZ wr w.heap.size (.slice (some ⟨g, 0, none⟩) c c) (rwQ n qs)) := by
        rw [HROW.out]
        refine ⟨cur.toList, ⟨by simp [hcs], .inr ⟨g, c, cur, by simp, hgw, hgb, by simp, by unfold maxLen; omega, by omega, by rw [List.take_of_length_le]; simp [hcs]⟩⟩, fun j u l hu hl => ?_⟩
        have hjc : j < c := by have := (List.getElem?_eq_some_iff.1 hl).1; simpa using this
        obtain ⟨u', hu1, hu2⟩ := HR.out j hjc
        have e1 : roQ n qs j = l := by simpa [hjc] using hl
        rw [Array.getElem?_toList, hu1] at hu
        obtain rfl := Option.some.inj hu
        subst e1
        unfold OZw
        rw [HRL.out j]
        obtain ⟨h1, h2 | ⟨g', cap', cur', h3, h4, h5⟩⟩ := hu2
        · exact ⟨h1, .inl h2⟩
        · exact ⟨h1, .inr ⟨g', cap', cur', h3, by omega, h5⟩⟩
      clear HR
      go_wp2
      go_ret2
      exact ⟨⟨_, rfl, HO.out⟩, hB⟩
end Go.Proofs.YtjfjdidibglhaaaDoor.Ar

namespace Go.Proofs.YtjfjdidibglhaaaDoor.Ar
open Go.RowKit

theorem ownsRow_low {w : World} {b b' : Nat} {e : TypeId} {size : Nat} {v : Value} {n : Nat} {xs : List Value} (h : w.ownsRow b' e size v n xs) (hb : b ≤ b') : w.ownsRow b e size v n xs := by
  obtain ⟨h1, h2 | ⟨g, cap, cur, h3, h4, h5⟩⟩ := h
  · exact ⟨h1, .inl h2⟩
  · exact ⟨h1, .inr ⟨g, cap, cur, h3, Nat.le_trans hb h4, h5⟩⟩
/-- What is told: the runs, or none. -/
def suR (qs : List (Int × List Int)) : List (List Int) := if csF qs = 0 then rwQ (qs.headD (0, [])).1.toNat qs else []
def rwT (n : Nat) (qs : List (Int × List Int)) (j : Nat) : List (List Int) := (List.range j).map (roQ n qs)
theorem rwT_more (n : Nat) (qs : List (Int × List Int)) (j : Nat) : rwT n qs (j + 1) = rwT n qs j ++ [roQ n qs j] := by unfold rwT; rw [List.range_succ, List.map_append]; rfl
theorem rwT_len (n : Nat) (qs : List (Int × List Int)) (j : Nat) : (rwT n qs j).length = j := by simp [rwT]
theorem rw_nilZ (w : World) : Rw w (.slice none 0 0) [] := ⟨none, 0, rfl, fun i l h => by simp at h⟩

set_option maxRecDepth 100000 in
set_option maxHeartbeats 16000000 in
theorem SquaresRuns_any (qs : List (Int × List Int)) (v : Value) (w : World) (hv : SqL w v qs) (hl : qs.length ≤ maxLen) (hll : ∀ q ∈ qs, q.2.length ≤ maxLen) :
    Calls Tryd.prog 11 #[v] w fun e w' => (∃ y, e = .returned (.tuple #[y, .int .i64 (csF qs : Int)]) ∧ Rw w' y (suR qs)) ∧ Below w.heap.size w w' := by
  obtain ⟨z, Hz⟩ : ∃ z, Hid (csF qs = z) := ⟨_, rfl⟩
  obtain ⟨S, HS⟩ : ∃ S, Hid (suR qs = S) := ⟨_, rfl⟩
  have HBad : Hid (z ≠ 0 → S = []) := fun h => by rw [← HS.out]; unfold suR; rw [if_neg (by rw [Hz.out]; exact h)]
  rw [Hz.out, HS.out]
  obtain ⟨n, Hn⟩ : ∃ n, Hid (qs.length = n) := ⟨_, rfl⟩
  have HV : Hid (∀ W, Below w.heap.size w W → SqL W v qs) := fun W b => hv.below b
  obtain ⟨a, cap, rfl, -⟩ := hv
  rw [Hn.out] at hl HV ⊢
  unfold maxLen at hl
  by_cases h0 : n = 0
  · obtain rfl : z = 3 := by rw [← Hz.out]; unfold csF; rw [Hn.out, if_pos (.inl h0)]
    subst h0
    go_enter Tryd.func11, Tryd.ntmps11
    go_wp2
    go_ret2
    exact ⟨⟨_, rfl, by rw [HBad.out (by decide)]; exact rw_nilZ _⟩, Below.refl _ _⟩
  · have e0 : ((n : Int) == 0) = false := by rw [beq_eq_false_iff_ne]; omega
    have e0n : (n == 0) = false := by rw [beq_eq_false_iff_ne]; omega
    by_cases h6 : 6 < n
    · obtain rfl : z = 3 := by rw [← Hz.out]; unfold csF; rw [Hn.out, if_pos (.inr h6)]
      have e1 : decide ((6 : Int) < (n : Int)) = true := by simp; omega
      have e1n : decide (6 < n) = true := by simp; omega
      go_enter Tryd.func11, Tryd.ntmps11
      go_wp2
      go_ret2
      exact ⟨⟨_, rfl, by rw [HBad.out (by decide)]; exact rw_nilZ _⟩, Below.refl _ _⟩
    · have e1 : decide ((6 : Int) < (n : Int)) = false := by simp; omega
      have e1n : decide (6 < n) = false := by simp; omega
      have hzz : z = if qsF qs ≠ 0 then qsF qs else if sdB (qs.headD (0, [])).1 qs then 0 else 2 := by
        rw [← Hz.out]; unfold csF; rw [Hn.out, if_neg (by omega)]
      have HZ1 : Hid (∀ (i : Nat) (q : Int × List Int), qs[i]? = some q → (∀ (m : Nat) (p : Int × List Int), m < i → qs[m]? = some p → lF p.1 p.2 = 0) → lF q.1 q.2 ≠ 0 → z = lF q.1 q.2) := fun i q h1 h2 h3 => by
        rw [hzz, qsF_at h1 h2 h3, if_pos h3]
      obtain ⟨q0, hq0⟩ : ∃ q0, qs[0]? = some q0 := ⟨_, List.getElem?_eq_getElem (by rw [Hn.out]; omega)⟩
      have hhd : qs.headD (0, []) = q0 := by cases qs with
        | nil => simp at hq0
        | cons x xs => simpa using hq0
      have HZ2 : Hid ((∀ (m : Nat) (p : Int × List Int), qs[m]? = some p → lF p.1 p.2 = 0) → ∀ (i : Nat) (q : Int × List Int), qs[i]? = some q → q.1 ≠ q0.1 → z = 2) := fun h i q hi hne => by
        rw [hzz, qsF_none h, if_neg (by simp), hhd, if_neg]
        intro hs
        unfold sdB at hs
        have := List.all_eq_true.1 hs q (List.mem_of_getElem? hi)
        exact hne (by simpa using this)
      have HZ0 : Hid ((∀ (m : Nat) (p : Int × List Int), qs[m]? = some p → lF p.1 p.2 = 0) → (∀ (m : Nat) (p : Int × List Int), qs[m]? = some p → p.1 = q0.1) → z = 0) := fun h h2 => by
        rw [hzz, qsF_none h, if_neg (by simp), hhd, if_pos]
        unfold sdB
        rw [List.all_eq_true]
        intro p hp
        obtain ⟨i, hi⟩ := List.getElem?_of_mem hp
        simpa using h2 i p hi
      have HGo : Hid (z = 0 → ∃ k : Nat, GoodQ k qs ∧ q0.1 = (k : Int) ∧ S = rwQ k qs) := fun h => by
        have h' : csF qs = 0 := by rw [Hz.out]; exact h
        obtain ⟨k, hk⟩ := csF_good h'
        have e := (hk.sq q0 (List.mem_of_getElem? hq0)).1
        refine ⟨k, hk, e, ?_⟩
        rw [← HS.out]
        unfold suR
        rw [if_pos h', hhd, e]
        rfl
      have HQ0 : Hid (qs[0]? = some q0) := hq0
      have HAT : Hid (∀ i, i < n → ∃ b, qs[i]? = some b) := fun i hi => ⟨_, List.getElem?_eq_getElem (by rw [Hn.out]; exact hi)⟩
      have HLE : Hid (∀ (i : Nat) (q : Int × List Int), qs[i]? = some q → i < n) := fun i b h => by rw [← Hn.out]; exact (List.getElem?_eq_some_iff.1 h).1
      have HCK : Hid (∀ (W : World) (u : Value) (i : Nat) (q : Int × List Int), qs[i]? = some q → Sl W u q.2 → Calls Tryd.prog 23 #[.agg #[.int .i64 q.1, u]] W fun e w' => e = .returned (.int .i64 (lF q.1 q.2 : Int)) ∧ Below W.heap.size W w') := fun W u i q hi hu => LatinFault_any q.1 q.2 u W hu (hll q (List.mem_of_getElem? hi))
      clear hll hzz hhd hq0 Hz
      go_enter Tryd.func11, Tryd.ntmps11
      go_wp2
      go_loopw [4, 5] (fun iv _ wr => ∃ i : Nat, iv = .int .i64 (i : Int) ∧ i ≤ n ∧ Hid (∀ (m : Nat) (p : Int × List Int), m < i → qs[m]? = some p → lF p.1 p.2 = 0) ∧ Below w.heap.size w wr) (fun iv _ _ => (n - intOf iv).toNat)
      case atStart => exact ⟨0, rfl, by omega, (show ∀ (m : Nat) (p : Int × List Int), m < 0 → _ from fun m c h => by omega), Below.refl _ _⟩
      case round =>
        obtain ⟨i, rfl, hi, HI, hB⟩ := hrel
        by_cases hlt : i < n
        · have hdi : decide ((i : Int) < (n : Int)) = true := by simp; omega
          have hii : (i : Int) < (n : Int) := by omega
          obtain ⟨⟨s, L⟩, hqi⟩ := HAT.out i hlt
          have HQI : Hid (qs[i]? = some (s, L)) := hqi
          obtain ⟨b, off, u, rfl, c1, c2, hSu⟩ := (HV.out wr hB).at hqi rfl
          dsimp only at c1 c2 hSu
          have C := HCK.out wr u i (s, L) hqi hSu
          dsimp only at C
          obtain ⟨ua, uc, rfl, -⟩ := id hSu
          obtain ⟨ul, Hul⟩ : ∃ ul, Hid (L.length = ul) := ⟨_, rfl⟩
          rw [Hul.out] at C c2
          obtain ⟨f, Hf⟩ : ∃ f, Hid (lF s L = f) := ⟨_, rfl⟩
          rw [Hf.out] at C
          clear hSu hqi
          by_cases hf : f = 0
          · subst hf
            have HI2 : Hid (∀ (m : Nat) (p : Int × List Int), m < i + 1 → qs[m]? = some p → lF p.1 p.2 = 0) := fun m p hm hp => by
              by_cases e : m = i
              · subst e
                have := HQI.out.symm.trans hp
                cases this
                exact Hf.out
              · exact HI.out m p (by omega) hp
            clear HI
            go_wp2_with (go_at_call 23; refine C.mono ?_; rintro e1 w1 ⟨rfl, b1⟩; clear C)
            go_roundw
            case rel => exact ⟨i + 1, by go_num, by omega, HI2, Below.next hB b1⟩
            case measure => simp [intOf]; omega
          · have hd : ((f : Int) != 0) = true := by simp; omega
            obtain rfl : z = f := by rw [HZ1.out i (s, L) HQI.out HI.out (by dsimp only; rw [Hf.out]; exact hf)]; exact Hf.out
            go_wp2_with (go_at_call 23; refine C.mono ?_; rintro e1 w1 ⟨rfl, b1⟩; clear C)
            go_ret2
            exact ⟨⟨_, rfl, by rw [HBad.out hf]; exact rw_nilZ _⟩, Below.next hB b1⟩
        · have hdi : decide ((i : Int) < (n : Int)) = false := by simp; omega
          obtain rfl : i = n := by omega
          have HALL : Hid (∀ (m : Nat) (p : Int × List Int), qs[m]? = some p → lF p.1 p.2 = 0) := fun m p hp => HI.out m p (HLE.out m p hp) hp
          have h0i : (0 : Int) < (i : Int) := by omega
          obtain ⟨b, off, u', rfl, c3, _, _⟩ := (HV.out wr hB).at HQ0.out rfl
          obtain ⟨s0, Hs0⟩ : ∃ s0, Hid (q0.1 = s0) := ⟨_, rfl⟩
          rw [Nat.zero_mul, Nat.add_zero, Hs0.out] at c3
          clear HI hlt HZ1
          obtain ⟨wa, hwa⟩ : ∃ wa, wa = wr := ⟨_, rfl⟩
          subst hwa
          have HBa : Hid (Below w.heap.size w wa) := hB
          go_wp2_with fail
          go_loopw [7] (fun jv wr' => ∃ j : Nat, jv = .int .i64 (j : Int) ∧ j ≤ i ∧ Hid (∀ (m : Nat) (p : Int × List Int), m < j → qs[m]? = some p → p.1 = q0.1) ∧ wr' = wa) (fun jv _ => (i - intOf jv).toNat)
          case atStart => exact ⟨0, rfl, by omega, (show ∀ (m : Nat) (p : Int × List Int), m < 0 → _ from fun m c h => by omega), rfl⟩
          case round =>
            obtain ⟨j, rfl, hj, HJ, hw⟩ := hrel
            subst hw
            by_cases hlj : j < i
            · have hdj : decide ((j : Int) < (i : Int)) = true := by simp; omega
              have hji : (j : Int) < (i : Int) := by omega
              obtain ⟨⟨s, L⟩, hqj⟩ := HAT.out j hlj
              have HQJ : Hid (qs[j]? = some (s, L)) := hqj
              obtain ⟨b', off', u, eb, c1, c2, hSu⟩ := (HV.out _ HBa.out).at hqj rfl
              simp only [Option.some.injEq, Addr.mk.injEq, and_true] at eb
              obtain ⟨rfl, rfl⟩ := eb
              dsimp only at c1
              clear hSu hqj c3 c2 hB
              by_cases hs : s = s0
              · have hd : (s != s0) = false := by rw [hs]; simp
                have HJ2 : Hid (∀ (m : Nat) (p : Int × List Int), m < j + 1 → qs[m]? = some p → p.1 = q0.1) := fun m p hm hp => by
                  by_cases e : m = j
                  · subst e
                    have := HQJ.out.symm.trans hp
                    cases this
                    exact hs.trans Hs0.out.symm
                  · exact HJ.out m p (by omega) hp
                clear HJ hs
                go_wp2
                go_roundw
                case rel => exact ⟨j + 1, by go_num, by omega, HJ2, by first | rfl | trivial⟩
                case measure => simp [intOf]; omega
              · have hd : (s != s0) = true := by simpa using hs
                obtain rfl : z = 2 := HZ2.out HALL.out j (s, L) HQJ.out (by dsimp only; rw [Hs0.out]; exact hs)
                clear HJ hs
                go_wp2
                go_ret2
                exact ⟨⟨_, rfl, by rw [HBad.out (by decide)]; exact rw_nilZ _⟩, HBa.out⟩
            · have hdj : decide ((j : Int) < (i : Int)) = false := by simp; omega
              obtain rfl : j = i := by omega
              obtain rfl : z = 0 := HZ0.out HALL.out fun m p hp => HJ.out m p (HLE.out m p hp) hp
              obtain ⟨k, hG, ek, eS⟩ := HGo.out rfl
              rw [Hs0.out] at ek
              subst ek
              have HSk : Hid (S = rwQ k qs) := eS
              have hk1 : 1 ≤ k := (hG.sq q0 (List.mem_of_getElem? HQ0.out)).2.pos
              have hk8 : k ≤ 8 := (hG.sq q0 (List.mem_of_getElem? HQ0.out)).2.le
              have HLL : Hid (∀ (i : Nat) (q : Int × List Int), qs[i]? = some q → q.2.length = k * k) := fun i q h => (hG.sq q (List.mem_of_getElem? h)).2.len
              have HMORE : Hid (∀ (i j : Nat) (p : Int × List Int), qs[i]? = some p → (roQ k (qs.take (i + 1)) j).map (Value.int .i64) = (roQ k (qs.take i) j).map (Value.int .i64) ++ [.int .i64 (p.2.getD j 0)]) := fun i j p h => roQ_more h
              have HEND : Hid (∀ m, roQ k (qs.take j) m = roQ k qs m) := fun m => by rw [List.take_of_length_le (by rw [Hn.out]; exact Nat.le_refl _)]
              have H00 : Hid (∀ x y, y < k → (roQ k (qs.take 0) (x * k + y)).map (Value.int .i64) = [.int .i64 (x : Int), .int .i64 (y : Int)]) := fun x y hy => by
                have e1 : (x * k + y) / k = x := by rw [Nat.mul_comm, Nat.mul_add_div (by omega), Nat.div_eq_of_lt hy, Nat.add_zero]
                have e2 : (x * k + y) % k = y := by rw [Nat.mul_comm, Nat.mul_add_mod, Nat.mod_eq_of_lt hy]
                have : roQ k (qs.take 0) (x * k + y) = [(x : Int), (y : Int)] := by unfold roQ; rw [e1, e2]; simp
                rw [this]; rfl
              have HRL : Hid (∀ m, (roQ k qs m).length = j + 2) := fun m => by rw [roQ_len, Hn.out]
              have HXK : Hid (∀ x y, x < k → y < k → x * k + y < k * k) := fun x y hx hy => by
                have h1 : (x + 1) * k ≤ k * k := Nat.mul_le_mul_right k hx
                rw [Nat.succ_mul] at h1
                omega
              have hkk : k * k ≤ 99 := Nat.le_trans (Nat.mul_le_mul hk8 hk8) (by decide)
              have HKK : Hid (∀ x, x ≤ k → x * k ≤ k * k ∧ (x + 1) * k = x * k + k) := fun x hx => ⟨Nat.mul_le_mul_right k hx, Nat.succ_mul x k⟩
              have HRW : Hid (rwQ k qs = rwT k qs (k * k)) := rfl
              obtain ⟨kk, Hkk⟩ : ∃ kk, Hid (k * k = kk) := ⟨_, rfl⟩
              rw [Hkk.out] at HLL HXK hkk HRW
              simp only [Hkk.out] at HKK
              obtain ⟨i22, ti, tz0, tz1, tz2⟩ := (show ∃ i, Tryd.prog.info? 22 = some i ∧ i.zero = some (.slice none 0 0) ∧ i.size = 1 ∧ i.bytes = 24 from info36)
              have HI22 : Hid (Tryd.prog.info? 22 = some i22 ∧ i22.zero = some (.slice none 0 0) ∧ i22.size = 1 ∧ i22.bytes = 24) := ⟨ti, tz0, tz1, tz2⟩
              clear ti tz0 tz1 tz2
              obtain ⟨i3, ti, tz0, tz1, tz2⟩ := info3
              have HI3 : Hid (Tryd.prog.info? 3 = some i3 ∧ i3.zero = some (.int .i64 0) ∧ i3.size = 1 ∧ i3.bytes = 8) := ⟨ti, tz0, tz1, tz2⟩
              clear ti tz0 tz1 tz2
              have hbl0 := block_lt_of_cell c3
              obtain ⟨N, hN⟩ : ∃ N, N = j := ⟨_, rfl⟩
              subst hN
              have HB0 : Hid (∃ W, Below w.heap.size w W ∧ W = W) := ⟨_, HBa.out, rfl⟩
              clear HGo HZ0 HZ2 HBad HALL HJ eS hG HCK hB c3 hbl0 HB0
              go_wp2_with fail
              go_loopw [8, 9] (fun ov xv wr' => ∃ x : Nat, xv = .int .i64 (x : Int) ∧ x ≤ k ∧ Hid (OZ wr' w.heap.size ov (rwT k qs (x * k))) ∧ Below w.heap.size w wr') (fun _ xv _ => (k - intOf xv).toNat)
              case atStart => exact ⟨0, rfl, by omega, by rw [Nat.zero_mul]; exact OZ.nil _ _, HBa.out⟩
              case round =>
                clear HBa
                obtain ⟨x, rfl, hx, HO, hB⟩ := hrel
                by_cases hxk : x < k
                · have hxi : (x : Int) < (k : Int) := by omega
                  have hdx : decide ((x : Int) < (k : Int)) = true := by simp; omega
                  have HK1 : Hid (x * k ≤ kk ∧ (x + 1) * k = x * k + k) := HKK.out x hx
                  have HX1 : Hid (∀ y, y < k → x * k + y < kk) := fun y hy => HXK.out x y hxk hy
                  have H01 : Hid (∀ y, y < k → (roQ k (qs.take 0) (x * k + y)).map (Value.int .i64) = [.int .i64 (x : Int), .int .i64 (y : Int)]) := fun y hy => H00.out x y hy
                  have hxm : (x : Int) * (k : Int) = ((x * k : Nat) : Int) := by simp
                  obtain ⟨xk, Hxk⟩ : ∃ xk, Hid (x * k = xk) := ⟨_, rfl⟩
                  rw [Hxk.out] at HO HK1 hxm
                  simp only [Hxk.out] at HX1 H01
                  have hxk9 : xk ≤ kk := HK1.out.1
                  go_wp2_with fail
                  go_loopw [8, 10] (fun ov yv wr' => ∃ y : Nat, yv = .int .i64 (y : Int) ∧ y ≤ k ∧ Hid (OZ wr' w.heap.size ov (rwT k qs (xk + y))) ∧ Below w.heap.size w wr') (fun _ yv _ => (k - intOf yv).toNat)
                  case atStart => exact ⟨0, rfl, by omega, HO, hB⟩
                  case round =>
                    clear HO hB
                    obtain ⟨y, rfl, hy, HO, hB⟩ := hrel
                    by_cases hyk : y < k
                    · have hyi : (y : Int) < (k : Int) := by omega
                      have hdy : decide ((y : Int) < (k : Int)) = true := by simp; omega
                      have hc := HX1.out y hyk
                      have hst := H01.out y hyk
                      have HMo : Hid (rwT k qs (xk + y + 1) = rwT k qs (xk + y) ++ [roQ k qs (xk + y)]) := rwT_more _ _ _
                      have HRT : Hid ((rwT k qs (xk + y)).length = xk + y) := rwT_len _ _ _
                      have hxy : (xk : Int) + (y : Int) = ((xk + y : Nat) : Int) := by simp
                      obtain ⟨c, Hc⟩ : ∃ c, Hid (xk + y = c) := ⟨_, rfl⟩
                      have HC1 : Hid (xk + (y + 1) = c + 1) := by show _ = _; rw [← Hc.out]; omega
                      rw [Hc.out] at HO hc hst HMo HRT hxy
                      obtain ⟨wy, hwy⟩ : ∃ wy, wy = wr := ⟨_, rfl⟩
                      subst hwy
                      have ho := own_two wy x y
                      have hby := balloc wy (.cells #[.int .i64 (x : Int), .int .i64 (y : Int)] 3)
                      have HBy : Hid (Below w.heap.size w wy) := hB
                      have hsy := hB.size
                      obtain ⟨w5, Hw5⟩ : ∃ w5, Hid (wy.alloc (.cells #[.int .i64 (x : Int), .int .i64 (y : Int)] 3) = w5) := ⟨_, rfl⟩
                      rw [Hw5.out] at ho hby
                      rw [← hst] at ho
                      clear hst hB
                      go_wp2_with fail
                      rw [Hw5.out]
                      go_loopw [11, 12] (fun rv tv wr' => ∃ t : Nat, tv = .int .i64 (t : Int) ∧ t ≤ N ∧ wr'.ownsRow wy.heap.size 3 1 rv (t + 2) ((roQ k (qs.take t) c).map (Value.int .i64)) ∧ Below wy.heap.size wy wr') (fun _ tv _ => (N - intOf tv).toNat)
                      case atStart => exact ⟨0, rfl, by omega, ho, hby⟩
                      case round =>
                        clear ho hby
                        obtain ⟨t, rfl, ht, hO, hB⟩ := hrel
                        have hBB := Below.next HBy.out hB
                        have hsz := hB.size
                        by_cases htN : t < N
                        · have hti : (t : Int) < (N : Int) := by omega
                          have hdt : decide ((t : Int) < (N : Int)) = true := by simp; omega
                          obtain ⟨⟨s, M⟩, hqt⟩ := HAT.out t htN
                          have el := HLL.out t (s, M) hqt
                          dsimp only at el
                          have HMO : Hid ((roQ k (qs.take (t + 1)) c).map (Value.int .i64) = (roQ k (qs.take t) c).map (Value.int .i64) ++ [.int .i64 (M.getD c 0)]) := HMORE.out t c _ hqt
                          obtain ⟨b', off', u, eb, c1, c2, hSu⟩ := (HV.out wr hBB).at hqt rfl
                          simp only [Option.some.injEq, Addr.mk.injEq, and_true] at eb
                          obtain ⟨rfl, rfl⟩ := eb
                          dsimp only at c1 c2 hSu
                          obtain ⟨mb, mo, mc, rfl, hmb, hm0⟩ := hSu.form el (by omega)
                          have hmc := hm0 c hc
                          obtain ⟨yv, Hyv⟩ : ∃ yv, Hid (M.getD c 0 = yv) := ⟨_, rfl⟩
                          rw [Hyv.out] at hmc HMO
                          obtain ⟨fl, Hfl⟩ : ∃ fl, Hid ((roQ k (qs.take t) c).map (Value.int .i64) = fl) := ⟨_, rfl⟩
                          rw [Hfl.out] at hO HMO
                          obtain ⟨ra, rc, rfl⟩ := own_sliceI' hO
                          have hci : (c : Int) < (kk : Int) := by omega
                          have hi3 := HI3.out.1
                          have hz0 := HI3.out.2.1
                          have hz1 := HI3.out.2.2.1
                          have hz2 := HI3.out.2.2.2
                          clear hm0 hSu hqt c1
                          go_wp2_with (first
                            | (at_builtin; refine wpList_append_own _ rfl _ _ 22 rfl wy.heap.size 3 i3 (.int .i64 0) 1 8 und22 hi3 hz0 hz1 hz2 rfl (by decide) _ _ _ rfl (hO.alloc _) ⟨wr.heap.size, 0, none⟩ 1 1 [.int .i64 yv] rfl rfl (fun j u hj => by (match j, hj with | 0, hj => simp at hj; subst hj; simp [Addr.add])) (fun u hu => by (simp at hu; subst hu; rfl)) (by (unfold maxLen; omega)) (by omega) (by (simp; omega)) ?_; intro v' w6 hown' hgrow _)
                            | go_in)
                          have hB6 : Below wy.heap.size wy w6 := (hB.alloc hsz _).grown hgrow (by simp; omega) (fun k hk => (hO.lt k hk).1)
                          rw [← HMO.out] at hown'
                          clear hgrow hO
                          go_roundw
                          case rel => exact ⟨t + 1, by go_num, by omega, hown', hB6⟩
                          case measure => simp [intOf]; omega
                        · have hdt : decide ((t : Int) < (N : Int)) = false := by simp; omega
                          obtain rfl : N = t := by omega
                          rw [HEND.out] at hO
                          have HOW : Hid (∃ vals : List Value, wr.ownsRow w.heap.size 22 1 u8 c vals ∧ ∀ (j : Nat) (u : Value) (m : List Int), vals[j]? = some u → (rwT k qs c)[j]? = some m → OZw wr w.heap.size u m) := by
                            obtain ⟨vals, h1, h2⟩ := HO.out.below hB
                            rw [HRT.out] at h1
                            exact ⟨vals, h1, h2⟩
                          obtain ⟨vals, hv1, hv2⟩ := HOW.out
                          have HRo : Hid (OZw wr w.heap.size u11 (roQ k qs c)) := by show wr.ownsRow _ _ _ _ _ _; rw [HRL.out]; exact ownsRow_low hO hsy
                          obtain ⟨ra, rc, rfl⟩ := own_sliceI' hO
                          obtain ⟨oa, oc, eo⟩ := HO.out.form
                          rw [HRT.out] at eo
                          subst eo
                          have hi3 := HI22.out.1
                          have hz0 := HI22.out.2.1
                          have hz1 := HI22.out.2.2.1
                          have hz2 := HI22.out.2.2.2
                          have hws : w.heap.size ≤ wr.heap.size := hBB.size
                          clear HOW hO HO
                          go_wp2_with (first
                            | (at_builtin; refine wpList_append_own _ rfl _ _ 25 rfl w.heap.size 22 i22 (.slice none 0 0) 1 24 undR hi3 hz0 hz1 hz2 rfl (by decide) _ _ _ rfl (hv1.alloc _) ⟨wr.heap.size, 0, none⟩ 1 1 [.slice ra (N + 2) rc] rfl rfl (news_row wr _ _) (fun u hu => by (simp at hu; subst hu; rfl)) (by (unfold maxLen; omega)) (by omega) (by (simp; omega)) ?_; intro v' w6 hown' hgrow _)
                            | go_in)
                          have hal := balloc wr (.cells #[.slice ra (N + 2) rc] 22)
                          have hB6 : Below w.heap.size w w6 := (hBB.alloc hws _).grown hgrow (by simp; omega) (fun k hk => (hv1.lt k hk).1)
                          have hO3 : Hid (OZ w6 w.heap.size v' (rwT k qs (xk + (y + 1)))) := by
                            show OZ _ _ _ _
                            rw [HC1.out, HMo.out]
                            exact OZ.more (own_keep (by rw [HRT.out]; exact hv1) fun b _ hb => hal.block b hb) (fun j u m e1 e2 => (hv2 j u m e1 e2).below hal) (HRo.out.below hal) (by rw [HRT.out]; exact hown') hgrow
                          clear hown' hgrow hv1 hv2
                          go_roundw
                          case rel => exact ⟨y + 1, by go_num, by omega, hO3, hB6⟩
                          case measure => simp [intOf]; omega
                    · have hdy : decide ((y : Int) < (k : Int)) = false := by simp; omega
                      obtain rfl : k = y := by omega
                      rw [← HK1.out.2] at HO
                      go_wp2
                      go_roundw
                      case rel => exact ⟨x + 1, by go_num, by omega, HO, hB⟩
                      case measure => simp [intOf]; omega
                · have hdx : decide ((x : Int) < (k : Int)) = false := by simp; omega
                  obtain rfl : k = x := by omega
                  rw [Hkk.out, ← HRW.out, ← HSk.out] at HO
                  have HR : Hid (Rw wr u8 S) := HO.out.rw
                  obtain ⟨oa, oc, rfl⟩ := HO.out.form
                  obtain ⟨t, Ht⟩ : ∃ t, Hid (S.length = t) := ⟨_, rfl⟩
                  rw [Ht.out] at HR ⊢
                  clear HO
                  go_wp2
                  go_ret2
                  exact ⟨⟨_, rfl, HR.out⟩, hB⟩
end Go.Proofs.YtjfjdidibglhaaaDoor.Ar
