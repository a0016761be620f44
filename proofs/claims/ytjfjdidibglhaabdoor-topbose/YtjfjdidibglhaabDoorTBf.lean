/- Which fields have an order of 3 to 5, and what their squares are. -/
import Derived.Test.YtjfjdidibglhaabDoorL3
import Derived.Deep.AppendLies
import Derived.Laws.ResultCell
import Derived.Laws.Rows
import Derived.Test.YtjfjdidibglhaabDoorW24
/- The walks of Cyclic, of latinFact. -/
/- The walk of filled. -/
namespace Go.Proofs.YtjfjdidibglhaabDoor
open Go.RowKit

/-- Filled row by row. -/
def flN (n : Nat) (t : Nat → Nat → Nat) (k : Nat) : List Nat := (List.range k).map fun k => t (k / n) (k % n)
def vn (l : List Nat) : List Value := l.map fun (x : Nat) => Value.int .i64 (x : Int)
theorem flN_succ {n : Nat} (t : Nat → Nat → Nat) {r c : Nat} (hc : c < n) : vn (flN n t (r * n + c + 1)) = vn (flN n t (r * n + c)) ++ [.int .i64 (t r c : Int)] := by
  unfold flN vn
  rw [List.range_succ]
  simp [divmod hc]
set_option maxRecDepth 100000 in
theorem run_make0 (n : Nat) (hn : n ≤ 100000000) (w : World) : (Instr.makeSlice 22 (.int .i64 0) (.int .i64 (n : Int))).run Tryd.prog w = .ok (.slice (some ⟨w.heap.size, 0, none⟩) 0 n) (w.alloc (.cells (madeCells #[.int .i64 0] n) 3)) := by
  obtain ⟨i3, hi, hz0, hz1, hz2⟩ := info3
  have h := run_make (P := Tryd.prog) w 22 3 i3 (.int .i64 0) und22 hi hz0 .i64 .i64 0 n (by omega) (by omega) (by rw [hz2]; omega) (by omega)
  simpa [hz1, Value.cells] using h
set_option maxRecDepth 100000 in
theorem own_diff {w : World} {base n g : Nat} {v : Value} {xs : List Value} {cs : Array Value} (h : w.ownsRow base 3 1 v n xs) (hg : w.heap[g]? = some (.cells cs 39 (0, 0))) : v.ownBlock ≠ some g := by
  obtain ⟨_, ⟨rfl, _⟩ | ⟨g', cap, cur, rfl, _, h7, _⟩⟩ := h
  · intro e; cases e
  · intro e
    obtain rfl : g' = g := by simpa [Value.ownBlock] using e
    rw [hg] at h7
    simp at h7

set_option maxRecDepth 100000 in
theorem orow_below {w w' : World} {base n : Nat} {e : TypeId} {size : Nat} {v : Value} {xs : List Value} (h : w.ownsRow base e size v n xs) (hb : Below w.heap.size w w') : w'.ownsRow base e size v n xs := by
  obtain ⟨h3, h4 | ⟨g, cap, cur, h5, h6, h7, h8⟩⟩ := h
  · exact ⟨h3, .inl h4⟩
  · exact ⟨h3, .inr ⟨g, cap, cur, h5, h6, (hb.block g (Array.getElem?_eq_some_iff.1 h7).1).trans h7, h8⟩⟩
theorem orow_other {w : World} {base n : Nat} {e : TypeId} {size : Nat} {v : Value} {xs : List Value} (h : w.ownsRow base e size v n xs) (a : Addr) (u : Value) (hne : v.ownBlock ≠ some a.block) : (w.setCell a u).ownsRow base e size v n xs := by
  obtain ⟨h3, h4 | ⟨g, cap, cur, rfl, h6, h7, h8⟩⟩ := h
  · exact ⟨h3, .inl h4⟩
  · exact ⟨h3, .inr ⟨g, cap, cur, rfl, h6, (heap_setCell_other w a g u fun e => hne (by simp [Value.ownBlock, e])).trans h7, h8⟩⟩
set_option maxRecDepth 100000 in
theorem post_sq {fn : Func} {R : Ending → World → Prop} {a : Act} {w : World} {g : Nat} {x y : Value} (slot : Tmp) (hres : fn.results = #[.cell slot 39]) (hp : a.tmps.getD slot undef = .pointer (some ⟨g, 0, none⟩)) (hr : w.heap[g]? = some (.cells #[x, y] 39 (0, 0))) (hd : a.defers = []) (hR : R (.returned (.agg #[x, y])) w) : bodyPost Tryd.prog fn R .ret a w :=
  bodyPost_ret (results_cell_row hres a.tmps w g 39 #[x, y] (0, 0) _ hp hr Tryd.underlying39 rfl inf24L) hd hR
set_option maxRecDepth 100000 in
theorem post_sq2 {fn : Func} {R : Ending → World → Prop} {a : Act} {w : World} {g : Nat} {x y z : Value} (slot u : Tmp) (hres : fn.results = #[.cell slot 39, .tmp u]) (hp : a.tmps.getD slot undef = .pointer (some ⟨g, 0, none⟩)) (hr : w.heap[g]? = some (.cells #[x, y] 39 (0, 0))) (hu : a.tmps.getD u undef = z) (hd : a.defers = []) (hR : R (.returned (.tuple #[.agg #[x, y], z])) w) : bodyPost Tryd.prog fn R .ret a w := by
  refine bodyPost_ret (v := .tuple #[.agg #[x, y], z]) ?_ hd hR
  rw [results_cell_tmp hres, hp, hu]
  have h1 : (asAddr (.pointer (some ⟨g, 0, none⟩))).run Tryd.prog w = .ok ⟨g, 0, none⟩ w := by simp [asAddr]
  rw [h1]
  show ((loadVar 39 ⟨g, 0, none⟩).run Tryd.prog w).andThen _ = _
  rw [run_loadVar_row w g 39 39 #[x, y] (0, 0) _ hr Tryd.underlying39 rfl inf24L]
  rfl
set_option maxRecDepth 100000 in
theorem news_one (w : World) (u : Value) : ∀ j v, [u][j]? = some v → (w.alloc (.cells #[u] 3)).cell? ((⟨w.heap.size, 0, none⟩ : Addr).add j) = some v := fun j v hj => by
  match j, hj with
  | 0, hj =>
    simp only [List.getElem?_cons_zero, Option.some.injEq] at hj
    subst hj
    rw [Addr.add_mid, cell_of_row _ _ _ _ _ _ (heap_alloc_new w _)]
    rfl
set_option maxRecDepth 100000 in
set_option maxHeartbeats 8000000 in
theorem filled_any (n : Nat) (t : Nat → Nat → Nat) (v : Value) (w : World) (h1 : 1 ≤ n) (hn : n ≤ 8) (hT : Teller v n n t w) :
    Calls Tryd.prog 70 #[.int .i64 (n : Int), v] w fun e w' => (∃ y, e = .returned (.agg #[.int .i64 (n : Int), y]) ∧ w'.ownsRow w.heap.size 3 1 y (n * n) (vn (flN n t (n * n)))) ∧ Below w.heap.size w w' := by
  obtain ⟨i3, ti, tz0, tz1, tz2⟩ := info3
  have HI3 : Hid (Tryd.prog.info? 3 = some i3 ∧ i3.zero = some (.int .i64 0) ∧ i3.size = 1 ∧ i3.bytes = 8) := ⟨ti, tz0, tz1, tz2⟩
  clear ti tz0 tz1 tz2
  obtain ⟨g, lb, rfl, eg, hT⟩ := hT
  have HT : Hid (TellAt g lb n n t w) := hT
  obtain ⟨z, Hz⟩ : ∃ z, Hid (z = n * n) := ⟨_, (rfl : n * n = n * n)⟩
  have hz99 : z ≤ 99 := by rw [Hz.out]; exact Nat.le_trans (Nat.mul_le_mul hn hn) (by decide)
  have hmul : (n : Int) * (n : Int) = (z : Int) := by rw [Hz.out]; simp
  have hmk := run_make0 z (by omega)
  clear hT
  rw [← Hz.out]
  go_enter Tryd.func70, Tryd.ntmps70

  go_wp2
  go_loopw [15] (fun i_ wr => ∃ (r k : Nat) (o : Value), i_ = .int .i64 (r : Int) ∧ r ≤ n ∧ Hid (k = r * n) ∧ wr.heap[w.heap.size]? = some (.cells #[.int .i64 0, .slice none 0 0] 39 (0, 0)) ∧ wr.heap[w.heap.size + 1 + 1]? = some (.cells #[.int .i64 (n : Int), o] 39 (0, 0)) ∧ wr.ownsRow w.heap.size 3 1 o k (vn (flN n t k)) ∧ Below w.heap.size w wr) (fun i _ => (n - intOf i).toNat)
  case atStart =>
    refine ⟨0, 0, .slice (some ⟨w.heap.size + 1, 0, none⟩) 0 z, rfl, by omega, (by omega : 0 = 0 * n), (Below.heap_alloc _ _ _ (by simp; omega)).trans ((Below.heap_alloc _ _ _ (by simp)).trans (heap_alloc_new w _)), ?_, ?_, Below.next (Below.next (balloc _ _) (balloc _ _)) (balloc _ _)⟩
    · have := heap_alloc_new ((w.alloc (.cells #[.int .i64 0, .slice none 0 0] 39)).alloc (.cells (madeCells #[.int .i64 0] z) 3)) (.cells #[.int .i64 (n : Int), .slice (some ⟨w.heap.size + 1, 0, none⟩) 0 z] 39)
      simpa using this
    · refine ⟨rfl, .inr ⟨w.heap.size + 1, z, _, rfl, by omega, (Below.heap_alloc _ _ _ (by simp)).trans (by have := heap_alloc_new (w.alloc (.cells #[.int .i64 0, .slice none 0 0] 39)) (.cells (madeCells #[.int .i64 0] z) 3); simpa using this), by omega, by unfold maxLen; omega, by rw [size_madeCells]; simp, rfl⟩⟩
  case round =>
    obtain ⟨r, k, o, rfl, hr, Hk, hR, hO, hW, hB⟩ := hrel
    by_cases hlt : r < n
    · have hdr : decide ((r : Int) < (n : Int)) = true := by simp; omega
      go_wp2
      go_loopw [19] (fun i_ wr => ∃ (c k : Nat) (o : Value), i_ = .int .i64 (c : Int) ∧ c ≤ n ∧ Hid (k = r * n + c) ∧ wr.heap[w.heap.size]? = some (.cells #[.int .i64 0, .slice none 0 0] 39 (0, 0)) ∧ wr.heap[w.heap.size + 1 + 1]? = some (.cells #[.int .i64 (n : Int), o] 39 (0, 0)) ∧ wr.ownsRow w.heap.size 3 1 o k (vn (flN n t k)) ∧ Below w.heap.size w wr) (fun i _ => (n - intOf i).toNat)
      case atStart => exact ⟨0, k, o, rfl, by omega, Hk, hR, hO, hW, hB⟩
      case round =>
        clear hR hO hW hB Hk
        obtain ⟨c, k, o, rfl, hc, Hk, hR, hO, hW, hB⟩ := hrel
        by_cases hlc : c < n
        · have hdc : decide ((c : Int) < (n : Int)) = true := by simp; omega
          have hk99 : k ≤ 99 := by rw [Hk.out]; have := cell_lt hlt hlc; rw [← Hz.out] at this; omega
          have D1 := HT.out _ hB.drew r c hlt hlc
          have Hk2 : Hid (k + 1 = r * n + (c + 1)) := by show _ = _; rw [Hk.out]; omega
          have HFL : Hid (vn (flN n t (k + 1)) = vn (flN n t k) ++ [.int .i64 (t r c : Int)]) := by show _ = _; rw [Hk.out]; exact flN_succ t hlc
          obtain ⟨x, Hx⟩ : ∃ x, Hid (t r c = x) := ⟨_, rfl⟩
          rw [Hx.out] at D1 HFL
          have hc0 : wr.cell? ⟨w.heap.size + 1 + 1, 1, none⟩ = some o := by rw [cell_of_row _ _ _ _ _ _ hO]; rfl
          have hlO : w.heap.size + 1 + 1 < wr.heap.size := (Array.getElem?_eq_some_iff.1 hO).1
          obtain ⟨fl, Hfl⟩ : ∃ fl, Hid (vn (flN n t k) = fl) := ⟨_, rfl⟩
          rw [Hfl.out] at hW HFL
          have HSZ : Hid (w.heap.size + 1 + 1 < wr.heap.size) := hlO
          clear Hk
          go_wp2_with fail
          refine wp_region_noPanic ?_
          refine wp_region_held_drew (S := fun _ => True) (by kernel_rfl) (trivial) (fun hSx => ?_)
          refine wpAnyH_take (i := 0) (v := .pointer (some ⟨w.heap.size + 1 + 1, 1, none⟩)) rfl (by kernel_rfl) (by kernel_rfl) (by kernel_rfl) (fun _ _ _ h => h) (Or.inl ⟨by rfl, fun w' hSw => by (try dsimp only at hSw); go_simp⟩) trivial ?_
          try simp only [Act.put, List.setIfInBounds_toArray]
          refine wpAnyH_take (i := 2) (v := .func (.func g) #[] lb) rfl (by kernel_rfl) (by kernel_rfl) (by kernel_rfl) (fun _ _ _ h => h) (Or.inl ⟨by rfl, fun w' hSw => by (try dsimp only at hSw); go_simp⟩) trivial ?_
          try simp only [Act.put]
          refine wpAnyH_take (i := 3) (v := .int .i64 (r : Int)) rfl (by kernel_rfl) (by kernel_rfl) (by kernel_rfl) (fun _ _ _ h => h) (Or.inl ⟨by rfl, fun w' hSw => by (try dsimp only at hSw); go_simp⟩) trivial ?_
          try simp only [Act.put]
          refine wpAnyH_take (i := 4) (v := .int .i64 (c : Int)) rfl (by kernel_rfl) (by kernel_rfl) (by kernel_rfl) (fun _ _ _ h => h) (Or.inl ⟨by rfl, fun w' hSw => by (try dsimp only at hSw); go_simp⟩) trivial ?_
          try simp only [Act.put]
          refine wpAnyH_ready (rs := [1, 5]) (by kernel_rfl) (by simp) ?_
          refine AllReadyH.cons rfl (fun J hJ => ?_) (AllReadyH.cons rfl (fun J hJ => ?_) AllReadyH.nil)
          · go_simp
            refine hJ.out _ _ trivial (fun _ => ?_)
            clear hJ J
            try simp only [Act.put, List.setIfInBounds_toArray, List.set_cons_zero, List.set_cons_succ]
            refine wpAnyH_ready (rs := [5]) (by kernel_rfl) (by simp) ?_
            refine AllReadyH.cons rfl (fun J hJ => ?_) AllReadyH.nil
            go_simp
            go_at_fn g
            refine D1.mono ?_
            rintro e w5 ⟨rfl, b5⟩
            have b5' := Below.next (Below.refl _ wr).drew b5
            have hR5 := (b5'.block _ (by have := HSZ.out; omega)).trans hR
            have hO5 := (b5'.block _ HSZ.out).trans hO
            have hW5 := orow_below hW b5'
            have hc5 : w5.cell? ⟨w.heap.size + 1 + 1, 1, none⟩ = some o := by rw [cell_of_row _ _ _ _ _ _ hO5]; rfl
            have hB5 := Below.next hB b5'
            have hs5 := hB5.size
            have hl5 : w.heap.size + 1 + 1 < w5.heap.size := (Array.getElem?_eq_some_iff.1 hO5).1
            clear D1
            go_wp2_with fail
            refine hJ.out _ _ trivial (fun _ => ?_)
            clear hJ J
            try simp only [Act.put, List.setIfInBounds_toArray, List.set_cons_zero, List.set_cons_succ]
            refine wpAnyH_ready (rs := [6]) (by kernel_rfl) (by simp) ?_
            refine AllReadyH.cons rfl (fun J hJ => ?_) AllReadyH.nil
            go_simp
            have hR6 := (balloc w5 (.cells #[.int .i64 (x : Int)] 3)).block _ (show w.heap.size < w5.heap.size by omega)
            have hO6 := (balloc w5 (.cells #[.int .i64 (x : Int)] 3)).block _ hl5
            have hc6 : (w5.alloc (.cells #[.int .i64 (x : Int)] 3)).cell? ⟨w.heap.size + 1 + 1, 1, none⟩ = some o := by rw [cell_of_row _ _ _ _ _ _ (hO6.trans hO5)]; rfl
            refine hJ.out _ _ trivial (fun _ => ?_)
            clear hJ J
            try simp only [Act.put, List.setIfInBounds_toArray, List.set_cons_zero, List.set_cons_succ]
            refine wpAnyH_ready (rs := [7]) (by kernel_rfl) (by simp) ?_
            refine AllReadyH.cons rfl (fun J hJ => ?_) AllReadyH.nil
            rw [if_pos (by rfl)]
            refine wp_append_lies _ _ _ 22 rfl w.heap.size 3 i3 (.int .i64 0) 1 8 und22 HI3.out.1 HI3.out.2.1 HI3.out.2.2.1 HI3.out.2.2.2 rfl (by decide) o k fl rfl (hW5.alloc _) ⟨w5.heap.size, 0, none⟩ 1 1 [.int .i64 (x : Int)] rfl rfl (news_one w5 _) (fun u hu => by simp at hu; subst hu; rfl) (by decide) (by unfold maxLen; omega) (by omega) (by simp; omega) _ rfl ?_
            intro og oc w7 hW7 hg7 _ _
            have hR7 := (hg7.block w.heap.size (by simp; omega) (fun e => own_diff hW5 hR5 e.symm)).trans (hR6.trans hR5)
            have hO7 := (hg7.block (w.heap.size + 1 + 1) (by simp; omega) (fun e => own_diff hW5 hO5 e.symm)).trans (hO6.trans hO5)
            have hB7 : Below w.heap.size w w7 := (Below.next hB5 (balloc w5 _)).grown hg7 (by simp; omega) (fun j hj => by
              obtain ⟨_, ⟨rfl, _⟩ | ⟨g', cap, cur, rfl, h8, _⟩⟩ := id hW5
              · cases hj
              · obtain rfl : g' = j := by simpa [Value.ownBlock] using hj
                exact h8)
            have hf7 : w7.frozen? ⟨w.heap.size + 1 + 1, 1, none⟩ = false := frozen_of_row w7 _ 1 _ _ hO7
            have hq7 : w7.cell? ⟨w.heap.size + 1 + 1, 1, none⟩ = some o := by rw [cell_of_row _ _ _ _ _ _ hO7]; rfl
            refine hJ.out _ _ trivial (fun _ => ?_)
            clear hJ J
            try simp only [Act.put, List.setIfInBounds_toArray]
            refine wpAnyH_take (i := 8) (v := .pointer (some ⟨w.heap.size + 1 + 1, 1, none⟩)) rfl (by kernel_rfl) (by kernel_rfl) (by kernel_rfl) (fun _ _ _ h => h) (Or.inl ⟨by rfl, fun w' hSw => by (try dsimp only at hSw); go_simp⟩) trivial ?_
            try simp only [Act.put]
            refine wpAnyH_ready (rs := [9]) (by kernel_rfl) (by simp) ?_
            refine AllReadyH.cons rfl (fun J hJ => ?_) AllReadyH.nil
            go_simp
            refine hJ.out _ _ trivial (fun _ => ?_)
            clear hJ J
            try simp only [Act.put, List.setIfInBounds_toArray, List.set_cons_zero, List.set_cons_succ]
            refine wpAnyH_done (by kernel_rfl) ?_ _
            refine NoPanic.normal ?_
            have hW8 := orow_other hW7 ⟨w.heap.size + 1 + 1, 1, none⟩ (.slice (some ⟨og, 0, none⟩) (k + 1) oc) (own_diff hW7 hO7)
            have hO8 : (w7.setCell ⟨w.heap.size + 1 + 1, 1, none⟩ (.slice (some ⟨og, 0, none⟩) (k + 1) oc)).heap[w.heap.size + 1 + 1]? = some (.cells #[.int .i64 (n : Int), .slice (some ⟨og, 0, none⟩) (k + 1) oc] 39 (0, 0)) := by rw [heap_setCell_same w7 _ 1 _ _ _ hO7]; rfl
            have hR8 := (heap_setCell_other w7 ⟨w.heap.size + 1 + 1, 1, none⟩ w.heap.size (.slice (some ⟨og, 0, none⟩) (k + 1) oc) (by show w.heap.size ≠ w.heap.size + 1 + 1; omega)).trans hR7
            have hB8 := hB7.setCell (p := ⟨w.heap.size + 1 + 1, 1, none⟩) (by show w.heap.size ≤ w.heap.size + 1 + 1; omega) (.slice (some ⟨og, 0, none⟩) (k + 1) oc)
            clear hq7 hf7 hc6 hc5 hc0
            go_wp2
            go_roundw
            case rel => exact ⟨c + 1, k + 1, _, by go_num, by omega, Hk2, hR8, hO8, by rw [HFL.out]; exact hW8, hB8⟩
            case measure => simp [intOf]; omega
          · go_simp
            go_at_fn g
            refine D1.mono ?_
            rintro e w5 ⟨rfl, b5⟩
            have b5' := Below.next (Below.refl _ wr).drew b5
            have hR5 := (b5'.block _ (by have := HSZ.out; omega)).trans hR
            have hO5 := (b5'.block _ HSZ.out).trans hO
            have hW5 := orow_below hW b5'
            have hc5 : w5.cell? ⟨w.heap.size + 1 + 1, 1, none⟩ = some o := by rw [cell_of_row _ _ _ _ _ _ hO5]; rfl
            have hB5 := Below.next hB b5'
            have hs5 := hB5.size
            have hl5 : w.heap.size + 1 + 1 < w5.heap.size := (Array.getElem?_eq_some_iff.1 hO5).1
            clear D1
            go_wp2_with fail
            refine hJ.out _ _ trivial (fun _ => ?_)
            clear hJ J
            try simp only [Act.put, List.setIfInBounds_toArray, List.set_cons_zero, List.set_cons_succ]
            refine wpAnyH_ready (rs := [1, 6]) (by kernel_rfl) (by simp) ?_
            refine AllReadyH.cons rfl (fun J hJ => ?_) (AllReadyH.cons rfl (fun J hJ => ?_) AllReadyH.nil)
            · go_simp
              refine hJ.out _ _ trivial (fun _ => ?_)
              clear hJ J
              try simp only [Act.put, List.setIfInBounds_toArray, List.set_cons_zero, List.set_cons_succ]
              refine wpAnyH_ready (rs := [6]) (by kernel_rfl) (by simp) ?_
              refine AllReadyH.cons rfl (fun J hJ => ?_) AllReadyH.nil
              go_simp
              have hR6 := (balloc w5 (.cells #[.int .i64 (x : Int)] 3)).block _ (show w.heap.size < w5.heap.size by omega)
              have hO6 := (balloc w5 (.cells #[.int .i64 (x : Int)] 3)).block _ hl5
              have hc6 : (w5.alloc (.cells #[.int .i64 (x : Int)] 3)).cell? ⟨w.heap.size + 1 + 1, 1, none⟩ = some o := by rw [cell_of_row _ _ _ _ _ _ (hO6.trans hO5)]; rfl
              refine hJ.out _ _ trivial (fun _ => ?_)
              clear hJ J
              try simp only [Act.put, List.setIfInBounds_toArray, List.set_cons_zero, List.set_cons_succ]
              refine wpAnyH_ready (rs := [7]) (by kernel_rfl) (by simp) ?_
              refine AllReadyH.cons rfl (fun J hJ => ?_) AllReadyH.nil
              rw [if_pos (by rfl)]
              refine wp_append_lies _ _ _ 22 rfl w.heap.size 3 i3 (.int .i64 0) 1 8 und22 HI3.out.1 HI3.out.2.1 HI3.out.2.2.1 HI3.out.2.2.2 rfl (by decide) o k fl rfl (hW5.alloc _) ⟨w5.heap.size, 0, none⟩ 1 1 [.int .i64 (x : Int)] rfl rfl (news_one w5 _) (fun u hu => by simp at hu; subst hu; rfl) (by decide) (by unfold maxLen; omega) (by omega) (by simp; omega) _ rfl ?_
              intro og oc w7 hW7 hg7 _ _
              have hR7 := (hg7.block w.heap.size (by simp; omega) (fun e => own_diff hW5 hR5 e.symm)).trans (hR6.trans hR5)
              have hO7 := (hg7.block (w.heap.size + 1 + 1) (by simp; omega) (fun e => own_diff hW5 hO5 e.symm)).trans (hO6.trans hO5)
              have hB7 : Below w.heap.size w w7 := (Below.next hB5 (balloc w5 _)).grown hg7 (by simp; omega) (fun j hj => by
                obtain ⟨_, ⟨rfl, _⟩ | ⟨g', cap, cur, rfl, h8, _⟩⟩ := id hW5
                · cases hj
                · obtain rfl : g' = j := by simpa [Value.ownBlock] using hj
                  exact h8)
              have hf7 : w7.frozen? ⟨w.heap.size + 1 + 1, 1, none⟩ = false := frozen_of_row w7 _ 1 _ _ hO7
              have hq7 : w7.cell? ⟨w.heap.size + 1 + 1, 1, none⟩ = some o := by rw [cell_of_row _ _ _ _ _ _ hO7]; rfl
              refine hJ.out _ _ trivial (fun _ => ?_)
              clear hJ J
              try simp only [Act.put, List.setIfInBounds_toArray]
              refine wpAnyH_take (i := 8) (v := .pointer (some ⟨w.heap.size + 1 + 1, 1, none⟩)) rfl (by kernel_rfl) (by kernel_rfl) (by kernel_rfl) (fun _ _ _ h => h) (Or.inl ⟨by rfl, fun w' hSw => by (try dsimp only at hSw); go_simp⟩) trivial ?_
              try simp only [Act.put]
              refine wpAnyH_ready (rs := [9]) (by kernel_rfl) (by simp) ?_
              refine AllReadyH.cons rfl (fun J hJ => ?_) AllReadyH.nil
              go_simp
              refine hJ.out _ _ trivial (fun _ => ?_)
              clear hJ J
              try simp only [Act.put, List.setIfInBounds_toArray, List.set_cons_zero, List.set_cons_succ]
              refine wpAnyH_done (by kernel_rfl) ?_ _
              refine NoPanic.normal ?_
              have hW8 := orow_other hW7 ⟨w.heap.size + 1 + 1, 1, none⟩ (.slice (some ⟨og, 0, none⟩) (k + 1) oc) (own_diff hW7 hO7)
              have hO8 : (w7.setCell ⟨w.heap.size + 1 + 1, 1, none⟩ (.slice (some ⟨og, 0, none⟩) (k + 1) oc)).heap[w.heap.size + 1 + 1]? = some (.cells #[.int .i64 (n : Int), .slice (some ⟨og, 0, none⟩) (k + 1) oc] 39 (0, 0)) := by rw [heap_setCell_same w7 _ 1 _ _ _ hO7]; rfl
              have hR8 := (heap_setCell_other w7 ⟨w.heap.size + 1 + 1, 1, none⟩ w.heap.size (.slice (some ⟨og, 0, none⟩) (k + 1) oc) (by show w.heap.size ≠ w.heap.size + 1 + 1; omega)).trans hR7
              have hB8 := hB7.setCell (p := ⟨w.heap.size + 1 + 1, 1, none⟩) (by show w.heap.size ≤ w.heap.size + 1 + 1; omega) (.slice (some ⟨og, 0, none⟩) (k + 1) oc)
              clear hq7 hf7 hc6 hc5 hc0
              go_wp2
              go_roundw
              case rel => exact ⟨c + 1, k + 1, _, by go_num, by omega, Hk2, hR8, hO8, by rw [HFL.out]; exact hW8, hB8⟩
              case measure => simp [intOf]; omega
            · go_simp
              have hR6 := (balloc w5 (.cells #[.int .i64 (x : Int)] 3)).block _ (show w.heap.size < w5.heap.size by omega)
              have hO6 := (balloc w5 (.cells #[.int .i64 (x : Int)] 3)).block _ hl5
              have hc6 : (w5.alloc (.cells #[.int .i64 (x : Int)] 3)).cell? ⟨w.heap.size + 1 + 1, 1, none⟩ = some o := by rw [cell_of_row _ _ _ _ _ _ (hO6.trans hO5)]; rfl
              refine hJ.out _ _ trivial (fun _ => ?_)
              clear hJ J
              try simp only [Act.put, List.setIfInBounds_toArray, List.set_cons_zero, List.set_cons_succ]
              refine wpAnyH_ready (rs := [1]) (by kernel_rfl) (by simp) ?_
              refine AllReadyH.cons rfl (fun J hJ => ?_) AllReadyH.nil
              go_simp
              refine hJ.out _ _ trivial (fun _ => ?_)
              clear hJ J
              try simp only [Act.put, List.setIfInBounds_toArray, List.set_cons_zero, List.set_cons_succ]
              refine wpAnyH_ready (rs := [7]) (by kernel_rfl) (by simp) ?_
              refine AllReadyH.cons rfl (fun J hJ => ?_) AllReadyH.nil
              rw [if_pos (by rfl)]
              refine wp_append_lies _ _ _ 22 rfl w.heap.size 3 i3 (.int .i64 0) 1 8 und22 HI3.out.1 HI3.out.2.1 HI3.out.2.2.1 HI3.out.2.2.2 rfl (by decide) o k fl rfl (hW5.alloc _) ⟨w5.heap.size, 0, none⟩ 1 1 [.int .i64 (x : Int)] rfl rfl (news_one w5 _) (fun u hu => by simp at hu; subst hu; rfl) (by decide) (by unfold maxLen; omega) (by omega) (by simp; omega) _ rfl ?_
              intro og oc w7 hW7 hg7 _ _
              have hR7 := (hg7.block w.heap.size (by simp; omega) (fun e => own_diff hW5 hR5 e.symm)).trans (hR6.trans hR5)
              have hO7 := (hg7.block (w.heap.size + 1 + 1) (by simp; omega) (fun e => own_diff hW5 hO5 e.symm)).trans (hO6.trans hO5)
              have hB7 : Below w.heap.size w w7 := (Below.next hB5 (balloc w5 _)).grown hg7 (by simp; omega) (fun j hj => by
                obtain ⟨_, ⟨rfl, _⟩ | ⟨g', cap, cur, rfl, h8, _⟩⟩ := id hW5
                · cases hj
                · obtain rfl : g' = j := by simpa [Value.ownBlock] using hj
                  exact h8)
              have hf7 : w7.frozen? ⟨w.heap.size + 1 + 1, 1, none⟩ = false := frozen_of_row w7 _ 1 _ _ hO7
              have hq7 : w7.cell? ⟨w.heap.size + 1 + 1, 1, none⟩ = some o := by rw [cell_of_row _ _ _ _ _ _ hO7]; rfl
              refine hJ.out _ _ trivial (fun _ => ?_)
              clear hJ J
              try simp only [Act.put, List.setIfInBounds_toArray]
              refine wpAnyH_take (i := 8) (v := .pointer (some ⟨w.heap.size + 1 + 1, 1, none⟩)) rfl (by kernel_rfl) (by kernel_rfl) (by kernel_rfl) (fun _ _ _ h => h) (Or.inl ⟨by rfl, fun w' hSw => by (try dsimp only at hSw); go_simp⟩) trivial ?_
              try simp only [Act.put]
              refine wpAnyH_ready (rs := [9]) (by kernel_rfl) (by simp) ?_
              refine AllReadyH.cons rfl (fun J hJ => ?_) AllReadyH.nil
              go_simp
              refine hJ.out _ _ trivial (fun _ => ?_)
              clear hJ J
              try simp only [Act.put, List.setIfInBounds_toArray, List.set_cons_zero, List.set_cons_succ]
              refine wpAnyH_done (by kernel_rfl) ?_ _
              refine NoPanic.normal ?_
              have hW8 := orow_other hW7 ⟨w.heap.size + 1 + 1, 1, none⟩ (.slice (some ⟨og, 0, none⟩) (k + 1) oc) (own_diff hW7 hO7)
              have hO8 : (w7.setCell ⟨w.heap.size + 1 + 1, 1, none⟩ (.slice (some ⟨og, 0, none⟩) (k + 1) oc)).heap[w.heap.size + 1 + 1]? = some (.cells #[.int .i64 (n : Int), .slice (some ⟨og, 0, none⟩) (k + 1) oc] 39 (0, 0)) := by rw [heap_setCell_same w7 _ 1 _ _ _ hO7]; rfl
              have hR8 := (heap_setCell_other w7 ⟨w.heap.size + 1 + 1, 1, none⟩ w.heap.size (.slice (some ⟨og, 0, none⟩) (k + 1) oc) (by show w.heap.size ≠ w.heap.size + 1 + 1; omega)).trans hR7
              have hB8 := hB7.setCell (p := ⟨w.heap.size + 1 + 1, 1, none⟩) (by show w.heap.size ≤ w.heap.size + 1 + 1; omega) (.slice (some ⟨og, 0, none⟩) (k + 1) oc)
              clear hq7 hf7 hc6 hc5 hc0
              go_wp2
              go_roundw
              case rel => exact ⟨c + 1, k + 1, _, by go_num, by omega, Hk2, hR8, hO8, by rw [HFL.out]; exact hW8, hB8⟩
              case measure => simp [intOf]; omega
        · have hdc : decide ((c : Int) < (n : Int)) = false := by simp; omega
          obtain rfl : c = n := by omega
          have Hk2 : Hid (k = (r + 1) * c) := by show _ = _; rw [Hk.out, Nat.add_mul]; omega
          clear Hk
          go_wp2
          go_roundw
          case rel => exact ⟨r + 1, k, o, by go_num, by omega, Hk2, hR, hO, hW, hB⟩
          case measure => simp [intOf]; omega
    · have hdr : decide ((r : Int) < (n : Int)) = false := by simp; omega
      obtain rfl : r = n := by omega
      have hkz : k = z := by rw [Hk.out, Hz.out]
      subst hkz
      have a0 : wr.cell? ⟨w.heap.size + 1 + 1, 0, none⟩ = some (.int .i64 (r : Int)) := by rw [cell_of_row _ _ _ _ _ _ hO]; rfl
      have a1 : wr.cell? ⟨w.heap.size + 1 + 1, 1, none⟩ = some o := by rw [cell_of_row _ _ _ _ _ _ hO]; rfl
      have a2 : wr.cell? ⟨w.heap.size, 0, none⟩ = some (.int .i64 0) := by rw [cell_of_row _ _ _ _ _ _ hR]; rfl
      have a3 : wr.cell? ⟨w.heap.size, 1, none⟩ = some (.slice none 0 0) := by rw [cell_of_row _ _ _ _ _ _ hR]; rfl
      have f0 : wr.frozen? ⟨w.heap.size, 0, none⟩ = false := frozen_of_row wr _ 0 _ _ hR
      have f1 : wr.frozen? ⟨w.heap.size, 1, none⟩ = false := frozen_of_row wr _ 1 _ _ hR
      obtain ⟨og, ol, oc, rfl⟩ : ∃ a l c, o = .slice a l c := by
        obtain ⟨_, ⟨e, _⟩ | ⟨g', cap, cur, e, _⟩⟩ := id hW
        · exact ⟨_, _, _, e⟩
        · exact ⟨_, _, _, e⟩
      have hn1 := heap_setCell_same wr w.heap.size 0 _ _ (.int .i64 (r : Int)) hR
      have hn2 := heap_setCell_same _ w.heap.size 1 _ _ (.slice og ol oc) hn1
      have hW2 := orow_other (orow_other hW ⟨w.heap.size, 0, none⟩ (.int .i64 (r : Int)) (own_diff hW hR)) ⟨w.heap.size, 1, none⟩ (.slice og ol oc) (own_diff hW hR)
      go_wp2
      exact post_sq 4 Tryd.results70 rfl hn2 rfl ⟨⟨_, rfl, hW2⟩, (hB.setCell (Nat.le_refl _) _).setCell (Nat.le_refl _) _⟩
end Go.Proofs.YtjfjdidibglhaabDoor

namespace Go.Proofs.YtjfjdidibglhaabDoor
open Go.RowKit

theorem fl_at {n : Nat} {t : Nat → Nat → Nat} {k : Nat} (hk : k < n * n) : ((flN n t (n * n)).map Int.ofNat).getD k 0 = (t (k / n) (k % n) : Int) := by
  unfold flN
  simp [hk]
theorem fl_sq {n : Nat} {t : Nat → Nat → Nat} {i j : Nat} (hi : i < n) (hj : j < n) : sq n ((flN n t (n * n)).map Int.ofNat) i j = t i j := by
  unfold sq
  rw [fl_at (cell_lt hi hj), (divmod hj).1, (divmod hj).2]
  simp
theorem lat_congr {n : Nat} {s t : Nat → Nat → Nat} (h : ∀ i j, i < n → j < n → s i j = t i j) (L : Lat n s) : Lat n t :=
  ⟨fun i j hi hj => by rw [← h i j hi hj]; exact L.lt i j hi hj, fun i hi j k hj hk e => L.row i hi j k hj hk (by rw [h i j hi hj, h i k hi hk]; exact e), fun j hj i k hi hk e => L.col j hj i k hi hk (by rw [h i j hi hj, h k j hk hj]; exact e)⟩
theorem fl_good {n : Nat} {t : Nat → Nat → Nat} (h1 : 0 < n) (h8 : n ≤ 8) (L : Lat n t) : GoodSq n ((flN n t (n * n)).map Int.ofNat) := by
  refine ⟨h1, h8, by simp [flN], fun k hk => ?_, lat_congr (fun i j hi hj => (fl_sq hi hj).symm) L⟩
  rw [fl_at hk]
  have := L.lt (k / n) (k % n) (Nat.div_lt_of_lt_mul hk) (Nat.mod_lt _ h1)
  omega
theorem own_sliceL {w : World} {base n : Nat} {e : TypeId} {size : Nat} {v : Value} {xs : List Value} (h : w.ownsRow base e size v n xs) : ∃ a l c, v = .slice a l c := by
  obtain ⟨_, ⟨e, _⟩ | ⟨g', cap, cur, e, _⟩⟩ := h
  · exact ⟨_, _, _, e⟩
  · exact ⟨_, _, _, e⟩
theorem orow_base {w : World} {base base' n : Nat} {e : TypeId} {size : Nat} {v : Value} {xs : List Value} (h : w.ownsRow base e size v n xs) (hb : base' ≤ base) : w.ownsRow base' e size v n xs := by
  obtain ⟨h3, h4 | ⟨g, cap, cur, h5, h6, h7⟩⟩ := h
  · exact ⟨h3, .inl h4⟩
  · exact ⟨h3, .inr ⟨g, cap, cur, h5, Nat.le_trans hb h6, h7⟩⟩
end Go.Proofs.YtjfjdidibglhaabDoor

/- The walks of made and Made. -/
/- The walks of latin's order, made and Made. -/
namespace Go.Proofs.YtjfjdidibglhaabDoor
open Go.RowKit

theorem pow_lt {P K i : Nat} (hP : 2 ≤ P) (hi : i ≤ K) : P ^ i ≤ P ^ K := Nat.pow_le_pow_right (by omega) hi
set_option maxRecDepth 100000 in
set_option maxHeartbeats 4000000 in
theorem order_any (P K : Nat) (A : Option Addr) (n c : Nat) (w : World) (hP : 2 ≤ P) (_hP' : P ≤ 61) (hK : K ≤ 6) (hPK : P ^ K ≤ 64) :
    Calls Tryd.prog 33 #[.agg #[.int .i64 P, .int .i64 K, .slice A n c]] w fun e w' => e = .returned (.int .i64 ((P ^ K : Nat) : Int)) ∧ Below w.heap.size w w' := by
  obtain ⟨q, Hq⟩ : ∃ q, Hid (P ^ K = q) := ⟨_, rfl⟩
  rw [Hq.out] at hPK ⊢
  have hB := balloc w (.cells #[.int .i64 (P : Int), .int .i64 (K : Int), .slice A n c] 24)
  have hc := (Fd.FB.made w P K (.slice A n c)).cells
  obtain ⟨c0, c1, c2⟩ := hc
  go_enter Tryd.func33, Tryd.ntmps33
  go_wp2
  go_loop [3, 6] (fun o i => ∃ j r : Nat, i = .int .i64 (j : Int) ∧ o = .int .i64 (r : Int) ∧ j ≤ K ∧ Hid (r = P ^ j)) (fun _ i => (K - intOf i).toNat)
  case atStart => exact ⟨0, 1, rfl, rfl, by omega, (by simp : 1 = P ^ 0)⟩
  case round =>
    obtain ⟨j, r, rfl, rfl, hj, Hr⟩ := hrel
    by_cases hlt : j < K
    · have hd : decide ((j : Int) < (K : Int)) = true := by simp; omega
      have hle : r * P ≤ 64 := by
        rw [Hr.out, ← Nat.pow_succ]
        exact Nat.le_trans (pow_lt hP hlt) (by rw [Hq.out]; exact hPK)
      obtain ⟨r2, Hr2⟩ : ∃ r2, Hid (r * P = r2) := ⟨_, rfl⟩
      rw [Hr2.out] at hle
      have hm : (r : Int) * (P : Int) = (r2 : Int) := by rw [← Hr2.out]; simp
      have Hr3 : Hid (r2 = P ^ (j + 1)) := by show _ = _; rw [← Hr2.out, Hr.out, Nat.pow_succ]
      clear Hr
      go_wp2
      go_round
      case rel => exact ⟨j + 1, r2, by go_num, by go_num, by omega, Hr3⟩
      case measure => simp [intOf]; omega
    · have hd : decide ((j : Int) < (K : Int)) = false := by simp; omega
      obtain rfl : j = K := by omega
      have Hrq : Hid (r = q) := by show _ = _; rw [Hr.out, Hq.out]
      clear Hr
      go_wp2
      go_ret
      exact ⟨congrArg (fun x : Nat => Ending.returned (.int .i64 (x : Int))) Hrq.out, hB⟩
/-- The cell of a field's square. -/
def sqF (P K : Nat) (l : List Int) (a r c : Nat) : Nat := Fd.addQ P K (Fd.mulQ P K (Fd.monL l) a r) c
set_option maxRecDepth 100000 in
theorem e35 : ∀ args w, (callFunc 71 args).run Tryd.prog w = .ok (.enter 71 args) w := enters_of Tryd.func71 (by kernel_rfl) rfl
set_option maxRecDepth 100000 in
set_option maxHeartbeats 4000000 in
theorem made1_any (P K a r c gf ga : Nat) (l : List Int) (v : Value) (W : World) (hT : Fd.Tab W) (hl : Sl W v l) (hG : Fd.GoodF P K l) (ha : a < P ^ K) (hr : r < P ^ K) (hc : c < P ^ K) (hF : Fd.FB W gf P K v) (hA : W.cell? ⟨ga, 0, none⟩ = some (.int .i64 (a : Int))) :
    Calls Tryd.prog 71 #[.int .i64 (r : Int), .int .i64 (c : Int), .pointer (some ⟨gf, 0, none⟩), .pointer (some ⟨ga, 0, none⟩)] W fun e w' => e = .returned (.int .i64 (sqF P K l a r c : Int)) ∧ Below W.heap.size W w' := by
  have hll : l.length ≤ maxLen := by rw [hG.len]; have := hG.le6; unfold maxLen; omega
  obtain ⟨m, Hm⟩ : ∃ m, Hid (m = Fd.mulQ P K (Fd.monL l) a r) := ⟨_, (rfl : _ = Fd.mulQ P K (Fd.monL l) a r)⟩
  obtain ⟨s, Hs⟩ : ∃ s, Hid (s = Fd.addQ P K m c) := ⟨_, (rfl : _ = Fd.addQ P K m c)⟩
  have hm : m < P ^ K := by rw [Hm.out]; exact Fd.mulQ_lt hG.field.toRing1 a r
  have C1 := Fd.MulG P K a r l v W hT hl hll hG ha hr m Hm
  have C2 : Hid (∀ W', Below W.heap.size W W' → Calls Tryd.prog 72 #[.agg #[.int .i64 P, .int .i64 K, v], .int .i64 m, .int .i64 c] W' fun e w' => e = .returned (.tuple #[.int .i64 s, .int .i64 0]) ∧ Below W'.heap.size W' w') := fun W' bW => Fd.AddG P K m c l v W' (hT.below bW) (Sl.below hl bW) hll hG hm hc s Hs
  have HS : Hid (sqF P K l a r c = s) := by show _ = _; unfold sqF; rw [← Hm.out, Hs.out]
  rw [HS.out]
  obtain ⟨c0, c1, c2⟩ := hF.cells
  have HF : Hid (Fd.FB W gf P K v) := hF
  obtain ⟨va, vc, rfl, _⟩ := id hl
  clear hT hl hG ha hr hc hm hF HS
  go_enter Tryd.func71, Tryd.ntmps71
  go_wp2_with (first
    | (go_at_call 32; refine C1.mono ?_; rintro e w1 ⟨rfl, b1⟩; obtain ⟨d0, d1, d2⟩ := (HF.out.below b1).cells; clear C1)
    | (go_at_call 72; refine (C2.out _ b1).mono ?_; rintro e w2 ⟨rfl, b2⟩; clear C2))
  go_ret
  exact ⟨rfl, Below.next b1 b2⟩
end Go.Proofs.YtjfjdidibglhaabDoor

namespace Go.Proofs.YtjfjdidibglhaabDoor
open Go.RowKit

/-- The square of a field's element, row by row. -/
def madeL (P K : Nat) (l : List Int) (a : Nat) : List Nat := flN (P ^ K) (sqF P K l a) (P ^ K * P ^ K)
theorem two_le {P K : Nat} {l : List Int} (hG : Fd.GoodF P K l) : 2 ≤ P ^ K := Fd.one_lt hG.field.toRing1
set_option maxRecDepth 100000 in
set_option maxHeartbeats 4000000 in
theorem made_any (P K a : Nat) (l : List Int) (v : Value) (w : World) (hT : Fd.Tab w) (hl : Sl w v l) (hG : Fd.GoodF P K l) (ha : a < P ^ K) (h8 : P ^ K ≤ 8) :
    Calls Tryd.prog 34 #[.agg #[.int .i64 P, .int .i64 K, v], .int .i64 a] w fun e w' => (∃ y, e = .returned (.agg #[.int .i64 ((P ^ K : Nat) : Int), y]) ∧ w'.ownsRow w.heap.size 3 1 y (P ^ K * P ^ K) (vn (madeL P K l a))) ∧ Below w.heap.size w w' := by
  have h2 := two_le hG
  obtain ⟨va, vc, ev, _⟩ := id hl
  subst ev
  have bA := balloc w (.cells #[.int .i64 (P : Int), .int .i64 (K : Int), .slice va l.length vc] 24)
  have bB := Below.next bA (balloc _ (.cells #[.int .i64 (a : Int)] 3))
  have bC := Below.next bB (balloc _ (.cells #[.int .i64 0, .slice none 0 0] 39))
  obtain ⟨W, hW⟩ : ∃ W, ((w.alloc (.cells #[.int .i64 (P : Int), .int .i64 (K : Int), .slice va l.length vc] 24)).alloc (.cells #[.int .i64 (a : Int)] 3)).alloc (.cells #[.int .i64 0, .slice none 0 0] 39) = W := ⟨_, rfl⟩
  have k0 : W.heap[w.heap.size]? = some (.cells #[.int .i64 (P : Int), .int .i64 (K : Int), .slice va l.length vc] 24 (0, 0)) := by rw [← hW]; exact (Below.heap_alloc _ _ _ (by simp; omega)).trans ((Below.heap_alloc _ _ _ (by simp)).trans (heap_alloc_new w _))
  have k1 : W.heap[w.heap.size + 1]? = some (.cells #[.int .i64 (a : Int)] 3 (0, 0)) := by
    rw [← hW]
    refine (Below.heap_alloc _ _ _ (by simp)).trans ?_
    have := heap_alloc_new (w.alloc (.cells #[.int .i64 (P : Int), .int .i64 (K : Int), .slice va l.length vc] 24)) (.cells #[.int .i64 (a : Int)] 3)
    simpa using this
  have k2 : W.heap[w.heap.size + 1 + 1]? = some (.cells #[.int .i64 0, .slice none 0 0] 39 (0, 0)) := by
    rw [← hW]
    have := heap_alloc_new ((w.alloc (.cells #[.int .i64 (P : Int), .int .i64 (K : Int), .slice va l.length vc] 24)).alloc (.cells #[.int .i64 (a : Int)] 3)) (.cells #[.int .i64 0, .slice none 0 0] 39)
    simpa using this
  have HW : Hid (((w.alloc (.cells #[.int .i64 (P : Int), .int .i64 (K : Int), .slice va l.length vc] 24)).alloc (.cells #[.int .i64 (a : Int)] 3)).alloc (.cells #[.int .i64 0, .slice none 0 0] 39) = W) := hW
  rw [hW] at bC
  have hWs : w.heap.size + 1 + 1 < W.heap.size := (Array.getElem?_eq_some_iff.1 k2).1
  have C1 := order_any P K va l.length vc W hG.field.two hG.le61 hG.le6 hG.le64
  have C2 : Hid (∀ W', Below W.heap.size W W' → Calls Tryd.prog 70 #[.int .i64 ((P ^ K : Nat) : Int), .func (.func 71) #[] #[.pointer (some ⟨w.heap.size, 0, none⟩), .pointer (some ⟨w.heap.size + 1, 0, none⟩)]] W' fun e w' => (∃ y, e = .returned (.agg #[.int .i64 ((P ^ K : Nat) : Int), y]) ∧ w'.ownsRow W'.heap.size 3 1 y (P ^ K * P ^ K) (vn (madeL P K l a))) ∧ Below W'.heap.size W' w') := fun W' b' =>
    filled_any (P ^ K) (sqF P K l a) _ W' (by omega) h8 ⟨71, _, rfl, e35, fun X bX r c hr hc => by
      have bWX := Below.next b' bX
      have bwX := Below.next bC bWX
      exact made1_any P K a r c w.heap.size (w.heap.size + 1) l _ X (hT.below bwX) (hl.below bwX) hG ha hr hc ((bWX.block _ (by omega)).trans k0) (by rw [cell_of_row _ _ _ _ _ _ ((bWX.block _ (by omega)).trans k1)]; rfl)⟩
  obtain ⟨q, Hq⟩ : ∃ q, Hid (P ^ K = q) := ⟨_, rfl⟩
  obtain ⟨L, HL⟩ : ∃ L, Hid (vn (madeL P K l a) = L) := ⟨_, rfl⟩
  rw [Hq.out] at h8 h2 C1
  rw [Hq.out, HL.out] at C2 ⊢
  have x0 : W.cell? ⟨w.heap.size, 0, none⟩ = some (.int .i64 (P : Int)) := by rw [cell_of_row _ _ _ _ _ _ k0]; rfl
  have x1 : W.cell? ⟨w.heap.size, 1, none⟩ = some (.int .i64 (K : Int)) := by rw [cell_of_row _ _ _ _ _ _ k0]; rfl
  have x2 : W.cell? ⟨w.heap.size, 2, none⟩ = some (.slice va l.length vc) := by rw [cell_of_row _ _ _ _ _ _ k0]; rfl
  have HK2 : Hid (W.heap[w.heap.size + 1 + 1]? = some (.cells #[.int .i64 0, .slice none 0 0] 39 (0, 0))) := k2
  have hC1 : Hid (Calls Tryd.prog 33 #[.agg #[.int .i64 (P : Int), .int .i64 (K : Int), .slice va l.length vc]] W fun e w' => e = .returned (.int .i64 (q : Int)) ∧ Below W.heap.size W w') := C1
  clear hW k0 k1 k2 hl hT hG ha bA bB C1
  go_enter Tryd.func34, Tryd.ntmps34
  go_wp2_with (first
    | (go_at_call 33; first | rw [HW.out] | skip; refine hC1.out.mono ?_; rintro e w1 ⟨rfl, b1⟩; clear hC1)
    | (go_at_call 70; refine (C2.out _ b1).mono ?_; rintro e w2 ⟨⟨y, rfl, hY⟩, b2⟩; have hR2 := ((Below.next b1 b2).block (w.heap.size + 1 + 1) hWs).trans HK2.out; obtain ⟨og, ol, oc, rfl⟩ := own_sliceL hY; have y0 : w2.cell? ⟨w.heap.size + 1 + 1, 0, none⟩ = some (.int .i64 0) := (by rw [cell_of_row _ _ _ _ _ _ hR2]; rfl); have y1 : w2.cell? ⟨w.heap.size + 1 + 1, 1, none⟩ = some (.slice none 0 0) := (by rw [cell_of_row _ _ _ _ _ _ hR2]; rfl); have f0 := frozen_of_row w2 (w.heap.size + 1 + 1) 0 _ _ hR2; have f1 := frozen_of_row w2 (w.heap.size + 1 + 1) 1 _ _ hR2; clear C2))
  have hn1 := heap_setCell_same w2 (w.heap.size + 1 + 1) 0 _ _ (.int .i64 (q : Int)) hR2
  have hn2 := heap_setCell_same _ (w.heap.size + 1 + 1) 1 _ _ (.slice og ol oc) hn1
  have hs1 := b1.size
  have hY2 := orow_other (orow_other (orow_base (base' := w.heap.size) hY (by omega)) ⟨w.heap.size + 1 + 1, 0, none⟩ (.int .i64 (q : Int)) (own_diff hY hR2)) ⟨w.heap.size + 1 + 1, 1, none⟩ (.slice og ol oc) (own_diff hY hR2)
  exact post_sq 4 Tryd.results34 rfl hn2 rfl ⟨⟨_, rfl, hY2⟩, (((Below.next bC (Below.next b1 b2))).setCell (by show w.heap.size ≤ w.heap.size + 1 + 1; omega) _).setCell (by show w.heap.size ≤ w.heap.size + 1 + 1; omega) _⟩
end Go.Proofs.YtjfjdidibglhaabDoor

/- The walk of Made. -/
namespace Go.Proofs.YtjfjdidibglhaabDoor
open Go.RowKit

theorem open_one {p k : Int} {l es : List Int} {z z' : Int} (h : Fd.OpenIs p k l es z) (h' : Fd.OpenIs p k l es z') : z = z' := by
  by_cases h0 : Fd.FaultIs p k l 0
  · by_cases hi : Fd.inL (Fd.ordZ p k) es
    · rw [Fd.open_in h0 hi h, Fd.open_in h0 hi h']
    · rw [Fd.open_out h0 hi h, Fd.open_out h0 hi h']
  · rcases h with ⟨_, h⟩ | ⟨h, _, _⟩ | ⟨h, _, _⟩
    · rcases h' with ⟨_, h'⟩ | ⟨h', _, _⟩ | ⟨h', _, _⟩
      · exact h.one h'
      · exact absurd h' h0
      · exact absurd h' h0
    · exact absurd h h0
    · exact absurd h h0
theorem fault_some (p k : Int) (l : List Int) : ∃ z, Fd.FaultIs p k l z := by
  unfold Fd.FaultIs
  by_cases h1 : Fd.ordZ p k = 0
  · exact ⟨1, .inl ⟨h1, rfl⟩⟩
  · by_cases h2 : (l.length : Int) = k
    · by_cases h3 : Fd.inL p l
      · by_cases h4 : Fd.irrP (Fd.monL l) k.toNat p.toNat
        · exact ⟨0, .inr (.inr (.inr (.inr ⟨h1, h2, h3, h4, rfl⟩)))⟩
        · exact ⟨4, .inr (.inr (.inr (.inl ⟨h1, h2, h3, h4, rfl⟩)))⟩
      · exact ⟨1, .inr (.inr (.inl ⟨h1, h2, h3, rfl⟩))⟩
    · exact ⟨2, .inr (.inl ⟨h1, h2, rfl⟩)⟩
/-- A field and a square that is nothing yet. -/
structure FdSq (w W : World) (p k : Int) (v : Value) : Prop where
  field : Fd.FB W w.heap.size p k v
  square : W.heap[w.heap.size + 1]? = some (.cells #[.int .i64 0, .slice none 0 0] 39 (0, 0))
  below : Below w.heap.size w W
theorem fd_sq (w : World) (p k : Int) (v : Value) : FdSq w ((w.alloc (.cells #[.int .i64 p, .int .i64 k, v] 24)).alloc (.cells #[.int .i64 0, .slice none 0 0] 39)) p k v := by
  refine ⟨(Fd.FB.made w p k v).below (balloc _ _), ?_, Below.next (balloc _ _) (balloc _ _)⟩
  have := heap_alloc_new (w.alloc (.cells #[.int .i64 p, .int .i64 k, v] 24)) (.cells #[.int .i64 0, .slice none 0 0] 39)
  simpa using this
set_option maxRecDepth 100000 in
theorem FdSq.next {w W W' : World} {p k : Int} {v : Value} (h : FdSq w W p k v) (b : Below W.heap.size W W') : FdSq w W' p k v :=
  ⟨h.field.below b, (b.block _ (Array.getElem?_eq_some_iff.1 h.square).1).trans h.square, Below.next h.below b⟩
set_option maxRecDepth 100000 in
theorem FdSq.facts {w W : World} {p k : Int} {v : Value} (h : FdSq w W p k v) : (W.cell? ⟨w.heap.size, 0, none⟩ = some (.int .i64 p) ∧ W.cell? ⟨w.heap.size, 1, none⟩ = some (.int .i64 k) ∧ W.cell? ⟨w.heap.size, 2, none⟩ = some v) ∧ W.cell? ⟨w.heap.size + 1, 0, none⟩ = some (.int .i64 0) ∧ W.cell? ⟨w.heap.size + 1, 1, none⟩ = some (.slice none 0 0) ∧ W.frozen? ⟨w.heap.size + 1, 0, none⟩ = false ∧ W.frozen? ⟨w.heap.size + 1, 1, none⟩ = false :=
  ⟨h.field.cells, by rw [cell_of_row _ _ _ _ _ _ h.square]; rfl, by rw [cell_of_row _ _ _ _ _ _ h.square]; rfl, frozen_of_row W _ 0 _ _ h.square, frozen_of_row W _ 1 _ _ h.square⟩

set_option maxRecDepth 100000 in
set_option maxHeartbeats 4000000 in
theorem Made_bad (p k a z : Int) (l : List Int) (v : Value) (w : World) (hT : Fd.Tab w) (hl : Sl w v l) (hll : l.length ≤ maxLen) (hz : z ≠ 0) (hO : Fd.OpenIs p k l [a, 0] z) :
    Calls Tryd.prog 14 #[.agg #[.int .i64 p, .int .i64 k, v], .int .i64 a] w fun e w' => e = .returned (.tuple #[.agg #[.int .i64 0, .slice none 0 0], .int .i64 z]) ∧ Below w.heap.size w w' := by
  obtain ⟨va, vc, ev, _⟩ := id hl
  subst ev
  have F0 := fd_sq w p k (.slice va l.length vc)
  have C0 := Fd.Mul_any p k a 0 l (.slice va l.length vc) _ (hT.below F0.below) (Sl.below hl F0.below) hll
  have C : Hid (Calls Tryd.prog 32 #[.agg #[.int .i64 p, .int .i64 k, .slice va l.length vc], .int .i64 a, .int .i64 0] ((w.alloc (.cells #[.int .i64 p, .int .i64 k, .slice va l.length vc] 24)).alloc (.cells #[.int .i64 0, .slice none 0 0] 39)) fun e w' => e = .returned (.tuple #[.int .i64 0, .int .i64 z]) ∧ FdSq w w' p k (.slice va l.length vc)) := C0.mono fun e w' ⟨s, z', h1, h2, h3, _, h5⟩ => by
    obtain rfl := open_one h2 hO
    rw [h3.out hz] at h1
    exact ⟨h1, F0.next h5⟩
  obtain ⟨⟨c0, c1, c2⟩, d0, d1, _, _⟩ := F0.facts
  have hzb : (z != 0) = true := by simpa using hz
  clear C0 hT hl hll hO F0 hz
  go_enter Tryd.func14, Tryd.ntmps14
  go_wp2_with (go_at_call 32; refine C.out.mono ?_; rintro e w1 ⟨rfl, F1⟩; obtain ⟨⟨x0, x1, x2⟩, y0, y1, g0, g1⟩ := F1.facts)
  have hn1 := heap_setCell_same w1 (w.heap.size + 1) 0 _ _ (.int .i64 0) F1.square
  have hn2 := heap_setCell_same _ (w.heap.size + 1) 1 _ _ (.slice none 0 0) hn1
  exact post_sq2 4 5 Tryd.results14 rfl hn2 rfl rfl ⟨rfl, (F1.below.setCell (by show w.heap.size ≤ w.heap.size + 1; omega) _).setCell (by show w.heap.size ≤ w.heap.size + 1; omega) _⟩
set_option maxRecDepth 100000 in
set_option maxHeartbeats 4000000 in
theorem Made_full (P K a : Nat) (l : List Int) (v : Value) (w : World) (hT : Fd.Tab w) (hl : Sl w v l) (hG : Fd.GoodF P K l) (ha : 1 ≤ a) (haq : a < P ^ K) (h8 : 8 < P ^ K) :
    Calls Tryd.prog 14 #[.agg #[.int .i64 P, .int .i64 K, v], .int .i64 a] w fun e w' => e = .returned (.tuple #[.agg #[.int .i64 0, .slice none 0 0], .int .i64 3]) ∧ Below w.heap.size w w' := by
  have hll : l.length ≤ maxLen := by rw [hG.len]; have := hG.le6; unfold maxLen; omega
  have h2 := two_le hG
  obtain ⟨va, vc, ev, _⟩ := id hl
  subst ev
  have F0 := fd_sq w P K (.slice va l.length vc)
  obtain ⟨m, Hm⟩ : ∃ m, Hid (m = Fd.mulQ P K (Fd.monL l) a 0) := ⟨_, (rfl : _ = Fd.mulQ P K (Fd.monL l) a 0)⟩
  have C0 := Fd.MulG P K a 0 l (.slice va l.length vc) _ (hT.below F0.below) (Sl.below hl F0.below) hll hG haq (by omega) m Hm
  have C : Hid (Calls Tryd.prog 32 #[.agg #[.int .i64 (P : Int), .int .i64 (K : Int), .slice va l.length vc], .int .i64 (a : Int), .int .i64 0] ((w.alloc (.cells #[.int .i64 (P : Int), .int .i64 (K : Int), .slice va l.length vc] 24)).alloc (.cells #[.int .i64 0, .slice none 0 0] 39)) fun e w' => e = .returned (.tuple #[.int .i64 (m : Int), .int .i64 0]) ∧ FdSq w w' P K (.slice va l.length vc)) := C0.mono fun e w' ⟨h1, h5⟩ => ⟨h1, F0.next h5⟩
  have C2 := fun W => order_any P K va l.length vc W hG.field.two hG.le61 hG.le6 hG.le64
  have h64 := hG.le64
  obtain ⟨q, Hq⟩ : ∃ q, Hid (P ^ K = q) := ⟨_, rfl⟩
  rw [Hq.out] at h8 h64 C2
  obtain ⟨⟨c0, c1, c2⟩, d0, d1, _, _⟩ := F0.facts
  have hab : ((a : Int) == 0) = false := by simp; omega
  have hd : decide ((8 : Int) < (q : Int)) = true := by simp; omega
  clear C0 hT hl hll F0 hG h2 haq
  go_enter Tryd.func14, Tryd.ntmps14
  go_wp2_with (first
    | (go_at_call 32; refine C.out.mono ?_; rintro e w1 ⟨rfl, F1⟩; obtain ⟨⟨x0, x1, x2⟩, _⟩ := F1.facts; clear C)
    | (go_at_call 33; refine (C2 _).mono ?_; rintro e w2 ⟨rfl, b2⟩; have F2 := F1.next b2; obtain ⟨⟨z0, z1, z2⟩, y0, y1, g0, g1⟩ := F2.facts; clear C2))
  have hn1 := heap_setCell_same w2 (w.heap.size + 1) 0 _ _ (.int .i64 0) F2.square
  have hn2 := heap_setCell_same _ (w.heap.size + 1) 1 _ _ (.slice none 0 0) hn1
  exact post_sq2 4 5 Tryd.results14 rfl hn2 rfl rfl ⟨rfl, (F2.below.setCell (by show w.heap.size ≤ w.heap.size + 1; omega) _).setCell (by show w.heap.size ≤ w.heap.size + 1; omega) _⟩
set_option maxRecDepth 100000 in
set_option maxHeartbeats 4000000 in
theorem Made_ok (P K a : Nat) (l : List Int) (v : Value) (w : World) (hT : Fd.Tab w) (hl : Sl w v l) (hG : Fd.GoodF P K l) (ha : 1 ≤ a) (haq : a < P ^ K) (h8 : P ^ K ≤ 8) :
    Calls Tryd.prog 14 #[.agg #[.int .i64 P, .int .i64 K, v], .int .i64 a] w fun e w' => (∃ y, e = .returned (.tuple #[.agg #[.int .i64 ((P ^ K : Nat) : Int), y], .int .i64 0]) ∧ w'.ownsRow w.heap.size 3 1 y (P ^ K * P ^ K) (vn (madeL P K l a))) ∧ Below w.heap.size w w' := by
  have hll : l.length ≤ maxLen := by rw [hG.len]; have := hG.le6; unfold maxLen; omega
  have h2 := two_le hG
  obtain ⟨va, vc, ev, _⟩ := id hl
  subst ev
  have F0 := fd_sq w P K (.slice va l.length vc)
  obtain ⟨m, Hm⟩ : ∃ m, Hid (m = Fd.mulQ P K (Fd.monL l) a 0) := ⟨_, (rfl : _ = Fd.mulQ P K (Fd.monL l) a 0)⟩
  have C0 := Fd.MulG P K a 0 l (.slice va l.length vc) _ (hT.below F0.below) (Sl.below hl F0.below) hll hG haq (by omega) m Hm
  have C : Hid (Calls Tryd.prog 32 #[.agg #[.int .i64 (P : Int), .int .i64 (K : Int), .slice va l.length vc], .int .i64 (a : Int), .int .i64 0] ((w.alloc (.cells #[.int .i64 (P : Int), .int .i64 (K : Int), .slice va l.length vc] 24)).alloc (.cells #[.int .i64 0, .slice none 0 0] 39)) fun e w' => e = .returned (.tuple #[.int .i64 (m : Int), .int .i64 0]) ∧ FdSq w w' P K (.slice va l.length vc)) := C0.mono fun e w' ⟨h1, h5⟩ => ⟨h1, F0.next h5⟩
  have C2 := fun W => order_any P K va l.length vc W hG.field.two hG.le61 hG.le6 hG.le64
  have C3 : Hid (∀ W, Below w.heap.size w W → Calls Tryd.prog 34 #[.agg #[.int .i64 (P : Int), .int .i64 (K : Int), .slice va l.length vc], .int .i64 (a : Int)] W fun e w' => (∃ y, e = .returned (.agg #[.int .i64 ((P ^ K : Nat) : Int), y]) ∧ w'.ownsRow W.heap.size 3 1 y (P ^ K * P ^ K) (vn (madeL P K l a))) ∧ Below W.heap.size W w') := fun W bW => made_any P K a l _ W (hT.below bW) (Sl.below hl bW) hG haq h8
  obtain ⟨q, Hq⟩ : ∃ q, Hid (P ^ K = q) := ⟨_, rfl⟩
  obtain ⟨L, HL⟩ : ∃ L, Hid (vn (madeL P K l a) = L) := ⟨_, rfl⟩
  rw [Hq.out] at h8 C2
  rw [Hq.out, HL.out] at C3 ⊢
  obtain ⟨⟨c0, c1, c2⟩, d0, d1, _, _⟩ := F0.facts
  have hab : ((a : Int) == 0) = false := by simp; omega
  have hd : decide ((8 : Int) < (q : Int)) = false := by simp; omega
  clear C0 hT hl hll F0 hG h2 haq
  go_enter Tryd.func14, Tryd.ntmps14
  go_wp2_with (first
    | (go_at_call 32; refine C.out.mono ?_; rintro e w1 ⟨rfl, F1⟩; obtain ⟨⟨x0, x1, x2⟩, _⟩ := F1.facts; clear C)
    | (go_at_call 33; refine (C2 _).mono ?_; rintro e w2 ⟨rfl, b2⟩; have F2 := F1.next b2; obtain ⟨⟨z0, z1, z2⟩, _⟩ := F2.facts; have D := C3.out _ F2.below; clear C2)
    | (go_at_call 34; refine D.mono ?_; rintro e w3 ⟨⟨y, rfl, hY⟩, b3⟩; have F3 := F2.next b3; obtain ⟨og, ol, oc, rfl⟩ := own_sliceL hY; obtain ⟨_, y0, y1, g0, g1⟩ := F3.facts; clear D))
  have hn1 := heap_setCell_same w3 (w.heap.size + 1) 0 _ _ (.int .i64 (q : Int)) F3.square
  have hn2 := heap_setCell_same _ (w.heap.size + 1) 1 _ _ (.slice og ol oc) hn1
  have hY2 := orow_other (orow_other (orow_base (base' := w.heap.size) hY F2.below.size) ⟨w.heap.size + 1, 0, none⟩ (.int .i64 (q : Int)) (own_diff hY F3.square)) ⟨w.heap.size + 1, 1, none⟩ (.slice og ol oc) (own_diff hY F3.square)
  exact post_sq2 4 5 Tryd.results14 rfl hn2 rfl rfl ⟨⟨_, rfl, hY2⟩, (F3.below.setCell (by show w.heap.size ≤ w.heap.size + 1; omega) _).setCell (by show w.heap.size ≤ w.heap.size + 1; omega) _⟩
end Go.Proofs.YtjfjdidibglhaabDoor

/- Squares of a field: they are Latin, and orthogonal where the elements are unlike (Bose). -/
namespace Go.Proofs.YtjfjdidibglhaabDoor
open Go.RowKit

theorem add_inj {P K : Nat} {m : Nat → Int} (hR : Fd.Ring1 P K m) {x c c' : Nat} (hc : c < P ^ K) (hc' : c' < P ^ K) (h : Fd.addQ P K x c = Fd.addQ P K x c') : c = c' := by
  refine Fd.vec_inj hR hc hc' fun t ht => ?_
  have h1 := Fd.addQ_vec hR x c t ht
  have h2 := Fd.addQ_vec hR x c' t ht
  rw [h] at h1
  have h3 := Int.dvd_sub h2 h1
  unfold Fd.vadd at h3
  rwa [show Fd.digF (Fd.addQ P K x c') P t - (Fd.digF x P t + Fd.digF c' P t) - (Fd.digF (Fd.addQ P K x c') P t - (Fd.digF x P t + Fd.digF c P t)) = Fd.digF c P t - Fd.digF c' P t by omega] at h3
theorem add_injl {P K : Nat} {m : Nat → Int} (hR : Fd.Ring1 P K m) {x c c' : Nat} (hc : c < P ^ K) (hc' : c' < P ^ K) (h : Fd.addQ P K c x = Fd.addQ P K c' x) : c = c' :=
  add_inj (x := x) hR hc hc' (by rw [Fd.addQ_comm hR x c, Fd.addQ_comm hR x c']; exact h)
theorem mul_injr {P K : Nat} {m : Nat → Int} (hF : Fd.FieldQ P K m) {a b e : Nat} (ha : a < P ^ K) (hb : b < P ^ K) (he : e < P ^ K) (h1 : 1 ≤ e) (h : Fd.mulQ P K m a e = Fd.mulQ P K m b e) : a = b := by
  have hi := Fd.inv_ok hF h1 he
  have e1 : Fd.mulQ P K m (Fd.mulQ P K m a e) (Fd.powQ P K m e (P ^ K - 2)) = a := by rw [Fd.mulQ_assoc hF.toRing1, hi, Fd.mulQ_one hF.toRing1 ha]
  have e2 : Fd.mulQ P K m (Fd.mulQ P K m b e) (Fd.powQ P K m e (P ^ K - 2)) = b := by rw [Fd.mulQ_assoc hF.toRing1, hi, Fd.mulQ_one hF.toRing1 hb]
  rw [← e1, ← e2, h]
theorem lat_F {P K a : Nat} {l : List Int} (hG : Fd.GoodF P K l) (ha : 1 ≤ a) (haq : a < P ^ K) : Lat (P ^ K) (sqF P K l a) := by
  have hR := hG.field.toRing1
  refine ⟨fun i j _ _ => Fd.addQ_lt hR _ _, fun i _ j k hj hk h => add_inj hR hj hk h, fun j _ i k hi hk h => ?_⟩
  have h1 := add_injl hR (Fd.mulQ_lt hR a i) (Fd.mulQ_lt hR a k) h
  rw [Fd.mulQ_comm hR a i, Fd.mulQ_comm hR a k] at h1
  exact mul_injr hG.field hi hk haq ha h1
end Go.Proofs.YtjfjdidibglhaabDoor

namespace Go.Proofs.YtjfjdidibglhaabDoor
open Go.RowKit

theorem raT {n : Nat} {P : Nat → Bool} (h : (List.range n).all P = true) {a : Nat} (ha : a < n) : P a = true := List.all_eq_true.1 h a (List.mem_range.2 ha)
theorem rxT {n : Nat} {P : Nat → Bool} (h : (List.range n).any P = true) : ∃ a, a < n ∧ P a = true := by
  obtain ⟨a, ha, k⟩ := List.any_eq_true.1 h
  exact ⟨a, List.mem_range.1 ha, k⟩
/-- The fields of 3, 4 and 5 elements. -/
def f5T : List (Nat × Nat × List Int) := [(3, 1, [0]), (3, 1, [1]), (3, 1, [2]), (5, 1, [0]), (5, 1, [1]), (5, 1, [2]), (5, 1, [3]), (5, 1, [4]), (2, 2, [1, 1])]
theorem no_genT (l : List Int) (h : ((List.range 4).all fun g => (List.range 3).any fun a => (List.range 3).all fun i => Fd.powQ 2 2 (Fd.monL l) g i != a + 1) = true) : ¬ Fd.FieldQ 2 2 (Fd.monL l) := fun hf => by
  obtain ⟨g, hg, hall, _⟩ := hf.gen
  obtain ⟨a, ha, k⟩ := rxT (raT h (show g < 4 from hg))
  obtain ⟨i, hi, e⟩ := hall (a + 1) (by omega) (show a + 1 < 2 ^ 2 by omega)
  have := raT k (show i < 3 from hi)
  rw [e] at this
  exact absurd rfl (bne_iff_ne.1 this)
theorem good_fiveT {P K : Nat} {l : List Int} (hG : Fd.GoodF P K l) (h3 : 3 ≤ P ^ K) (h5 : P ^ K ≤ 5) : (P, K, l) ∈ f5T := by
  obtain ⟨P', K', e1, e2, hP, _, hK, _, _, _, hlen, hmi, _, hpr⟩ := Fd.good_parts hG.fault
  obtain rfl : P = P' := by omega
  obtain rfl : K = K' := by omega
  have hf := hG.field
  have hP0 : 0 < P := Nat.lt_of_lt_of_le (by decide) hP
  have hP5 : P ≤ 5 := Nat.le_trans (Nat.le_trans (Nat.le_of_eq (Nat.pow_one P).symm) (Nat.pow_le_pow_right hP0 hK)) h5
  have hK2 : K ≤ 2 := by
    refine Nat.le_of_not_lt fun h => ?_
    have h1 : 2 ^ 3 ≤ P ^ 3 := Nat.pow_le_pow_left hP 3
    have h2 : P ^ 3 ≤ P ^ K := Nat.pow_le_pow_right hP0 h
    omega
  rcases (show K = 1 ∨ K = 2 by omega) with rfl | rfl
  · match l, hlen with
    | [c], _ =>
      have h0 := hmi 0
      have e0 : Fd.monL [c] 0 = c := rfl
      rw [e0] at h0
      rcases (show P = 2 ∨ P = 3 ∨ P = 4 ∨ P = 5 by omega) with rfl | rfl | rfl | rfl
      · exact absurd h3 (by decide)
      · rcases (show c = 0 ∨ c = 1 ∨ c = 2 by omega) with rfl | rfl | rfl <;> decide
      · exact absurd hpr (by decide)
      · rcases (show c = 0 ∨ c = 1 ∨ c = 2 ∨ c = 3 ∨ c = 4 by omega) with rfl | rfl | rfl | rfl | rfl <;> decide
  · obtain rfl : P = 2 := by
      refine Nat.le_antisymm (Nat.le_of_not_lt fun h => ?_) hP
      have h1 : 3 ^ 2 ≤ P ^ 2 := Nat.pow_le_pow_left h 2
      omega
    match l, hlen with
    | [c, d], _ =>
      have h0 := hmi 0
      have h1 := hmi 1
      have e0 : Fd.monL [c, d] 0 = c := rfl
      have e1 : Fd.monL [c, d] 1 = d := rfl
      rw [e0] at h0
      rw [e1] at h1
      rcases (show c = 0 ∨ c = 1 by omega) with rfl | rfl <;> rcases (show d = 0 ∨ d = 1 by omega) with rfl | rfl
      · exact absurd hf (no_genT _ (by decide +kernel))
      · exact absurd hf (no_genT _ (by decide +kernel))
      · exact absurd hf (no_genT _ (by decide +kernel))
      · decide
/-- The runs of the squares of a field, row by row, as they are told by multiplication. -/
def rqT (q : Nat) : List (List Nat) := match q with
  | 3 => (List.range 9).map fun j => [j / 3, j % 3, (j / 3 + j % 3) % 3, (2 * (j / 3) + j % 3) % 3]
  | 4 => (List.range 16).map fun j => [j / 4, j % 4, (j / 4) ^^^ (j % 4), ([0, 2, 3, 1].getD (j / 4) 0) ^^^ (j % 4), ([0, 3, 1, 2].getD (j / 4) 0) ^^^ (j % 4)]
  | 5 => (List.range 25).map fun j => [j / 5, j % 5, (j / 5 + j % 5) % 5, (2 * (j / 5) + j % 5) % 5, (3 * (j / 5) + j % 5) % 5, (4 * (j / 5) + j % 5) % 5]
  | _ => []
/-- The squares, and their runs. -/
def qsT (P K : Nat) (l : List Int) (a : Nat) : List (Int × List Int) := (List.range a).map fun i => (((P ^ K : Nat) : Int), (madeL P K l (i + 1)).map Int.ofNat)
def f5C (f : Nat × Nat × List Int) : Bool :=
  let q := f.1 ^ f.2.1
  decide (q = 3 ∨ q = 4 ∨ q = 5) && (List.range (q - 1)).all fun i => madeL f.1 f.2.1 f.2.2 (i + 1) == (rqT q).map fun r => r.getD (i + 2) 0
theorem f5_allT : f5T.all f5C = true := by decide +kernel
end Go.Proofs.YtjfjdidibglhaabDoor
