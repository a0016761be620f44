/- The walk of filled. -/
import Derived.Test.YtamdpcajfgbagaaDoorH2
import Derived.Deep.AppendLies
import Derived.Laws.ResultCell
import Derived.Laws.Rows
namespace Go.Proofs.YtamdpcajfgbagaaDoor
open Go.RowKit

def vi (l : List Int) : List Value := l.map (Value.int .i64)
theorem fl_succ {n : Nat} (t : Nat → Nat → Int) {r c : Nat} (hc : c < n) : vi (flI n t (r * n + c + 1)) = vi (flI n t (r * n + c)) ++ [.int .i64 (t r c)] := by
  rw [flI_succ t hc]; simp [vi]
theorem run_make0 (n : Nat) (hn : n ≤ 100000000) (w : World) : (Instr.makeSlice 22 (.int .i64 0) (.int .i64 (n : Int))).run Tryd.prog w = .ok (.slice (some ⟨w.heap.size, 0, none⟩) 0 n) (w.alloc (.cells (madeCells #[.int .i64 0] n) 3)) := by
  obtain ⟨i3, hi, hz0, hz1, hz2⟩ := info3
  have h := run_make (P := Tryd.prog) w 22 3 i3 (.int .i64 0) und22 hi hz0 .i64 .i64 0 n (by omega) (by omega) (by rw [hz2]; omega) (by omega)
  simpa [hz1, Value.cells] using h
theorem own_diff {w : World} {base n g : Nat} {v : Value} {xs : List Value} {cs : Array Value} (h : w.ownsRow base 3 1 v n xs) (hg : w.heap[g]? = some (.cells cs 24 (0, 0))) : v.ownBlock ≠ some g := by
  obtain ⟨_, ⟨rfl, _⟩ | ⟨g', cap, cur, rfl, _, h7, _⟩⟩ := h
  · intro e; cases e
  · intro e
    obtain rfl : g' = g := by simpa [Value.ownBlock] using e
    rw [hg] at h7
    simp at h7

theorem orow_below {w w' : World} {base n : Nat} {e : TypeId} {size : Nat} {v : Value} {xs : List Value} (h : w.ownsRow base e size v n xs) (hb : Below w.heap.size w w') : w'.ownsRow base e size v n xs := by
  obtain ⟨h3, h4 | ⟨g, cap, cur, h5, h6, h7, h8⟩⟩ := h
  · exact ⟨h3, .inl h4⟩
  · exact ⟨h3, .inr ⟨g, cap, cur, h5, h6, (hb.block g (Array.getElem?_eq_some_iff.1 h7).1).trans h7, h8⟩⟩
theorem orow_other {w : World} {base n : Nat} {e : TypeId} {size : Nat} {v : Value} {xs : List Value} (h : w.ownsRow base e size v n xs) (a : Addr) (u : Value) (hne : v.ownBlock ≠ some a.block) : (w.setCell a u).ownsRow base e size v n xs := by
  obtain ⟨h3, h4 | ⟨g, cap, cur, rfl, h6, h7, h8⟩⟩ := h
  · exact ⟨h3, .inl h4⟩
  · exact ⟨h3, .inr ⟨g, cap, cur, rfl, h6, (heap_setCell_other w a g u fun e => hne (by simp [Value.ownBlock, e])).trans h7, h8⟩⟩
theorem post_sq {fn : Func} {R : Ending → World → Prop} {a : Act} {w : World} {g : Nat} {x y : Value} (slot : Tmp) (hres : fn.results = #[.cell slot 24]) (hp : a.tmps.getD slot undef = .pointer (some ⟨g, 0, none⟩)) (hr : w.heap[g]? = some (.cells #[x, y] 24 (0, 0))) (hd : a.defers = []) (hR : R (.returned (.agg #[x, y])) w) : bodyPost Tryd.prog fn R .ret a w :=
  bodyPost_ret (results_cell_row hres a.tmps w g 24 #[x, y] (0, 0) _ hp hr Tryd.underlying24 rfl inf24) hd hR
theorem post_sq2 {fn : Func} {R : Ending → World → Prop} {a : Act} {w : World} {g : Nat} {x y z : Value} (slot u : Tmp) (hres : fn.results = #[.cell slot 24, .tmp u]) (hp : a.tmps.getD slot undef = .pointer (some ⟨g, 0, none⟩)) (hr : w.heap[g]? = some (.cells #[x, y] 24 (0, 0))) (hu : a.tmps.getD u undef = z) (hd : a.defers = []) (hR : R (.returned (.tuple #[.agg #[x, y], z])) w) : bodyPost Tryd.prog fn R .ret a w := by
  refine bodyPost_ret (v := .tuple #[.agg #[x, y], z]) ?_ hd hR
  rw [results_cell_tmp hres, hp, hu]
  have h1 : (asAddr (.pointer (some ⟨g, 0, none⟩))).run Tryd.prog w = .ok ⟨g, 0, none⟩ w := by simp [asAddr]
  rw [h1]
  show ((loadVar 24 ⟨g, 0, none⟩).run Tryd.prog w).andThen _ = _
  rw [run_loadVar_row w g 24 24 #[x, y] (0, 0) _ hr Tryd.underlying24 rfl inf24]
  rfl
theorem news_one (w : World) (u : Value) : ∀ j v, [u][j]? = some v → (w.alloc (.cells #[u] 3)).cell? ((⟨w.heap.size, 0, none⟩ : Addr).add j) = some v := fun j v hj => by
  match j, hj with
  | 0, hj =>
    simp only [List.getElem?_cons_zero, Option.some.injEq] at hj
    subst hj
    rw [Addr.add_mid, cell_of_row _ _ _ _ _ _ (heap_alloc_new w _)]
    rfl
set_option maxRecDepth 100000 in
set_option maxHeartbeats 8000000 in
theorem filled_any (n : Nat) (t : Nat → Nat → Int) (v : Value) (w : World) (h1 : 1 ≤ n) (hn : n ≤ 8 * 3) (hT : Teller v n n t w) :
    Calls Tryd.prog 16 #[.int .i64 (n : Int), v] w fun e w' => (∃ y, e = .returned (.agg #[.int .i64 (n : Int), y]) ∧ w'.ownsRow w.heap.size 3 1 y (n * n) (vi (flI n t (n * n)))) ∧ Below w.heap.size w w' := by
  obtain ⟨i3, ti, tz0, tz1, tz2⟩ := info3
  have HI3 : Hid (Tryd.prog.info? 3 = some i3 ∧ i3.zero = some (.int .i64 0) ∧ i3.size = 1 ∧ i3.bytes = 8) := ⟨ti, tz0, tz1, tz2⟩
  clear ti tz0 tz1 tz2
  obtain ⟨g, lb, rfl, eg, hT⟩ := hT
  have HT : Hid (TellAt g lb n n t w) := hT
  obtain ⟨z, Hz⟩ : ∃ z, Hid (z = n * n) := ⟨_, (rfl : n * n = n * n)⟩
  have hz99 : z ≤ 999 := by rw [Hz.out]; exact Nat.le_trans (Nat.mul_le_mul hn hn) (by decide)
  have hmul : (n : Int) * (n : Int) = (z : Int) := by rw [Hz.out]; simp
  have hmk := run_make0 z (by omega)
  clear hT
  rw [← Hz.out]
  go_enter Tryd.func16, Tryd.ntmps16

  go_wp2
  go_loopw [15] (fun i_ wr => ∃ (r k : Nat) (o : Value), i_ = .int .i64 (r : Int) ∧ r ≤ n ∧ Hid (k = r * n) ∧ wr.heap[w.heap.size]? = some (.cells #[.int .i64 0, .slice none 0 0] 24 (0, 0)) ∧ wr.heap[w.heap.size + 1 + 1]? = some (.cells #[.int .i64 (n : Int), o] 24 (0, 0)) ∧ wr.ownsRow w.heap.size 3 1 o k (vi (flI n t k)) ∧ Below w.heap.size w wr) (fun i _ => (n - intOf i).toNat)
  case atStart =>
    refine ⟨0, 0, .slice (some ⟨w.heap.size + 1, 0, none⟩) 0 z, rfl, by omega, (by omega : 0 = 0 * n), (Below.heap_alloc _ _ _ (by simp; omega)).trans ((Below.heap_alloc _ _ _ (by simp)).trans (heap_alloc_new w _)), ?_, ?_, Below.next (Below.next (balloc _ _) (balloc _ _)) (balloc _ _)⟩
    · have := heap_alloc_new ((w.alloc (.cells #[.int .i64 0, .slice none 0 0] 24)).alloc (.cells (madeCells #[.int .i64 0] z) 3)) (.cells #[.int .i64 (n : Int), .slice (some ⟨w.heap.size + 1, 0, none⟩) 0 z] 24)
      simpa using this
    · refine ⟨rfl, .inr ⟨w.heap.size + 1, z, _, rfl, by omega, (Below.heap_alloc _ _ _ (by simp)).trans (by have := heap_alloc_new (w.alloc (.cells #[.int .i64 0, .slice none 0 0] 24)) (.cells (madeCells #[.int .i64 0] z) 3); simpa using this), by omega, by unfold maxLen; omega, by rw [size_madeCells]; simp, rfl⟩⟩
  case round =>
    obtain ⟨r, k, o, rfl, hr, Hk, hR, hO, hW, hB⟩ := hrel
    by_cases hlt : r < n
    · have hdr : decide ((r : Int) < (n : Int)) = true := by simp; omega
      go_wp2
      go_loopw [19] (fun i_ wr => ∃ (c k : Nat) (o : Value), i_ = .int .i64 (c : Int) ∧ c ≤ n ∧ Hid (k = r * n + c) ∧ wr.heap[w.heap.size]? = some (.cells #[.int .i64 0, .slice none 0 0] 24 (0, 0)) ∧ wr.heap[w.heap.size + 1 + 1]? = some (.cells #[.int .i64 (n : Int), o] 24 (0, 0)) ∧ wr.ownsRow w.heap.size 3 1 o k (vi (flI n t k)) ∧ Below w.heap.size w wr) (fun i _ => (n - intOf i).toNat)
      case atStart => exact ⟨0, k, o, rfl, by omega, Hk, hR, hO, hW, hB⟩
      case round =>
        clear hR hO hW hB Hk
        obtain ⟨c, k, o, rfl, hc, Hk, hR, hO, hW, hB⟩ := hrel
        by_cases hlc : c < n
        · have hdc : decide ((c : Int) < (n : Int)) = true := by simp; omega
          have hk99 : k ≤ 999 := by rw [Hk.out]; have := cell_ltH hlt hlc; rw [← Hz.out] at this; omega
          have D1 := HT.out _ hB.drew r c hlt hlc
          have Hk2 : Hid (k + 1 = r * n + (c + 1)) := by show _ = _; rw [Hk.out]; omega
          have HFL : Hid (vi (flI n t (k + 1)) = vi (flI n t k) ++ [.int .i64 (t r c)]) := by show _ = _; rw [Hk.out]; exact fl_succ t hlc
          obtain ⟨x, Hx⟩ : ∃ x, Hid (t r c = x) := ⟨_, rfl⟩
          rw [Hx.out] at D1 HFL
          have hc0 : wr.cell? ⟨w.heap.size + 1 + 1, 1, none⟩ = some o := by rw [cell_of_row _ _ _ _ _ _ hO]; rfl
          have hlO : w.heap.size + 1 + 1 < wr.heap.size := (Array.getElem?_eq_some_iff.1 hO).1
          obtain ⟨fl, Hfl⟩ : ∃ fl, Hid (vi (flI n t k) = fl) := ⟨_, rfl⟩
          rw [Hfl.out] at hW HFL
          have HSZ : Hid (w.heap.size + 1 + 1 < wr.heap.size) := hlO
          clear Hk
          go_wp2_with fail
          refine wp_region_noPanic ?_
          refine wp_region_held_drew (S := fun _ => True) (by kernel_rfl) (trivial) (fun hSx => ?_)
          refine wpAnyH_take (i := 0) (v := .pointer (some ⟨w.heap.size + 1 + 1, 1, none⟩)) rfl (by kernel_rfl) (by kernel_rfl) (by kernel_rfl) (fun _ _ _ h => h) (Or.inl ⟨by rfl, fun w' hSw => by (try dsimp only at hSw); go_simp⟩) trivial ?_
          try simp only [Act.put, List.setIfInBounds_toArray]
          refine wpAnyH_take (i := 2) (v := .func (.func g) #[] lb) rfl (by kernel_rfl) (by kernel_rfl) (by kernel_rfl) (fun _ _ _ h => h) (Or.inl ⟨by rfl, fun w' hSw => by (try dsimp only at hSw); go_simp⟩) trivial ?_
          try simp only [Act.put]
          refine wpAnyH_take (i := 3) (v := .int .i64 (r : Int)) rfl (by kernel_rfl) (by kernel_rfl) (by kernel_rfl) (fun _ _ _ h => h) (Or.inl ⟨by rfl, fun w' hSw => by (try dsimp only at hSw); go_simp⟩) trivial ?_
          try simp only [Act.put]
          refine wpAnyH_take (i := 4) (v := .int .i64 (c : Int)) rfl (by kernel_rfl) (by kernel_rfl) (by kernel_rfl) (fun _ _ _ h => h) (Or.inl ⟨by rfl, fun w' hSw => by (try dsimp only at hSw); go_simp⟩) trivial ?_
          try simp only [Act.put]
          refine wpAnyH_ready (rs := [1, 5]) (by kernel_rfl) (by simp) ?_
          refine AllReadyH.cons rfl (fun J hJ => ?_) (AllReadyH.cons rfl (fun J hJ => ?_) AllReadyH.nil)
          · go_simp
            refine hJ.out _ _ trivial (fun _ => ?_)
            clear hJ J
            try simp only [Act.put, List.setIfInBounds_toArray, List.set_cons_zero, List.set_cons_succ]
            refine wpAnyH_ready (rs := [5]) (by kernel_rfl) (by simp) ?_
            refine AllReadyH.cons rfl (fun J hJ => ?_) AllReadyH.nil
            go_simp
            go_at_fn g
            refine D1.mono ?_
            rintro e w5 ⟨rfl, b5⟩
            have b5' := Below.next (Below.refl _ wr).drew b5
            have hR5 := (b5'.block _ (by have := HSZ.out; omega)).trans hR
            have hO5 := (b5'.block _ HSZ.out).trans hO
            have hW5 := orow_below hW b5'
            have hc5 : w5.cell? ⟨w.heap.size + 1 + 1, 1, none⟩ = some o := by rw [cell_of_row _ _ _ _ _ _ hO5]; rfl
            have hB5 := Below.next hB b5'
            have hs5 := hB5.size
            have hl5 : w.heap.size + 1 + 1 < w5.heap.size := (Array.getElem?_eq_some_iff.1 hO5).1
            clear D1
            go_wp2_with fail
            refine hJ.out _ _ trivial (fun _ => ?_)
            clear hJ J
            try simp only [Act.put, List.setIfInBounds_toArray, List.set_cons_zero, List.set_cons_succ]
            refine wpAnyH_ready (rs := [6]) (by kernel_rfl) (by simp) ?_
            refine AllReadyH.cons rfl (fun J hJ => ?_) AllReadyH.nil
            go_simp
            have hR6 := (balloc w5 (.cells #[.int .i64 x] 3)).block _ (show w.heap.size < w5.heap.size by omega)
            have hO6 := (balloc w5 (.cells #[.int .i64 x] 3)).block _ hl5
            have hc6 : (w5.alloc (.cells #[.int .i64 x] 3)).cell? ⟨w.heap.size + 1 + 1, 1, none⟩ = some o := by rw [cell_of_row _ _ _ _ _ _ (hO6.trans hO5)]; rfl
            refine hJ.out _ _ trivial (fun _ => ?_)
            clear hJ J
            try simp only [Act.put, List.setIfInBounds_toArray, List.set_cons_zero, List.set_cons_succ]
            refine wpAnyH_ready (rs := [7]) (by kernel_rfl) (by simp) ?_
            refine AllReadyH.cons rfl (fun J hJ => ?_) AllReadyH.nil
            rw [if_pos (by rfl)]
            refine wp_append_lies _ _ _ 22 rfl w.heap.size 3 i3 (.int .i64 0) 1 8 und22 HI3.out.1 HI3.out.2.1 HI3.out.2.2.1 HI3.out.2.2.2 rfl (by decide) o k fl rfl (hW5.alloc _) ⟨w5.heap.size, 0, none⟩ 1 1 [.int .i64 x] rfl rfl (news_one w5 _) (fun u hu => by simp at hu; subst hu; rfl) (by decide) (by unfold maxLen; omega) (by omega) (by simp; omega) _ rfl ?_
            intro og oc w7 hW7 hg7 _ _
            have hR7 := (hg7.block w.heap.size (by simp; omega) (fun e => own_diff hW5 hR5 e.symm)).trans (hR6.trans hR5)
            have hO7 := (hg7.block (w.heap.size + 1 + 1) (by simp; omega) (fun e => own_diff hW5 hO5 e.symm)).trans (hO6.trans hO5)
            have hB7 : Below w.heap.size w w7 := (Below.next hB5 (balloc w5 _)).grown hg7 (by simp; omega) (fun j hj => by
              obtain ⟨_, ⟨rfl, _⟩ | ⟨g', cap, cur, rfl, h8, _⟩⟩ := id hW5
              · cases hj
              · obtain rfl : g' = j := by simpa [Value.ownBlock] using hj
                exact h8)
            have hf7 : w7.frozen? ⟨w.heap.size + 1 + 1, 1, none⟩ = false := frozen_of_row w7 _ 1 _ _ hO7
            have hq7 : w7.cell? ⟨w.heap.size + 1 + 1, 1, none⟩ = some o := by rw [cell_of_row _ _ _ _ _ _ hO7]; rfl
            refine hJ.out _ _ trivial (fun _ => ?_)
            clear hJ J
            try simp only [Act.put, List.setIfInBounds_toArray]
            refine wpAnyH_take (i := 8) (v := .pointer (some ⟨w.heap.size + 1 + 1, 1, none⟩)) rfl (by kernel_rfl) (by kernel_rfl) (by kernel_rfl) (fun _ _ _ h => h) (Or.inl ⟨by rfl, fun w' hSw => by (try dsimp only at hSw); go_simp⟩) trivial ?_
            try simp only [Act.put]
            refine wpAnyH_ready (rs := [9]) (by kernel_rfl) (by simp) ?_
            refine AllReadyH.cons rfl (fun J hJ => ?_) AllReadyH.nil
            go_simp
            refine hJ.out _ _ trivial (fun _ => ?_)
            clear hJ J
            try simp only [Act.put, List.setIfInBounds_toArray, List.set_cons_zero, List.set_cons_succ]
            refine wpAnyH_done (by kernel_rfl) ?_ _
            refine NoPanic.normal ?_
            have hW8 := orow_other hW7 ⟨w.heap.size + 1 + 1, 1, none⟩ (.slice (some ⟨og, 0, none⟩) (k + 1) oc) (own_diff hW7 hO7)
            have hO8 : (w7.setCell ⟨w.heap.size + 1 + 1, 1, none⟩ (.slice (some ⟨og, 0, none⟩) (k + 1) oc)).heap[w.heap.size + 1 + 1]? = some (.cells #[.int .i64 (n : Int), .slice (some ⟨og, 0, none⟩) (k + 1) oc] 24 (0, 0)) := by rw [heap_setCell_same w7 _ 1 _ _ _ hO7]; rfl
            have hR8 := (heap_setCell_other w7 ⟨w.heap.size + 1 + 1, 1, none⟩ w.heap.size (.slice (some ⟨og, 0, none⟩) (k + 1) oc) (by show w.heap.size ≠ w.heap.size + 1 + 1; omega)).trans hR7
            have hB8 := hB7.setCell (p := ⟨w.heap.size + 1 + 1, 1, none⟩) (by show w.heap.size ≤ w.heap.size + 1 + 1; omega) (.slice (some ⟨og, 0, none⟩) (k + 1) oc)
            clear hq7 hf7 hc6 hc5 hc0
            go_wp2
            go_roundw
            case rel => exact ⟨c + 1, k + 1, _, by go_num, by omega, Hk2, hR8, hO8, by rw [HFL.out]; exact hW8, hB8⟩
            case measure => simp [intOf]; omega
          · go_simp
            go_at_fn g
            refine D1.mono ?_
            rintro e w5 ⟨rfl, b5⟩
            have b5' := Below.next (Below.refl _ wr).drew b5
            have hR5 := (b5'.block _ (by have := HSZ.out; omega)).trans hR
            have hO5 := (b5'.block _ HSZ.out).trans hO
            have hW5 := orow_below hW b5'
            have hc5 : w5.cell? ⟨w.heap.size + 1 + 1, 1, none⟩ = some o := by rw [cell_of_row _ _ _ _ _ _ hO5]; rfl
            have hB5 := Below.next hB b5'
            have hs5 := hB5.size
            have hl5 : w.heap.size + 1 + 1 < w5.heap.size := (Array.getElem?_eq_some_iff.1 hO5).1
            clear D1
            go_wp2_with fail
            refine hJ.out _ _ trivial (fun _ => ?_)
            clear hJ J
            try simp only [Act.put, List.setIfInBounds_toArray, List.set_cons_zero, List.set_cons_succ]
            refine wpAnyH_ready (rs := [1, 6]) (by kernel_rfl) (by simp) ?_
            refine AllReadyH.cons rfl (fun J hJ => ?_) (AllReadyH.cons rfl (fun J hJ => ?_) AllReadyH.nil)
            · go_simp
              refine hJ.out _ _ trivial (fun _ => ?_)
              clear hJ J
              try simp only [Act.put, List.setIfInBounds_toArray, List.set_cons_zero, List.set_cons_succ]
              refine wpAnyH_ready (rs := [6]) (by kernel_rfl) (by simp) ?_
              refine AllReadyH.cons rfl (fun J hJ => ?_) AllReadyH.nil
              go_simp
              have hR6 := (balloc w5 (.cells #[.int .i64 x] 3)).block _ (show w.heap.size < w5.heap.size by omega)
              have hO6 := (balloc w5 (.cells #[.int .i64 x] 3)).block _ hl5
              have hc6 : (w5.alloc (.cells #[.int .i64 x] 3)).cell? ⟨w.heap.size + 1 + 1, 1, none⟩ = some o := by rw [cell_of_row _ _ _ _ _ _ (hO6.trans hO5)]; rfl
              refine hJ.out _ _ trivial (fun _ => ?_)
              clear hJ J
              try simp only [Act.put, List.setIfInBounds_toArray, List.set_cons_zero, List.set_cons_succ]
              refine wpAnyH_ready (rs := [7]) (by kernel_rfl) (by simp) ?_
              refine AllReadyH.cons rfl (fun J hJ => ?_) AllReadyH.nil
              rw [if_pos (by rfl)]
              refine wp_append_lies _ _ _ 22 rfl w.heap.size 3 i3 (.int .i64 0) 1 8 und22 HI3.out.1 HI3.out.2.1 HI3.out.2.2.1 HI3.out.2.2.2 rfl (by decide) o k fl rfl (hW5.alloc _) ⟨w5.heap.size, 0, none⟩ 1 1 [.int .i64 x] rfl rfl (news_one w5 _) (fun u hu => by simp at hu; subst hu; rfl) (by decide) (by unfold maxLen; omega) (by omega) (by simp; omega) _ rfl ?_
              intro og oc w7 hW7 hg7 _ _
              have hR7 := (hg7.block w.heap.size (by simp; omega) (fun e => own_diff hW5 hR5 e.symm)).trans (hR6.trans hR5)
              have hO7 := (hg7.block (w.heap.size + 1 + 1) (by simp; omega) (fun e => own_diff hW5 hO5 e.symm)).trans (hO6.trans hO5)
              have hB7 : Below w.heap.size w w7 := (Below.next hB5 (balloc w5 _)).grown hg7 (by simp; omega) (fun j hj => by
                obtain ⟨_, ⟨rfl, _⟩ | ⟨g', cap, cur, rfl, h8, _⟩⟩ := id hW5
                · cases hj
                · obtain rfl : g' = j := by simpa [Value.ownBlock] using hj
                  exact h8)
              have hf7 : w7.frozen? ⟨w.heap.size + 1 + 1, 1, none⟩ = false := frozen_of_row w7 _ 1 _ _ hO7
              have hq7 : w7.cell? ⟨w.heap.size + 1 + 1, 1, none⟩ = some o := by rw [cell_of_row _ _ _ _ _ _ hO7]; rfl
              refine hJ.out _ _ trivial (fun _ => ?_)
              clear hJ J
              try simp only [Act.put, List.setIfInBounds_toArray]
              refine wpAnyH_take (i := 8) (v := .pointer (some ⟨w.heap.size + 1 + 1, 1, none⟩)) rfl (by kernel_rfl) (by kernel_rfl) (by kernel_rfl) (fun _ _ _ h => h) (Or.inl ⟨by rfl, fun w' hSw => by (try dsimp only at hSw); go_simp⟩) trivial ?_
              try simp only [Act.put]
              refine wpAnyH_ready (rs := [9]) (by kernel_rfl) (by simp) ?_
              refine AllReadyH.cons rfl (fun J hJ => ?_) AllReadyH.nil
              go_simp
              refine hJ.out _ _ trivial (fun _ => ?_)
              clear hJ J
              try simp only [Act.put, List.setIfInBounds_toArray, List.set_cons_zero, List.set_cons_succ]
              refine wpAnyH_done (by kernel_rfl) ?_ _
              refine NoPanic.normal ?_
              have hW8 := orow_other hW7 ⟨w.heap.size + 1 + 1, 1, none⟩ (.slice (some ⟨og, 0, none⟩) (k + 1) oc) (own_diff hW7 hO7)
              have hO8 : (w7.setCell ⟨w.heap.size + 1 + 1, 1, none⟩ (.slice (some ⟨og, 0, none⟩) (k + 1) oc)).heap[w.heap.size + 1 + 1]? = some (.cells #[.int .i64 (n : Int), .slice (some ⟨og, 0, none⟩) (k + 1) oc] 24 (0, 0)) := by rw [heap_setCell_same w7 _ 1 _ _ _ hO7]; rfl
              have hR8 := (heap_setCell_other w7 ⟨w.heap.size + 1 + 1, 1, none⟩ w.heap.size (.slice (some ⟨og, 0, none⟩) (k + 1) oc) (by show w.heap.size ≠ w.heap.size + 1 + 1; omega)).trans hR7
              have hB8 := hB7.setCell (p := ⟨w.heap.size + 1 + 1, 1, none⟩) (by show w.heap.size ≤ w.heap.size + 1 + 1; omega) (.slice (some ⟨og, 0, none⟩) (k + 1) oc)
              clear hq7 hf7 hc6 hc5 hc0
              go_wp2
              go_roundw
              case rel => exact ⟨c + 1, k + 1, _, by go_num, by omega, Hk2, hR8, hO8, by rw [HFL.out]; exact hW8, hB8⟩
              case measure => simp [intOf]; omega
            · go_simp
              have hR6 := (balloc w5 (.cells #[.int .i64 x] 3)).block _ (show w.heap.size < w5.heap.size by omega)
              have hO6 := (balloc w5 (.cells #[.int .i64 x] 3)).block _ hl5
              have hc6 : (w5.alloc (.cells #[.int .i64 x] 3)).cell? ⟨w.heap.size + 1 + 1, 1, none⟩ = some o := by rw [cell_of_row _ _ _ _ _ _ (hO6.trans hO5)]; rfl
              refine hJ.out _ _ trivial (fun _ => ?_)
              clear hJ J
              try simp only [Act.put, List.setIfInBounds_toArray, List.set_cons_zero, List.set_cons_succ]
              refine wpAnyH_ready (rs := [1]) (by kernel_rfl) (by simp) ?_
              refine AllReadyH.cons rfl (fun J hJ => ?_) AllReadyH.nil
              go_simp
              refine hJ.out _ _ trivial (fun _ => ?_)
              clear hJ J
              try simp only [Act.put, List.setIfInBounds_toArray, List.set_cons_zero, List.set_cons_succ]
              refine wpAnyH_ready (rs := [7]) (by kernel_rfl) (by simp) ?_
              refine AllReadyH.cons rfl (fun J hJ => ?_) AllReadyH.nil
              rw [if_pos (by rfl)]
              refine wp_append_lies _ _ _ 22 rfl w.heap.size 3 i3 (.int .i64 0) 1 8 und22 HI3.out.1 HI3.out.2.1 HI3.out.2.2.1 HI3.out.2.2.2 rfl (by decide) o k fl rfl (hW5.alloc _) ⟨w5.heap.size, 0, none⟩ 1 1 [.int .i64 x] rfl rfl (news_one w5 _) (fun u hu => by simp at hu; subst hu; rfl) (by decide) (by unfold maxLen; omega) (by omega) (by simp; omega) _ rfl ?_
              intro og oc w7 hW7 hg7 _ _
              have hR7 := (hg7.block w.heap.size (by simp; omega) (fun e => own_diff hW5 hR5 e.symm)).trans (hR6.trans hR5)
              have hO7 := (hg7.block (w.heap.size + 1 + 1) (by simp; omega) (fun e => own_diff hW5 hO5 e.symm)).trans (hO6.trans hO5)
              have hB7 : Below w.heap.size w w7 := (Below.next hB5 (balloc w5 _)).grown hg7 (by simp; omega) (fun j hj => by
                obtain ⟨_, ⟨rfl, _⟩ | ⟨g', cap, cur, rfl, h8, _⟩⟩ := id hW5
                · cases hj
                · obtain rfl : g' = j := by simpa [Value.ownBlock] using hj
                  exact h8)
              have hf7 : w7.frozen? ⟨w.heap.size + 1 + 1, 1, none⟩ = false := frozen_of_row w7 _ 1 _ _ hO7
              have hq7 : w7.cell? ⟨w.heap.size + 1 + 1, 1, none⟩ = some o := by rw [cell_of_row _ _ _ _ _ _ hO7]; rfl
              refine hJ.out _ _ trivial (fun _ => ?_)
              clear hJ J
              try simp only [Act.put, List.setIfInBounds_toArray]
              refine wpAnyH_take (i := 8) (v := .pointer (some ⟨w.heap.size + 1 + 1, 1, none⟩)) rfl (by kernel_rfl) (by kernel_rfl) (by kernel_rfl) (fun _ _ _ h => h) (Or.inl ⟨by rfl, fun w' hSw => by (try dsimp only at hSw); go_simp⟩) trivial ?_
              try simp only [Act.put]
              refine wpAnyH_ready (rs := [9]) (by kernel_rfl) (by simp) ?_
              refine AllReadyH.cons rfl (fun J hJ => ?_) AllReadyH.nil
              go_simp
              refine hJ.out _ _ trivial (fun _ => ?_)
              clear hJ J
              try simp only [Act.put, List.setIfInBounds_toArray, List.set_cons_zero, List.set_cons_succ]
              refine wpAnyH_done (by kernel_rfl) ?_ _
              refine NoPanic.normal ?_
              have hW8 := orow_other hW7 ⟨w.heap.size + 1 + 1, 1, none⟩ (.slice (some ⟨og, 0, none⟩) (k + 1) oc) (own_diff hW7 hO7)
              have hO8 : (w7.setCell ⟨w.heap.size + 1 + 1, 1, none⟩ (.slice (some ⟨og, 0, none⟩) (k + 1) oc)).heap[w.heap.size + 1 + 1]? = some (.cells #[.int .i64 (n : Int), .slice (some ⟨og, 0, none⟩) (k + 1) oc] 24 (0, 0)) := by rw [heap_setCell_same w7 _ 1 _ _ _ hO7]; rfl
              have hR8 := (heap_setCell_other w7 ⟨w.heap.size + 1 + 1, 1, none⟩ w.heap.size (.slice (some ⟨og, 0, none⟩) (k + 1) oc) (by show w.heap.size ≠ w.heap.size + 1 + 1; omega)).trans hR7
              have hB8 := hB7.setCell (p := ⟨w.heap.size + 1 + 1, 1, none⟩) (by show w.heap.size ≤ w.heap.size + 1 + 1; omega) (.slice (some ⟨og, 0, none⟩) (k + 1) oc)
              clear hq7 hf7 hc6 hc5 hc0
              go_wp2
              go_roundw
              case rel => exact ⟨c + 1, k + 1, _, by go_num, by omega, Hk2, hR8, hO8, by rw [HFL.out]; exact hW8, hB8⟩
              case measure => simp [intOf]; omega
        · have hdc : decide ((c : Int) < (n : Int)) = false := by simp; omega
          obtain rfl : c = n := by omega
          have Hk2 : Hid (k = (r + 1) * c) := by show _ = _; rw [Hk.out, Nat.add_mul]; omega
          clear Hk
          go_wp2
          go_roundw
          case rel => exact ⟨r + 1, k, o, by go_num, by omega, Hk2, hR, hO, hW, hB⟩
          case measure => simp [intOf]; omega
    · have hdr : decide ((r : Int) < (n : Int)) = false := by simp; omega
      obtain rfl : r = n := by omega
      have hkz : k = z := by rw [Hk.out, Hz.out]
      subst hkz
      have a0 : wr.cell? ⟨w.heap.size + 1 + 1, 0, none⟩ = some (.int .i64 (r : Int)) := by rw [cell_of_row _ _ _ _ _ _ hO]; rfl
      have a1 : wr.cell? ⟨w.heap.size + 1 + 1, 1, none⟩ = some o := by rw [cell_of_row _ _ _ _ _ _ hO]; rfl
      have a2 : wr.cell? ⟨w.heap.size, 0, none⟩ = some (.int .i64 0) := by rw [cell_of_row _ _ _ _ _ _ hR]; rfl
      have a3 : wr.cell? ⟨w.heap.size, 1, none⟩ = some (.slice none 0 0) := by rw [cell_of_row _ _ _ _ _ _ hR]; rfl
      have f0 : wr.frozen? ⟨w.heap.size, 0, none⟩ = false := frozen_of_row wr _ 0 _ _ hR
      have f1 : wr.frozen? ⟨w.heap.size, 1, none⟩ = false := frozen_of_row wr _ 1 _ _ hR
      obtain ⟨og, ol, oc, rfl⟩ : ∃ a l c, o = .slice a l c := by
        obtain ⟨_, ⟨e, _⟩ | ⟨g', cap, cur, e, _⟩⟩ := id hW
        · exact ⟨_, _, _, e⟩
        · exact ⟨_, _, _, e⟩
      have hn1 := heap_setCell_same wr w.heap.size 0 _ _ (.int .i64 (r : Int)) hR
      have hn2 := heap_setCell_same _ w.heap.size 1 _ _ (.slice og ol oc) hn1
      have hW2 := orow_other (orow_other hW ⟨w.heap.size, 0, none⟩ (.int .i64 (r : Int)) (own_diff hW hR)) ⟨w.heap.size, 1, none⟩ (.slice og ol oc) (own_diff hW hR)
      go_wp2
      exact post_sq 4 Tryd.results16 rfl hn2 rfl ⟨⟨_, rfl, hW2⟩, (hB.setCell (Nat.le_refl _) _).setCell (Nat.le_refl _) _⟩
theorem own_slice {w : World} {base n : Nat} {e : TypeId} {size : Nat} {v : Value} {xs : List Value} (h : w.ownsRow base e size v n xs) : ∃ a l c, v = .slice a l c := by
  obtain ⟨_, ⟨e, _⟩ | ⟨g', cap, cur, e, _⟩⟩ := h
  · exact ⟨_, _, _, e⟩
  · exact ⟨_, _, _, e⟩
theorem orow_base {w : World} {base base' n : Nat} {e : TypeId} {size : Nat} {v : Value} {xs : List Value} (h : w.ownsRow base e size v n xs) (hb : base' ≤ base) : w.ownsRow base' e size v n xs := by
  obtain ⟨h3, h4 | ⟨g, cap, cur, h5, h6, h7⟩⟩ := h
  · exact ⟨h3, .inl h4⟩
  · exact ⟨h3, .inr ⟨g, cap, cur, h5, Nat.le_trans hb h6, h7⟩⟩
theorem fl_sl {w : World} {base n : Nat} {t : Nat → Nat → Int} {y : Value} (h : w.ownsRow base 3 1 y (n * n) (vi (flI n t (n * n)))) : Sl w y (flI n t (n * n)) := by
  apply Sl.owned (base := base)
  rw [flI_len]
  exact h
end Go.Proofs.YtamdpcajfgbagaaDoor
