/- The walk of Blocks. -/
import Derived.Test.YtlmjlffipinjiabDoorH2
import Derived.Deep.AppendLies
import Derived.Laws.ResultCell
import Derived.Laws.Rows
import Derived.Test.YtlmjlffipinjiabDoorE1
import Derived.Laws.EntriesVeiled
import Derived.Test.YtlmjlffipinjiabDoorDOw
/- The walk of Even. -/
/- The walks of Sylvester, Excess, hadaFact. -/
/- The walk of filled. -/
namespace Go.Proofs.YtlmjlffipinjiabDoor.Hd
open Go.RowKit

def vi (l : List Int) : List Value := l.map (Value.int .i64)
theorem fl_succ {n : Nat} (t : Nat → Nat → Int) {r c : Nat} (hc : c < n) : vi (flI n t (r * n + c + 1)) = vi (flI n t (r * n + c)) ++ [.int .i64 (t r c)] := by
  rw [flI_succ t hc]; simp [vi]
set_option maxRecDepth 100000 in
theorem run_make0 (n : Nat) (hn : n ≤ 100000000) (w : World) : (Instr.makeSlice 22 (.int .i64 0) (.int .i64 (n : Int))).run Tryd.prog w = .ok (.slice (some ⟨w.heap.size, 0, none⟩) 0 n) (w.alloc (.cells (madeCells #[.int .i64 0] n) 3)) := by
  obtain ⟨i3, hi, hz0, hz1, hz2⟩ := info3
  have h := run_make (P := Tryd.prog) w 22 3 i3 (.int .i64 0) und22 hi hz0 .i64 .i64 0 n (by omega) (by omega) (by rw [hz2]; omega) (by omega)
  simpa [hz1, Value.cells] using h
theorem own_diff {w : World} {base n g : Nat} {v : Value} {xs : List Value} {cs : Array Value} (h : w.ownsRow base 3 1 v n xs) (hg : w.heap[g]? = some (.cells cs 27 (0, 0))) : v.ownBlock ≠ some g := by
  obtain ⟨_, ⟨rfl, _⟩ | ⟨g', cap, cur, rfl, _, h7, _⟩⟩ := h
  · intro e; cases e
  · intro e
    obtain rfl : g' = g := by simpa [Value.ownBlock] using e
    rw [hg] at h7
    simp at h7

theorem orow_below {w w' : World} {base n : Nat} {e : TypeId} {size : Nat} {v : Value} {xs : List Value} (h : w.ownsRow base e size v n xs) (hb : Below w.heap.size w w') : w'.ownsRow base e size v n xs := by
  obtain ⟨h3, h4 | ⟨g, cap, cur, h5, h6, h7, h8⟩⟩ := h
  · exact ⟨h3, .inl h4⟩
  · exact ⟨h3, .inr ⟨g, cap, cur, h5, h6, (hb.block g (Array.getElem?_eq_some_iff.1 h7).1).trans h7, h8⟩⟩
theorem orow_other {w : World} {base n : Nat} {e : TypeId} {size : Nat} {v : Value} {xs : List Value} (h : w.ownsRow base e size v n xs) (a : Addr) (u : Value) (hne : v.ownBlock ≠ some a.block) : (w.setCell a u).ownsRow base e size v n xs := by
  obtain ⟨h3, h4 | ⟨g, cap, cur, rfl, h6, h7, h8⟩⟩ := h
  · exact ⟨h3, .inl h4⟩
  · exact ⟨h3, .inr ⟨g, cap, cur, rfl, h6, (heap_setCell_other w a g u fun e => hne (by simp [Value.ownBlock, e])).trans h7, h8⟩⟩
set_option maxRecDepth 100000 in
theorem post_sq {fn : Func} {R : Ending → World → Prop} {a : Act} {w : World} {g : Nat} {x y : Value} (slot : Tmp) (hres : fn.results = #[.cell slot 27]) (hp : a.tmps.getD slot undef = .pointer (some ⟨g, 0, none⟩)) (hr : w.heap[g]? = some (.cells #[x, y] 27 (0, 0))) (hd : a.defers = []) (hR : R (.returned (.agg #[x, y])) w) : bodyPost Tryd.prog fn R .ret a w :=
  bodyPost_ret (results_cell_row hres a.tmps w g 27 #[x, y] (0, 0) _ hp hr Tryd.underlying27 rfl inf24) hd hR
set_option maxRecDepth 100000 in
theorem post_sq2 {fn : Func} {R : Ending → World → Prop} {a : Act} {w : World} {g : Nat} {x y z : Value} (slot u : Tmp) (hres : fn.results = #[.cell slot 27, .tmp u]) (hp : a.tmps.getD slot undef = .pointer (some ⟨g, 0, none⟩)) (hr : w.heap[g]? = some (.cells #[x, y] 27 (0, 0))) (hu : a.tmps.getD u undef = z) (hd : a.defers = []) (hR : R (.returned (.tuple #[.agg #[x, y], z])) w) : bodyPost Tryd.prog fn R .ret a w := by
  refine bodyPost_ret (v := .tuple #[.agg #[x, y], z]) ?_ hd hR
  rw [results_cell_tmp hres, hp, hu]
  have h1 : (asAddr (.pointer (some ⟨g, 0, none⟩))).run Tryd.prog w = .ok ⟨g, 0, none⟩ w := by simp [asAddr]
  rw [h1]
  show ((loadVar 27 ⟨g, 0, none⟩).run Tryd.prog w).andThen _ = _
  rw [run_loadVar_row w g 27 27 #[x, y] (0, 0) _ hr Tryd.underlying27 rfl inf24]
  rfl
theorem news_one (w : World) (u : Value) : ∀ j v, [u][j]? = some v → (w.alloc (.cells #[u] 3)).cell? ((⟨w.heap.size, 0, none⟩ : Addr).add j) = some v := fun j v hj => by
  match j, hj with
  | 0, hj =>
    simp only [List.getElem?_cons_zero, Option.some.injEq] at hj
    subst hj
    rw [Addr.add_mid, cell_of_row _ _ _ _ _ _ (heap_alloc_new w _)]
    rfl
set_option maxRecDepth 100000 in
set_option maxHeartbeats 8000000 in
theorem filled_any (n : Nat) (t : Nat → Nat → Int) (v : Value) (w : World) (h1 : 1 ≤ n) (hn : n ≤ 8 * 3) (hT : Teller v n n t w) :
    Calls Tryd.prog 18 #[.int .i64 (n : Int), v] w fun e w' => (∃ y, e = .returned (.agg #[.int .i64 (n : Int), y]) ∧ w'.ownsRow w.heap.size 3 1 y (n * n) (vi (flI n t (n * n)))) ∧ Below w.heap.size w w' := by
  obtain ⟨i3, ti, tz0, tz1, tz2⟩ := info3
  have HI3 : Hid (Tryd.prog.info? 3 = some i3 ∧ i3.zero = some (.int .i64 0) ∧ i3.size = 1 ∧ i3.bytes = 8) := ⟨ti, tz0, tz1, tz2⟩
  clear ti tz0 tz1 tz2
  obtain ⟨g, lb, rfl, eg, hT⟩ := hT
  have HT : Hid (TellAt g lb n n t w) := hT
  obtain ⟨z, Hz⟩ : ∃ z, Hid (z = n * n) := ⟨_, (rfl : n * n = n * n)⟩
  have hz99 : z ≤ 999 := by rw [Hz.out]; exact Nat.le_trans (Nat.mul_le_mul hn hn) (by decide)
  have hmul : (n : Int) * (n : Int) = (z : Int) := by rw [Hz.out]; simp
  have hmk := run_make0 z (by omega)
  clear hT
  rw [← Hz.out]
  go_enter Tryd.func18, Tryd.ntmps18

  go_wp2
  go_loopw [15] (fun i_ wr => ∃ (r k : Nat) (o : Value), i_ = .int .i64 (r : Int) ∧ r ≤ n ∧ Hid (k = r * n) ∧ wr.heap[w.heap.size]? = some (.cells #[.int .i64 0, .slice none 0 0] 27 (0, 0)) ∧ wr.heap[w.heap.size + 1 + 1]? = some (.cells #[.int .i64 (n : Int), o] 27 (0, 0)) ∧ wr.ownsRow w.heap.size 3 1 o k (vi (flI n t k)) ∧ Below w.heap.size w wr) (fun i _ => (n - intOf i).toNat)
  case atStart =>
    refine ⟨0, 0, .slice (some ⟨w.heap.size + 1, 0, none⟩) 0 z, rfl, by omega, (by omega : 0 = 0 * n), (Below.heap_alloc _ _ _ (by simp; omega)).trans ((Below.heap_alloc _ _ _ (by simp)).trans (heap_alloc_new w _)), ?_, ?_, Below.next (Below.next (balloc _ _) (balloc _ _)) (balloc _ _)⟩
    · have := heap_alloc_new ((w.alloc (.cells #[.int .i64 0, .slice none 0 0] 27)).alloc (.cells (madeCells #[.int .i64 0] z) 3)) (.cells #[.int .i64 (n : Int), .slice (some ⟨w.heap.size + 1, 0, none⟩) 0 z] 27)
      simpa using this
    · refine ⟨rfl, .inr ⟨w.heap.size + 1, z, _, rfl, by omega, (Below.heap_alloc _ _ _ (by simp)).trans (by have := heap_alloc_new (w.alloc (.cells #[.int .i64 0, .slice none 0 0] 27)) (.cells (madeCells #[.int .i64 0] z) 3); simpa using this), by omega, by unfold maxLen; omega, by rw [size_madeCells]; simp, rfl⟩⟩
  case round =>
    obtain ⟨r, k, o, rfl, hr, Hk, hR, hO, hW, hB⟩ := hrel
    by_cases hlt : r < n
    · have hdr : decide ((r : Int) < (n : Int)) = true := by simp; omega
      go_wp2
      go_loopw [19] (fun i_ wr => ∃ (c k : Nat) (o : Value), i_ = .int .i64 (c : Int) ∧ c ≤ n ∧ Hid (k = r * n + c) ∧ wr.heap[w.heap.size]? = some (.cells #[.int .i64 0, .slice none 0 0] 27 (0, 0)) ∧ wr.heap[w.heap.size + 1 + 1]? = some (.cells #[.int .i64 (n : Int), o] 27 (0, 0)) ∧ wr.ownsRow w.heap.size 3 1 o k (vi (flI n t k)) ∧ Below w.heap.size w wr) (fun i _ => (n - intOf i).toNat)
      case atStart => exact ⟨0, k, o, rfl, by omega, Hk, hR, hO, hW, hB⟩
      case round =>
        clear hR hO hW hB Hk
        obtain ⟨c, k, o, rfl, hc, Hk, hR, hO, hW, hB⟩ := hrel
        by_cases hlc : c < n
        · have hdc : decide ((c : Int) < (n : Int)) = true := by simp; omega
          have hk99 : k ≤ 999 := by rw [Hk.out]; have := cell_ltH hlt hlc; rw [← Hz.out] at this; omega
          have D1 := HT.out _ hB.drew r c hlt hlc
          have Hk2 : Hid (k + 1 = r * n + (c + 1)) := by show _ = _; rw [Hk.out]; omega
          have HFL : Hid (vi (flI n t (k + 1)) = vi (flI n t k) ++ [.int .i64 (t r c)]) := by show _ = _; rw [Hk.out]; exact fl_succ t hlc
          obtain ⟨x, Hx⟩ : ∃ x, Hid (t r c = x) := ⟨_, rfl⟩
          rw [Hx.out] at D1 HFL
          have hc0 : wr.cell? ⟨w.heap.size + 1 + 1, 1, none⟩ = some o := by rw [cell_of_row _ _ _ _ _ _ hO]; rfl
          have hlO : w.heap.size + 1 + 1 < wr.heap.size := (Array.getElem?_eq_some_iff.1 hO).1
          obtain ⟨fl, Hfl⟩ : ∃ fl, Hid (vi (flI n t k) = fl) := ⟨_, rfl⟩
          rw [Hfl.out] at hW HFL
          have HSZ : Hid (w.heap.size + 1 + 1 < wr.heap.size) := hlO
          clear Hk
          go_wp2_with fail
          refine wp_region_noPanic ?_
          refine wp_region_held_drew (S := fun _ => True) (by kernel_rfl) (trivial) (fun hSx => ?_)
          refine wpAnyH_take (i := 0) (v := .pointer (some ⟨w.heap.size + 1 + 1, 1, none⟩)) rfl (by kernel_rfl) (by kernel_rfl) (by kernel_rfl) (fun _ _ _ h => h) (Or.inl ⟨by rfl, fun w' hSw => by (try dsimp only at hSw); go_simp⟩) trivial ?_
          try simp only [Act.put, List.setIfInBounds_toArray]
          refine wpAnyH_take (i := 2) (v := .func (.func g) #[] lb) rfl (by kernel_rfl) (by kernel_rfl) (by kernel_rfl) (fun _ _ _ h => h) (Or.inl ⟨by rfl, fun w' hSw => by (try dsimp only at hSw); go_simp⟩) trivial ?_
          try simp only [Act.put]
          refine wpAnyH_take (i := 3) (v := .int .i64 (r : Int)) rfl (by kernel_rfl) (by kernel_rfl) (by kernel_rfl) (fun _ _ _ h => h) (Or.inl ⟨by rfl, fun w' hSw => by (try dsimp only at hSw); go_simp⟩) trivial ?_
          try simp only [Act.put]
          refine wpAnyH_take (i := 4) (v := .int .i64 (c : Int)) rfl (by kernel_rfl) (by kernel_rfl) (by kernel_rfl) (fun _ _ _ h => h) (Or.inl ⟨by rfl, fun w' hSw => by (try dsimp only at hSw); go_simp⟩) trivial ?_
          try simp only [Act.put]
          refine wpAnyH_ready (rs := [1, 5]) (by kernel_rfl) (by simp) ?_
          refine AllReadyH.cons rfl (fun J hJ => ?_) (AllReadyH.cons rfl (fun J hJ => ?_) AllReadyH.nil)
          · go_simp
            refine hJ.out _ _ trivial (fun _ => ?_)
            clear hJ J
            try simp only [Act.put, List.setIfInBounds_toArray, List.set_cons_zero, List.set_cons_succ]
            refine wpAnyH_ready (rs := [5]) (by kernel_rfl) (by simp) ?_
            refine AllReadyH.cons rfl (fun J hJ => ?_) AllReadyH.nil
            go_simp
            go_at_fn g
            refine D1.mono ?_
            rintro e w5 ⟨rfl, b5⟩
            have b5' := Below.next (Below.refl _ wr).drew b5
            have hR5 := (b5'.block _ (by have := HSZ.out; omega)).trans hR
            have hO5 := (b5'.block _ HSZ.out).trans hO
            have hW5 := orow_below hW b5'
            have hc5 : w5.cell? ⟨w.heap.size + 1 + 1, 1, none⟩ = some o := by rw [cell_of_row _ _ _ _ _ _ hO5]; rfl
            have hB5 := Below.next hB b5'
            have hs5 := hB5.size
            have hl5 : w.heap.size + 1 + 1 < w5.heap.size := (Array.getElem?_eq_some_iff.1 hO5).1
            clear D1
            go_wp2_with fail
            refine hJ.out _ _ trivial (fun _ => ?_)
            clear hJ J
            try simp only [Act.put, List.setIfInBounds_toArray, List.set_cons_zero, List.set_cons_succ]
            refine wpAnyH_ready (rs := [6]) (by kernel_rfl) (by simp) ?_
            refine AllReadyH.cons rfl (fun J hJ => ?_) AllReadyH.nil
            go_simp
            have hR6 := (balloc w5 (.cells #[.int .i64 x] 3)).block _ (show w.heap.size < w5.heap.size by omega)
            have hO6 := (balloc w5 (.cells #[.int .i64 x] 3)).block _ hl5
            have hc6 : (w5.alloc (.cells #[.int .i64 x] 3)).cell? ⟨w.heap.size + 1 + 1, 1, none⟩ = some o := by rw [cell_of_row _ _ _ _ _ _ (hO6.trans hO5)]; rfl
            refine hJ.out _ _ trivial (fun _ => ?_)
            clear hJ J
            try simp only [Act.put, List.setIfInBounds_toArray, List.set_cons_zero, List.set_cons_succ]
            refine wpAnyH_ready (rs := [7]) (by kernel_rfl) (by simp) ?_
            refine AllReadyH.cons rfl (fun J hJ => ?_) AllReadyH.nil
            rw [if_pos (by rfl)]
            refine wp_append_lies _ _ _ 22 rfl w.heap.size 3 i3 (.int .i64 0) 1 8 und22 HI3.out.1 HI3.out.2.1 HI3.out.2.2.1 HI3.out.2.2.2 rfl (by decide) o k fl rfl (hW5.alloc _) ⟨w5.heap.size, 0, none⟩ 1 1 [.int .i64 x] rfl rfl (news_one w5 _) (fun u hu => by simp at hu; subst hu; rfl) (by decide) (by unfold maxLen; omega) (by omega) (by simp; omega) _ rfl ?_
            intro og oc w7 hW7 hg7 _ _
            have hR7 := (hg7.block w.heap.size (by simp; omega) (fun e => own_diff hW5 hR5 e.symm)).trans (hR6.trans hR5)
            have hO7 := (hg7.block (w.heap.size + 1 + 1) (by simp; omega) (fun e => own_diff hW5 hO5 e.symm)).trans (hO6.trans hO5)
            have hB7 : Below w.heap.size w w7 := (Below.next hB5 (balloc w5 _)).grown hg7 (by simp; omega) (fun j hj => by
              obtain ⟨_, ⟨rfl, _⟩ | ⟨g', cap, cur, rfl, h8, _⟩⟩ := id hW5
              · cases hj
              · obtain rfl : g' = j := by simpa [Value.ownBlock] using hj
                exact h8)
            have hf7 : w7.frozen? ⟨w.heap.size + 1 + 1, 1, none⟩ = false := frozen_of_row w7 _ 1 _ _ hO7
            have hq7 : w7.cell? ⟨w.heap.size + 1 + 1, 1, none⟩ = some o := by rw [cell_of_row _ _ _ _ _ _ hO7]; rfl
            refine hJ.out _ _ trivial (fun _ => ?_)
            clear hJ J
            try simp only [Act.put, List.setIfInBounds_toArray]
            refine wpAnyH_take (i := 8) (v := .pointer (some ⟨w.heap.size + 1 + 1, 1, none⟩)) rfl (by kernel_rfl) (by kernel_rfl) (by kernel_rfl) (fun _ _ _ h => h) (Or.inl ⟨by rfl, fun w' hSw => by (try dsimp only at hSw); go_simp⟩) trivial ?_
            try simp only [Act.put]
            refine wpAnyH_ready (rs := [9]) (by kernel_rfl) (by simp) ?_
            refine AllReadyH.cons rfl (fun J hJ => ?_) AllReadyH.nil
            go_simp
            refine hJ.out _ _ trivial (fun _ => ?_)
            clear hJ J
            try simp only [Act.put, List.setIfInBounds_toArray, List.set_cons_zero, List.set_cons_succ]
            refine wpAnyH_done (by kernel_rfl) ?_ _
            refine NoPanic.normal ?_
            have hW8 := orow_other hW7 ⟨w.heap.size + 1 + 1, 1, none⟩ (.slice (some ⟨og, 0, none⟩) (k + 1) oc) (own_diff hW7 hO7)
            have hO8 : (w7.setCell ⟨w.heap.size + 1 + 1, 1, none⟩ (.slice (some ⟨og, 0, none⟩) (k + 1) oc)).heap[w.heap.size + 1 + 1]? = some (.cells #[.int .i64 (n : Int), .slice (some ⟨og, 0, none⟩) (k + 1) oc] 27 (0, 0)) := by rw [heap_setCell_same w7 _ 1 _ _ _ hO7]; rfl
            have hR8 := (heap_setCell_other w7 ⟨w.heap.size + 1 + 1, 1, none⟩ w.heap.size (.slice (some ⟨og, 0, none⟩) (k + 1) oc) (by show w.heap.size ≠ w.heap.size + 1 + 1; omega)).trans hR7
            have hB8 := hB7.setCell (p := ⟨w.heap.size + 1 + 1, 1, none⟩) (by show w.heap.size ≤ w.heap.size + 1 + 1; omega) (.slice (some ⟨og, 0, none⟩) (k + 1) oc)
            clear hq7 hf7 hc6 hc5 hc0
            go_wp2
            go_roundw
            case rel => exact ⟨c + 1, k + 1, _, by go_num, by omega, Hk2, hR8, hO8, by rw [HFL.out]; exact hW8, hB8⟩
            case measure => simp [intOf]; omega
          · go_simp
            go_at_fn g
            refine D1.mono ?_
            rintro e w5 ⟨rfl, b5⟩
            have b5' := Below.next (Below.refl _ wr).drew b5
            have hR5 := (b5'.block _ (by have := HSZ.out; omega)).trans hR
            have hO5 := (b5'.block _ HSZ.out).trans hO
            have hW5 := orow_below hW b5'
            have hc5 : w5.cell? ⟨w.heap.size + 1 + 1, 1, none⟩ = some o := by rw [cell_of_row _ _ _ _ _ _ hO5]; rfl
            have hB5 := Below.next hB b5'
            have hs5 := hB5.size
            have hl5 : w.heap.size + 1 + 1 < w5.heap.size := (Array.getElem?_eq_some_iff.1 hO5).1
            clear D1
            go_wp2_with fail
            refine hJ.out _ _ trivial (fun _ => ?_)
            clear hJ J
            try simp only [Act.put, List.setIfInBounds_toArray, List.set_cons_zero, List.set_cons_succ]
            refine wpAnyH_ready (rs := [1, 6]) (by kernel_rfl) (by simp) ?_
            refine AllReadyH.cons rfl (fun J hJ => ?_) (AllReadyH.cons rfl (fun J hJ => ?_) AllReadyH.nil)
            · go_simp
              refine hJ.out _ _ trivial (fun _ => ?_)
              clear hJ J
              try simp only [Act.put, List.setIfInBounds_toArray, List.set_cons_zero, List.set_cons_succ]
              refine wpAnyH_ready (rs := [6]) (by kernel_rfl) (by simp) ?_
              refine AllReadyH.cons rfl (fun J hJ => ?_) AllReadyH.nil
              go_simp
              have hR6 := (balloc w5 (.cells #[.int .i64 x] 3)).block _ (show w.heap.size < w5.heap.size by omega)
              have hO6 := (balloc w5 (.cells #[.int .i64 x] 3)).block _ hl5
              have hc6 : (w5.alloc (.cells #[.int .i64 x] 3)).cell? ⟨w.heap.size + 1 + 1, 1, none⟩ = some o := by rw [cell_of_row _ _ _ _ _ _ (hO6.trans hO5)]; rfl
              refine hJ.out _ _ trivial (fun _ => ?_)
              clear hJ J
              try simp only [Act.put, List.setIfInBounds_toArray, List.set_cons_zero, List.set_cons_succ]
              refine wpAnyH_ready (rs := [7]) (by kernel_rfl) (by simp) ?_
              refine AllReadyH.cons rfl (fun J hJ => ?_) AllReadyH.nil
              rw [if_pos (by rfl)]
              refine wp_append_lies _ _ _ 22 rfl w.heap.size 3 i3 (.int .i64 0) 1 8 und22 HI3.out.1 HI3.out.2.1 HI3.out.2.2.1 HI3.out.2.2.2 rfl (by decide) o k fl rfl (hW5.alloc _) ⟨w5.heap.size, 0, none⟩ 1 1 [.int .i64 x] rfl rfl (news_one w5 _) (fun u hu => by simp at hu; subst hu; rfl) (by decide) (by unfold maxLen; omega) (by omega) (by simp; omega) _ rfl ?_
              intro og oc w7 hW7 hg7 _ _
              have hR7 := (hg7.block w.heap.size (by simp; omega) (fun e => own_diff hW5 hR5 e.symm)).trans (hR6.trans hR5)
              have hO7 := (hg7.block (w.heap.size + 1 + 1) (by simp; omega) (fun e => own_diff hW5 hO5 e.symm)).trans (hO6.trans hO5)
              have hB7 : Below w.heap.size w w7 := (Below.next hB5 (balloc w5 _)).grown hg7 (by simp; omega) (fun j hj => by
                obtain ⟨_, ⟨rfl, _⟩ | ⟨g', cap, cur, rfl, h8, _⟩⟩ := id hW5
                · cases hj
                · obtain rfl : g' = j := by simpa [Value.ownBlock] using hj
                  exact h8)
              have hf7 : w7.frozen? ⟨w.heap.size + 1 + 1, 1, none⟩ = false := frozen_of_row w7 _ 1 _ _ hO7
              have hq7 : w7.cell? ⟨w.heap.size + 1 + 1, 1, none⟩ = some o := by rw [cell_of_row _ _ _ _ _ _ hO7]; rfl
              refine hJ.out _ _ trivial (fun _ => ?_)
              clear hJ J
              try simp only [Act.put, List.setIfInBounds_toArray]
              refine wpAnyH_take (i := 8) (v := .pointer (some ⟨w.heap.size + 1 + 1, 1, none⟩)) rfl (by kernel_rfl) (by kernel_rfl) (by kernel_rfl) (fun _ _ _ h => h) (Or.inl ⟨by rfl, fun w' hSw => by (try dsimp only at hSw); go_simp⟩) trivial ?_
              try simp only [Act.put]
              refine wpAnyH_ready (rs := [9]) (by kernel_rfl) (by simp) ?_
              refine AllReadyH.cons rfl (fun J hJ => ?_) AllReadyH.nil
              go_simp
              refine hJ.out _ _ trivial (fun _ => ?_)
              clear hJ J
              try simp only [Act.put, List.setIfInBounds_toArray, List.set_cons_zero, List.set_cons_succ]
              refine wpAnyH_done (by kernel_rfl) ?_ _
              refine NoPanic.normal ?_
              have hW8 := orow_other hW7 ⟨w.heap.size + 1 + 1, 1, none⟩ (.slice (some ⟨og, 0, none⟩) (k + 1) oc) (own_diff hW7 hO7)
              have hO8 : (w7.setCell ⟨w.heap.size + 1 + 1, 1, none⟩ (.slice (some ⟨og, 0, none⟩) (k + 1) oc)).heap[w.heap.size + 1 + 1]? = some (.cells #[.int .i64 (n : Int), .slice (some ⟨og, 0, none⟩) (k + 1) oc] 27 (0, 0)) := by rw [heap_setCell_same w7 _ 1 _ _ _ hO7]; rfl
              have hR8 := (heap_setCell_other w7 ⟨w.heap.size + 1 + 1, 1, none⟩ w.heap.size (.slice (some ⟨og, 0, none⟩) (k + 1) oc) (by show w.heap.size ≠ w.heap.size + 1 + 1; omega)).trans hR7
              have hB8 := hB7.setCell (p := ⟨w.heap.size + 1 + 1, 1, none⟩) (by show w.heap.size ≤ w.heap.size + 1 + 1; omega) (.slice (some ⟨og, 0, none⟩) (k + 1) oc)
              clear hq7 hf7 hc6 hc5 hc0
              go_wp2
              go_roundw
              case rel => exact ⟨c + 1, k + 1, _, by go_num, by omega, Hk2, hR8, hO8, by rw [HFL.out]; exact hW8, hB8⟩
              case measure => simp [intOf]; omega
            · go_simp
              have hR6 := (balloc w5 (.cells #[.int .i64 x] 3)).block _ (show w.heap.size < w5.heap.size by omega)
              have hO6 := (balloc w5 (.cells #[.int .i64 x] 3)).block _ hl5
              have hc6 : (w5.alloc (.cells #[.int .i64 x] 3)).cell? ⟨w.heap.size + 1 + 1, 1, none⟩ = some o := by rw [cell_of_row _ _ _ _ _ _ (hO6.trans hO5)]; rfl
              refine hJ.out _ _ trivial (fun _ => ?_)
              clear hJ J
              try simp only [Act.put, List.setIfInBounds_toArray, List.set_cons_zero, List.set_cons_succ]
              refine wpAnyH_ready (rs := [1]) (by kernel_rfl) (by simp) ?_
              refine AllReadyH.cons rfl (fun J hJ => ?_) AllReadyH.nil
              go_simp
              refine hJ.out _ _ trivial (fun _ => ?_)
              clear hJ J
              try simp only [Act.put, List.setIfInBounds_toArray, List.set_cons_zero, List.set_cons_succ]
              refine wpAnyH_ready (rs := [7]) (by kernel_rfl) (by simp) ?_
              refine AllReadyH.cons rfl (fun J hJ => ?_) AllReadyH.nil
              rw [if_pos (by rfl)]
              refine wp_append_lies _ _ _ 22 rfl w.heap.size 3 i3 (.int .i64 0) 1 8 und22 HI3.out.1 HI3.out.2.1 HI3.out.2.2.1 HI3.out.2.2.2 rfl (by decide) o k fl rfl (hW5.alloc _) ⟨w5.heap.size, 0, none⟩ 1 1 [.int .i64 x] rfl rfl (news_one w5 _) (fun u hu => by simp at hu; subst hu; rfl) (by decide) (by unfold maxLen; omega) (by omega) (by simp; omega) _ rfl ?_
              intro og oc w7 hW7 hg7 _ _
              have hR7 := (hg7.block w.heap.size (by simp; omega) (fun e => own_diff hW5 hR5 e.symm)).trans (hR6.trans hR5)
              have hO7 := (hg7.block (w.heap.size + 1 + 1) (by simp; omega) (fun e => own_diff hW5 hO5 e.symm)).trans (hO6.trans hO5)
              have hB7 : Below w.heap.size w w7 := (Below.next hB5 (balloc w5 _)).grown hg7 (by simp; omega) (fun j hj => by
                obtain ⟨_, ⟨rfl, _⟩ | ⟨g', cap, cur, rfl, h8, _⟩⟩ := id hW5
                · cases hj
                · obtain rfl : g' = j := by simpa [Value.ownBlock] using hj
                  exact h8)
              have hf7 : w7.frozen? ⟨w.heap.size + 1 + 1, 1, none⟩ = false := frozen_of_row w7 _ 1 _ _ hO7
              have hq7 : w7.cell? ⟨w.heap.size + 1 + 1, 1, none⟩ = some o := by rw [cell_of_row _ _ _ _ _ _ hO7]; rfl
              refine hJ.out _ _ trivial (fun _ => ?_)
              clear hJ J
              try simp only [Act.put, List.setIfInBounds_toArray]
              refine wpAnyH_take (i := 8) (v := .pointer (some ⟨w.heap.size + 1 + 1, 1, none⟩)) rfl (by kernel_rfl) (by kernel_rfl) (by kernel_rfl) (fun _ _ _ h => h) (Or.inl ⟨by rfl, fun w' hSw => by (try dsimp only at hSw); go_simp⟩) trivial ?_
              try simp only [Act.put]
              refine wpAnyH_ready (rs := [9]) (by kernel_rfl) (by simp) ?_
              refine AllReadyH.cons rfl (fun J hJ => ?_) AllReadyH.nil
              go_simp
              refine hJ.out _ _ trivial (fun _ => ?_)
              clear hJ J
              try simp only [Act.put, List.setIfInBounds_toArray, List.set_cons_zero, List.set_cons_succ]
              refine wpAnyH_done (by kernel_rfl) ?_ _
              refine NoPanic.normal ?_
              have hW8 := orow_other hW7 ⟨w.heap.size + 1 + 1, 1, none⟩ (.slice (some ⟨og, 0, none⟩) (k + 1) oc) (own_diff hW7 hO7)
              have hO8 : (w7.setCell ⟨w.heap.size + 1 + 1, 1, none⟩ (.slice (some ⟨og, 0, none⟩) (k + 1) oc)).heap[w.heap.size + 1 + 1]? = some (.cells #[.int .i64 (n : Int), .slice (some ⟨og, 0, none⟩) (k + 1) oc] 27 (0, 0)) := by rw [heap_setCell_same w7 _ 1 _ _ _ hO7]; rfl
              have hR8 := (heap_setCell_other w7 ⟨w.heap.size + 1 + 1, 1, none⟩ w.heap.size (.slice (some ⟨og, 0, none⟩) (k + 1) oc) (by show w.heap.size ≠ w.heap.size + 1 + 1; omega)).trans hR7
              have hB8 := hB7.setCell (p := ⟨w.heap.size + 1 + 1, 1, none⟩) (by show w.heap.size ≤ w.heap.size + 1 + 1; omega) (.slice (some ⟨og, 0, none⟩) (k + 1) oc)
              clear hq7 hf7 hc6 hc5 hc0
              go_wp2
              go_roundw
              case rel => exact ⟨c + 1, k + 1, _, by go_num, by omega, Hk2, hR8, hO8, by rw [HFL.out]; exact hW8, hB8⟩
              case measure => simp [intOf]; omega
        · have hdc : decide ((c : Int) < (n : Int)) = false := by simp; omega
          obtain rfl : c = n := by omega
          have Hk2 : Hid (k = (r + 1) * c) := by show _ = _; rw [Hk.out, Nat.add_mul]; omega
          clear Hk
          go_wp2
          go_roundw
          case rel => exact ⟨r + 1, k, o, by go_num, by omega, Hk2, hR, hO, hW, hB⟩
          case measure => simp [intOf]; omega
    · have hdr : decide ((r : Int) < (n : Int)) = false := by simp; omega
      obtain rfl : r = n := by omega
      have hkz : k = z := by rw [Hk.out, Hz.out]
      subst hkz
      have a0 : wr.cell? ⟨w.heap.size + 1 + 1, 0, none⟩ = some (.int .i64 (r : Int)) := by rw [cell_of_row _ _ _ _ _ _ hO]; rfl
      have a1 : wr.cell? ⟨w.heap.size + 1 + 1, 1, none⟩ = some o := by rw [cell_of_row _ _ _ _ _ _ hO]; rfl
      have a2 : wr.cell? ⟨w.heap.size, 0, none⟩ = some (.int .i64 0) := by rw [cell_of_row _ _ _ _ _ _ hR]; rfl
      have a3 : wr.cell? ⟨w.heap.size, 1, none⟩ = some (.slice none 0 0) := by rw [cell_of_row _ _ _ _ _ _ hR]; rfl
      have f0 : wr.frozen? ⟨w.heap.size, 0, none⟩ = false := frozen_of_row wr _ 0 _ _ hR
      have f1 : wr.frozen? ⟨w.heap.size, 1, none⟩ = false := frozen_of_row wr _ 1 _ _ hR
      obtain ⟨og, ol, oc, rfl⟩ : ∃ a l c, o = .slice a l c := by
        obtain ⟨_, ⟨e, _⟩ | ⟨g', cap, cur, e, _⟩⟩ := id hW
        · exact ⟨_, _, _, e⟩
        · exact ⟨_, _, _, e⟩
      have hn1 := heap_setCell_same wr w.heap.size 0 _ _ (.int .i64 (r : Int)) hR
      have hn2 := heap_setCell_same _ w.heap.size 1 _ _ (.slice og ol oc) hn1
      have hW2 := orow_other (orow_other hW ⟨w.heap.size, 0, none⟩ (.int .i64 (r : Int)) (own_diff hW hR)) ⟨w.heap.size, 1, none⟩ (.slice og ol oc) (own_diff hW hR)
      go_wp2
      exact post_sq 4 Tryd.results18 rfl hn2 rfl ⟨⟨_, rfl, hW2⟩, (hB.setCell (Nat.le_refl _) _).setCell (Nat.le_refl _) _⟩
theorem own_slice {w : World} {base n : Nat} {e : TypeId} {size : Nat} {v : Value} {xs : List Value} (h : w.ownsRow base e size v n xs) : ∃ a l c, v = .slice a l c := by
  obtain ⟨_, ⟨e, _⟩ | ⟨g', cap, cur, e, _⟩⟩ := h
  · exact ⟨_, _, _, e⟩
  · exact ⟨_, _, _, e⟩
theorem orow_base {w : World} {base base' n : Nat} {e : TypeId} {size : Nat} {v : Value} {xs : List Value} (h : w.ownsRow base e size v n xs) (hb : base' ≤ base) : w.ownsRow base' e size v n xs := by
  obtain ⟨h3, h4 | ⟨g, cap, cur, h5, h6, h7⟩⟩ := h
  · exact ⟨h3, .inl h4⟩
  · exact ⟨h3, .inr ⟨g, cap, cur, h5, Nat.le_trans hb h6, h7⟩⟩
theorem fl_sl {w : World} {base n : Nat} {t : Nat → Nat → Int} {y : Value} (h : w.ownsRow base 3 1 y (n * n) (vi (flI n t (n * n)))) : Sl w y (flI n t (n * n)) := by
  apply Sl.owned (base := base)
  rw [flI_len]
  exact h
end Go.Proofs.YtlmjlffipinjiabDoor.Hd

/- The walks of sign, OnesCount, sylvester, Sylvester, Excess, hadaFact. -/
namespace Go.Proofs.YtlmjlffipinjiabDoor.Hd
open Go.RowKit

def sgn (b : Bool) : Int := if b then 1 else -1
set_option maxRecDepth 100000 in
theorem sign_any (b : Bool) (w : World) : Calls Tryd.prog 50 #[.bool b] w fun e w' => e = .returned (.int .i64 (sgn b)) ∧ w' = w := by
  cases b
  · go_enter Tryd.func50, Tryd.ntmps50
    go_wp2
    go_ret
    exact ⟨rfl, rfl⟩
  · go_enter Tryd.func50, Tryd.ntmps50
    go_wp2
    go_ret
    exact ⟨rfl, rfl⟩
theorem and16 : ∀ r c : Fin 16, bits .and .i64 ((r.val : Nat) : Int) ((c.val : Nat) : Int) = ((r.val &&& c.val : Nat) : Int) ∧ r.val &&& c.val < 16 := by decide +kernel
end Go.Proofs.YtlmjlffipinjiabDoor.Hd

namespace Go.Proofs.YtlmjlffipinjiabDoor.Hd
open Go.RowKit

theorem pow16 {k : Nat} (hk : k ≤ 4) : 1 ≤ 2 ^ k ∧ 2 ^ k ≤ 16 := ⟨Nat.two_pow_pos k, Nat.pow_le_pow_right (by decide) hk⟩
/-- A square in a box, in each later world. -/
theorem sq_box (n : Int) (v : Value) (w W : World) (hb : Below (w.alloc (.cells #[.int .i64 n, v] 27)).heap.size (w.alloc (.cells #[.int .i64 n, v] 27)) W) : W.cell? ⟨w.heap.size, 0, none⟩ = some (.int .i64 n) ∧ W.cell? ⟨w.heap.size, 1, none⟩ = some v := by
  have h := (hb.block w.heap.size (by simp)).trans (heap_alloc_new w (.cells #[.int .i64 n, v] 27))
  exact ⟨by rw [cell_of_row _ _ _ _ _ _ h]; rfl, by rw [cell_of_row _ _ _ _ _ _ h]; rfl⟩
theorem sy_one : smL (flI 2 syF (2 * 2)) = 2 := by decide +kernel
end Go.Proofs.YtlmjlffipinjiabDoor.Hd

/- The walks of even, Even. -/
namespace Go.Proofs.YtlmjlffipinjiabDoor.Hd
open Go.RowKit

set_option maxRecDepth 100000 in
theorem e30 : ∀ args w, (callFunc 56 args).run Tryd.prog w = .ok (.enter 56 args) w := enters_of Tryd.func56 (by kernel_rfl) rfl
set_option maxRecDepth 100000 in
theorem e31 : ∀ args w, (callFunc 57 args).run Tryd.prog w = .ok (.enter 57 args) w := enters_of Tryd.func57 (by kernel_rfl) rfl
/-- Rows made even. -/
def evr (t : Nat → Nat → Int) (i j : Nat) : Int := t i j * t i 0
theorem evr_evn (t : Nat → Nat → Int) (i j : Nat) : evr t i j * evr t 0 j = evn t i j := rfl
theorem wrapS {z : Int} (h1 : -1 ≤ z) (h2 : z ≤ 1) : IntKind.i64.wrap z = z := by
  rcases (show z = -1 ∨ z = 0 ∨ z = 1 by omega) with rfl | rfl | rfl <;> decide
theorem sg_two {a b : Int} (ha : Sg a) (hb : Sg b) : -1 ≤ a * b ∧ a * b ≤ 1 := by rcases ha with rfl | rfl <;> rcases hb with rfl | rfl <;> decide
set_option maxRecDepth 100000 in
set_option maxHeartbeats 4000000 in
theorem even1_any (n r c b : Nat) (t : Nat → Nat → Int) (g : Nat) (lb : Array Value) (W : World) (hr : r < n) (hc : c < n) (hs : ∀ i j, i < n → j < n → Sg (t i j)) (eg : ∀ args w, (callFunc g args).run Tryd.prog w = .ok (.enter g args) w)
    (hT : TellAt g lb n n t W) (hb : W.cell? ⟨b, 0, none⟩ = some (.func (.func g) #[] lb)) :
    Calls Tryd.prog 56 #[.int .i64 (r : Int), .int .i64 (c : Int), .pointer (some ⟨b, 0, none⟩)] W fun e w' => e = .returned (.int .i64 (evr t r c)) ∧ Below W.heap.size W w' := by
  have hbl := block_lt_of_cell hb
  have hp := sg_two (hs r c hr hc) (hs r 0 hr (by omega))
  have C1 := hT W.drew (Below.refl _ W).drew r c hr hc
  have HT : Hid (∀ X, Below W.heap.size W X → Calls Tryd.prog g (#[.int .i64 (r : Int), .int .i64 0] ++ lb) X fun e w' => e = .returned (.int .i64 (t r 0)) ∧ Below X.heap.size X w') := fun X bX => hT X bX r 0 hr (by omega)
  have HP : Hid (∀ X, Below W.heap.size W X → X.cell? ⟨b, 0, none⟩ = some (.func (.func g) #[] lb)) := fun X bX => (bX.cell (p := ⟨b, 0, none⟩) hbl).trans hb
  show Calls _ _ _ _ fun e w' => e = .returned (.int .i64 (t r c * t r 0)) ∧ _
  obtain ⟨x, Hx⟩ : ∃ x, Hid (t r c = x) := ⟨_, rfl⟩
  obtain ⟨y, Hy⟩ : ∃ y, Hid (t r 0 = y) := ⟨_, rfl⟩
  rw [Hx.out] at C1 hp ⊢
  rw [Hy.out] at HT hp ⊢
  obtain ⟨z, hz⟩ : ∃ z, x * y = z := ⟨_, rfl⟩
  rw [hz] at hp ⊢
  obtain ⟨hp1, hp2⟩ := hp
  have hwz := wrapS hp1 hp2
  clear hT hs
  go_enter Tryd.func56, Tryd.ntmps56
  go_wp2_with fail
  refine wp_region_noPanic ?_
  refine wp_region_held_drew (S := fun w' => w'.cell? ⟨b, 0, none⟩ = some (.func (.func g) #[] lb)) (by kernel_rfl) hb (fun hSx => ?_)
  refine wpAnyH_take (i := 0) (v := .func (.func g) #[] lb) rfl (by kernel_rfl) (by kernel_rfl) (by kernel_rfl) (fun _ _ _ h => h) (Or.inl ⟨by rfl, fun w' hSw => by (try dsimp only at hSw); go_simp⟩) hSx ?_
  try simp only [Act.put, List.setIfInBounds_toArray]
  refine wpAnyH_take (i := 1) (v := .int .i64 (r : Int)) rfl (by kernel_rfl) (by kernel_rfl) (by kernel_rfl) (fun _ _ _ h => h) (Or.inl ⟨by rfl, fun w' hSw => by (try dsimp only at hSw); go_simp⟩) hSx ?_
  try simp only [Act.put]
  refine wpAnyH_take (i := 2) (v := .int .i64 (c : Int)) rfl (by kernel_rfl) (by kernel_rfl) (by kernel_rfl) (fun _ _ _ h => h) (Or.inl ⟨by rfl, fun w' hSw => by (try dsimp only at hSw); go_simp⟩) hSx ?_
  try simp only [Act.put]
  refine wpAnyH_take (i := 4) (v := .func (.func g) #[] lb) rfl (by kernel_rfl) (by kernel_rfl) (by kernel_rfl) (fun _ _ _ h => h) (Or.inl ⟨by rfl, fun w' hSw => by (try dsimp only at hSw); go_simp⟩) hSx ?_
  try simp only [Act.put]
  refine wpAnyH_take (i := 5) (v := .int .i64 (r : Int)) rfl (by kernel_rfl) (by kernel_rfl) (by kernel_rfl) (fun _ _ _ h => h) (Or.inl ⟨by rfl, fun w' hSw => by (try dsimp only at hSw); go_simp⟩) hSx ?_
  try simp only [Act.put]
  refine wpAnyH_ready (rs := [3]) (by kernel_rfl) (by simp) ?_
  refine AllReadyH.cons rfl (fun J hJ => ?_) AllReadyH.nil
  go_simp
  go_at_fn g
  refine C1.mono ?_
  rintro e w1 ⟨rfl, b1⟩
  have b1' := Below.next (Below.refl _ W).drew b1
  have D := HT.out _ b1'
  go_wp2_with fail
  refine hJ.out _ _ (HP.out _ b1') (fun hSy => ?_)
  clear hJ J C1
  try simp only [Act.put, List.setIfInBounds_toArray, List.set_cons_zero, List.set_cons_succ]
  refine wpAnyH_ready (rs := [6]) (by kernel_rfl) (by simp) ?_
  refine AllReadyH.cons rfl (fun J hJ => ?_) AllReadyH.nil
  go_simp
  go_at_fn g
  refine D.mono ?_
  rintro e w2 ⟨rfl, b2⟩
  have b2' := Below.next b1' b2
  clear D
  go_wp2_with fail
  refine hJ.out _ _ (HP.out _ b2') (fun hSz => ?_)
  clear hJ J
  try simp only [Act.put, List.setIfInBounds_toArray, List.set_cons_zero, List.set_cons_succ]
  refine wpAnyH_take (i := 7) (v := .int .i64 z) rfl (by kernel_rfl) (by kernel_rfl) (by kernel_rfl) (fun _ _ _ h => h) (Or.inl ⟨by rfl, fun w' hSw => by (try dsimp only at hSw); go_simp⟩) hSz ?_
  try simp only [Act.put]
  refine wpAnyH_ready (rs := [8]) (by kernel_rfl) (by simp) ?_
  refine AllReadyH.cons rfl (fun J hJ => ?_) AllReadyH.nil
  go_simp
  refine hJ.out _ _ hSz (fun _ => ?_)
  clear hJ J
  try simp only [Act.put, List.setIfInBounds_toArray, List.set_cons_zero, List.set_cons_succ]
  refine wpAnyH_done (by kernel_rfl) ?_ _
  refine NoPanic.normal ?_
  clear hSx hSy hSz
  go_wp2
  go_ret
  exact ⟨rfl, b2'⟩
set_option maxRecDepth 100000 in
set_option maxHeartbeats 4000000 in
theorem even2_any (n r c b : Nat) (t : Nat → Nat → Int) (g : Nat) (lb : Array Value) (W : World) (hr : r < n) (hc : c < n) (hs : ∀ i j, i < n → j < n → Sg (t i j)) (eg : ∀ args w, (callFunc g args).run Tryd.prog w = .ok (.enter g args) w)
    (hT : TellAt g lb n n t W) (hb : W.cell? ⟨b, 0, none⟩ = some (.func (.func g) #[] lb)) :
    Calls Tryd.prog 57 #[.int .i64 (r : Int), .int .i64 (c : Int), .pointer (some ⟨b, 0, none⟩)] W fun e w' => e = .returned (.int .i64 (t r c * t 0 c)) ∧ Below W.heap.size W w' := by
  have hbl := block_lt_of_cell hb
  have hp := sg_two (hs r c hr hc) (hs 0 c (by omega) hc)
  have C1 := hT W.drew (Below.refl _ W).drew r c hr hc
  have HT : Hid (∀ X, Below W.heap.size W X → Calls Tryd.prog g (#[.int .i64 0, .int .i64 (c : Int)] ++ lb) X fun e w' => e = .returned (.int .i64 (t 0 c)) ∧ Below X.heap.size X w') := fun X bX => hT X bX 0 c (by omega) hc
  have HP : Hid (∀ X, Below W.heap.size W X → X.cell? ⟨b, 0, none⟩ = some (.func (.func g) #[] lb)) := fun X bX => (bX.cell (p := ⟨b, 0, none⟩) hbl).trans hb
  show Calls _ _ _ _ fun e w' => e = .returned (.int .i64 (t r c * t 0 c)) ∧ _
  obtain ⟨x, Hx⟩ : ∃ x, Hid (t r c = x) := ⟨_, rfl⟩
  obtain ⟨y, Hy⟩ : ∃ y, Hid (t 0 c = y) := ⟨_, rfl⟩
  rw [Hx.out] at C1 hp ⊢
  rw [Hy.out] at HT hp ⊢
  obtain ⟨z, hz⟩ : ∃ z, x * y = z := ⟨_, rfl⟩
  rw [hz] at hp ⊢
  obtain ⟨hp1, hp2⟩ := hp
  have hwz := wrapS hp1 hp2
  clear hT hs
  go_enter Tryd.func57, Tryd.ntmps57
  go_wp2_with fail
  refine wp_region_noPanic ?_
  refine wp_region_held_drew (S := fun w' => w'.cell? ⟨b, 0, none⟩ = some (.func (.func g) #[] lb)) (by kernel_rfl) hb (fun hSx => ?_)
  refine wpAnyH_take (i := 0) (v := .func (.func g) #[] lb) rfl (by kernel_rfl) (by kernel_rfl) (by kernel_rfl) (fun _ _ _ h => h) (Or.inl ⟨by rfl, fun w' hSw => by (try dsimp only at hSw); go_simp⟩) hSx ?_
  try simp only [Act.put, List.setIfInBounds_toArray]
  refine wpAnyH_take (i := 1) (v := .int .i64 (r : Int)) rfl (by kernel_rfl) (by kernel_rfl) (by kernel_rfl) (fun _ _ _ h => h) (Or.inl ⟨by rfl, fun w' hSw => by (try dsimp only at hSw); go_simp⟩) hSx ?_
  try simp only [Act.put]
  refine wpAnyH_take (i := 2) (v := .int .i64 (c : Int)) rfl (by kernel_rfl) (by kernel_rfl) (by kernel_rfl) (fun _ _ _ h => h) (Or.inl ⟨by rfl, fun w' hSw => by (try dsimp only at hSw); go_simp⟩) hSx ?_
  try simp only [Act.put]
  refine wpAnyH_take (i := 4) (v := .func (.func g) #[] lb) rfl (by kernel_rfl) (by kernel_rfl) (by kernel_rfl) (fun _ _ _ h => h) (Or.inl ⟨by rfl, fun w' hSw => by (try dsimp only at hSw); go_simp⟩) hSx ?_
  try simp only [Act.put]
  refine wpAnyH_take (i := 5) (v := .int .i64 (c : Int)) rfl (by kernel_rfl) (by kernel_rfl) (by kernel_rfl) (fun _ _ _ h => h) (Or.inl ⟨by rfl, fun w' hSw => by (try dsimp only at hSw); go_simp⟩) hSx ?_
  try simp only [Act.put]
  refine wpAnyH_ready (rs := [3]) (by kernel_rfl) (by simp) ?_
  refine AllReadyH.cons rfl (fun J hJ => ?_) AllReadyH.nil
  go_simp
  go_at_fn g
  refine C1.mono ?_
  rintro e w1 ⟨rfl, b1⟩
  have b1' := Below.next (Below.refl _ W).drew b1
  have D := HT.out _ b1'
  go_wp2_with fail
  refine hJ.out _ _ (HP.out _ b1') (fun hSy => ?_)
  clear hJ J C1
  try simp only [Act.put, List.setIfInBounds_toArray, List.set_cons_zero, List.set_cons_succ]
  refine wpAnyH_ready (rs := [6]) (by kernel_rfl) (by simp) ?_
  refine AllReadyH.cons rfl (fun J hJ => ?_) AllReadyH.nil
  go_simp
  go_at_fn g
  refine D.mono ?_
  rintro e w2 ⟨rfl, b2⟩
  have b2' := Below.next b1' b2
  clear D
  go_wp2_with fail
  refine hJ.out _ _ (HP.out _ b2') (fun hSz => ?_)
  clear hJ J
  try simp only [Act.put, List.setIfInBounds_toArray, List.set_cons_zero, List.set_cons_succ]
  refine wpAnyH_take (i := 7) (v := .int .i64 z) rfl (by kernel_rfl) (by kernel_rfl) (by kernel_rfl) (fun _ _ _ h => h) (Or.inl ⟨by rfl, fun w' hSw => by (try dsimp only at hSw); go_simp⟩) hSz ?_
  try simp only [Act.put]
  refine wpAnyH_ready (rs := [8]) (by kernel_rfl) (by simp) ?_
  refine AllReadyH.cons rfl (fun J hJ => ?_) AllReadyH.nil
  go_simp
  refine hJ.out _ _ hSz (fun _ => ?_)
  clear hJ J
  try simp only [Act.put, List.setIfInBounds_toArray, List.set_cons_zero, List.set_cons_succ]
  refine wpAnyH_done (by kernel_rfl) ?_ _
  refine NoPanic.normal ?_
  clear hSx hSy hSz
  go_wp2
  go_ret
  exact ⟨rfl, b2'⟩
theorem evr_sg {n : Nat} {t : Nat → Nat → Int} (hs : ∀ i j, i < n → j < n → Sg (t i j)) : ∀ i j, i < n → j < n → Sg (evr t i j) := fun i j hi hj => (hs i j hi hj).mul (hs i 0 hi (by omega))
set_option maxRecDepth 100000 in
set_option maxHeartbeats 4000000 in
theorem even_any (n : Nat) (t : Nat → Nat → Int) (v : Value) (w : World) (hs : ∀ i j, i < n → j < n → Sg (t i j)) (hT : Teller v n n t w) :
    Calls Tryd.prog 25 #[v] w fun e w' => (∃ y, e = .returned y ∧ Teller y n n (evn t) w') ∧ Below w.heap.size w w' := by
  obtain ⟨g, lb, rfl, eg, hT⟩ := hT
  have HT : Hid (TellAt g lb n n t w) := hT
  have HG : Hid (∀ args w, (callFunc g args).run Tryd.prog w = .ok (.enter g args) w) := eg
  have HS : Hid (∀ i j, i < n → j < n → Sg (t i j)) := hs
  clear hT eg hs
  go_enter Tryd.func25, Tryd.ntmps25
  go_wp2
  go_ret
  have hb := Below.next (balloc w (.cells #[.func (.func g) #[] lb] 58)) (balloc _ (.cells #[.func (.func 56) #[] #[.pointer (some ⟨w.heap.size, 0, none⟩)]] 57))
  have k0 : ((w.alloc (.cells #[.func (.func g) #[] lb] 58)).alloc (.cells #[.func (.func 56) #[] #[.pointer (some ⟨w.heap.size, 0, none⟩)]] 57)).heap[w.heap.size]? = some (.cells #[.func (.func g) #[] lb] 58 (0, 0)) := (Below.heap_alloc _ _ _ (by simp)).trans (heap_alloc_new w _)
  have k1 : ((w.alloc (.cells #[.func (.func g) #[] lb] 58)).alloc (.cells #[.func (.func 56) #[] #[.pointer (some ⟨w.heap.size, 0, none⟩)]] 57)).heap[w.heap.size + 1]? = some (.cells #[.func (.func 56) #[] #[.pointer (some ⟨w.heap.size, 0, none⟩)]] 57 (0, 0)) := by
    have := heap_alloc_new (w.alloc (.cells #[.func (.func g) #[] lb] 58)) (.cells #[.func (.func 56) #[] #[.pointer (some ⟨w.heap.size, 0, none⟩)]] 57)
    simpa using this
  refine ⟨⟨_, rfl, _, _, rfl, e31, fun W bW r c hr hc => ?_⟩, hb⟩
  have q0 : ∀ X, Below W.heap.size W X → X.cell? ⟨w.heap.size, 0, none⟩ = some (.func (.func g) #[] lb) := fun X bX => by
    rw [cell_of_row _ _ _ _ _ _ (((Below.next bW bX).block _ (by simp; omega)).trans k0)]; rfl
  have q1 : W.cell? ⟨w.heap.size + 1, 0, none⟩ = some (.func (.func 56) #[] #[.pointer (some ⟨w.heap.size, 0, none⟩)]) := by
    rw [cell_of_row _ _ _ _ _ _ ((bW.block _ (by simp)).trans k1)]; rfl
  have h30 : TellAt 56 #[.pointer (some ⟨w.heap.size, 0, none⟩)] n n (evr t) W := fun X bX r c hr hc =>
    even1_any n r c w.heap.size t g lb X hr hc HS.out HG.out (fun Y bY r c hr hc => HT.out Y (Below.next hb (Below.next bW (Below.next bX bY))) r c hr hc) (q0 X bX)
  exact even2_any n r c (w.heap.size + 1) (evr t) 56 _ W hr hc (evr_sg HS.out) e30 h30 q1
end Go.Proofs.YtlmjlffipinjiabDoor.Hd

namespace Go.Proofs.YtlmjlffipinjiabDoor.Hd
open Go.RowKit

theorem two_boxes (w : World) (a b : Obj) : ((w.alloc a).alloc b).heap.size = w.heap.size + 1 + 1 := by simp
theorem second_box (w : World) (a : Obj) (cs : Array Value) (t : TypeId) : ((w.alloc a).alloc (.cells cs t)).heap[w.heap.size + 1]? = some (.cells cs t (0, 0)) := by
  have := heap_alloc_new (w.alloc a) (.cells cs t)
  simpa using this
theorem first_box (w : World) (b : Obj) (cs : Array Value) (t : TypeId) : ((w.alloc (.cells cs t)).alloc b).heap[w.heap.size]? = some (.cells cs t (0, 0)) := (Below.heap_alloc _ _ _ (by simp)).trans (heap_alloc_new w _)
end Go.Proofs.YtlmjlffipinjiabDoor.Hd

/- The walk of blocks. -/
namespace Go.Proofs.YtlmjlffipinjiabDoor.Hd
open Go.RowKit

set_option maxRecDepth 100000 in
theorem inf33 : (Tryd.prog.info? 37).map (·.size) = some 2 := by kernel_rfl
theorem own_form {w : World} {base n : Nat} {e : TypeId} {v : Value} {xs : List Value} (h : w.ownsRow base e 1 v n xs) : ∃ a c, v = .slice a n c := by
  obtain ⟨_, ⟨rfl, rfl⟩ | ⟨g, cap, cur, rfl, _⟩⟩ := h
  · exact ⟨_, _, rfl⟩
  · exact ⟨_, _, rfl⟩
set_option maxRecDepth 100000 in
theorem post_d {fn : Func} {R : Ending → World → Prop} {a : Act} {w : World} {g : Nat} {x y : Value} (slot : Tmp) (hres : fn.results = #[.cell slot 37]) (hp : a.tmps.getD slot undef = .pointer (some ⟨g, 0, none⟩)) (hr : w.heap[g]? = some (.cells #[x, y] 37 (0, 0))) (hd : a.defers = []) (hR : R (.returned (.agg #[x, y])) w) : bodyPost Tryd.prog fn R .ret a w :=
  bodyPost_ret (results_cell_row hres a.tmps w g 37 #[x, y] (0, 0) _ hp hr Tryd.underlying37 rfl inf33) hd hR
set_option maxRecDepth 100000 in
theorem post_d2 {fn : Func} {R : Ending → World → Prop} {a : Act} {w : World} {g : Nat} {x y z : Value} (slot u : Tmp) (hres : fn.results = #[.cell slot 37, .tmp u]) (hp : a.tmps.getD slot undef = .pointer (some ⟨g, 0, none⟩)) (hr : w.heap[g]? = some (.cells #[x, y] 37 (0, 0))) (hu : a.tmps.getD u undef = z) (hd : a.defers = []) (hR : R (.returned (.tuple #[.agg #[x, y], z])) w) : bodyPost Tryd.prog fn R .ret a w := by
  refine bodyPost_ret (v := .tuple #[.agg #[x, y], z]) ?_ hd hR
  rw [results_cell_tmp hres, hp, hu]
  have h1 : (asAddr (.pointer (some ⟨g, 0, none⟩))).run Tryd.prog w = .ok ⟨g, 0, none⟩ w := by simp [asAddr]
  rw [h1]
  show ((loadVar 37 ⟨g, 0, none⟩).run Tryd.prog w).andThen _ = _
  rw [run_loadVar_row w g 37 37 #[x, y] (0, 0) _ hr Tryd.underlying37 rfl inf33]
  rfl
/-- The two boxes: the answer, what is built. -/
structure BoxT (s ra oa : Nat) (p : Nat) (ov : Value) (W : World) : Prop where
  r : W.heap[ra]? = some (.cells #[.int .i64 0, .slice none 0 0] 37 (0, 0))
  o : W.heap[oa]? = some (.cells #[.int .i64 (p : Int), ov] 37 (0, 0))
  lr : ra < s
  lo : oa < s
  ne : ra ≠ oa
theorem BoxT.lt {s r o p : Nat} {ov : Value} {W : World} (h : BoxT s r o p ov W) (hs : s ≤ W.heap.size) : r < W.heap.size ∧ o < W.heap.size := ⟨Nat.lt_of_lt_of_le h.lr hs, Nat.lt_of_lt_of_le h.lo hs⟩
theorem BoxT.low {s r o p : Nat} {ov : Value} {W W' : World} (h : BoxT s r o p ov W) (b : Below s W W') : BoxT s r o p ov W' :=
  ⟨(b.block r h.lr).trans h.r, (b.block o h.lo).trans h.o, h.lr, h.lo, h.ne⟩
theorem BoxT.cells {s r o p : Nat} {ov : Value} {W : World} (h : BoxT s r o p ov W) : W.cell? ⟨o, 0, none⟩ = some (.int .i64 (p : Int)) ∧ W.cell? ⟨o, 1, none⟩ = some ov :=
  ⟨by rw [cell_of_row _ _ _ _ _ _ h.o]; rfl, by rw [cell_of_row _ _ _ _ _ _ h.o]; rfl⟩
theorem BoxT.put {s r o p : Nat} {ov : Value} {W : World} (h : BoxT s r o p ov W) (nv : Value) : BoxT s r o p nv (W.setCell ⟨o, 1, none⟩ nv) :=
  ⟨(heap_setCell_other W ⟨o, 1, none⟩ r nv h.ne).trans h.r, heap_setCell_same W o 1 _ _ nv h.o, h.lr, h.lo, h.ne⟩
/-- The points where 1 stands, of the first columns. -/
def hbK (E : Nat → Nat → Int) (i k : Nat) : List Nat := (List.range k).filter fun j => E (i + 1) (j + 1) == 1
theorem hbK_succ (E : Nat → Nat → Int) (i k : Nat) : hbK E i (k + 1) = hbK E i k ++ if (E (i + 1) (k + 1) == 1) = true then [k] else [] := filter_succ _ k
theorem hbK_full (v : Nat) (E : Nat → Nat → Int) (i : Nat) : hbK E i v = hbR v E i := rfl
theorem hbK_len (E : Nat → Nat → Int) (i k : Nat) : (hbK E i k).length ≤ k := by
  have := List.length_filter_le (fun j => E (i + 1) (j + 1) == 1) (List.range k)
  rw [List.length_range] at this
  exact this
def hbT (v : Nat) (E : Nat → Nat → Int) (i : Nat) : List (List Nat) := (List.range i).map (hbR v E)
theorem hbT_succ (v : Nat) (E : Nat → Nat → Int) (i : Nat) : hbT v E (i + 1) = hbT v E i ++ [hbR v E i] := by unfold hbT; rw [List.range_succ, List.map_append]; rfl
@[simp] theorem hbT_len (v : Nat) (E : Nat → Nat → Int) (i : Nat) : (hbT v E i).length = i := by simp [hbT]
set_option maxRecDepth 100000 in
set_option maxHeartbeats 8000000 in
theorem blocks_any (v : Nat) (E : Nat → Nat → Int) (y : Value) (w : World) (hv : v ≤ 23) (hT : Teller y (v + 1) (v + 1) E w) :
    Calls Tryd.prog 24 #[.int .i64 ((v + 1 : Nat) : Int), y] w fun e w' => (∃ x, e = .returned (.agg #[.int .i64 (v : Int), x]) ∧ OR w' (w.heap.size + 2) x (hbL v E)) ∧ Below w.heap.size w w' := by
  obtain ⟨i3, hi3, hz0, hz1, hz2⟩ := info3
  obtain ⟨i36, ji3, jz0, jz1, jz2⟩ := info36
  obtain ⟨g, lb, rfl, eg, hT⟩ := hT
  have HT : Hid (TellAt g lb (v + 1) (v + 1) E w) := hT
  have HTA : Hid (hbT v E v = hbL v E) := rfl
  obtain ⟨n, Hn⟩ : ∃ n, Hid (v + 1 = n) := ⟨_, rfl⟩
  have hn1 : (n : Int) - 1 = (v : Int) := by rw [← Hn.out]; omega
  have hn24 : n ≤ 99 := by rw [← Hn.out]; omega
  rw [Hn.out] at HT ⊢
  obtain ⟨M, HM⟩ : ∃ M, Hid (hbL v E = M) := ⟨_, rfl⟩
  rw [HM.out] at HTA ⊢
  obtain ⟨s, Hs⟩ : ∃ s, Hid (w.heap.size = s) := ⟨_, rfl⟩
  have hs : w.heap.size = s := Hs.out
  have hbx : BoxT (s + 2) s (s + 1) v (.slice none 0 0) ((w.alloc (.cells #[.int .i64 0, .slice none 0 0] 37)).alloc (.cells #[.int .i64 (v : Int), .slice none 0 0] 37)) := by
    refine ⟨by rw [← hs]; exact first_box _ _ _ _, by rw [← hs]; exact second_box _ _ _ _, by omega, by omega, by omega⟩
  have hb0 : Below s w ((w.alloc (.cells #[.int .i64 0, .slice none 0 0] 37)).alloc (.cells #[.int .i64 (v : Int), .slice none 0 0] 37)) := by rw [← hs]; exact Below.next (balloc _ _) (balloc _ _)
  have hsz0 : s + 2 ≤ ((w.alloc (.cells #[.int .i64 0, .slice none 0 0] 37)).alloc (.cells #[.int .i64 (v : Int), .slice none 0 0] 37)).heap.size := by simp; omega
  clear hT
  go_enter Tryd.func24, Tryd.ntmps24
  go_wp2
  go_loopw [6] (fun xv wr => ∃ (x r : Nat) (ov : Value), xv = .int .i64 (r : Int) ∧ Hid (r = x + 1) ∧ r ≤ n ∧ BoxT (s + 2) s (s + 1) v ov wr ∧ OR wr (s + 2) ov (hbT v E x) ∧ s + 2 ≤ wr.heap.size ∧ Below s w wr) (fun xv _ => (n - intOf xv).toNat)
  case atStart => exact ⟨0, 1, _, rfl, (rfl : 1 = 0 + 1), by rw [← Hn.out]; omega, hbx, OR.nil _ _, hsz0, hb0⟩
  case round =>
    clear hbx hb0 hsz0
    obtain ⟨x, r, ov, rfl, Hr, hr, hbx, hOR, hsz, hB⟩ := hrel
    obtain ⟨y2, y3⟩ := hbx.cells
    by_cases hlt : r < n
    · have hdi : decide ((r : Int) < (n : Int)) = true := by simp; omega
      obtain ⟨w1, Hw1⟩ : ∃ w1 : World, Hid (w1 = wr) := ⟨_, rfl⟩
      have HBX : Hid (BoxT (s + 2) s (s + 1) v ov w1) := by rw [Hw1.out]; exact hbx
      have HOR : Hid (OR w1 (s + 2) ov (hbT v E x)) := by rw [Hw1.out]; exact hOR
      have HB1 : Hid (Below s w w1) := by rw [Hw1.out]; exact hB
      have HSZ : Hid (s + 2 ≤ w1.heap.size) := by rw [Hw1.out]; exact hsz
      clear hbx hOR hB hsz
      go_wp2
      go_loopw [7, 8] (fun bv iv wr' => ∃ (i c : Nat) (l : List Nat), iv = .int .i64 (c : Int) ∧ Hid (c = i + 1) ∧ c ≤ n ∧ Hid (hbK E x i = l) ∧ wr'.ownsRow w1.heap.size 3 1 bv l.length ((l.map Int.ofNat).map (Value.int .i64)) ∧ Below w1.heap.size w1 wr') (fun _ iv _ => (n - intOf iv).toNat)
      case atStart => exact ⟨0, 1, [], rfl, (rfl : 1 = 0 + 1), by rw [← Hn.out]; omega, (rfl : hbK E x 0 = []), World.ownsRow_nil _ _ _ _, by rw [Hw1.out]; exact Below.refl _ _⟩
      case round =>
        clear y2 y3
        obtain ⟨i, c, l, rfl, Hc, hi, HL, hown, hB⟩ := hrel
        have hbz := hB.size
        have hBs : Below s w wr := (HB1.out).trans (hB.mono (by have := HSZ.out; omega))
        have hbx := HBX.out.low (hB.mono HSZ.out)
        obtain ⟨y2, y3⟩ := hbx.cells
        have hll : l.length ≤ i := by rw [← HL.out]; exact hbK_len E x i
        have hin : i < n := by have := Hc.out; omega
        by_cases hli : c < n
        · have hdx : decide ((c : Int) < (n : Int)) = true := by simp; omega
          have C := HT.out _ (hs.symm ▸ hBs) r c hlt hli
          have hci : (c : Int) - 1 = (i : Int) := by rw [Hc.out]; omega
          have hsu := hbK_succ E x i
          rw [HL.out, ← Hr.out, ← Hc.out] at hsu
          have Hc2 : Hid (c + 1 = i + 1 + 1) := by show _ = _; rw [Hc.out]
          obtain ⟨z, Hz⟩ : ∃ z, Hid (E r c = z) := ⟨_, rfl⟩
          rw [Hz.out] at C hsu
          cases hc : z == 1 with
          | false =>
            rw [hc] at hsu
            have HL2 : Hid (hbK E x (i + 1) = l) := by show _ = _; rw [← Hc.out, hsu]; simp
            clear hsu HL
            go_wp2_with (go_at_fn g; refine C.mono ?_; rintro e w4 ⟨rfl, b4⟩; clear C)
            go_roundw
            case rel => exact ⟨i + 1, c + 1, l, by go_num, Hc2, by omega, HL2, orow_below hown b4, Below.next hB b4⟩
            case measure => simp [intOf]; omega
          | true =>
            rw [hc] at hsu
            have HL2 : Hid (hbK E x (i + 1) = l ++ [i]) := by show _ = _; rw [← Hc.out, hsu]; simp
            clear hsu HL
            obtain ⟨k, Hk⟩ : ∃ k, Hid (l.length = k) := ⟨_, rfl⟩
            rw [Hk.out] at hown hll
            go_wp2_with (first
              | (go_at_fn g; refine C.mono ?_; rintro e w4 ⟨rfl, b4⟩; clear C; have hown4 := orow_below hown b4; have hB4 := Below.next hB b4; have hbz4 := hB4.size)
              | (at_builtin; refine wpList_append_own _ rfl _ _ 22 rfl w1.heap.size 3 i3 (.int .i64 0) 1 8 und22 hi3 hz0 hz1 hz2 rfl (by decide) _ _ _ rfl (hown4.alloc _) ⟨w4.heap.size, 0, none⟩ 1 1 [.int .i64 (i : Int)] rfl rfl ?c1 ?c2 ?c3 ?c4 ?c5 ?_)
              | go_in)
            case c1 =>
              intro j u hj
              match j, hj with
              | 0, hj => simp at hj; subst hj; simp [Addr.add]
            case c2 => intro u hu; simp at hu; subst hu; rfl
            case c3 => unfold maxLen; omega
            case c4 => omega
            case c5 => simp; omega
            · intro v' w2 hown' hgrow _
              have hb2 : Below w1.heap.size w1 w2 := (hB4.alloc hbz4 _).grown hgrow (by simp; omega) (fun k hk => (hown4.lt k hk).1)
              go_wp2
              go_roundw
              case rel => exact ⟨i + 1, c + 1, l ++ [i], by go_num, Hc2, by omega, HL2, by simpa [Hk.out] using hown', hb2⟩
              case measure => simp [intOf]; omega
        · have hdx : decide ((c : Int) < (n : Int)) = false := by simp; omega
          have hiv : i = v := by have := Hc.out; have := Hn.out; omega
          have HTS2 : Hid (hbT v E (x + 1) = hbT v E x ++ [l]) := by show _ = _; rw [hbT_succ, ← HL.out, hiv, hbK_full]
          have hs3 : s + 2 ≤ wr.heap.size := Nat.le_trans HSZ.out hbz
          have hrow := orow_base hown HSZ.out
          replace hrow : ORow wr (s + 2) _ l := hrow
          obtain ⟨vals, h1, h2⟩ := HOR.out.below hB
          have hln := hbT_len v E x
          have HH2 : Hid (∀ (i_1 : Nat) (u : Value) (l : List Nat), vals[i_1]? = some u → (hbT v E x)[i_1]? = some l → ORow wr (s + 2) u l) := h2
          have HH1 : Hid (wr.ownsRow (s + 2) 22 1 ov (hbT v E x).length vals) := h1
          rw [hln] at h1
          obtain ⟨oa, oc, rfl⟩ := own_form h1
          obtain ⟨ra, rc, rfl⟩ := own_form hown
          have Hr2 : Hid (r + 1 = x + 1 + 1) := by show _ = _; rw [Hr.out]
          have hx99 : x ≤ 99 := by have := Hr.out; omega
          generalize l.length = ll at *
          clear h2 hln hown hiv
          go_wp2_with (first
            | (at_builtin; refine wpList_append_own _ rfl _ _ 35 rfl (s + 2) 22 i36 (.slice none 0 0) 1 24 undR ji3 jz0 jz1 jz2 rfl (by decide) _ _ _ rfl (h1.alloc _) ⟨wr.heap.size, 0, none⟩ 1 1 [.slice ra ll rc] rfl rfl ?c1 ?c2 ?c3 ?c4 ?c5 ?_)
            | go_in)
          case c1 =>
            intro j u hj
            match j, hj with
            | 0, hj => simp at hj; subst hj; simp [Addr.add]
          case c2 => intro u hu; simp at hu; subst hu; rfl
          case c3 => unfold maxLen; omega
          case c4 => omega
          case c5 => simp; omega
          · intro v' w2 hown' hgrow _
            have hal := balloc wr (.cells #[.slice ra ll rc] 22)
            have hB2 : Below (s + 2) wr w2 := ((Below.refl _ wr).alloc hs3 _).grown hgrow (by simp; omega) (fun k hk => (h1.lt k hk).1)
            have hO2 : OR w2 (s + 2) v' (hbT v E x ++ [l]) := OR.more (own_keep HH1.out fun b _ hb => hal.block b hb) (fun i_1 u l' e1 e2 => (HH2.out i_1 u l' e1 e2).below hal) (hrow.below hal) (by rw [hbT_len]; exact hown') hgrow
            rw [← HTS2.out] at hO2
            have hbx2 := hbx.low hB2
            obtain ⟨va, vc, rfl⟩ := own_form hown'
            have hO3 := hO2.keep (w' := w2.setCell ⟨s + 1, 1, none⟩ (.slice va (x + 1) vc)) (fun b hb _ => heap_setCell_other w2 ⟨s + 1, 1, none⟩ b _ (by show b ≠ s + 1; omega))
            have hbx3 := hbx2.put (.slice va (x + 1) vc)
            have hB3 := (hBs.trans (hB2.mono (by omega))).setCell (p := ⟨s + 1, 1, none⟩) (by show s ≤ s + 1; omega) (.slice va (x + 1) vc)
            have hfz : w2.frozen? ⟨s + 1, 1, none⟩ = false := frozen_of_row w2 (s + 1) 1 _ _ hbx2.o
            have hsz2 : s + 2 ≤ (w2.setCell ⟨s + 1, 1, none⟩ (.slice va (x + 1) vc)).heap.size := by have := hB2.size; simp; omega
            obtain ⟨z2, z3⟩ := hbx2.cells
            clear hO2 hbx2 hbx hB2 hal hgrow hown' h1 y2 y3 hrow
            go_wp2
            go_roundw
            case rel => exact ⟨x + 1, r + 1, _, by go_num, Hr2, by omega, hbx3, hO3, hsz2, hB3⟩
            case measure => simp [intOf]; omega
    · have hdi : decide ((r : Int) < (n : Int)) = false := by simp; omega
      obtain rfl : x = v := by have := Hr.out; have := Hn.out; omega
      obtain ⟨oa, oc, rfl⟩ := hOR.cap
      rw [HTA.out] at hOR hbx y3
      generalize M.length = ml at *
      have a2 : wr.cell? ⟨s, 0, none⟩ = some (.int .i64 0) := by rw [cell_of_row _ _ _ _ _ _ hbx.r]; rfl
      have a3 : wr.cell? ⟨s, 1, none⟩ = some (.slice none 0 0) := by rw [cell_of_row _ _ _ _ _ _ hbx.r]; rfl
      have f0 : wr.frozen? ⟨s, 0, none⟩ = false := frozen_of_row wr _ 0 _ _ hbx.r
      have f1 : wr.frozen? ⟨s, 1, none⟩ = false := frozen_of_row wr _ 1 _ _ hbx.r
      have hn1 := heap_setCell_same wr s 0 _ _ (.int .i64 (x : Int)) hbx.r
      have hn2 := heap_setCell_same _ s 1 _ _ (.slice oa ml oc) hn1
      have hO2 := (hOR.keep (w' := wr.setCell ⟨s, 0, none⟩ (.int .i64 (x : Int))) (fun b hb _ => heap_setCell_other wr ⟨s, 0, none⟩ b _ (by show b ≠ s; omega))).keep (w' := (wr.setCell ⟨s, 0, none⟩ (.int .i64 (x : Int))).setCell ⟨s, 1, none⟩ (.slice oa ml oc)) (fun b hb _ => heap_setCell_other _ ⟨s, 1, none⟩ b _ (by show b ≠ s; omega))
      have hB2 := (hB.setCell (p := ⟨s, 0, none⟩) (by show s ≤ s; omega) (.int .i64 (x : Int))).setCell (p := ⟨s, 1, none⟩) (by show s ≤ s; omega) (.slice oa ml oc)
      have hsz1 : s + 1 < wr.heap.size := by omega
      clear hbx hOR
      go_wp2
      exact post_d 4 Tryd.results24 rfl hn2 rfl ⟨⟨_, rfl, by rw [hs]; exact hO2⟩, by rw [hs]; exact hB2⟩
end Go.Proofs.YtlmjlffipinjiabDoor.Hd

namespace Go.Proofs.YtlmjlffipinjiabDoor.Hd
open Go.RowKit

theorem _root_.Go.Proofs.YtlmjlffipinjiabDoor.OR.lower {w : World} {base base' : Nat} {v : Value} {ls : List (List Nat)} (h : OR w base v ls) (hb : base' ≤ base) : OR w base' v ls := by
  obtain ⟨vals, h1, h2⟩ := h
  exact ⟨vals, orow_base h1 hb, fun i u l hu hl => orow_base (h2 i u l hu hl) hb⟩
set_option maxRecDepth 100000 in
set_option maxHeartbeats 4000000 in
theorem Blocks_bad (s : Int) (L : List Int) (v : Value) (w : World) (hv : Sl w v L) (hll : L.length ≤ maxLen) (hz : hF s L ≠ 0) :
    Calls Tryd.prog 8 #[.agg #[.int .i64 s, v]] w fun e w' => e = .returned (.tuple #[.agg #[.int .i64 0, .slice none 0 0], .int .i64 (hF s L : Int)]) ∧ Below w.heap.size w w' := by
  have b0 := Below.next (balloc w (.cells #[.int .i64 s, v] 27)) (balloc _ (.cells #[.int .i64 0, .slice none 0 0] 37))
  have C := Check_any s L v _ (hv.below b0) hll
  obtain ⟨u, Hu⟩ : ∃ u, Hid (hF s L = u) := ⟨_, rfl⟩
  rw [Hu.out] at C hz ⊢
  have hne : ((u : Int) != 0) = true := by simp; omega
  clear hz
  obtain ⟨va, vn, vc, rfl⟩ : ∃ a n c, v = .slice a n c := by obtain ⟨a, c, rfl, _⟩ := hv; exact ⟨_, _, _, rfl⟩
  have HK : Hid (((w.alloc (.cells #[.int .i64 s, .slice va vn vc] 27)).alloc (.cells #[.int .i64 0, .slice none 0 0] 37)).heap[w.heap.size + 1]? = some (.cells #[.int .i64 0, .slice none 0 0] 37 (0, 0))) := second_box _ _ _ _
  clear hv
  go_enter Tryd.func8, Tryd.ntmps8
  go_wp2_with (go_at_call 23; refine C.mono ?_; rintro e w1 ⟨rfl, b1⟩; clear C; have hR := (b1.block (w.heap.size + 1) (by rw [two_boxes]; omega)).trans HK.out; have a2 : w1.cell? ⟨w.heap.size + 1, 0, none⟩ = some (.int .i64 0) := (by rw [cell_of_row _ _ _ _ _ _ hR]; rfl); have a3 : w1.cell? ⟨w.heap.size + 1, 1, none⟩ = some (.slice none 0 0) := (by rw [cell_of_row _ _ _ _ _ _ hR]; rfl); have f0 := frozen_of_row w1 (w.heap.size + 1) 0 _ _ hR; have f1 := frozen_of_row w1 (w.heap.size + 1) 1 _ _ hR)
  have hn1 := heap_setCell_same w1 (w.heap.size + 1) 0 _ _ (.int .i64 0) hR
  have hn2 := heap_setCell_same _ (w.heap.size + 1) 1 _ _ (.slice none 0 0) hn1
  exact post_d2 2 3 Tryd.results8 rfl hn2 rfl rfl ⟨rfl, ((Below.next b0 b1).setCell (by show w.heap.size ≤ w.heap.size + 1; omega) _).setCell (by show w.heap.size ≤ w.heap.size + 1; omega) _⟩
set_option maxRecDepth 100000 in
set_option maxHeartbeats 4000000 in
theorem Blocks_small (n : Nat) (L : List Int) (v : Value) (w : World) (hv : Sl w v L) (G : GoodH n L) (h4 : n < 4) :
    Calls Tryd.prog 8 #[.agg #[.int .i64 (n : Int), v]] w fun e w' => e = .returned (.tuple #[.agg #[.int .i64 0, .slice none 0 0], .int .i64 2]) ∧ Below w.heap.size w w' := by
  have b0 := Below.next (balloc w (.cells #[.int .i64 (n : Int), v] 27)) (balloc _ (.cells #[.int .i64 0, .slice none 0 0] 37))
  have hml : L.length ≤ maxLen := by rw [G.len]; have := Nat.mul_le_mul G.le G.le; unfold maxLen; omega
  have C := Check_any n L v _ (hv.below b0) hml
  rw [hF_good G] at C
  have d4 : decide ((n : Int) < 4) = true := by simp; omega
  obtain ⟨va, vn, vc, rfl⟩ : ∃ a n c, v = .slice a n c := by obtain ⟨a, c, rfl, _⟩ := hv; exact ⟨_, _, _, rfl⟩
  have HK : Hid (((w.alloc (.cells #[.int .i64 (n : Int), .slice va vn vc] 27)).alloc (.cells #[.int .i64 0, .slice none 0 0] 37)).heap[w.heap.size + 1]? = some (.cells #[.int .i64 0, .slice none 0 0] 37 (0, 0))) := second_box _ _ _ _
  have HK0 : Hid (((w.alloc (.cells #[.int .i64 (n : Int), .slice va vn vc] 27)).alloc (.cells #[.int .i64 0, .slice none 0 0] 37)).heap[w.heap.size]? = some (.cells #[.int .i64 (n : Int), .slice va vn vc] 27 (0, 0))) := first_box _ _ _ _
  clear hv hml
  go_enter Tryd.func8, Tryd.ntmps8
  go_wp2_with (go_at_call 23; refine C.mono ?_; rintro e w1 ⟨rfl, b1⟩; clear C; have hR := (b1.block (w.heap.size + 1) (by rw [two_boxes]; omega)).trans HK.out; have a2 : w1.cell? ⟨w.heap.size + 1, 0, none⟩ = some (.int .i64 0) := (by rw [cell_of_row _ _ _ _ _ _ hR]; rfl); have a3 : w1.cell? ⟨w.heap.size + 1, 1, none⟩ = some (.slice none 0 0) := (by rw [cell_of_row _ _ _ _ _ _ hR]; rfl); have f0 := frozen_of_row w1 (w.heap.size + 1) 0 _ _ hR; have f1 := frozen_of_row w1 (w.heap.size + 1) 1 _ _ hR; have hR0 := (b1.block w.heap.size (by rw [two_boxes]; omega)).trans HK0.out; have x0 : w1.cell? ⟨w.heap.size, 0, none⟩ = some (.int .i64 (n : Int)) := (by rw [cell_of_row _ _ _ _ _ _ hR0]; rfl))
  have hn1 := heap_setCell_same w1 (w.heap.size + 1) 0 _ _ (.int .i64 0) hR
  have hn2 := heap_setCell_same _ (w.heap.size + 1) 1 _ _ (.slice none 0 0) hn1
  exact post_d2 2 3 Tryd.results8 rfl hn2 rfl rfl ⟨rfl, ((Below.next b0 b1).setCell (by show w.heap.size ≤ w.heap.size + 1; omega) _).setCell (by show w.heap.size ≤ w.heap.size + 1; omega) _⟩
set_option maxRecDepth 100000 in
set_option maxHeartbeats 8000000 in
theorem Blocks_ok (n : Nat) (L : List Int) (v : Value) (w : World) (hv : Sl w v L) (G : GoodH n L) (h4 : 4 ≤ n) :
    Calls Tryd.prog 8 #[.agg #[.int .i64 (n : Int), v]] w fun e w' => (∃ y, e = .returned (.tuple #[.agg #[.int .i64 ((n - 1 : Nat) : Int), y], .int .i64 0]) ∧ OR w' (w.heap.size + 2) y (hbL (n - 1) (evn (mx n L)))) ∧ Below w.heap.size w w' := by
  have hz99 : n * n ≤ 999 := Nat.le_trans (Nat.mul_le_mul G.le G.le) (by decide)
  have hml : L.length ≤ maxLen := by rw [G.len]; unfold maxLen; omega
  have b0 := Below.next (balloc w (.cells #[.int .i64 (n : Int), v] 27)) (balloc _ (.cells #[.int .i64 0, .slice none 0 0] 37))
  have C := Check_any n L v _ (hv.below b0) hml
  rw [hF_good G] at C
  have A1 : Hid (∀ W, Below w.heap.size w W → Calls Tryd.prog 26 #[.agg #[.int .i64 (n : Int), v]] W fun e w' => (∃ y, e = .returned y ∧ Teller y n n (mx n L) w') ∧ Below W.heap.size W w') := fun W b => asked_any n L v W (hv.below b) G.len G.le
  have A2 : Hid (∀ y W, Teller y n n (mx n L) W → Calls Tryd.prog 25 #[y] W fun e w' => (∃ y, e = .returned y ∧ Teller y n n (evn (mx n L)) w') ∧ Below W.heap.size W w') := fun y W hT => even_any n (mx n L) y W (fun i j hi hj => G.had.one i j hi hj) hT
  have A3 : Hid (∀ y W, Teller y n n (evn (mx n L)) W → Calls Tryd.prog 24 #[.int .i64 (n : Int), y] W fun e w' => (∃ y, e = .returned (.agg #[.int .i64 ((n - 1 : Nat) : Int), y]) ∧ OR w' (W.heap.size + 2) y (hbL (n - 1) (evn (mx n L)))) ∧ Below W.heap.size W w') := fun y W hT => by
    have hn : n - 1 + 1 = n := by omega
    have h := blocks_any (n - 1) (evn (mx n L)) y W (by have := G.le; omega) (by rw [hn]; exact hT)
    rw [hn] at h
    exact h
  obtain ⟨a, off, cap, rfl, ha, _⟩ := hv.form G.len (Nat.mul_pos G.pos G.pos)
  obtain ⟨z, Hz⟩ : ∃ z, Hid (n * n = z) := ⟨_, rfl⟩
  obtain ⟨F, HF⟩ : ∃ F, Hid (hbL (n - 1) (evn (mx n L)) = F) := ⟨_, rfl⟩
  rw [HF.out] at A3 ⊢
  obtain ⟨p, Hp⟩ : ∃ p, Hid (n - 1 = p) := ⟨_, rfl⟩
  rw [Hp.out] at A3 ⊢
  rw [Hz.out] at hz99 b0 C A1 ⊢
  have d4 : decide ((n : Int) < 4) = false := by simp; omega
  have HB0 : Hid (Below w.heap.size w ((w.alloc (.cells #[.int .i64 (n : Int), .slice (some ⟨a, off, none⟩) z cap] 27)).alloc (.cells #[.int .i64 0, .slice none 0 0] 37))) := b0
  have HK0 : Hid (((w.alloc (.cells #[.int .i64 (n : Int), .slice (some ⟨a, off, none⟩) z cap] 27)).alloc (.cells #[.int .i64 0, .slice none 0 0] 37)).heap[w.heap.size]? = some (.cells #[.int .i64 (n : Int), .slice (some ⟨a, off, none⟩) z cap] 27 (0, 0))) := first_box _ _ _ _
  have HK : Hid (((w.alloc (.cells #[.int .i64 (n : Int), .slice (some ⟨a, off, none⟩) z cap] 27)).alloc (.cells #[.int .i64 0, .slice none 0 0] 37)).heap[w.heap.size + 1]? = some (.cells #[.int .i64 0, .slice none 0 0] 37 (0, 0))) := second_box _ _ _ _
  clear hv G hml b0
  go_enter Tryd.func8, Tryd.ntmps8
  go_wp2_with (go_at_call 23; refine C.mono ?_; rintro e w1 ⟨rfl, b1⟩; clear C; have B1 := Below.next HB0.out b1; have hR0 := (b1.block w.heap.size (by rw [two_boxes]; omega)).trans HK0.out; have hR1 := (b1.block (w.heap.size + 1) (by rw [two_boxes]; omega)).trans HK.out; have hs1 := b1.size; rw [two_boxes] at hs1; have x0 : w1.cell? ⟨w.heap.size, 0, none⟩ = some (.int .i64 (n : Int)) := (by rw [cell_of_row _ _ _ _ _ _ hR0]; rfl))
  have HP : Hid (∀ X, Below w1.heap.size w1 X → (X.cell? ⟨w.heap.size, 0, none⟩ = some (.int .i64 (n : Int)) ∧ X.rangeAt w.heap.size 0 [.int .i64 (n : Int), .slice (some ⟨a, off, none⟩) z cap])) := fun X bX => by
    have h := (bX.block w.heap.size (by omega)).trans hR0
    have x0 : X.cell? ⟨w.heap.size, 0, none⟩ = some (.int .i64 (n : Int)) := by rw [cell_of_row _ _ _ _ _ _ h]; rfl
    have x1 : X.cell? ⟨w.heap.size, 1, none⟩ = some (.slice (some ⟨a, off, none⟩) z cap) := by rw [cell_of_row _ _ _ _ _ _ h]; rfl
    exact ⟨x0, range_two X _ _ _ x0 x1⟩
  refine wp_region_noPanic ?_
  refine wp_region_held_drew (S := fun w' => w'.cell? ⟨w.heap.size, 0, none⟩ = some (.int .i64 (n : Int)) ∧ w'.rangeAt w.heap.size 0 [.int .i64 (n : Int), .slice (some ⟨a, off, none⟩) z cap]) (by kernel_rfl) (HP.out _ (Below.refl _ w1).drew) (fun hSx => ?_)
  refine wpAnyH_take (i := 0) (v := .pointer (some ⟨w.heap.size, 0, none⟩)) rfl (by kernel_rfl) (by kernel_rfl) (by kernel_rfl) (fun _ _ _ h => h) (Or.inl ⟨by rfl, fun w' hSw => by (try dsimp only at hSw); go_simp⟩) hSx ?_
  try simp only [Act.put, List.setIfInBounds_toArray]
  refine wpAnyH_take (i := 1) (v := .int .i64 (n : Int)) rfl (by kernel_rfl) (by kernel_rfl) (by kernel_rfl) (fun _ _ _ h => h) (Or.inl ⟨by rfl, fun w' hSw => by (try dsimp only at hSw); have hSw1 := hSw.1; go_simp⟩) hSx ?_
  try simp only [Act.put]
  refine wpAnyH_take (i := 2) (v := .agg #[.int .i64 (n : Int), .slice (some ⟨a, off, none⟩) z cap]) rfl (by kernel_rfl) (by kernel_rfl) (by kernel_rfl) (fun _ _ _ h => h) (yieldsIf_load_mid (by rfl) 27 _ rfl w.heap.size 0 rfl [.int .i64 (n : Int), .slice (some ⟨a, off, none⟩) z cap] _ (fun _ h => h.2) Tryd.underlying27 rfl inf24) hSx ?_
  try simp only [Act.put]
  refine wpAnyH_ready (rs := [3]) (by kernel_rfl) (by simp) ?_
  refine AllReadyH.cons rfl (fun J hJ => ?_) AllReadyH.nil
  go_simp
  refine (A1.out _ B1.drew).mono ?_
  rintro e w5 ⟨⟨y, rfl, hT⟩, b5⟩
  have b15 := Below.next (Below.refl _ w1).drew b5
  go_wp2_with fail
  refine hJ.out _ _ (HP.out _ b15) (fun hSy => ?_)
  clear hJ J
  try simp only [Act.put, List.setIfInBounds_toArray, List.set_cons_zero, List.set_cons_succ]
  refine wpAnyH_ready (rs := [4]) (by kernel_rfl) (by simp) ?_
  refine AllReadyH.cons rfl (fun J hJ => ?_) AllReadyH.nil
  go_simp
  refine (A2.out y w5 hT).mono ?_
  rintro e w6 ⟨⟨y6, rfl, hT6⟩, b6⟩
  have b16 := Below.next b15 b6
  go_wp2_with fail
  refine hJ.out _ _ (HP.out _ b16) (fun hSz => ?_)
  clear hJ J
  try simp only [Act.put, List.setIfInBounds_toArray, List.set_cons_zero, List.set_cons_succ]
  refine wpAnyH_ready (rs := [5]) (by kernel_rfl) (by simp) ?_
  refine AllReadyH.cons rfl (fun J hJ => ?_) AllReadyH.nil
  go_simp
  refine (A3.out y6 w6 hT6).mono ?_
  rintro e w7 ⟨⟨y7, rfl, hW⟩, b7⟩
  have b17 := Below.next b16 b7
  have hs6 := b16.size
  have hR2 := (b17.block (w.heap.size + 1) (by omega)).trans hR1
  obtain ⟨og, oc, rfl⟩ := hW.cap
  generalize F.length = ol at *
  have a2 : w7.cell? ⟨w.heap.size + 1, 0, none⟩ = some (.int .i64 0) := by rw [cell_of_row _ _ _ _ _ _ hR2]; rfl
  have a3 : w7.cell? ⟨w.heap.size + 1, 1, none⟩ = some (.slice none 0 0) := by rw [cell_of_row _ _ _ _ _ _ hR2]; rfl
  have f0 := frozen_of_row w7 (w.heap.size + 1) 0 _ _ hR2
  have f1 := frozen_of_row w7 (w.heap.size + 1) 1 _ _ hR2
  go_wp2_with fail
  refine hJ.out _ _ (HP.out _ b17) (fun hSu => ?_)
  clear hJ J
  try simp only [Act.put, List.setIfInBounds_toArray, List.set_cons_zero, List.set_cons_succ]
  have hS8 : ((w7.setCell ⟨w.heap.size + 1, 0, none⟩ (.int .i64 (p : Int))).setCell ⟨w.heap.size + 1, 1, none⟩ (.slice og ol oc)).cell? ⟨w.heap.size, 0, none⟩ = some (.int .i64 (n : Int)) ∧ ((w7.setCell ⟨w.heap.size + 1, 0, none⟩ (.int .i64 (p : Int))).setCell ⟨w.heap.size + 1, 1, none⟩ (.slice og ol oc)).rangeAt w.heap.size 0 [.int .i64 (n : Int), .slice (some ⟨a, off, none⟩) z cap] := by
    have h := (heap_setCell_other (w7.setCell ⟨w.heap.size + 1, 0, none⟩ (.int .i64 (p : Int))) ⟨w.heap.size + 1, 1, none⟩ w.heap.size (.slice og ol oc) (by show w.heap.size ≠ w.heap.size + 1; omega)).trans ((heap_setCell_other w7 ⟨w.heap.size + 1, 0, none⟩ w.heap.size (.int .i64 (p : Int)) (by show w.heap.size ≠ w.heap.size + 1; omega)).trans ((b17.block w.heap.size (by omega)).trans hR0))
    have x0 : ((w7.setCell ⟨w.heap.size + 1, 0, none⟩ (.int .i64 (p : Int))).setCell ⟨w.heap.size + 1, 1, none⟩ (.slice og ol oc)).cell? ⟨w.heap.size, 0, none⟩ = some (.int .i64 (n : Int)) := by rw [cell_of_row _ _ _ _ _ _ h]; rfl
    have x1 : ((w7.setCell ⟨w.heap.size + 1, 0, none⟩ (.int .i64 (p : Int))).setCell ⟨w.heap.size + 1, 1, none⟩ (.slice og ol oc)).cell? ⟨w.heap.size, 1, none⟩ = some (.slice (some ⟨a, off, none⟩) z cap) := by rw [cell_of_row _ _ _ _ _ _ h]; rfl
    exact ⟨x0, range_two _ _ _ _ x0 x1⟩
  refine wpAnyH_ready (rs := [6]) (by kernel_rfl) (by simp) ?_
  refine AllReadyH.cons rfl (fun J hJ => ?_) AllReadyH.nil
  go_simp
  refine hJ.out _ _ hS8 (fun hSt => ?_)
  clear hJ J
  try simp only [Act.put, List.setIfInBounds_toArray, List.set_cons_zero, List.set_cons_succ]
  refine wpAnyH_ready (rs := [7]) (by kernel_rfl) (by simp) ?_
  refine AllReadyH.cons rfl (fun J hJ => ?_) AllReadyH.nil
  go_simp
  refine hJ.out _ _ hSt (fun _ => ?_)
  clear hJ J
  try simp only [Act.put, List.setIfInBounds_toArray, List.set_cons_zero, List.set_cons_succ]
  refine wpAnyH_done (by kernel_rfl) ?_ _
  refine NoPanic.normal ?_
  have hn1 := heap_setCell_same w7 (w.heap.size + 1) 0 _ _ (.int .i64 (p : Int)) hR2
  have hn2 := heap_setCell_same _ (w.heap.size + 1) 1 _ _ (.slice og ol oc) hn1
  have hW1 := hW.lower (base' := w.heap.size + 2) (by omega)
  have hW2 := (hW1.keep (w' := w7.setCell ⟨w.heap.size + 1, 0, none⟩ (.int .i64 (p : Int))) (fun b hb _ => heap_setCell_other w7 ⟨w.heap.size + 1, 0, none⟩ b _ (by show b ≠ w.heap.size + 1; omega))).keep (w' := (w7.setCell ⟨w.heap.size + 1, 0, none⟩ (.int .i64 (p : Int))).setCell ⟨w.heap.size + 1, 1, none⟩ (.slice og ol oc)) (fun b hb _ => heap_setCell_other _ ⟨w.heap.size + 1, 1, none⟩ b _ (by show b ≠ w.heap.size + 1; omega))
  have hB9 := ((Below.next B1 b17).setCell (p := ⟨w.heap.size + 1, 0, none⟩) (by show w.heap.size ≤ w.heap.size + 1; omega) (.int .i64 (p : Int))).setCell (p := ⟨w.heap.size + 1, 1, none⟩) (by show w.heap.size ≤ w.heap.size + 1; omega) (.slice og ol oc)
  have HR9 : Hid _ := hn2
  have HW9 : Hid _ := hW2
  clear hSx hSy hSz hSu hSt hS8 a2 a3 f0 f1 hn1 hW1 hW2
  go_wp2
  exact post_d2 2 3 Tryd.results8 rfl HR9.out rfl rfl ⟨⟨_, rfl, HW9.out⟩, hB9⟩
end Go.Proofs.YtlmjlffipinjiabDoor.Hd
