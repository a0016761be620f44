/- The walk of the document's CyclicOf. -/
import Derived.Test.YtagpbkcnjogbgaaDoorL17
import Derived.Test.YtagpbkcnjogbgaaDoorL4
import Derived.Test.YtagpbkcnjogbgaaDoorSq
namespace Go.Proofs.YtagpbkcnjogbgaaDoor
open Go.RowKit

theorem fl_next (n k : Nat) (t : Nat → Nat → Nat) : vn (flN n t (k + 1)) = vn (flN n t k) ++ [.int .i64 (t (k / n) (k % n) : Int)] := by
  unfold flN vn
  rw [List.range_succ]
  simp
set_option maxHeartbeats 4000000 in
theorem CyclicOf_far (n : Int) (w : World) (h : n < 1 ∨ 8 < n) : Calls Tryd.prog 11 #[.int .i64 n] w fun e w' => e = .returned (.tuple #[.agg #[.int .i64 0, .slice none 0 0], .int .i64 1]) ∧ Below w.heap.size w w' := by
  have h2 := heap_alloc_new w (.cells #[.int .i64 0, .slice none 0 0] 24)
  have hb := balloc w (.cells #[.int .i64 0, .slice none 0 0] 24)
  have g0 := frozen_of_row _ w.heap.size 0 _ _ h2
  have g1 := frozen_of_row _ w.heap.size 1 _ _ h2
  have y0 : (w.alloc (.cells #[.int .i64 0, .slice none 0 0] 24)).cell? ⟨w.heap.size, 0, none⟩ = some (.int .i64 0) := by rw [cell_of_row _ _ _ _ _ _ h2]; rfl
  have y1 : (w.alloc (.cells #[.int .i64 0, .slice none 0 0] 24)).cell? ⟨w.heap.size, 1, none⟩ = some (.slice none 0 0) := by rw [cell_of_row _ _ _ _ _ _ h2]; rfl
  by_cases h1 : n < 1
  · have hd : decide (n < 1) = true := decide_eq_true h1
    clear h h1
    go_enter Tryd.func11, Tryd.ntmps11
    go_wp2
    exact post_sq2 2 3 Tryd.results11 rfl h2 rfl rfl ⟨rfl, hb⟩
  · have h8 : 8 < n := h.resolve_left h1
    have hd : decide (n < 1) = false := decide_eq_false h1
    have hd2 : decide (8 < n) = true := decide_eq_true h8
    clear h h1 h8
    go_enter Tryd.func11, Tryd.ntmps11
    go_wp2
    exact post_sq2 2 3 Tryd.results11 rfl h2 rfl rfl ⟨rfl, hb⟩
set_option maxRecDepth 100000 in
set_option maxHeartbeats 8000000 in
theorem CyclicOf_ok (n : Nat) (w : World) (h1 : 1 ≤ n) (h8 : n ≤ 8) : Calls Tryd.prog 11 #[.int .i64 (n : Int)] w fun e w' => (∃ y, e = .returned (.tuple #[.agg #[.int .i64 (n : Int), y], .int .i64 0]) ∧ w'.ownsRow w.heap.size 3 1 y (n * n) (vn (flN n (cyc n) (n * n)))) ∧ Below w.heap.size w w' := by
  obtain ⟨i3, ti, tz0, tz1, tz2⟩ := info3
  have HI3 : Hid (Tryd.prog.info? 3 = some i3 ∧ i3.zero = some (.int .i64 0) ∧ i3.size = 1 ∧ i3.bytes = 8) := ⟨ti, tz0, tz1, tz2⟩
  clear ti tz0 tz1 tz2
  obtain ⟨z, Hz⟩ : ∃ z, Hid (z = n * n) := ⟨_, (rfl : n * n = n * n)⟩
  have hz99 : z ≤ 99 := by rw [Hz.out]; exact Nat.le_trans (Nat.mul_le_mul h8 h8) (by decide)
  have hmul : (n : Int) * (n : Int) = (z : Int) := by rw [Hz.out]; simp
  rw [← Hz.out]
  have hd : decide ((n : Int) < 1) = false := decide_eq_false (by omega)
  have hd2 : decide ((8 : Int) < (n : Int)) = false := decide_eq_false (by omega)
  have hn0 : (n : Int) ≠ 0 := by omega
  have hnn : ¬ n = 0 := by omega
  have hnp : (0 : Int) < n := by omega
  go_enter Tryd.func11, Tryd.ntmps11
  go_wp2
  go_loopw [5] (fun i_ wr => ∃ (k : Nat) (o : Value), i_ = .int .i64 (k : Int) ∧ k ≤ z ∧ wr.heap[w.heap.size]? = some (.cells #[.int .i64 0, .slice none 0 0] 24 (0, 0)) ∧ wr.heap[w.heap.size + 1]? = some (.cells #[.int .i64 (n : Int), o] 24 (0, 0)) ∧ wr.ownsRow w.heap.size 3 1 o k (vn (flN n (cyc n) k)) ∧ Below w.heap.size w wr) (fun i _ => (z - intOf i).toNat)
  case atStart =>
    refine ⟨0, .slice none 0 0, rfl, by omega, (Below.heap_alloc _ _ _ (by simp)).trans (heap_alloc_new w _), ?_, World.ownsRow_nil _ _ _ _, Below.next (balloc _ _) (balloc _ _)⟩
    have := heap_alloc_new (w.alloc (.cells #[.int .i64 0, .slice none 0 0] 24)) (.cells #[.int .i64 (n : Int), .slice none 0 0] 24)
    simpa using this
  case round =>
    obtain ⟨k, o, rfl, hk, hR, hO, hW, hB⟩ := hrel
    by_cases hlt : k < z
    · have hdk : decide ((k : Int) < (z : Int)) = true := by simp; omega
      have hdiv : (k : Int) / (n : Int) = ((k / n : Nat) : Int) := by simp
      have hmod : (k : Int) % (n : Int) = ((k % n : Nat) : Int) := by simp
      have HFL := fl_next n k (cyc n)
      have htm1 : (k : Int).tmod (n : Int) = ((k % n : Nat) : Int) := rfl
      obtain ⟨q, Hq⟩ : ∃ q, Hid (k / n = q) := ⟨_, rfl⟩
      obtain ⟨r, Hr⟩ : ∃ q, Hid (k % n = q) := ⟨_, rfl⟩
      have hq99 : q ≤ 99 := by rw [← Hq.out]; exact Nat.le_trans (Nat.div_le_self _ _) (by omega)
      have hr99 : r ≤ 99 := by rw [← Hr.out]; exact Nat.le_trans (Nat.mod_le _ _) (by omega)
      rw [Hq.out] at hdiv HFL
      rw [Hr.out] at hmod HFL htm1
      obtain ⟨t, Ht⟩ : ∃ t, Hid (t = q + r) := ⟨_, (rfl : q + r = q + r)⟩
      have hadd : (q : Int) + (r : Int) = (t : Int) := by rw [Ht.out]; simp
      have ht99 : t ≤ 198 := by rw [Ht.out]; omega
      have hmod2 : (t : Int) % (n : Int) = ((t % n : Nat) : Int) := by simp
      have htm2 : (t : Int).tmod (n : Int) = ((t % n : Nat) : Int) := rfl
      obtain ⟨x, Hx⟩ : ∃ x, Hid (t % n = x) := ⟨_, rfl⟩
      have hx99 : x ≤ 198 := by rw [← Hx.out]; exact Nat.le_trans (Nat.mod_le _ _) (by omega)
      rw [Hx.out] at hmod2 htm2
      have hcy : cyc n q r = x := by unfold cyc; rw [← Ht.out, Hx.out]
      rw [hcy] at HFL
      have HFL2 : Hid (vn (flN n (cyc n) (k + 1)) = vn (flN n (cyc n) k) ++ [.int .i64 (x : Int)]) := HFL
      have hwq : IntKind.i64.wrap (q : Int) = (q : Int) := wrap99 hq99
      have hwr : IntKind.i64.wrap (r : Int) = (r : Int) := wrap99 hr99
      have hwt : IntKind.i64.wrap (t : Int) = (t : Int) := by rw [IntKind.wrap_i64]; omega
      have hwx : IntKind.i64.wrap (x : Int) = (x : Int) := by rw [IntKind.wrap_i64]; omega
      have hc0 : wr.cell? ⟨w.heap.size + 1, 1, none⟩ = some o := by rw [cell_of_row _ _ _ _ _ _ hO]; rfl
      have hlO : w.heap.size + 1 < wr.heap.size := (Array.getElem?_eq_some_iff.1 hO).1
      obtain ⟨fl, Hfl⟩ : ∃ fl, Hid (vn (flN n (cyc n) k) = fl) := ⟨_, rfl⟩
      rw [Hfl.out] at hW HFL2
      have HSZ : Hid (w.heap.size + 1 < wr.heap.size) := hlO
      clear HFL hcy
      go_wp2_with fail
      refine wp_region_noPanic ?_
      refine wp_region_held_drew (S := fun _ => True) (by kernel_rfl) (trivial) (fun hSx => ?_)
      refine wpAnyH_take (i := 0) (v := .pointer (some ⟨w.heap.size + 1, 1, none⟩)) rfl (by kernel_rfl) (by kernel_rfl) (by kernel_rfl) (fun _ _ _ h => h) (Or.inl ⟨by rfl, fun w' hSw => by (try dsimp only at hSw); go_simp⟩) trivial ?_
      try simp only [Act.put, List.setIfInBounds_toArray]
      refine wpAnyH_take (i := 2) (v := .int .i64 (k : Int)) rfl (by kernel_rfl) (by kernel_rfl) (by kernel_rfl) (fun _ _ _ h => h) (Or.inl ⟨by rfl, fun w' hSw => by (try dsimp only at hSw); go_simp⟩) trivial ?_
      try simp only [Act.put]
      refine wpAnyH_take (i := 3) (v := .int .i64 (n : Int)) rfl (by kernel_rfl) (by kernel_rfl) (by kernel_rfl) (fun _ _ _ h => h) (Or.inl ⟨by rfl, fun w' hSw => by (try dsimp only at hSw); go_simp⟩) trivial ?_
      try simp only [Act.put]
      refine wpAnyH_take (i := 4) (v := .int .i64 (q : Int)) rfl (by kernel_rfl) (by kernel_rfl) (by kernel_rfl) (fun _ _ _ h => h) (Or.inl ⟨by rfl, fun w' hSw => by (try dsimp only at hSw); go_simp⟩) trivial ?_
      try simp only [Act.put]
      refine wpAnyH_take (i := 5) (v := .int .i64 (k : Int)) rfl (by kernel_rfl) (by kernel_rfl) (by kernel_rfl) (fun _ _ _ h => h) (Or.inl ⟨by rfl, fun w' hSw => by (try dsimp only at hSw); go_simp⟩) trivial ?_
      try simp only [Act.put]
      refine wpAnyH_take (i := 6) (v := .int .i64 (n : Int)) rfl (by kernel_rfl) (by kernel_rfl) (by kernel_rfl) (fun _ _ _ h => h) (Or.inl ⟨by rfl, fun w' hSw => by (try dsimp only at hSw); go_simp⟩) trivial ?_
      try simp only [Act.put]
      refine wpAnyH_take (i := 7) (v := .int .i64 (r : Int)) rfl (by kernel_rfl) (by kernel_rfl) (by kernel_rfl) (fun _ _ _ h => h) (Or.inl ⟨by rfl, fun w' hSw => by (try dsimp only at hSw); go_simp⟩) trivial ?_
      try simp only [Act.put]
      refine wpAnyH_take (i := 8) (v := .int .i64 (t : Int)) rfl (by kernel_rfl) (by kernel_rfl) (by kernel_rfl) (fun _ _ _ h => h) (Or.inl ⟨by rfl, fun w' hSw => by (try dsimp only at hSw); go_simp⟩) trivial ?_
      try simp only [Act.put]
      refine wpAnyH_take (i := 9) (v := .int .i64 (n : Int)) rfl (by kernel_rfl) (by kernel_rfl) (by kernel_rfl) (fun _ _ _ h => h) (Or.inl ⟨by rfl, fun w' hSw => by (try dsimp only at hSw); go_simp⟩) trivial ?_
      try simp only [Act.put]
      refine wpAnyH_take (i := 10) (v := .int .i64 (x : Int)) rfl (by kernel_rfl) (by kernel_rfl) (by kernel_rfl) (fun _ _ _ h => h) (Or.inl ⟨by rfl, fun w' hSw => by (try dsimp only at hSw); go_simp⟩) trivial ?_
      try simp only [Act.put]
      refine wpAnyH_ready (rs := [1, 11]) (by kernel_rfl) (by simp) ?_
      refine AllReadyH.cons rfl (fun J hJ => ?_) (AllReadyH.cons rfl (fun J hJ => ?_) AllReadyH.nil)
      · go_simp
        refine hJ.out _ _ trivial (fun _ => ?_)
        clear hJ J
        try simp only [Act.put, List.setIfInBounds_toArray, List.set_cons_zero, List.set_cons_succ]
        refine wpAnyH_ready (rs := [11]) (by kernel_rfl) (by simp) ?_
        refine AllReadyH.cons rfl (fun J hJ => ?_) AllReadyH.nil
        go_simp
        have hB6 := balloc wr.drew (.cells #[.int .i64 (x : Int)] 3)
        have hR6 := (hB6.block _ (show w.heap.size < wr.heap.size by omega)).trans hR
        have hO6 := (hB6.block _ hlO).trans hO
        have hc6 : (wr.drew.alloc (.cells #[.int .i64 (x : Int)] 3)).cell? ⟨w.heap.size + 1, 1, none⟩ = some o := by rw [cell_of_row _ _ _ _ _ _ hO6]; rfl
        refine hJ.out _ _ trivial (fun _ => ?_)
        clear hJ J
        try simp only [Act.put, List.setIfInBounds_toArray, List.set_cons_zero, List.set_cons_succ]
        refine wpAnyH_ready (rs := [12]) (by kernel_rfl) (by simp) ?_
        refine AllReadyH.cons rfl (fun J hJ => ?_) AllReadyH.nil
        rw [if_pos (by rfl)]
        refine wp_append_lies _ _ _ 22 rfl w.heap.size 3 i3 (.int .i64 0) 1 8 und22 HI3.out.1 HI3.out.2.1 HI3.out.2.2.1 HI3.out.2.2.2 rfl (by decide) o k fl rfl (orow_below hW (Below.next (Below.refl _ wr).drew hB6)) ⟨wr.heap.size, 0, none⟩ 1 1 [.int .i64 (x : Int)] rfl rfl (news_one wr.drew _) (fun u hu => by simp at hu; subst hu; rfl) (by decide) (by unfold maxLen; omega) (by omega) (by have := hB.size; simp; omega) _ rfl ?_
        intro og oc w7 hW7 hg7 _ _
        have hR7 := (hg7.block w.heap.size (by simp; omega) (fun e => own_diff hW hR e.symm)).trans hR6
        have hO7 := (hg7.block (w.heap.size + 1) (by simp; omega) (fun e => own_diff hW hO e.symm)).trans hO6
        have hB7 : Below w.heap.size w w7 := (Below.next (Below.next hB (Below.refl _ wr).drew) hB6).grown hg7 (by have := hB.size; simp; omega) (fun j hj => by
          obtain ⟨_, ⟨rfl, _⟩ | ⟨g', cap, cur, rfl, h8, _⟩⟩ := id hW
          · cases hj
          · obtain rfl : g' = j := by simpa [Value.ownBlock] using hj
            exact h8)
        have hf7 : w7.frozen? ⟨w.heap.size + 1, 1, none⟩ = false := frozen_of_row w7 _ 1 _ _ hO7
        have hq7 : w7.cell? ⟨w.heap.size + 1, 1, none⟩ = some o := by rw [cell_of_row _ _ _ _ _ _ hO7]; rfl
        refine hJ.out _ _ trivial (fun _ => ?_)
        clear hJ J
        try simp only [Act.put, List.setIfInBounds_toArray]
        refine wpAnyH_take (i := 13) (v := .pointer (some ⟨w.heap.size + 1, 1, none⟩)) rfl (by kernel_rfl) (by kernel_rfl) (by kernel_rfl) (fun _ _ _ h => h) (Or.inl ⟨by rfl, fun w' hSw => by (try dsimp only at hSw); go_simp⟩) trivial ?_
        try simp only [Act.put]
        refine wpAnyH_ready (rs := [14]) (by kernel_rfl) (by simp) ?_
        refine AllReadyH.cons rfl (fun J hJ => ?_) AllReadyH.nil
        go_simp
        refine hJ.out _ _ trivial (fun _ => ?_)
        clear hJ J
        try simp only [Act.put, List.setIfInBounds_toArray, List.set_cons_zero, List.set_cons_succ]
        refine wpAnyH_done (by kernel_rfl) ?_ _
        refine NoPanic.normal ?_
        have hW8 := orow_other hW7 ⟨w.heap.size + 1, 1, none⟩ (.slice (some ⟨og, 0, none⟩) (k + 1) oc) (own_diff hW7 hO7)
        have hO8 : (w7.setCell ⟨w.heap.size + 1, 1, none⟩ (.slice (some ⟨og, 0, none⟩) (k + 1) oc)).heap[w.heap.size + 1]? = some (.cells #[.int .i64 (n : Int), .slice (some ⟨og, 0, none⟩) (k + 1) oc] 24 (0, 0)) := by rw [heap_setCell_same w7 _ 1 _ _ _ hO7]; rfl
        have hR8 := (heap_setCell_other w7 ⟨w.heap.size + 1, 1, none⟩ w.heap.size (.slice (some ⟨og, 0, none⟩) (k + 1) oc) (by show w.heap.size ≠ w.heap.size + 1; omega)).trans hR7
        have hB8 := hB7.setCell (p := ⟨w.heap.size + 1, 1, none⟩) (by show w.heap.size ≤ w.heap.size + 1; omega) (.slice (some ⟨og, 0, none⟩) (k + 1) oc)
        clear hq7 hf7 hc6 hc0
        go_wp2
        go_roundw
        case rel => exact ⟨k + 1, _, by go_num, by omega, hR8, hO8, by rw [HFL2.out]; exact hW8, hB8⟩
        case measure => simp [intOf]; omega
      · go_simp
        have hB6 := balloc wr.drew (.cells #[.int .i64 (x : Int)] 3)
        have hR6 := (hB6.block _ (show w.heap.size < wr.heap.size by omega)).trans hR
        have hO6 := (hB6.block _ hlO).trans hO
        have hc6 : (wr.drew.alloc (.cells #[.int .i64 (x : Int)] 3)).cell? ⟨w.heap.size + 1, 1, none⟩ = some o := by rw [cell_of_row _ _ _ _ _ _ hO6]; rfl
        refine hJ.out _ _ trivial (fun _ => ?_)
        clear hJ J
        try simp only [Act.put, List.setIfInBounds_toArray, List.set_cons_zero, List.set_cons_succ]
        refine wpAnyH_ready (rs := [1]) (by kernel_rfl) (by simp) ?_
        refine AllReadyH.cons rfl (fun J hJ => ?_) AllReadyH.nil
        go_simp
        refine hJ.out _ _ trivial (fun _ => ?_)
        clear hJ J
        try simp only [Act.put, List.setIfInBounds_toArray, List.set_cons_zero, List.set_cons_succ]
        refine wpAnyH_ready (rs := [12]) (by kernel_rfl) (by simp) ?_
        refine AllReadyH.cons rfl (fun J hJ => ?_) AllReadyH.nil
        rw [if_pos (by rfl)]
        refine wp_append_lies _ _ _ 22 rfl w.heap.size 3 i3 (.int .i64 0) 1 8 und22 HI3.out.1 HI3.out.2.1 HI3.out.2.2.1 HI3.out.2.2.2 rfl (by decide) o k fl rfl (orow_below hW (Below.next (Below.refl _ wr).drew hB6)) ⟨wr.heap.size, 0, none⟩ 1 1 [.int .i64 (x : Int)] rfl rfl (news_one wr.drew _) (fun u hu => by simp at hu; subst hu; rfl) (by decide) (by unfold maxLen; omega) (by omega) (by have := hB.size; simp; omega) _ rfl ?_
        intro og oc w7 hW7 hg7 _ _
        have hR7 := (hg7.block w.heap.size (by simp; omega) (fun e => own_diff hW hR e.symm)).trans hR6
        have hO7 := (hg7.block (w.heap.size + 1) (by simp; omega) (fun e => own_diff hW hO e.symm)).trans hO6
        have hB7 : Below w.heap.size w w7 := (Below.next (Below.next hB (Below.refl _ wr).drew) hB6).grown hg7 (by have := hB.size; simp; omega) (fun j hj => by
          obtain ⟨_, ⟨rfl, _⟩ | ⟨g', cap, cur, rfl, h8, _⟩⟩ := id hW
          · cases hj
          · obtain rfl : g' = j := by simpa [Value.ownBlock] using hj
            exact h8)
        have hf7 : w7.frozen? ⟨w.heap.size + 1, 1, none⟩ = false := frozen_of_row w7 _ 1 _ _ hO7
        have hq7 : w7.cell? ⟨w.heap.size + 1, 1, none⟩ = some o := by rw [cell_of_row _ _ _ _ _ _ hO7]; rfl
        refine hJ.out _ _ trivial (fun _ => ?_)
        clear hJ J
        try simp only [Act.put, List.setIfInBounds_toArray]
        refine wpAnyH_take (i := 13) (v := .pointer (some ⟨w.heap.size + 1, 1, none⟩)) rfl (by kernel_rfl) (by kernel_rfl) (by kernel_rfl) (fun _ _ _ h => h) (Or.inl ⟨by rfl, fun w' hSw => by (try dsimp only at hSw); go_simp⟩) trivial ?_
        try simp only [Act.put]
        refine wpAnyH_ready (rs := [14]) (by kernel_rfl) (by simp) ?_
        refine AllReadyH.cons rfl (fun J hJ => ?_) AllReadyH.nil
        go_simp
        refine hJ.out _ _ trivial (fun _ => ?_)
        clear hJ J
        try simp only [Act.put, List.setIfInBounds_toArray, List.set_cons_zero, List.set_cons_succ]
        refine wpAnyH_done (by kernel_rfl) ?_ _
        refine NoPanic.normal ?_
        have hW8 := orow_other hW7 ⟨w.heap.size + 1, 1, none⟩ (.slice (some ⟨og, 0, none⟩) (k + 1) oc) (own_diff hW7 hO7)
        have hO8 : (w7.setCell ⟨w.heap.size + 1, 1, none⟩ (.slice (some ⟨og, 0, none⟩) (k + 1) oc)).heap[w.heap.size + 1]? = some (.cells #[.int .i64 (n : Int), .slice (some ⟨og, 0, none⟩) (k + 1) oc] 24 (0, 0)) := by rw [heap_setCell_same w7 _ 1 _ _ _ hO7]; rfl
        have hR8 := (heap_setCell_other w7 ⟨w.heap.size + 1, 1, none⟩ w.heap.size (.slice (some ⟨og, 0, none⟩) (k + 1) oc) (by show w.heap.size ≠ w.heap.size + 1; omega)).trans hR7
        have hB8 := hB7.setCell (p := ⟨w.heap.size + 1, 1, none⟩) (by show w.heap.size ≤ w.heap.size + 1; omega) (.slice (some ⟨og, 0, none⟩) (k + 1) oc)
        clear hq7 hf7 hc6 hc0
        go_wp2
        go_roundw
        case rel => exact ⟨k + 1, _, by go_num, by omega, hR8, hO8, by rw [HFL2.out]; exact hW8, hB8⟩
        case measure => simp [intOf]; omega
    · have hdk : decide ((k : Int) < (z : Int)) = false := by simp; omega
      obtain rfl : k = z := by omega
      have a0 : wr.cell? ⟨w.heap.size + 1, 0, none⟩ = some (.int .i64 (n : Int)) := by rw [cell_of_row _ _ _ _ _ _ hO]; rfl
      have a1 : wr.cell? ⟨w.heap.size + 1, 1, none⟩ = some o := by rw [cell_of_row _ _ _ _ _ _ hO]; rfl
      have a2 : wr.cell? ⟨w.heap.size, 0, none⟩ = some (.int .i64 0) := by rw [cell_of_row _ _ _ _ _ _ hR]; rfl
      have a3 : wr.cell? ⟨w.heap.size, 1, none⟩ = some (.slice none 0 0) := by rw [cell_of_row _ _ _ _ _ _ hR]; rfl
      have f0 : wr.frozen? ⟨w.heap.size, 0, none⟩ = false := frozen_of_row wr _ 0 _ _ hR
      have f1 : wr.frozen? ⟨w.heap.size, 1, none⟩ = false := frozen_of_row wr _ 1 _ _ hR
      obtain ⟨og, ol, oc, rfl⟩ := own_slice hW
      have hn1 := heap_setCell_same wr w.heap.size 0 _ _ (.int .i64 (n : Int)) hR
      have hn2 := heap_setCell_same _ w.heap.size 1 _ _ (.slice og ol oc) hn1
      have hW2 := orow_other (orow_other hW ⟨w.heap.size, 0, none⟩ (.int .i64 (n : Int)) (own_diff hW hR)) ⟨w.heap.size, 1, none⟩ (.slice og ol oc) (own_diff hW hR)
      go_wp2
      exact post_sq2 2 3 Tryd.results11 rfl hn2 rfl rfl ⟨⟨_, rfl, hW2⟩, (hB.setCell (Nat.le_refl _) _).setCell (Nat.le_refl _) _⟩
end Go.Proofs.YtagpbkcnjogbgaaDoor
