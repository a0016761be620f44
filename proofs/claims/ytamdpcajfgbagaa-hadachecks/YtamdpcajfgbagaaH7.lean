/- The walk of Even. -/
import Derived.Test.YtamdpcajfgbagaaH6
namespace Go.Proofs.Ytamdpcajfgbagaa
open Go.RowKit

theorem two_boxes (w : World) (a b : Obj) : ((w.alloc a).alloc b).heap.size = w.heap.size + 1 + 1 := by simp
theorem second_box (w : World) (a : Obj) (cs : Array Value) (t : TypeId) : ((w.alloc a).alloc (.cells cs t)).heap[w.heap.size + 1]? = some (.cells cs t (0, 0)) := by
  have := heap_alloc_new (w.alloc a) (.cells cs t)
  simpa using this
theorem first_box (w : World) (b : Obj) (cs : Array Value) (t : TypeId) : ((w.alloc (.cells cs t)).alloc b).heap[w.heap.size]? = some (.cells cs t (0, 0)) := (Below.heap_alloc _ _ _ (by simp)).trans (heap_alloc_new w _)
set_option maxHeartbeats 4000000 in
theorem Even_bad (s : Int) (L : List Int) (v : Value) (w : World) (hv : Sl w v L) (hll : L.length ≤ maxLen) (hz : hF s L ≠ 0) :
    Calls Try.prog 9 #[.agg #[.int .i64 s, v]] w fun e w' => e = .returned (.tuple #[.agg #[.int .i64 0, .slice none 0 0], .int .i64 (hF s L : Int)]) ∧ Below w.heap.size w w' := by
  have b0 := Below.next (balloc w (.cells #[.int .i64 s, v] 24)) (balloc _ (.cells #[.int .i64 0, .slice none 0 0] 24))
  have C := Check_any s L v _ (hv.below b0) hll
  obtain ⟨u, Hu⟩ : ∃ u, Hid (hF s L = u) := ⟨_, rfl⟩
  rw [Hu.out] at C hz ⊢
  have hne : ((u : Int) != 0) = true := by simp; omega
  clear hz
  obtain ⟨va, vn, vc, rfl⟩ : ∃ a n c, v = .slice a n c := by obtain ⟨a, c, rfl, _⟩ := hv; exact ⟨_, _, _, rfl⟩
  have HK : Hid (((w.alloc (.cells #[.int .i64 s, .slice va vn vc] 24)).alloc (.cells #[.int .i64 0, .slice none 0 0] 24)).heap[w.heap.size + 1]? = some (.cells #[.int .i64 0, .slice none 0 0] 24 (0, 0))) := second_box _ _ _ _
  clear hv
  go_enter Try.func9, Try.ntmps9
  go_wp2_with (go_at_call 8; refine C.mono ?_; rintro e w1 ⟨rfl, b1⟩; clear C; have hR := (b1.block (w.heap.size + 1) (by rw [two_boxes]; omega)).trans HK.out; have a2 : w1.cell? ⟨w.heap.size + 1, 0, none⟩ = some (.int .i64 0) := (by rw [cell_of_row _ _ _ _ _ _ hR]; rfl); have a3 : w1.cell? ⟨w.heap.size + 1, 1, none⟩ = some (.slice none 0 0) := (by rw [cell_of_row _ _ _ _ _ _ hR]; rfl); have f0 := frozen_of_row w1 (w.heap.size + 1) 0 _ _ hR; have f1 := frozen_of_row w1 (w.heap.size + 1) 1 _ _ hR)
  have hn1 := heap_setCell_same w1 (w.heap.size + 1) 0 _ _ (.int .i64 0) hR
  have hn2 := heap_setCell_same _ (w.heap.size + 1) 1 _ _ (.slice none 0 0) hn1
  exact post_sq2 2 3 Try.results9 rfl hn2 rfl rfl ⟨rfl, ((Below.next b0 b1).setCell (by show w.heap.size ≤ w.heap.size + 1; omega) _).setCell (by show w.heap.size ≤ w.heap.size + 1; omega) _⟩
set_option maxRecDepth 100000 in
set_option maxHeartbeats 8000000 in
theorem Even_ok (n : Nat) (L : List Int) (v : Value) (w : World) (hv : Sl w v L) (G : GoodH n L) :
    Calls Try.prog 9 #[.agg #[.int .i64 (n : Int), v]] w fun e w' => (∃ y, e = .returned (.tuple #[.agg #[.int .i64 (n : Int), y], .int .i64 0]) ∧ w'.ownsRow w.heap.size 3 1 y (n * n) (vi (flI n (evn (mx n L)) (n * n)))) ∧ Below w.heap.size w w' := by
  have hz99 : n * n ≤ 999 := Nat.le_trans (Nat.mul_le_mul G.le G.le) (by decide)
  have hml : L.length ≤ maxLen := by rw [G.len]; unfold maxLen; omega
  have b0 := Below.next (balloc w (.cells #[.int .i64 (n : Int), v] 24)) (balloc _ (.cells #[.int .i64 0, .slice none 0 0] 24))
  have C := Check_any n L v _ (hv.below b0) hml
  rw [hF_good G] at C
  have A1 : Hid (∀ W, Below w.heap.size w W → Calls Try.prog 19 #[.agg #[.int .i64 (n : Int), v]] W fun e w' => (∃ y, e = .returned y ∧ Teller y n n (mx n L) w') ∧ Below W.heap.size W w') := fun W b => asked_any n L v W (hv.below b) G.len G.le
  have A2 : Hid (∀ y W, Teller y n n (mx n L) W → Calls Try.prog 21 #[y] W fun e w' => (∃ y, e = .returned y ∧ Teller y n n (evn (mx n L)) w') ∧ Below W.heap.size W w') := fun y W hT => even_any n (mx n L) y W (fun i j hi hj => G.had.one i j hi hj) hT
  have A3 : Hid (∀ y W, Teller y n n (evn (mx n L)) W → Calls Try.prog 20 #[.int .i64 (n : Int), y] W fun e w' => (∃ y, e = .returned (.agg #[.int .i64 (n : Int), y]) ∧ w'.ownsRow W.heap.size 3 1 y (n * n) (vi (flI n (evn (mx n L)) (n * n)))) ∧ Below W.heap.size W w') := fun y W hT => filled_any n (evn (mx n L)) y W G.pos G.le hT
  obtain ⟨a, off, cap, rfl, ha, _⟩ := hv.form G.len (Nat.mul_pos G.pos G.pos)
  obtain ⟨z, Hz⟩ : ∃ z, Hid (n * n = z) := ⟨_, rfl⟩
  obtain ⟨F, HF⟩ : ∃ F, Hid (vi (flI n (evn (mx n L)) (n * n)) = F) := ⟨_, rfl⟩
  rw [HF.out] at A3 ⊢
  rw [Hz.out] at hz99 b0 C A1 A3 ⊢
  have HB0 : Hid (Below w.heap.size w ((w.alloc (.cells #[.int .i64 (n : Int), .slice (some ⟨a, off, none⟩) z cap] 24)).alloc (.cells #[.int .i64 0, .slice none 0 0] 24))) := b0
  have HK0 : Hid (((w.alloc (.cells #[.int .i64 (n : Int), .slice (some ⟨a, off, none⟩) z cap] 24)).alloc (.cells #[.int .i64 0, .slice none 0 0] 24)).heap[w.heap.size]? = some (.cells #[.int .i64 (n : Int), .slice (some ⟨a, off, none⟩) z cap] 24 (0, 0))) := first_box _ _ _ _
  have HK : Hid (((w.alloc (.cells #[.int .i64 (n : Int), .slice (some ⟨a, off, none⟩) z cap] 24)).alloc (.cells #[.int .i64 0, .slice none 0 0] 24)).heap[w.heap.size + 1]? = some (.cells #[.int .i64 0, .slice none 0 0] 24 (0, 0))) := second_box _ _ _ _
  clear hv G hml b0
  go_enter Try.func9, Try.ntmps9
  go_wp2_with (go_at_call 8; refine C.mono ?_; rintro e w1 ⟨rfl, b1⟩; clear C; have B1 := Below.next HB0.out b1; have hR0 := (b1.block w.heap.size (by rw [two_boxes]; omega)).trans HK0.out; have hR1 := (b1.block (w.heap.size + 1) (by rw [two_boxes]; omega)).trans HK.out; have hs1 := b1.size; rw [two_boxes] at hs1)
  have HP : Hid (∀ X, Below w1.heap.size w1 X → (X.cell? ⟨w.heap.size, 0, none⟩ = some (.int .i64 (n : Int)) ∧ X.rangeAt w.heap.size 0 [.int .i64 (n : Int), .slice (some ⟨a, off, none⟩) z cap])) := fun X bX => by
    have h := (bX.block w.heap.size (by omega)).trans hR0
    have x0 : X.cell? ⟨w.heap.size, 0, none⟩ = some (.int .i64 (n : Int)) := by rw [cell_of_row _ _ _ _ _ _ h]; rfl
    have x1 : X.cell? ⟨w.heap.size, 1, none⟩ = some (.slice (some ⟨a, off, none⟩) z cap) := by rw [cell_of_row _ _ _ _ _ _ h]; rfl
    exact ⟨x0, range_two X _ _ _ x0 x1⟩
  refine wp_region_noPanic ?_
  refine wp_region_held_drew (S := fun w' => w'.cell? ⟨w.heap.size, 0, none⟩ = some (.int .i64 (n : Int)) ∧ w'.rangeAt w.heap.size 0 [.int .i64 (n : Int), .slice (some ⟨a, off, none⟩) z cap]) (by kernel_rfl) (HP.out _ (Below.refl _ w1).drew) (fun hSx => ?_)
  refine wpAnyH_take (i := 0) (v := .pointer (some ⟨w.heap.size, 0, none⟩)) rfl (by kernel_rfl) (by kernel_rfl) (by kernel_rfl) (fun _ _ _ h => h) (Or.inl ⟨by rfl, fun w' hSw => by (try dsimp only at hSw); go_simp⟩) hSx ?_
  try simp only [Act.put, List.setIfInBounds_toArray]
  refine wpAnyH_take (i := 1) (v := .int .i64 (n : Int)) rfl (by kernel_rfl) (by kernel_rfl) (by kernel_rfl) (fun _ _ _ h => h) (Or.inl ⟨by rfl, fun w' hSw => by (try dsimp only at hSw); have hSw1 := hSw.1; go_simp⟩) hSx ?_
  try simp only [Act.put]
  refine wpAnyH_take (i := 2) (v := .agg #[.int .i64 (n : Int), .slice (some ⟨a, off, none⟩) z cap]) rfl (by kernel_rfl) (by kernel_rfl) (by kernel_rfl) (fun _ _ _ h => h) (yieldsIf_load_mid (by rfl) 24 _ rfl w.heap.size 0 rfl [.int .i64 (n : Int), .slice (some ⟨a, off, none⟩) z cap] _ (fun _ h => h.2) Try.underlying24 rfl inf24) hSx ?_
  try simp only [Act.put]
  refine wpAnyH_ready (rs := [3]) (by kernel_rfl) (by simp) ?_
  refine AllReadyH.cons rfl (fun J hJ => ?_) AllReadyH.nil
  go_simp
  refine (A1.out _ B1.drew).mono ?_
  rintro e w5 ⟨⟨y, rfl, hT⟩, b5⟩
  have b15 := Below.next (Below.refl _ w1).drew b5
  go_wp2_with fail
  refine hJ.out _ _ (HP.out _ b15) (fun hSy => ?_)
  clear hJ J
  try simp only [Act.put, List.setIfInBounds_toArray, List.set_cons_zero, List.set_cons_succ]
  refine wpAnyH_ready (rs := [4]) (by kernel_rfl) (by simp) ?_
  refine AllReadyH.cons rfl (fun J hJ => ?_) AllReadyH.nil
  go_simp
  refine (A2.out y w5 hT).mono ?_
  rintro e w6 ⟨⟨y6, rfl, hT6⟩, b6⟩
  have b16 := Below.next b15 b6
  go_wp2_with fail
  refine hJ.out _ _ (HP.out _ b16) (fun hSz => ?_)
  clear hJ J
  try simp only [Act.put, List.setIfInBounds_toArray, List.set_cons_zero, List.set_cons_succ]
  refine wpAnyH_ready (rs := [5]) (by kernel_rfl) (by simp) ?_
  refine AllReadyH.cons rfl (fun J hJ => ?_) AllReadyH.nil
  go_simp
  refine (A3.out y6 w6 hT6).mono ?_
  rintro e w7 ⟨⟨y7, rfl, hW⟩, b7⟩
  have b17 := Below.next b16 b7
  have hs6 := b16.size
  have hR2 := (b17.block (w.heap.size + 1) (by omega)).trans hR1
  obtain ⟨og, ol, oc, rfl⟩ := own_slice hW
  have a2 : w7.cell? ⟨w.heap.size + 1, 0, none⟩ = some (.int .i64 0) := by rw [cell_of_row _ _ _ _ _ _ hR2]; rfl
  have a3 : w7.cell? ⟨w.heap.size + 1, 1, none⟩ = some (.slice none 0 0) := by rw [cell_of_row _ _ _ _ _ _ hR2]; rfl
  have f0 := frozen_of_row w7 (w.heap.size + 1) 0 _ _ hR2
  have f1 := frozen_of_row w7 (w.heap.size + 1) 1 _ _ hR2
  go_wp2_with fail
  refine hJ.out _ _ (HP.out _ b17) (fun hSu => ?_)
  clear hJ J
  try simp only [Act.put, List.setIfInBounds_toArray, List.set_cons_zero, List.set_cons_succ]
  have hS8 : ((w7.setCell ⟨w.heap.size + 1, 0, none⟩ (.int .i64 (n : Int))).setCell ⟨w.heap.size + 1, 1, none⟩ (.slice og ol oc)).cell? ⟨w.heap.size, 0, none⟩ = some (.int .i64 (n : Int)) ∧ ((w7.setCell ⟨w.heap.size + 1, 0, none⟩ (.int .i64 (n : Int))).setCell ⟨w.heap.size + 1, 1, none⟩ (.slice og ol oc)).rangeAt w.heap.size 0 [.int .i64 (n : Int), .slice (some ⟨a, off, none⟩) z cap] := by
    have h := (heap_setCell_other (w7.setCell ⟨w.heap.size + 1, 0, none⟩ (.int .i64 (n : Int))) ⟨w.heap.size + 1, 1, none⟩ w.heap.size (.slice og ol oc) (by show w.heap.size ≠ w.heap.size + 1; omega)).trans ((heap_setCell_other w7 ⟨w.heap.size + 1, 0, none⟩ w.heap.size (.int .i64 (n : Int)) (by show w.heap.size ≠ w.heap.size + 1; omega)).trans ((b17.block w.heap.size (by omega)).trans hR0))
    have x0 : ((w7.setCell ⟨w.heap.size + 1, 0, none⟩ (.int .i64 (n : Int))).setCell ⟨w.heap.size + 1, 1, none⟩ (.slice og ol oc)).cell? ⟨w.heap.size, 0, none⟩ = some (.int .i64 (n : Int)) := by rw [cell_of_row _ _ _ _ _ _ h]; rfl
    have x1 : ((w7.setCell ⟨w.heap.size + 1, 0, none⟩ (.int .i64 (n : Int))).setCell ⟨w.heap.size + 1, 1, none⟩ (.slice og ol oc)).cell? ⟨w.heap.size, 1, none⟩ = some (.slice (some ⟨a, off, none⟩) z cap) := by rw [cell_of_row _ _ _ _ _ _ h]; rfl
    exact ⟨x0, range_two _ _ _ _ x0 x1⟩
  refine wpAnyH_ready (rs := [6]) (by kernel_rfl) (by simp) ?_
  refine AllReadyH.cons rfl (fun J hJ => ?_) AllReadyH.nil
  go_simp
  refine hJ.out _ _ hS8 (fun hSt => ?_)
  clear hJ J
  try simp only [Act.put, List.setIfInBounds_toArray, List.set_cons_zero, List.set_cons_succ]
  refine wpAnyH_ready (rs := [7]) (by kernel_rfl) (by simp) ?_
  refine AllReadyH.cons rfl (fun J hJ => ?_) AllReadyH.nil
  go_simp
  refine hJ.out _ _ hSt (fun _ => ?_)
  clear hJ J
  try simp only [Act.put, List.setIfInBounds_toArray, List.set_cons_zero, List.set_cons_succ]
  refine wpAnyH_done (by kernel_rfl) ?_ _
  refine NoPanic.normal ?_
  have hn1 := heap_setCell_same w7 (w.heap.size + 1) 0 _ _ (.int .i64 (n : Int)) hR2
  have hn2 := heap_setCell_same _ (w.heap.size + 1) 1 _ _ (.slice og ol oc) hn1
  have hW2 := orow_other (orow_other hW ⟨w.heap.size + 1, 0, none⟩ (.int .i64 (n : Int)) (own_diff hW hR2)) ⟨w.heap.size + 1, 1, none⟩ (.slice og ol oc) (own_diff hW hR2)
  have hB9 := ((Below.next B1 b17).setCell (p := ⟨w.heap.size + 1, 0, none⟩) (by show w.heap.size ≤ w.heap.size + 1; omega) (.int .i64 (n : Int))).setCell (p := ⟨w.heap.size + 1, 1, none⟩) (by show w.heap.size ≤ w.heap.size + 1; omega) (.slice og ol oc)
  have HR9 : Hid _ := hn2
  have HW9 : Hid _ := orow_base (base' := w.heap.size) hW2 (by omega)
  clear hSx hSy hSz hSu hSt hS8 a2 a3 f0 f1 hn1 hW2
  go_wp2
  exact post_sq2 2 3 Try.results9 rfl HR9.out rfl rfl ⟨⟨_, rfl, HW9.out⟩, hB9⟩
end Go.Proofs.Ytamdpcajfgbagaa
