/- The walks of Intercalates, Transversals. -/
import Derived.Test.YtagpbkcnjogbgabDoorL3
import Derived.Test.YtagpbkcnjogbgabDoorL10
import Derived.Test.YtagpbkcnjogbgabDoorL11
namespace Go.Proofs.YtagpbkcnjogbgabDoor
open Go.RowKit

/-- A square in a box, as it is read later. -/
theorem one_box (s : Int) (u : Value) (w : World) : ∀ W, Below (w.alloc (.cells #[.int .i64 s, u] 27)).heap.size (w.alloc (.cells #[.int .i64 s, u] 27)) W →
    W.cell? ⟨w.heap.size, 0, none⟩ = some (.int .i64 s) ∧ W.cell? ⟨w.heap.size, 1, none⟩ = some u ∧ W.rangeAt w.heap.size 0 [.int .i64 s, u] := fun W b => by
  have k1 := (b.block w.heap.size (by simp)).trans (heap_alloc_new w (.cells #[.int .i64 s, u] 27))
  have c0 : W.cell? ⟨w.heap.size, 0, none⟩ = some (.int .i64 s) := by rw [cell_of_row _ _ _ _ _ _ k1]; rfl
  have c1 : W.cell? ⟨w.heap.size, 1, none⟩ = some u := by rw [cell_of_row _ _ _ _ _ _ k1]; rfl
  exact ⟨c0, c1, range_two W _ _ _ c0 c1⟩

set_option maxHeartbeats 4000000 in
theorem Intercalates_bad (s : Int) (L : List Int) (v : Value) (w : World) (hv : Sl w v L) (hl : L.length ≤ maxLen) (h : lF s L ≠ 0) :
    Calls Tryd.prog 10 #[.agg #[.int .i64 s, v]] w fun e w' => e = .returned (.tuple #[.int .i64 0, .int .i64 (lF s L : Int)]) ∧ Below w.heap.size w w' := by
  have C := fun W (b : Below w.heap.size w W) => Check_any s L v W (hv.below b) hl
  have hz : ((lF s L : Int) != 0) = true := by simp; omega
  generalize lF s L = z at *
  clear hv
  go_enter Tryd.func10, Tryd.ntmps10
  go_wp2_with (go_at_call 9; refine (C _ (balloc w _)).mono ?_; rintro e w1 ⟨rfl, b1⟩)
  go_ret2
  exact ⟨rfl, Below.next (balloc w _) b1⟩

set_option maxHeartbeats 4000000 in
theorem Transversals_bad (s : Int) (L : List Int) (v : Value) (w : World) (hv : Sl w v L) (hl : L.length ≤ maxLen) (h : lF s L ≠ 0) :
    Calls Tryd.prog 11 #[.agg #[.int .i64 s, v]] w fun e w' => e = .returned (.tuple #[.int .i64 0, .int .i64 (lF s L : Int)]) ∧ Below w.heap.size w w' := by
  have C := fun W (b : Below w.heap.size w W) => Check_any s L v W (hv.below b) hl
  have hz : ((lF s L : Int) != 0) = true := by simp; omega
  generalize lF s L = z at *
  clear hv
  go_enter Tryd.func11, Tryd.ntmps11
  go_wp2_with (go_at_call 9; refine (C _ (balloc w _)).mono ?_; rintro e w1 ⟨rfl, b1⟩)
  go_ret2
  exact ⟨rfl, Below.next (balloc w _) b1⟩

set_option maxRecDepth 100000 in
set_option maxHeartbeats 8000000 in
theorem Intercalates_ok (n : Nat) (L : List Int) (v : Value) (w : World) (hv : Sl w v L) (G : GoodS n L) :
    Calls Tryd.prog 10 #[.agg #[.int .i64 (n : Int), v]] w fun e w' => e = .returned (.tuple #[.int .i64 (icN n (sq n L) : Int), .int .i64 0]) ∧ Below w.heap.size w w' := by
  have h8 := G.le
  have C := fun W (b : Below w.heap.size w W) => Check_any n L v W (hv.below b) (by rw [G.len]; exact Nat.le_trans (Nat.mul_le_mul G.le G.le) (by unfold maxLen; omega))
  rw [lF_good G] at C
  have A1 := fun W (b : Below w.heap.size w W) => asked_any n n L v W (hv.below b) G.len h8 h8 (fun j hj => (G.at0 j hj).1)
  have A2 := fun y W (hT : Teller y n n (sq n L) W) => intercalates_any n (sq n L) y W h8 hT
  have SS : Hid (∀ W, Below (w.alloc (.cells #[.int .i64 (n : Int), v] 27)).heap.size (w.alloc (.cells #[.int .i64 (n : Int), v] 27)) W → W.cell? ⟨w.heap.size, 0, none⟩ = some (.int .i64 (n : Int)) ∧ W.cell? ⟨w.heap.size, 1, none⟩ = some v ∧ W.rangeAt w.heap.size 0 [.int .i64 (n : Int), v]) := one_box n v w
  generalize icN n (sq n L) = z at *
  clear hv G
  go_enter Tryd.func10, Tryd.ntmps10
  go_wp2_with (go_at_call 9; refine (C _ (balloc w _)).mono ?_; rintro e w1 ⟨rfl, b1⟩; obtain ⟨x0, x1, x2⟩ := SS.out _ b1)
  have hB := Below.next (balloc w _) b1
  clear C
  refine wp_region_noPanic ?_
  refine wp_region_held_drew (S := fun w' => w'.cell? ⟨w.heap.size, 0, none⟩ = some (.int .i64 (n : Int)) ∧ w'.cell? ⟨w.heap.size, 1, none⟩ = some v ∧ w'.rangeAt w.heap.size 0 [.int .i64 (n : Int), v]) (by kernel_rfl) (SS.out _ b1.drew) (fun hSx => ?_)
  refine wpAnyH_take (i := 0) (v := .pointer (some ⟨w.heap.size, 0, none⟩)) rfl (by kernel_rfl) (by kernel_rfl) (by kernel_rfl) (fun _ _ _ h => h) (Or.inl ⟨by rfl, fun w' hSw => by (try dsimp only at hSw); go_simp⟩) hSx ?_
  try simp only [Act.put, List.setIfInBounds_toArray]
  refine wpAnyH_take (i := 1) (v := .int .i64 (n : Int)) rfl (by kernel_rfl) (by kernel_rfl) (by kernel_rfl) (fun _ _ _ h => h) (Or.inl ⟨by rfl, fun w' hSw => by (try dsimp only at hSw); have hSw1 := hSw.1; go_simp⟩) hSx ?_
  try simp only [Act.put]
  refine wpAnyH_take (i := 2) (v := .agg #[.int .i64 (n : Int), v]) rfl (by kernel_rfl) (by kernel_rfl) (by kernel_rfl) (fun _ _ _ h => h) (yieldsIf_load_mid (by rfl) 27 _ rfl w.heap.size 0 rfl [.int .i64 (n : Int), v] _ (fun _ h => h.2.2) Tryd.underlying27 rfl inf24) hSx ?_
  try simp only [Act.put]
  refine wpAnyH_ready (rs := [3]) (by kernel_rfl) (by simp) ?_
  refine AllReadyH.cons rfl (fun J hJ => ?_) AllReadyH.nil
  go_simp
  refine (A1 _ hB.drew).mono ?_
  rintro e w5 ⟨⟨y, rfl, hT⟩, b5⟩
  have b5' := Below.next b1.drew b5
  go_wp2_with fail
  refine hJ.out _ _ (SS.out _ b5') (fun hSy => ?_)
  clear hJ J
  try simp only [Act.put, List.setIfInBounds_toArray, List.set_cons_zero, List.set_cons_succ]
  refine wpAnyH_ready (rs := [4]) (by kernel_rfl) (by simp) ?_
  refine AllReadyH.cons rfl (fun J hJ => ?_) AllReadyH.nil
  go_simp
  refine (A2 y w5 hT).mono ?_
  rintro e w6 ⟨rfl, b6⟩
  have b6' := Below.next b5' b6
  go_wp2_with fail
  refine hJ.out _ _ (SS.out _ b6') (fun hSz => ?_)
  clear hJ J
  try simp only [Act.put, List.setIfInBounds_toArray, List.set_cons_zero, List.set_cons_succ]
  refine wpAnyH_ready (rs := [5]) (by kernel_rfl) (by simp) ?_
  refine AllReadyH.cons rfl (fun J hJ => ?_) AllReadyH.nil
  go_simp
  refine hJ.out _ _ (SS.out _ b6') (fun _ => ?_)
  clear hJ J
  try simp only [Act.put, List.setIfInBounds_toArray, List.set_cons_zero, List.set_cons_succ]
  refine wpAnyH_ready (rs := [6]) (by kernel_rfl) (by simp) ?_
  refine AllReadyH.cons rfl (fun J hJ => ?_) AllReadyH.nil
  go_simp
  refine hJ.out _ _ (SS.out _ b6') (fun _ => ?_)
  clear hJ J
  try simp only [Act.put, List.setIfInBounds_toArray, List.set_cons_zero, List.set_cons_succ]
  refine wpAnyH_done (by kernel_rfl) ?_ _
  refine NoPanic.normal ?_
  go_wp2
  go_ret2
  exact ⟨rfl, Below.next (balloc w _) b6'⟩

set_option maxRecDepth 100000 in
set_option maxHeartbeats 8000000 in
theorem Transversals_ok (n : Nat) (L : List Int) (v : Value) (w : World) (hv : Sl w v L) (G : GoodS n L) (h7 : n ≤ 7) :
    Calls Tryd.prog 11 #[.agg #[.int .i64 (n : Int), v]] w fun e w' => e = .returned (.tuple #[.int .i64 (trN n (sq n L) : Int), .int .i64 0]) ∧ Below w.heap.size w w' := by
  have h8 := G.le
  have C := fun W (b : Below w.heap.size w W) => Check_any n L v W (hv.below b) (by rw [G.len]; exact Nat.le_trans (Nat.mul_le_mul G.le G.le) (by unfold maxLen; omega))
  rw [lF_good G] at C
  have A1 := fun W (b : Below w.heap.size w W) => asked_any n n L v W (hv.below b) G.len h8 h8 (fun j hj => (G.at0 j hj).1)
  have A2 := fun y W (hT : Teller y n n (sq n L) W) => crossings_any n (sq n L) y W h8 (fun r c hr hc => Nat.lt_of_lt_of_le (G.lat.lt r c hr hc) h8) hT
  have SS : Hid (∀ W, Below (w.alloc (.cells #[.int .i64 (n : Int), v] 27)).heap.size (w.alloc (.cells #[.int .i64 (n : Int), v] 27)) W → W.cell? ⟨w.heap.size, 0, none⟩ = some (.int .i64 (n : Int)) ∧ W.cell? ⟨w.heap.size, 1, none⟩ = some v ∧ W.rangeAt w.heap.size 0 [.int .i64 (n : Int), v]) := one_box n v w
  generalize trN n (sq n L) = z at *
  have hd : decide ((7 : Int) < n) = false := by simp; omega
  clear hv G
  go_enter Tryd.func11, Tryd.ntmps11
  go_wp2_with (go_at_call 9; refine (C _ (balloc w _)).mono ?_; rintro e w1 ⟨rfl, b1⟩; obtain ⟨x0, x1, x2⟩ := SS.out _ b1)
  have hB := Below.next (balloc w _) b1
  clear C
  refine wp_region_noPanic ?_
  refine wp_region_held_drew (S := fun w' => w'.cell? ⟨w.heap.size, 0, none⟩ = some (.int .i64 (n : Int)) ∧ w'.cell? ⟨w.heap.size, 1, none⟩ = some v ∧ w'.rangeAt w.heap.size 0 [.int .i64 (n : Int), v]) (by kernel_rfl) (SS.out _ b1.drew) (fun hSx => ?_)
  refine wpAnyH_take (i := 0) (v := .pointer (some ⟨w.heap.size, 0, none⟩)) rfl (by kernel_rfl) (by kernel_rfl) (by kernel_rfl) (fun _ _ _ h => h) (Or.inl ⟨by rfl, fun w' hSw => by (try dsimp only at hSw); go_simp⟩) hSx ?_
  try simp only [Act.put, List.setIfInBounds_toArray]
  refine wpAnyH_take (i := 1) (v := .int .i64 (n : Int)) rfl (by kernel_rfl) (by kernel_rfl) (by kernel_rfl) (fun _ _ _ h => h) (Or.inl ⟨by rfl, fun w' hSw => by (try dsimp only at hSw); have hSw1 := hSw.1; go_simp⟩) hSx ?_
  try simp only [Act.put]
  refine wpAnyH_take (i := 2) (v := .agg #[.int .i64 (n : Int), v]) rfl (by kernel_rfl) (by kernel_rfl) (by kernel_rfl) (fun _ _ _ h => h) (yieldsIf_load_mid (by rfl) 27 _ rfl w.heap.size 0 rfl [.int .i64 (n : Int), v] _ (fun _ h => h.2.2) Tryd.underlying27 rfl inf24) hSx ?_
  try simp only [Act.put]
  refine wpAnyH_ready (rs := [3]) (by kernel_rfl) (by simp) ?_
  refine AllReadyH.cons rfl (fun J hJ => ?_) AllReadyH.nil
  go_simp
  refine (A1 _ hB.drew).mono ?_
  rintro e w5 ⟨⟨y, rfl, hT⟩, b5⟩
  have b5' := Below.next b1.drew b5
  go_wp2_with fail
  refine hJ.out _ _ (SS.out _ b5') (fun hSy => ?_)
  clear hJ J
  try simp only [Act.put, List.setIfInBounds_toArray, List.set_cons_zero, List.set_cons_succ]
  refine wpAnyH_ready (rs := [4]) (by kernel_rfl) (by simp) ?_
  refine AllReadyH.cons rfl (fun J hJ => ?_) AllReadyH.nil
  go_simp
  refine (A2 y w5 hT).mono ?_
  rintro e w6 ⟨rfl, b6⟩
  have b6' := Below.next b5' b6
  go_wp2_with fail
  refine hJ.out _ _ (SS.out _ b6') (fun hSz => ?_)
  clear hJ J
  try simp only [Act.put, List.setIfInBounds_toArray, List.set_cons_zero, List.set_cons_succ]
  refine wpAnyH_ready (rs := [5]) (by kernel_rfl) (by simp) ?_
  refine AllReadyH.cons rfl (fun J hJ => ?_) AllReadyH.nil
  go_simp
  refine hJ.out _ _ (SS.out _ b6') (fun _ => ?_)
  clear hJ J
  try simp only [Act.put, List.setIfInBounds_toArray, List.set_cons_zero, List.set_cons_succ]
  refine wpAnyH_ready (rs := [6]) (by kernel_rfl) (by simp) ?_
  refine AllReadyH.cons rfl (fun J hJ => ?_) AllReadyH.nil
  go_simp
  refine hJ.out _ _ (SS.out _ b6') (fun _ => ?_)
  clear hJ J
  try simp only [Act.put, List.setIfInBounds_toArray, List.set_cons_zero, List.set_cons_succ]
  refine wpAnyH_done (by kernel_rfl) ?_ _
  refine NoPanic.normal ?_
  go_wp2
  go_ret2
  exact ⟨rfl, Below.next (balloc w _) b6'⟩

set_option maxHeartbeats 4000000 in
theorem Transversals_full (L : List Int) (v : Value) (w : World) (hv : Sl w v L) (G : GoodS 8 L) :
    Calls Tryd.prog 11 #[.agg #[.int .i64 8, v]] w fun e w' => e = .returned (.tuple #[.int .i64 0, .int .i64 3]) ∧ Below w.heap.size w w' := by
  have C := fun W (b : Below w.heap.size w W) => Check_any (8 : Nat) L v W (hv.below b) (by rw [G.len]; unfold maxLen; omega)
  rw [lF_good G] at C
  have C' : ∀ W, Below w.heap.size w W → Calls Tryd.prog 9 #[.agg #[.int .i64 8, v]] W fun e w' => e = .returned (.int .i64 0) ∧ Below W.heap.size W w' := C
  have SS : Hid (∀ W, Below (w.alloc (.cells #[.int .i64 8, v] 27)).heap.size (w.alloc (.cells #[.int .i64 8, v] 27)) W → W.cell? ⟨w.heap.size, 0, none⟩ = some (.int .i64 8) ∧ W.cell? ⟨w.heap.size, 1, none⟩ = some v ∧ W.rangeAt w.heap.size 0 [.int .i64 8, v]) := one_box 8 v w
  clear hv G C
  go_enter Tryd.func11, Tryd.ntmps11
  go_wp2_with (go_at_call 9; refine (C' _ (balloc w _)).mono ?_; rintro e w1 ⟨rfl, b1⟩; obtain ⟨x0, x1, x2⟩ := SS.out _ b1)
  go_ret2
  exact ⟨rfl, Below.next (balloc w _) b1⟩
end Go.Proofs.YtagpbkcnjogbgabDoor
