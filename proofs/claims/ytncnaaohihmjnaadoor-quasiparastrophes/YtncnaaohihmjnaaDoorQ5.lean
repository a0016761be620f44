/- The walks of Unit, Commutes, Associates, Idempotent. -/
import Derived.Test.YtncnaaohihmjnaaDoorQ4
namespace Go.Proofs.YtncnaaohihmjnaaDoor
open Go.RowKit

/-- A square in a box, as it is read later. -/
theorem one_box (s : Int) (u : Value) (w : World) : ∀ W, Below (w.alloc (.cells #[.int .i64 s, u] 24)).heap.size (w.alloc (.cells #[.int .i64 s, u] 24)) W →
    W.cell? ⟨w.heap.size, 0, none⟩ = some (.int .i64 s) ∧ W.cell? ⟨w.heap.size, 1, none⟩ = some u ∧ W.rangeAt w.heap.size 0 [.int .i64 s, u] := fun W b => by
  have k1 := (b.block w.heap.size (by simp)).trans (heap_alloc_new w (.cells #[.int .i64 s, u] 24))
  have c0 : W.cell? ⟨w.heap.size, 0, none⟩ = some (.int .i64 s) := by rw [cell_of_row _ _ _ _ _ _ k1]; rfl
  have c1 : W.cell? ⟨w.heap.size, 1, none⟩ = some u := by rw [cell_of_row _ _ _ _ _ _ k1]; rfl
  exact ⟨c0, c1, range_two W _ _ _ c0 c1⟩
theorem good_len {n : Nat} {L : List Int} (G : GoodS n L) : L.length ≤ maxLen := by rw [G.len]; exact Nat.le_trans (Nat.mul_le_mul G.le G.le) (by unfold maxLen; omega)
set_option maxHeartbeats 4000000 in
theorem Unit_bad (s : Int) (L : List Int) (v : Value) (w : World) (hv : Sl w v L) (hl : L.length ≤ maxLen) (h : lF s L ≠ 0) :
    Calls Tryd.prog 10 #[.agg #[.int .i64 s, v]] w fun e w' => e = .returned (.tuple #[.int .i64 0, .int .i64 (lF s L : Int)]) ∧ Below w.heap.size w w' := by
  have C := fun W (b : Below w.heap.size w W) => Check_any s L v W (hv.below b) hl
  have hz : ((lF s L : Int) != 0) = true := by simp; omega
  generalize lF s L = z at *
  clear hv
  go_enter Tryd.func10, Tryd.ntmps10
  go_wp2_with (go_at_call 17; refine (C _ (balloc w _)).mono ?_; rintro e w0 ⟨rfl, b0⟩)
  go_ret2
  exact ⟨rfl, Below.next (balloc w _) b0⟩
set_option maxRecDepth 100000 in
set_option maxHeartbeats 8000000 in
theorem Unit_ok (n : Nat) (L : List Int) (v : Value) (w : World) (hv : Sl w v L) (G : GoodS n L) (u : Nat) (ho : fstN n (unitB n (sq n L)) = some u) :
    Calls Tryd.prog 10 #[.agg #[.int .i64 (n : Int), v]] w fun e w' => e = .returned (.tuple #[.int .i64 ((u : Nat) : Int), .int .i64 0]) ∧ Below w.heap.size w w' := by
  have h8 := G.le
  have C := fun W (b : Below w.heap.size w W) => Check_any n L v W (hv.below b) (good_len G)
  rw [lF_good G] at C
  have A1 := fun W (b : Below w.heap.size w W) => productOf_any n L v W (hv.below b) G
  have A2 : ∀ y W, Teller y n n (sq n L) W → Calls Tryd.prog 22 #[.int .i64 (n : Int), y] W fun e w' => e = .returned (.tuple #[.int .i64 (u : Int), .bool true]) ∧ Below W.heap.size W w' := fun y W hT => unit_any n (sq n L) (some u) y W h8 hT ho
  have SS : Hid (∀ W, Below (w.alloc (.cells #[.int .i64 (n : Int), v] 24)).heap.size (w.alloc (.cells #[.int .i64 (n : Int), v] 24)) W → W.cell? ⟨w.heap.size, 0, none⟩ = some (.int .i64 (n : Int)) ∧ W.cell? ⟨w.heap.size, 1, none⟩ = some v ∧ W.rangeAt w.heap.size 0 [.int .i64 (n : Int), v]) := one_box n v w
  clear hv G ho
  go_enter Tryd.func10, Tryd.ntmps10
  go_wp2_with (go_at_call 17; refine (C _ (balloc w _)).mono ?_; rintro e w0 ⟨rfl, b0⟩; obtain ⟨x0, x1, x2⟩ := SS.out _ b0)
  have hB := Below.next (balloc w _) b0
  have HS : Hid (∀ w', Below w0.heap.size w0 w' → w'.cell? ⟨w.heap.size, 0, none⟩ = some (.int .i64 (n : Int)) ∧ w'.cell? ⟨w.heap.size, 1, none⟩ = some v ∧ w'.rangeAt w.heap.size 0 [.int .i64 (n : Int), v]) := fun w' b' => SS.out _ (Below.next b0 b')
  clear C SS x0 x1 x2
  refine wp_region_noPanic ?_
  refine wp_region_held_drew (S := fun w' => w'.cell? ⟨w.heap.size, 0, none⟩ = some (.int .i64 (n : Int)) ∧ w'.cell? ⟨w.heap.size, 1, none⟩ = some v ∧ w'.rangeAt w.heap.size 0 [.int .i64 (n : Int), v]) (by kernel_rfl) (HS.out _ (Below.refl _ w0).drew) (fun hSx => ?_)
  have d0 : Below w0.heap.size w0 w0.drew := (Below.refl _ w0).drew
  refine wpAnyH_take (i := 0) (v := .pointer (some ⟨w.heap.size, 0, none⟩)) rfl (by kernel_rfl) (by kernel_rfl) (by kernel_rfl) (fun _ _ _ h => h) (Or.inl ⟨by rfl, fun w' hSw => by (try dsimp only at hSw); obtain ⟨hs0, hs1, hs2⟩ := hSw; go_simp⟩) hSx ?_
  try simp only [Act.put, List.setIfInBounds_toArray]
  refine wpAnyH_take (i := 1) (v := .int .i64 (n : Int)) rfl (by kernel_rfl) (by kernel_rfl) (by kernel_rfl) (fun _ _ _ h => h) (Or.inl ⟨by rfl, fun w' hSw => by (try dsimp only at hSw); obtain ⟨hs0, hs1, hs2⟩ := hSw; go_simp⟩) hSx ?_
  try simp only [Act.put]
  refine wpAnyH_take (i := 2) (v := .agg #[.int .i64 (n : Int), v]) rfl (by kernel_rfl) (by kernel_rfl) (by kernel_rfl) (fun _ _ _ h => h) (yieldsIf_load_mid (by rfl) 24 _ rfl w.heap.size 0 rfl [.int .i64 (n : Int), v] _ (fun _ h => h.2.2) Tryd.underlying24 rfl inf24) hSx ?_
  try simp only [Act.put]
  refine wpAnyH_ready (rs := [3]) (by kernel_rfl) (by simp) ?_
  refine AllReadyH.cons rfl (fun J hJ => ?_) AllReadyH.nil
  go_simp
  refine (A1 _ (Below.next hB d0)).mono ?_
  rintro e w1 ⟨⟨y, rfl, hT⟩, b1⟩
  have d1 := Below.next d0 b1
  go_wp2_with fail
  refine hJ.out _ _ (HS.out _ d1) (fun hSx => ?_)
  clear hJ J
  try simp only [Act.put, List.setIfInBounds_toArray, List.set_cons_zero, List.set_cons_succ]
  refine wpAnyH_ready (rs := [4]) (by kernel_rfl) (by simp) ?_
  refine AllReadyH.cons rfl (fun J hJ => ?_) AllReadyH.nil
  go_simp
  refine (A2 y _ hT).mono ?_
  rintro e w2 ⟨rfl, b2⟩
  have d2 := Below.next d1 b2
  go_wp2_with fail
  refine hJ.out _ _ (HS.out _ d2) (fun hSx => ?_)
  clear hJ J
  try simp only [Act.put, List.setIfInBounds_toArray, List.set_cons_zero, List.set_cons_succ]
  refine wpAnyH_take (i := 5) (v := .tuple #[.int .i64 (u : Int), .bool true]) rfl (by kernel_rfl) (by kernel_rfl) (by kernel_rfl) (fun _ _ _ h => h) (Or.inl ⟨by rfl, fun w' hSw => by (try dsimp only at hSw); obtain ⟨hs0, hs1, hs2⟩ := hSw; go_simp⟩) hSx ?_
  try simp only [Act.put, List.setIfInBounds_toArray]
  refine wpAnyH_take (i := 6) (v := .int .i64 (u : Int)) rfl (by kernel_rfl) (by kernel_rfl) (by kernel_rfl) (fun _ _ _ h => h) (Or.inl ⟨by rfl, fun w' hSw => by (try dsimp only at hSw); obtain ⟨hs0, hs1, hs2⟩ := hSw; go_simp⟩) hSx ?_
  try simp only [Act.put]
  refine wpAnyH_take (i := 7) (v := .bool true) rfl (by kernel_rfl) (by kernel_rfl) (by kernel_rfl) (fun _ _ _ h => h) (Or.inl ⟨by rfl, fun w' hSw => by (try dsimp only at hSw); obtain ⟨hs0, hs1, hs2⟩ := hSw; go_simp⟩) hSx ?_
  try simp only [Act.put]
  refine wpAnyH_take (i := 8) (v := .int .i64 (u : Int)) rfl (by kernel_rfl) (by kernel_rfl) (by kernel_rfl) (fun _ _ _ h => h) (Or.inl ⟨by rfl, fun w' hSw => by (try dsimp only at hSw); obtain ⟨hs0, hs1, hs2⟩ := hSw; go_simp⟩) hSx ?_
  try simp only [Act.put]
  refine wpAnyH_take (i := 9) (v := .bool true) rfl (by kernel_rfl) (by kernel_rfl) (by kernel_rfl) (fun _ _ _ h => h) (Or.inl ⟨by rfl, fun w' hSw => by (try dsimp only at hSw); obtain ⟨hs0, hs1, hs2⟩ := hSw; go_simp⟩) hSx ?_
  try simp only [Act.put]
  refine wpAnyH_done (by kernel_rfl) ?_ _
  refine NoPanic.normal ?_
  go_simp
  go_wp2
  go_ret2
  exact ⟨rfl, Below.next hB d2⟩
set_option maxRecDepth 100000 in
set_option maxHeartbeats 8000000 in
theorem UnitNone_ok (n : Nat) (L : List Int) (v : Value) (w : World) (hv : Sl w v L) (G : GoodS n L) (ho : fstN n (unitB n (sq n L)) = none) :
    Calls Tryd.prog 10 #[.agg #[.int .i64 (n : Int), v]] w fun e w' => e = .returned (.tuple #[.int .i64 0, .int .i64 4]) ∧ Below w.heap.size w w' := by
  have h8 := G.le
  have C := fun W (b : Below w.heap.size w W) => Check_any n L v W (hv.below b) (good_len G)
  rw [lF_good G] at C
  have A1 := fun W (b : Below w.heap.size w W) => productOf_any n L v W (hv.below b) G
  have A2 : ∀ y W, Teller y n n (sq n L) W → Calls Tryd.prog 22 #[.int .i64 (n : Int), y] W fun e w' => e = .returned (.tuple #[.int .i64 0, .bool false]) ∧ Below W.heap.size W w' := fun y W hT => unit_any n (sq n L) (none) y W h8 hT ho
  have SS : Hid (∀ W, Below (w.alloc (.cells #[.int .i64 (n : Int), v] 24)).heap.size (w.alloc (.cells #[.int .i64 (n : Int), v] 24)) W → W.cell? ⟨w.heap.size, 0, none⟩ = some (.int .i64 (n : Int)) ∧ W.cell? ⟨w.heap.size, 1, none⟩ = some v ∧ W.rangeAt w.heap.size 0 [.int .i64 (n : Int), v]) := one_box n v w
  clear hv G ho
  go_enter Tryd.func10, Tryd.ntmps10
  go_wp2_with (go_at_call 17; refine (C _ (balloc w _)).mono ?_; rintro e w0 ⟨rfl, b0⟩; obtain ⟨x0, x1, x2⟩ := SS.out _ b0)
  have hB := Below.next (balloc w _) b0
  have HS : Hid (∀ w', Below w0.heap.size w0 w' → w'.cell? ⟨w.heap.size, 0, none⟩ = some (.int .i64 (n : Int)) ∧ w'.cell? ⟨w.heap.size, 1, none⟩ = some v ∧ w'.rangeAt w.heap.size 0 [.int .i64 (n : Int), v]) := fun w' b' => SS.out _ (Below.next b0 b')
  clear C SS x0 x1 x2
  refine wp_region_noPanic ?_
  refine wp_region_held_drew (S := fun w' => w'.cell? ⟨w.heap.size, 0, none⟩ = some (.int .i64 (n : Int)) ∧ w'.cell? ⟨w.heap.size, 1, none⟩ = some v ∧ w'.rangeAt w.heap.size 0 [.int .i64 (n : Int), v]) (by kernel_rfl) (HS.out _ (Below.refl _ w0).drew) (fun hSx => ?_)
  have d0 : Below w0.heap.size w0 w0.drew := (Below.refl _ w0).drew
  refine wpAnyH_take (i := 0) (v := .pointer (some ⟨w.heap.size, 0, none⟩)) rfl (by kernel_rfl) (by kernel_rfl) (by kernel_rfl) (fun _ _ _ h => h) (Or.inl ⟨by rfl, fun w' hSw => by (try dsimp only at hSw); obtain ⟨hs0, hs1, hs2⟩ := hSw; go_simp⟩) hSx ?_
  try simp only [Act.put, List.setIfInBounds_toArray]
  refine wpAnyH_take (i := 1) (v := .int .i64 (n : Int)) rfl (by kernel_rfl) (by kernel_rfl) (by kernel_rfl) (fun _ _ _ h => h) (Or.inl ⟨by rfl, fun w' hSw => by (try dsimp only at hSw); obtain ⟨hs0, hs1, hs2⟩ := hSw; go_simp⟩) hSx ?_
  try simp only [Act.put]
  refine wpAnyH_take (i := 2) (v := .agg #[.int .i64 (n : Int), v]) rfl (by kernel_rfl) (by kernel_rfl) (by kernel_rfl) (fun _ _ _ h => h) (yieldsIf_load_mid (by rfl) 24 _ rfl w.heap.size 0 rfl [.int .i64 (n : Int), v] _ (fun _ h => h.2.2) Tryd.underlying24 rfl inf24) hSx ?_
  try simp only [Act.put]
  refine wpAnyH_ready (rs := [3]) (by kernel_rfl) (by simp) ?_
  refine AllReadyH.cons rfl (fun J hJ => ?_) AllReadyH.nil
  go_simp
  refine (A1 _ (Below.next hB d0)).mono ?_
  rintro e w1 ⟨⟨y, rfl, hT⟩, b1⟩
  have d1 := Below.next d0 b1
  go_wp2_with fail
  refine hJ.out _ _ (HS.out _ d1) (fun hSx => ?_)
  clear hJ J
  try simp only [Act.put, List.setIfInBounds_toArray, List.set_cons_zero, List.set_cons_succ]
  refine wpAnyH_ready (rs := [4]) (by kernel_rfl) (by simp) ?_
  refine AllReadyH.cons rfl (fun J hJ => ?_) AllReadyH.nil
  go_simp
  refine (A2 y _ hT).mono ?_
  rintro e w2 ⟨rfl, b2⟩
  have d2 := Below.next d1 b2
  go_wp2_with fail
  refine hJ.out _ _ (HS.out _ d2) (fun hSx => ?_)
  clear hJ J
  try simp only [Act.put, List.setIfInBounds_toArray, List.set_cons_zero, List.set_cons_succ]
  refine wpAnyH_take (i := 5) (v := .tuple #[.int .i64 0, .bool false]) rfl (by kernel_rfl) (by kernel_rfl) (by kernel_rfl) (fun _ _ _ h => h) (Or.inl ⟨by rfl, fun w' hSw => by (try dsimp only at hSw); obtain ⟨hs0, hs1, hs2⟩ := hSw; go_simp⟩) hSx ?_
  try simp only [Act.put, List.setIfInBounds_toArray]
  refine wpAnyH_take (i := 6) (v := .int .i64 0) rfl (by kernel_rfl) (by kernel_rfl) (by kernel_rfl) (fun _ _ _ h => h) (Or.inl ⟨by rfl, fun w' hSw => by (try dsimp only at hSw); obtain ⟨hs0, hs1, hs2⟩ := hSw; go_simp⟩) hSx ?_
  try simp only [Act.put]
  refine wpAnyH_take (i := 7) (v := .bool false) rfl (by kernel_rfl) (by kernel_rfl) (by kernel_rfl) (fun _ _ _ h => h) (Or.inl ⟨by rfl, fun w' hSw => by (try dsimp only at hSw); obtain ⟨hs0, hs1, hs2⟩ := hSw; go_simp⟩) hSx ?_
  try simp only [Act.put]
  refine wpAnyH_take (i := 8) (v := .int .i64 0) rfl (by kernel_rfl) (by kernel_rfl) (by kernel_rfl) (fun _ _ _ h => h) (Or.inl ⟨by rfl, fun w' hSw => by (try dsimp only at hSw); obtain ⟨hs0, hs1, hs2⟩ := hSw; go_simp⟩) hSx ?_
  try simp only [Act.put]
  refine wpAnyH_take (i := 9) (v := .bool false) rfl (by kernel_rfl) (by kernel_rfl) (by kernel_rfl) (fun _ _ _ h => h) (Or.inl ⟨by rfl, fun w' hSw => by (try dsimp only at hSw); obtain ⟨hs0, hs1, hs2⟩ := hSw; go_simp⟩) hSx ?_
  try simp only [Act.put]
  refine wpAnyH_done (by kernel_rfl) ?_ _
  refine NoPanic.normal ?_
  go_simp
  go_wp2
  go_ret2
  exact ⟨rfl, Below.next hB d2⟩
set_option maxHeartbeats 4000000 in
theorem Associates_bad (s : Int) (L : List Int) (v : Value) (w : World) (hv : Sl w v L) (hl : L.length ≤ maxLen) (h : lF s L ≠ 0) :
    Calls Tryd.prog 11 #[.agg #[.int .i64 s, v]] w fun e w' => e = .returned (.tuple #[.bool false, .int .i64 (lF s L : Int)]) ∧ Below w.heap.size w w' := by
  have C := fun W (b : Below w.heap.size w W) => Check_any s L v W (hv.below b) hl
  have hz : ((lF s L : Int) != 0) = true := by simp; omega
  generalize lF s L = z at *
  clear hv
  go_enter Tryd.func11, Tryd.ntmps11
  go_wp2_with (go_at_call 17; refine (C _ (balloc w _)).mono ?_; rintro e w0 ⟨rfl, b0⟩)
  go_ret2
  exact ⟨rfl, Below.next (balloc w _) b0⟩
set_option maxRecDepth 100000 in
set_option maxHeartbeats 8000000 in
theorem Associates_ok (n : Nat) (L : List Int) (v : Value) (w : World) (hv : Sl w v L) (G : GoodS n L) :
    Calls Tryd.prog 11 #[.agg #[.int .i64 (n : Int), v]] w fun e w' => e = .returned (.tuple #[.bool (assB n (sq n L)), .int .i64 0]) ∧ Below w.heap.size w w' := by
  have h8 := G.le
  have C := fun W (b : Below w.heap.size w W) => Check_any n L v W (hv.below b) (good_len G)
  rw [lF_good G] at C
  have A1 := fun W (b : Below w.heap.size w W) => productOf_any n L v W (hv.below b) G
  have A2 := fun y W (hT : Teller y n n (sq n L) W) => associates_any n (sq n L) _ y W h8 G.lat.lt hT rfl
  have SS : Hid (∀ W, Below (w.alloc (.cells #[.int .i64 (n : Int), v] 24)).heap.size (w.alloc (.cells #[.int .i64 (n : Int), v] 24)) W → W.cell? ⟨w.heap.size, 0, none⟩ = some (.int .i64 (n : Int)) ∧ W.cell? ⟨w.heap.size, 1, none⟩ = some v ∧ W.rangeAt w.heap.size 0 [.int .i64 (n : Int), v]) := one_box n v w
  generalize assB n (sq n L) = q at *
  clear hv G
  go_enter Tryd.func11, Tryd.ntmps11
  go_wp2_with (go_at_call 17; refine (C _ (balloc w _)).mono ?_; rintro e w0 ⟨rfl, b0⟩; obtain ⟨x0, x1, x2⟩ := SS.out _ b0)
  have hB := Below.next (balloc w _) b0
  have HS : Hid (∀ w', Below w0.heap.size w0 w' → w'.cell? ⟨w.heap.size, 0, none⟩ = some (.int .i64 (n : Int)) ∧ w'.cell? ⟨w.heap.size, 1, none⟩ = some v ∧ w'.rangeAt w.heap.size 0 [.int .i64 (n : Int), v]) := fun w' b' => SS.out _ (Below.next b0 b')
  clear C SS x0 x1 x2
  refine wp_region_noPanic ?_
  refine wp_region_held_drew (S := fun w' => w'.cell? ⟨w.heap.size, 0, none⟩ = some (.int .i64 (n : Int)) ∧ w'.cell? ⟨w.heap.size, 1, none⟩ = some v ∧ w'.rangeAt w.heap.size 0 [.int .i64 (n : Int), v]) (by kernel_rfl) (HS.out _ (Below.refl _ w0).drew) (fun hSx => ?_)
  have d0 : Below w0.heap.size w0 w0.drew := (Below.refl _ w0).drew
  refine wpAnyH_take (i := 0) (v := .pointer (some ⟨w.heap.size, 0, none⟩)) rfl (by kernel_rfl) (by kernel_rfl) (by kernel_rfl) (fun _ _ _ h => h) (Or.inl ⟨by rfl, fun w' hSw => by (try dsimp only at hSw); obtain ⟨hs0, hs1, hs2⟩ := hSw; go_simp⟩) hSx ?_
  try simp only [Act.put, List.setIfInBounds_toArray]
  refine wpAnyH_take (i := 1) (v := .int .i64 (n : Int)) rfl (by kernel_rfl) (by kernel_rfl) (by kernel_rfl) (fun _ _ _ h => h) (Or.inl ⟨by rfl, fun w' hSw => by (try dsimp only at hSw); obtain ⟨hs0, hs1, hs2⟩ := hSw; go_simp⟩) hSx ?_
  try simp only [Act.put]
  refine wpAnyH_take (i := 2) (v := .agg #[.int .i64 (n : Int), v]) rfl (by kernel_rfl) (by kernel_rfl) (by kernel_rfl) (fun _ _ _ h => h) (yieldsIf_load_mid (by rfl) 24 _ rfl w.heap.size 0 rfl [.int .i64 (n : Int), v] _ (fun _ h => h.2.2) Tryd.underlying24 rfl inf24) hSx ?_
  try simp only [Act.put]
  refine wpAnyH_ready (rs := [3]) (by kernel_rfl) (by simp) ?_
  refine AllReadyH.cons rfl (fun J hJ => ?_) AllReadyH.nil
  go_simp
  refine (A1 _ (Below.next hB d0)).mono ?_
  rintro e w1 ⟨⟨y, rfl, hT⟩, b1⟩
  have d1 := Below.next d0 b1
  go_wp2_with fail
  refine hJ.out _ _ (HS.out _ d1) (fun hSx => ?_)
  clear hJ J
  try simp only [Act.put, List.setIfInBounds_toArray, List.set_cons_zero, List.set_cons_succ]
  refine wpAnyH_ready (rs := [4]) (by kernel_rfl) (by simp) ?_
  refine AllReadyH.cons rfl (fun J hJ => ?_) AllReadyH.nil
  go_simp
  refine (A2 y _ hT).mono ?_
  rintro e w2 ⟨rfl, b2⟩
  have d2 := Below.next d1 b2
  go_wp2_with fail
  refine hJ.out _ _ (HS.out _ d2) (fun hSx => ?_)
  clear hJ J
  try simp only [Act.put, List.setIfInBounds_toArray, List.set_cons_zero, List.set_cons_succ]
  refine wpAnyH_take (i := 5) (v := .bool q) rfl (by kernel_rfl) (by kernel_rfl) (by kernel_rfl) (fun _ _ _ h => h) (Or.inl ⟨by rfl, fun w' hSw => by (try dsimp only at hSw); obtain ⟨hs0, hs1, hs2⟩ := hSw; go_simp⟩) hSx ?_
  try simp only [Act.put, List.setIfInBounds_toArray]
  refine wpAnyH_take (i := 6) (v := .int .i64 0) rfl (by kernel_rfl) (by kernel_rfl) (by kernel_rfl) (fun _ _ _ h => h) (Or.inl ⟨by rfl, fun w' hSw => by (try dsimp only at hSw); obtain ⟨hs0, hs1, hs2⟩ := hSw; go_simp⟩) hSx ?_
  try simp only [Act.put]
  refine wpAnyH_done (by kernel_rfl) ?_ _
  refine NoPanic.normal ?_
  go_simp
  go_wp2
  go_ret2
  exact ⟨rfl, Below.next hB d2⟩
end Go.Proofs.YtncnaaohihmjnaaDoor
