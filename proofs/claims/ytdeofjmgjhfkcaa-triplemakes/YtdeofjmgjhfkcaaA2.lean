/- The walks of at, upright and slanted. -/
import Derived.Test.YtdeofjmgjhfkcaaA1
import Derived.Deep.QuietTactic
import Derived.BigQuiet
import Derived.Deep.RegionHeld3
namespace Go.Proofs.Ytdeofjmgjhfkcaa
open Go.RowKit

/-- A box of blocks and of how wide it is. -/
abbrev RowB (w : World) (base gb width : Nat) (L : List (List Nat)) : Prop := Lst w base gb 76 [.int .i64 (width : Int)] L
theorem Lst.width {w : World} {base gb width : Nat} {L : List (List Nat)} (h : RowB w base gb width L) : w.cell? ⟨gb, 1, none⟩ = some (.int .i64 (width : Int)) := by
  obtain ⟨v, h1, _⟩ := h
  rw [cell_of_row _ _ _ _ _ _ h1]; rfl
theorem Kp.drew (base gb : Nat) (w : World) : Kp base gb w w.drew := ⟨(Below.refl _ w).drew, fun _ _ _ => rfl⟩
set_option maxRecDepth 100000 in
set_option maxHeartbeats 2000000 in
theorem at_any (row place gb width : Nat) (w : World) (h : w.cell? ⟨gb, 1, none⟩ = some (.int .i64 (width : Int))) (hr : row ≤ 99) (hw : width ≤ 99) (hp : place ≤ 99) :
    Calls Try.prog 50 #[.pointer (some ⟨gb, 0, none⟩), .int .i64 (row : Int), .int .i64 (place : Int)] w fun e w' => e = .returned (.int .i64 ((row * width + place : Nat) : Int)) ∧ w' = w := by
  have hm : row * width ≤ 99 * 99 := Nat.mul_le_mul hr hw
  obtain ⟨p, Hp⟩ : ∃ p, Hid (row * width = p) := ⟨_, rfl⟩
  have hpm : (row : Int) * (width : Int) = (p : Int) := by rw [← Hp.out]; simp
  rw [Hp.out] at hm ⊢
  go_enter Try.func50, Try.ntmps50
  go_wp2
  go_ret
  exact ⟨by go_num, rfl⟩
set_option maxRecDepth 100000 in
set_option maxHeartbeats 4000000 in
theorem upright_any (place base gb width : Nat) (L : List (List Nat)) (w : World) (h : RowB w base gb width L) (hl : L.length ≤ 6000) (hw : width ≤ 99) (hp : place ≤ 99) :
    Calls Try.prog 48 #[.pointer (some ⟨gb, 0, none⟩), .int .i64 (place : Int)] w fun e w' => e = .returned (.tuple #[]) ∧ RowB w' base gb width (L ++ [s3 [0 * width + place, 1 * width + place, 2 * width + place]]) ∧ Kp base gb w w' := by
  have HW : Hid (RowB w base gb width L) := h
  have c1 := h.width
  have C := fun W (h : RowB W base gb width L) => add_any (0 * width + place) (1 * width + place) (2 * width + place) base gb 76 [.int .i64 (width : Int)] L W h hl
  have A0 : ∀ W, W.cell? ⟨gb, 1, none⟩ = some (.int .i64 (width : Int)) → Calls Try.prog 50 #[.pointer (some ⟨gb, 0, none⟩), .int .i64 0, .int .i64 (place : Int)] W fun e w' => e = .returned (.int .i64 ((0 * width + place : Nat) : Int)) ∧ w' = W := fun W hW => at_any 0 place gb width W hW (by omega) hw hp
  have A1 : ∀ W, W.cell? ⟨gb, 1, none⟩ = some (.int .i64 (width : Int)) → Calls Try.prog 50 #[.pointer (some ⟨gb, 0, none⟩), .int .i64 1, .int .i64 (place : Int)] W fun e w' => e = .returned (.int .i64 ((1 * width + place : Nat) : Int)) ∧ w' = W := fun W hW => at_any 1 place gb width W hW (by omega) hw hp
  have A2 : ∀ W, W.cell? ⟨gb, 1, none⟩ = some (.int .i64 (width : Int)) → Calls Try.prog 50 #[.pointer (some ⟨gb, 0, none⟩), .int .i64 2, .int .i64 (place : Int)] W fun e w' => e = .returned (.int .i64 ((2 * width + place : Nat) : Int)) ∧ w' = W := fun W hW => at_any 2 place gb width W hW (by omega) hw hp
  generalize s3 [0 * width + place, 1 * width + place, 2 * width + place] = s at *
  generalize 0 * width + place = x0 at *
  generalize 1 * width + place = x1 at *
  generalize 2 * width + place = x2 at *
  go_enter Try.func48, Try.ntmps48
  go_wp2
  refine wp_region_noPanic ?_
  refine wp_region_held_drew (S := fun _ => True) (by kernel_rfl) (trivial) (fun hSx => ?_)
  refine wpAnyH_take (i := 0) (v := .pointer (some ⟨gb, 0, none⟩)) rfl (by kernel_rfl) (by kernel_rfl) (by kernel_rfl) (fun _ _ _ h => h) (Or.inl ⟨by rfl, fun w' hSw => by (try dsimp only at hSw); have hs0 := hSw; go_simp⟩) hSx ?_
  try simp only [Act.put, List.setIfInBounds_toArray]
  refine wpAnyH_take (i := 1) (v := .pointer (some ⟨gb, 0, none⟩)) rfl (by kernel_rfl) (by kernel_rfl) (by kernel_rfl) (fun _ _ _ h => h) (Or.inl ⟨by rfl, fun w' hSw => by (try dsimp only at hSw); have hs0 := hSw; go_simp⟩) hSx ?_
  try simp only [Act.put]
  refine wpAnyH_take (i := 2) (v := .pointer (some ⟨gb, 0, none⟩)) rfl (by kernel_rfl) (by kernel_rfl) (by kernel_rfl) (fun _ _ _ h => h) (Or.inl ⟨by rfl, fun w' hSw => by (try dsimp only at hSw); have hs0 := hSw; go_simp⟩) hSx ?_
  try simp only [Act.put]
  refine wpAnyH_take (i := 3) (v := .pointer (some ⟨gb, 0, none⟩)) rfl (by kernel_rfl) (by kernel_rfl) (by kernel_rfl) (fun _ _ _ h => h) (Or.inl ⟨by rfl, fun w' hSw => by (try dsimp only at hSw); have hs0 := hSw; go_simp⟩) hSx ?_
  try simp only [Act.put]
  refine wpAnyH_take (i := 4) (v := .int .i64 (place : Int)) rfl (by kernel_rfl) (by kernel_rfl) (by kernel_rfl) (fun _ _ _ h => h) (Or.inl ⟨by rfl, fun w' hSw => by (try dsimp only at hSw); have hs0 := hSw; go_simp⟩) hSx ?_
  try simp only [Act.put]
  refine wpAnyH_take (i := 6) (v := .pointer (some ⟨gb, 0, none⟩)) rfl (by kernel_rfl) (by kernel_rfl) (by kernel_rfl) (fun _ _ _ h => h) (Or.inl ⟨by rfl, fun w' hSw => by (try dsimp only at hSw); have hs0 := hSw; go_simp⟩) hSx ?_
  try simp only [Act.put]
  refine wpAnyH_take (i := 7) (v := .int .i64 (place : Int)) rfl (by kernel_rfl) (by kernel_rfl) (by kernel_rfl) (fun _ _ _ h => h) (Or.inl ⟨by rfl, fun w' hSw => by (try dsimp only at hSw); have hs0 := hSw; go_simp⟩) hSx ?_
  try simp only [Act.put]
  refine wpAnyH_take (i := 9) (v := .pointer (some ⟨gb, 0, none⟩)) rfl (by kernel_rfl) (by kernel_rfl) (by kernel_rfl) (fun _ _ _ h => h) (Or.inl ⟨by rfl, fun w' hSw => by (try dsimp only at hSw); have hs0 := hSw; go_simp⟩) hSx ?_
  try simp only [Act.put]
  refine wpAnyH_take (i := 10) (v := .int .i64 (place : Int)) rfl (by kernel_rfl) (by kernel_rfl) (by kernel_rfl) (fun _ _ _ h => h) (Or.inl ⟨by rfl, fun w' hSw => by (try dsimp only at hSw); have hs0 := hSw; go_simp⟩) hSx ?_
  try simp only [Act.put]
  refine wpAnyH_ready (rs := [5]) (by kernel_rfl) (by simp) ?_
  refine AllReadyH.cons rfl (fun J hJ => ?_) AllReadyH.nil
  go_simp
  refine (A0 w.drew c1).mono ?_
  rintro e w1 ⟨rfl, hw⟩
  replace hw := hw.symm
  subst hw
  go_wp2_with fail
  refine hJ.out _ _ (trivial) (fun hSx => ?_)
  clear hJ J
  try simp only [Act.put, List.setIfInBounds_toArray, List.set_cons_zero, List.set_cons_succ]
  refine wpAnyH_ready (rs := [8]) (by kernel_rfl) (by simp) ?_
  refine AllReadyH.cons rfl (fun J hJ => ?_) AllReadyH.nil
  go_simp
  refine (A1 w.drew c1).mono ?_
  rintro e w2 ⟨rfl, hw⟩
  replace hw := hw.symm
  subst hw
  go_wp2_with fail
  refine hJ.out _ _ (trivial) (fun hSx => ?_)
  clear hJ J
  try simp only [Act.put, List.setIfInBounds_toArray, List.set_cons_zero, List.set_cons_succ]
  refine wpAnyH_ready (rs := [11]) (by kernel_rfl) (by simp) ?_
  refine AllReadyH.cons rfl (fun J hJ => ?_) AllReadyH.nil
  go_simp
  refine (A2 w.drew c1).mono ?_
  rintro e w3 ⟨rfl, hw⟩
  replace hw := hw.symm
  subst hw
  go_wp2_with fail
  refine hJ.out _ _ (trivial) (fun hSx => ?_)
  clear hJ J
  try simp only [Act.put, List.setIfInBounds_toArray, List.set_cons_zero, List.set_cons_succ]
  refine wpAnyH_ready (rs := [12]) (by kernel_rfl) (by simp) ?_
  refine AllReadyH.cons rfl (fun J hJ => ?_) AllReadyH.nil
  go_simp
  refine (C w.drew HW.out).mono ?_
  rintro e w4 ⟨rfl, hL, hK⟩
  clear C
  go_wp2_with fail
  refine hJ.out _ _ (trivial) (fun hSx => ?_)
  clear hJ J
  try simp only [Act.put, List.setIfInBounds_toArray, List.set_cons_zero, List.set_cons_succ]
  refine wpAnyH_done (by kernel_rfl) ?_ _
  refine NoPanic.normal ?_
  go_wp2
  go_end0
  exact ⟨rfl, hL, (Kp.drew base gb w).trans hK⟩

end Go.Proofs.Ytdeofjmgjhfkcaa
