/- The walk of slanted, with the other way to find a place between. -/
import Derived.Test.YtdeofjmgjhfkcaaA1
import Derived.Deep.QuietTactic
import Derived.BigQuiet
import Derived.Deep.RegionHeld3
/- The walk of slanted, with each of its two ways to find a place between. -/
/- The walks of the two ways to find a place between two, and of slanted. -/
/- The walks of at, upright and slanted. -/
namespace Go.Proofs.Ytdeofjmgjhfkcaa
open Go.RowKit

/-- A box of blocks and of how wide it is. -/
abbrev RowB (w : World) (base gb width : Nat) (L : List (List Nat)) : Prop := Lst w base gb 76 [.int .i64 (width : Int)] L
theorem Lst.width {w : World} {base gb width : Nat} {L : List (List Nat)} (h : RowB w base gb width L) : w.cell? ⟨gb, 1, none⟩ = some (.int .i64 (width : Int)) := by
  obtain ⟨v, h1, _⟩ := h
  rw [cell_of_row _ _ _ _ _ _ h1]; rfl
theorem Kp.drew (base gb : Nat) (w : World) : Kp base gb w w.drew := ⟨(Below.refl _ w).drew, fun _ _ _ => rfl⟩
set_option maxRecDepth 100000 in
set_option maxHeartbeats 2000000 in
theorem at_any (row place gb width : Nat) (w : World) (h : w.cell? ⟨gb, 1, none⟩ = some (.int .i64 (width : Int))) (hr : row ≤ 99) (hw : width ≤ 99) (hp : place ≤ 99) :
    Calls Try.prog 50 #[.pointer (some ⟨gb, 0, none⟩), .int .i64 (row : Int), .int .i64 (place : Int)] w fun e w' => e = .returned (.int .i64 ((row * width + place : Nat) : Int)) ∧ w' = w := by
  have hm : row * width ≤ 99 * 99 := Nat.mul_le_mul hr hw
  obtain ⟨p, Hp⟩ : ∃ p, Hid (row * width = p) := ⟨_, rfl⟩
  have hpm : (row : Int) * (width : Int) = (p : Int) := by rw [← Hp.out]; simp
  rw [Hp.out] at hm ⊢
  go_enter Try.func50, Try.ntmps50
  go_wp2
  go_ret
  exact ⟨by go_num, rfl⟩
set_option maxRecDepth 100000 in
set_option maxHeartbeats 4000000 in
theorem upright_any (place base gb width : Nat) (L : List (List Nat)) (w : World) (h : RowB w base gb width L) (hl : L.length ≤ 6000) (hw : width ≤ 99) (hp : place ≤ 99) :
    Calls Try.prog 48 #[.pointer (some ⟨gb, 0, none⟩), .int .i64 (place : Int)] w fun e w' => e = .returned (.tuple #[]) ∧ RowB w' base gb width (L ++ [s3 [0 * width + place, 1 * width + place, 2 * width + place]]) ∧ Kp base gb w w' := by
  have HW : Hid (RowB w base gb width L) := h
  have c1 := h.width
  have C := fun W (h : RowB W base gb width L) => add_any (0 * width + place) (1 * width + place) (2 * width + place) base gb 76 [.int .i64 (width : Int)] L W h hl
  have A0 : ∀ W, W.cell? ⟨gb, 1, none⟩ = some (.int .i64 (width : Int)) → Calls Try.prog 50 #[.pointer (some ⟨gb, 0, none⟩), .int .i64 0, .int .i64 (place : Int)] W fun e w' => e = .returned (.int .i64 ((0 * width + place : Nat) : Int)) ∧ w' = W := fun W hW => at_any 0 place gb width W hW (by omega) hw hp
  have A1 : ∀ W, W.cell? ⟨gb, 1, none⟩ = some (.int .i64 (width : Int)) → Calls Try.prog 50 #[.pointer (some ⟨gb, 0, none⟩), .int .i64 1, .int .i64 (place : Int)] W fun e w' => e = .returned (.int .i64 ((1 * width + place : Nat) : Int)) ∧ w' = W := fun W hW => at_any 1 place gb width W hW (by omega) hw hp
  have A2 : ∀ W, W.cell? ⟨gb, 1, none⟩ = some (.int .i64 (width : Int)) → Calls Try.prog 50 #[.pointer (some ⟨gb, 0, none⟩), .int .i64 2, .int .i64 (place : Int)] W fun e w' => e = .returned (.int .i64 ((2 * width + place : Nat) : Int)) ∧ w' = W := fun W hW => at_any 2 place gb width W hW (by omega) hw hp
  generalize s3 [0 * width + place, 1 * width + place, 2 * width + place] = s at *
  generalize 0 * width + place = x0 at *
  generalize 1 * width + place = x1 at *
  generalize 2 * width + place = x2 at *
  go_enter Try.func48, Try.ntmps48
  go_wp2
  refine wp_region_noPanic ?_
  refine wp_region_held_drew (S := fun _ => True) (by kernel_rfl) (trivial) (fun hSx => ?_)
  refine wpAnyH_take (i := 0) (v := .pointer (some ⟨gb, 0, none⟩)) rfl (by kernel_rfl) (by kernel_rfl) (by kernel_rfl) (fun _ _ _ h => h) (Or.inl ⟨by rfl, fun w' hSw => by (try dsimp only at hSw); have hs0 := hSw; go_simp⟩) hSx ?_
  try simp only [Act.put, List.setIfInBounds_toArray]
  refine wpAnyH_take (i := 1) (v := .pointer (some ⟨gb, 0, none⟩)) rfl (by kernel_rfl) (by kernel_rfl) (by kernel_rfl) (fun _ _ _ h => h) (Or.inl ⟨by rfl, fun w' hSw => by (try dsimp only at hSw); have hs0 := hSw; go_simp⟩) hSx ?_
  try simp only [Act.put]
  refine wpAnyH_take (i := 2) (v := .pointer (some ⟨gb, 0, none⟩)) rfl (by kernel_rfl) (by kernel_rfl) (by kernel_rfl) (fun _ _ _ h => h) (Or.inl ⟨by rfl, fun w' hSw => by (try dsimp only at hSw); have hs0 := hSw; go_simp⟩) hSx ?_
  try simp only [Act.put]
  refine wpAnyH_take (i := 3) (v := .pointer (some ⟨gb, 0, none⟩)) rfl (by kernel_rfl) (by kernel_rfl) (by kernel_rfl) (fun _ _ _ h => h) (Or.inl ⟨by rfl, fun w' hSw => by (try dsimp only at hSw); have hs0 := hSw; go_simp⟩) hSx ?_
  try simp only [Act.put]
  refine wpAnyH_take (i := 4) (v := .int .i64 (place : Int)) rfl (by kernel_rfl) (by kernel_rfl) (by kernel_rfl) (fun _ _ _ h => h) (Or.inl ⟨by rfl, fun w' hSw => by (try dsimp only at hSw); have hs0 := hSw; go_simp⟩) hSx ?_
  try simp only [Act.put]
  refine wpAnyH_take (i := 6) (v := .pointer (some ⟨gb, 0, none⟩)) rfl (by kernel_rfl) (by kernel_rfl) (by kernel_rfl) (fun _ _ _ h => h) (Or.inl ⟨by rfl, fun w' hSw => by (try dsimp only at hSw); have hs0 := hSw; go_simp⟩) hSx ?_
  try simp only [Act.put]
  refine wpAnyH_take (i := 7) (v := .int .i64 (place : Int)) rfl (by kernel_rfl) (by kernel_rfl) (by kernel_rfl) (fun _ _ _ h => h) (Or.inl ⟨by rfl, fun w' hSw => by (try dsimp only at hSw); have hs0 := hSw; go_simp⟩) hSx ?_
  try simp only [Act.put]
  refine wpAnyH_take (i := 9) (v := .pointer (some ⟨gb, 0, none⟩)) rfl (by kernel_rfl) (by kernel_rfl) (by kernel_rfl) (fun _ _ _ h => h) (Or.inl ⟨by rfl, fun w' hSw => by (try dsimp only at hSw); have hs0 := hSw; go_simp⟩) hSx ?_
  try simp only [Act.put]
  refine wpAnyH_take (i := 10) (v := .int .i64 (place : Int)) rfl (by kernel_rfl) (by kernel_rfl) (by kernel_rfl) (fun _ _ _ h => h) (Or.inl ⟨by rfl, fun w' hSw => by (try dsimp only at hSw); have hs0 := hSw; go_simp⟩) hSx ?_
  try simp only [Act.put]
  refine wpAnyH_ready (rs := [5]) (by kernel_rfl) (by simp) ?_
  refine AllReadyH.cons rfl (fun J hJ => ?_) AllReadyH.nil
  go_simp
  refine (A0 w.drew c1).mono ?_
  rintro e w1 ⟨rfl, hw⟩
  replace hw := hw.symm
  subst hw
  go_wp2_with fail
  refine hJ.out _ _ (trivial) (fun hSx => ?_)
  clear hJ J
  try simp only [Act.put, List.setIfInBounds_toArray, List.set_cons_zero, List.set_cons_succ]
  refine wpAnyH_ready (rs := [8]) (by kernel_rfl) (by simp) ?_
  refine AllReadyH.cons rfl (fun J hJ => ?_) AllReadyH.nil
  go_simp
  refine (A1 w.drew c1).mono ?_
  rintro e w2 ⟨rfl, hw⟩
  replace hw := hw.symm
  subst hw
  go_wp2_with fail
  refine hJ.out _ _ (trivial) (fun hSx => ?_)
  clear hJ J
  try simp only [Act.put, List.setIfInBounds_toArray, List.set_cons_zero, List.set_cons_succ]
  refine wpAnyH_ready (rs := [11]) (by kernel_rfl) (by simp) ?_
  refine AllReadyH.cons rfl (fun J hJ => ?_) AllReadyH.nil
  go_simp
  refine (A2 w.drew c1).mono ?_
  rintro e w3 ⟨rfl, hw⟩
  replace hw := hw.symm
  subst hw
  go_wp2_with fail
  refine hJ.out _ _ (trivial) (fun hSx => ?_)
  clear hJ J
  try simp only [Act.put, List.setIfInBounds_toArray, List.set_cons_zero, List.set_cons_succ]
  refine wpAnyH_ready (rs := [12]) (by kernel_rfl) (by simp) ?_
  refine AllReadyH.cons rfl (fun J hJ => ?_) AllReadyH.nil
  go_simp
  refine (C w.drew HW.out).mono ?_
  rintro e w4 ⟨rfl, hL, hK⟩
  clear C
  go_wp2_with fail
  refine hJ.out _ _ (trivial) (fun hSx => ?_)
  clear hJ J
  try simp only [Act.put, List.setIfInBounds_toArray, List.set_cons_zero, List.set_cons_succ]
  refine wpAnyH_done (by kernel_rfl) ?_ _
  refine NoPanic.normal ?_
  go_wp2
  go_end0
  exact ⟨rfl, hL, (Kp.drew base gb w).trans hK⟩

end Go.Proofs.Ytdeofjmgjhfkcaa

namespace Go.Proofs.Ytdeofjmgjhfkcaa
open Go.RowKit

/-- The blocks that slanted adds. -/
def slC (m : Nat) (f : Nat → Nat → Nat) (x y i : Nat) : List Nat := [i * m + x, i * m + y, ((i + 1) % 3) * m + f x y]
def slI (m : Nat) (f : Nat → Nat → Nat) (x y i : Nat) : List (List Nat) := (List.range i).map fun i => s3 (slC m f x y i)
def slX (m : Nat) (f : Nat → Nat → Nat) (y x : Nat) : List (List Nat) := (List.range x).flatMap fun x => slI m f x y 3
def slY (m : Nat) (f : Nat → Nat → Nat) (y : Nat) : List (List Nat) := (List.range y).flatMap fun y => slX m f y y
theorem slI_succ (m : Nat) (f : Nat → Nat → Nat) (x y i : Nat) : slI m f x y (i + 1) = slI m f x y i ++ [s3 (slC m f x y i)] := by unfold slI; rw [List.range_succ, List.map_append]; rfl
theorem slX_succ (m : Nat) (f : Nat → Nat → Nat) (y x : Nat) : slX m f y (x + 1) = slX m f y x ++ slI m f x y 3 := by unfold slX; rw [List.range_succ, List.flatMap_append]; simp
theorem slY_succ (m : Nat) (f : Nat → Nat → Nat) (y : Nat) : slY m f (y + 1) = slY m f y ++ slX m f y y := by unfold slY; rw [List.range_succ, List.flatMap_append]; simp
theorem slI_len (m : Nat) (f : Nat → Nat → Nat) (x y i : Nat) : (slI m f x y i).length = i := by simp [slI]
theorem slX_len (m : Nat) (f : Nat → Nat → Nat) (y : Nat) : ∀ x, (slX m f y x).length = 3 * x
  | 0 => rfl
  | x + 1 => by rw [slX_succ, List.length_append, slX_len m f y x, slI_len]; omega
theorem slY_len (m : Nat) (f : Nat → Nat → Nat) : ∀ y, y ≤ 11 → (slY m f y).length ≤ 33 * y
  | 0, _ => by simp [slY]
  | y + 1, h => by
    have := slY_len m f y (by omega)
    rw [slY_succ, List.length_append, slX_len]; omega
def boF (t m x y : Nat) : Nat := (x + y) * (t + 1) % m
def skF (t m x y : Nat) : Nat := ((x + y) % m) / 2 + ((x + y) % m) % 2 * t
set_option maxRecDepth 100000 in
set_option maxHeartbeats 2000000 in
theorem boF_any (x y t m tb pb gb : Nat) (w : World) (h1 : w.cell? ⟨tb, 0, none⟩ = some (.int .i64 (t : Int))) (h2 : w.cell? ⟨pb, 0, none⟩ = some (.pointer (some ⟨gb, 0, none⟩))) (h3 : w.cell? ⟨gb, 1, none⟩ = some (.int .i64 (m : Int))) (hx : x ≤ 99) (hy : y ≤ 99) (ht : t ≤ 99) (hm : 1 ≤ m) (hm9 : m ≤ 99) :
    Calls Try.prog 53 #[.int .i64 (x : Int), .int .i64 (y : Int), .pointer (some ⟨tb, 0, none⟩), .pointer (some ⟨pb, 0, none⟩)] w fun e w' => e = .returned (.int .i64 ((boF t m x y : Nat) : Int)) ∧ Below w.heap.size w w' := by
  have hp : (x + y) * (t + 1) ≤ 198 * 100 := Nat.mul_le_mul (by omega) (by omega)
  unfold boF
  obtain ⟨p, Hp⟩ : ∃ p, Hid ((x + y) * (t + 1) = p) := ⟨_, rfl⟩
  have hpm : ((x : Int) + (y : Int)) * ((t : Int) + 1) = (p : Int) := by rw [← Hp.out]; simp
  rw [Hp.out] at hp ⊢
  have hmz : ¬ (m : Int) = 0 := by omega
  have hmn : ¬ (m : Int) = -1 := by omega
  have hmz2 : ((m : Int) == 0) = false := by simp; omega
  have hr : (p : Int).tmod (m : Int) = ((p % m : Nat) : Int) := by rw [Int.tmod_eq_emod_of_nonneg (by omega)]; rfl
  have hlt : p % m < m := Nat.mod_lt _ hm
  generalize p % m = r at *
  go_enter Try.func53, Try.ntmps53
  go_wp2
  go_quiet (fail)
  go_wp2
  go_ret
  exact ⟨rfl, ⟨rfl, rfl, rfl, Nat.le_refl _, fun _ _ => rfl⟩⟩
set_option maxRecDepth 100000 in
set_option maxHeartbeats 2000000 in
theorem skF_any (x y t m tb pb gb : Nat) (w : World) (h1 : w.cell? ⟨tb, 0, none⟩ = some (.int .i64 (t : Int))) (h2 : w.cell? ⟨pb, 0, none⟩ = some (.pointer (some ⟨gb, 0, none⟩))) (h3 : w.cell? ⟨gb, 1, none⟩ = some (.int .i64 (m : Int))) (hx : x ≤ 99) (hy : y ≤ 99) (ht : t ≤ 99) (hm : 1 ≤ m) (hm9 : m ≤ 99) :
    Calls Try.prog 52 #[.int .i64 (x : Int), .int .i64 (y : Int), .pointer (some ⟨pb, 0, none⟩), .pointer (some ⟨tb, 0, none⟩)] w fun e w' => e = .returned (.int .i64 ((skF t m x y : Nat) : Int)) ∧ Below w.heap.size w w' := by
  unfold skF
  have hmz : ¬ (m : Int) = 0 := by omega
  have hmn : ¬ (m : Int) = -1 := by omega
  have hmz2 : ((m : Int) == 0) = false := by simp; omega
  have hr : ((x : Int) + (y : Int)).tmod (m : Int) = (((x + y) % m : Nat) : Int) := by rw [Int.tmod_eq_emod_of_nonneg (by omega)]; rfl
  have hlt : (x + y) % m < m := Nat.mod_lt _ hm
  generalize (x + y) % m = r at *
  have hq : (r : Int).tdiv 2 = ((r / 2 : Nat) : Int) := by rw [Int.tdiv_eq_ediv_of_nonneg (by omega)]; rfl
  have hq2 : (r : Int).tmod 2 = ((r % 2 : Nat) : Int) := by rw [Int.tmod_eq_emod_of_nonneg (by omega)]; rfl
  have hp : r % 2 * t ≤ 1 * 99 := Nat.mul_le_mul (by omega) ht
  have hpm : ((r % 2 : Nat) : Int) * (t : Int) = ((r % 2 * t : Nat) : Int) := by simp
  have hr2 : r / 2 ≤ 99 := by omega
  generalize r % 2 * t = p at *
  generalize r / 2 = a at *
  generalize r % 2 = b at *
  go_enter Try.func52, Try.ntmps52
  go_wp2
  go_ret
  exact ⟨by go_num, Below.refl _ w⟩

end Go.Proofs.Ytdeofjmgjhfkcaa

namespace Go.Proofs.Ytdeofjmgjhfkcaa
open Go.RowKit

theorem cell_same {w w' : World} {b : Nat} {a : Nat} (h : w'.heap[b]? = w.heap[b]?) : w'.cell? ⟨b, a, none⟩ = w.cell? ⟨b, a, none⟩ := by
  unfold World.cell?
  simp only [h]
theorem Lst.drew {w : World} {base gb : Nat} {ty : TypeId} {rest : List Value} {L : List (List Nat)} (h : Lst w base gb ty rest L) : Lst w.drew base gb ty rest L := h.below ((Below.refl _ w).drew)
theorem Lst.le {w : World} {base gb : Nat} {ty : TypeId} {rest : List Value} {L : List (List Nat)} (h : Lst w base gb ty rest L) : base ≤ w.heap.size := by
  obtain ⟨_, _, _, _, h⟩ := h
  exact h
theorem Lst.le2 {w : World} {base gb : Nat} {ty : TypeId} {rest : List Value} {L : List (List Nat)} (h : Lst w base gb ty rest L) : gb ≤ w.heap.size := by
  obtain ⟨_, _, _, h1, h⟩ := h
  omega
theorem boF_le {t m : Nat} (x y : Nat) (_ : t ≤ 99) (hm1 : 1 ≤ m) (hm9 : m ≤ 11) : boF t m x y ≤ 99 := by
  have : boF t m x y < m := Nat.mod_lt _ hm1
  omega
theorem skF_le0 {t m : Nat} (x y : Nat) (ht : t ≤ 30) (hm1 : 1 ≤ m) (hm9 : m ≤ 11) : skF t m x y ≤ 99 := by
  unfold skF
  have h1 : (x + y) % m < m := Nat.mod_lt _ hm1
  have h2 : (x + y) % m % 2 * t ≤ 1 * 30 := Nat.mul_le_mul (by omega) ht
  omega
set_option maxRecDepth 100000 in
set_option maxHeartbeats 8000000 in
theorem slanted_bo (t m tb pb base gb : Nat) (L : List (List Nat)) (w : World) (h : RowB w base gb m L) (hl : L.length ≤ 900) (h1 : w.cell? ⟨tb, 0, none⟩ = some (.int .i64 (t : Int))) (h2 : w.cell? ⟨pb, 0, none⟩ = some (.pointer (some ⟨gb, 0, none⟩))) (htb : tb < base) (hpb : pb < base) (htg : tb ≠ gb) (hpg : pb ≠ gb) (ht : t ≤ 30) (hm9 : m ≤ 11) :
    Calls Try.prog 51 #[.pointer (some ⟨gb, 0, none⟩), .func (.func 53) #[] #[.pointer (some ⟨tb, 0, none⟩), .pointer (some ⟨pb, 0, none⟩)]] w fun e w' => e = .returned (.tuple #[]) ∧ RowB w' base gb m (L ++ slY m (boF t m) m) ∧ Kp base gb w w' := by
  have HC : Hid (∀ W, RowB W base gb m L → True) := fun _ _ => trivial
  have c0 := h.width
  have HCL : Hid (∀ W (x y : Nat), W.cell? ⟨gb, 1, none⟩ = some (.int .i64 (m : Int)) → Kp base gb w W → x ≤ 99 → y ≤ 99 → 1 ≤ m → Calls Try.prog 53 #[.int .i64 (x : Int), .int .i64 (y : Int), .pointer (some ⟨tb, 0, none⟩), .pointer (some ⟨pb, 0, none⟩)] W fun e w' => e = .returned (.int .i64 ((boF t m x y : Nat) : Int)) ∧ Below W.heap.size W w') := fun W x y hW hK hx hy hm1 =>
    boF_any x y t m tb pb gb W ((cell_same (hK.at' tb htb htg)).trans h1) ((cell_same (hK.at' pb hpb hpg)).trans h2) hW hx hy (by omega) hm1 (by omega)
  have HFB : Hid (∀ x y : Nat, 1 ≤ m → boF t m x y ≤ 999 → True) := fun _ _ _ _ => trivial
  have HAT : Hid (∀ W (r p : Nat), r ≤ 99 → p ≤ 99 → W.cell? ⟨gb, 1, none⟩ = some (.int .i64 (m : Int)) → Calls Try.prog 50 #[.pointer (some ⟨gb, 0, none⟩), .int .i64 (r : Int), .int .i64 (p : Int)] W fun e w' => e = .returned (.int .i64 ((r * m + p : Nat) : Int)) ∧ w' = W) := fun W r p hr hp hW => at_any r p gb m W hW hr (by omega) hp
  have HADD : Hid (∀ W (x y z : Nat) (M : List (List Nat)), RowB W base gb m M → M.length ≤ 6000 → Calls Try.prog 49 #[.pointer (some ⟨gb, 0, none⟩), .int .i64 (x : Int), .int .i64 (y : Int), .int .i64 (z : Int)] W fun e w' => e = .returned (.tuple #[]) ∧ RowB w' base gb m (M ++ [s3 [x, y, z]]) ∧ Kp base gb W w') := fun W x y z M hM hl => add_any x y z base gb 76 [.int .i64 (m : Int)] M W hM hl
  have HF9 : Hid (∀ x y : Nat, x ≤ 99 → y ≤ 99 → 1 ≤ m → boF t m x y ≤ 99) := fun x y hx hy hm1 => boF_le x y (by omega) hm1 hm9
  obtain ⟨F, HF⟩ : ∃ F, Hid (boF t m = F) := ⟨_, rfl⟩
  rw [HF.out] at HCL HF9 ⊢
  have HYL : Hid (∀ y, y ≤ m → (slY m F y).length ≤ 400) := fun y hy => by have := slY_len m F y (by omega); omega
  have HXL : Hid (∀ y x, x ≤ m → (slX m F y x).length ≤ 99) := fun y x hx => by rw [slX_len]; omega
  clear h1 h2 HC HFB
  go_enter Try.func51, Try.ntmps51
  go_wp2
  go_loopw [11] (fun yv wr => ∃ (y : Nat), yv = .int .i64 (y : Int) ∧ y ≤ m ∧ RowB wr base gb m (L ++ slY m F y) ∧ Kp base gb w wr) (fun yv _ => (m - intOf yv).toNat)
  case atStart => exact ⟨0, rfl, by omega, by simpa [slY] using h, Kp.refl _ _ _⟩
  case round =>
    clear h c0
    obtain ⟨y, rfl, hy, hR, hK⟩ := hrel
    by_cases hlt : y < m
    · have hdi : decide ((y : Int) < (m : Int)) = true := by simp; omega
      have hii : (y : Int) < (m : Int) := by omega
      have HYS : Hid (slY m F (y + 1) = slY m F y ++ slX m F y y) := slY_succ m F y
      obtain ⟨Ly, HLy⟩ : ∃ Ly, Hid (L ++ slY m F y = Ly) := ⟨_, rfl⟩
      have hly : Ly.length ≤ 1300 := by rw [← HLy.out, List.length_append]; have := HYL.out y hy; omega
      rw [HLy.out] at hR
      have HRY : Hid (L ++ slY m F (y + 1) = Ly ++ slX m F y y) := by show _ = _; rw [HYS.out, ← List.append_assoc, HLy.out]
      clear HYS
      go_wp2
      go_loopw [15] (fun xv wr => ∃ (x : Nat), xv = .int .i64 (x : Int) ∧ x ≤ y ∧ RowB wr base gb m (Ly ++ slX m F y x) ∧ Kp base gb w wr) (fun xv _ => (y - intOf xv).toNat)
      case atStart => exact ⟨0, rfl, by omega, by simpa [slX] using hR, hK⟩
      case round =>
        clear hR hK
        obtain ⟨x, rfl, hx, hR, hK⟩ := hrel
        by_cases hlx : x < y
        · have hdx : decide ((x : Int) < (y : Int)) = true := by simp; omega
          have hxi : (x : Int) < (y : Int) := by omega
          have HXS : Hid (slX m F y (x + 1) = slX m F y x ++ slI m F x y 3) := slX_succ m F y x
          obtain ⟨Lx, HLx⟩ : ∃ Lx, Hid (Ly ++ slX m F y x = Lx) := ⟨_, rfl⟩
          have hlx2 : Lx.length ≤ 1400 := by rw [← HLx.out, List.length_append]; have := HXL.out y x (by omega); omega
          rw [HLx.out] at hR
          have HRX : Hid (Ly ++ slX m F y (x + 1) = Lx ++ slI m F x y 3) := by show _ = _; rw [HXS.out, ← List.append_assoc, HLx.out]
          clear HXS
          go_wp2
          go_loopw [18] (fun iv wr => ∃ (i : Nat), iv = .int .i64 (i : Int) ∧ i ≤ 3 ∧ RowB wr base gb m (Lx ++ slI m F x y i) ∧ Kp base gb w wr) (fun iv _ => (3 - intOf iv).toNat)
          case atStart => exact ⟨0, rfl, by omega, by simpa [slI] using hR, hK⟩
          case round =>
            clear hR hK
            obtain ⟨i, rfl, hi, hR, hK⟩ := hrel
            by_cases hli : i < 3
            · have hdj : decide ((i : Int) < 3) = true := by simp; omega
              have hji : (i : Int) < 3 := by omega
              have HIS : Hid (Lx ++ slI m F x y (i + 1) = (Lx ++ slI m F x y i) ++ [s3 [i * m + x, i * m + y, ((i + 1) % 3) * m + F x y]]) := by show _ = _; rw [slI_succ, ← List.append_assoc]; rfl
              have hrem : ((i : Int) + 1).tmod 3 = (((i + 1) % 3 : Nat) : Int) := by rw [Int.tmod_eq_emod_of_nonneg (by omega)]; rfl
              have hwi : IntKind.i64.wrap ((i : Int) + 1) = (i : Int) + 1 := by simp [IntKind.wrap, IntKind.bits, IntKind.signed]; omega
              have hr3 : (i + 1) % 3 < 3 := Nat.mod_lt _ (by omega)
              have hil : (Lx ++ slI m F x y i).length ≤ 6000 := by rw [List.length_append, slI_len]; omega
              obtain ⟨Li, HLi⟩ : ∃ Li, Hid (Lx ++ slI m F x y i = Li) := ⟨_, rfl⟩
              rw [HLi.out] at hR HIS hil
              have hfl := HF9.out x y (by omega) (by omega) (by omega)
              have c1 := hR.width
              have HR : Hid (RowB wr base gb m Li) := hR
              have HK : Hid (Kp base gb w wr) := hK
              have HC1 : Hid (∀ W, W.cell? ⟨gb, 1, none⟩ = some (.int .i64 (m : Int)) → Calls Try.prog 50 #[.pointer (some ⟨gb, 0, none⟩), .int .i64 (i : Int), .int .i64 (x : Int)] W fun e w' => e = .returned (.int .i64 ((i * m + x : Nat) : Int)) ∧ w' = W) := fun W hW => HAT.out W _ _ (by omega) (by omega) hW
              have HC2 : Hid (∀ W, W.cell? ⟨gb, 1, none⟩ = some (.int .i64 (m : Int)) → Calls Try.prog 50 #[.pointer (some ⟨gb, 0, none⟩), .int .i64 (i : Int), .int .i64 (y : Int)] W fun e w' => e = .returned (.int .i64 ((i * m + y : Nat) : Int)) ∧ w' = W) := fun W hW => HAT.out W _ _ (by omega) (by omega) hW
              have HC3 : Hid (∀ W, W.cell? ⟨gb, 1, none⟩ = some (.int .i64 (m : Int)) → Kp base gb w W → Calls Try.prog 53 #[.int .i64 (x : Int), .int .i64 (y : Int), .pointer (some ⟨tb, 0, none⟩), .pointer (some ⟨pb, 0, none⟩)] W fun e w' => e = .returned (.int .i64 ((F x y : Nat) : Int)) ∧ Below W.heap.size W w') := fun W h1 h2 => HCL.out W x y h1 h2 (by omega) (by omega) (by omega)
              have HC4 : Hid (∀ W, W.cell? ⟨gb, 1, none⟩ = some (.int .i64 (m : Int)) → Calls Try.prog 50 #[.pointer (some ⟨gb, 0, none⟩), .int .i64 (((i + 1) % 3 : Nat) : Int), .int .i64 (F x y : Int)] W fun e w' => e = .returned (.int .i64 ((((i + 1) % 3) * m + F x y : Nat) : Int)) ∧ w' = W) := fun W hW => HAT.out W _ _ (by omega) (by omega) hW
              have HC5 : Hid (∀ W, RowB W base gb m Li → Calls Try.prog 49 #[.pointer (some ⟨gb, 0, none⟩), .int .i64 ((i * m + x : Nat) : Int), .int .i64 ((i * m + y : Nat) : Int), .int .i64 ((((i + 1) % 3) * m + F x y : Nat) : Int)] W fun e w' => e = .returned (.tuple #[]) ∧ RowB w' base gb m (Li ++ [s3 [i * m + x, i * m + y, ((i + 1) % 3) * m + F x y]]) ∧ Kp base gb W w') := fun W hW => HADD.out W _ _ _ Li hW hil
              generalize s3 [i * m + x, i * m + y, ((i + 1) % 3) * m + F x y] = sb at *
              generalize i * m + x = a1 at *
              generalize i * m + y = a2 at *
              generalize ((i + 1) % 3) * m + F x y = a3 at *
              generalize (i + 1) % 3 = r at *
              generalize F x y = fxy at *
              clear hR hK hil HCL HAT HADD HF9 HYL HXL
              go_wp2

              refine wp_region_noPanic ?_
              refine wp_region_held_drew (S := fun _ => True) (by kernel_rfl) (trivial) (fun hSx => ?_)
              refine wpAnyH_take (i := 0) (v := .pointer (some ⟨gb, 0, none⟩)) rfl (by kernel_rfl) (by kernel_rfl) (by kernel_rfl) (fun _ _ _ h => h) (Or.inl ⟨by rfl, fun w' hSw => by (try dsimp only at hSw); have hs0 := hSw; go_simp⟩) hSx ?_
              try simp only [Act.put, List.setIfInBounds_toArray]
              refine wpAnyH_take (i := 1) (v := .pointer (some ⟨gb, 0, none⟩)) rfl (by kernel_rfl) (by kernel_rfl) (by kernel_rfl) (fun _ _ _ h => h) (Or.inl ⟨by rfl, fun w' hSw => by (try dsimp only at hSw); have hs0 := hSw; go_simp⟩) hSx ?_
              try simp only [Act.put]
              refine wpAnyH_take (i := 2) (v := .pointer (some ⟨gb, 0, none⟩)) rfl (by kernel_rfl) (by kernel_rfl) (by kernel_rfl) (fun _ _ _ h => h) (Or.inl ⟨by rfl, fun w' hSw => by (try dsimp only at hSw); have hs0 := hSw; go_simp⟩) hSx ?_
              try simp only [Act.put]
              refine wpAnyH_take (i := 3) (v := .pointer (some ⟨gb, 0, none⟩)) rfl (by kernel_rfl) (by kernel_rfl) (by kernel_rfl) (fun _ _ _ h => h) (Or.inl ⟨by rfl, fun w' hSw => by (try dsimp only at hSw); have hs0 := hSw; go_simp⟩) hSx ?_
              try simp only [Act.put]
              refine wpAnyH_take (i := 4) (v := .int .i64 (i : Int)) rfl (by kernel_rfl) (by kernel_rfl) (by kernel_rfl) (fun _ _ _ h => h) (Or.inl ⟨by rfl, fun w' hSw => by (try dsimp only at hSw); have hs0 := hSw; go_simp⟩) hSx ?_
              try simp only [Act.put]
              refine wpAnyH_take (i := 5) (v := .int .i64 (x : Int)) rfl (by kernel_rfl) (by kernel_rfl) (by kernel_rfl) (fun _ _ _ h => h) (Or.inl ⟨by rfl, fun w' hSw => by (try dsimp only at hSw); have hs0 := hSw; go_simp⟩) hSx ?_
              try simp only [Act.put]
              refine wpAnyH_take (i := 7) (v := .pointer (some ⟨gb, 0, none⟩)) rfl (by kernel_rfl) (by kernel_rfl) (by kernel_rfl) (fun _ _ _ h => h) (Or.inl ⟨by rfl, fun w' hSw => by (try dsimp only at hSw); have hs0 := hSw; go_simp⟩) hSx ?_
              try simp only [Act.put]
              refine wpAnyH_take (i := 8) (v := .int .i64 (i : Int)) rfl (by kernel_rfl) (by kernel_rfl) (by kernel_rfl) (fun _ _ _ h => h) (Or.inl ⟨by rfl, fun w' hSw => by (try dsimp only at hSw); have hs0 := hSw; go_simp⟩) hSx ?_
              try simp only [Act.put]
              refine wpAnyH_take (i := 9) (v := .int .i64 (y : Int)) rfl (by kernel_rfl) (by kernel_rfl) (by kernel_rfl) (fun _ _ _ h => h) (Or.inl ⟨by rfl, fun w' hSw => by (try dsimp only at hSw); have hs0 := hSw; go_simp⟩) hSx ?_
              try simp only [Act.put]
              refine wpAnyH_take (i := 11) (v := .pointer (some ⟨gb, 0, none⟩)) rfl (by kernel_rfl) (by kernel_rfl) (by kernel_rfl) (fun _ _ _ h => h) (Or.inl ⟨by rfl, fun w' hSw => by (try dsimp only at hSw); have hs0 := hSw; go_simp⟩) hSx ?_
              try simp only [Act.put]
              refine wpAnyH_take (i := 12) (v := .int .i64 (i : Int)) rfl (by kernel_rfl) (by kernel_rfl) (by kernel_rfl) (fun _ _ _ h => h) (Or.inl ⟨by rfl, fun w' hSw => by (try dsimp only at hSw); have hs0 := hSw; go_simp⟩) hSx ?_
              try simp only [Act.put]
              refine wpAnyH_take (i := 13) (v := .int .i64 ((i : Int) + 1)) rfl (by kernel_rfl) (by kernel_rfl) (by kernel_rfl) (fun _ _ _ h => h) (Or.inl ⟨by rfl, fun w' hSw => by (try dsimp only at hSw); have hs0 := hSw; go_simp⟩) hSx ?_
              try simp only [Act.put]
              refine wpAnyH_take (i := 14) (v := .int .i64 (r : Int)) rfl (by kernel_rfl) (by kernel_rfl) (by kernel_rfl) (fun _ _ _ h => h) (Or.inl ⟨by rfl, fun w' hSw => by (try dsimp only at hSw); have hs0 := hSw; go_simp⟩) hSx ?_
              try simp only [Act.put]
              refine wpAnyH_take (i := 15) (v := .func (.func 53) #[] #[.pointer (some ⟨tb, 0, none⟩), .pointer (some ⟨pb, 0, none⟩)]) rfl (by kernel_rfl) (by kernel_rfl) (by kernel_rfl) (fun _ _ _ h => h) (Or.inl ⟨by rfl, fun w' hSw => by (try dsimp only at hSw); have hs0 := hSw; go_simp⟩) hSx ?_
              try simp only [Act.put]
              refine wpAnyH_take (i := 16) (v := .int .i64 (x : Int)) rfl (by kernel_rfl) (by kernel_rfl) (by kernel_rfl) (fun _ _ _ h => h) (Or.inl ⟨by rfl, fun w' hSw => by (try dsimp only at hSw); have hs0 := hSw; go_simp⟩) hSx ?_
              try simp only [Act.put]
              refine wpAnyH_take (i := 17) (v := .int .i64 (y : Int)) rfl (by kernel_rfl) (by kernel_rfl) (by kernel_rfl) (fun _ _ _ h => h) (Or.inl ⟨by rfl, fun w' hSw => by (try dsimp only at hSw); have hs0 := hSw; go_simp⟩) hSx ?_
              try simp only [Act.put]
              refine wpAnyH_ready (rs := [6]) (by kernel_rfl) (by simp) ?_
              refine AllReadyH.cons rfl (fun J hJ => ?_) AllReadyH.nil
              go_simp
              refine (HC1.out wr.drew c1).mono ?_
              rintro e v1 ⟨rfl, hw⟩
              replace hw := hw.symm
              subst hw
              go_wp2_with fail
              refine hJ.out _ _ (trivial) (fun hSx => ?_)
              clear hJ J
              try simp only [Act.put, List.setIfInBounds_toArray, List.set_cons_zero, List.set_cons_succ]
              refine wpAnyH_ready (rs := [10]) (by kernel_rfl) (by simp) ?_
              refine AllReadyH.cons rfl (fun J hJ => ?_) AllReadyH.nil
              go_simp
              refine (HC2.out wr.drew c1).mono ?_
              rintro e v2 ⟨rfl, hw⟩
              replace hw := hw.symm
              subst hw
              go_wp2_with fail
              refine hJ.out _ _ (trivial) (fun hSx => ?_)
              clear hJ J
              try simp only [Act.put, List.setIfInBounds_toArray, List.set_cons_zero, List.set_cons_succ]
              refine wpAnyH_ready (rs := [18]) (by kernel_rfl) (by simp) ?_
              refine AllReadyH.cons rfl (fun J hJ => ?_) AllReadyH.nil
              go_simp
              refine (HC3.out wr.drew c1 (HK.out.trans (Kp.drew _ _ _))).mono ?_
              rintro e v3 ⟨rfl, hb3⟩
              have c3 : v3.cell? ⟨gb, 1, none⟩ = _ := (hb3.cell (World.block_lt_of_cell? _ _ c1)).trans c1
              go_wp2_with fail
              refine hJ.out _ _ (trivial) (fun hSx => ?_)
              clear hJ J
              try simp only [Act.put, List.setIfInBounds_toArray, List.set_cons_zero, List.set_cons_succ]
              refine wpAnyH_ready (rs := [19]) (by kernel_rfl) (by simp) ?_
              refine AllReadyH.cons rfl (fun J hJ => ?_) AllReadyH.nil
              go_simp
              refine (HC4.out v3 c3).mono ?_
              rintro e v4 ⟨rfl, hw⟩
              replace hw := hw.symm
              subst hw
              go_wp2_with fail
              refine hJ.out _ _ (trivial) (fun hSx => ?_)
              clear hJ J
              try simp only [Act.put, List.setIfInBounds_toArray, List.set_cons_zero, List.set_cons_succ]
              refine wpAnyH_ready (rs := [20]) (by kernel_rfl) (by simp) ?_
              refine AllReadyH.cons rfl (fun J hJ => ?_) AllReadyH.nil
              go_simp
              refine (HC5.out v3 (HR.out.drew.below hb3)).mono ?_
              rintro e v5 ⟨rfl, hL, hK5⟩
              go_wp2_with fail
              refine hJ.out _ _ (trivial) (fun hSx => ?_)
              clear hJ J
              try simp only [Act.put, List.setIfInBounds_toArray, List.set_cons_zero, List.set_cons_succ]
              refine wpAnyH_done (by kernel_rfl) ?_ _
              refine NoPanic.normal ?_
              have hKe : Kp base gb w v5 := ((HK.out.trans (Kp.drew _ _ _)).trans (Kp.of hb3 HR.out.le HR.out.le2)).trans hK5
              rw [← HIS.out] at hL
              clear hK5 HC5 HC4 HC1 HC2 HC3 HIS
              go_wp2
              go_roundw
              case rel => exact ⟨i + 1, by go_num, by omega, hL, hKe⟩
              case measure => simp [intOf]; omega
            · have hdj : decide ((i : Int) < 3) = false := by simp; omega
              obtain rfl : i = 3 := by omega
              rw [← HRX.out] at hR
              go_wp2
              go_roundw
              case rel => exact ⟨x + 1, by go_num, by omega, hR, hK⟩
              case measure => simp [intOf]; omega
        · have hdx : decide ((x : Int) < (y : Int)) = false := by simp; omega
          obtain rfl : x = y := by omega
          rw [← HRY.out] at hR
          go_wp2
          go_roundw
          case rel => exact ⟨x + 1, by go_num, by omega, hR, hK⟩
          case measure => simp [intOf]; omega
    · have hdi : decide ((y : Int) < (m : Int)) = false := by simp; omega
      obtain rfl : y = m := by omega
      go_wp2
      go_end0
      exact ⟨rfl, hR, hK⟩

end Go.Proofs.Ytdeofjmgjhfkcaa

namespace Go.Proofs.Ytdeofjmgjhfkcaa
open Go.RowKit

set_option maxRecDepth 100000 in
set_option maxHeartbeats 8000000 in
theorem slanted_sk (t m tb pb base gb : Nat) (L : List (List Nat)) (w : World) (h : RowB w base gb m L) (hl : L.length ≤ 900) (h1 : w.cell? ⟨tb, 0, none⟩ = some (.int .i64 (t : Int))) (h2 : w.cell? ⟨pb, 0, none⟩ = some (.pointer (some ⟨gb, 0, none⟩))) (htb : tb < base) (hpb : pb < base) (htg : tb ≠ gb) (hpg : pb ≠ gb) (ht : t ≤ 30) (hm9 : m ≤ 11) :
    Calls Try.prog 51 #[.pointer (some ⟨gb, 0, none⟩), .func (.func 52) #[] #[.pointer (some ⟨pb, 0, none⟩), .pointer (some ⟨tb, 0, none⟩)]] w fun e w' => e = .returned (.tuple #[]) ∧ RowB w' base gb m (L ++ slY m (skF t m) m) ∧ Kp base gb w w' := by
  have HC : Hid (∀ W, RowB W base gb m L → True) := fun _ _ => trivial
  have c0 := h.width
  have HCL : Hid (∀ W (x y : Nat), W.cell? ⟨gb, 1, none⟩ = some (.int .i64 (m : Int)) → Kp base gb w W → x ≤ 99 → y ≤ 99 → 1 ≤ m → Calls Try.prog 52 #[.int .i64 (x : Int), .int .i64 (y : Int), .pointer (some ⟨pb, 0, none⟩), .pointer (some ⟨tb, 0, none⟩)] W fun e w' => e = .returned (.int .i64 ((skF t m x y : Nat) : Int)) ∧ Below W.heap.size W w') := fun W x y hW hK hx hy hm1 =>
    skF_any x y t m tb pb gb W ((cell_same (hK.at' tb htb htg)).trans h1) ((cell_same (hK.at' pb hpb hpg)).trans h2) hW hx hy (by omega) hm1 (by omega)
  have HFB : Hid (∀ x y : Nat, 1 ≤ m → skF t m x y ≤ 999 → True) := fun _ _ _ _ => trivial
  have HAT : Hid (∀ W (r p : Nat), r ≤ 99 → p ≤ 99 → W.cell? ⟨gb, 1, none⟩ = some (.int .i64 (m : Int)) → Calls Try.prog 50 #[.pointer (some ⟨gb, 0, none⟩), .int .i64 (r : Int), .int .i64 (p : Int)] W fun e w' => e = .returned (.int .i64 ((r * m + p : Nat) : Int)) ∧ w' = W) := fun W r p hr hp hW => at_any r p gb m W hW hr (by omega) hp
  have HADD : Hid (∀ W (x y z : Nat) (M : List (List Nat)), RowB W base gb m M → M.length ≤ 6000 → Calls Try.prog 49 #[.pointer (some ⟨gb, 0, none⟩), .int .i64 (x : Int), .int .i64 (y : Int), .int .i64 (z : Int)] W fun e w' => e = .returned (.tuple #[]) ∧ RowB w' base gb m (M ++ [s3 [x, y, z]]) ∧ Kp base gb W w') := fun W x y z M hM hl => add_any x y z base gb 76 [.int .i64 (m : Int)] M W hM hl
  have HF9 : Hid (∀ x y : Nat, x ≤ 99 → y ≤ 99 → 1 ≤ m → skF t m x y ≤ 99) := fun x y hx hy hm1 => skF_le0 x y ht hm1 hm9
  obtain ⟨F, HF⟩ : ∃ F, Hid (skF t m = F) := ⟨_, rfl⟩
  rw [HF.out] at HCL HF9 ⊢
  have HYL : Hid (∀ y, y ≤ m → (slY m F y).length ≤ 400) := fun y hy => by have := slY_len m F y (by omega); omega
  have HXL : Hid (∀ y x, x ≤ m → (slX m F y x).length ≤ 99) := fun y x hx => by rw [slX_len]; omega
  clear h1 h2 HC HFB
  go_enter Try.func51, Try.ntmps51
  go_wp2
  go_loopw [11] (fun yv wr => ∃ (y : Nat), yv = .int .i64 (y : Int) ∧ y ≤ m ∧ RowB wr base gb m (L ++ slY m F y) ∧ Kp base gb w wr) (fun yv _ => (m - intOf yv).toNat)
  case atStart => exact ⟨0, rfl, by omega, by simpa [slY] using h, Kp.refl _ _ _⟩
  case round =>
    clear h c0
    obtain ⟨y, rfl, hy, hR, hK⟩ := hrel
    by_cases hlt : y < m
    · have hdi : decide ((y : Int) < (m : Int)) = true := by simp; omega
      have hii : (y : Int) < (m : Int) := by omega
      have HYS : Hid (slY m F (y + 1) = slY m F y ++ slX m F y y) := slY_succ m F y
      obtain ⟨Ly, HLy⟩ : ∃ Ly, Hid (L ++ slY m F y = Ly) := ⟨_, rfl⟩
      have hly : Ly.length ≤ 1300 := by rw [← HLy.out, List.length_append]; have := HYL.out y hy; omega
      rw [HLy.out] at hR
      have HRY : Hid (L ++ slY m F (y + 1) = Ly ++ slX m F y y) := by show _ = _; rw [HYS.out, ← List.append_assoc, HLy.out]
      clear HYS
      go_wp2
      go_loopw [15] (fun xv wr => ∃ (x : Nat), xv = .int .i64 (x : Int) ∧ x ≤ y ∧ RowB wr base gb m (Ly ++ slX m F y x) ∧ Kp base gb w wr) (fun xv _ => (y - intOf xv).toNat)
      case atStart => exact ⟨0, rfl, by omega, by simpa [slX] using hR, hK⟩
      case round =>
        clear hR hK
        obtain ⟨x, rfl, hx, hR, hK⟩ := hrel
        by_cases hlx : x < y
        · have hdx : decide ((x : Int) < (y : Int)) = true := by simp; omega
          have hxi : (x : Int) < (y : Int) := by omega
          have HXS : Hid (slX m F y (x + 1) = slX m F y x ++ slI m F x y 3) := slX_succ m F y x
          obtain ⟨Lx, HLx⟩ : ∃ Lx, Hid (Ly ++ slX m F y x = Lx) := ⟨_, rfl⟩
          have hlx2 : Lx.length ≤ 1400 := by rw [← HLx.out, List.length_append]; have := HXL.out y x (by omega); omega
          rw [HLx.out] at hR
          have HRX : Hid (Ly ++ slX m F y (x + 1) = Lx ++ slI m F x y 3) := by show _ = _; rw [HXS.out, ← List.append_assoc, HLx.out]
          clear HXS
          go_wp2
          go_loopw [18] (fun iv wr => ∃ (i : Nat), iv = .int .i64 (i : Int) ∧ i ≤ 3 ∧ RowB wr base gb m (Lx ++ slI m F x y i) ∧ Kp base gb w wr) (fun iv _ => (3 - intOf iv).toNat)
          case atStart => exact ⟨0, rfl, by omega, by simpa [slI] using hR, hK⟩
          case round =>
            clear hR hK
            obtain ⟨i, rfl, hi, hR, hK⟩ := hrel
            by_cases hli : i < 3
            · have hdj : decide ((i : Int) < 3) = true := by simp; omega
              have hji : (i : Int) < 3 := by omega
              have HIS : Hid (Lx ++ slI m F x y (i + 1) = (Lx ++ slI m F x y i) ++ [s3 [i * m + x, i * m + y, ((i + 1) % 3) * m + F x y]]) := by show _ = _; rw [slI_succ, ← List.append_assoc]; rfl
              have hrem : ((i : Int) + 1).tmod 3 = (((i + 1) % 3 : Nat) : Int) := by rw [Int.tmod_eq_emod_of_nonneg (by omega)]; rfl
              have hwi : IntKind.i64.wrap ((i : Int) + 1) = (i : Int) + 1 := by simp [IntKind.wrap, IntKind.bits, IntKind.signed]; omega
              have hr3 : (i + 1) % 3 < 3 := Nat.mod_lt _ (by omega)
              have hil : (Lx ++ slI m F x y i).length ≤ 6000 := by rw [List.length_append, slI_len]; omega
              obtain ⟨Li, HLi⟩ : ∃ Li, Hid (Lx ++ slI m F x y i = Li) := ⟨_, rfl⟩
              rw [HLi.out] at hR HIS hil
              have hfl := HF9.out x y (by omega) (by omega) (by omega)
              have c1 := hR.width
              have HR : Hid (RowB wr base gb m Li) := hR
              have HK : Hid (Kp base gb w wr) := hK
              have HC1 : Hid (∀ W, W.cell? ⟨gb, 1, none⟩ = some (.int .i64 (m : Int)) → Calls Try.prog 50 #[.pointer (some ⟨gb, 0, none⟩), .int .i64 (i : Int), .int .i64 (x : Int)] W fun e w' => e = .returned (.int .i64 ((i * m + x : Nat) : Int)) ∧ w' = W) := fun W hW => HAT.out W _ _ (by omega) (by omega) hW
              have HC2 : Hid (∀ W, W.cell? ⟨gb, 1, none⟩ = some (.int .i64 (m : Int)) → Calls Try.prog 50 #[.pointer (some ⟨gb, 0, none⟩), .int .i64 (i : Int), .int .i64 (y : Int)] W fun e w' => e = .returned (.int .i64 ((i * m + y : Nat) : Int)) ∧ w' = W) := fun W hW => HAT.out W _ _ (by omega) (by omega) hW
              have HC3 : Hid (∀ W, W.cell? ⟨gb, 1, none⟩ = some (.int .i64 (m : Int)) → Kp base gb w W → Calls Try.prog 52 #[.int .i64 (x : Int), .int .i64 (y : Int), .pointer (some ⟨pb, 0, none⟩), .pointer (some ⟨tb, 0, none⟩)] W fun e w' => e = .returned (.int .i64 ((F x y : Nat) : Int)) ∧ Below W.heap.size W w') := fun W h1 h2 => HCL.out W x y h1 h2 (by omega) (by omega) (by omega)
              have HC4 : Hid (∀ W, W.cell? ⟨gb, 1, none⟩ = some (.int .i64 (m : Int)) → Calls Try.prog 50 #[.pointer (some ⟨gb, 0, none⟩), .int .i64 (((i + 1) % 3 : Nat) : Int), .int .i64 (F x y : Int)] W fun e w' => e = .returned (.int .i64 ((((i + 1) % 3) * m + F x y : Nat) : Int)) ∧ w' = W) := fun W hW => HAT.out W _ _ (by omega) (by omega) hW
              have HC5 : Hid (∀ W, RowB W base gb m Li → Calls Try.prog 49 #[.pointer (some ⟨gb, 0, none⟩), .int .i64 ((i * m + x : Nat) : Int), .int .i64 ((i * m + y : Nat) : Int), .int .i64 ((((i + 1) % 3) * m + F x y : Nat) : Int)] W fun e w' => e = .returned (.tuple #[]) ∧ RowB w' base gb m (Li ++ [s3 [i * m + x, i * m + y, ((i + 1) % 3) * m + F x y]]) ∧ Kp base gb W w') := fun W hW => HADD.out W _ _ _ Li hW hil
              generalize s3 [i * m + x, i * m + y, ((i + 1) % 3) * m + F x y] = sb at *
              generalize i * m + x = a1 at *
              generalize i * m + y = a2 at *
              generalize ((i + 1) % 3) * m + F x y = a3 at *
              generalize (i + 1) % 3 = r at *
              generalize F x y = fxy at *
              clear hR hK hil HCL HAT HADD HF9 HYL HXL
              go_wp2

              refine wp_region_noPanic ?_
              refine wp_region_held_drew (S := fun _ => True) (by kernel_rfl) (trivial) (fun hSx => ?_)
              refine wpAnyH_take (i := 0) (v := .pointer (some ⟨gb, 0, none⟩)) rfl (by kernel_rfl) (by kernel_rfl) (by kernel_rfl) (fun _ _ _ h => h) (Or.inl ⟨by rfl, fun w' hSw => by (try dsimp only at hSw); have hs0 := hSw; go_simp⟩) hSx ?_
              try simp only [Act.put, List.setIfInBounds_toArray]
              refine wpAnyH_take (i := 1) (v := .pointer (some ⟨gb, 0, none⟩)) rfl (by kernel_rfl) (by kernel_rfl) (by kernel_rfl) (fun _ _ _ h => h) (Or.inl ⟨by rfl, fun w' hSw => by (try dsimp only at hSw); have hs0 := hSw; go_simp⟩) hSx ?_
              try simp only [Act.put]
              refine wpAnyH_take (i := 2) (v := .pointer (some ⟨gb, 0, none⟩)) rfl (by kernel_rfl) (by kernel_rfl) (by kernel_rfl) (fun _ _ _ h => h) (Or.inl ⟨by rfl, fun w' hSw => by (try dsimp only at hSw); have hs0 := hSw; go_simp⟩) hSx ?_
              try simp only [Act.put]
              refine wpAnyH_take (i := 3) (v := .pointer (some ⟨gb, 0, none⟩)) rfl (by kernel_rfl) (by kernel_rfl) (by kernel_rfl) (fun _ _ _ h => h) (Or.inl ⟨by rfl, fun w' hSw => by (try dsimp only at hSw); have hs0 := hSw; go_simp⟩) hSx ?_
              try simp only [Act.put]
              refine wpAnyH_take (i := 4) (v := .int .i64 (i : Int)) rfl (by kernel_rfl) (by kernel_rfl) (by kernel_rfl) (fun _ _ _ h => h) (Or.inl ⟨by rfl, fun w' hSw => by (try dsimp only at hSw); have hs0 := hSw; go_simp⟩) hSx ?_
              try simp only [Act.put]
              refine wpAnyH_take (i := 5) (v := .int .i64 (x : Int)) rfl (by kernel_rfl) (by kernel_rfl) (by kernel_rfl) (fun _ _ _ h => h) (Or.inl ⟨by rfl, fun w' hSw => by (try dsimp only at hSw); have hs0 := hSw; go_simp⟩) hSx ?_
              try simp only [Act.put]
              refine wpAnyH_take (i := 7) (v := .pointer (some ⟨gb, 0, none⟩)) rfl (by kernel_rfl) (by kernel_rfl) (by kernel_rfl) (fun _ _ _ h => h) (Or.inl ⟨by rfl, fun w' hSw => by (try dsimp only at hSw); have hs0 := hSw; go_simp⟩) hSx ?_
              try simp only [Act.put]
              refine wpAnyH_take (i := 8) (v := .int .i64 (i : Int)) rfl (by kernel_rfl) (by kernel_rfl) (by kernel_rfl) (fun _ _ _ h => h) (Or.inl ⟨by rfl, fun w' hSw => by (try dsimp only at hSw); have hs0 := hSw; go_simp⟩) hSx ?_
              try simp only [Act.put]
              refine wpAnyH_take (i := 9) (v := .int .i64 (y : Int)) rfl (by kernel_rfl) (by kernel_rfl) (by kernel_rfl) (fun _ _ _ h => h) (Or.inl ⟨by rfl, fun w' hSw => by (try dsimp only at hSw); have hs0 := hSw; go_simp⟩) hSx ?_
              try simp only [Act.put]
              refine wpAnyH_take (i := 11) (v := .pointer (some ⟨gb, 0, none⟩)) rfl (by kernel_rfl) (by kernel_rfl) (by kernel_rfl) (fun _ _ _ h => h) (Or.inl ⟨by rfl, fun w' hSw => by (try dsimp only at hSw); have hs0 := hSw; go_simp⟩) hSx ?_
              try simp only [Act.put]
              refine wpAnyH_take (i := 12) (v := .int .i64 (i : Int)) rfl (by kernel_rfl) (by kernel_rfl) (by kernel_rfl) (fun _ _ _ h => h) (Or.inl ⟨by rfl, fun w' hSw => by (try dsimp only at hSw); have hs0 := hSw; go_simp⟩) hSx ?_
              try simp only [Act.put]
              refine wpAnyH_take (i := 13) (v := .int .i64 ((i : Int) + 1)) rfl (by kernel_rfl) (by kernel_rfl) (by kernel_rfl) (fun _ _ _ h => h) (Or.inl ⟨by rfl, fun w' hSw => by (try dsimp only at hSw); have hs0 := hSw; go_simp⟩) hSx ?_
              try simp only [Act.put]
              refine wpAnyH_take (i := 14) (v := .int .i64 (r : Int)) rfl (by kernel_rfl) (by kernel_rfl) (by kernel_rfl) (fun _ _ _ h => h) (Or.inl ⟨by rfl, fun w' hSw => by (try dsimp only at hSw); have hs0 := hSw; go_simp⟩) hSx ?_
              try simp only [Act.put]
              refine wpAnyH_take (i := 15) (v := .func (.func 52) #[] #[.pointer (some ⟨pb, 0, none⟩), .pointer (some ⟨tb, 0, none⟩)]) rfl (by kernel_rfl) (by kernel_rfl) (by kernel_rfl) (fun _ _ _ h => h) (Or.inl ⟨by rfl, fun w' hSw => by (try dsimp only at hSw); have hs0 := hSw; go_simp⟩) hSx ?_
              try simp only [Act.put]
              refine wpAnyH_take (i := 16) (v := .int .i64 (x : Int)) rfl (by kernel_rfl) (by kernel_rfl) (by kernel_rfl) (fun _ _ _ h => h) (Or.inl ⟨by rfl, fun w' hSw => by (try dsimp only at hSw); have hs0 := hSw; go_simp⟩) hSx ?_
              try simp only [Act.put]
              refine wpAnyH_take (i := 17) (v := .int .i64 (y : Int)) rfl (by kernel_rfl) (by kernel_rfl) (by kernel_rfl) (fun _ _ _ h => h) (Or.inl ⟨by rfl, fun w' hSw => by (try dsimp only at hSw); have hs0 := hSw; go_simp⟩) hSx ?_
              try simp only [Act.put]
              refine wpAnyH_ready (rs := [6]) (by kernel_rfl) (by simp) ?_
              refine AllReadyH.cons rfl (fun J hJ => ?_) AllReadyH.nil
              go_simp
              refine (HC1.out wr.drew c1).mono ?_
              rintro e v1 ⟨rfl, hw⟩
              replace hw := hw.symm
              subst hw
              go_wp2_with fail
              refine hJ.out _ _ (trivial) (fun hSx => ?_)
              clear hJ J
              try simp only [Act.put, List.setIfInBounds_toArray, List.set_cons_zero, List.set_cons_succ]
              refine wpAnyH_ready (rs := [10]) (by kernel_rfl) (by simp) ?_
              refine AllReadyH.cons rfl (fun J hJ => ?_) AllReadyH.nil
              go_simp
              refine (HC2.out wr.drew c1).mono ?_
              rintro e v2 ⟨rfl, hw⟩
              replace hw := hw.symm
              subst hw
              go_wp2_with fail
              refine hJ.out _ _ (trivial) (fun hSx => ?_)
              clear hJ J
              try simp only [Act.put, List.setIfInBounds_toArray, List.set_cons_zero, List.set_cons_succ]
              refine wpAnyH_ready (rs := [18]) (by kernel_rfl) (by simp) ?_
              refine AllReadyH.cons rfl (fun J hJ => ?_) AllReadyH.nil
              go_simp
              refine (HC3.out wr.drew c1 (HK.out.trans (Kp.drew _ _ _))).mono ?_
              rintro e v3 ⟨rfl, hb3⟩
              have c3 : v3.cell? ⟨gb, 1, none⟩ = _ := (hb3.cell (World.block_lt_of_cell? _ _ c1)).trans c1
              go_wp2_with fail
              refine hJ.out _ _ (trivial) (fun hSx => ?_)
              clear hJ J
              try simp only [Act.put, List.setIfInBounds_toArray, List.set_cons_zero, List.set_cons_succ]
              refine wpAnyH_ready (rs := [19]) (by kernel_rfl) (by simp) ?_
              refine AllReadyH.cons rfl (fun J hJ => ?_) AllReadyH.nil
              go_simp
              refine (HC4.out v3 c3).mono ?_
              rintro e v4 ⟨rfl, hw⟩
              replace hw := hw.symm
              subst hw
              go_wp2_with fail
              refine hJ.out _ _ (trivial) (fun hSx => ?_)
              clear hJ J
              try simp only [Act.put, List.setIfInBounds_toArray, List.set_cons_zero, List.set_cons_succ]
              refine wpAnyH_ready (rs := [20]) (by kernel_rfl) (by simp) ?_
              refine AllReadyH.cons rfl (fun J hJ => ?_) AllReadyH.nil
              go_simp
              refine (HC5.out v3 (HR.out.drew.below hb3)).mono ?_
              rintro e v5 ⟨rfl, hL, hK5⟩
              go_wp2_with fail
              refine hJ.out _ _ (trivial) (fun hSx => ?_)
              clear hJ J
              try simp only [Act.put, List.setIfInBounds_toArray, List.set_cons_zero, List.set_cons_succ]
              refine wpAnyH_done (by kernel_rfl) ?_ _
              refine NoPanic.normal ?_
              have hKe : Kp base gb w v5 := ((HK.out.trans (Kp.drew _ _ _)).trans (Kp.of hb3 HR.out.le HR.out.le2)).trans hK5
              rw [← HIS.out] at hL
              clear hK5 HC5 HC4 HC1 HC2 HC3 HIS
              go_wp2
              go_roundw
              case rel => exact ⟨i + 1, by go_num, by omega, hL, hKe⟩
              case measure => simp [intOf]; omega
            · have hdj : decide ((i : Int) < 3) = false := by simp; omega
              obtain rfl : i = 3 := by omega
              rw [← HRX.out] at hR
              go_wp2
              go_roundw
              case rel => exact ⟨x + 1, by go_num, by omega, hR, hK⟩
              case measure => simp [intOf]; omega
        · have hdx : decide ((x : Int) < (y : Int)) = false := by simp; omega
          obtain rfl : x = y := by omega
          rw [← HRY.out] at hR
          go_wp2
          go_roundw
          case rel => exact ⟨x + 1, by go_num, by omega, hR, hK⟩
          case measure => simp [intOf]; omega
    · have hdi : decide ((y : Int) < (m : Int)) = false := by simp; omega
      obtain rfl : y = m := by omega
      go_wp2
      go_end0
      exact ⟨rfl, hR, hK⟩

end Go.Proofs.Ytdeofjmgjhfkcaa
