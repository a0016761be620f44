/- The walk of Make. -/
import Derived.Test.YtdeofjmgjhfkcabDoorA1
import Derived.Deep.QuietTactic
import Derived.BigQuiet
import Derived.Deep.RegionHeld3
import Derived.Test.YtdeofjmgjhfkcabDoorB5
import Derived.Test.YtdeofjmgjhfkcabDoorDDu
/- The walk of slanted, with the other way to find a place between. -/
/- The walk of slanted, with each of its two ways to find a place between. -/
/- The walks of the two ways to find a place between two, and of slanted. -/
/- The walks of at, upright and slanted. -/
namespace Go.Proofs.YtdeofjmgjhfkcabDoor
open Go.RowKit

/-- A box of blocks and of how wide it is. -/
abbrev RowB (w : World) (base gb width : Nat) (L : List (List Nat)) : Prop := Lst w base gb 79 [.int .i64 (width : Int)] L
theorem Lst.width {w : World} {base gb width : Nat} {L : List (List Nat)} (h : RowB w base gb width L) : w.cell? ⟨gb, 1, none⟩ = some (.int .i64 (width : Int)) := by
  obtain ⟨v, h1, _⟩ := h
  rw [cell_of_row _ _ _ _ _ _ h1]; rfl
theorem Kp.drew (base gb : Nat) (w : World) : Kp base gb w w.drew := ⟨(Below.refl _ w).drew, fun _ _ _ => rfl⟩
set_option maxRecDepth 100000 in
set_option maxHeartbeats 2000000 in
theorem at_any (row place gb width : Nat) (w : World) (h : w.cell? ⟨gb, 1, none⟩ = some (.int .i64 (width : Int))) (hr : row ≤ 99) (hw : width ≤ 99) (hp : place ≤ 99) :
    Calls Tryd.prog 40 #[.pointer (some ⟨gb, 0, none⟩), .int .i64 (row : Int), .int .i64 (place : Int)] w fun e w' => e = .returned (.int .i64 ((row * width + place : Nat) : Int)) ∧ w' = w := by
  have hm : row * width ≤ 99 * 99 := Nat.mul_le_mul hr hw
  obtain ⟨p, Hp⟩ : ∃ p, Hid (row * width = p) := ⟨_, rfl⟩
  have hpm : (row : Int) * (width : Int) = (p : Int) := by rw [← Hp.out]; simp
  rw [Hp.out] at hm ⊢
  go_enter Tryd.func40, Tryd.ntmps40
  go_wp2
  go_ret
  exact ⟨by go_num, rfl⟩
set_option maxRecDepth 100000 in
set_option maxHeartbeats 4000000 in
theorem upright_any (place base gb width : Nat) (L : List (List Nat)) (w : World) (h : RowB w base gb width L) (hl : L.length ≤ 6000) (hw : width ≤ 99) (hp : place ≤ 99) :
    Calls Tryd.prog 39 #[.pointer (some ⟨gb, 0, none⟩), .int .i64 (place : Int)] w fun e w' => e = .returned (.tuple #[]) ∧ RowB w' base gb width (L ++ [s3 [0 * width + place, 1 * width + place, 2 * width + place]]) ∧ Kp base gb w w' := by
  have HW : Hid (RowB w base gb width L) := h
  have c1 := h.width
  have C := fun W (h : RowB W base gb width L) => add_any (0 * width + place) (1 * width + place) (2 * width + place) base gb 79 [.int .i64 (width : Int)] L W h hl
  have A0 : ∀ W, W.cell? ⟨gb, 1, none⟩ = some (.int .i64 (width : Int)) → Calls Tryd.prog 40 #[.pointer (some ⟨gb, 0, none⟩), .int .i64 0, .int .i64 (place : Int)] W fun e w' => e = .returned (.int .i64 ((0 * width + place : Nat) : Int)) ∧ w' = W := fun W hW => at_any 0 place gb width W hW (by omega) hw hp
  have A1 : ∀ W, W.cell? ⟨gb, 1, none⟩ = some (.int .i64 (width : Int)) → Calls Tryd.prog 40 #[.pointer (some ⟨gb, 0, none⟩), .int .i64 1, .int .i64 (place : Int)] W fun e w' => e = .returned (.int .i64 ((1 * width + place : Nat) : Int)) ∧ w' = W := fun W hW => at_any 1 place gb width W hW (by omega) hw hp
  have A2 : ∀ W, W.cell? ⟨gb, 1, none⟩ = some (.int .i64 (width : Int)) → Calls Tryd.prog 40 #[.pointer (some ⟨gb, 0, none⟩), .int .i64 2, .int .i64 (place : Int)] W fun e w' => e = .returned (.int .i64 ((2 * width + place : Nat) : Int)) ∧ w' = W := fun W hW => at_any 2 place gb width W hW (by omega) hw hp
  generalize s3 [0 * width + place, 1 * width + place, 2 * width + place] = s at *
  generalize 0 * width + place = x0 at *
  generalize 1 * width + place = x1 at *
  generalize 2 * width + place = x2 at *
  go_enter Tryd.func39, Tryd.ntmps39
  go_wp2
  refine wp_region_noPanic ?_
  refine wp_region_held_drew (S := fun _ => True) (by kernel_rfl) (trivial) (fun hSx => ?_)
  refine wpAnyH_take (i := 0) (v := .pointer (some ⟨gb, 0, none⟩)) rfl (by kernel_rfl) (by kernel_rfl) (by kernel_rfl) (fun _ _ _ h => h) (Or.inl ⟨by rfl, fun w' hSw => by (try dsimp only at hSw); have hs0 := hSw; go_simp⟩) hSx ?_
  try simp only [Act.put, List.setIfInBounds_toArray]
  refine wpAnyH_take (i := 1) (v := .pointer (some ⟨gb, 0, none⟩)) rfl (by kernel_rfl) (by kernel_rfl) (by kernel_rfl) (fun _ _ _ h => h) (Or.inl ⟨by rfl, fun w' hSw => by (try dsimp only at hSw); have hs0 := hSw; go_simp⟩) hSx ?_
  try simp only [Act.put]
  refine wpAnyH_take (i := 2) (v := .pointer (some ⟨gb, 0, none⟩)) rfl (by kernel_rfl) (by kernel_rfl) (by kernel_rfl) (fun _ _ _ h => h) (Or.inl ⟨by rfl, fun w' hSw => by (try dsimp only at hSw); have hs0 := hSw; go_simp⟩) hSx ?_
  try simp only [Act.put]
  refine wpAnyH_take (i := 3) (v := .pointer (some ⟨gb, 0, none⟩)) rfl (by kernel_rfl) (by kernel_rfl) (by kernel_rfl) (fun _ _ _ h => h) (Or.inl ⟨by rfl, fun w' hSw => by (try dsimp only at hSw); have hs0 := hSw; go_simp⟩) hSx ?_
  try simp only [Act.put]
  refine wpAnyH_take (i := 4) (v := .int .i64 (place : Int)) rfl (by kernel_rfl) (by kernel_rfl) (by kernel_rfl) (fun _ _ _ h => h) (Or.inl ⟨by rfl, fun w' hSw => by (try dsimp only at hSw); have hs0 := hSw; go_simp⟩) hSx ?_
  try simp only [Act.put]
  refine wpAnyH_take (i := 6) (v := .pointer (some ⟨gb, 0, none⟩)) rfl (by kernel_rfl) (by kernel_rfl) (by kernel_rfl) (fun _ _ _ h => h) (Or.inl ⟨by rfl, fun w' hSw => by (try dsimp only at hSw); have hs0 := hSw; go_simp⟩) hSx ?_
  try simp only [Act.put]
  refine wpAnyH_take (i := 7) (v := .int .i64 (place : Int)) rfl (by kernel_rfl) (by kernel_rfl) (by kernel_rfl) (fun _ _ _ h => h) (Or.inl ⟨by rfl, fun w' hSw => by (try dsimp only at hSw); have hs0 := hSw; go_simp⟩) hSx ?_
  try simp only [Act.put]
  refine wpAnyH_take (i := 9) (v := .pointer (some ⟨gb, 0, none⟩)) rfl (by kernel_rfl) (by kernel_rfl) (by kernel_rfl) (fun _ _ _ h => h) (Or.inl ⟨by rfl, fun w' hSw => by (try dsimp only at hSw); have hs0 := hSw; go_simp⟩) hSx ?_
  try simp only [Act.put]
  refine wpAnyH_take (i := 10) (v := .int .i64 (place : Int)) rfl (by kernel_rfl) (by kernel_rfl) (by kernel_rfl) (fun _ _ _ h => h) (Or.inl ⟨by rfl, fun w' hSw => by (try dsimp only at hSw); have hs0 := hSw; go_simp⟩) hSx ?_
  try simp only [Act.put]
  refine wpAnyH_ready (rs := [5]) (by kernel_rfl) (by simp) ?_
  refine AllReadyH.cons rfl (fun J hJ => ?_) AllReadyH.nil
  go_simp
  refine (A0 w.drew c1).mono ?_
  rintro e w1 ⟨rfl, hw⟩
  replace hw := hw.symm
  subst hw
  go_wp2_with fail
  refine hJ.out _ _ (trivial) (fun hSx => ?_)
  clear hJ J
  try simp only [Act.put, List.setIfInBounds_toArray, List.set_cons_zero, List.set_cons_succ]
  refine wpAnyH_ready (rs := [8]) (by kernel_rfl) (by simp) ?_
  refine AllReadyH.cons rfl (fun J hJ => ?_) AllReadyH.nil
  go_simp
  refine (A1 w.drew c1).mono ?_
  rintro e w2 ⟨rfl, hw⟩
  replace hw := hw.symm
  subst hw
  go_wp2_with fail
  refine hJ.out _ _ (trivial) (fun hSx => ?_)
  clear hJ J
  try simp only [Act.put, List.setIfInBounds_toArray, List.set_cons_zero, List.set_cons_succ]
  refine wpAnyH_ready (rs := [11]) (by kernel_rfl) (by simp) ?_
  refine AllReadyH.cons rfl (fun J hJ => ?_) AllReadyH.nil
  go_simp
  refine (A2 w.drew c1).mono ?_
  rintro e w3 ⟨rfl, hw⟩
  replace hw := hw.symm
  subst hw
  go_wp2_with fail
  refine hJ.out _ _ (trivial) (fun hSx => ?_)
  clear hJ J
  try simp only [Act.put, List.setIfInBounds_toArray, List.set_cons_zero, List.set_cons_succ]
  refine wpAnyH_ready (rs := [12]) (by kernel_rfl) (by simp) ?_
  refine AllReadyH.cons rfl (fun J hJ => ?_) AllReadyH.nil
  go_simp
  refine (C w.drew HW.out).mono ?_
  rintro e w4 ⟨rfl, hL, hK⟩
  clear C
  go_wp2_with fail
  refine hJ.out _ _ (trivial) (fun hSx => ?_)
  clear hJ J
  try simp only [Act.put, List.setIfInBounds_toArray, List.set_cons_zero, List.set_cons_succ]
  refine wpAnyH_done (by kernel_rfl) ?_ _
  refine NoPanic.normal ?_
  go_wp2
  go_end0
  exact ⟨rfl, hL, (Kp.drew base gb w).trans hK⟩

end Go.Proofs.YtdeofjmgjhfkcabDoor

namespace Go.Proofs.YtdeofjmgjhfkcabDoor
open Go.RowKit

/-- The blocks that slanted adds. -/
def slC (m : Nat) (f : Nat → Nat → Nat) (x y i : Nat) : List Nat := [i * m + x, i * m + y, ((i + 1) % 3) * m + f x y]
def slI (m : Nat) (f : Nat → Nat → Nat) (x y i : Nat) : List (List Nat) := (List.range i).map fun i => s3 (slC m f x y i)
def slX (m : Nat) (f : Nat → Nat → Nat) (y x : Nat) : List (List Nat) := (List.range x).flatMap fun x => slI m f x y 3
def slY (m : Nat) (f : Nat → Nat → Nat) (y : Nat) : List (List Nat) := (List.range y).flatMap fun y => slX m f y y
theorem slI_succ (m : Nat) (f : Nat → Nat → Nat) (x y i : Nat) : slI m f x y (i + 1) = slI m f x y i ++ [s3 (slC m f x y i)] := by unfold slI; rw [List.range_succ, List.map_append]; rfl
theorem slX_succ (m : Nat) (f : Nat → Nat → Nat) (y x : Nat) : slX m f y (x + 1) = slX m f y x ++ slI m f x y 3 := by unfold slX; rw [List.range_succ, List.flatMap_append]; simp
theorem slY_succ (m : Nat) (f : Nat → Nat → Nat) (y : Nat) : slY m f (y + 1) = slY m f y ++ slX m f y y := by unfold slY; rw [List.range_succ, List.flatMap_append]; simp
theorem slI_len (m : Nat) (f : Nat → Nat → Nat) (x y i : Nat) : (slI m f x y i).length = i := by simp [slI]
theorem slX_len (m : Nat) (f : Nat → Nat → Nat) (y : Nat) : ∀ x, (slX m f y x).length = 3 * x
  | 0 => rfl
  | x + 1 => by rw [slX_succ, List.length_append, slX_len m f y x, slI_len]; omega
theorem slY_len (m : Nat) (f : Nat → Nat → Nat) : ∀ y, y ≤ 11 → (slY m f y).length ≤ 33 * y
  | 0, _ => by simp [slY]
  | y + 1, h => by
    have := slY_len m f y (by omega)
    rw [slY_succ, List.length_append, slX_len]; omega
def boF (t m x y : Nat) : Nat := (x + y) * (t + 1) % m
def skF (t m x y : Nat) : Nat := ((x + y) % m) / 2 + ((x + y) % m) % 2 * t
set_option maxRecDepth 100000 in
set_option maxHeartbeats 2000000 in
theorem boF_any (x y t m tb pb gb : Nat) (w : World) (h1 : w.cell? ⟨tb, 0, none⟩ = some (.int .i64 (t : Int))) (h2 : w.cell? ⟨pb, 0, none⟩ = some (.pointer (some ⟨gb, 0, none⟩))) (h3 : w.cell? ⟨gb, 1, none⟩ = some (.int .i64 (m : Int))) (hx : x ≤ 99) (hy : y ≤ 99) (ht : t ≤ 99) (hm : 1 ≤ m) (hm9 : m ≤ 99) :
    Calls Tryd.prog 43 #[.int .i64 (x : Int), .int .i64 (y : Int), .pointer (some ⟨tb, 0, none⟩), .pointer (some ⟨pb, 0, none⟩)] w fun e w' => e = .returned (.int .i64 ((boF t m x y : Nat) : Int)) ∧ Below w.heap.size w w' := by
  have hp : (x + y) * (t + 1) ≤ 198 * 100 := Nat.mul_le_mul (by omega) (by omega)
  unfold boF
  obtain ⟨p, Hp⟩ : ∃ p, Hid ((x + y) * (t + 1) = p) := ⟨_, rfl⟩
  have hpm : ((x : Int) + (y : Int)) * ((t : Int) + 1) = (p : Int) := by rw [← Hp.out]; simp
  rw [Hp.out] at hp ⊢
  have hmz : ¬ (m : Int) = 0 := by omega
  have hmn : ¬ (m : Int) = -1 := by omega
  have hmz2 : ((m : Int) == 0) = false := by simp; omega
  have hr : (p : Int).tmod (m : Int) = ((p % m : Nat) : Int) := by rw [Int.tmod_eq_emod_of_nonneg (by omega)]; rfl
  have hlt : p % m < m := Nat.mod_lt _ hm
  generalize p % m = r at *
  go_enter Tryd.func43, Tryd.ntmps43
  go_wp2
  go_quiet (fail)
  go_wp2
  go_ret
  exact ⟨rfl, ⟨rfl, rfl, rfl, Nat.le_refl _, fun _ _ => rfl⟩⟩
set_option maxRecDepth 100000 in
set_option maxHeartbeats 2000000 in
theorem skF_any (x y t m tb pb gb : Nat) (w : World) (h1 : w.cell? ⟨tb, 0, none⟩ = some (.int .i64 (t : Int))) (h2 : w.cell? ⟨pb, 0, none⟩ = some (.pointer (some ⟨gb, 0, none⟩))) (h3 : w.cell? ⟨gb, 1, none⟩ = some (.int .i64 (m : Int))) (hx : x ≤ 99) (hy : y ≤ 99) (ht : t ≤ 99) (hm : 1 ≤ m) (hm9 : m ≤ 99) :
    Calls Tryd.prog 42 #[.int .i64 (x : Int), .int .i64 (y : Int), .pointer (some ⟨pb, 0, none⟩), .pointer (some ⟨tb, 0, none⟩)] w fun e w' => e = .returned (.int .i64 ((skF t m x y : Nat) : Int)) ∧ Below w.heap.size w w' := by
  unfold skF
  have hmz : ¬ (m : Int) = 0 := by omega
  have hmn : ¬ (m : Int) = -1 := by omega
  have hmz2 : ((m : Int) == 0) = false := by simp; omega
  have hr : ((x : Int) + (y : Int)).tmod (m : Int) = (((x + y) % m : Nat) : Int) := by rw [Int.tmod_eq_emod_of_nonneg (by omega)]; rfl
  have hlt : (x + y) % m < m := Nat.mod_lt _ hm
  generalize (x + y) % m = r at *
  have hq : (r : Int).tdiv 2 = ((r / 2 : Nat) : Int) := by rw [Int.tdiv_eq_ediv_of_nonneg (by omega)]; rfl
  have hq2 : (r : Int).tmod 2 = ((r % 2 : Nat) : Int) := by rw [Int.tmod_eq_emod_of_nonneg (by omega)]; rfl
  have hp : r % 2 * t ≤ 1 * 99 := Nat.mul_le_mul (by omega) ht
  have hpm : ((r % 2 : Nat) : Int) * (t : Int) = ((r % 2 * t : Nat) : Int) := by simp
  have hr2 : r / 2 ≤ 99 := by omega
  generalize r % 2 * t = p at *
  generalize r / 2 = a at *
  generalize r % 2 = b at *
  go_enter Tryd.func42, Tryd.ntmps42
  go_wp2
  go_ret
  exact ⟨by go_num, Below.refl _ w⟩

end Go.Proofs.YtdeofjmgjhfkcabDoor

namespace Go.Proofs.YtdeofjmgjhfkcabDoor
open Go.RowKit

theorem cell_same {w w' : World} {b : Nat} {a : Nat} (h : w'.heap[b]? = w.heap[b]?) : w'.cell? ⟨b, a, none⟩ = w.cell? ⟨b, a, none⟩ := by
  unfold World.cell?
  simp only [h]
theorem Lst.drew {w : World} {base gb : Nat} {ty : TypeId} {rest : List Value} {L : List (List Nat)} (h : Lst w base gb ty rest L) : Lst w.drew base gb ty rest L := h.below ((Below.refl _ w).drew)
theorem Lst.le {w : World} {base gb : Nat} {ty : TypeId} {rest : List Value} {L : List (List Nat)} (h : Lst w base gb ty rest L) : base ≤ w.heap.size := by
  obtain ⟨_, _, _, _, h⟩ := h
  exact h
theorem Lst.le2 {w : World} {base gb : Nat} {ty : TypeId} {rest : List Value} {L : List (List Nat)} (h : Lst w base gb ty rest L) : gb ≤ w.heap.size := by
  obtain ⟨_, _, _, h1, h⟩ := h
  omega
theorem boF_le {t m : Nat} (x y : Nat) (_ : t ≤ 99) (hm1 : 1 ≤ m) (hm9 : m ≤ 11) : boF t m x y ≤ 99 := by
  have : boF t m x y < m := Nat.mod_lt _ hm1
  omega
theorem skF_le0 {t m : Nat} (x y : Nat) (ht : t ≤ 30) (hm1 : 1 ≤ m) (hm9 : m ≤ 11) : skF t m x y ≤ 99 := by
  unfold skF
  have h1 : (x + y) % m < m := Nat.mod_lt _ hm1
  have h2 : (x + y) % m % 2 * t ≤ 1 * 30 := Nat.mul_le_mul (by omega) ht
  omega
set_option maxRecDepth 100000 in
set_option maxHeartbeats 8000000 in
theorem slanted_bo (t m tb pb base gb : Nat) (L : List (List Nat)) (w : World) (h : RowB w base gb m L) (hl : L.length ≤ 900) (h1 : w.cell? ⟨tb, 0, none⟩ = some (.int .i64 (t : Int))) (h2 : w.cell? ⟨pb, 0, none⟩ = some (.pointer (some ⟨gb, 0, none⟩))) (htb : tb < base) (hpb : pb < base) (htg : tb ≠ gb) (hpg : pb ≠ gb) (ht : t ≤ 30) (hm9 : m ≤ 11) :
    Calls Tryd.prog 41 #[.pointer (some ⟨gb, 0, none⟩), .func (.func 43) #[] #[.pointer (some ⟨tb, 0, none⟩), .pointer (some ⟨pb, 0, none⟩)]] w fun e w' => e = .returned (.tuple #[]) ∧ RowB w' base gb m (L ++ slY m (boF t m) m) ∧ Kp base gb w w' := by
  have HC : Hid (∀ W, RowB W base gb m L → True) := fun _ _ => trivial
  have c0 := h.width
  have HCL : Hid (∀ W (x y : Nat), W.cell? ⟨gb, 1, none⟩ = some (.int .i64 (m : Int)) → Kp base gb w W → x ≤ 99 → y ≤ 99 → 1 ≤ m → Calls Tryd.prog 43 #[.int .i64 (x : Int), .int .i64 (y : Int), .pointer (some ⟨tb, 0, none⟩), .pointer (some ⟨pb, 0, none⟩)] W fun e w' => e = .returned (.int .i64 ((boF t m x y : Nat) : Int)) ∧ Below W.heap.size W w') := fun W x y hW hK hx hy hm1 =>
    boF_any x y t m tb pb gb W ((cell_same (hK.at' tb htb htg)).trans h1) ((cell_same (hK.at' pb hpb hpg)).trans h2) hW hx hy (by omega) hm1 (by omega)
  have HFB : Hid (∀ x y : Nat, 1 ≤ m → boF t m x y ≤ 999 → True) := fun _ _ _ _ => trivial
  have HAT : Hid (∀ W (r p : Nat), r ≤ 99 → p ≤ 99 → W.cell? ⟨gb, 1, none⟩ = some (.int .i64 (m : Int)) → Calls Tryd.prog 40 #[.pointer (some ⟨gb, 0, none⟩), .int .i64 (r : Int), .int .i64 (p : Int)] W fun e w' => e = .returned (.int .i64 ((r * m + p : Nat) : Int)) ∧ w' = W) := fun W r p hr hp hW => at_any r p gb m W hW hr (by omega) hp
  have HADD : Hid (∀ W (x y z : Nat) (M : List (List Nat)), RowB W base gb m M → M.length ≤ 6000 → Calls Tryd.prog 25 #[.pointer (some ⟨gb, 0, none⟩), .int .i64 (x : Int), .int .i64 (y : Int), .int .i64 (z : Int)] W fun e w' => e = .returned (.tuple #[]) ∧ RowB w' base gb m (M ++ [s3 [x, y, z]]) ∧ Kp base gb W w') := fun W x y z M hM hl => add_any x y z base gb 79 [.int .i64 (m : Int)] M W hM hl
  have HF9 : Hid (∀ x y : Nat, x ≤ 99 → y ≤ 99 → 1 ≤ m → boF t m x y ≤ 99) := fun x y hx hy hm1 => boF_le x y (by omega) hm1 hm9
  obtain ⟨F, HF⟩ : ∃ F, Hid (boF t m = F) := ⟨_, rfl⟩
  rw [HF.out] at HCL HF9 ⊢
  have HYL : Hid (∀ y, y ≤ m → (slY m F y).length ≤ 400) := fun y hy => by have := slY_len m F y (by omega); omega
  have HXL : Hid (∀ y x, x ≤ m → (slX m F y x).length ≤ 99) := fun y x hx => by rw [slX_len]; omega
  clear h1 h2 HC HFB
  go_enter Tryd.func41, Tryd.ntmps41
  go_wp2
  go_loopw [11] (fun yv wr => ∃ (y : Nat), yv = .int .i64 (y : Int) ∧ y ≤ m ∧ RowB wr base gb m (L ++ slY m F y) ∧ Kp base gb w wr) (fun yv _ => (m - intOf yv).toNat)
  case atStart => exact ⟨0, rfl, by omega, by simpa [slY] using h, Kp.refl _ _ _⟩
  case round =>
    clear h c0
    obtain ⟨y, rfl, hy, hR, hK⟩ := hrel
    by_cases hlt : y < m
    · have hdi : decide ((y : Int) < (m : Int)) = true := by simp; omega
      have hii : (y : Int) < (m : Int) := by omega
      have HYS : Hid (slY m F (y + 1) = slY m F y ++ slX m F y y) := slY_succ m F y
      obtain ⟨Ly, HLy⟩ : ∃ Ly, Hid (L ++ slY m F y = Ly) := ⟨_, rfl⟩
      have hly : Ly.length ≤ 1300 := by rw [← HLy.out, List.length_append]; have := HYL.out y hy; omega
      rw [HLy.out] at hR
      have HRY : Hid (L ++ slY m F (y + 1) = Ly ++ slX m F y y) := by show _ = _; rw [HYS.out, ← List.append_assoc, HLy.out]
      clear HYS
      go_wp2
      go_loopw [15] (fun xv wr => ∃ (x : Nat), xv = .int .i64 (x : Int) ∧ x ≤ y ∧ RowB wr base gb m (Ly ++ slX m F y x) ∧ Kp base gb w wr) (fun xv _ => (y - intOf xv).toNat)
      case atStart => exact ⟨0, rfl, by omega, by simpa [slX] using hR, hK⟩
      case round =>
        clear hR hK
        obtain ⟨x, rfl, hx, hR, hK⟩ := hrel
        by_cases hlx : x < y
        · have hdx : decide ((x : Int) < (y : Int)) = true := by simp; omega
          have hxi : (x : Int) < (y : Int) := by omega
          have HXS : Hid (slX m F y (x + 1) = slX m F y x ++ slI m F x y 3) := slX_succ m F y x
          obtain ⟨Lx, HLx⟩ : ∃ Lx, Hid (Ly ++ slX m F y x = Lx) := ⟨_, rfl⟩
          have hlx2 : Lx.length ≤ 1400 := by rw [← HLx.out, List.length_append]; have := HXL.out y x (by omega); omega
          rw [HLx.out] at hR
          have HRX : Hid (Ly ++ slX m F y (x + 1) = Lx ++ slI m F x y 3) := by show _ = _; rw [HXS.out, ← List.append_assoc, HLx.out]
          clear HXS
          go_wp2
          go_loopw [18] (fun iv wr => ∃ (i : Nat), iv = .int .i64 (i : Int) ∧ i ≤ 3 ∧ RowB wr base gb m (Lx ++ slI m F x y i) ∧ Kp base gb w wr) (fun iv _ => (3 - intOf iv).toNat)
          case atStart => exact ⟨0, rfl, by omega, by simpa [slI] using hR, hK⟩
          case round =>
            clear hR hK
            obtain ⟨i, rfl, hi, hR, hK⟩ := hrel
            by_cases hli : i < 3
            · have hdj : decide ((i : Int) < 3) = true := by simp; omega
              have hji : (i : Int) < 3 := by omega
              have HIS : Hid (Lx ++ slI m F x y (i + 1) = (Lx ++ slI m F x y i) ++ [s3 [i * m + x, i * m + y, ((i + 1) % 3) * m + F x y]]) := by show _ = _; rw [slI_succ, ← List.append_assoc]; rfl
              have hrem : ((i : Int) + 1).tmod 3 = (((i + 1) % 3 : Nat) : Int) := by rw [Int.tmod_eq_emod_of_nonneg (by omega)]; rfl
              have hwi : IntKind.i64.wrap ((i : Int) + 1) = (i : Int) + 1 := by simp [IntKind.wrap, IntKind.bits, IntKind.signed]; omega
              have hr3 : (i + 1) % 3 < 3 := Nat.mod_lt _ (by omega)
              have hil : (Lx ++ slI m F x y i).length ≤ 6000 := by rw [List.length_append, slI_len]; omega
              obtain ⟨Li, HLi⟩ : ∃ Li, Hid (Lx ++ slI m F x y i = Li) := ⟨_, rfl⟩
              rw [HLi.out] at hR HIS hil
              have hfl := HF9.out x y (by omega) (by omega) (by omega)
              have c1 := hR.width
              have HR : Hid (RowB wr base gb m Li) := hR
              have HK : Hid (Kp base gb w wr) := hK
              have HC1 : Hid (∀ W, W.cell? ⟨gb, 1, none⟩ = some (.int .i64 (m : Int)) → Calls Tryd.prog 40 #[.pointer (some ⟨gb, 0, none⟩), .int .i64 (i : Int), .int .i64 (x : Int)] W fun e w' => e = .returned (.int .i64 ((i * m + x : Nat) : Int)) ∧ w' = W) := fun W hW => HAT.out W _ _ (by omega) (by omega) hW
              have HC2 : Hid (∀ W, W.cell? ⟨gb, 1, none⟩ = some (.int .i64 (m : Int)) → Calls Tryd.prog 40 #[.pointer (some ⟨gb, 0, none⟩), .int .i64 (i : Int), .int .i64 (y : Int)] W fun e w' => e = .returned (.int .i64 ((i * m + y : Nat) : Int)) ∧ w' = W) := fun W hW => HAT.out W _ _ (by omega) (by omega) hW
              have HC3 : Hid (∀ W, W.cell? ⟨gb, 1, none⟩ = some (.int .i64 (m : Int)) → Kp base gb w W → Calls Tryd.prog 43 #[.int .i64 (x : Int), .int .i64 (y : Int), .pointer (some ⟨tb, 0, none⟩), .pointer (some ⟨pb, 0, none⟩)] W fun e w' => e = .returned (.int .i64 ((F x y : Nat) : Int)) ∧ Below W.heap.size W w') := fun W h1 h2 => HCL.out W x y h1 h2 (by omega) (by omega) (by omega)
              have HC4 : Hid (∀ W, W.cell? ⟨gb, 1, none⟩ = some (.int .i64 (m : Int)) → Calls Tryd.prog 40 #[.pointer (some ⟨gb, 0, none⟩), .int .i64 (((i + 1) % 3 : Nat) : Int), .int .i64 (F x y : Int)] W fun e w' => e = .returned (.int .i64 ((((i + 1) % 3) * m + F x y : Nat) : Int)) ∧ w' = W) := fun W hW => HAT.out W _ _ (by omega) (by omega) hW
              have HC5 : Hid (∀ W, RowB W base gb m Li → Calls Tryd.prog 25 #[.pointer (some ⟨gb, 0, none⟩), .int .i64 ((i * m + x : Nat) : Int), .int .i64 ((i * m + y : Nat) : Int), .int .i64 ((((i + 1) % 3) * m + F x y : Nat) : Int)] W fun e w' => e = .returned (.tuple #[]) ∧ RowB w' base gb m (Li ++ [s3 [i * m + x, i * m + y, ((i + 1) % 3) * m + F x y]]) ∧ Kp base gb W w') := fun W hW => HADD.out W _ _ _ Li hW hil
              generalize s3 [i * m + x, i * m + y, ((i + 1) % 3) * m + F x y] = sb at *
              generalize i * m + x = a1 at *
              generalize i * m + y = a2 at *
              generalize ((i + 1) % 3) * m + F x y = a3 at *
              generalize (i + 1) % 3 = r at *
              generalize F x y = fxy at *
              clear hR hK hil HCL HAT HADD HF9 HYL HXL
              go_wp2

              refine wp_region_noPanic ?_
              refine wp_region_held_drew (S := fun _ => True) (by kernel_rfl) (trivial) (fun hSx => ?_)
              refine wpAnyH_take (i := 0) (v := .pointer (some ⟨gb, 0, none⟩)) rfl (by kernel_rfl) (by kernel_rfl) (by kernel_rfl) (fun _ _ _ h => h) (Or.inl ⟨by rfl, fun w' hSw => by (try dsimp only at hSw); have hs0 := hSw; go_simp⟩) hSx ?_
              try simp only [Act.put, List.setIfInBounds_toArray]
              refine wpAnyH_take (i := 1) (v := .pointer (some ⟨gb, 0, none⟩)) rfl (by kernel_rfl) (by kernel_rfl) (by kernel_rfl) (fun _ _ _ h => h) (Or.inl ⟨by rfl, fun w' hSw => by (try dsimp only at hSw); have hs0 := hSw; go_simp⟩) hSx ?_
              try simp only [Act.put]
              refine wpAnyH_take (i := 2) (v := .pointer (some ⟨gb, 0, none⟩)) rfl (by kernel_rfl) (by kernel_rfl) (by kernel_rfl) (fun _ _ _ h => h) (Or.inl ⟨by rfl, fun w' hSw => by (try dsimp only at hSw); have hs0 := hSw; go_simp⟩) hSx ?_
              try simp only [Act.put]
              refine wpAnyH_take (i := 3) (v := .pointer (some ⟨gb, 0, none⟩)) rfl (by kernel_rfl) (by kernel_rfl) (by kernel_rfl) (fun _ _ _ h => h) (Or.inl ⟨by rfl, fun w' hSw => by (try dsimp only at hSw); have hs0 := hSw; go_simp⟩) hSx ?_
              try simp only [Act.put]
              refine wpAnyH_take (i := 4) (v := .int .i64 (i : Int)) rfl (by kernel_rfl) (by kernel_rfl) (by kernel_rfl) (fun _ _ _ h => h) (Or.inl ⟨by rfl, fun w' hSw => by (try dsimp only at hSw); have hs0 := hSw; go_simp⟩) hSx ?_
              try simp only [Act.put]
              refine wpAnyH_take (i := 5) (v := .int .i64 (x : Int)) rfl (by kernel_rfl) (by kernel_rfl) (by kernel_rfl) (fun _ _ _ h => h) (Or.inl ⟨by rfl, fun w' hSw => by (try dsimp only at hSw); have hs0 := hSw; go_simp⟩) hSx ?_
              try simp only [Act.put]
              refine wpAnyH_take (i := 7) (v := .pointer (some ⟨gb, 0, none⟩)) rfl (by kernel_rfl) (by kernel_rfl) (by kernel_rfl) (fun _ _ _ h => h) (Or.inl ⟨by rfl, fun w' hSw => by (try dsimp only at hSw); have hs0 := hSw; go_simp⟩) hSx ?_
              try simp only [Act.put]
              refine wpAnyH_take (i := 8) (v := .int .i64 (i : Int)) rfl (by kernel_rfl) (by kernel_rfl) (by kernel_rfl) (fun _ _ _ h => h) (Or.inl ⟨by rfl, fun w' hSw => by (try dsimp only at hSw); have hs0 := hSw; go_simp⟩) hSx ?_
              try simp only [Act.put]
              refine wpAnyH_take (i := 9) (v := .int .i64 (y : Int)) rfl (by kernel_rfl) (by kernel_rfl) (by kernel_rfl) (fun _ _ _ h => h) (Or.inl ⟨by rfl, fun w' hSw => by (try dsimp only at hSw); have hs0 := hSw; go_simp⟩) hSx ?_
              try simp only [Act.put]
              refine wpAnyH_take (i := 11) (v := .pointer (some ⟨gb, 0, none⟩)) rfl (by kernel_rfl) (by kernel_rfl) (by kernel_rfl) (fun _ _ _ h => h) (Or.inl ⟨by rfl, fun w' hSw => by (try dsimp only at hSw); have hs0 := hSw; go_simp⟩) hSx ?_
              try simp only [Act.put]
              refine wpAnyH_take (i := 12) (v := .int .i64 (i : Int)) rfl (by kernel_rfl) (by kernel_rfl) (by kernel_rfl) (fun _ _ _ h => h) (Or.inl ⟨by rfl, fun w' hSw => by (try dsimp only at hSw); have hs0 := hSw; go_simp⟩) hSx ?_
              try simp only [Act.put]
              refine wpAnyH_take (i := 13) (v := .int .i64 ((i : Int) + 1)) rfl (by kernel_rfl) (by kernel_rfl) (by kernel_rfl) (fun _ _ _ h => h) (Or.inl ⟨by rfl, fun w' hSw => by (try dsimp only at hSw); have hs0 := hSw; go_simp⟩) hSx ?_
              try simp only [Act.put]
              refine wpAnyH_take (i := 14) (v := .int .i64 (r : Int)) rfl (by kernel_rfl) (by kernel_rfl) (by kernel_rfl) (fun _ _ _ h => h) (Or.inl ⟨by rfl, fun w' hSw => by (try dsimp only at hSw); have hs0 := hSw; go_simp⟩) hSx ?_
              try simp only [Act.put]
              refine wpAnyH_take (i := 15) (v := .func (.func 43) #[] #[.pointer (some ⟨tb, 0, none⟩), .pointer (some ⟨pb, 0, none⟩)]) rfl (by kernel_rfl) (by kernel_rfl) (by kernel_rfl) (fun _ _ _ h => h) (Or.inl ⟨by rfl, fun w' hSw => by (try dsimp only at hSw); have hs0 := hSw; go_simp⟩) hSx ?_
              try simp only [Act.put]
              refine wpAnyH_take (i := 16) (v := .int .i64 (x : Int)) rfl (by kernel_rfl) (by kernel_rfl) (by kernel_rfl) (fun _ _ _ h => h) (Or.inl ⟨by rfl, fun w' hSw => by (try dsimp only at hSw); have hs0 := hSw; go_simp⟩) hSx ?_
              try simp only [Act.put]
              refine wpAnyH_take (i := 17) (v := .int .i64 (y : Int)) rfl (by kernel_rfl) (by kernel_rfl) (by kernel_rfl) (fun _ _ _ h => h) (Or.inl ⟨by rfl, fun w' hSw => by (try dsimp only at hSw); have hs0 := hSw; go_simp⟩) hSx ?_
              try simp only [Act.put]
              refine wpAnyH_ready (rs := [6]) (by kernel_rfl) (by simp) ?_
              refine AllReadyH.cons rfl (fun J hJ => ?_) AllReadyH.nil
              go_simp
              refine (HC1.out wr.drew c1).mono ?_
              rintro e v1 ⟨rfl, hw⟩
              replace hw := hw.symm
              subst hw
              go_wp2_with fail
              refine hJ.out _ _ (trivial) (fun hSx => ?_)
              clear hJ J
              try simp only [Act.put, List.setIfInBounds_toArray, List.set_cons_zero, List.set_cons_succ]
              refine wpAnyH_ready (rs := [10]) (by kernel_rfl) (by simp) ?_
              refine AllReadyH.cons rfl (fun J hJ => ?_) AllReadyH.nil
              go_simp
              refine (HC2.out wr.drew c1).mono ?_
              rintro e v2 ⟨rfl, hw⟩
              replace hw := hw.symm
              subst hw
              go_wp2_with fail
              refine hJ.out _ _ (trivial) (fun hSx => ?_)
              clear hJ J
              try simp only [Act.put, List.setIfInBounds_toArray, List.set_cons_zero, List.set_cons_succ]
              refine wpAnyH_ready (rs := [18]) (by kernel_rfl) (by simp) ?_
              refine AllReadyH.cons rfl (fun J hJ => ?_) AllReadyH.nil
              go_simp
              refine (HC3.out wr.drew c1 (HK.out.trans (Kp.drew _ _ _))).mono ?_
              rintro e v3 ⟨rfl, hb3⟩
              have c3 : v3.cell? ⟨gb, 1, none⟩ = _ := (hb3.cell (World.block_lt_of_cell? _ _ c1)).trans c1
              go_wp2_with fail
              refine hJ.out _ _ (trivial) (fun hSx => ?_)
              clear hJ J
              try simp only [Act.put, List.setIfInBounds_toArray, List.set_cons_zero, List.set_cons_succ]
              refine wpAnyH_ready (rs := [19]) (by kernel_rfl) (by simp) ?_
              refine AllReadyH.cons rfl (fun J hJ => ?_) AllReadyH.nil
              go_simp
              refine (HC4.out v3 c3).mono ?_
              rintro e v4 ⟨rfl, hw⟩
              replace hw := hw.symm
              subst hw
              go_wp2_with fail
              refine hJ.out _ _ (trivial) (fun hSx => ?_)
              clear hJ J
              try simp only [Act.put, List.setIfInBounds_toArray, List.set_cons_zero, List.set_cons_succ]
              refine wpAnyH_ready (rs := [20]) (by kernel_rfl) (by simp) ?_
              refine AllReadyH.cons rfl (fun J hJ => ?_) AllReadyH.nil
              go_simp
              refine (HC5.out v3 (HR.out.drew.below hb3)).mono ?_
              rintro e v5 ⟨rfl, hL, hK5⟩
              go_wp2_with fail
              refine hJ.out _ _ (trivial) (fun hSx => ?_)
              clear hJ J
              try simp only [Act.put, List.setIfInBounds_toArray, List.set_cons_zero, List.set_cons_succ]
              refine wpAnyH_done (by kernel_rfl) ?_ _
              refine NoPanic.normal ?_
              have hKe : Kp base gb w v5 := ((HK.out.trans (Kp.drew _ _ _)).trans (Kp.of hb3 HR.out.le HR.out.le2)).trans hK5
              rw [← HIS.out] at hL
              clear hK5 HC5 HC4 HC1 HC2 HC3 HIS
              go_wp2
              go_roundw
              case rel => exact ⟨i + 1, by go_num, by omega, hL, hKe⟩
              case measure => simp [intOf]; omega
            · have hdj : decide ((i : Int) < 3) = false := by simp; omega
              obtain rfl : i = 3 := by omega
              rw [← HRX.out] at hR
              go_wp2
              go_roundw
              case rel => exact ⟨x + 1, by go_num, by omega, hR, hK⟩
              case measure => simp [intOf]; omega
        · have hdx : decide ((x : Int) < (y : Int)) = false := by simp; omega
          obtain rfl : x = y := by omega
          rw [← HRY.out] at hR
          go_wp2
          go_roundw
          case rel => exact ⟨x + 1, by go_num, by omega, hR, hK⟩
          case measure => simp [intOf]; omega
    · have hdi : decide ((y : Int) < (m : Int)) = false := by simp; omega
      obtain rfl : y = m := by omega
      go_wp2
      go_end0
      exact ⟨rfl, hR, hK⟩

end Go.Proofs.YtdeofjmgjhfkcabDoor

namespace Go.Proofs.YtdeofjmgjhfkcabDoor
open Go.RowKit

set_option maxRecDepth 100000 in
set_option maxHeartbeats 8000000 in
theorem slanted_sk (t m tb pb base gb : Nat) (L : List (List Nat)) (w : World) (h : RowB w base gb m L) (hl : L.length ≤ 900) (h1 : w.cell? ⟨tb, 0, none⟩ = some (.int .i64 (t : Int))) (h2 : w.cell? ⟨pb, 0, none⟩ = some (.pointer (some ⟨gb, 0, none⟩))) (htb : tb < base) (hpb : pb < base) (htg : tb ≠ gb) (hpg : pb ≠ gb) (ht : t ≤ 30) (hm9 : m ≤ 11) :
    Calls Tryd.prog 41 #[.pointer (some ⟨gb, 0, none⟩), .func (.func 42) #[] #[.pointer (some ⟨pb, 0, none⟩), .pointer (some ⟨tb, 0, none⟩)]] w fun e w' => e = .returned (.tuple #[]) ∧ RowB w' base gb m (L ++ slY m (skF t m) m) ∧ Kp base gb w w' := by
  have HC : Hid (∀ W, RowB W base gb m L → True) := fun _ _ => trivial
  have c0 := h.width
  have HCL : Hid (∀ W (x y : Nat), W.cell? ⟨gb, 1, none⟩ = some (.int .i64 (m : Int)) → Kp base gb w W → x ≤ 99 → y ≤ 99 → 1 ≤ m → Calls Tryd.prog 42 #[.int .i64 (x : Int), .int .i64 (y : Int), .pointer (some ⟨pb, 0, none⟩), .pointer (some ⟨tb, 0, none⟩)] W fun e w' => e = .returned (.int .i64 ((skF t m x y : Nat) : Int)) ∧ Below W.heap.size W w') := fun W x y hW hK hx hy hm1 =>
    skF_any x y t m tb pb gb W ((cell_same (hK.at' tb htb htg)).trans h1) ((cell_same (hK.at' pb hpb hpg)).trans h2) hW hx hy (by omega) hm1 (by omega)
  have HFB : Hid (∀ x y : Nat, 1 ≤ m → skF t m x y ≤ 999 → True) := fun _ _ _ _ => trivial
  have HAT : Hid (∀ W (r p : Nat), r ≤ 99 → p ≤ 99 → W.cell? ⟨gb, 1, none⟩ = some (.int .i64 (m : Int)) → Calls Tryd.prog 40 #[.pointer (some ⟨gb, 0, none⟩), .int .i64 (r : Int), .int .i64 (p : Int)] W fun e w' => e = .returned (.int .i64 ((r * m + p : Nat) : Int)) ∧ w' = W) := fun W r p hr hp hW => at_any r p gb m W hW hr (by omega) hp
  have HADD : Hid (∀ W (x y z : Nat) (M : List (List Nat)), RowB W base gb m M → M.length ≤ 6000 → Calls Tryd.prog 25 #[.pointer (some ⟨gb, 0, none⟩), .int .i64 (x : Int), .int .i64 (y : Int), .int .i64 (z : Int)] W fun e w' => e = .returned (.tuple #[]) ∧ RowB w' base gb m (M ++ [s3 [x, y, z]]) ∧ Kp base gb W w') := fun W x y z M hM hl => add_any x y z base gb 79 [.int .i64 (m : Int)] M W hM hl
  have HF9 : Hid (∀ x y : Nat, x ≤ 99 → y ≤ 99 → 1 ≤ m → skF t m x y ≤ 99) := fun x y hx hy hm1 => skF_le0 x y ht hm1 hm9
  obtain ⟨F, HF⟩ : ∃ F, Hid (skF t m = F) := ⟨_, rfl⟩
  rw [HF.out] at HCL HF9 ⊢
  have HYL : Hid (∀ y, y ≤ m → (slY m F y).length ≤ 400) := fun y hy => by have := slY_len m F y (by omega); omega
  have HXL : Hid (∀ y x, x ≤ m → (slX m F y x).length ≤ 99) := fun y x hx => by rw [slX_len]; omega
  clear h1 h2 HC HFB
  go_enter Tryd.func41, Tryd.ntmps41
  go_wp2
  go_loopw [11] (fun yv wr => ∃ (y : Nat), yv = .int .i64 (y : Int) ∧ y ≤ m ∧ RowB wr base gb m (L ++ slY m F y) ∧ Kp base gb w wr) (fun yv _ => (m - intOf yv).toNat)
  case atStart => exact ⟨0, rfl, by omega, by simpa [slY] using h, Kp.refl _ _ _⟩
  case round =>
    clear h c0
    obtain ⟨y, rfl, hy, hR, hK⟩ := hrel
    by_cases hlt : y < m
    · have hdi : decide ((y : Int) < (m : Int)) = true := by simp; omega
      have hii : (y : Int) < (m : Int) := by omega
      have HYS : Hid (slY m F (y + 1) = slY m F y ++ slX m F y y) := slY_succ m F y
      obtain ⟨Ly, HLy⟩ : ∃ Ly, Hid (L ++ slY m F y = Ly) := ⟨_, rfl⟩
      have hly : Ly.length ≤ 1300 := by rw [← HLy.out, List.length_append]; have := HYL.out y hy; omega
      rw [HLy.out] at hR
      have HRY : Hid (L ++ slY m F (y + 1) = Ly ++ slX m F y y) := by show _ = _; rw [HYS.out, ← List.append_assoc, HLy.out]
      clear HYS
      go_wp2
      go_loopw [15] (fun xv wr => ∃ (x : Nat), xv = .int .i64 (x : Int) ∧ x ≤ y ∧ RowB wr base gb m (Ly ++ slX m F y x) ∧ Kp base gb w wr) (fun xv _ => (y - intOf xv).toNat)
      case atStart => exact ⟨0, rfl, by omega, by simpa [slX] using hR, hK⟩
      case round =>
        clear hR hK
        obtain ⟨x, rfl, hx, hR, hK⟩ := hrel
        by_cases hlx : x < y
        · have hdx : decide ((x : Int) < (y : Int)) = true := by simp; omega
          have hxi : (x : Int) < (y : Int) := by omega
          have HXS : Hid (slX m F y (x + 1) = slX m F y x ++ slI m F x y 3) := slX_succ m F y x
          obtain ⟨Lx, HLx⟩ : ∃ Lx, Hid (Ly ++ slX m F y x = Lx) := ⟨_, rfl⟩
          have hlx2 : Lx.length ≤ 1400 := by rw [← HLx.out, List.length_append]; have := HXL.out y x (by omega); omega
          rw [HLx.out] at hR
          have HRX : Hid (Ly ++ slX m F y (x + 1) = Lx ++ slI m F x y 3) := by show _ = _; rw [HXS.out, ← List.append_assoc, HLx.out]
          clear HXS
          go_wp2
          go_loopw [18] (fun iv wr => ∃ (i : Nat), iv = .int .i64 (i : Int) ∧ i ≤ 3 ∧ RowB wr base gb m (Lx ++ slI m F x y i) ∧ Kp base gb w wr) (fun iv _ => (3 - intOf iv).toNat)
          case atStart => exact ⟨0, rfl, by omega, by simpa [slI] using hR, hK⟩
          case round =>
            clear hR hK
            obtain ⟨i, rfl, hi, hR, hK⟩ := hrel
            by_cases hli : i < 3
            · have hdj : decide ((i : Int) < 3) = true := by simp; omega
              have hji : (i : Int) < 3 := by omega
              have HIS : Hid (Lx ++ slI m F x y (i + 1) = (Lx ++ slI m F x y i) ++ [s3 [i * m + x, i * m + y, ((i + 1) % 3) * m + F x y]]) := by show _ = _; rw [slI_succ, ← List.append_assoc]; rfl
              have hrem : ((i : Int) + 1).tmod 3 = (((i + 1) % 3 : Nat) : Int) := by rw [Int.tmod_eq_emod_of_nonneg (by omega)]; rfl
              have hwi : IntKind.i64.wrap ((i : Int) + 1) = (i : Int) + 1 := by simp [IntKind.wrap, IntKind.bits, IntKind.signed]; omega
              have hr3 : (i + 1) % 3 < 3 := Nat.mod_lt _ (by omega)
              have hil : (Lx ++ slI m F x y i).length ≤ 6000 := by rw [List.length_append, slI_len]; omega
              obtain ⟨Li, HLi⟩ : ∃ Li, Hid (Lx ++ slI m F x y i = Li) := ⟨_, rfl⟩
              rw [HLi.out] at hR HIS hil
              have hfl := HF9.out x y (by omega) (by omega) (by omega)
              have c1 := hR.width
              have HR : Hid (RowB wr base gb m Li) := hR
              have HK : Hid (Kp base gb w wr) := hK
              have HC1 : Hid (∀ W, W.cell? ⟨gb, 1, none⟩ = some (.int .i64 (m : Int)) → Calls Tryd.prog 40 #[.pointer (some ⟨gb, 0, none⟩), .int .i64 (i : Int), .int .i64 (x : Int)] W fun e w' => e = .returned (.int .i64 ((i * m + x : Nat) : Int)) ∧ w' = W) := fun W hW => HAT.out W _ _ (by omega) (by omega) hW
              have HC2 : Hid (∀ W, W.cell? ⟨gb, 1, none⟩ = some (.int .i64 (m : Int)) → Calls Tryd.prog 40 #[.pointer (some ⟨gb, 0, none⟩), .int .i64 (i : Int), .int .i64 (y : Int)] W fun e w' => e = .returned (.int .i64 ((i * m + y : Nat) : Int)) ∧ w' = W) := fun W hW => HAT.out W _ _ (by omega) (by omega) hW
              have HC3 : Hid (∀ W, W.cell? ⟨gb, 1, none⟩ = some (.int .i64 (m : Int)) → Kp base gb w W → Calls Tryd.prog 42 #[.int .i64 (x : Int), .int .i64 (y : Int), .pointer (some ⟨pb, 0, none⟩), .pointer (some ⟨tb, 0, none⟩)] W fun e w' => e = .returned (.int .i64 ((F x y : Nat) : Int)) ∧ Below W.heap.size W w') := fun W h1 h2 => HCL.out W x y h1 h2 (by omega) (by omega) (by omega)
              have HC4 : Hid (∀ W, W.cell? ⟨gb, 1, none⟩ = some (.int .i64 (m : Int)) → Calls Tryd.prog 40 #[.pointer (some ⟨gb, 0, none⟩), .int .i64 (((i + 1) % 3 : Nat) : Int), .int .i64 (F x y : Int)] W fun e w' => e = .returned (.int .i64 ((((i + 1) % 3) * m + F x y : Nat) : Int)) ∧ w' = W) := fun W hW => HAT.out W _ _ (by omega) (by omega) hW
              have HC5 : Hid (∀ W, RowB W base gb m Li → Calls Tryd.prog 25 #[.pointer (some ⟨gb, 0, none⟩), .int .i64 ((i * m + x : Nat) : Int), .int .i64 ((i * m + y : Nat) : Int), .int .i64 ((((i + 1) % 3) * m + F x y : Nat) : Int)] W fun e w' => e = .returned (.tuple #[]) ∧ RowB w' base gb m (Li ++ [s3 [i * m + x, i * m + y, ((i + 1) % 3) * m + F x y]]) ∧ Kp base gb W w') := fun W hW => HADD.out W _ _ _ Li hW hil
              generalize s3 [i * m + x, i * m + y, ((i + 1) % 3) * m + F x y] = sb at *
              generalize i * m + x = a1 at *
              generalize i * m + y = a2 at *
              generalize ((i + 1) % 3) * m + F x y = a3 at *
              generalize (i + 1) % 3 = r at *
              generalize F x y = fxy at *
              clear hR hK hil HCL HAT HADD HF9 HYL HXL
              go_wp2

              refine wp_region_noPanic ?_
              refine wp_region_held_drew (S := fun _ => True) (by kernel_rfl) (trivial) (fun hSx => ?_)
              refine wpAnyH_take (i := 0) (v := .pointer (some ⟨gb, 0, none⟩)) rfl (by kernel_rfl) (by kernel_rfl) (by kernel_rfl) (fun _ _ _ h => h) (Or.inl ⟨by rfl, fun w' hSw => by (try dsimp only at hSw); have hs0 := hSw; go_simp⟩) hSx ?_
              try simp only [Act.put, List.setIfInBounds_toArray]
              refine wpAnyH_take (i := 1) (v := .pointer (some ⟨gb, 0, none⟩)) rfl (by kernel_rfl) (by kernel_rfl) (by kernel_rfl) (fun _ _ _ h => h) (Or.inl ⟨by rfl, fun w' hSw => by (try dsimp only at hSw); have hs0 := hSw; go_simp⟩) hSx ?_
              try simp only [Act.put]
              refine wpAnyH_take (i := 2) (v := .pointer (some ⟨gb, 0, none⟩)) rfl (by kernel_rfl) (by kernel_rfl) (by kernel_rfl) (fun _ _ _ h => h) (Or.inl ⟨by rfl, fun w' hSw => by (try dsimp only at hSw); have hs0 := hSw; go_simp⟩) hSx ?_
              try simp only [Act.put]
              refine wpAnyH_take (i := 3) (v := .pointer (some ⟨gb, 0, none⟩)) rfl (by kernel_rfl) (by kernel_rfl) (by kernel_rfl) (fun _ _ _ h => h) (Or.inl ⟨by rfl, fun w' hSw => by (try dsimp only at hSw); have hs0 := hSw; go_simp⟩) hSx ?_
              try simp only [Act.put]
              refine wpAnyH_take (i := 4) (v := .int .i64 (i : Int)) rfl (by kernel_rfl) (by kernel_rfl) (by kernel_rfl) (fun _ _ _ h => h) (Or.inl ⟨by rfl, fun w' hSw => by (try dsimp only at hSw); have hs0 := hSw; go_simp⟩) hSx ?_
              try simp only [Act.put]
              refine wpAnyH_take (i := 5) (v := .int .i64 (x : Int)) rfl (by kernel_rfl) (by kernel_rfl) (by kernel_rfl) (fun _ _ _ h => h) (Or.inl ⟨by rfl, fun w' hSw => by (try dsimp only at hSw); have hs0 := hSw; go_simp⟩) hSx ?_
              try simp only [Act.put]
              refine wpAnyH_take (i := 7) (v := .pointer (some ⟨gb, 0, none⟩)) rfl (by kernel_rfl) (by kernel_rfl) (by kernel_rfl) (fun _ _ _ h => h) (Or.inl ⟨by rfl, fun w' hSw => by (try dsimp only at hSw); have hs0 := hSw; go_simp⟩) hSx ?_
              try simp only [Act.put]
              refine wpAnyH_take (i := 8) (v := .int .i64 (i : Int)) rfl (by kernel_rfl) (by kernel_rfl) (by kernel_rfl) (fun _ _ _ h => h) (Or.inl ⟨by rfl, fun w' hSw => by (try dsimp only at hSw); have hs0 := hSw; go_simp⟩) hSx ?_
              try simp only [Act.put]
              refine wpAnyH_take (i := 9) (v := .int .i64 (y : Int)) rfl (by kernel_rfl) (by kernel_rfl) (by kernel_rfl) (fun _ _ _ h => h) (Or.inl ⟨by rfl, fun w' hSw => by (try dsimp only at hSw); have hs0 := hSw; go_simp⟩) hSx ?_
              try simp only [Act.put]
              refine wpAnyH_take (i := 11) (v := .pointer (some ⟨gb, 0, none⟩)) rfl (by kernel_rfl) (by kernel_rfl) (by kernel_rfl) (fun _ _ _ h => h) (Or.inl ⟨by rfl, fun w' hSw => by (try dsimp only at hSw); have hs0 := hSw; go_simp⟩) hSx ?_
              try simp only [Act.put]
              refine wpAnyH_take (i := 12) (v := .int .i64 (i : Int)) rfl (by kernel_rfl) (by kernel_rfl) (by kernel_rfl) (fun _ _ _ h => h) (Or.inl ⟨by rfl, fun w' hSw => by (try dsimp only at hSw); have hs0 := hSw; go_simp⟩) hSx ?_
              try simp only [Act.put]
              refine wpAnyH_take (i := 13) (v := .int .i64 ((i : Int) + 1)) rfl (by kernel_rfl) (by kernel_rfl) (by kernel_rfl) (fun _ _ _ h => h) (Or.inl ⟨by rfl, fun w' hSw => by (try dsimp only at hSw); have hs0 := hSw; go_simp⟩) hSx ?_
              try simp only [Act.put]
              refine wpAnyH_take (i := 14) (v := .int .i64 (r : Int)) rfl (by kernel_rfl) (by kernel_rfl) (by kernel_rfl) (fun _ _ _ h => h) (Or.inl ⟨by rfl, fun w' hSw => by (try dsimp only at hSw); have hs0 := hSw; go_simp⟩) hSx ?_
              try simp only [Act.put]
              refine wpAnyH_take (i := 15) (v := .func (.func 42) #[] #[.pointer (some ⟨pb, 0, none⟩), .pointer (some ⟨tb, 0, none⟩)]) rfl (by kernel_rfl) (by kernel_rfl) (by kernel_rfl) (fun _ _ _ h => h) (Or.inl ⟨by rfl, fun w' hSw => by (try dsimp only at hSw); have hs0 := hSw; go_simp⟩) hSx ?_
              try simp only [Act.put]
              refine wpAnyH_take (i := 16) (v := .int .i64 (x : Int)) rfl (by kernel_rfl) (by kernel_rfl) (by kernel_rfl) (fun _ _ _ h => h) (Or.inl ⟨by rfl, fun w' hSw => by (try dsimp only at hSw); have hs0 := hSw; go_simp⟩) hSx ?_
              try simp only [Act.put]
              refine wpAnyH_take (i := 17) (v := .int .i64 (y : Int)) rfl (by kernel_rfl) (by kernel_rfl) (by kernel_rfl) (fun _ _ _ h => h) (Or.inl ⟨by rfl, fun w' hSw => by (try dsimp only at hSw); have hs0 := hSw; go_simp⟩) hSx ?_
              try simp only [Act.put]
              refine wpAnyH_ready (rs := [6]) (by kernel_rfl) (by simp) ?_
              refine AllReadyH.cons rfl (fun J hJ => ?_) AllReadyH.nil
              go_simp
              refine (HC1.out wr.drew c1).mono ?_
              rintro e v1 ⟨rfl, hw⟩
              replace hw := hw.symm
              subst hw
              go_wp2_with fail
              refine hJ.out _ _ (trivial) (fun hSx => ?_)
              clear hJ J
              try simp only [Act.put, List.setIfInBounds_toArray, List.set_cons_zero, List.set_cons_succ]
              refine wpAnyH_ready (rs := [10]) (by kernel_rfl) (by simp) ?_
              refine AllReadyH.cons rfl (fun J hJ => ?_) AllReadyH.nil
              go_simp
              refine (HC2.out wr.drew c1).mono ?_
              rintro e v2 ⟨rfl, hw⟩
              replace hw := hw.symm
              subst hw
              go_wp2_with fail
              refine hJ.out _ _ (trivial) (fun hSx => ?_)
              clear hJ J
              try simp only [Act.put, List.setIfInBounds_toArray, List.set_cons_zero, List.set_cons_succ]
              refine wpAnyH_ready (rs := [18]) (by kernel_rfl) (by simp) ?_
              refine AllReadyH.cons rfl (fun J hJ => ?_) AllReadyH.nil
              go_simp
              refine (HC3.out wr.drew c1 (HK.out.trans (Kp.drew _ _ _))).mono ?_
              rintro e v3 ⟨rfl, hb3⟩
              have c3 : v3.cell? ⟨gb, 1, none⟩ = _ := (hb3.cell (World.block_lt_of_cell? _ _ c1)).trans c1
              go_wp2_with fail
              refine hJ.out _ _ (trivial) (fun hSx => ?_)
              clear hJ J
              try simp only [Act.put, List.setIfInBounds_toArray, List.set_cons_zero, List.set_cons_succ]
              refine wpAnyH_ready (rs := [19]) (by kernel_rfl) (by simp) ?_
              refine AllReadyH.cons rfl (fun J hJ => ?_) AllReadyH.nil
              go_simp
              refine (HC4.out v3 c3).mono ?_
              rintro e v4 ⟨rfl, hw⟩
              replace hw := hw.symm
              subst hw
              go_wp2_with fail
              refine hJ.out _ _ (trivial) (fun hSx => ?_)
              clear hJ J
              try simp only [Act.put, List.setIfInBounds_toArray, List.set_cons_zero, List.set_cons_succ]
              refine wpAnyH_ready (rs := [20]) (by kernel_rfl) (by simp) ?_
              refine AllReadyH.cons rfl (fun J hJ => ?_) AllReadyH.nil
              go_simp
              refine (HC5.out v3 (HR.out.drew.below hb3)).mono ?_
              rintro e v5 ⟨rfl, hL, hK5⟩
              go_wp2_with fail
              refine hJ.out _ _ (trivial) (fun hSx => ?_)
              clear hJ J
              try simp only [Act.put, List.setIfInBounds_toArray, List.set_cons_zero, List.set_cons_succ]
              refine wpAnyH_done (by kernel_rfl) ?_ _
              refine NoPanic.normal ?_
              have hKe : Kp base gb w v5 := ((HK.out.trans (Kp.drew _ _ _)).trans (Kp.of hb3 HR.out.le HR.out.le2)).trans hK5
              rw [← HIS.out] at hL
              clear hK5 HC5 HC4 HC1 HC2 HC3 HIS
              go_wp2
              go_roundw
              case rel => exact ⟨i + 1, by go_num, by omega, hL, hKe⟩
              case measure => simp [intOf]; omega
            · have hdj : decide ((i : Int) < 3) = false := by simp; omega
              obtain rfl : i = 3 := by omega
              rw [← HRX.out] at hR
              go_wp2
              go_roundw
              case rel => exact ⟨x + 1, by go_num, by omega, hR, hK⟩
              case measure => simp [intOf]; omega
        · have hdx : decide ((x : Int) < (y : Int)) = false := by simp; omega
          obtain rfl : x = y := by omega
          rw [← HRY.out] at hR
          go_wp2
          go_roundw
          case rel => exact ⟨x + 1, by go_num, by omega, hR, hK⟩
          case measure => simp [intOf]; omega
    · have hdi : decide ((y : Int) < (m : Int)) = false := by simp; omega
      obtain rfl : y = m := by omega
      go_wp2
      go_end0
      exact ⟨rfl, hR, hK⟩

end Go.Proofs.YtdeofjmgjhfkcabDoor

/- The walk of skolem. -/
/- The walk of bose. -/
namespace Go.Proofs.YtdeofjmgjhfkcabDoor
open Go.RowKit

def upL (m x : Nat) : List (List Nat) := (List.range x).map fun x => s3 [0 * m + x, 1 * m + x, 2 * m + x]
theorem upL_succ (m x : Nat) : upL m (x + 1) = upL m x ++ [s3 [0 * m + x, 1 * m + x, 2 * m + x]] := by unfold upL; rw [List.range_succ, List.map_append]; rfl
theorem upL_len (m x : Nat) : (upL m x).length = x := by simp [upL]
def boL (t : Nat) : List (List Nat) := upL (2 * t + 1) (2 * t + 1) ++ slY (2 * t + 1) (boF t (2 * t + 1)) (2 * t + 1)
theorem sl_three {m : Nat} {f : Nat → Nat → Nat} {y : Nat} : ∀ b ∈ slY m f y, b.length = 3 := fun b hb => by
  unfold slY at hb
  obtain ⟨_, _, hb⟩ := List.mem_flatMap.1 hb
  unfold slX at hb
  obtain ⟨_, _, hb⟩ := List.mem_flatMap.1 hb
  unfold slI at hb
  obtain ⟨_, _, rfl⟩ := List.mem_map.1 hb
  rw [s3_len]; rfl
theorem up_three {m x : Nat} : ∀ b ∈ upL m x, b.length = 3 := fun b hb => by
  unfold upL at hb
  obtain ⟨_, _, rfl⟩ := List.mem_map.1 hb
  rw [s3_len]; rfl
theorem boL_three (t : Nat) : ∀ b ∈ boL t, b.length = 3 := fun b hb => by
  rcases List.mem_append.1 hb with h | h
  · exact up_three b h
  · exact sl_three b h
/-- The four boxes that a maker has. -/
structure Bx4 (s t m : Nat) (W : World) : Prop where
  t : W.heap[s]? = some (.cells #[.int .i64 (t : Int)] 3 (0, 0))
  r : W.heap[s + 1]? = some (.cells #[.int .i64 0, .slice none 0 0] 25 (0, 0))
  p : W.heap[s + 3]? = some (.cells #[.pointer (some ⟨s + 2, 0, none⟩)] 77 (0, 0))
  b : ∃ v, W.heap[s + 2]? = some (.cells #[v, .int .i64 (m : Int)] 79 (0, 0))
theorem Bx4.kp {s t m : Nat} {W W' : World} {L : List (List Nat)} (h : Bx4 s t m W) (k : Kp (s + 4) (s + 2) W W') (hL : RowB W' (s + 4) (s + 2) m L) : Bx4 s t m W' := by
  obtain ⟨v, h1, _⟩ := hL
  exact ⟨(k.at' s (by omega) (by omega)).trans h.t, (k.at' (s + 1) (by omega) (by omega)).trans h.r, (k.at' (s + 3) (by omega) (by omega)).trans h.p, v, h1⟩
theorem Bx4.cells {s t m : Nat} {W : World} (h : Bx4 s t m W) : W.cell? ⟨s, 0, none⟩ = some (.int .i64 (t : Int)) ∧ W.cell? ⟨s + 1 + 1, 1, none⟩ = some (.int .i64 (m : Int)) ∧ W.cell? ⟨s + 1 + 1 + 1, 0, none⟩ = some (.pointer (some ⟨s + 1 + 1, 0, none⟩)) := by
  obtain ⟨v, hb⟩ := h.b
  exact ⟨by rw [cell_of_row _ _ _ _ _ _ h.t]; rfl, by rw [cell_of_row _ _ _ _ _ _ hb]; rfl, by rw [cell_of_row _ _ _ _ _ _ h.p]; rfl⟩
def W4 (w : World) (t m : Nat) : World := (((w.alloc (.cells #[.int .i64 (t : Int)] 3)).alloc (.cells #[.int .i64 0, .slice none 0 0] 25)).alloc (.cells #[.slice none 0 0, .int .i64 (m : Int)] 79)).alloc (.cells #[.pointer (some ⟨w.heap.size + 1 + 1, 0, none⟩)] 77)
theorem W4_size (w : World) (t m : Nat) : (W4 w t m).heap.size = w.heap.size + 4 := by simp [W4]
theorem W4_bx (w : World) (t m : Nat) : Bx4 w.heap.size t m (W4 w t m) := by
  have e1 := heap_alloc_new w (.cells #[.int .i64 (t : Int)] 3)
  have e2 := heap_alloc_new (w.alloc (.cells #[.int .i64 (t : Int)] 3)) (.cells #[.int .i64 0, .slice none 0 0] 25)
  have e3 := heap_alloc_new ((w.alloc (.cells #[.int .i64 (t : Int)] 3)).alloc (.cells #[.int .i64 0, .slice none 0 0] 25)) (.cells #[.slice none 0 0, .int .i64 (m : Int)] 79)
  have e4 := heap_alloc_new (((w.alloc (.cells #[.int .i64 (t : Int)] 3)).alloc (.cells #[.int .i64 0, .slice none 0 0] 25)).alloc (.cells #[.slice none 0 0, .int .i64 (m : Int)] 79)) (.cells #[.pointer (some ⟨w.heap.size + 1 + 1, 0, none⟩)] 77)
  rw [show (w.alloc (.cells #[.int .i64 (t : Int)] 3)).heap.size = w.heap.size + 1 by simp] at e2
  rw [show ((w.alloc (.cells #[.int .i64 (t : Int)] 3)).alloc (.cells #[.int .i64 0, .slice none 0 0] 25)).heap.size = w.heap.size + 2 by simp] at e3
  rw [show (((w.alloc (.cells #[.int .i64 (t : Int)] 3)).alloc (.cells #[.int .i64 0, .slice none 0 0] 25)).alloc (.cells #[.slice none 0 0, .int .i64 (m : Int)] 79)).heap.size = w.heap.size + 3 by simp] at e4
  have k := fun (W : World) (o : Obj) (b : Nat) (hb : b < W.heap.size) => (balloc W o).block b hb
  refine ⟨(k _ _ _ (by simp; omega)).trans ((k _ _ _ (by simp; omega)).trans ((k _ _ _ (by simp)).trans e1)), (k _ _ _ (by simp)).trans ((k _ _ _ (by simp)).trans e2), e4, _, (k _ _ _ (by simp)).trans e3⟩
theorem W4_row (w : World) (t m : Nat) : RowB (W4 w t m) (w.heap.size + 4) (w.heap.size + 2) m [] := by
  have h := (W4_bx w t m).b
  have e3 := heap_alloc_new ((w.alloc (.cells #[.int .i64 (t : Int)] 3)).alloc (.cells #[.int .i64 0, .slice none 0 0] 25)) (.cells #[.slice none 0 0, .int .i64 (m : Int)] 79)
  rw [show ((w.alloc (.cells #[.int .i64 (t : Int)] 3)).alloc (.cells #[.int .i64 0, .slice none 0 0] 25)).heap.size = w.heap.size + 2 by simp] at e3
  exact ⟨.slice none 0 0, ((balloc _ _).block _ (by simp)).trans e3, OR.nil _ _, by omega, by rw [W4_size]; exact Nat.le_refl _⟩
theorem W4_below (w : World) (t m : Nat) : Below w.heap.size w (W4 w t m) := Below.next (Below.next (Below.next (balloc _ _) (balloc _ _)) (balloc _ _)) (balloc _ _)
set_option maxRecDepth 100000 in
set_option maxHeartbeats 8000000 in
theorem bose_any (t : Nat) (w : World) (ht : t ≤ 5) :
    Calls Tryd.prog 22 #[.int .i64 (t : Int)] w fun e w' => ∃ x Z, e = .returned (.agg #[.int .i64 ((6 * t + 3 : Nat) : Int), x]) ∧ Srtd (boL t) Z ∧ OR w' (w.heap.size + 4) x Z ∧ Below w.heap.size w w' := by
  have HBX := W4_bx w t (2 * t + 1)
  have HRW := W4_row w t (2 * t + 1)
  have HBE : Hid (Below w.heap.size w (W4 w t (2 * t + 1))) := W4_below w t (2 * t + 1)
  obtain ⟨M, HM⟩ : ∃ M, Hid (boL t = M) := ⟨_, rfl⟩
  have HME : Hid (∀ m, m = 2 * t + 1 → upL m m ++ slY m (boF t m) m = M) := fun m e => by rw [e]; exact HM.out
  have HM3 : Hid (∀ b ∈ M, b.length = 3) := by rw [← HM.out]; exact boL_three t
  rw [HM.out]
  obtain ⟨m, hm⟩ : ∃ m, m = 2 * t + 1 := ⟨_, rfl⟩
  rw [← hm] at HBX HRW HBE
  replace HME := HME.out m hm
  have HMe : Hid (upL m m ++ slY m (boF t m) m = M) := HME
  have HML : Hid (M.length ≤ 6000) := by
    show _ ≤ _
    rw [← HME, List.length_append, upL_len]
    have := slY_len m (boF t m) m (by omega)
    omega
  have hm2 : (m : Int) = 2 * (t : Int) + 1 := by omega
  obtain ⟨w4, Hw4⟩ : ∃ w4, Hid (w4 = W4 w t m) := ⟨_, rfl⟩
  rw [← Hw4.out] at HBX HRW HBE
  obtain ⟨y0, y1, y2⟩ := HBX.cells
  have HX : Hid (Bx4 w.heap.size t m w4) := HBX
  have HR : Hid (RowB w4 (w.heap.size + 4) (w.heap.size + 2) m (upL m 0)) := HRW
  have HUS : Hid (∀ x, upL m (x + 1) = upL m x ++ [s3 [0 * m + x, 1 * m + x, 2 * m + x]]) := upL_succ m
  have HUP : Hid (∀ (W : World) (x : Nat), x < m → RowB W (w.heap.size + 4) (w.heap.size + 2) m (upL m x) → Calls Tryd.prog 39 #[.pointer (some ⟨w.heap.size + 1 + 1, 0, none⟩), .int .i64 (x : Int)] W fun e w' => e = .returned (.tuple #[]) ∧ RowB w' (w.heap.size + 4) (w.heap.size + 2) m (upL m (x + 1)) ∧ Kp (w.heap.size + 4) (w.heap.size + 2) W w') := fun W x hx hW => by
    have := upright_any x (w.heap.size + 4) (w.heap.size + 2) m (upL m x) W hW (by rw [upL_len]; omega) (by omega) (by omega)
    rw [← upL_succ] at this
    exact this
  have HSL : Hid (∀ W : World, RowB W (w.heap.size + 4) (w.heap.size + 2) m (upL m m) → Bx4 w.heap.size t m W → Calls Tryd.prog 41 #[.pointer (some ⟨w.heap.size + 1 + 1, 0, none⟩), .func (.func 43) #[] #[.pointer (some ⟨w.heap.size, 0, none⟩), .pointer (some ⟨w.heap.size + 1 + 1 + 1, 0, none⟩)]] W fun e w' => e = .returned (.tuple #[]) ∧ RowB w' (w.heap.size + 4) (w.heap.size + 2) m M ∧ Kp (w.heap.size + 4) (w.heap.size + 2) W w') := fun W hW hX => by
    obtain ⟨x0, _, x2⟩ := hX.cells
    have := slanted_bo t m w.heap.size (w.heap.size + 3) (w.heap.size + 4) (w.heap.size + 2) (upL m m) W hW (by rw [upL_len]; omega) x0 x2 (by omega) (by omega) (by omega) (by omega) (by omega) (by omega)
    rw [HMe.out] at this
    exact this
  have HTE : Hid (∀ W : World, RowB W (w.heap.size + 4) (w.heap.size + 2) m M → Calls Tryd.prog 14 #[.pointer (some ⟨w.heap.size + 1 + 1, 0, none⟩), .int .i64 (6 * (t : Int) + 3)] W fun e w' => ∃ x Z, e = .returned (.agg #[.int .i64 (6 * (t : Int) + 3), x]) ∧ Srtd M Z ∧ OR w' (w.heap.size + 4) x Z ∧ Below (w.heap.size + 4) W w') := fun W hW => tell_any (6 * t + 3) _ _ _ _ M W hW HM3.out HML.out
  clear HBX HRW HME HM3 HML HMe HM
  go_enter Tryd.func22, Tryd.ntmps22
  go_wp2
  rw [← hm2]
  change Code.wp _ _ _ _ (W4 w t m)
  rw [← Hw4.out]
  have hm11 : m ≤ 11 := by omega
  clear Hw4 y0 y1 y2 hm2 hm
  go_loopw [14] (fun xv wr => ∃ (x : Nat), xv = .int .i64 (x : Int) ∧ x ≤ m ∧ RowB wr (w.heap.size + 4) (w.heap.size + 2) m (upL m x) ∧ Bx4 w.heap.size t m wr ∧ Below w.heap.size w wr) (fun xv _ => (m - intOf xv).toNat)
  case atStart => exact ⟨0, rfl, by omega, HR.out, HX.out, HBE.out⟩
  case round =>
    obtain ⟨x, rfl, hx, hR, hX, hB⟩ := hrel
    obtain ⟨y0, y1, y2⟩ := hX.cells
    have HR1 : Hid (RowB wr (w.heap.size + 4) (w.heap.size + 2) m (upL m x)) := hR
    have HX1 : Hid (Bx4 w.heap.size t m wr) := hX
    clear hR hX
    by_cases hlt : x < m
    · have hdi : decide ((x : Int) < (m : Int)) = true := by simp; omega
      have hii : (x : Int) < (m : Int) := by omega
      go_wp2_with (go_at_call 39; refine (HUP.out _ x hlt HR1.out).mono ?_; rintro e w5 ⟨rfl, hR5, hK5⟩)
      have hX5 := HX1.out.kp hK5 hR5
      have hB5 : Below w.heap.size w w5 := hB.trans (hK5.lo.mono (by omega))
      clear hK5
      go_wp2
      go_roundw
      case rel => exact ⟨x + 1, by go_num, by omega, hR5, hX5, hB5⟩
      case measure => simp [intOf]; omega
    · have hdi : decide ((x : Int) < (m : Int)) = false := by simp; omega
      obtain rfl : x = m := by omega
      go_wp2_with (go_at_call 41; refine (HSL.out _ HR1.out HX1.out).mono ?_; rintro e w5 ⟨rfl, hR5, hK5⟩; have hX5 := HX1.out.kp hK5 hR5; have HB5 : Hid (Below w.heap.size w w5) := hB.trans (hK5.lo.mono (by omega)); have HR5 : Hid (RowB w5 (w.heap.size + 4) (w.heap.size + 2) x M) := hR5; have HX5 : Hid (Bx4 w.heap.size t x w5) := hX5; obtain ⟨z0, z1, z2⟩ := hX5.cells; clear hK5 hR5 hX5 y0 y1 y2 HSL HUP)
      have HS : Hid (∀ W' : World, (∀ k, k = w.heap.size ∨ k = w.heap.size + 3 → W'.heap[k]? = w5.heap[k]?) → (W'.cell? ⟨w.heap.size, 0, none⟩ = some (.int .i64 (t : Int)) ∧ W'.cell? ⟨w.heap.size + 1 + 1 + 1, 0, none⟩ = some (.pointer (some ⟨w.heap.size + 1 + 1, 0, none⟩)))) := fun W' k => ⟨(cell_same (k _ (.inl rfl))).trans z0, (cell_same (k (w.heap.size + 3) (.inr rfl))).trans z2⟩
      have hw6 : IntKind.i64.wrap (6 * (t : Int)) = 6 * (t : Int) := by simp [IntKind.wrap, IntKind.bits, IntKind.signed]; omega
      have hw63 : IntKind.i64.wrap (6 * (t : Int) + 3) = 6 * (t : Int) + 3 := by simp [IntKind.wrap, IntKind.bits, IntKind.signed]; omega
      have h6 : (6 * (t : Int)) ≤ 99 := by omega
      clear z0 z1 z2
      refine wp_region_noPanic ?_
      refine wp_region_held_drew (S := fun w' => w'.cell? ⟨w.heap.size, 0, none⟩ = some (.int .i64 (t : Int)) ∧ w'.cell? ⟨w.heap.size + 1 + 1 + 1, 0, none⟩ = some (.pointer (some ⟨w.heap.size + 1 + 1, 0, none⟩))) (by kernel_rfl) (HS.out _ (fun _ _ => rfl)) (fun hSx => ?_)
      refine wpAnyH_take (i := 0) (v := .pointer (some ⟨w.heap.size + 1 + 1, 0, none⟩)) rfl (by kernel_rfl) (by kernel_rfl) (by kernel_rfl) (fun _ _ _ h => h) (Or.inl ⟨by rfl, fun w' hSw => by (try dsimp only at hSw); obtain ⟨hs0, hs1⟩ := hSw; go_simp⟩) hSx ?_
      try simp only [Act.put, List.setIfInBounds_toArray]
      refine wpAnyH_take (i := 1) (v := .pointer (some ⟨w.heap.size + 1 + 1, 0, none⟩)) rfl (by kernel_rfl) (by kernel_rfl) (by kernel_rfl) (fun _ _ _ h => h) (Or.inl ⟨by rfl, fun w' hSw => by (try dsimp only at hSw); obtain ⟨hs0, hs1⟩ := hSw; go_simp⟩) hSx ?_
      try simp only [Act.put]
      refine wpAnyH_take (i := 2) (v := .pointer (some ⟨w.heap.size + 1 + 1, 0, none⟩)) rfl (by kernel_rfl) (by kernel_rfl) (by kernel_rfl) (fun _ _ _ h => h) (Or.inl ⟨by rfl, fun w' hSw => by (try dsimp only at hSw); obtain ⟨hs0, hs1⟩ := hSw; go_simp⟩) hSx ?_
      try simp only [Act.put]
      refine wpAnyH_take (i := 3) (v := .int .i64 (t : Int)) rfl (by kernel_rfl) (by kernel_rfl) (by kernel_rfl) (fun _ _ _ h => h) (Or.inl ⟨by rfl, fun w' hSw => by (try dsimp only at hSw); obtain ⟨hs0, hs1⟩ := hSw; go_simp⟩) hSx ?_
      try simp only [Act.put]
      refine wpAnyH_take (i := 4) (v := .int .i64 (6 * (t : Int))) rfl (by kernel_rfl) (by kernel_rfl) (by kernel_rfl) (fun _ _ _ h => h) (Or.inl ⟨by rfl, fun w' hSw => by (try dsimp only at hSw); obtain ⟨hs0, hs1⟩ := hSw; go_simp⟩) hSx ?_
      try simp only [Act.put]
      refine wpAnyH_take (i := 5) (v := .int .i64 (6 * (t : Int) + 3)) rfl (by kernel_rfl) (by kernel_rfl) (by kernel_rfl) (fun _ _ _ h => h) (Or.inl ⟨by rfl, fun w' hSw => by (try dsimp only at hSw); obtain ⟨hs0, hs1⟩ := hSw; go_simp⟩) hSx ?_
      try simp only [Act.put]
      refine wpAnyH_ready (rs := [6]) (by kernel_rfl) (by simp) ?_
      refine AllReadyH.cons rfl (fun J hJ => ?_) AllReadyH.nil
      go_simp
      refine (HTE.out w5.drew HR5.out.drew).mono ?_
      rintro e w6 ⟨x6, Z, rfl, hZ, hO, hb6⟩
      have hk6 : Kp (w.heap.size + 4) (w.heap.size + 2) w5 w6 := (Kp.drew _ _ w5).trans (Kp.of hb6 (Nat.le_refl _) (by omega))
      have hr : w6.heap[w.heap.size + 1]? = _ := (hk6.at' _ (by omega) (by omega)).trans HX5.out.r
      obtain ⟨xa, xc, rfl⟩ := hO.cap
      have hZl := hZ.len
      have HO : Hid (OR w6 (w.heap.size + 4) (.slice xa Z.length xc) Z) := hO
      clear hO
      rw [hZl] at HO ⊢
      clear hZl
      have t0 : w6.cell? ⟨w.heap.size + 1, 0, none⟩ = some (.int .i64 0) := by rw [cell_of_row _ _ _ _ _ _ hr]; rfl
      have t1 : w6.cell? ⟨w.heap.size + 1, 1, none⟩ = some (.slice none 0 0) := by rw [cell_of_row _ _ _ _ _ _ hr]; rfl
      have f0 : w6.frozen? ⟨w.heap.size + 1, 0, none⟩ = false := frozen_of_row w6 _ 0 _ _ hr
      have f1 : w6.frozen? ⟨w.heap.size + 1, 1, none⟩ = false := frozen_of_row w6 _ 1 _ _ hr
      go_wp2_with fail
      refine hJ.out _ _ (HS.out _ (fun k hk => hk6.at' k (by omega) (by omega))) (fun hSx => ?_)
      clear hJ J
      try simp only [Act.put, List.setIfInBounds_toArray, List.set_cons_zero, List.set_cons_succ]
      refine wpAnyH_ready (rs := [7]) (by kernel_rfl) (by simp) ?_
      refine AllReadyH.cons rfl (fun J hJ => ?_) AllReadyH.nil
      go_simp
      refine hJ.out _ _ (HS.out _ (fun k hk => (heap_setCell_other _ ⟨w.heap.size + 1, 1, none⟩ k _ (by show k ≠ w.heap.size + 1; omega)).trans ((heap_setCell_other w6 ⟨w.heap.size + 1, 0, none⟩ k _ (by show k ≠ w.heap.size + 1; omega)).trans (hk6.at' k (by omega) (by omega))))) (fun hSx => ?_)
      clear hJ J
      try simp only [Act.put, List.setIfInBounds_toArray, List.set_cons_zero, List.set_cons_succ]
      refine wpAnyH_done (by kernel_rfl) ?_ _
      refine NoPanic.normal ?_
      go_wp2
      have hn1 := heap_setCell_same w6 (w.heap.size + 1) 0 _ _ (.int .i64 (6 * (t : Int) + 3)) hr
      have hn2 := heap_setCell_same _ (w.heap.size + 1) 1 _ _ (.slice xa M.length xc) hn1
      exact post_d 2 Tryd.results22 rfl hn2 rfl ⟨_, Z, rfl, hZ, HO.out.keep (fun b hb _ => (heap_setCell_other _ ⟨w.heap.size + 1, 1, none⟩ b _ (by show b ≠ w.heap.size + 1; omega)).trans (heap_setCell_other w6 ⟨w.heap.size + 1, 0, none⟩ b _ (by show b ≠ w.heap.size + 1; omega))), ((HB5.out.trans (hk6.lo.mono (by omega))).setCell (p := ⟨w.heap.size + 1, 0, none⟩) (by show _ ≤ w.heap.size + 1; omega) _).setCell (p := ⟨w.heap.size + 1, 1, none⟩) (by show _ ≤ w.heap.size + 1; omega) _⟩

end Go.Proofs.YtdeofjmgjhfkcabDoor

namespace Go.Proofs.YtdeofjmgjhfkcabDoor
open Go.RowKit

def skC (t m x i : Nat) : List Nat := [6 * t, i * m + (x + t), ((i + 1) % 3) * m + x]
def skI (t m x i : Nat) : List (List Nat) := (List.range i).map fun i => s3 (skC t m x i)
def skX (t m x : Nat) : List (List Nat) := (List.range x).flatMap fun x => s3 [0 * m + x, 1 * m + x, 2 * m + x] :: skI t m x 3
theorem skI_succ (t m x i : Nat) : skI t m x (i + 1) = skI t m x i ++ [s3 (skC t m x i)] := by unfold skI; rw [List.range_succ, List.map_append]; rfl
theorem skI_len (t m x i : Nat) : (skI t m x i).length = i := by simp [skI]
theorem skX_succ (t m x : Nat) : skX t m (x + 1) = (skX t m x ++ [s3 [0 * m + x, 1 * m + x, 2 * m + x]]) ++ skI t m x 3 := by unfold skX; rw [List.range_succ, List.flatMap_append]; simp
theorem skX_len (t m : Nat) : ∀ x, (skX t m x).length = 4 * x
  | 0 => rfl
  | x + 1 => by rw [skX_succ, List.length_append, List.length_append, skX_len t m x, skI_len]; simp; omega
def skL (t : Nat) : List (List Nat) := skX t (2 * t) t ++ slY (2 * t) (skF t (2 * t)) (2 * t)
theorem skL_three (t : Nat) : ∀ b ∈ skL t, b.length = 3 := fun b hb => by
  rcases List.mem_append.1 hb with h | h
  · unfold skX at h
    obtain ⟨_, _, h⟩ := List.mem_flatMap.1 h
    rcases List.mem_cons.1 h with rfl | h
    · rw [s3_len]; rfl
    · unfold skI at h
      obtain ⟨_, _, rfl⟩ := List.mem_map.1 h
      rw [s3_len]; rfl
  · exact sl_three b h
set_option maxRecDepth 100000 in
set_option maxHeartbeats 8000000 in
theorem skolem_any (t : Nat) (w : World) (ht : t ≤ 5) :
    Calls Tryd.prog 21 #[.int .i64 (t : Int)] w fun e w' => ∃ x Z, e = .returned (.agg #[.int .i64 ((6 * t + 1 : Nat) : Int), x]) ∧ Srtd (skL t) Z ∧ OR w' (w.heap.size + 4) x Z ∧ Below w.heap.size w w' := by
  have HBX := W4_bx w t (2 * t)
  have HRW := W4_row w t (2 * t)
  have HBE : Hid (Below w.heap.size w (W4 w t (2 * t))) := W4_below w t (2 * t)
  obtain ⟨M, HM⟩ : ∃ M, Hid (skL t = M) := ⟨_, rfl⟩
  have HME : Hid (∀ m, m = 2 * t → skX t m t ++ slY m (skF t m) m = M) := fun m e => by rw [e]; exact HM.out
  have HM3 : Hid (∀ b ∈ M, b.length = 3) := by rw [← HM.out]; exact skL_three t
  rw [HM.out]
  obtain ⟨m, hm⟩ : ∃ m, m = 2 * t := ⟨_, rfl⟩
  rw [← hm] at HBX HRW HBE
  replace HME := HME.out m hm
  have HMe : Hid (skX t m t ++ slY m (skF t m) m = M) := HME
  have HML : Hid (M.length ≤ 6000) := by
    show _ ≤ _
    rw [← HME, List.length_append, skX_len]
    have := slY_len m (skF t m) m (by omega)
    omega
  have hm2 : (m : Int) = 2 * (t : Int) := by omega
  obtain ⟨w4, Hw4⟩ : ∃ w4, Hid (w4 = W4 w t m) := ⟨_, rfl⟩
  rw [← Hw4.out] at HBX HRW HBE
  obtain ⟨y0, y1, y2⟩ := HBX.cells
  have HX : Hid (Bx4 w.heap.size t m w4) := HBX
  have HR : Hid (RowB w4 (w.heap.size + 4) (w.heap.size + 2) m (skX t m 0)) := HRW
  have HXS : Hid (∀ x, skX t m (x + 1) = (skX t m x ++ [s3 [0 * m + x, 1 * m + x, 2 * m + x]]) ++ skI t m x 3) := skX_succ t m
  have hm11 : m ≤ 10 := by omega
  have HXL : Hid (∀ x, x ≤ 5 → (skX t m x ++ [s3 [0 * m + x, 1 * m + x, 2 * m + x]]).length ≤ 99) := fun x hx => by rw [List.length_append, skX_len]; simp; omega
  have HUP : Hid (∀ (W : World) (x : Nat), x < t → RowB W (w.heap.size + 4) (w.heap.size + 2) m (skX t m x) → Calls Tryd.prog 39 #[.pointer (some ⟨w.heap.size + 1 + 1, 0, none⟩), .int .i64 (x : Int)] W fun e w' => e = .returned (.tuple #[]) ∧ RowB w' (w.heap.size + 4) (w.heap.size + 2) m (skX t m x ++ [s3 [0 * m + x, 1 * m + x, 2 * m + x]]) ∧ Kp (w.heap.size + 4) (w.heap.size + 2) W w') := fun W x hx hW => upright_any x (w.heap.size + 4) (w.heap.size + 2) m (skX t m x) W hW (by rw [skX_len]; omega) (by omega) (by omega)
  have HAT : Hid (∀ (W : World) (r p : Nat), r ≤ 99 → p ≤ 99 → W.cell? ⟨w.heap.size + 1 + 1, 1, none⟩ = some (.int .i64 (m : Int)) → Calls Tryd.prog 40 #[.pointer (some ⟨w.heap.size + 1 + 1, 0, none⟩), .int .i64 (r : Int), .int .i64 (p : Int)] W fun e w' => e = .returned (.int .i64 ((r * m + p : Nat) : Int)) ∧ w' = W) := fun W r p hr hp hW => at_any r p (w.heap.size + 2) m W hW hr (by omega) hp
  have HADD : Hid (∀ (W : World) (x y z : Nat) (M : List (List Nat)), RowB W (w.heap.size + 4) (w.heap.size + 2) m M → M.length ≤ 6000 → Calls Tryd.prog 25 #[.pointer (some ⟨w.heap.size + 1 + 1, 0, none⟩), .int .i64 (x : Int), .int .i64 (y : Int), .int .i64 (z : Int)] W fun e w' => e = .returned (.tuple #[]) ∧ RowB w' (w.heap.size + 4) (w.heap.size + 2) m (M ++ [s3 [x, y, z]]) ∧ Kp (w.heap.size + 4) (w.heap.size + 2) W w') := fun W x y z M hM hl => add_any x y z (w.heap.size + 4) (w.heap.size + 2) 79 [.int .i64 (m : Int)] M W hM hl
  have HSL : Hid (∀ W : World, RowB W (w.heap.size + 4) (w.heap.size + 2) m (skX t m t) → Bx4 w.heap.size t m W → Calls Tryd.prog 41 #[.pointer (some ⟨w.heap.size + 1 + 1, 0, none⟩), .func (.func 42) #[] #[.pointer (some ⟨w.heap.size + 1 + 1 + 1, 0, none⟩), .pointer (some ⟨w.heap.size, 0, none⟩)]] W fun e w' => e = .returned (.tuple #[]) ∧ RowB w' (w.heap.size + 4) (w.heap.size + 2) m M ∧ Kp (w.heap.size + 4) (w.heap.size + 2) W w') := fun W hW hX => by
    obtain ⟨x0, _, x2⟩ := hX.cells
    have := slanted_sk t m w.heap.size (w.heap.size + 3) (w.heap.size + 4) (w.heap.size + 2) (skX t m t) W hW (by rw [skX_len]; omega) x0 x2 (by omega) (by omega) (by omega) (by omega) (by omega) (by omega)
    rw [HMe.out] at this
    exact this
  have HTE : Hid (∀ W : World, RowB W (w.heap.size + 4) (w.heap.size + 2) m M → Calls Tryd.prog 14 #[.pointer (some ⟨w.heap.size + 1 + 1, 0, none⟩), .int .i64 (6 * (t : Int) + 1)] W fun e w' => ∃ x Z, e = .returned (.agg #[.int .i64 (6 * (t : Int) + 1), x]) ∧ Srtd M Z ∧ OR w' (w.heap.size + 4) x Z ∧ Below (w.heap.size + 4) W w') := fun W hW => tell_any (6 * t + 1) _ _ _ _ M W hW HM3.out HML.out
  clear HBX HRW HME HM3 HML HMe HM
  go_enter Tryd.func21, Tryd.ntmps21
  go_wp2
  rw [← hm2]
  change Code.wp _ _ _ _ (W4 w t m)
  rw [← Hw4.out]
  clear Hw4 y0 y1 y2 hm2 hm
  go_loopw [11] (fun xv wr => ∃ (x : Nat), xv = .int .i64 (x : Int) ∧ x ≤ t ∧ RowB wr (w.heap.size + 4) (w.heap.size + 2) m (skX t m x) ∧ Bx4 w.heap.size t m wr ∧ Below w.heap.size w wr) (fun xv _ => (t - intOf xv).toNat)
  case atStart => exact ⟨0, rfl, by omega, HR.out, HX.out, HBE.out⟩
  case round =>
    obtain ⟨x, rfl, hx, hR, hX, hB⟩ := hrel
    obtain ⟨y0, y1, y2⟩ := hX.cells
    have HR1 : Hid (RowB wr (w.heap.size + 4) (w.heap.size + 2) m (skX t m x)) := hR
    have HX1 : Hid (Bx4 w.heap.size t m wr) := hX
    clear hR hX
    by_cases hlt : x < t
    · have hdi : decide ((x : Int) < (t : Int)) = true := by simp; omega
      have hii : (x : Int) < (t : Int) := by omega
      have HXS1 := HXS.out x
      have HXL1 := HXL.out x (by omega)
      obtain ⟨Lx, HLx⟩ : ∃ Lx, Hid (skX t m x ++ [s3 [0 * m + x, 1 * m + x, 2 * m + x]] = Lx) := ⟨_, rfl⟩
      rw [HLx.out] at HXS1 HXL1
      have HXE : Hid (skX t m (x + 1) = Lx ++ skI t m x 3) := HXS1
      go_wp2_with (go_at_call 39; refine (HUP.out _ x hlt HR1.out).mono ?_; rintro e w5 ⟨rfl, hR5, hK5⟩; rw [HLx.out] at hR5; have HR5 : Hid (RowB w5 (w.heap.size + 4) (w.heap.size + 2) m (Lx ++ skI t m x 0)) := (by show Lst _ _ _ _ _ _; simpa [skI] using hR5); have HX5 : Hid (Bx4 w.heap.size t m w5) := HX1.out.kp hK5 hR5; have HB5 : Hid (Below w.heap.size w w5) := hB.trans (hK5.lo.mono (by omega)); clear hK5 hR5 y0 y1 y2)
      clear HXS1 HLx
      go_loopw [17] (fun iv wr => ∃ (i : Nat), iv = .int .i64 (i : Int) ∧ i ≤ 3 ∧ RowB wr (w.heap.size + 4) (w.heap.size + 2) m (Lx ++ skI t m x i) ∧ Bx4 w.heap.size t m wr ∧ Below w.heap.size w wr) (fun iv _ => (3 - intOf iv).toNat)
      case atStart => exact ⟨0, rfl, by omega, HR5.out, HX5.out, HB5.out⟩
      case round =>
        clear HR5 HX5 HB5 HR1 HX1 hB
        obtain ⟨i, rfl, hi, hR, hX, hB⟩ := hrel
        have HR6 : Hid (RowB wr (w.heap.size + 4) (w.heap.size + 2) m (Lx ++ skI t m x i)) := hR
        have HX6 : Hid (Bx4 w.heap.size t m wr) := hX
        obtain ⟨y0, y1, y2⟩ := hX.cells
        by_cases hli : i < 3
        · have hdj : decide ((i : Int) < 3) = true := by simp; omega
          have hji : (i : Int) < 3 := by omega
          have HIS : Hid (Lx ++ skI t m x (i + 1) = (Lx ++ skI t m x i) ++ [s3 [6 * t, i * m + (x + t), ((i + 1) % 3) * m + x]]) := by show _ = _; rw [skI_succ, ← List.append_assoc]; rfl
          have hrem : ((i : Int) + 1).tmod 3 = (((i + 1) % 3 : Nat) : Int) := by rw [Int.tmod_eq_emod_of_nonneg (by omega)]; rfl
          have hwi : IntKind.i64.wrap ((i : Int) + 1) = (i : Int) + 1 := by simp [IntKind.wrap, IntKind.bits, IntKind.signed]; omega
          have hw6 : IntKind.i64.wrap (6 * (t : Int)) = 6 * (t : Int) := by simp [IntKind.wrap, IntKind.bits, IntKind.signed]; omega
          have hwx : IntKind.i64.wrap ((x : Int) + (t : Int)) = (x : Int) + (t : Int) := by simp [IntKind.wrap, IntKind.bits, IntKind.signed]; omega
          have hr3 : (i + 1) % 3 < 3 := Nat.mod_lt _ (by omega)
          have hil : (Lx ++ skI t m x i).length ≤ 6000 := by rw [List.length_append, skI_len]; omega
          have HS : Hid (∀ W' : World, Kp (w.heap.size + 4) (w.heap.size + 2) wr W' → (W'.cell? ⟨w.heap.size, 0, none⟩ = some (.int .i64 (t : Int)) ∧ W'.cell? ⟨w.heap.size + 1 + 1 + 1, 0, none⟩ = some (.pointer (some ⟨w.heap.size + 1 + 1, 0, none⟩)))) := fun W' k => ⟨(cell_same (k.at' _ (by omega) (by omega))).trans y0, (cell_same (k.at' (w.heap.size + 3) (by omega) (by omega))).trans y2⟩
          have HC1 : Hid (Calls Tryd.prog 40 #[.pointer (some ⟨w.heap.size + 1 + 1, 0, none⟩), .int .i64 (i : Int), .int .i64 ((x : Int) + (t : Int))] wr.drew fun e w' => e = .returned (.int .i64 ((i * m + (x + t) : Nat) : Int)) ∧ w' = wr.drew) := HAT.out wr.drew i (x + t) (by omega) (by omega) y1
          have HC2 : Hid (Calls Tryd.prog 40 #[.pointer (some ⟨w.heap.size + 1 + 1, 0, none⟩), .int .i64 (((i + 1) % 3 : Nat) : Int), .int .i64 (x : Int)] wr.drew fun e w' => e = .returned (.int .i64 ((((i + 1) % 3) * m + x : Nat) : Int)) ∧ w' = wr.drew) := HAT.out wr.drew ((i + 1) % 3) x (by omega) (by omega) y1
          have HC3 : Hid (Calls Tryd.prog 25 #[.pointer (some ⟨w.heap.size + 1 + 1, 0, none⟩), .int .i64 (6 * (t : Int)), .int .i64 ((i * m + (x + t) : Nat) : Int), .int .i64 ((((i + 1) % 3) * m + x : Nat) : Int)] wr.drew fun e w' => e = .returned (.tuple #[]) ∧ RowB w' (w.heap.size + 4) (w.heap.size + 2) m ((Lx ++ skI t m x i) ++ [s3 [6 * t, i * m + (x + t), ((i + 1) % 3) * m + x]]) ∧ Kp (w.heap.size + 4) (w.heap.size + 2) wr.drew w') := HADD.out wr.drew (6 * t) _ _ _ hR.drew hil
          rw [← HIS.out] at HC3
          generalize i * m + (x + t) = a1 at *
          generalize ((i + 1) % 3) * m + x = a2 at *
          generalize (i + 1) % 3 = r at *
          clear hR hX hil y0 y1 y2 HIS HAT HADD HUP HSL HTE HXL HXS
          go_wp2
          refine wp_region_noPanic ?_
          refine wp_region_held_drew (S := fun w' => w'.cell? ⟨w.heap.size, 0, none⟩ = some (.int .i64 (t : Int)) ∧ w'.cell? ⟨w.heap.size + 1 + 1 + 1, 0, none⟩ = some (.pointer (some ⟨w.heap.size + 1 + 1, 0, none⟩))) (by kernel_rfl) (HS.out _ (Kp.drew _ _ _)) (fun hSx => ?_)
          refine wpAnyH_take (i := 0) (v := .pointer (some ⟨w.heap.size + 1 + 1, 0, none⟩)) rfl (by kernel_rfl) (by kernel_rfl) (by kernel_rfl) (fun _ _ _ h => h) (Or.inl ⟨by rfl, fun w' hSw => by (try dsimp only at hSw); obtain ⟨hs0, hs1⟩ := hSw; go_simp⟩) hSx ?_
          try simp only [Act.put, List.setIfInBounds_toArray]
          refine wpAnyH_take (i := 1) (v := .pointer (some ⟨w.heap.size + 1 + 1, 0, none⟩)) rfl (by kernel_rfl) (by kernel_rfl) (by kernel_rfl) (fun _ _ _ h => h) (Or.inl ⟨by rfl, fun w' hSw => by (try dsimp only at hSw); obtain ⟨hs0, hs1⟩ := hSw; go_simp⟩) hSx ?_
          try simp only [Act.put]
          refine wpAnyH_take (i := 2) (v := .pointer (some ⟨w.heap.size + 1 + 1, 0, none⟩)) rfl (by kernel_rfl) (by kernel_rfl) (by kernel_rfl) (fun _ _ _ h => h) (Or.inl ⟨by rfl, fun w' hSw => by (try dsimp only at hSw); obtain ⟨hs0, hs1⟩ := hSw; go_simp⟩) hSx ?_
          try simp only [Act.put]
          refine wpAnyH_take (i := 3) (v := .int .i64 (t : Int)) rfl (by kernel_rfl) (by kernel_rfl) (by kernel_rfl) (fun _ _ _ h => h) (Or.inl ⟨by rfl, fun w' hSw => by (try dsimp only at hSw); obtain ⟨hs0, hs1⟩ := hSw; go_simp⟩) hSx ?_
          try simp only [Act.put]
          refine wpAnyH_take (i := 4) (v := .int .i64 (6 * (t : Int))) rfl (by kernel_rfl) (by kernel_rfl) (by kernel_rfl) (fun _ _ _ h => h) (Or.inl ⟨by rfl, fun w' hSw => by (try dsimp only at hSw); obtain ⟨hs0, hs1⟩ := hSw; go_simp⟩) hSx ?_
          try simp only [Act.put]
          refine wpAnyH_take (i := 5) (v := .pointer (some ⟨w.heap.size + 1 + 1, 0, none⟩)) rfl (by kernel_rfl) (by kernel_rfl) (by kernel_rfl) (fun _ _ _ h => h) (Or.inl ⟨by rfl, fun w' hSw => by (try dsimp only at hSw); obtain ⟨hs0, hs1⟩ := hSw; go_simp⟩) hSx ?_
          try simp only [Act.put]
          refine wpAnyH_take (i := 6) (v := .int .i64 (i : Int)) rfl (by kernel_rfl) (by kernel_rfl) (by kernel_rfl) (fun _ _ _ h => h) (Or.inl ⟨by rfl, fun w' hSw => by (try dsimp only at hSw); obtain ⟨hs0, hs1⟩ := hSw; go_simp⟩) hSx ?_
          try simp only [Act.put]
          refine wpAnyH_take (i := 7) (v := .int .i64 (x : Int)) rfl (by kernel_rfl) (by kernel_rfl) (by kernel_rfl) (fun _ _ _ h => h) (Or.inl ⟨by rfl, fun w' hSw => by (try dsimp only at hSw); obtain ⟨hs0, hs1⟩ := hSw; go_simp⟩) hSx ?_
          try simp only [Act.put]
          refine wpAnyH_take (i := 8) (v := .int .i64 (t : Int)) rfl (by kernel_rfl) (by kernel_rfl) (by kernel_rfl) (fun _ _ _ h => h) (Or.inl ⟨by rfl, fun w' hSw => by (try dsimp only at hSw); obtain ⟨hs0, hs1⟩ := hSw; go_simp⟩) hSx ?_
          try simp only [Act.put]
          refine wpAnyH_take (i := 9) (v := .int .i64 ((x : Int) + (t : Int))) rfl (by kernel_rfl) (by kernel_rfl) (by kernel_rfl) (fun _ _ _ h => h) (Or.inl ⟨by rfl, fun w' hSw => by (try dsimp only at hSw); obtain ⟨hs0, hs1⟩ := hSw; go_simp⟩) hSx ?_
          try simp only [Act.put]
          refine wpAnyH_take (i := 11) (v := .pointer (some ⟨w.heap.size + 1 + 1, 0, none⟩)) rfl (by kernel_rfl) (by kernel_rfl) (by kernel_rfl) (fun _ _ _ h => h) (Or.inl ⟨by rfl, fun w' hSw => by (try dsimp only at hSw); obtain ⟨hs0, hs1⟩ := hSw; go_simp⟩) hSx ?_
          try simp only [Act.put]
          refine wpAnyH_take (i := 12) (v := .int .i64 (i : Int)) rfl (by kernel_rfl) (by kernel_rfl) (by kernel_rfl) (fun _ _ _ h => h) (Or.inl ⟨by rfl, fun w' hSw => by (try dsimp only at hSw); obtain ⟨hs0, hs1⟩ := hSw; go_simp⟩) hSx ?_
          try simp only [Act.put]
          refine wpAnyH_take (i := 13) (v := .int .i64 ((i : Int) + 1)) rfl (by kernel_rfl) (by kernel_rfl) (by kernel_rfl) (fun _ _ _ h => h) (Or.inl ⟨by rfl, fun w' hSw => by (try dsimp only at hSw); obtain ⟨hs0, hs1⟩ := hSw; go_simp⟩) hSx ?_
          try simp only [Act.put]
          refine wpAnyH_take (i := 14) (v := .int .i64 (r : Int)) rfl (by kernel_rfl) (by kernel_rfl) (by kernel_rfl) (fun _ _ _ h => h) (Or.inl ⟨by rfl, fun w' hSw => by (try dsimp only at hSw); obtain ⟨hs0, hs1⟩ := hSw; go_simp⟩) hSx ?_
          try simp only [Act.put]
          refine wpAnyH_take (i := 15) (v := .int .i64 (x : Int)) rfl (by kernel_rfl) (by kernel_rfl) (by kernel_rfl) (fun _ _ _ h => h) (Or.inl ⟨by rfl, fun w' hSw => by (try dsimp only at hSw); obtain ⟨hs0, hs1⟩ := hSw; go_simp⟩) hSx ?_
          try simp only [Act.put]
          refine wpAnyH_ready (rs := [10]) (by kernel_rfl) (by simp) ?_
          refine AllReadyH.cons rfl (fun J hJ => ?_) AllReadyH.nil
          go_simp
          refine (HC1.out).mono ?_
          rintro e v1 ⟨rfl, hw⟩
          replace hw := hw.symm
          subst hw
          go_wp2_with fail
          refine hJ.out _ _ (HS.out _ (Kp.drew _ _ _)) (fun hSx => ?_)
          clear hJ J
          try simp only [Act.put, List.setIfInBounds_toArray, List.set_cons_zero, List.set_cons_succ]
          refine wpAnyH_ready (rs := [16]) (by kernel_rfl) (by simp) ?_
          refine AllReadyH.cons rfl (fun J hJ => ?_) AllReadyH.nil
          go_simp
          refine (HC2.out).mono ?_
          rintro e v2 ⟨rfl, hw⟩
          replace hw := hw.symm
          subst hw
          go_wp2_with fail
          refine hJ.out _ _ (HS.out _ (Kp.drew _ _ _)) (fun hSx => ?_)
          clear hJ J
          try simp only [Act.put, List.setIfInBounds_toArray, List.set_cons_zero, List.set_cons_succ]
          refine wpAnyH_ready (rs := [17]) (by kernel_rfl) (by simp) ?_
          refine AllReadyH.cons rfl (fun J hJ => ?_) AllReadyH.nil
          go_simp
          refine (HC3.out).mono ?_
          rintro e v3 ⟨rfl, hL, hK⟩
          go_wp2_with fail
          refine hJ.out _ _ (HS.out _ ((Kp.drew _ _ _).trans hK)) (fun hSx => ?_)
          clear hJ J
          try simp only [Act.put, List.setIfInBounds_toArray, List.set_cons_zero, List.set_cons_succ]
          refine wpAnyH_done (by kernel_rfl) ?_ _
          refine NoPanic.normal ?_
          have hX3 := HX6.out.kp ((Kp.drew _ _ _).trans hK) hL
          have hB3 : Below w.heap.size w v3 := hB.trans (((Kp.drew _ _ _).trans hK).lo.mono (by omega))
          clear hK HC3 HC2 HC1 HS HX6 HR6 hSx
          go_wp2
          go_roundw
          case rel => exact ⟨i + 1, by go_num, by omega, hL, hX3, hB3⟩
          case measure => simp [intOf]; omega
        · have hdj : decide ((i : Int) < 3) = false := by simp; omega
          obtain rfl : i = 3 := by omega
          rw [← HXE.out] at hR
          clear HR6 HX6 y0 y1 y2
          go_wp2
          go_roundw
          case rel => exact ⟨x + 1, by go_num, by omega, hR, hX, hB⟩
          case measure => simp [intOf]; omega
    · have hdi : decide ((x : Int) < (t : Int)) = false := by simp; omega
      obtain rfl : x = t := by omega
      go_wp2_with (go_at_call 41; refine (HSL.out _ HR1.out HX1.out).mono ?_; rintro e w5 ⟨rfl, hR5, hK5⟩; have hX5 := HX1.out.kp hK5 hR5; have HB5 : Hid (Below w.heap.size w w5) := hB.trans (hK5.lo.mono (by omega)); have HR5 : Hid (RowB w5 (w.heap.size + 4) (w.heap.size + 2) m M) := hR5; have HX5 : Hid (Bx4 w.heap.size x m w5) := hX5; obtain ⟨z0, z1, z2⟩ := hX5.cells; clear hK5 hR5 hX5 y0 y1 y2 HSL HUP HAT HADD HXL HXS)
      have HS : Hid (∀ W' : World, (∀ k, k = w.heap.size ∨ k = w.heap.size + 3 → W'.heap[k]? = w5.heap[k]?) → (W'.cell? ⟨w.heap.size, 0, none⟩ = some (.int .i64 (x : Int)) ∧ W'.cell? ⟨w.heap.size + 1 + 1 + 1, 0, none⟩ = some (.pointer (some ⟨w.heap.size + 1 + 1, 0, none⟩)))) := fun W' k => ⟨(cell_same (k _ (.inl rfl))).trans z0, (cell_same (k (w.heap.size + 3) (.inr rfl))).trans z2⟩
      have hw6 : IntKind.i64.wrap (6 * (x : Int)) = 6 * (x : Int) := by simp [IntKind.wrap, IntKind.bits, IntKind.signed]; omega
      have hw63 : IntKind.i64.wrap (6 * (x : Int) + 1) = 6 * (x : Int) + 1 := by simp [IntKind.wrap, IntKind.bits, IntKind.signed]; omega
      have h6 : (6 * (x : Int)) ≤ 99 := by omega
      clear z0 z1 z2
      refine wp_region_noPanic ?_
      refine wp_region_held_drew (S := fun w' => w'.cell? ⟨w.heap.size, 0, none⟩ = some (.int .i64 (x : Int)) ∧ w'.cell? ⟨w.heap.size + 1 + 1 + 1, 0, none⟩ = some (.pointer (some ⟨w.heap.size + 1 + 1, 0, none⟩))) (by kernel_rfl) (HS.out _ (fun _ _ => rfl)) (fun hSx => ?_)
      refine wpAnyH_take (i := 0) (v := .pointer (some ⟨w.heap.size + 1 + 1, 0, none⟩)) rfl (by kernel_rfl) (by kernel_rfl) (by kernel_rfl) (fun _ _ _ h => h) (Or.inl ⟨by rfl, fun w' hSw => by (try dsimp only at hSw); obtain ⟨hs0, hs1⟩ := hSw; go_simp⟩) hSx ?_
      try simp only [Act.put, List.setIfInBounds_toArray]
      refine wpAnyH_take (i := 1) (v := .pointer (some ⟨w.heap.size + 1 + 1, 0, none⟩)) rfl (by kernel_rfl) (by kernel_rfl) (by kernel_rfl) (fun _ _ _ h => h) (Or.inl ⟨by rfl, fun w' hSw => by (try dsimp only at hSw); obtain ⟨hs0, hs1⟩ := hSw; go_simp⟩) hSx ?_
      try simp only [Act.put]
      refine wpAnyH_take (i := 2) (v := .pointer (some ⟨w.heap.size + 1 + 1, 0, none⟩)) rfl (by kernel_rfl) (by kernel_rfl) (by kernel_rfl) (fun _ _ _ h => h) (Or.inl ⟨by rfl, fun w' hSw => by (try dsimp only at hSw); obtain ⟨hs0, hs1⟩ := hSw; go_simp⟩) hSx ?_
      try simp only [Act.put]
      refine wpAnyH_take (i := 3) (v := .int .i64 (x : Int)) rfl (by kernel_rfl) (by kernel_rfl) (by kernel_rfl) (fun _ _ _ h => h) (Or.inl ⟨by rfl, fun w' hSw => by (try dsimp only at hSw); obtain ⟨hs0, hs1⟩ := hSw; go_simp⟩) hSx ?_
      try simp only [Act.put]
      refine wpAnyH_take (i := 4) (v := .int .i64 (6 * (x : Int))) rfl (by kernel_rfl) (by kernel_rfl) (by kernel_rfl) (fun _ _ _ h => h) (Or.inl ⟨by rfl, fun w' hSw => by (try dsimp only at hSw); obtain ⟨hs0, hs1⟩ := hSw; go_simp⟩) hSx ?_
      try simp only [Act.put]
      refine wpAnyH_take (i := 5) (v := .int .i64 (6 * (x : Int) + 1)) rfl (by kernel_rfl) (by kernel_rfl) (by kernel_rfl) (fun _ _ _ h => h) (Or.inl ⟨by rfl, fun w' hSw => by (try dsimp only at hSw); obtain ⟨hs0, hs1⟩ := hSw; go_simp⟩) hSx ?_
      try simp only [Act.put]
      refine wpAnyH_ready (rs := [6]) (by kernel_rfl) (by simp) ?_
      refine AllReadyH.cons rfl (fun J hJ => ?_) AllReadyH.nil
      go_simp
      refine (HTE.out w5.drew HR5.out.drew).mono ?_
      rintro e w6 ⟨x6, Z, rfl, hZ, hO, hb6⟩
      have hk6 : Kp (w.heap.size + 4) (w.heap.size + 2) w5 w6 := (Kp.drew _ _ w5).trans (Kp.of hb6 (Nat.le_refl _) (by omega))
      have hr : w6.heap[w.heap.size + 1]? = _ := (hk6.at' _ (by omega) (by omega)).trans HX5.out.r
      obtain ⟨xa, xc, rfl⟩ := hO.cap
      have hZl := hZ.len
      have HO : Hid (OR w6 (w.heap.size + 4) (.slice xa Z.length xc) Z) := hO
      clear hO
      rw [hZl] at HO ⊢
      clear hZl
      have t0 : w6.cell? ⟨w.heap.size + 1, 0, none⟩ = some (.int .i64 0) := by rw [cell_of_row _ _ _ _ _ _ hr]; rfl
      have t1 : w6.cell? ⟨w.heap.size + 1, 1, none⟩ = some (.slice none 0 0) := by rw [cell_of_row _ _ _ _ _ _ hr]; rfl
      have f0 : w6.frozen? ⟨w.heap.size + 1, 0, none⟩ = false := frozen_of_row w6 _ 0 _ _ hr
      have f1 : w6.frozen? ⟨w.heap.size + 1, 1, none⟩ = false := frozen_of_row w6 _ 1 _ _ hr
      go_wp2_with fail
      refine hJ.out _ _ (HS.out _ (fun k hk => hk6.at' k (by omega) (by omega))) (fun hSx => ?_)
      clear hJ J
      try simp only [Act.put, List.setIfInBounds_toArray, List.set_cons_zero, List.set_cons_succ]
      refine wpAnyH_ready (rs := [7]) (by kernel_rfl) (by simp) ?_
      refine AllReadyH.cons rfl (fun J hJ => ?_) AllReadyH.nil
      go_simp
      refine hJ.out _ _ (HS.out _ (fun k hk => (heap_setCell_other _ ⟨w.heap.size + 1, 1, none⟩ k _ (by show k ≠ w.heap.size + 1; omega)).trans ((heap_setCell_other w6 ⟨w.heap.size + 1, 0, none⟩ k _ (by show k ≠ w.heap.size + 1; omega)).trans (hk6.at' k (by omega) (by omega))))) (fun hSx => ?_)
      clear hJ J
      try simp only [Act.put, List.setIfInBounds_toArray, List.set_cons_zero, List.set_cons_succ]
      refine wpAnyH_done (by kernel_rfl) ?_ _
      refine NoPanic.normal ?_
      go_wp2
      have hn1 := heap_setCell_same w6 (w.heap.size + 1) 0 _ _ (.int .i64 (6 * (x : Int) + 1)) hr
      have hn2 := heap_setCell_same _ (w.heap.size + 1) 1 _ _ (.slice xa M.length xc) hn1
      exact post_d 2 Tryd.results21 rfl hn2 rfl ⟨_, Z, rfl, hZ, HO.out.keep (fun b hb _ => (heap_setCell_other _ ⟨w.heap.size + 1, 1, none⟩ b _ (by show b ≠ w.heap.size + 1; omega)).trans (heap_setCell_other w6 ⟨w.heap.size + 1, 0, none⟩ b _ (by show b ≠ w.heap.size + 1; omega))), ((HB5.out.trans (hk6.lo.mono (by omega))).setCell (p := ⟨w.heap.size + 1, 0, none⟩) (by show _ ≤ w.heap.size + 1; omega) _).setCell (p := ⟨w.heap.size + 1, 1, none⟩) (by show _ ≤ w.heap.size + 1; omega) _⟩

end Go.Proofs.YtdeofjmgjhfkcabDoor

namespace Go.Proofs.YtdeofjmgjhfkcabDoor
open Go.RowKit

/-- The blocks of a system that is made. -/
def mkL (n : Nat) : List (List Nat) := if n % 6 = 1 then skL (n / 6) else boL (n / 6)
theorem mkL_three (n : Nat) : ∀ b ∈ mkL n, b.length = 3 := by
  unfold mkL
  by_cases h : n % 6 = 1
  · rw [if_pos h]; exact skL_three _
  · rw [if_neg h]; exact boL_three _
/-- What is told of how many points. -/
def MkT (v p e : Int) (L : List (List Nat)) : Prop := ((v < 1 ∨ 33 < v) ∧ p = 0 ∧ e = 1 ∧ L = []) ∨ (∃ n : Nat, v = n ∧ 1 ≤ n ∧ n ≤ 33 ∧ (((n % 6 = 1 ∨ n % 6 = 3) ∧ p = n ∧ e = 0 ∧ L = mkL n) ∨ (n % 6 ≠ 1 ∧ n % 6 ≠ 3 ∧ p = 0 ∧ e = 4 ∧ L = [])))
theorem MkT.one {v p e p' e' : Int} {L L' : List (List Nat)} (h : MkT v p e L) (h' : MkT v p' e' L') : p = p' ∧ e = e' ∧ L = L' := by
  rcases h with ⟨h1, rfl, rfl, rfl⟩ | ⟨n, rfl, h2, h3, h⟩
  · rcases h' with ⟨_, rfl, rfl, rfl⟩ | ⟨n, rfl, h2, h3, _⟩
    · exact ⟨rfl, rfl, rfl⟩
    · omega
  · rcases h' with ⟨h1, _⟩ | ⟨n', e1, _, _, h'⟩
    · omega
    · obtain rfl : n = n' := by omega
      rcases h with ⟨a, rfl, rfl, rfl⟩ | ⟨a, b, rfl, rfl, rfl⟩ <;> rcases h' with ⟨a', rfl, rfl, rfl⟩ | ⟨a', b', rfl, rfl, rfl⟩
      · exact ⟨rfl, rfl, rfl⟩
      · omega
      · omega
      · exact ⟨rfl, rfl, rfl⟩
theorem MkT.three {v p e : Int} {L : List (List Nat)} (h : MkT v p e L) : ∀ b ∈ L, b.length = 3 := by
  rcases h with ⟨_, _, _, rfl⟩ | ⟨n, _, _, _, ⟨_, _, _, rfl⟩ | ⟨_, _, _, _, rfl⟩⟩
  · simp
  · exact mkL_three n
  · simp
theorem Srtd.one {L Z Z' : List (List Nat)} (h3 : ∀ b ∈ L, b.length = 3) (h : Srtd L Z) (h' : Srtd L Z') : Z = Z' := by
  refine (h.perm.trans h'.perm.symm).eq_of_pairwise (fun a b ha hb h1 h2 => ?_) h.ord h'.ord
  rcases llt_tri (s := a) (t := b) (by rw [h3 a (h.perm.mem_iff.1 ha), h3 b (h'.perm.mem_iff.1 hb)]) with g | g | g
  · exact (h2 g).elim
  · exact g
  · exact (h1 g).elim
theorem Srtd.nil : Srtd [] [] := ⟨List.Perm.refl _, List.Pairwise.nil⟩
set_option maxRecDepth 100000 in
set_option maxHeartbeats 4000000 in
theorem Make_far (v : Int) (w : World) (h : v < 1 ∨ 33 < v) :
    Calls Tryd.prog 9 #[.int .i64 v] w fun e w' => e = .returned (.tuple #[.agg #[.int .i64 0, .slice none 0 0], .int .i64 1]) ∧ Below w.heap.size w w' := by
  have hr := heap_alloc_new w (.cells #[.int .i64 0, .slice none 0 0] 25)
  have b1 := balloc w (.cells #[.int .i64 0, .slice none 0 0] 25)
  have h6 := heap_setCell_same _ w.heap.size 0 _ 25 (.int .i64 0) hr
  have h7 := heap_setCell_same _ w.heap.size 1 _ 25 (.slice none 0 0) h6
  have b7 := (b1.setCell (p := ⟨w.heap.size, 0, none⟩) (Nat.le_refl _) (.int .i64 0)).setCell (p := ⟨w.heap.size, 1, none⟩) (Nat.le_refl _) (.slice none 0 0)
  have H6 : Hid (_ ∧ Below w.heap.size w _) := ⟨h7, b7⟩
  have H1 : Hid (_ ∧ Below w.heap.size w _) := ⟨hr, b1⟩
  have z0 := frozen_of_row _ _ 0 _ _ hr
  have z1 := frozen_of_row _ _ 1 _ _ hr
  have y0 := cell_of_row _ _ 0 _ _ _ hr
  have y1 := cell_of_row _ _ 1 _ _ _ hr
  clear hr b1 h6 h7 b7
  by_cases h1 : v < 1
  · have hd : decide (v < 1) = true := by simp; omega
    go_enter Tryd.func9, Tryd.ntmps9
    go_wp2
    first
      | exact post_d2 2 3 rfl rfl H1.out.1 rfl rfl ⟨rfl, H1.out.2⟩
      | exact post_d2 2 3 rfl rfl (by simpa using H6.out.1) rfl rfl ⟨rfl, H6.out.2⟩
  · have hd : decide (v < 1) = false := by simp; omega
    have hd2 : decide (33 < v) = true := by simp; omega
    have h2 : 33 < v := by omega
    go_enter Tryd.func9, Tryd.ntmps9
    go_wp2
    first
      | exact post_d2 2 3 rfl rfl H1.out.1 rfl rfl ⟨rfl, H1.out.2⟩
      | exact post_d2 2 3 rfl rfl (by simpa using H6.out.1) rfl rfl ⟨rfl, H6.out.2⟩
set_option maxRecDepth 100000 in
set_option maxHeartbeats 4000000 in
theorem Make_none (n : Nat) (w : World) (h0 : 1 ≤ n) (h3 : n ≤ 33) (h1 : n % 6 ≠ 1) (h2 : n % 6 ≠ 3) :
    Calls Tryd.prog 9 #[.int .i64 (n : Int)] w fun e w' => e = .returned (.tuple #[.agg #[.int .i64 0, .slice none 0 0], .int .i64 4]) ∧ Below w.heap.size w w' := by
  have hr := heap_alloc_new w (.cells #[.int .i64 0, .slice none 0 0] 25)
  have b1 := balloc w (.cells #[.int .i64 0, .slice none 0 0] 25)
  have h6 := heap_setCell_same _ w.heap.size 0 _ 25 (.int .i64 0) hr
  have h7 := heap_setCell_same _ w.heap.size 1 _ 25 (.slice none 0 0) h6
  have b7 := (b1.setCell (p := ⟨w.heap.size, 0, none⟩) (Nat.le_refl _) (.int .i64 0)).setCell (p := ⟨w.heap.size, 1, none⟩) (Nat.le_refl _) (.slice none 0 0)
  have H6 : Hid (_ ∧ Below w.heap.size w _) := ⟨h7, b7⟩
  have H1 : Hid (_ ∧ Below w.heap.size w _) := ⟨hr, b1⟩
  have z0 := frozen_of_row _ _ 0 _ _ hr
  have z1 := frozen_of_row _ _ 1 _ _ hr
  have y0 := cell_of_row _ _ 0 _ _ _ hr
  have y1 := cell_of_row _ _ 1 _ _ _ hr
  have hd1 : decide ((n : Int) < 1) = false := by simp; omega
  have hd2 : decide ((33 : Int) < (n : Int)) = false := by simp; omega
  have hd3 : ¬ (n : Int) < 1 := by omega
  have hd4 : ¬ (33 : Int) < (n : Int) := by omega
  have hm : (n : Int).tmod 6 = ((n % 6 : Nat) : Int) := by rw [Int.tmod_eq_emod_of_nonneg (by omega)]; rfl
  have hlt : n % 6 < 6 := Nat.mod_lt _ (by omega)
  generalize n % 6 = r at *
  have e1 : ((r : Int) == 1) = false := by simp; omega
  have e2 : ((r : Int) == 3) = false := by simp; omega
  have e3 : ¬ (r : Int) = 1 := by omega
  have e4 : ¬ (r : Int) = 3 := by omega
  clear hr b1 h6 h7 b7
  go_enter Tryd.func9, Tryd.ntmps9
  go_wp2
  first
    | exact post_d2 2 3 rfl rfl H1.out.1 rfl rfl ⟨rfl, H1.out.2⟩
    | exact post_d2 2 3 rfl rfl (by simpa using H6.out.1) rfl rfl ⟨rfl, H6.out.2⟩
theorem made_box {wb w : World} {base n : Nat} {p : Int} {y : Value} {Z : List (List Nat)} (hb : Below (wb.heap.size + 1) (wb.alloc (.cells #[.int .i64 0, .slice none 0 0] 25)) w) (hn : wb.heap.size + 1 ≤ base) (hO : OR w base y Z) (_ : n = 0) :
    w.heap[wb.heap.size]? = some (.cells #[.int .i64 0, .slice none 0 0] 25 (0, 0)) ∧ ((w.setCell ⟨wb.heap.size, 0, none⟩ (.int .i64 p)).setCell ⟨wb.heap.size, 1, none⟩ y).heap[wb.heap.size]? = some (.cells #[.int .i64 p, y] 25 (0, 0)) ∧ Rw ((w.setCell ⟨wb.heap.size, 0, none⟩ (.int .i64 p)).setCell ⟨wb.heap.size, 1, none⟩ y) y (toZ Z) ∧ Below wb.heap.size wb ((w.setCell ⟨wb.heap.size, 0, none⟩ (.int .i64 p)).setCell ⟨wb.heap.size, 1, none⟩ y) := by
  have h : w.heap[wb.heap.size]? = some (.cells #[.int .i64 0, .slice none 0 0] 25 (0, 0)) := (hb.block _ (by omega)).trans (heap_alloc_new wb _)
  have h6 := heap_setCell_same w wb.heap.size 0 _ 25 (.int .i64 p) h
  have h7 := heap_setCell_same _ wb.heap.size 1 _ 25 y h6
  refine ⟨h, by simpa using h7, (hO.keep fun b hb' _ => (heap_setCell_other _ ⟨wb.heap.size, 1, none⟩ b _ (by show b ≠ wb.heap.size; omega)).trans (heap_setCell_other w ⟨wb.heap.size, 0, none⟩ b _ (by show b ≠ wb.heap.size; omega))).rw, ?_⟩
  exact ((((balloc wb _).trans (hb.mono (by omega))).setCell (p := ⟨wb.heap.size, 0, none⟩) (Nat.le_refl _) _).setCell (p := ⟨wb.heap.size, 1, none⟩) (Nat.le_refl _) _)
set_option maxRecDepth 100000 in
set_option maxHeartbeats 4000000 in
theorem Make_sk (n : Nat) (w : World) (h0 : 1 ≤ n) (h3 : n ≤ 33) (h1 : n % 6 = 1) :
    Calls Tryd.prog 9 #[.int .i64 (n : Int)] w fun e w' => ∃ x Z, e = .returned (.tuple #[.agg #[.int .i64 (n : Int), x], .int .i64 0]) ∧ Srtd (skL (n / 6)) Z ∧ Rw w' x (toZ Z) ∧ Below w.heap.size w w' := by
  have hr := heap_alloc_new w (.cells #[.int .i64 0, .slice none 0 0] 25)
  have hd1 : decide ((n : Int) < 1) = false := by simp; omega
  have hd2 : decide ((33 : Int) < (n : Int)) = false := by simp; omega
  have hd3 : ¬ (n : Int) < 1 := by omega
  have hd4 : ¬ (33 : Int) < (n : Int) := by omega
  have hm : (n : Int).tmod 6 = 1 := by rw [Int.tmod_eq_emod_of_nonneg (by omega)]; omega
  have hq : (n : Int).tdiv 6 = ((n / 6 : Nat) : Int) := by rw [Int.tdiv_eq_ediv_of_nonneg (by omega)]; rfl
  have C := skolem_any (n / 6) (w.alloc (.cells #[.int .i64 0, .slice none 0 0] 25)) (by omega)
  rw [show 6 * (n / 6) + 1 = n by omega, World.size_alloc] at C
  have hq5 : n / 6 ≤ 5 := by omega
  generalize skL (n / 6) = M at *
  generalize n / 6 = q at *
  have HC : Hid (Calls Tryd.prog 21 #[.int .i64 (q : Int)] (w.alloc (.cells #[.int .i64 0, .slice none 0 0] 25)) fun e w' => ∃ x Z, e = .returned (.agg #[.int .i64 (n : Int), x]) ∧ Srtd M Z ∧ OR w' (w.heap.size + 1 + 4) x Z ∧ Below (w.heap.size + 1) (w.alloc (.cells #[.int .i64 0, .slice none 0 0] 25)) w') := C
  clear C hr h1
  go_enter Tryd.func9, Tryd.ntmps9
  go_wp2_with (go_at_call 21; refine HC.out.mono ?_; rintro e w1 ⟨x, Z, rfl, hS, hO, hB⟩; clear HC; obtain ⟨xa, xc, rfl⟩ := hO.cap; have hZl := hS.len; rw [hZl] at hO ⊢; obtain ⟨hr, h7, hR, hb7⟩ := made_box (p := (n : Int)) (n := 0) hB (by omega) hO rfl; have H7 : Hid (_ ∧ _ ∧ _) := ⟨h7, hR, hb7⟩; have z0 := frozen_of_row _ _ 0 _ _ hr; have z1 := frozen_of_row _ _ 1 _ _ hr; have y0 := cell_of_row _ _ 0 _ _ _ hr; have y1 := cell_of_row _ _ 1 _ _ _ hr; clear hr h7 hR hb7 hB hO hZl)
  exact post_d2 2 3 rfl rfl H7.out.1 rfl rfl ⟨_, Z, rfl, hS, H7.out.2.1, H7.out.2.2⟩
set_option maxRecDepth 100000 in
set_option maxHeartbeats 4000000 in
theorem Make_bo (n : Nat) (w : World) (h0 : 1 ≤ n) (h3 : n ≤ 33) (h1 : n % 6 = 3) :
    Calls Tryd.prog 9 #[.int .i64 (n : Int)] w fun e w' => ∃ x Z, e = .returned (.tuple #[.agg #[.int .i64 (n : Int), x], .int .i64 0]) ∧ Srtd (boL (n / 6)) Z ∧ Rw w' x (toZ Z) ∧ Below w.heap.size w w' := by
  have hr := heap_alloc_new w (.cells #[.int .i64 0, .slice none 0 0] 25)
  have hd1 : decide ((n : Int) < 1) = false := by simp; omega
  have hd2 : decide ((33 : Int) < (n : Int)) = false := by simp; omega
  have hd3 : ¬ (n : Int) < 1 := by omega
  have hd4 : ¬ (33 : Int) < (n : Int) := by omega
  have hm : (n : Int).tmod 6 = 3 := by rw [Int.tmod_eq_emod_of_nonneg (by omega)]; omega
  have hq : (n : Int).tdiv 6 = ((n / 6 : Nat) : Int) := by rw [Int.tdiv_eq_ediv_of_nonneg (by omega)]; rfl
  have C := bose_any (n / 6) (w.alloc (.cells #[.int .i64 0, .slice none 0 0] 25)) (by omega)
  rw [show 6 * (n / 6) + 3 = n by omega, World.size_alloc] at C
  have hq5 : n / 6 ≤ 5 := by omega
  generalize boL (n / 6) = M at *
  generalize n / 6 = q at *
  have HC : Hid (Calls Tryd.prog 22 #[.int .i64 (q : Int)] (w.alloc (.cells #[.int .i64 0, .slice none 0 0] 25)) fun e w' => ∃ x Z, e = .returned (.agg #[.int .i64 (n : Int), x]) ∧ Srtd M Z ∧ OR w' (w.heap.size + 1 + 4) x Z ∧ Below (w.heap.size + 1) (w.alloc (.cells #[.int .i64 0, .slice none 0 0] 25)) w') := C
  clear C hr h1
  go_enter Tryd.func9, Tryd.ntmps9
  go_wp2_with (go_at_call 22; refine HC.out.mono ?_; rintro e w1 ⟨x, Z, rfl, hS, hO, hB⟩; clear HC; obtain ⟨xa, xc, rfl⟩ := hO.cap; have hZl := hS.len; rw [hZl] at hO ⊢; obtain ⟨hr, h7, hR, hb7⟩ := made_box (p := (n : Int)) (n := 0) hB (by omega) hO rfl; have H7 : Hid (_ ∧ _ ∧ _) := ⟨h7, hR, hb7⟩; have z0 := frozen_of_row _ _ 0 _ _ hr; have z1 := frozen_of_row _ _ 1 _ _ hr; have y0 := cell_of_row _ _ 0 _ _ _ hr; have y1 := cell_of_row _ _ 1 _ _ _ hr; clear hr h7 hR hb7 hB hO hZl)
  exact post_d2 2 3 rfl rfl H7.out.1 rfl rfl ⟨_, Z, rfl, hS, H7.out.2.1, H7.out.2.2⟩
theorem Make_any (v : Int) (w : World) :
    Calls Tryd.prog 9 #[.int .i64 v] w fun e w' => ∃ x Z p f L, e = .returned (.tuple #[.agg #[.int .i64 p, x], .int .i64 f]) ∧ MkT v p f L ∧ Srtd L Z ∧ Rw w' x (toZ Z) ∧ Below w.heap.size w w' := by
  by_cases h : v < 1 ∨ 33 < v
  · refine (Make_far v w h).mono ?_
    rintro e w' ⟨rfl, hb⟩
    exact ⟨_, [], 0, 1, [], rfl, .inl ⟨h, rfl, rfl, rfl⟩, Srtd.nil, (OR.nil w' 0).rw, hb⟩
  · obtain ⟨n, rfl⟩ : ∃ n : Nat, v = n := ⟨v.toNat, by omega⟩
    by_cases h1 : n % 6 = 1
    · refine (Make_sk n w (by omega) (by omega) h1).mono ?_
      rintro e w' ⟨x, Z, rfl, hS, hR, hb⟩
      exact ⟨x, Z, n, 0, _, rfl, .inr ⟨n, rfl, by omega, by omega, .inl ⟨.inl h1, rfl, rfl, (if_pos h1).symm⟩⟩, hS, hR, hb⟩
    · by_cases h2 : n % 6 = 3
      · refine (Make_bo n w (by omega) (by omega) h2).mono ?_
        rintro e w' ⟨x, Z, rfl, hS, hR, hb⟩
        exact ⟨x, Z, n, 0, _, rfl, .inr ⟨n, rfl, by omega, by omega, .inl ⟨.inr h2, rfl, rfl, (if_neg h1).symm⟩⟩, hS, hR, hb⟩
      · refine (Make_none n w (by omega) (by omega) h1 h2).mono ?_
        rintro e w' ⟨rfl, hb⟩
        exact ⟨_, [], 0, 4, [], rfl, .inr ⟨n, rfl, by omega, by omega, .inr ⟨h1, h2, rfl, rfl, rfl⟩⟩, Srtd.nil, (OR.nil w' 0).rw, hb⟩

end Go.Proofs.YtdeofjmgjhfkcabDoor
