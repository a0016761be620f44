/- The walks of the two ways to find a place between two, and of slanted. -/
import Derived.Test.YtdeofjmgjhfkcaaA2
namespace Go.Proofs.Ytdeofjmgjhfkcaa
open Go.RowKit

/-- The blocks that slanted adds. -/
def slC (m : Nat) (f : Nat → Nat → Nat) (x y i : Nat) : List Nat := [i * m + x, i * m + y, ((i + 1) % 3) * m + f x y]
def slI (m : Nat) (f : Nat → Nat → Nat) (x y i : Nat) : List (List Nat) := (List.range i).map fun i => s3 (slC m f x y i)
def slX (m : Nat) (f : Nat → Nat → Nat) (y x : Nat) : List (List Nat) := (List.range x).flatMap fun x => slI m f x y 3
def slY (m : Nat) (f : Nat → Nat → Nat) (y : Nat) : List (List Nat) := (List.range y).flatMap fun y => slX m f y y
theorem slI_succ (m : Nat) (f : Nat → Nat → Nat) (x y i : Nat) : slI m f x y (i + 1) = slI m f x y i ++ [s3 (slC m f x y i)] := by unfold slI; rw [List.range_succ, List.map_append]; rfl
theorem slX_succ (m : Nat) (f : Nat → Nat → Nat) (y x : Nat) : slX m f y (x + 1) = slX m f y x ++ slI m f x y 3 := by unfold slX; rw [List.range_succ, List.flatMap_append]; simp
theorem slY_succ (m : Nat) (f : Nat → Nat → Nat) (y : Nat) : slY m f (y + 1) = slY m f y ++ slX m f y y := by unfold slY; rw [List.range_succ, List.flatMap_append]; simp
theorem slI_len (m : Nat) (f : Nat → Nat → Nat) (x y i : Nat) : (slI m f x y i).length = i := by simp [slI]
theorem slX_len (m : Nat) (f : Nat → Nat → Nat) (y : Nat) : ∀ x, (slX m f y x).length = 3 * x
  | 0 => rfl
  | x + 1 => by rw [slX_succ, List.length_append, slX_len m f y x, slI_len]; omega
theorem slY_len (m : Nat) (f : Nat → Nat → Nat) : ∀ y, y ≤ 11 → (slY m f y).length ≤ 33 * y
  | 0, _ => by simp [slY]
  | y + 1, h => by
    have := slY_len m f y (by omega)
    rw [slY_succ, List.length_append, slX_len]; omega
def boF (t m x y : Nat) : Nat := (x + y) * (t + 1) % m
def skF (t m x y : Nat) : Nat := ((x + y) % m) / 2 + ((x + y) % m) % 2 * t
set_option maxRecDepth 100000 in
set_option maxHeartbeats 2000000 in
theorem boF_any (x y t m tb pb gb : Nat) (w : World) (h1 : w.cell? ⟨tb, 0, none⟩ = some (.int .i64 (t : Int))) (h2 : w.cell? ⟨pb, 0, none⟩ = some (.pointer (some ⟨gb, 0, none⟩))) (h3 : w.cell? ⟨gb, 1, none⟩ = some (.int .i64 (m : Int))) (hx : x ≤ 99) (hy : y ≤ 99) (ht : t ≤ 99) (hm : 1 ≤ m) (hm9 : m ≤ 99) :
    Calls Try.prog 53 #[.int .i64 (x : Int), .int .i64 (y : Int), .pointer (some ⟨tb, 0, none⟩), .pointer (some ⟨pb, 0, none⟩)] w fun e w' => e = .returned (.int .i64 ((boF t m x y : Nat) : Int)) ∧ Below w.heap.size w w' := by
  have hp : (x + y) * (t + 1) ≤ 198 * 100 := Nat.mul_le_mul (by omega) (by omega)
  unfold boF
  obtain ⟨p, Hp⟩ : ∃ p, Hid ((x + y) * (t + 1) = p) := ⟨_, rfl⟩
  have hpm : ((x : Int) + (y : Int)) * ((t : Int) + 1) = (p : Int) := by rw [← Hp.out]; simp
  rw [Hp.out] at hp ⊢
  have hmz : ¬ (m : Int) = 0 := by omega
  have hmn : ¬ (m : Int) = -1 := by omega
  have hmz2 : ((m : Int) == 0) = false := by simp; omega
  have hr : (p : Int).tmod (m : Int) = ((p % m : Nat) : Int) := by rw [Int.tmod_eq_emod_of_nonneg (by omega)]; rfl
  have hlt : p % m < m := Nat.mod_lt _ hm
  generalize p % m = r at *
  go_enter Try.func53, Try.ntmps53
  go_wp2
  go_quiet (fail)
  go_wp2
  go_ret
  exact ⟨rfl, ⟨rfl, rfl, rfl, Nat.le_refl _, fun _ _ => rfl⟩⟩
set_option maxRecDepth 100000 in
set_option maxHeartbeats 2000000 in
theorem skF_any (x y t m tb pb gb : Nat) (w : World) (h1 : w.cell? ⟨tb, 0, none⟩ = some (.int .i64 (t : Int))) (h2 : w.cell? ⟨pb, 0, none⟩ = some (.pointer (some ⟨gb, 0, none⟩))) (h3 : w.cell? ⟨gb, 1, none⟩ = some (.int .i64 (m : Int))) (hx : x ≤ 99) (hy : y ≤ 99) (ht : t ≤ 99) (hm : 1 ≤ m) (hm9 : m ≤ 99) :
    Calls Try.prog 52 #[.int .i64 (x : Int), .int .i64 (y : Int), .pointer (some ⟨pb, 0, none⟩), .pointer (some ⟨tb, 0, none⟩)] w fun e w' => e = .returned (.int .i64 ((skF t m x y : Nat) : Int)) ∧ Below w.heap.size w w' := by
  unfold skF
  have hmz : ¬ (m : Int) = 0 := by omega
  have hmn : ¬ (m : Int) = -1 := by omega
  have hmz2 : ((m : Int) == 0) = false := by simp; omega
  have hr : ((x : Int) + (y : Int)).tmod (m : Int) = (((x + y) % m : Nat) : Int) := by rw [Int.tmod_eq_emod_of_nonneg (by omega)]; rfl
  have hlt : (x + y) % m < m := Nat.mod_lt _ hm
  generalize (x + y) % m = r at *
  have hq : (r : Int).tdiv 2 = ((r / 2 : Nat) : Int) := by rw [Int.tdiv_eq_ediv_of_nonneg (by omega)]; rfl
  have hq2 : (r : Int).tmod 2 = ((r % 2 : Nat) : Int) := by rw [Int.tmod_eq_emod_of_nonneg (by omega)]; rfl
  have hp : r % 2 * t ≤ 1 * 99 := Nat.mul_le_mul (by omega) ht
  have hpm : ((r % 2 : Nat) : Int) * (t : Int) = ((r % 2 * t : Nat) : Int) := by simp
  have hr2 : r / 2 ≤ 99 := by omega
  generalize r % 2 * t = p at *
  generalize r / 2 = a at *
  generalize r % 2 = b at *
  go_enter Try.func52, Try.ntmps52
  go_wp2
  go_ret
  exact ⟨by go_num, Below.refl _ w⟩

end Go.Proofs.Ytdeofjmgjhfkcaa
