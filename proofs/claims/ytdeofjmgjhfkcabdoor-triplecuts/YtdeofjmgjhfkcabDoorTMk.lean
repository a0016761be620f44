/- The document's blocks of a system that is made, and the program's: the same; nothing of the program. -/
import Derived.Test.YtdeofjmgjhfkcabDoorTSo
namespace Go.Proofs.YtdeofjmgjhfkcabDoor

def dI (m h x y i : Nat) : List (List Nat) := (List.range i).map fun i => [x + m * i, y + m * i, h + m * ((i + 1) % 3)]
def dY (m : Nat) (f : Nat → Nat → Nat) (x k : Nat) : List (List Nat) := (List.range k).flatMap fun j => dI m (f x (x + 1 + j)) x (x + 1 + j) 3
def dX (m : Nat) (f : Nat → Nat → Nat) (x : Nat) : List (List Nat) := (List.range x).flatMap fun x => dY m f x (m - (x + 1))
def dU (m x : Nat) : List (List Nat) := (List.range x).map fun x => [x, x + m, x + 2 * m]
def dkI (t m x i : Nat) : List (List Nat) := (List.range i).map fun i => [6 * t, x + t + m * i, x + m * ((i + 1) % 3)]
def dkX (t m x : Nat) : List (List Nat) := (List.range x).flatMap fun x => [x, x + m, x + 2 * m] :: dkI t m x 3
theorem dI_succ (m h x y i : Nat) : dI m h x y (i + 1) = dI m h x y i ++ [[x + m * i, y + m * i, h + m * ((i + 1) % 3)]] := by unfold dI; rw [List.range_succ, List.map_append]; rfl
theorem dY_succ (m : Nat) (f : Nat → Nat → Nat) (x k : Nat) : dY m f x (k + 1) = dY m f x k ++ dI m (f x (x + 1 + k)) x (x + 1 + k) 3 := by unfold dY; rw [List.range_succ, List.flatMap_append]; simp
theorem dX_succ (m : Nat) (f : Nat → Nat → Nat) (x : Nat) : dX m f (x + 1) = dX m f x ++ dY m f x (m - (x + 1)) := by unfold dX; rw [List.range_succ, List.flatMap_append]; simp
theorem dU_succ (m x : Nat) : dU m (x + 1) = dU m x ++ [[x, x + m, x + 2 * m]] := by unfold dU; rw [List.range_succ, List.map_append]; rfl
theorem dkI_succ (t m x i : Nat) : dkI t m x (i + 1) = dkI t m x i ++ [[6 * t, x + t + m * i, x + m * ((i + 1) % 3)]] := by unfold dkI; rw [List.range_succ, List.map_append]; rfl
theorem dkX_succ (t m x : Nat) : dkX t m (x + 1) = (dkX t m x ++ [[x, x + m, x + 2 * m]]) ++ dkI t m x 3 := by unfold dkX; rw [List.range_succ, List.flatMap_append]; simp
theorem dI_len (m h x y i : Nat) : (dI m h x y i).length = i := by simp [dI]
theorem dY_len (m : Nat) (f : Nat → Nat → Nat) (x : Nat) : ∀ k, (dY m f x k).length = 3 * k
  | 0 => rfl
  | k + 1 => by rw [dY_succ, List.length_append, dY_len m f x k, dI_len]; omega
theorem dX_len (m : Nat) (f : Nat → Nat → Nat) (hm : m ≤ 11) : ∀ x, x ≤ m → (dX m f x).length ≤ 33 * x
  | 0, _ => by simp [dX]
  | x + 1, h => by
    have := dX_len m f hm x (by omega)
    rw [dX_succ, List.length_append, dY_len]; omega
theorem dU_len (m x : Nat) : (dU m x).length = x := by simp [dU]
theorem dkI_len (t m x i : Nat) : (dkI t m x i).length = i := by simp [dkI]
theorem dkX_len (t m : Nat) : ∀ x, (dkX t m x).length = 4 * x
  | 0 => rfl
  | x + 1 => by rw [dkX_succ, List.length_append, List.length_append, dkX_len t m x, dkI_len]; simp; omega
theorem flat_split {α β : Type} (f g : α → List β) : ∀ l : List α, (l.flatMap fun x => f x ++ g x).Perm (l.flatMap f ++ l.flatMap g)
  | [] => List.Perm.refl _
  | a :: l => by
    simp only [List.flatMap_cons]
    have ih := flat_split f g l
    refine ((ih.append_left (f a ++ g a)).trans ?_)
    rw [List.append_assoc, List.append_assoc]
    refine List.Perm.append_left (f a) ?_
    rw [← List.append_assoc, ← List.append_assoc]
    exact List.Perm.append_right _ List.perm_append_comm
/-- The two orders of the pairs. -/
theorem tri_perm {β : Type} (F : Nat → Nat → List β) : ∀ m, ((List.range m).flatMap fun x => (List.range (m - (x + 1))).flatMap fun j => F x (x + 1 + j)).Perm ((List.range m).flatMap fun y => (List.range y).flatMap fun x => F x y)
  | 0 => List.Perm.refl _
  | m + 1 => by
    rw [List.range_succ, List.flatMap_append, List.flatMap_append]
    have e : ((List.range m).flatMap fun x => (List.range (m + 1 - (x + 1))).flatMap fun j => F x (x + 1 + j)) = (List.range m).flatMap fun x => ((List.range (m - (x + 1))).flatMap fun j => F x (x + 1 + j)) ++ F x m := by
      rw [List.flatMap_def, List.flatMap_def]
      refine congrArg List.flatten (List.map_congr_left fun x hx => ?_)
      have hx := List.mem_range.1 hx
      rw [show m + 1 - (x + 1) = (m - (x + 1)) + 1 by omega, List.range_succ, List.flatMap_append, show ([m - (x + 1)].flatMap fun j => F x (x + 1 + j)) = F x (x + 1 + (m - (x + 1))) by simp, show x + 1 + (m - (x + 1)) = m by omega]
    rw [e]
    have h1 := (flat_split (fun x => (List.range (m - (x + 1))).flatMap fun j => F x (x + 1 + j)) (fun x => F x m) (List.range m)).trans ((tri_perm F m).append_right _)
    simpa using h1
theorem map_dX (m : Nat) (f : Nat → Nat → Nat) (g : List Nat → List Nat) : (dX m f m).map g = (List.range m).flatMap fun x => (List.range (m - (x + 1))).flatMap fun j => (dI m (f x (x + 1 + j)) x (x + 1 + j) 3).map g := by
  unfold dX dY
  rw [List.map_flatMap]
  rw [List.flatMap_def, List.flatMap_def]
  exact congrArg List.flatten (List.map_congr_left fun x _ => by rw [List.map_flatMap])

end Go.Proofs.YtdeofjmgjhfkcabDoor
