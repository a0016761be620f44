/- The document's list of a product, before it is put in order. -/
import Derived.Test.YtdeofjmgjhfkcaaQ2
import Derived.Test.YtdeofjmgjhfkcaaPUnr
namespace Go.Proofs.Ytdeofjmgjhfkcaa

def q1i (m x : Nat) (C : List (List Nat)) : List (List Nat) := C.map fun c => [x * m + c.getD 0 0, x * m + c.getD 1 0, x * m + c.getD 2 0]
def q1 (m : Nat) (C : List (List Nat)) (x : Nat) : List (List Nat) := (List.range x).flatMap fun x => q1i m x C
def q2y (m : Nat) (a : List Nat) (y : Nat) : List (List Nat) := (List.range y).map fun y => [a.getD 0 0 * m + y, a.getD 1 0 * m + y, a.getD 2 0 * m + y]
def p3 (k j : Nat) : Nat := (unrL 3 (List.range 3) k).getD j 0
def q6 (m : Nat) (a c : List Nat) (k : Nat) : List (List Nat) := (List.range k).map fun k => [a.getD 0 0 * m + c.getD (p3 k 0) 0, a.getD 1 0 * m + c.getD (p3 k 1) 0, a.getD 2 0 * m + c.getD (p3 k 2) 0]
def q2c (m : Nat) (a : List Nat) (C : List (List Nat)) : List (List Nat) := C.flatMap fun c => q6 m a c 6
def q2 (m : Nat) (C A : List (List Nat)) : List (List Nat) := A.flatMap fun a => q2y m a m ++ q2c m a C
def prQ (v m : Nat) (A C : List (List Nat)) : List (List Nat) := q1 m C v ++ q2 m C A
theorem p3_lt : ∀ k, k < 6 → ∀ j, j < 3 → p3 k j < 3 := by decide
theorem p3_row (k : Nat) (h : k < 6) : unrL 3 (List.range 3) k = [p3 k 0, p3 k 1, p3 k 2] := by
  have : ∀ k, k < 6 → unrL 3 (List.range 3) k = [p3 k 0, p3 k 1, p3 k 2] := by decide
  exact this k h
theorem q1i_succ {m x i : Nat} {C : List (List Nat)} {c : List Nat} (h : C[i]? = some c) : q1i m x (C.take (i + 1)) = q1i m x (C.take i) ++ [[x * m + c.getD 0 0, x * m + c.getD 1 0, x * m + c.getD 2 0]] := by unfold q1i; rw [List.take_add_one, h, List.map_append]; rfl
theorem q1_succ (m : Nat) (C : List (List Nat)) (x : Nat) : q1 m C (x + 1) = q1 m C x ++ q1i m x C := by unfold q1; rw [List.range_succ, List.flatMap_append]; simp
theorem q2y_succ (m : Nat) (a : List Nat) (y : Nat) : q2y m a (y + 1) = q2y m a y ++ [[a.getD 0 0 * m + y, a.getD 1 0 * m + y, a.getD 2 0 * m + y]] := by unfold q2y; rw [List.range_succ, List.map_append]; rfl
theorem q6_succ (m : Nat) (a c : List Nat) (k : Nat) : q6 m a c (k + 1) = q6 m a c k ++ [[a.getD 0 0 * m + c.getD (p3 k 0) 0, a.getD 1 0 * m + c.getD (p3 k 1) 0, a.getD 2 0 * m + c.getD (p3 k 2) 0]] := by unfold q6; rw [List.range_succ, List.map_append]; rfl
theorem q2c_succ {m i : Nat} {a : List Nat} {C : List (List Nat)} {c : List Nat} (h : C[i]? = some c) : q2c m a (C.take (i + 1)) = q2c m a (C.take i) ++ q6 m a c 6 := by unfold q2c; rw [List.take_add_one, h, List.flatMap_append]; simp
theorem q2_succ {m i : Nat} {A C : List (List Nat)} {a : List Nat} (h : A[i]? = some a) : q2 m C (A.take (i + 1)) = (q2 m C (A.take i) ++ q2y m a m) ++ q2c m a C := by unfold q2; rw [List.take_add_one, h, List.flatMap_append]; simp
theorem q1i_len (m x : Nat) (C : List (List Nat)) : (q1i m x C).length = C.length := by simp [q1i]
theorem q1_len (m : Nat) (C : List (List Nat)) : ∀ x, (q1 m C x).length = x * C.length
  | 0 => by simp [q1]
  | x + 1 => by rw [q1_succ, List.length_append, q1_len m C x, q1i_len, Nat.succ_mul]
theorem q2y_len (m : Nat) (a : List Nat) (y : Nat) : (q2y m a y).length = y := by simp [q2y]
theorem q6_len (m : Nat) (a c : List Nat) (k : Nat) : (q6 m a c k).length = k := by simp [q6]
theorem q2c_len (m : Nat) (a : List Nat) : ∀ C : List (List Nat), (q2c m a C).length = 6 * C.length
  | [] => rfl
  | c :: C => by
    have := q2c_len m a C
    unfold q2c at this ⊢
    rw [List.flatMap_cons, List.length_append, this, q6_len]; simp; omega
theorem q2_len (m : Nat) (C : List (List Nat)) : ∀ A : List (List Nat), (q2 m C A).length = A.length * (m + 6 * C.length)
  | [] => by simp [q2]
  | a :: A => by
    have := q2_len m C A
    unfold q2 at this ⊢
    rw [List.flatMap_cons, List.length_append, this, List.length_append, q2y_len, q2c_len, List.length_cons, Nat.add_mul, Nat.one_mul, Nat.add_comm]
theorem prQ_three (v m : Nat) (A C : List (List Nat)) : ∀ b ∈ prQ v m A C, b.length = 3 := fun b hb => by
  unfold prQ q1 q2 at hb
  rcases List.mem_append.1 hb with hb | hb
  · obtain ⟨_, _, hb⟩ := List.mem_flatMap.1 hb
    obtain ⟨_, _, rfl⟩ := List.mem_map.1 hb
    rfl
  · obtain ⟨_, _, hb⟩ := List.mem_flatMap.1 hb
    rcases List.mem_append.1 hb with hb | hb
    · obtain ⟨_, _, rfl⟩ := List.mem_map.1 hb
      rfl
    · obtain ⟨_, _, hb⟩ := List.mem_flatMap.1 hb
      obtain ⟨_, _, rfl⟩ := List.mem_map.1 hb
      rfl
theorem q6_six {m : Nat} {a c : List Nat} (ha : a.length = 3) (hc : c.length = 3) : q6 m a c 6 = six m a c := by
  match a, ha, c, hc with
  | [a0, a1, a2], _, [x, y, z], _ => rfl
theorem prQ_perm {v m : Nat} {A C : List (List Nat)} (hA : ∀ b ∈ A, b.length = 3) (hC : ∀ b ∈ C, b.length = 3) : ((prQ v m A C).map s3).Perm (prP v m A C) := by
  unfold prQ prP
  rw [List.map_append]
  have e1 : (q1 m C v).map s3 = p1 m C v := by
    unfold q1 p1 p1i q1i
    rw [List.map_flatMap, List.flatMap_def, List.flatMap_def]
    refine congrArg List.flatten (List.map_congr_left fun x _ => ?_)
    rw [List.map_map]
    rfl
  rw [e1]
  refine List.Perm.append_left _ ?_
  unfold q2 p2
  rw [List.map_flatMap]
  refine flat_perm fun a ha => ?_
  rw [List.map_append]
  refine List.Perm.append (List.Perm.of_eq ?_) ?_
  · unfold q2y p2y
    rw [List.map_map]
    rfl
  · unfold q2c p2c
    rw [List.map_flatMap]
    exact flat_perm fun c hc => by rw [q6_six (hA a ha) (hC c hc)]; exact sx_perm (hA a ha) (hC c hc)

end Go.Proofs.Ytdeofjmgjhfkcaa
