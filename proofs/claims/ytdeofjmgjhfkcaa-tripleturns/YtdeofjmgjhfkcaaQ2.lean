/- Doubled and multiplied, a system is one. -/
import Derived.Test.YtdeofjmgjhfkcaaQ1
import Derived.Test.YtdeofjmgjhfkcaaK2
namespace Go.Proofs.Ytdeofjmgjhfkcaa
open Go.RowKit

theorem flat_perm {α β : Type} {f g : α → List β} : ∀ {l : List α}, (∀ a ∈ l, (f a).Perm (g a)) → (l.flatMap f).Perm (l.flatMap g)
  | [], _ => List.Perm.refl _
  | a :: l, h => by
    simp only [List.flatMap_cons]
    exact (h a (by simp)).append (flat_perm fun b hb => h b (by simp [hb]))
theorem map_flat {α β : Type} (f : α → β) : ∀ l : List α, l.map f = l.flatMap fun b => [f b]
  | [] => rfl
  | a :: l => by rw [List.map_cons, List.flatMap_cons, map_flat f l]; rfl
theorem three_form {b : List Nat} (h : b.length = 3) : b = [b.getD 0 0, b.getD 1 0, b.getD 2 0] := by
  match b, h with
  | [x, y, z], _ => rfl
theorem dbl_perm {v : Nat} {B : List (List Nat)} (h3 : ∀ b ∈ B, b.length = 3) : ((dbl v B).map s3).Perm (dbP v B) := by
  unfold dbl dbP
  rw [List.map_append, List.map_append]
  have e1 : (spk v).map s3 = duL v v := by
    unfold spk duL
    rw [List.map_map]
    refine List.map_congr_left fun x _ => ?_
    show s3 _ = s3 _
    rw [Nat.zero_mul, Nat.one_mul, Nat.zero_add, Nat.add_comm v x, Nat.add_zero]
  have e2 : (B.map s3 ++ (B.flatMap (tri v)).map s3).Perm (dbB v B) := by
    have a1 : B.map s3 = B.flatMap fun b => [s3 b] := map_flat s3 B
    rw [a1, List.map_flatMap]
    refine (flat_split (fun b => [s3 b]) (fun b => (tri v b).map s3) B).symm.trans ?_
    unfold dbB
    refine flat_perm fun b hb => ?_
    have h := three_form (h3 b hb)
    generalize b.getD 0 0 = x at h
    generalize b.getD 1 0 = y at h
    generalize b.getD 2 0 = z at h
    subst h
    refine List.Perm.of_eq ?_
    show s3 [x, y, z] :: [s3 [x, y + v, z + v], s3 [y, x + v, z + v], s3 [z, x + v, y + v]] = s3 [x, y, z] :: [s3 [0 * v + x, 1 * v + y, 1 * v + z], s3 [0 * v + y, 1 * v + z, 1 * v + x], s3 [0 * v + z, 1 * v + x, 1 * v + y]]
    simp only [Nat.zero_mul, Nat.one_mul, Nat.zero_add, Nat.add_comm v]
    rw [s3_congr (l := [y, z + v, x + v]) (m := [y, x + v, z + v]) (List.Perm.cons _ (List.Perm.swap _ _ _))]
  rw [e1]
  refine (List.Perm.append_right _ (List.perm_append_comm)).trans ?_
  rw [List.append_assoc]
  exact e2.append_left _
theorem dbP_s3 (v : Nat) (B : List (List Nat)) : ∀ b ∈ dbP v B, b.Pairwise (· ≤ ·) := fun b hb => by
  rcases List.mem_append.1 hb with h | h
  · unfold duL at h
    obtain ⟨_, _, rfl⟩ := List.mem_map.1 h
    exact s3_le _
  · unfold dbB at h
    obtain ⟨_, _, h⟩ := List.mem_flatMap.1 h
    rcases List.mem_cons.1 h with rfl | h
    · exact s3_le _
    · unfold dbI at h
      obtain ⟨_, _, rfl⟩ := List.mem_map.1 h
      exact s3_le _
theorem dbP_sys {v : Nat} {B : List (List Nat)} (s : Sys v B) : Sys (2 * v + 1) (dbP v B) := sys_perm (dbl_perm s.sz) (sys_s3 (dbl_sys s))
theorem sx_perm {m : Nat} {a c : List Nat} (ha : a.length = 3) (hc : c.length = 3) : ((six m a c).map s3).Perm (sxI m (fun j => a.getD j 0) (fun j => c.getD j 0) 3) := by
  match a, ha, c, hc with
  | [a0, a1, a2], _, [x, y, z], _ =>
    show List.Perm [s3 [a0 * m + x, a1 * m + y, a2 * m + z], s3 [a0 * m + x, a1 * m + z, a2 * m + y], s3 [a0 * m + y, a1 * m + x, a2 * m + z], s3 [a0 * m + y, a1 * m + z, a2 * m + x], s3 [a0 * m + z, a1 * m + x, a2 * m + y], s3 [a0 * m + z, a1 * m + y, a2 * m + x]]
      [s3 [a0 * m + x, a1 * m + y, a2 * m + z], s3 [a0 * m + x, a1 * m + z, a2 * m + y], s3 [a0 * m + y, a1 * m + z, a2 * m + x], s3 [a0 * m + y, a1 * m + x, a2 * m + z], s3 [a0 * m + z, a1 * m + x, a2 * m + y], s3 [a0 * m + z, a1 * m + y, a2 * m + x]]
    exact List.Perm.cons _ (List.Perm.cons _ (List.Perm.swap _ _ _))
theorem prd_perm {v m : Nat} {A C : List (List Nat)} (hA : ∀ b ∈ A, b.length = 3) (hC : ∀ b ∈ C, b.length = 3) : ((prd v m A C).map s3).Perm (prP v m A C) := by
  unfold prd prP
  rw [List.map_append, List.map_append, List.append_assoc]
  have e1 : (lay1 v m C).map s3 = p1 m C v := by
    unfold lay1 p1 p1i
    rw [List.map_flatMap, List.flatMap_def, List.flatMap_def]
    refine congrArg List.flatten (List.map_congr_left fun x _ => ?_)
    rw [List.map_map]
    refine List.map_congr_left fun c hc => ?_
    have h := three_form (hC c hc)
    generalize c.getD 0 0 = x0 at h ⊢
    generalize c.getD 1 0 = y0 at h ⊢
    generalize c.getD 2 0 = z0 at h ⊢
    subst h
    rfl
  rw [e1]
  refine List.Perm.append_left _ ?_
  rw [List.map_flatMap, List.map_flatMap]
  refine (flat_split _ _ A).symm.trans ?_
  unfold p2
  refine flat_perm fun a ha => List.Perm.append ?_ ?_
  · have h := three_form (hA a ha)
    unfold lay2 p2y
    rw [List.map_map]
    refine List.Perm.of_eq (List.map_congr_left fun y _ => ?_)
    generalize a.getD 0 0 = x0 at h ⊢
    generalize a.getD 1 0 = y0 at h ⊢
    generalize a.getD 2 0 = z0 at h ⊢
    subst h
    rfl
  · rw [List.map_flatMap]
    unfold p2c
    exact flat_perm fun c hc => sx_perm (hA a ha) (hC c hc)
theorem prP_s3 (v m : Nat) (A C : List (List Nat)) : ∀ b ∈ prP v m A C, b.Pairwise (· ≤ ·) := fun b hb => by
  rcases List.mem_append.1 hb with h | h
  · unfold p1 at h
    obtain ⟨_, _, h⟩ := List.mem_flatMap.1 h
    unfold p1i at h
    obtain ⟨_, _, rfl⟩ := List.mem_map.1 h
    exact s3_le _
  · unfold p2 at h
    obtain ⟨_, _, h⟩ := List.mem_flatMap.1 h
    rcases List.mem_append.1 h with h | h
    · unfold p2y at h
      obtain ⟨_, _, rfl⟩ := List.mem_map.1 h
      exact s3_le _
    · unfold p2c at h
      obtain ⟨_, _, h⟩ := List.mem_flatMap.1 h
      unfold sxI at h
      obtain ⟨_, _, h⟩ := List.mem_flatMap.1 h
      simp only [List.mem_cons, List.not_mem_nil, or_false] at h
      rcases h with rfl | rfl
      · exact s3_le _
      · exact s3_le _
theorem prP_sys {v m : Nat} {A C : List (List Nat)} (sA : Sys v A) (sC : Sys m C) : Sys (v * m) (prP v m A C) := sys_perm (prd_perm sA.sz sC.sz) (sys_s3 (prd_sys sA sC))
/-- The old blocks are in the doubled system. -/
theorem old_in {v : Nat} {B Z : List (List Nat)} (s : Sys v B) (hr : ∀ b ∈ B, b.Pairwise (· < ·)) (hS : Srtd (dbP v B) Z) : ∀ b ∈ B, b ∈ Z := fun b hb => by
  refine hS.perm.mem_iff.2 ((dbl_perm s.sz).mem_iff.1 (List.mem_map.2 ⟨b, ?_, s3_id ((hr b hb).imp fun h => Nat.le_of_lt h)⟩))
  unfold dbl
  exact List.mem_append.2 (.inl (List.mem_append.2 (.inl hb)))
theorem old_once {n : Nat} {Z : List (List Nat)} {b : List Nat} (s : Sys n Z) (hb : b ∈ Z) : Z.countP (fun c => mt b c == 3) = 1 := by
  obtain ⟨x, y, z, rfl, hx, hy, hz, h1, h2, h3⟩ := three_of (s.bl b hb) (s.sz b hb)
  have e1 : 1 ≤ Z.countP (fun c => mt [x, y, z] c == 3) := List.countP_pos_iff.2 ⟨[x, y, z], hb, by simp [mt_self]⟩
  have e2 : Z.countP (fun c => mt [x, y, z] c == 3) ≤ nb Z [x, y] := by
    unfold nb
    refine List.countP_mono_left fun c _ h => ?_
    have h : mt [x, y, z] c = 3 := by simpa using h
    unfold mt at h
    have hall : ∀ t ∈ [x, y, z], c.contains t = true := List.countP_eq_length.1 h
    simp only [List.all_cons, List.all_nil, Bool.and_true, Bool.and_eq_true]
    exact ⟨hall x (by simp), hall y (by simp)⟩
  rw [s.l2 x y hx hy h1] at e2
  omega

end Go.Proofs.Ytdeofjmgjhfkcaa
