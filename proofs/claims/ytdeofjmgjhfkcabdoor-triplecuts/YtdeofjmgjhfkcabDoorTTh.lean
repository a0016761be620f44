/- The table of third points; nothing of the program. -/
import Derived.Test.YtdeofjmgjhfkcabDoorTPa3
namespace Go.Proofs.YtdeofjmgjhfkcabDoor

def st2 (f : Nat → Nat → Nat) (x y z : Nat) : Nat → Nat → Nat := fun p q => if (p = x ∧ q = y) ∨ (p = y ∧ q = x) then z else f p q
def thI (f : Nat → Nat → Nat) (b : List Nat) : Nat → Nat → Nat → Nat
  | 0 => f
  | i + 1 => st2 (thI f b i) (b.getD i 0) (b.getD ((i + 1) % 3) 0) (b.getD ((i + 2) % 3) 0)
def thB (B : List (List Nat)) : Nat → Nat → Nat := B.foldl (fun f b => thI f b 3) (fun _ _ => 0)
theorem thB_succ {B : List (List Nat)} {i : Nat} {b : List Nat} (h : B[i]? = some b) : thB (B.take (i + 1)) = thI (thB (B.take i)) b 3 := by
  unfold thB
  rw [List.take_add_one, h, List.foldl_append]
  rfl
/-- A block's own points, and no others. -/
theorem thI_three (f : Nat → Nat → Nat) {x y z : Nat} (h1 : x ≠ y) (h2 : x ≠ z) (h3 : y ≠ z) (p q : Nat) : thI f [x, y, z] 3 p q = if p ≠ q ∧ p ∈ [x, y, z] ∧ q ∈ [x, y, z] then (if p ≠ x ∧ q ≠ x then x else if p ≠ y ∧ q ≠ y then y else z) else f p q := by
  show st2 (st2 (st2 f x y z) y z x) z x y p q = _
  unfold st2
  have n1 := Ne.symm h1
  have n2 := Ne.symm h2
  have n3 := Ne.symm h3
  simp only [List.mem_cons, List.not_mem_nil, or_false]
  by_cases a1 : p = x
  · subst a1
    by_cases b1 : q = p
    · subst b1; simp [h1, h2]
    · by_cases b2 : q = y
      · subst b2; simp [*]
      · by_cases b3 : q = z
        · subst b3; simp [*]
        · simp [*]
  · by_cases a2 : p = y
    · subst a2
      by_cases b1 : q = x
      · subst b1; simp [*]
      · by_cases b2 : q = p
        · subst b2; simp [*]
        · by_cases b3 : q = z
          · subst b3; simp [*]
          · simp [*]
    · by_cases a3 : p = z
      · subst a3
        by_cases b1 : q = x
        · subst b1; simp [*]
        · by_cases b2 : q = y
          · subst b2; simp [*]
          · by_cases b3 : q = p
            · subst b3; simp [*]
            · simp [*]
      · simp [*]
theorem thI_in (f : Nat → Nat → Nat) {b : List Nat} {v : Nat} (hb : Pts v b) (h3 : b.length = 3) {p q r : Nat} (hp : p ∈ b) (hq : q ∈ b) (hr : r ∈ b) (n1 : p ≠ q) (n2 : p ≠ r) (n3 : q ≠ r) : thI f b 3 p q = r := by
  obtain ⟨x, y, z, rfl, _, _, _, h1, h2, h4⟩ := three_of hb h3
  rw [thI_three f h1 h2 h4, if_pos ⟨n1, hp, hq⟩]
  simp only [List.mem_cons, List.not_mem_nil, or_false] at hp hq hr
  by_cases c1 : p ≠ x ∧ q ≠ x
  · rw [if_pos c1]; omega
  · rw [if_neg c1]
    by_cases c2 : p ≠ y ∧ q ≠ y
    · rw [if_pos c2]; omega
    · rw [if_neg c2]; omega
theorem thI_out (f : Nat → Nat → Nat) {b : List Nat} {v : Nat} (hb : Pts v b) (h3 : b.length = 3) {p q : Nat} (h : ¬ (p ≠ q ∧ p ∈ b ∧ q ∈ b)) : thI f b 3 p q = f p q := by
  obtain ⟨x, y, z, rfl, _, _, _, h1, h2, h4⟩ := three_of hb h3
  rw [thI_three f h1 h2 h4, if_neg h]
theorem thB_take {v : Nat} {B : List (List Nat)} (s : Sys v B) : ∀ k, k ≤ B.length → ∀ i, i < k → ∀ x ∈ B.getD i [], ∀ y ∈ B.getD i [], ∀ z ∈ B.getD i [], x ≠ y → x ≠ z → y ≠ z → thB (B.take k) x y = z
  | 0, _, i, hi => by omega
  | k + 1, hk, i, hi => fun x hx y hy z hz n1 n2 n3 => by
    have hkl : k < B.length := by omega
    have e : B[k]? = some (B.getD k []) := by rw [List.getD_eq_getElem?_getD, List.getElem?_eq_getElem hkl]; rfl
    rw [thB_succ e]
    have hb := s.bl _ (mem_at hkl)
    have h3 := s.sz _ (mem_at hkl)
    by_cases c : i = k
    · subst c
      exact thI_in _ hb h3 hx hy hz n1 n2 n3
    · rw [thI_out _ hb h3 fun ⟨_, h1, h2⟩ => c (s.one (by omega) hkl n1 hx hy h1 h2)]
      exact thB_take s k (by omega) i (by omega) x hx y hy z hz n1 n2 n3
theorem thB_th {v : Nat} {B : List (List Nat)} (s : Sys v B) : IsTh B (thB B) := fun b hb x hx y hy z hz n1 n2 n3 => by
  obtain ⟨i, hi, rfl⟩ := List.mem_iff_getElem.1 hb
  have e : B.getD i [] = B[i] := by rw [List.getD_eq_getElem?_getD, List.getElem?_eq_getElem hi]; rfl
  have := thB_take s B.length (Nat.le_refl _) i hi x (by rw [e]; exact hx) y (by rw [e]; exact hy) z (by rw [e]; exact hz) n1 n2 n3
  rwa [List.take_length] at this
/-- A third point is a point. -/
theorem th_lt {v : Nat} {B : List (List Nat)} (s : Sys v B) {th : Nat → Nat → Nat} (ht : IsTh B th) {x y : Nat} (hx : x < v) (hy : y < v) (hn : x ≠ y) : th x y < v := by
  obtain ⟨i, hi, h1, h2⟩ := s.block hx hy hn
  exact s.lt hi (s.third ht hi h1 h2 hn).1

end Go.Proofs.YtdeofjmgjhfkcabDoor
