/- Duval's way ends, and what it lays down is no longer than the word. -/
import Derived.Test.YtcjkcgfohmhbcabWdE
namespace Go.Proofs.Ytcjkcgfohmhbcab

theorem Fal.flat_len : ∀ (D : List (List Nat)), Fal D → D.length ≤ D.flatten.length
  | [], _ => Nat.le_refl _
  | [l], h => by
    have h1 : l ≠ [] := (h : Lyn l).ne
    have : 0 < l.length := List.length_pos_iff.2 h1
    simp
    omega
  | l :: m :: r, h => by
    have h1 : l ≠ [] := h.1.ne
    have := List.length_pos_iff.2 h1
    have ih := Fal.flat_len (m :: r) h.2.2
    rw [List.flatten_cons, List.length_append, List.length_cons]
    omega
theorem Duv.len {w : List Nat} {D : List (List Nat)} {s : Nat} (h : Duv w D (w.drop s)) (hs : s ≤ w.length) : D.length ≤ s := by
  have h1 := Fal.flat_len D h.fal
  have h2 := congrArg List.length h.flat
  rw [List.length_append, List.length_drop] at h2
  omega
theorem CS.len {M Ls : List Nat} {s b a : Nat} (h : CS M Ls s b a) : Ls.length ≤ s ∧ s + (a - b) ≤ a ∧ b < a ∧ a ≤ M.length := by
  obtain ⟨D, s0, j, rfl, hD, rfl, h1, h2, h3, h4, h5, h6⟩ := h
  have := hD.len (by omega)
  refine ⟨?_, by simp only [Nat.add_mul] at h1; omega, h2, h3⟩
  rw [List.length_append, List.length_map, List.length_replicate]
  have : j ≤ j * (a - b) := Nat.le_mul_of_pos_right _ (by omega)
  omega
theorem FS.len {M Ls : List Nat} {s b a : Nat} (h : FS M Ls s b a) : s ≤ b ∧ b < a ∧ a ≤ M.length := by
  obtain ⟨D, -, -, h1, h2, h3, -⟩ := h
  exact ⟨h1, h2, h3⟩
theorem du_a {n s : Nat} (h : s < n) : duM n 1 s (s + 1) < duM n 0 s 0 := by
  unfold duM
  simp
  omega
theorem du_b {n s a : Nat} (h : a < n) : duM n 1 s (a + 1) < duM n 1 s a := by
  unfold duM
  simp
  omega
theorem du_c {n s a : Nat} (h : a ≤ n) : duM n 2 s 0 < duM n 1 s a := by
  unfold duM
  simp
  omega
theorem du_m {n s t : Nat} (h : s < t) (ht : t ≤ n) : (n - t) * (2 * n + 4) + (2 * n + 4) ≤ (n - s) * (2 * n + 4) := by
  rw [← Nat.succ_mul]
  exact Nat.mul_le_mul_right _ (by omega)
theorem du_d {n s t : Nat} (h : s < t) (ht : t ≤ n) : duM n 2 t 0 < duM n 2 s 0 := by
  have := du_m h ht
  unfold duM
  simp
  omega
theorem du_e {n s t : Nat} (h : s < t) (ht : t ≤ n) : duM n 0 t 0 < duM n 2 s 0 := by
  have := du_m h ht
  unfold duM
  simp
  omega
end Go.Proofs.Ytcjkcgfohmhbcab
