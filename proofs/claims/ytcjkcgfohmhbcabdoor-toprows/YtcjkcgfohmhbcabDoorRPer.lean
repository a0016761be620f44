/- When a row comes again: plain words on windows; nothing of the program. -/
import Derived.Test.YtcjkcgfohmhbcabDoorRPure
namespace Go.Proofs.YtcjkcgfohmhbcabDoor.Rc

/-- The first that comes again does so behind a numbers, b numbers on. -/
def PerIs (z : Nat → Int) (a b : Nat) : Prop := 1 ≤ b ∧ z a = z (a + b) ∧ ∀ s t, s < t → t < a + b → z s ≠ z t
theorem PerIs.one {z : Nat → Int} {a b a' b' : Nat} (h : PerIs z a b) (h' : PerIs z a' b') : a = a' ∧ b = b' := by
  obtain ⟨h1, h2, h3⟩ := h
  obtain ⟨g1, g2, g3⟩ := h'
  have e : a + b = a' + b' := by
    by_cases hlt : a + b < a' + b'
    · exact absurd h2 (g3 a (a + b) (by omega) hlt)
    · by_cases hgt : a' + b' < a + b
      · exact absurd g2 (h3 a' (a' + b') (by omega) hgt)
      · omega
  have ea : a = a' := by
    by_cases hlt : a < a'
    · exact absurd (h2.trans (by rw [e]; exact g2.symm)) (h3 a a' hlt (by omega))
    · by_cases hgt : a' < a
      · exact absurd (g2.trans (by rw [← e]; exact h2.symm)) (g3 a' a hgt (by omega))
      · omega
  exact ⟨ea, by omega⟩
def Apart (z : Nat → Int) (i : Nat) : Prop := ∀ s t, s < t → t < i → z s ≠ z t
theorem Apart.le {z : Nat → Int} {i Q : Nat} (h : Apart z i) (hz : ∀ j, 0 ≤ z j ∧ z j < Q) : i ≤ Q := by
  have hn : ((List.range i).map fun j => (z j).toNat).Nodup := by
    rw [List.nodup_iff_pairwise_ne, List.pairwise_map]
    refine List.Pairwise.imp_of_mem ?_ (List.pairwise_lt_range (n := i))
    intro s t hs ht hst e
    have h1 := hz s
    have h2 := hz t
    exact h s t hst (by simpa using ht) (by omega)
  have hs : ((List.range i).map fun j => (z j).toNat) ⊆ List.range Q := by
    intro x hx
    obtain ⟨j, _, rfl⟩ := List.mem_map.1 hx
    have := hz j
    simp; omega
  have := hn.length_le_of_subset hs
  simpa using this
/-- Of each window the step that came to it, counted from 1 on. -/
def metF (z : Nat → Int) : Nat → Nat → Int
  | 0 => fun _ => 0
  | i + 1 => upd (metF z i) (z i).toNat ((i : Int) + 1)
theorem metF_bd (z : Nat → Int) (x : Nat) : ∀ i, 0 ≤ metF z i x ∧ metF z i x ≤ i
  | 0 => by simp [metF]
  | i + 1 => by
    have := metF_bd z x i
    simp only [metF, upd]
    split <;> omega
theorem metF_pos (z : Nat → Int) (x : Nat) : ∀ i, metF z i x ≠ 0 → ∃ j, j < i ∧ (z j).toNat = x ∧ metF z i x = (j : Int) + 1
  | 0, h => by simp [metF] at h
  | i + 1, h => by
    simp only [metF, upd] at h ⊢
    by_cases e : x = (z i).toNat
    · rw [if_pos e]; exact ⟨i, by omega, e.symm, rfl⟩
    · rw [if_neg e] at h ⊢
      obtain ⟨j, h1, h2, h3⟩ := metF_pos z x i h
      exact ⟨j, by omega, h2, h3⟩
theorem metF_zero (z : Nat → Int) (x : Nat) : ∀ i, metF z i x = 0 → ∀ j, j < i → (z j).toNat ≠ x
  | 0, _, j, hj => by omega
  | i + 1, h, j, hj => by
    simp only [metF, upd] at h
    by_cases e : x = (z i).toNat
    · rw [if_pos e] at h; omega
    · rw [if_neg e] at h
      by_cases ej : j = i
      · subst ej; exact fun h => e h.symm
      · exact metF_zero z x i h j (by omega)
theorem Apart.succ {z : Nat → Int} {i : Nat} (h : Apart z i) (hm : metF z i (z i).toNat = 0) : Apart z (i + 1) := by
  intro s t hst ht e
  by_cases et : t = i
  · subst et
    exact metF_zero z _ t hm s hst (by rw [e])
  · exact h s t hst (by omega) e
theorem Apart.found {z : Nat → Int} {i : Nat} (h : Apart z i) (hz : ∀ j, 0 ≤ z j) (hm : metF z i (z i).toNat ≠ 0) : ∃ j, j < i ∧ metF z i (z i).toNat = (j : Int) + 1 ∧ PerIs z j (i - j) := by
  obtain ⟨j, h1, h2, h3⟩ := metF_pos z _ i hm
  refine ⟨j, h1, h3, by omega, ?_, fun s t hst ht => h s t hst (by omega)⟩
  have e1 := hz j
  have e2 := hz i
  rw [show j + (i - j) = i by omega]; omega

end Go.Proofs.YtcjkcgfohmhbcabDoor.Rc
