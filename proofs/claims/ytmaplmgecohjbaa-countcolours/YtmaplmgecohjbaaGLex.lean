/- Lists in their order: ranks rise with it; nothing of the program. -/
import Derived.Test.YtmaplmgecohjbaaGDer
namespace Go.Proofs.Ytmaplmgecohjbaa

/-- The first place where they part has the less one on the left. -/
def LexLt (m : Nat) (f g : Nat → Nat) : Prop := ∃ i, i < m ∧ (∀ j, j < i → f j = g j) ∧ f i < g i
theorem LexLt.irrefl {m : Nat} {f : Nat → Nat} : ¬ LexLt m f f := fun ⟨_, _, _, h⟩ => by omega
theorem LexLt.trans {m : Nat} {f g h : Nat → Nat} (a : LexLt m f g) (b : LexLt m g h) : LexLt m f h := by
  obtain ⟨i, hi, h1, h2⟩ := a
  obtain ⟨k, hk, h3, h4⟩ := b
  rcases Nat.lt_trichotomy i k with e | e | e
  · exact ⟨i, hi, fun j hj => by rw [h1 j hj, h3 j (by omega)], by rw [← h3 i e]; exact h2⟩
  · subst e; exact ⟨i, hi, fun j hj => by rw [h1 j hj, h3 j hj], by omega⟩
  · exact ⟨k, hk, fun j hj => by rw [h1 j (by omega), h3 j hj], by rw [h1 k e]; exact h4⟩
theorem lex_total {m : Nat} {f g : Nat → Nat} (h : ¬ LexLt m f g) (h' : ¬ LexLt m g f) : ∀ i, i < m → f i = g i := by
  intro i
  induction i using Nat.strongRecOn with
  | _ i ih =>
    intro hi
    have hlow : ∀ j, j < i → f j = g j := fun j hj => ih j hj (by omega)
    refine Classical.byContradiction fun e => ?_
    rcases Nat.lt_or_gt_of_ne e with h1 | h1
    · exact h ⟨i, hi, hlow, h1⟩
    · exact h' ⟨i, hi, fun j hj => (hlow j hj).symm, h1⟩
/-- The list with so many ahead rises with the number. -/
theorem unrL_lex : ∀ (m : Nat) (left : List Nat) (k k' : Nat), left.length = m → left.Pairwise (· < ·) → k < k' → k' < fac m → LexLt m (fun i => (unrL m left k).getD i 0) (fun i => (unrL m left k').getD i 0)
  | 0, _, k, k', _, _, h1, h2 => by simp [fac] at h2; omega
  | m + 1, left, k, k', hl, hp, h1, h2 => by
    have hq := div_fac h2
    have hq0 : k / fac m ≤ k' / fac m := Nat.div_le_div_right (Nat.le_of_lt h1)
    by_cases e : k / fac m = k' / fac m
    · have hm : k % fac m < k' % fac m := by
        have a := Nat.div_add_mod k (fac m)
        have b := Nat.div_add_mod k' (fac m)
        rw [e] at a
        omega
      obtain ⟨i, hi, h3, h4⟩ := unrL_lex m (left.eraseIdx (k' / fac m)) (k % fac m) (k' % fac m) (by rw [List.length_eraseIdx, if_pos (by omega)]; omega) (hp.sublist (List.eraseIdx_sublist _ _)) hm (mod_fac k' m)
      refine ⟨i + 1, by omega, fun j hj => ?_, ?_⟩
      · cases j with
        | zero => simp only [unrL]; rw [e]; rfl
        | succ j =>
          simp only [unrL]
          rw [e]
          exact h3 j (by omega)
      · simp only [unrL]
        rw [e]
        exact h4
    · refine ⟨0, by omega, fun j hj => by omega, ?_⟩
      simp only [unrL]
      have hlt : k / fac m < k' / fac m := by omega
      have hb : k' / fac m < left.length := by omega
      have := List.pairwise_iff_getElem.1 hp _ _ (by omega : k / fac m < left.length) hb hlt
      simpa [List.getD_eq_getElem?_getD, hb, show k / fac m < left.length by omega] using this
theorem unr_lex {n k k' : Nat} (h : k < k') (h' : k' < fac n) : LexLt n (fun i => (unr n k).getD i 0) (fun i => (unr n k').getD i 0) :=
  unrL_lex n (List.range n) k k' (by simp) List.pairwise_lt_range h h'
open Classical in
theorem els_lex (n : Nat) (G : List Nat → Prop) : (els n G).Pairwise fun a b => LexLt n (fun i => a.getD i 0) (fun i => b.getD i 0) := by
  unfold els
  refine List.Pairwise.filter _ ?_
  rw [List.pairwise_map]
  exact List.Pairwise.imp_of_mem (fun {a b} ha hb hab => unr_lex hab (List.mem_range.1 hb)) List.pairwise_lt_range
theorem ext_lex {n : Nat} {a b : List Nat} (hn : n ≤ 7) (h : LexLt n (fun i => a.getD i 0) (fun i => b.getD i 0)) : LexLt 7 (fun i => (ext n a).getD i 0) (fun i => (ext n b).getD i 0) := by
  obtain ⟨i, hi, h1, h2⟩ := h
  refine ⟨i, by omega, fun j hj => ?_, ?_⟩
  · show (ext n a).getD j 0 = (ext n b).getD j 0
    rw [ext_lo hn a (by omega), ext_lo hn b (by omega)]; exact h1 j hj
  · show (ext n a).getD i 0 < (ext n b).getD i 0
    rw [ext_lo hn a hi, ext_lo hn b hi]; exact h2

/-- Compared from a place on, so many places. -/
def lexc (f g : Nat → Nat) : Nat → Nat → Int
  | 0, _ => 0
  | k + 1, j => if f j < g j then -1 else if g j < f j then 1 else lexc f g k (j + 1)
theorem lexc_neg {f g : Nat → Nat} : ∀ k j, lexc f g k j < 0 ↔ ∃ i, j ≤ i ∧ i < j + k ∧ (∀ t, j ≤ t → t < i → f t = g t) ∧ f i < g i
  | 0, j => by
    unfold lexc
    exact ⟨fun h => by omega, fun ⟨i, h1, h2, _⟩ => by omega⟩
  | k + 1, j => by
    unfold lexc
    by_cases h1 : f j < g j
    · rw [if_pos h1]
      exact ⟨fun _ => ⟨j, Nat.le_refl _, by omega, fun t h2 h3 => by omega, h1⟩, fun _ => by omega⟩
    · rw [if_neg h1]
      by_cases h2 : g j < f j
      · rw [if_pos h2]
        refine ⟨fun h => by omega, fun ⟨i, h3, h4, h5, h6⟩ => ?_⟩
        by_cases e : i = j
        · subst e; omega
        · have := h5 j (Nat.le_refl _) (by omega); omega
      · rw [if_neg h2, lexc_neg k (j + 1)]
        constructor
        · rintro ⟨i, h3, h4, h5, h6⟩
          refine ⟨i, by omega, by omega, fun t h7 h8 => ?_, h6⟩
          by_cases e : t = j
          · subst e; omega
          · exact h5 t (by omega) h8
        · rintro ⟨i, h3, h4, h5, h6⟩
          have hne : i ≠ j := fun e => by subst e; omega
          exact ⟨i, by omega, by omega, fun t h7 h8 => h5 t (by omega) h8, h6⟩
theorem lexc_iff {f g : Nat → Nat} {m : Nat} : lexc f g m 0 < 0 ↔ LexLt m f g := by
  rw [lexc_neg]
  exact ⟨fun ⟨i, _, h2, h3, h4⟩ => ⟨i, by omega, fun t ht => h3 t (by omega) ht, h4⟩, fun ⟨i, h2, h3, h4⟩ => ⟨i, by omega, by omega, fun t _ ht => h3 t ht, h4⟩⟩
/-- Two lists of the same ones, both in order, are one. -/
theorem lex_sorted_eq {A B : List (List Nat)} (hp : A.Perm B) (hl : ∀ a ∈ A, a.length = 7) (hA : A.Pairwise fun a b => ¬ LexLt 7 (fun i => b.getD i 0) (fun i => a.getD i 0)) (hB : B.Pairwise fun a b => ¬ LexLt 7 (fun i => b.getD i 0) (fun i => a.getD i 0)) : A = B := by
  refine List.Perm.eq_of_pairwise (le := fun a b => ¬ LexLt 7 (fun i => b.getD i 0) (fun i => a.getD i 0)) (fun a b ha hb h1 h2 => ?_) hA hB hp
  have hb' : b ∈ A := hp.mem_iff.2 hb
  exact isP_ext (hl a ha) (hl b hb') (lex_total h2 h1)

end Go.Proofs.Ytmaplmgecohjbaa
