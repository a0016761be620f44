/- Rows of 7 numbers, compared. -/
import Derived.Test.YtnbkabggmomhlaaGK
import Derived.Test.YtnbkabggmomhlaaG66
import Derived.Laws.StructEq
namespace Go.Proofs.Ytnbkabggmomhlaa
open Go.RowKit Go.Maps

theorem keyed69 : Keyed Try.prog 69 :=
  Keyed.of_law (deep_law_laid laidOutG (m := 2) (by omega) (of_decide_eq_true (by kernel_rfl)) (by kernel_rfl) (by rw [und69]))
theorem cells69 : Try.prog.cellsOf 69 = 7 := by kernel_rfl
theorem keyType69 : Try.prog.keyType 69 = true := by kernel_rfl
theorem key_mrow69 (f : Nat → Int) (hf : ∀ j, j < 7 → (Lit.int .i64 (f j)).wf = true) : ∃ kl, keyOf Try.prog 69 (.agg (mrow f)) = some kl := by
  unfold keyOf
  rw [und69]
  have hfm : (Value.agg (mrow f)).formed Try.prog 69 = true := by simp [Value.formed, cells69]
  simp only [keyType69, hfm, Bool.and_self, if_true]
  have h3 : ∀ (d : Nat) (n : Int), (Lit.int .i64 n).wf = true → Try.prog.keyLits (d + 1) 3 [.int .i64 n] = some [.int .i64 n] := by
    intro d n hn
    unfold Program.keyLits
    rw [und3]
    simp [hn]
  have hl : (Value.agg (mrow f)).cells.toList = (List.range 7).map fun j => Value.int .i64 (f j) := by simp [Value.cells, mrow]
  rw [hl]
  have hmain : ∀ m, Try.prog.keyLits (m + 1 + 1) 69 ((List.range 7).map fun j => Value.int .i64 (f j)) = some ((List.range 7).map fun j => Lit.int .i64 (f j)) := by
    intro m
    unfold Program.keyLits
    rw [und69]
    simp only [cells69, cells3', List.length_map, List.length_range, if_true]
    simp [List.range_succ, h3 _ _ (hf 0 (by omega)), h3 _ _ (hf 1 (by omega)), h3 _ _ (hf 2 (by omega)), h3 _ _ (hf 3 (by omega)), h3 _ _ (hf 4 (by omega)), h3 _ _ (hf 5 (by omega)), h3 _ _ (hf 6 (by omega))]
  obtain ⟨m, hm⟩ := types_pos
  rw [hm, hmain m]
  exact ⟨_, rfl⟩
theorem eq_rows {T : Nat} (hK : Keyed Try.prog T) (ht : Try.prog.keyTypeAt 2 T = true) (hu : Try.prog.underlying T = some (.array 7 3))
    (hk : ∀ f : Nat → Int, (∀ j, j < 7 → (Lit.int .i64 (f j)).wf = true) → ∃ kl, keyOf Try.prog T (.agg (mrow f)) = some kl)
    (f g : Nat → Int) (hf : ∀ j, j < 7 → 0 ≤ f j ∧ f j < 7) (hg : ∀ j, j < 7 → 0 ≤ g j ∧ g j < 7) (w : World) :
    ∃ r : Bool, (Op.equalIn 10000 T (.agg (mrow f)) (.agg (mrow g))).run Try.prog w = .ok r w ∧ (r = true ↔ ∀ j, j < 7 → f j = g j) := by
  obtain ⟨lf, h1⟩ := hk f fun j hj => WalkArith.wf_i64 (by have := hf j hj; omega)
  obtain ⟨lg, h2⟩ := hk g fun j hj => WalkArith.wf_i64 (by have := hg j hj; omega)
  obtain ⟨r, h3, h4⟩ := run_equal_deep w (m := 2) (by omega) ht (by rw [hu]) h1 h2
  refine ⟨r, h3, h4.trans ⟨fun e j hj => ?_, fun e => ?_⟩⟩
  · subst e
    have h5 := hK.inj h1 h2
    simp only [Value.agg.injEq] at h5
    exact mrow_inj h5 hj
  · rw [mrow_congr e, h2] at h1
    simpa using h1.symm
theorem eq62 (f g : Nat → Int) (hf : ∀ j, j < 7 → 0 ≤ f j ∧ f j < 7) (hg : ∀ j, j < 7 → 0 ≤ g j ∧ g j < 7) (w : World) :
    ∃ r : Bool, (Op.equalIn 10000 62 (.agg (mrow f)) (.agg (mrow g))).run Try.prog w = .ok r w ∧ (r = true ↔ ∀ j, j < 7 → f j = g j) :=
  eq_rows keyed62 (by kernel_rfl) und62 key_mrow f g hf hg w
theorem eq69 (f g : Nat → Int) (hf : ∀ j, j < 7 → 0 ≤ f j ∧ f j < 7) (hg : ∀ j, j < 7 → 0 ≤ g j ∧ g j < 7) (w : World) :
    ∃ r : Bool, (Op.equalIn 10000 69 (.agg (mrow f)) (.agg (mrow g))).run Try.prog w = .ok r w ∧ (r = true ↔ ∀ j, j < 7 → f j = g j) :=
  eq_rows keyed69 (by kernel_rfl) und69 key_mrow69 f g hf hg w
/-- The same in every world. -/
theorem eq_ever {T : Nat} {f g : Nat → Int} (h : ∀ w, ∃ r : Bool, (Op.equalIn 10000 T (.agg (mrow f)) (.agg (mrow g))).run Try.prog w = .ok r w ∧ (r = true ↔ ∀ j, j < 7 → f j = g j)) :
    ∃ r : Bool, (∀ w, (Op.equalIn 10000 T (.agg (mrow f)) (.agg (mrow g))).run Try.prog w = .ok r w) ∧ (r = true ↔ ∀ j, j < 7 → f j = g j) := by
  by_cases e : ∀ j, j < 7 → f j = g j
  · refine ⟨true, fun w => ?_, by simpa using e⟩
    obtain ⟨r, h1, h2⟩ := h w
    rw [h1, h2.2 e]
  · refine ⟨false, fun w => ?_, ⟨fun h => absurd h Bool.false_ne_true, fun h => absurd h e⟩⟩
    obtain ⟨r, h1, h2⟩ := h w
    have : r = false := by
      cases r with
      | false => rfl
      | true => exact absurd (h2.1 rfl) e
    rw [h1, this]

end Go.Proofs.Ytnbkabggmomhlaa
