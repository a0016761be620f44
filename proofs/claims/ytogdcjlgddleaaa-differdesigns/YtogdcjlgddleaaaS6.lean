/- Arrays of truths compared. -/
import Derived.Test.YtogdcjlgddleaaaS5
import Derived.Laws.StructEq
import Derived.DeepKeys4
namespace Go.Proofs.Ytogdcjlgddleaaa
open Go.RowKit Go.Maps

theorem mapM_is {α β : Type} {h : α → Option β} {k : α → β} : ∀ {l : List α}, (∀ a ∈ l, h a = some (k a)) → l.mapM h = some (l.map k)
  | [], _ => rfl
  | a :: l, H => by
    rw [List.mapM_cons, H a (by simp), mapM_is (l := l) fun b hb => H b (by simp [hb])]
    rfl
theorem laidOutS : laidOutB Try.prog = true := by kernel_rfl
theorem keyedB : Keyed Try.prog 50 :=
  Keyed.of_law (deep_law_laid laidOutS (m := 2) (by omega) (of_decide_eq_true (by kernel_rfl)) (by kernel_rfl) (by rw [undB]))
theorem cellsB : Try.prog.cellsOf 50 = 60 := by kernel_rfl
theorem cells4' : Try.prog.cellsOf 4 = 1 := by kernel_rfl
theorem keyTypeB : Try.prog.keyType 50 = true := by kernel_rfl
theorem und4' : Try.prog.underlying 4 = some .bool := by kernel_rfl
theorem key_zrow (f : Nat → Bool) : ∃ kl, keyOf Try.prog 50 (.agg (zrow f)) = some kl := by
  unfold keyOf
  rw [undB]
  have hfm : (Value.agg (zrow f)).formed Try.prog 50 = true := by simp [Value.formed, cellsB]
  simp only [keyTypeB, hfm, Bool.and_self, if_true]
  have h3 : ∀ (d : Nat) (n : Bool), Try.prog.keyLits (d + 1) 4 [.bool n] = some [.bool n] := by
    intro d n
    unfold Program.keyLits
    rw [und4']
  have hl : (Value.agg (zrow f)).cells.toList = (List.range 60).map fun j => Value.bool (f j) := by simp [Value.cells, zrow]
  rw [hl]
  have hmain : ∀ m, ∃ r, Try.prog.keyLits (m + 1 + 1) 50 ((List.range 60).map fun j => Value.bool (f j)) = some r := by
    intro m
    unfold Program.keyLits
    rw [undB]
    simp only [cellsB, cells4', List.length_map, List.length_range, if_true]
    rw [mapM_is (k := fun i => [Lit.bool (f i)]) fun i hi => ?_]
    · exact ⟨_, rfl⟩
    · rw [← h3 m]
      congr 1
      have hi' := List.mem_range.1 hi
      rw [Nat.mul_one, List.take_one, List.head?_drop, List.getElem?_map, List.getElem?_range hi']
      rfl
  obtain ⟨m, hm⟩ : ∃ m, Try.prog.types.size = m + 1 := ⟨Try.prog.types.size - 1, by have : 0 < Try.prog.types.size := of_decide_eq_true (by kernel_rfl); omega⟩
  rw [hm]
  obtain ⟨r, hr⟩ := hmain m
  rw [hr]
  exact ⟨_, rfl⟩
theorem eqB (f g : Nat → Bool) : ∃ r : Bool, (∀ w, (Op.equalIn 10000 50 (.agg (zrow f)) (.agg (zrow g))).run Try.prog w = .ok r w) ∧ r = (List.range 60).all fun x => f x == g x := by
  obtain ⟨lf, h1⟩ := key_zrow f
  obtain ⟨lg, h2⟩ := key_zrow g
  have key : ∀ w, (Op.equalIn 10000 50 (.agg (zrow f)) (.agg (zrow g))).run Try.prog w = .ok ((List.range 60).all fun x => f x == g x) w := fun w => by
    obtain ⟨r, h3, h4⟩ := run_equal_deep w (m := 2) (by omega) (show Try.prog.keyTypeAt 2 50 = true by kernel_rfl) (by rw [undB]) h1 h2
    refine Eq.trans h3 ?_
    congr 1
    rw [Bool.eq_iff_iff, h4, List.all_eq_true]
    constructor
    · intro e x hx
      subst e
      have h5 := keyedB.inj h1 h2
      simp only [Value.agg.injEq] at h5
      rw [beq_iff_eq]
      exact zrow_inj h5 (List.mem_range.1 hx)
    · intro e
      rw [zrow_congr (f := f) (g := g) fun j hj => eq_of_beq (e j (List.mem_range.2 hj)), h2] at h1
      simpa using h1.symm
  exact ⟨_, key, rfl⟩

end Go.Proofs.Ytogdcjlgddleaaa
