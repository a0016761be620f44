/- Moves as keys of a map. -/
import Derived.Test.YtgpkhfpejopacabGreatDoorZGM
import Derived.Maps.OwnSet
import Derived.DeepKeys4
namespace Go.Proofs.YtgpkhfpejopacabGreatDoor.Gc
open Go.RowKit Go.Maps

set_option maxRecDepth 100000 in
theorem und76 : Tryz.prog.underlying 145 = some (.map 95 157) := by kernel_rfl
set_option maxRecDepth 100000 in
theorem laidOutG : laidOutB Tryz.prog = true := by kernel_rfl
set_option maxRecDepth 100000 in
theorem keyed62 : Keyed Tryz.prog 95 :=
  Keyed.of_law (deep_law_laid laidOutG (m := 2) (by omega) (of_decide_eq_true (by kernel_rfl)) (by kernel_rfl) (by rw [und62]))
set_option maxRecDepth 100000 in
theorem cells62 : Tryz.prog.cellsOf 95 = 7 := by kernel_rfl
set_option maxRecDepth 100000 in
theorem cells3' : Tryz.prog.cellsOf 3 = 1 := by kernel_rfl
set_option maxRecDepth 100000 in
theorem keyType62 : Tryz.prog.keyType 95 = true := by kernel_rfl
set_option maxRecDepth 100000 in
theorem types_pos : ∃ m, Tryz.prog.types.size = m + 1 := by
  have h : decide (0 < Tryz.prog.types.size) = true := by kernel_rfl
  have := of_decide_eq_true h
  exact ⟨Tryz.prog.types.size - 1, by omega⟩
set_option maxRecDepth 100000 in
theorem zero86 (w : World) : (zeroValue 157).run Tryz.prog w = .ok (.agg #[]) w := by kernel_rfl
set_option maxRecDepth 100000 in
theorem key_mrow (f : Nat → Int) (hf : ∀ j, j < 7 → (Lit.int .i64 (f j)).wf = true) : ∃ kl, keyOf Tryz.prog 95 (.agg (mrow f)) = some kl := by
  unfold keyOf
  rw [und62]
  have hfm : (Value.agg (mrow f)).formed Tryz.prog 95 = true := by simp [Value.formed, cells62]
  simp only [keyType62, hfm, Bool.and_self, if_true]
  have h3 : ∀ (d : Nat) (n : Int), (Lit.int .i64 n).wf = true → Tryz.prog.keyLits (d + 1) 3 [.int .i64 n] = some [.int .i64 n] := by
    intro d n hn
    unfold Program.keyLits
    rw [und3]
    simp [hn]
  have hl : (Value.agg (mrow f)).cells.toList = (List.range 7).map fun j => Value.int .i64 (f j) := by simp [Value.cells, mrow]
  rw [hl]
  have hmain : ∀ m, Tryz.prog.keyLits (m + 1 + 1) 95 ((List.range 7).map fun j => Value.int .i64 (f j)) = some ((List.range 7).map fun j => Lit.int .i64 (f j)) := by
    intro m
    unfold Program.keyLits
    rw [und62]
    simp only [cells62, cells3', List.length_map, List.length_range, if_true]
    simp [List.range_succ, h3 _ _ (hf 0 (by omega)), h3 _ _ (hf 1 (by omega)), h3 _ _ (hf 2 (by omega)), h3 _ _ (hf 3 (by omega)), h3 _ _ (hf 4 (by omega)), h3 _ _ (hf 5 (by omega)), h3 _ _ (hf 6 (by omega))]
  obtain ⟨m, hm⟩ := types_pos
  rw [hm, hmain m]
  exact ⟨_, rfl⟩
/-- The key of a move. -/
noncomputable def keyM (x : List Nat) : Lit := @Classical.epsilon Lit ⟨.bool false⟩ fun kl => keyOf Tryz.prog 95 (mv x) = some kl
def Small (x : List Nat) : Prop := x.length = 7 ∧ ∀ i, i < 7 → x.getD i 0 < 7
theorem IsP.small {x : List Nat} (h : IsP 7 x) : Small x := ⟨h.len, fun _ hi => h.at hi⟩
set_option maxRecDepth 100000 in
theorem keyM_of {x : List Nat} (h : Small x) : keyOf Tryz.prog 95 (mv x) = some (keyM x) := by
  obtain ⟨kl, e⟩ := key_mrow (fun j => (x.getD j 0 : Int)) (fun j hj => by
    have := h.2 j hj
    exact WalkArith.wf_i64 (by omega))
  exact @Classical.epsilon_spec_aux Lit ⟨.bool false⟩ (fun kl => keyOf Tryz.prog 95 (mv x) = some kl) ⟨kl, e⟩
theorem keyM_lit {x : List Nat} (h : Small x) : WideAt.IsKeyLit (keyM x) := keyed62.key (keyM_of h)
theorem keyM_inj {x y : List Nat} (hx : Small x) (hy : Small y) (e : keyM x = keyM y) : x = y :=
  mv_inj hx.1 hy.1 (keyed62.inj (keyM_of hx) (by rw [e]; exact keyM_of hy))
/-- The set of these moves. -/
noncomputable def setM (L : List (List Nat)) : DataW Unit := setOf (.agg []) (L.map keyM)
theorem setM_snoc (L : List (List Nat)) (x : List Nat) : setM (L ++ [x]) = (setM L).put (keyM x) (.agg []) := by
  unfold setM; rw [List.map_append]; exact setOf_snoc _ _ _
theorem has_setM {L : List (List Nat)} {x : List Nat} (hL : ∀ y ∈ L, Small y) (hx : Small x) : Maps.has (setM L) (keyM x) = decide (x ∈ L) := by
  unfold setM
  rw [has_setOf _ _ _ (fun k hk => by obtain ⟨y, hy, rfl⟩ := List.mem_map.1 hk; exact keyM_lit (hL y hy))]
  rw [Bool.eq_iff_iff, List.any_eq_true, decide_eq_true_iff]
  constructor
  · rintro ⟨k, hk, h⟩
    obtain ⟨y, hy, rfl⟩ := List.mem_map.1 hk
    by_cases e : keyM y = keyM x
    · rw [← keyM_inj (hL y hy) hx e]; exact hy
    · rw [sameKey_ne e] at h; cases h
  · intro h
    exact ⟨keyM x, List.mem_map.2 ⟨x, h, rfl⟩, WideAt.sameKey_self (keyM_lit hx)⟩

end Go.Proofs.YtgpkhfpejopacabGreatDoor.Gc
