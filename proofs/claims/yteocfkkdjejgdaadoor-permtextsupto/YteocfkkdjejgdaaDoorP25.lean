/- The walks of Unrank and PermOfRank. -/
import Derived.Test.YteocfkkdjejgdaaDoorP38
namespace Go.Proofs.YteocfkkdjejgdaaDoor
open Go.RowKit

theorem und52 : Tryd.prog.underlying 37 = some (.slice 4) := by kernel_rfl
theorem info4 : ∃ i, Tryd.prog.info? 4 = some i ∧ i.zero = some (.bool false) ∧ i.size = 1 ∧ i.bytes = 1 := by
  have h1 : (Tryd.prog.info? 4).map (·.zero) = some (some (.bool false)) := by kernel_rfl
  have h2 : (Tryd.prog.info? 4).map (·.size) = some 1 := by kernel_rfl
  have h3 : (Tryd.prog.info? 4).map (·.bytes) = some 1 := by kernel_rfl
  match h : Tryd.prog.info? 4 with
  | none => rw [h] at h1; simp at h1
  | some i =>
    rw [h] at h1 h2 h3
    simp only [Option.map_some, Option.some.injEq] at h1 h2 h3
    exact ⟨i, rfl, h1, h2, h3⟩
/-- A row of truths of the call's own. -/
def OwnB (w : World) (g n : Nat) (f : Nat → Bool) : Prop := ∃ cur, w.heap[g]? = some (.cells cur 4 (0, 0)) ∧ ∀ j, j < n → cur[j]? = some (.bool (f j))
theorem OwnB.lt {w : World} {g n : Nat} {f : Nat → Bool} (h : OwnB w g n f) : g < w.heap.size := by
  obtain ⟨cur, h, _⟩ := h
  exact (Array.getElem?_eq_some_iff.1 h).1
theorem OwnB.cell {w : World} {g n : Nat} {f : Nat → Bool} (h : OwnB w g n f) (j : Nat) (hj : j < n) : w.cell? ⟨g, j, none⟩ = some (.bool (f j)) := by
  obtain ⟨cur, h, hc⟩ := h
  rw [cell_of_row w g j _ _ _ h, hc j hj]
theorem OwnB.frozen {w : World} {g n : Nat} {f : Nat → Bool} (h : OwnB w g n f) (j : Nat) : w.frozen? ⟨g, j, none⟩ = false := by
  obtain ⟨cur, h, _⟩ := h
  exact frozen_of_row w g j _ _ h
theorem OwnB.set {w : World} {g n : Nat} {f : Nat → Bool} (h : OwnB w g n f) (i : Nat) : OwnB (w.setCell ⟨g, i, none⟩ (.bool true)) g n (upU f i) := by
  obtain ⟨cur, h, hc⟩ := h
  refine ⟨_, heap_setCell_same w g i _ _ _ h, fun j hj => ?_⟩
  have hcj := hc j hj
  rw [Array.getElem?_setIfInBounds]
  unfold upU
  by_cases e : i = j
  · subst e
    rw [if_pos rfl, if_pos rfl, if_pos (Array.getElem?_eq_some_iff.1 hcj).1]
  · rw [if_neg e, if_neg (fun h => e h.symm), hcj]
theorem OwnB.below {w w' : World} {g n B : Nat} {f : Nat → Bool} (h : OwnB w g n f) (hb : Below B w w') (hB : g < B) : OwnB w' g n f := by
  obtain ⟨cur, h, hc⟩ := h
  exact ⟨cur, (hb.block g hB).trans h, hc⟩
theorem ownB_made {w : World} {base g n : Nat} (h : w.ownsRow base 4 1 (.slice (some ⟨g, 0, none⟩) n n) n (madeCells #[Value.bool false] n).toList) : OwnB w g n (fun _ => false) := by
  obtain ⟨_, ⟨h1, _⟩ | ⟨g', cap, cur, e, hb, hg, h2, h3, h4, ht⟩⟩ := h
  · cases h1
  · cases e
    refine ⟨cur, hg, fun j hj => ?_⟩
    have e2 : (cur.toList.take (n * 1))[j]? = ((madeCells #[Value.bool false] n).toList)[j]? := by rw [ht]
    rw [List.getElem?_take, if_pos (by omega)] at e2
    rw [← Array.getElem?_toList, e2]
    simp [madeCells, hj, Nat.mod_one]

theorem Unrank_n (n k : Int) (w : World) (h : n < 0 ∨ 12 < n) :
    Calls Tryd.prog 13 #[.int .i64 n, .int .i64 k] w fun e w' => e = .returned (.tuple #[.slice none 0 0, .int .i64 1]) ∧ Below w.heap.size w w' := by
  by_cases h1 : n < 0
  · have hd : decide (n < 0) = true := by simpa using h1
    go_enter Tryd.func13, Tryd.ntmps13
    go_wp2
    exact bodyPost_ret (v := .tuple #[.slice none 0 0, .int .i64 1]) (by simp [results, Tryd.results13, go_sem]) rfl ⟨rfl, Below.refl _ _⟩
  · have hd : decide (n < 0) = false := by simpa using h1
    have hd2 : decide (12 < n) = true := by simp; omega
    clear h
    go_enter Tryd.func13, Tryd.ntmps13
    go_wp2
    exact bodyPost_ret (v := .tuple #[.slice none 0 0, .int .i64 1]) (by simp [results, Tryd.results13, go_sem]) rfl ⟨rfl, Below.refl _ _⟩
theorem Unrank_k (n : Nat) (k : Int) (w : World) (hn : n ≤ 12) (h : k < 0 ∨ (fac n : Int) ≤ k) :
    Calls Tryd.prog 13 #[.int .i64 (n : Int), .int .i64 k] w fun e w' => e = .returned (.tuple #[.slice none 0 0, .int .i64 1]) ∧ Below w.heap.size w w' := by
  have C := fun A => orders_any n A hn
  obtain ⟨z, Hz⟩ : ∃ z, Hid (fac n = z) := ⟨_, rfl⟩
  rw [Hz.out] at h C
  have hd0 : decide ((n : Int) < 0) = false := decide_eq_false (by omega)
  have hd1 : decide (12 < (n : Int)) = false := decide_eq_false (by omega)
  by_cases h1 : k < 0
  · have hd : decide (k < 0) = true := by simpa using h1
    go_enter Tryd.func13, Tryd.ntmps13
    go_wp2_with (first
      | (go_at_call 21; refine (C _).mono ?_; rintro e w1 ⟨rfl, hw⟩; replace hw := hw.symm; subst hw))
    all_goals exact bodyPost_ret (v := .tuple #[.slice none 0 0, .int .i64 1]) (by simp [results, Tryd.results13, go_sem]) rfl ⟨rfl, Below.refl _ _⟩
  · have hd : decide (k < 0) = false := by simpa using h1
    have h2 : (z : Int) ≤ k := by omega
    have hd2 : decide ((z : Int) ≤ k) = true := by simpa using h2
    clear h
    go_enter Tryd.func13, Tryd.ntmps13
    go_wp2_with (first
      | (go_at_call 21; refine (C _).mono ?_; rintro e w1 ⟨rfl, hw⟩; replace hw := hw.symm; subst hw))
    all_goals exact bodyPost_ret (v := .tuple #[.slice none 0 0, .int .i64 1]) (by simp [results, Tryd.results13, go_sem]) rfl ⟨rfl, Below.refl _ _⟩
theorem Unrank_ok (n k : Nat) (w : World) (hn : n ≤ 12) (hk : k < fac n) :
    Calls Tryd.prog 13 #[.int .i64 (n : Int), .int .i64 (k : Int)] w fun e w' => ∃ x, e = .returned (.tuple #[x, .int .i64 0]) ∧ Sl w' x ((unrL n (List.range n) k).map Int.ofNat) ∧ Below w.heap.size w w' := by
  have C := fun A => orders_any n A hn
  have C2 := fun A => unrank_any n k A hn hk
  obtain ⟨goal, Hgoal⟩ : ∃ g, Hid (unrL n (List.range n) k = g) := ⟨_, rfl⟩
  rw [Hgoal.out] at C2 ⊢
  obtain ⟨z, Hz⟩ : ∃ z, Hid (fac n = z) := ⟨_, rfl⟩
  rw [Hz.out] at hk C
  have hd0 : decide ((n : Int) < 0) = false := decide_eq_false (by omega)
  have hd1 : decide (12 < (n : Int)) = false := decide_eq_false (by omega)
  have hd2 : decide ((k : Int) < 0) = false := decide_eq_false (by omega)
  have hd3 : decide ((z : Int) ≤ (k : Int)) = false := decide_eq_false (by omega)
  go_enter Tryd.func13, Tryd.ntmps13
  go_wp2_with (first
    | (go_at_call 21; refine (C _).mono ?_; rintro e w1 ⟨rfl, hw⟩; replace hw := hw.symm; subst hw)
    | (go_at_call 22; refine (C2 _).mono ?_; rintro e w2 ⟨x, rfl, hx, hb2⟩))
  exact bodyPost_ret (v := .tuple #[x, .int .i64 0]) (by simp [results, Tryd.results13, go_sem]) rfl ⟨x, rfl, hx, hb2⟩

end Go.Proofs.YteocfkkdjejgdaaDoor
