/- The walk of Grow. -/
import Derived.Test.YtgpkhfpejopacabGreatDoorDCo
import Derived.Test.YtgpkhfpejopacabGreatDoorDPart
import Derived.Test.YtgpkhfpejopacabGreatDoorA1
import Derived.Test.YtgpkhfpejopacabGreatDoorTGr
import Derived.Test.YtgpkhfpejopacabGreatDoorE5
import Derived.Test.YtgpkhfpejopacabGreatDoorDGo
import Derived.Test.YtgpkhfpejopacabGreatDoorTPas
import Derived.Test.YtgpkhfpejopacabGreatDoorB5
/- The walk of the document's DualOf. -/
namespace Go.Proofs.YtgpkhfpejopacabGreatDoor
open Go.RowKit

/-- The blocks that have a point. -/
def dz (B : List (List Nat)) (x : Nat) : List Nat := (List.range B.length).filter fun i => (B.getD i []).contains x
set_option maxRecDepth 100000 in
theorem post_d2 {fn : Func} {R : Ending → World → Prop} {a : Act} {w : World} {g : Nat} {x y z : Value} (slot u : Tmp) (hres : fn.results = #[.cell slot 25, .tmp u]) (hp : a.tmps.getD slot undef = .pointer (some ⟨g, 0, none⟩)) (hr : w.heap[g]? = some (.cells #[x, y] 25 (0, 0))) (hu : a.tmps.getD u undef = z) (hd : a.defers = []) (hR : R (.returned (.tuple #[.agg #[x, y], z])) w) : bodyPost Tryz.prog fn R .ret a w := by
  refine bodyPost_ret (v := .tuple #[.agg #[x, y], z]) ?_ hd hR
  rw [results_cell_tmp hres, hp, hu]
  have h1 : (asAddr (.pointer (some ⟨g, 0, none⟩))).run Tryz.prog w = .ok ⟨g, 0, none⟩ w := by simp [asAddr]
  rw [h1]
  show ((loadVar 25 ⟨g, 0, none⟩).run Tryz.prog w).andThen _ = _
  rw [run_loadVar_row w g 25 25 #[x, y] (0, 0) _ hr Tryz.underlying25 rfl inf24]
  rfl
end Go.Proofs.YtgpkhfpejopacabGreatDoor

/- What is wrong with blocks that shall be grown; the walk of checkTriple. -/
/- The walk of fill. -/
/- The grower's box, and the walk of mark. -/
namespace Go.Proofs.YtgpkhfpejopacabGreatDoor
open Go.RowKit

def gR (v : Nat) (T : Nat → Bool) : List Value := .int .i64 (v : Int) :: (List.range 81).map fun i => .bool (T i)
def Bx (w : World) (gb v : Nat) (u : Value) (T : Nat → Bool) : Prop := w.heap[gb]? = some (.cells (u :: gR v T).toArray 65 (0, 0))
theorem gR_congr {v : Nat} {T T' : Nat → Bool} (h : ∀ i, i < 81 → T i = T' i) : gR v T = gR v T' := by
  unfold gR
  rw [List.map_congr_left fun i hi => by rw [h i (List.mem_range.1 hi)]]
theorem Bx.cell {w : World} {gb v : Nat} {u : Value} {T : Nat → Bool} (h : Bx w gb v u T) {i : Nat} (hi : i < 81) : w.cell? ⟨gb, 2 + i, none⟩ = some (.bool (T i)) := by
  rw [cell_of_row _ _ _ _ _ _ h, List.getElem?_toArray, Nat.add_comm, List.getElem?_cons_succ]
  unfold gR
  rw [List.getElem?_cons_succ, List.getElem?_map, List.getElem?_range hi]
  rfl
theorem Bx.pts {w : World} {gb v : Nat} {u : Value} {T : Nat → Bool} (h : Bx w gb v u T) : w.cell? ⟨gb, 1, none⟩ = some (.int .i64 (v : Int)) := by
  rw [cell_of_row _ _ _ _ _ _ h]; rfl
theorem Bx.list {w : World} {gb v : Nat} {u : Value} {T : Nat → Bool} (h : Bx w gb v u T) : w.cell? ⟨gb, 0, none⟩ = some u := by
  rw [cell_of_row _ _ _ _ _ _ h]; rfl
theorem Bx.frozen {w : World} {gb v : Nat} {u : Value} {T : Nat → Bool} (h : Bx w gb v u T) (i : Nat) : w.frozen? ⟨gb, i, none⟩ = false := frozen_of_row _ _ _ _ _ h
theorem Bx.set {w : World} {gb v : Nat} {u : Value} {T : Nat → Bool} (h : Bx w gb v u T) {i : Nat} (t : Bool) (hi : i < 81) : Bx (w.setCell ⟨gb, 2 + i, none⟩ (.bool t)) gb v u (fun j => if j = i then t else T j) := by
  have h6 := heap_setCell_same w gb (2 + i) _ 65 (.bool t) h
  unfold Bx
  rw [h6]
  congr 2
  rw [List.setIfInBounds_toArray]
  congr 1
  rw [show 2 + i = i + 1 + 1 by omega, List.set_cons_succ]
  unfold gR
  rw [List.set_cons_succ]
  congr 2
  apply List.ext_getElem?
  intro j
  rw [List.getElem?_set, List.getElem?_map, List.getElem?_map]
  by_cases hj : j < 81
  · rw [List.getElem?_range hj]
    by_cases e : i = j
    · subst e; simp [hi]
    · have e' : ¬ j = i := fun h => e h.symm
      simp [e, e']
  · rw [List.getElem?_eq_none (by simp; omega)]
    by_cases e : i = j
    · omega
    · simp [e]
theorem Bx.drew {w : World} {gb v : Nat} {u : Value} {T : Nat → Bool} (h : Bx w gb v u T) : Bx w.drew gb v u T := h
/-- All blocks but one are as they were. -/
def Ex (gb : Nat) (w w' : World) : Prop := Below gb w w' ∧ w'.heap.size = w.heap.size ∧ ∀ k, k ≠ gb → w'.heap[k]? = w.heap[k]?
theorem Ex.refl (gb : Nat) (w : World) : Ex gb w w := ⟨Below.refl _ _, rfl, fun _ _ => rfl⟩
theorem Ex.set {gb : Nat} {w w' : World} (h : Ex gb w w') (i : Nat) (v : Value) : Ex gb w (w'.setCell ⟨gb, i, none⟩ v) := ⟨h.1.setCell (p := ⟨gb, i, none⟩) (Nat.le_refl _) _, by simp [h.2.1], fun k hk => (heap_setCell_other w' ⟨gb, i, none⟩ k _ hk).trans (h.2.2 k hk)⟩
theorem Ex.drew {gb : Nat} {w w' : World} (h : Ex gb w w') : Ex gb w w'.drew := ⟨h.1.drew, h.2.1, h.2.2⟩
theorem Ex.kp {base gb : Nat} {w w' : World} (h : Ex gb w w') : Kp base gb w w' := ⟨h.1, fun k _ hk => h.2.2 k hk⟩
set_option maxRecDepth 100000 in
set_option maxHeartbeats 8000000 in
theorem mark_any (gb v x y z : Nat) (t : Bool) (u : Value) (T : Nat → Bool) (w : World) (h : Bx w gb v u T) (hx : x < 9) (hy : y < 9) (hz : z < 9) :
    Calls Tryz.prog 71 #[.pointer (some ⟨gb, 0, none⟩), .int .i64 (x : Int), .int .i64 (y : Int), .int .i64 (z : Int), .bool t] w fun e w' => e = .returned (.tuple #[]) ∧ Bx w' gb v u (up3 T (9 * x + y) (9 * x + z) (9 * y + z) t) ∧ Ex gb w w' := by
  have HBX : Hid (Bx w gb v u T) := h
  have a1 : ¬ (9 : Int) ≤ (x : Int) := by omega
  have a2 : ¬ (9 : Int) ≤ (y : Int) := by omega
  have a3 : ¬ (9 : Int) ≤ (z : Int) := by omega
  have e1 : 2 + (9 * x + y) = 2 + x * 9 + y := by omega
  have e2 : 2 + (9 * x + z) = 2 + x * 9 + z := by omega
  have e3 : 2 + (9 * y + z) = 2 + y * 9 + z := by omega
  have h1 := h.set (i := 9 * x + y) t (by omega)
  have h2 := h1.set (i := 9 * x + z) t (by omega)
  have h3 := h2.set (i := 9 * y + z) t (by omega)
  have f1 := h.frozen (2 + (9 * x + y))
  have c1 := h.cell (i := 9 * x + y) (by omega)
  have f2 := h.frozen (2 + (9 * x + z))
  have c2 := h1.cell (i := 9 * x + z) (by omega)
  have f3 := h.frozen (2 + (9 * y + z))
  have c3 := h2.cell (i := 9 * y + z) (by omega)
  have hx3 := ((((Ex.refl gb w).set (2 + (9 * x + y)) (.bool t)).set (2 + (9 * x + z)) (.bool t)).set (2 + (9 * y + z)) (.bool t)).drew
  have h4 : Bx (((w.setCell ⟨gb, 2 + (9 * x + y), none⟩ (.bool t)).setCell ⟨gb, 2 + (9 * x + z), none⟩ (.bool t)).setCell ⟨gb, 2 + (9 * y + z), none⟩ (.bool t)).drew gb v u (up3 T (9 * x + y) (9 * x + z) (9 * y + z) t) := by
    refine Eq.trans (h3 : _) ?_
    congr 4
    refine gR_congr fun i _ => ?_
    unfold up3
    by_cases k1 : i = 9 * x + y
    · simp [k1]
    · by_cases k2 : i = 9 * x + z
      · simp [k2]
      · by_cases k3 : i = 9 * y + z
        · simp [k3]
        · simp [k1, k2, k3]
  rw [e1, e2, e3] at h4 hx3
  rw [e1] at f1 c1 c2 c3
  rw [e2] at f2 c2 c3
  rw [e3] at f3 c3
  generalize up3 T (9 * x + y) (9 * x + z) (9 * y + z) t = T' at *
  have HFIN : Hid (_ ∧ _ ∧ _) := ⟨(rfl : Ending.returned (.tuple #[]) = .returned (.tuple #[])), h4, hx3⟩
  clear h h1 h2 h3 h4 hx3 e1 e2 e3
  go_enter Tryz.func71, Tryz.ntmps71
  go_wp2
  refine wp_region_noPanic ?_
  refine wp_region_held_drew (S := fun _ => True) (by kernel_rfl) (trivial) (fun hSx => ?_)
  refine wpAnyH_take (i := 0) (v := .pointer (some ⟨gb, 0, none⟩)) rfl (by kernel_rfl) (by kernel_rfl) (by kernel_rfl) (fun _ _ _ h => h) (Or.inl ⟨by rfl, fun w' hSw => by (try dsimp only at hSw); have hs0 := hSw; go_simp⟩) hSx ?_
  try simp only [Act.put, List.setIfInBounds_toArray]
  refine wpAnyH_take (i := 1) (v := .int .i64 (x : Int)) rfl (by kernel_rfl) (by kernel_rfl) (by kernel_rfl) (fun _ _ _ h => h) (Or.inl ⟨by rfl, fun w' hSw => by (try dsimp only at hSw); have hs0 := hSw; go_simp⟩) hSx ?_
  try simp only [Act.put]
  refine wpAnyH_take (i := 2) (v := .int .i64 (y : Int)) rfl (by kernel_rfl) (by kernel_rfl) (by kernel_rfl) (fun _ _ _ h => h) (Or.inl ⟨by rfl, fun w' hSw => by (try dsimp only at hSw); have hs0 := hSw; go_simp⟩) hSx ?_
  try simp only [Act.put]
  refine wpAnyH_take (i := 3) (v := .pointer (some ⟨gb, 0, none⟩)) rfl (by kernel_rfl) (by kernel_rfl) (by kernel_rfl) (fun _ _ _ h => h) (Or.inl ⟨by rfl, fun w' hSw => by (try dsimp only at hSw); have hs0 := hSw; go_simp⟩) hSx ?_
  try simp only [Act.put]
  refine wpAnyH_take (i := 4) (v := .int .i64 (x : Int)) rfl (by kernel_rfl) (by kernel_rfl) (by kernel_rfl) (fun _ _ _ h => h) (Or.inl ⟨by rfl, fun w' hSw => by (try dsimp only at hSw); have hs0 := hSw; go_simp⟩) hSx ?_
  try simp only [Act.put]
  refine wpAnyH_take (i := 5) (v := .int .i64 (z : Int)) rfl (by kernel_rfl) (by kernel_rfl) (by kernel_rfl) (fun _ _ _ h => h) (Or.inl ⟨by rfl, fun w' hSw => by (try dsimp only at hSw); have hs0 := hSw; go_simp⟩) hSx ?_
  try simp only [Act.put]
  refine wpAnyH_take (i := 6) (v := .pointer (some ⟨gb, 0, none⟩)) rfl (by kernel_rfl) (by kernel_rfl) (by kernel_rfl) (fun _ _ _ h => h) (Or.inl ⟨by rfl, fun w' hSw => by (try dsimp only at hSw); have hs0 := hSw; go_simp⟩) hSx ?_
  try simp only [Act.put]
  refine wpAnyH_take (i := 7) (v := .int .i64 (y : Int)) rfl (by kernel_rfl) (by kernel_rfl) (by kernel_rfl) (fun _ _ _ h => h) (Or.inl ⟨by rfl, fun w' hSw => by (try dsimp only at hSw); have hs0 := hSw; go_simp⟩) hSx ?_
  try simp only [Act.put]
  refine wpAnyH_take (i := 8) (v := .int .i64 (z : Int)) rfl (by kernel_rfl) (by kernel_rfl) (by kernel_rfl) (fun _ _ _ h => h) (Or.inl ⟨by rfl, fun w' hSw => by (try dsimp only at hSw); have hs0 := hSw; go_simp⟩) hSx ?_
  try simp only [Act.put]
  refine wpAnyH_take (i := 9) (v := .bool t) rfl (by kernel_rfl) (by kernel_rfl) (by kernel_rfl) (fun _ _ _ h => h) (Or.inl ⟨by rfl, fun w' hSw => by (try dsimp only at hSw); have hs0 := hSw; go_simp⟩) hSx ?_
  try simp only [Act.put]
  refine wpAnyH_take (i := 10) (v := .bool t) rfl (by kernel_rfl) (by kernel_rfl) (by kernel_rfl) (fun _ _ _ h => h) (Or.inl ⟨by rfl, fun w' hSw => by (try dsimp only at hSw); have hs0 := hSw; go_simp⟩) hSx ?_
  try simp only [Act.put]
  refine wpAnyH_take (i := 11) (v := .bool t) rfl (by kernel_rfl) (by kernel_rfl) (by kernel_rfl) (fun _ _ _ h => h) (Or.inl ⟨by rfl, fun w' hSw => by (try dsimp only at hSw); have hs0 := hSw; go_simp⟩) hSx ?_
  try simp only [Act.put]
  refine wpAnyH_take (i := 12) (v := .pointer (some ⟨gb, 0, none⟩)) rfl (by kernel_rfl) (by kernel_rfl) (by kernel_rfl) (fun _ _ _ h => h) (Or.inl ⟨by rfl, fun w' hSw => by (try dsimp only at hSw); have hs0 := hSw; go_simp⟩) hSx ?_
  try simp only [Act.put]
  refine wpAnyH_take (i := 13) (v := .pointer (some ⟨gb, 2, none⟩)) rfl (by kernel_rfl) (by kernel_rfl) (by kernel_rfl) (fun _ _ _ h => h) (Or.inl ⟨by rfl, fun w' hSw => by (try dsimp only at hSw); have hs0 := hSw; go_simp⟩) hSx ?_
  try simp only [Act.put]
  refine wpAnyH_take (i := 14) (v := .pointer (some ⟨gb, 2 + x * 9, none⟩)) rfl (by kernel_rfl) (by kernel_rfl) (by kernel_rfl) (fun _ _ _ h => h) (Or.inl ⟨by rfl, fun w' hSw => by (try dsimp only at hSw); have hs0 := hSw; go_simp⟩) hSx ?_
  try simp only [Act.put]
  refine wpAnyH_take (i := 15) (v := .pointer (some ⟨gb, 2 + x * 9 + y, none⟩)) rfl (by kernel_rfl) (by kernel_rfl) (by kernel_rfl) (fun _ _ _ h => h) (Or.inl ⟨by rfl, fun w' hSw => by (try dsimp only at hSw); have hs0 := hSw; go_simp⟩) hSx ?_
  try simp only [Act.put]
  refine wpAnyH_take (i := 17) (v := .pointer (some ⟨gb, 0, none⟩)) rfl (by kernel_rfl) (by kernel_rfl) (by kernel_rfl) (fun _ _ _ h => h) (Or.inl ⟨by rfl, fun w' hSw => by (try dsimp only at hSw); have hs0 := hSw; go_simp⟩) hSx ?_
  try simp only [Act.put]
  refine wpAnyH_take (i := 18) (v := .pointer (some ⟨gb, 2, none⟩)) rfl (by kernel_rfl) (by kernel_rfl) (by kernel_rfl) (fun _ _ _ h => h) (Or.inl ⟨by rfl, fun w' hSw => by (try dsimp only at hSw); have hs0 := hSw; go_simp⟩) hSx ?_
  try simp only [Act.put]
  refine wpAnyH_take (i := 19) (v := .pointer (some ⟨gb, 2 + x * 9, none⟩)) rfl (by kernel_rfl) (by kernel_rfl) (by kernel_rfl) (fun _ _ _ h => h) (Or.inl ⟨by rfl, fun w' hSw => by (try dsimp only at hSw); have hs0 := hSw; go_simp⟩) hSx ?_
  try simp only [Act.put]
  refine wpAnyH_take (i := 22) (v := .pointer (some ⟨gb, 0, none⟩)) rfl (by kernel_rfl) (by kernel_rfl) (by kernel_rfl) (fun _ _ _ h => h) (Or.inl ⟨by rfl, fun w' hSw => by (try dsimp only at hSw); have hs0 := hSw; go_simp⟩) hSx ?_
  try simp only [Act.put]
  refine wpAnyH_take (i := 23) (v := .pointer (some ⟨gb, 2, none⟩)) rfl (by kernel_rfl) (by kernel_rfl) (by kernel_rfl) (fun _ _ _ h => h) (Or.inl ⟨by rfl, fun w' hSw => by (try dsimp only at hSw); have hs0 := hSw; go_simp⟩) hSx ?_
  try simp only [Act.put]
  refine wpAnyH_take (i := 24) (v := .pointer (some ⟨gb, 2 + y * 9, none⟩)) rfl (by kernel_rfl) (by kernel_rfl) (by kernel_rfl) (fun _ _ _ h => h) (Or.inl ⟨by rfl, fun w' hSw => by (try dsimp only at hSw); have hs0 := hSw; go_simp⟩) hSx ?_
  try simp only [Act.put]
  refine wpAnyH_ready (rs := [16]) (by kernel_rfl) (by simp) ?_
  refine AllReadyH.cons rfl (fun J hJ => ?_) AllReadyH.nil
  go_simp
  refine hJ.out _ _ (trivial) (fun hSx => ?_)
  clear hJ J
  try simp only [Act.put, List.setIfInBounds_toArray, List.set_cons_zero, List.set_cons_succ]
  refine wpAnyH_take (i := 20) (v := .pointer (some ⟨gb, 2 + x * 9 + z, none⟩)) rfl (by kernel_rfl) (by kernel_rfl) (by kernel_rfl) (fun _ _ _ h => h) (Or.inl ⟨by rfl, fun w' hSw => by (try dsimp only at hSw); have hs0 := hSw; go_simp⟩) hSx ?_
  try simp only [Act.put, List.setIfInBounds_toArray]
  refine wpAnyH_ready (rs := [21]) (by kernel_rfl) (by simp) ?_
  refine AllReadyH.cons rfl (fun J hJ => ?_) AllReadyH.nil
  go_simp
  refine hJ.out _ _ (trivial) (fun hSx => ?_)
  clear hJ J
  try simp only [Act.put, List.setIfInBounds_toArray, List.set_cons_zero, List.set_cons_succ]
  refine wpAnyH_take (i := 25) (v := .pointer (some ⟨gb, 2 + y * 9 + z, none⟩)) rfl (by kernel_rfl) (by kernel_rfl) (by kernel_rfl) (fun _ _ _ h => h) (Or.inl ⟨by rfl, fun w' hSw => by (try dsimp only at hSw); have hs0 := hSw; go_simp⟩) hSx ?_
  try simp only [Act.put, List.setIfInBounds_toArray]
  refine wpAnyH_ready (rs := [26]) (by kernel_rfl) (by simp) ?_
  refine AllReadyH.cons rfl (fun J hJ => ?_) AllReadyH.nil
  go_simp
  refine hJ.out _ _ (trivial) (fun hSx => ?_)
  clear hJ J
  try simp only [Act.put, List.setIfInBounds_toArray, List.set_cons_zero, List.set_cons_succ]
  refine wpAnyH_done (by kernel_rfl) ?_ _
  refine NoPanic.normal ?_
  clear hSx
  go_wp2
  go_end0
  exact ⟨rfl, HFIN.out.2⟩

end Go.Proofs.YtgpkhfpejopacabGreatDoor

/- The walks of drop and lift. -/
/- The walks of lay, firstApart, drop. -/
namespace Go.Proofs.YtgpkhfpejopacabGreatDoor
open Go.RowKit

/-- The grower with these blocks. -/
def Gr (w : World) (base gb v : Nat) (L : List (List Nat)) : Prop := Lst w base gb 65 (gR v (tc L)) L
theorem Gr.bx {w : World} {base gb v : Nat} {L : List (List Nat)} (h : Gr w base gb v L) : ∃ u, Bx w gb v u (tc L) := by
  obtain ⟨u, h, _⟩ := h
  exact ⟨u, h⟩
theorem Gr.of {w w' : World} {base gb v : Nat} {T : Nat → Bool} {L : List (List Nat)} (h : Lst w base gb 65 (gR v T) L) (hx : Ex gb w w') (hb : ∀ u, Bx w gb v u T → Bx w' gb v u (tc L)) : Gr w' base gb v L := by
  obtain ⟨u, h1, h2, h3, h4⟩ := h
  exact ⟨u, hb u h1, h2.keep fun b hb _ => hx.2.2 b (by omega), h3, by rw [hx.2.1]; exact h4⟩
theorem Bx.tc {w : World} {gb v : Nat} {u : Value} {T T' : Nat → Bool} (h : Bx w gb v u T) (e : ∀ i, T i = T' i) : Bx w gb v u T' := by
  rw [show T' = T from funext fun i => (e i).symm]; exact h
set_option maxRecDepth 100000 in
set_option maxHeartbeats 8000000 in
theorem lay_any (base gb v x y z : Nat) (L : List (List Nat)) (w : World) (h : Gr w base gb v L) (h1 : x < y) (h2 : y < z) (h3 : z < 9) (hl : L.length ≤ 6000) :
    Calls Tryz.prog 26 #[.pointer (some ⟨gb, 0, none⟩), .int .i64 (x : Int), .int .i64 (y : Int), .int .i64 (z : Int)] w fun e w' =>
      (((cv L x y || cv L x z || cv L y z) = true ∧ e = .returned (.bool false) ∧ w' = w) ∨ ((cv L x y || cv L x z || cv L y z) = false ∧ e = .returned (.bool true) ∧ Gr w' base gb v (L ++ [[x, y, z]]) ∧ Kp base gb w w')) := by
  obtain ⟨u, hb⟩ := h.bx
  have c1 := hb.cell (i := 9 * x + y) (by omega)
  have c2 := hb.cell (i := 9 * x + z) (by omega)
  have c3 := hb.cell (i := 9 * y + z) (by omega)
  rw [tc_at h1 (by omega), show 2 + (9 * x + y) = 2 + x * 9 + y by omega] at c1
  rw [tc_at (by omega) h3, show 2 + (9 * x + z) = 2 + x * 9 + z by omega] at c2
  rw [tc_at h2 h3, show 2 + (9 * y + z) = 2 + y * 9 + z by omega] at c3
  have a1 : ¬ (9 : Int) ≤ (x : Int) := by omega
  have a2 : ¬ (9 : Int) ≤ (y : Int) := by omega
  have a3 : ¬ (9 : Int) ≤ (z : Int) := by omega
  have HADD : Hid (Calls Tryz.prog 70 #[.pointer (some ⟨gb, 0, none⟩), .int .i64 (x : Int), .int .i64 (y : Int), .int .i64 (z : Int)] w fun e w' => e = .returned (.tuple #[]) ∧ Lst w' base gb 65 (gR v (tc L)) (L ++ [[x, y, z]]) ∧ Kp base gb w w') := by
    have := add_any x y z base gb 65 (gR v (tc L)) L w h hl
    rw [s3_rise h1 h2] at this
    exact this
  have HMK : Hid (∀ (W : World) (u : Value), Bx W gb v u (tc L) → Calls Tryz.prog 71 #[.pointer (some ⟨gb, 0, none⟩), .int .i64 (x : Int), .int .i64 (y : Int), .int .i64 (z : Int), .bool true] W fun e w' => e = .returned (.tuple #[]) ∧ Bx w' gb v u (tc (L ++ [[x, y, z]])) ∧ Ex gb W w') := fun W u hW => by
    refine (mark_any gb v x y z true u (tc L) W hW (by omega) (by omega) h3).mono ?_
    rintro e w' ⟨rfl, hx, hE⟩
    exact ⟨rfl, hx.tc fun i => (tc_snoc h1 h2 h3 i).symm, hE⟩
  cases e1 : cv L x y <;> cases e2 : cv L x z <;> cases e3 : cv L y z
  case false.false.false =>
    rw [e1] at c1
    rw [e2] at c2
    rw [e3] at c3
    clear h hb
    go_enter Tryz.func26, Tryz.ntmps26
    go_wp2_with (first
      | (go_at_call 70; refine HADD.out.mono ?_; rintro e w1 ⟨rfl, hL, hK⟩; clear HADD; obtain ⟨u1, hB1⟩ : ∃ u, Bx w1 gb v u (tc L) := ⟨_, hL.choose_spec.1⟩; have HL1 : Hid (Lst w1 base gb 65 (gR v (tc L)) (L ++ [[x, y, z]])) := hL; have HB1 : Hid (Bx w1 gb v u1 (tc L)) := hB1; have HK1 : Hid (Kp base gb w w1) := hK; clear hL hB1 hK)
      | (go_at_call 71; refine (HMK.out w1 u1 HB1.out).mono ?_; rintro e w2 ⟨rfl, hB2, hE⟩; clear HMK; have HB2 : Hid (Bx w2 gb v u1 (tc (L ++ [[x, y, z]])) ∧ Ex gb w1 w2) := ⟨hB2, hE⟩; clear hB2 hE))
    go_ret
    refine .inr ⟨rfl, rfl, Gr.of HL1.out HB2.out.2 fun u hu => ?_, HK1.out.trans HB2.out.2.kp⟩
    have : u1 = u := by
      have k1 := HB1.out.list
      rw [hu.list] at k1
      exact (Option.some.inj k1).symm
    rw [← this]
    exact HB2.out.1
  all_goals
    rw [e1] at c1
    rw [e2] at c2
    rw [e3] at c3
    clear h hb HADD HMK
    go_enter Tryz.func26, Tryz.ntmps26
    go_wp2
    go_ret
    first
      | exact .inl ⟨rfl, rfl, rfl⟩
      | exact ⟨rfl, rfl⟩
theorem Bef.next {v x y : Nat} {L : List (List Nat)} (h : Bef v L x y) (c : cv L x y = true) : Bef v L x (y + 1) := fun p q hp hq hb => by
  by_cases e : p = x ∧ q = y
  · rw [e.1, e.2]; exact c
  · exact h p q hp hq (by omega)
theorem Bef.row {v x y : Nat} {L : List (List Nat)} (h : Bef v L x y) (hy : v ≤ y) : Bef v L (x + 1) (x + 2) := fun p q hp hq hb => by
  refine h p q hp hq ?_
  omega
theorem Bef.all {v x y : Nat} {L : List (List Nat)} (h : Bef v L x y) (hx : v ≤ x) : Full v L := fun p q hp hq => h p q hp hq (by omega)
def FaP (v : Nat) (L : List (List Nat)) (e : Ending) : Prop := (∃ x y : Nat, e = .returned (.tuple #[.int .i64 (x : Int), .int .i64 (y : Int), .bool true]) ∧ FA v L x y) ∨ (e = .returned (.tuple #[.int .i64 0, .int .i64 0, .bool false]) ∧ Full v L)
set_option maxRecDepth 100000 in
set_option maxHeartbeats 8000000 in
theorem firstApart_any (gb v : Nat) (u : Value) (L : List (List Nat)) (w : World) (h : Bx w gb v u (tc L)) (hv : v ≤ 9) :
    Calls Tryz.prog 72 #[.pointer (some ⟨gb, 0, none⟩)] w fun e w' => FaP v L e ∧ w' = w := by
  have HCE : Hid (∀ x y, x < y → y < 9 → w.cell? ⟨gb, 2 + x * 9 + y, none⟩ = some (.bool (cv L x y))) := fun x y hx hy => by
    have c := h.cell (i := 9 * x + y) (by omega)
    rw [tc_at hx hy, show 2 + (9 * x + y) = 2 + x * 9 + y by omega] at c
    exact c
  have p1 := h.pts
  have HB0 : Hid (Bef v L 0 1) := fun p q hp hq hb => by omega
  clear h
  go_enter Tryz.func72, Tryz.ntmps72
  go_wp2
  go_loopw [11] (fun xv wr => ∃ (x : Nat), xv = .int .i64 (x : Int) ∧ x ≤ v ∧ Hid (Bef v L x (x + 1)) ∧ wr = w) (fun xv _ => (v - intOf xv).toNat)
  case atStart => exact ⟨0, rfl, by omega, HB0, rfl⟩
  case round =>
    clear HB0
    obtain ⟨x, rfl, hx, HB, hwr⟩ := hrel
    subst hwr
    by_cases hlt : x < v
    · have hdi : decide ((x : Int) < (v : Int)) = true := by simp; omega
      have hii : (x : Int) < (v : Int) := by omega
      go_wp2
      go_loopw [6] (fun yv wr' => ∃ (y : Nat), yv = .int .i64 (y : Int) ∧ x < y ∧ y ≤ v ∧ Hid (Bef v L x y) ∧ wr' = wr) (fun yv _ => (v - intOf yv).toNat)
      case atStart => exact ⟨x + 1, by go_num, by omega, by omega, HB, rfl⟩
      case round =>
        clear HB
        obtain ⟨y, rfl, hxy, hy, HBY, hwr⟩ := hrel
        subst hwr
        by_cases hly : y < v
        · have hdy : decide ((y : Int) < (v : Int)) = true := by simp; omega
          have hyi : (y : Int) < (v : Int) := by omega
          have c1 := HCE.out x y hxy (by omega)
          have a1 : ¬ (9 : Int) ≤ (x : Int) := by omega
          have a2 : ¬ (9 : Int) ≤ (y : Int) := by omega
          cases e : cv L x y
          · rw [e] at c1
            have HF : Hid (FaP v L (.returned (.tuple #[.int .i64 (x : Int), .int .i64 (y : Int), .bool true]))) := .inl ⟨x, y, rfl, hxy, hly, e, HBY.out⟩
            go_wp2
            exact bodyPost_ret (v := .tuple #[.int .i64 (x : Int), .int .i64 (y : Int), .bool true]) (by simp [results, Tryz.results72, go_sem]) rfl ⟨HF.out, rfl⟩
          · rw [e] at c1
            have HB2 : Hid (Bef v L x (y + 1)) := HBY.out.next e
            go_wp2
            go_roundw
            case rel => exact ⟨y + 1, by go_num, by omega, by omega, HB2, trivial⟩
            case measure => simp [intOf]; omega
        · have hdy : decide ((y : Int) < (v : Int)) = false := by simp; omega
          have hyi : ¬ (y : Int) < (v : Int) := by omega
          have HB2 : Hid (Bef v L (x + 1) (x + 1 + 1)) := HBY.out.row (by omega)
          go_wp2
          go_roundw
          case rel => exact ⟨x + 1, by go_num, by omega, HB2, trivial⟩
          case measure => simp [intOf]; omega
    · have hdi : decide ((x : Int) < (v : Int)) = false := by simp; omega
      have hii : ¬ (x : Int) < (v : Int) := by omega
      have HF : Hid (FaP v L (.returned (.tuple #[.int .i64 0, .int .i64 0, .bool false]))) := .inr ⟨rfl, HB.out.all (by omega)⟩
      go_wp2
      exact bodyPost_ret (v := .tuple #[.int .i64 0, .int .i64 0, .bool false]) (by simp [results, Tryz.results72, go_sem]) rfl ⟨HF.out, rfl⟩

end Go.Proofs.YtgpkhfpejopacabGreatDoor

namespace Go.Proofs.YtgpkhfpejopacabGreatDoor
open Go.RowKit

/-- The last row, and the rows without it. -/
theorem OR.last {w : World} {base n : Nat} {u : Value} {L : List (List Nat)} {x y z : Nat} (h : OR w base u (L ++ [[x, y, z]])) (hn : L.length = n) : ∃ g cap rb rc, u = .slice (some ⟨g, 0, none⟩) (n + 1) cap ∧ base ≤ g ∧ n + 1 ≤ cap ∧ w.cell? ⟨g, n, none⟩ = some (.slice (some ⟨rb, 0, none⟩) 3 rc) ∧ (∀ W : World, W.heap[rb]? = w.heap[rb]? → W.cell? ⟨rb, 0, none⟩ = some (.int .i64 (x : Int)) ∧ W.cell? ⟨rb, 1, none⟩ = some (.int .i64 (y : Int)) ∧ W.cell? ⟨rb, 2, none⟩ = some (.int .i64 (z : Int))) ∧ base ≤ rb ∧ rb < w.heap.size ∧ OR w base (.slice (some ⟨g, 0, none⟩) n cap) L := by
  subst hn
  obtain ⟨vals, h1, h2⟩ := h
  have hlen : vals.length = L.length + 1 := by have := h1.1; rw [List.length_append] at this; simpa using this
  obtain ⟨hh, ⟨_, h0⟩ | ⟨g, cap, cur, rfl, hb, hg, hc, hm, hs, ht⟩⟩ := h1
  · rw [List.length_append] at h0; simp at h0
  · have hl2 : (L ++ [[x, y, z]]).length = L.length + 1 := by simp
    rw [hl2] at hc ht hh
    obtain ⟨r, hr⟩ : ∃ r, vals[L.length]? = some r := ⟨_, List.getElem?_eq_getElem (by omega)⟩
    have hro := h2 L.length r [x, y, z] hr (by simp)
    have hcell : w.cell? ⟨g, L.length, none⟩ = some r := by
      rw [cell_of_row w g _ cur 29 (0, 0) hg, ← Array.getElem?_toList, ← hr, ← ht, List.getElem?_take, if_pos (by omega)]
    obtain ⟨_, ⟨_, h0⟩ | ⟨rb, rc, rcur, rfl, rhb, rhg, rhc, _, _, rht⟩⟩ := hro
    · simp at h0
    · refine ⟨g, cap, rb, rc, by rw [hl2], hb, hc, hcell, fun W hW => ?_, rhb, (Array.getElem?_eq_some_iff.1 rhg).1, vals.take L.length, ⟨by rw [List.length_take]; omega, .inr ⟨g, cap, cur, rfl, hb, hg, by omega, hm, hs, ?_⟩⟩, fun i u' l' e1 e2 => ?_⟩
      · have key : ∀ i, i < 3 → W.cell? ⟨rb, i, none⟩ = ((([x, y, z] : List Nat).map Int.ofNat).map (Value.int .i64))[i]? := fun i hi => by
          rw [cell_of_row W rb i rcur 3 (0, 0) (hW.trans rhg), ← rht, List.getElem?_take, if_pos (by simpa using hi)]
          simp
        exact ⟨key 0 (by omega), key 1 (by omega), key 2 (by omega)⟩
      · rw [← ht, List.take_take]
        congr 1
        omega
      · have hi := (List.getElem?_eq_some_iff.1 e2).1
        rw [List.getElem?_take, if_pos hi] at e1
        exact h2 i u' l' e1 (by rw [List.getElem?_append_left hi]; exact e2)
def DrP (base gb x y z : Nat) (ty : TypeId) (rest : List Value) (L : List (List Nat)) (w : World) (e : Ending) (w' : World) : Prop := ∃ rb rc u, e = .returned (.slice (some ⟨rb, 0, none⟩) 3 rc) ∧ rb ≠ gb ∧ (∀ W : World, W.heap[rb]? = w'.heap[rb]? → W.cell? ⟨rb, 0, none⟩ = some (.int .i64 (x : Int)) ∧ W.cell? ⟨rb, 1, none⟩ = some (.int .i64 (y : Int)) ∧ W.cell? ⟨rb, 2, none⟩ = some (.int .i64 (z : Int))) ∧ w'.heap[gb]? = some (.cells (u :: rest).toArray ty (0, 0)) ∧ Lst w' base gb ty rest L ∧ Ex gb w w'
set_option maxRecDepth 100000 in
set_option maxHeartbeats 8000000 in
theorem drop_any (base gb x y z : Nat) (ty : TypeId) (rest : List Value) (L : List (List Nat)) (w : World) (h : Lst w base gb ty rest (L ++ [[x, y, z]])) (hl : L.length ≤ 6000) :
    Calls Tryz.prog 118 #[.pointer (some ⟨gb, 0, none⟩)] w (DrP base gb x y z ty rest L w) := by
  obtain ⟨u, hbx, hO, hgb, hbs⟩ := h
  obtain ⟨n, Hn⟩ : ∃ n, Hid (L.length = n) := ⟨_, rfl⟩
  rw [Hn.out] at hl
  obtain ⟨g, cap, rb, rc, rfl, hbg, hncap, hcell, hrow, hrb, hrl, hO2⟩ := hO.last Hn.out
  have c0 : w.cell? ⟨gb, 0, none⟩ = some (.slice (some ⟨g, 0, none⟩) (n + 1) cap) := by rw [cell_of_row _ _ _ _ _ _ hbx]; rfl
  have hfz : w.frozen? ⟨gb, 0, none⟩ = false := frozen_of_row w gb 0 _ _ hbx
  have hb3 := heap_setCell_same w gb 0 _ ty (.slice (some ⟨g, 0, none⟩) n cap) hbx
  have hO3 := hO2.keep (w' := w.setCell ⟨gb, 0, none⟩ (.slice (some ⟨g, 0, none⟩) n cap)) (fun b hb _ => heap_setCell_other w ⟨gb, 0, none⟩ b _ (by show b ≠ gb; omega))
  have hE := (Ex.refl gb w).set 0 (.slice (some ⟨g, 0, none⟩) n cap)
  have hb4 : (w.setCell ⟨gb, 0, none⟩ (.slice (some ⟨g, 0, none⟩) n cap)).heap[gb]? = some (.cells (.slice (some ⟨g, 0, none⟩) n cap :: rest).toArray ty (0, 0)) := by simpa using hb3
  have HFIN : Hid (rb ≠ gb ∧ (∀ W : World, W.heap[rb]? = (w.setCell ⟨gb, 0, none⟩ (.slice (some ⟨g, 0, none⟩) n cap)).heap[rb]? → W.cell? ⟨rb, 0, none⟩ = some (.int .i64 (x : Int)) ∧ W.cell? ⟨rb, 1, none⟩ = some (.int .i64 (y : Int)) ∧ W.cell? ⟨rb, 2, none⟩ = some (.int .i64 (z : Int))) ∧ (w.setCell ⟨gb, 0, none⟩ (.slice (some ⟨g, 0, none⟩) n cap)).heap[gb]? = some (.cells (.slice (some ⟨g, 0, none⟩) n cap :: rest).toArray ty (0, 0)) ∧ Lst (w.setCell ⟨gb, 0, none⟩ (.slice (some ⟨g, 0, none⟩) n cap)) base gb ty rest L ∧ Ex gb w (w.setCell ⟨gb, 0, none⟩ (.slice (some ⟨g, 0, none⟩) n cap))) := ⟨by omega, fun W hW => hrow W (hW.trans (hE.2.2 rb (by omega))), hb4, ⟨_, hb4, hO3, hgb, by rw [hE.2.1]; exact hbs⟩, hE⟩
  have hnc : ¬ (cap : Int) < (n : Int) := by omega
  have hn1 : ¬ ((n : Int) + 1 ≤ (n : Int)) := by omega
  clear hbx hO hrow hO2 hb3 hO3 hE hb4
  go_enter Tryz.func118, Tryz.ntmps118
  go_wp2
  go_ret
  exact ⟨rb, rc, _, rfl, HFIN.out⟩
set_option maxRecDepth 100000 in
set_option maxHeartbeats 8000000 in
theorem lift_any (base gb v x y z : Nat) (L : List (List Nat)) (w : World) (h : Gr w base gb v (L ++ [[x, y, z]])) (h1 : x < y) (h2 : y < z) (h3 : z < 9) (a : cv L x y = false) (b : cv L x z = false) (c : cv L y z = false) (hl : L.length ≤ 6000) :
    Calls Tryz.prog 73 #[.pointer (some ⟨gb, 0, none⟩)] w fun e w' => e = .returned (.tuple #[]) ∧ Gr w' base gb v L ∧ Kp base gb w w' := by
  have HDR : Hid (Calls Tryz.prog 118 #[.pointer (some ⟨gb, 0, none⟩)] w fun e w' => ∃ rb rc u, e = .returned (.slice (some ⟨rb, 0, none⟩) 3 rc) ∧ rb ≠ gb ∧ (∀ W : World, W.heap[rb]? = w'.heap[rb]? → W.cell? ⟨rb, 0, none⟩ = some (.int .i64 (x : Int)) ∧ W.cell? ⟨rb, 1, none⟩ = some (.int .i64 (y : Int)) ∧ W.cell? ⟨rb, 2, none⟩ = some (.int .i64 (z : Int))) ∧ Bx w' gb v u (tc (L ++ [[x, y, z]])) ∧ Lst w' base gb 65 (gR v (tc (L ++ [[x, y, z]]))) L ∧ Ex gb w w') := drop_any base gb x y z 65 _ L w h hl
  have HMK : Hid (∀ (W : World) (u : Value), Bx W gb v u (tc (L ++ [[x, y, z]])) → Calls Tryz.prog 71 #[.pointer (some ⟨gb, 0, none⟩), .int .i64 (x : Int), .int .i64 (y : Int), .int .i64 (z : Int), .bool false] W fun e w' => e = .returned (.tuple #[]) ∧ Bx w' gb v u (tc L) ∧ Ex gb W w') := fun W u hW => by
    refine (mark_any gb v x y z false u _ W hW (by omega) (by omega) h3).mono ?_
    rintro e w' ⟨rfl, hx, hE⟩
    exact ⟨rfl, hx.tc fun i => (tc_back h1 h2 h3 a b c i).symm, hE⟩
  clear h
  go_enter Tryz.func73, Tryz.ntmps73
  go_wp2_with (go_at_call 118; refine HDR.out.mono ?_; rintro e w1 ⟨rb, rc, u, rfl, hne, hrow, hB1, hL1, hE1⟩; clear HDR)
  have HROW : Hid (∀ W : World, W.heap[rb]? = w1.heap[rb]? → W.cell? ⟨rb, 0, none⟩ = some (.int .i64 (x : Int)) ∧ W.cell? ⟨rb, 1, none⟩ = some (.int .i64 (y : Int)) ∧ W.cell? ⟨rb, 2, none⟩ = some (.int .i64 (z : Int))) := hrow
  have HB1 : Hid (Bx w1.drew gb v u (tc (L ++ [[x, y, z]]))) := hB1
  have HL1 : Hid (Lst w1 base gb 65 (gR v (tc (L ++ [[x, y, z]]))) L) := hL1
  have HBB : Hid (Bx w1 gb v u (tc (L ++ [[x, y, z]]))) := hB1
  have HE1 : Hid (Ex gb w w1) := hE1
  clear hrow hB1 hL1 hE1
  refine wp_region_noPanic ?_
  refine wp_region_held_drew (S := fun w' => w'.cell? ⟨rb, 0, none⟩ = some (.int .i64 (x : Int)) ∧ w'.cell? ⟨rb, 1, none⟩ = some (.int .i64 (y : Int)) ∧ w'.cell? ⟨rb, 2, none⟩ = some (.int .i64 (z : Int))) (by kernel_rfl) (HROW.out _ rfl) (fun hSx => ?_)
  refine wpAnyH_take (i := 0) (v := .pointer (some ⟨gb, 0, none⟩)) rfl (by kernel_rfl) (by kernel_rfl) (by kernel_rfl) (fun _ _ _ h => h) (Or.inl ⟨by rfl, fun w' hSw => by (try dsimp only at hSw); obtain ⟨hs0, hs1, hs2⟩ := hSw; go_simp⟩) hSx ?_
  try simp only [Act.put, List.setIfInBounds_toArray]
  refine wpAnyH_take (i := 1) (v := .slice (some ⟨rb, 0, none⟩) 3 rc) rfl (by kernel_rfl) (by kernel_rfl) (by kernel_rfl) (fun _ _ _ h => h) (Or.inl ⟨by rfl, fun w' hSw => by (try dsimp only at hSw); obtain ⟨hs0, hs1, hs2⟩ := hSw; go_simp⟩) hSx ?_
  try simp only [Act.put]
  refine wpAnyH_take (i := 2) (v := .pointer (some ⟨rb, 0, none⟩)) rfl (by kernel_rfl) (by kernel_rfl) (by kernel_rfl) (fun _ _ _ h => h) (Or.inl ⟨by rfl, fun w' hSw => by (try dsimp only at hSw); obtain ⟨hs0, hs1, hs2⟩ := hSw; go_simp⟩) hSx ?_
  try simp only [Act.put]
  refine wpAnyH_take (i := 3) (v := .int .i64 (x : Int)) rfl (by kernel_rfl) (by kernel_rfl) (by kernel_rfl) (fun _ _ _ h => h) (Or.inl ⟨by rfl, fun w' hSw => by (try dsimp only at hSw); obtain ⟨hs0, hs1, hs2⟩ := hSw; go_simp⟩) hSx ?_
  try simp only [Act.put]
  refine wpAnyH_take (i := 4) (v := .slice (some ⟨rb, 0, none⟩) 3 rc) rfl (by kernel_rfl) (by kernel_rfl) (by kernel_rfl) (fun _ _ _ h => h) (Or.inl ⟨by rfl, fun w' hSw => by (try dsimp only at hSw); obtain ⟨hs0, hs1, hs2⟩ := hSw; go_simp⟩) hSx ?_
  try simp only [Act.put]
  refine wpAnyH_take (i := 5) (v := .pointer (some ⟨rb, 1, none⟩)) rfl (by kernel_rfl) (by kernel_rfl) (by kernel_rfl) (fun _ _ _ h => h) (Or.inl ⟨by rfl, fun w' hSw => by (try dsimp only at hSw); obtain ⟨hs0, hs1, hs2⟩ := hSw; go_simp⟩) hSx ?_
  try simp only [Act.put]
  refine wpAnyH_take (i := 6) (v := .int .i64 (y : Int)) rfl (by kernel_rfl) (by kernel_rfl) (by kernel_rfl) (fun _ _ _ h => h) (Or.inl ⟨by rfl, fun w' hSw => by (try dsimp only at hSw); obtain ⟨hs0, hs1, hs2⟩ := hSw; go_simp⟩) hSx ?_
  try simp only [Act.put]
  refine wpAnyH_take (i := 7) (v := .slice (some ⟨rb, 0, none⟩) 3 rc) rfl (by kernel_rfl) (by kernel_rfl) (by kernel_rfl) (fun _ _ _ h => h) (Or.inl ⟨by rfl, fun w' hSw => by (try dsimp only at hSw); obtain ⟨hs0, hs1, hs2⟩ := hSw; go_simp⟩) hSx ?_
  try simp only [Act.put]
  refine wpAnyH_take (i := 8) (v := .pointer (some ⟨rb, 2, none⟩)) rfl (by kernel_rfl) (by kernel_rfl) (by kernel_rfl) (fun _ _ _ h => h) (Or.inl ⟨by rfl, fun w' hSw => by (try dsimp only at hSw); obtain ⟨hs0, hs1, hs2⟩ := hSw; go_simp⟩) hSx ?_
  try simp only [Act.put]
  refine wpAnyH_take (i := 9) (v := .int .i64 (z : Int)) rfl (by kernel_rfl) (by kernel_rfl) (by kernel_rfl) (fun _ _ _ h => h) (Or.inl ⟨by rfl, fun w' hSw => by (try dsimp only at hSw); obtain ⟨hs0, hs1, hs2⟩ := hSw; go_simp⟩) hSx ?_
  try simp only [Act.put]
  refine wpAnyH_ready (rs := [10]) (by kernel_rfl) (by simp) ?_
  refine AllReadyH.cons rfl (fun J hJ => ?_) AllReadyH.nil
  go_simp
  refine (HMK.out _ u HB1.out).mono ?_
  rintro e w2 ⟨rfl, hB2, hE2⟩
  clear HMK
  go_wp2_with fail
  refine hJ.out _ _ (HROW.out _ (hE2.2.2 rb hne)) (fun hSx => ?_)
  clear hJ J
  try simp only [Act.put, List.setIfInBounds_toArray, List.set_cons_zero, List.set_cons_succ]
  refine wpAnyH_done (by kernel_rfl) ?_ _
  refine NoPanic.normal ?_
  clear hSx
  go_wp2
  go_end0
  refine ⟨rfl, Gr.of (w := w1) HL1.out ⟨(Below.refl _ w1).drew.trans hE2.1, hE2.2.1, hE2.2.2⟩ fun u1 hu => ?_, HE1.out.kp.trans (Ex.kp ⟨(Below.refl _ w1).drew.trans hE2.1, hE2.2.1, hE2.2.2⟩)⟩
  have : u = u1 := by
    have k1 := HBB.out.list
    rw [hu.list] at k1
    exact (Option.some.inj k1).symm
  rw [← this]
  exact hB2

end Go.Proofs.YtgpkhfpejopacabGreatDoor

namespace Go.Proofs.YtgpkhfpejopacabGreatDoor
open Go.RowKit

def FiP (base gb v k : Nat) (L : List (List Nat)) (w : World) (e : Ending) (w' : World) : Prop := (∃ R, gr v k L = some R ∧ e = .returned (.bool true) ∧ Gr w' base gb v R ∧ Kp base gb w w') ∨ (gr v k L = none ∧ e = .returned (.bool false) ∧ Gr w' base gb v L ∧ Kp base gb w w')
set_option maxRecDepth 100000 in
set_option maxHeartbeats 8000000 in
theorem fill_full (v base gb k : Nat) (hv : v ≤ 9) (L : List (List Nat)) (w : World) (h : Gr w base gb v L) (hf : Full v L) : Calls Tryz.prog 27 #[.pointer (some ⟨gb, 0, none⟩)] w (FiP base gb v k L w) := by
  have HFIN : Hid (FiP base gb v k L w (.returned (.bool true)) w) := .inl ⟨L, gr_full hf, rfl, h, Kp.refl _ _ _⟩
  obtain ⟨u, hb⟩ := h.bx
  have HFA : Hid (Calls Tryz.prog 72 #[.pointer (some ⟨gb, 0, none⟩)] w fun e w' => e = .returned (.tuple #[.int .i64 0, .int .i64 0, .bool false]) ∧ w' = w) := by
    refine (firstApart_any gb v u L w hb hv).mono ?_
    rintro e w' ⟨⟨x, y, rfl, hF⟩ | ⟨rfl, _⟩, rfl⟩
    · exact (hF.nfull hf).elim
    · exact ⟨rfl, rfl⟩
  clear h hb hf
  go_enter Tryz.func27, Tryz.ntmps27
  go_wp2_with (go_at_call 72; refine HFA.out.mono ?_; rintro e w1 ⟨rfl, hw⟩; subst hw; clear HFA)
  go_ret
  exact HFIN.out
set_option maxRecDepth 100000 in
set_option maxHeartbeats 16000000 in
theorem fill_fa (v base gb k x y : Nat) (hv : v ≤ 9) (L : List (List Nat)) (w : World) (h : Gr w base gb v L) (hp : Pk v L) (hF : FA v L x y) (h12 : 12 ≤ L.length + (k + 1))
    (ih : ∀ (L : List (List Nat)) (w : World), Gr w base gb v L → Pk v L → 12 ≤ L.length + k → Calls Tryz.prog 27 #[.pointer (some ⟨gb, 0, none⟩)] w (FiP base gb v k L w)) :
    Calls Tryz.prog 27 #[.pointer (some ⟨gb, 0, none⟩)] w (FiP base gb v (k + 1) L w) := by
  obtain ⟨u, hb⟩ := h.bx
  have HFA : Hid (Calls Tryz.prog 72 #[.pointer (some ⟨gb, 0, none⟩)] w fun e w' => e = .returned (.tuple #[.int .i64 (x : Int), .int .i64 (y : Int), .bool true]) ∧ w' = w) := by
    refine (firstApart_any gb v u L w hb hv).mono ?_
    rintro e w' ⟨⟨x', y', rfl, hF'⟩ | ⟨rfl, hf⟩, rfl⟩
    · obtain ⟨rfl, rfl⟩ := hF.one hF'
      exact ⟨rfl, rfl⟩
    · exact (hF.nfull hf).elim
  have hxy := hF.lt
  have hyv := hF.lv
  have HGR : Hid (gr v (k + 1) L = fz (gz v k L x y) (v - (y + 1)) (y + 1)) := gr_fa hF
  have HLY : Hid (∀ (z : Nat) (W : World), y < z → z < v → Gr W base gb v L → Calls Tryz.prog 26 #[.pointer (some ⟨gb, 0, none⟩), .int .i64 (x : Int), .int .i64 (y : Int), .int .i64 (z : Int)] W fun e w' =>
      (((cv L x z || cv L y z) = true ∧ e = .returned (.bool false) ∧ w' = W) ∨ ((cv L x z || cv L y z) = false ∧ e = .returned (.bool true) ∧ Gr w' base gb v (L ++ [[x, y, z]]) ∧ Kp base gb W w'))) := fun z W hz hzv hW => by
    have := lay_any base gb v x y z L W hW hxy hz (by omega) (by have := hp.few hv; omega)
    rw [hF.ap, Bool.false_or] at this
    exact this
  have HIH : Hid (∀ (z : Nat) (W : World), y < z → z < v → (cv L x z || cv L y z) = false → Gr W base gb v (L ++ [[x, y, z]]) → Calls Tryz.prog 27 #[.pointer (some ⟨gb, 0, none⟩)] W (FiP base gb v k (L ++ [[x, y, z]]) W)) := fun z W hz hzv hc hW => by
    rw [Bool.or_eq_false_iff] at hc
    exact ih _ W hW (hp.snoc hxy hz hzv hF.ap hc.1 hc.2) (by rw [List.length_append]; simp; omega)
  have HLI : Hid (∀ (z : Nat) (W : World), y < z → z < v → (cv L x z || cv L y z) = false → Gr W base gb v (L ++ [[x, y, z]]) → Calls Tryz.prog 73 #[.pointer (some ⟨gb, 0, none⟩)] W fun e w' => e = .returned (.tuple #[]) ∧ Gr w' base gb v L ∧ Kp base gb W w') := fun z W hz hzv hc hW => by
    rw [Bool.or_eq_false_iff] at hc
    exact lift_any base gb v x y z L W hW hxy hz (by omega) hF.ap hc.1 hc.2 (by have := hp.few hv; omega)
  have HPT : Hid (∀ W, Gr W base gb v L → W.cell? ⟨gb, 1, none⟩ = some (.int .i64 (v : Int))) := fun W hW => by
    obtain ⟨u, hu⟩ := hW.bx
    exact hu.pts
  have HG : Hid (Gr w base gb v L) := h
  have HK : Hid (Kp base gb w w) := Kp.refl _ _ _
  clear h hb hp hF h12 ih
  go_enter Tryz.func27, Tryz.ntmps27
  go_wp2_with (go_at_call 72; refine HFA.out.mono ?_; rintro e w1 ⟨rfl, hw⟩; subst hw; clear HFA)
  go_loopw [6] (fun zv wr => ∃ (z : Nat), zv = .int .i64 (z : Int) ∧ y < z ∧ z ≤ v ∧ Hid (gr v (k + 1) L = fz (gz v k L x y) (v - z) z) ∧ Gr wr base gb v L ∧ Kp base gb w1 wr) (fun zv _ => (v - intOf zv).toNat)
  case atStart => exact ⟨y + 1, by go_num, by omega, by omega, HGR, HG.out, HK.out⟩
  case round =>
    clear HG HK HGR
    obtain ⟨z, rfl, hz, hzv, HZ, hG, hK⟩ := hrel
    have p1 := HPT.out wr hG
    by_cases hlt : z < v
    · have hdi : decide ((z : Int) < (v : Int)) = true := by simp; omega
      have hii : (z : Int) < (v : Int) := by omega
      have CL := HLY.out z wr hz hlt hG
      have HGW : Hid (Gr wr base gb v L) := hG
      have HKW : Hid (Kp base gb w1 wr) := hK
      clear hG hK
      cases hcv : (cv L x z || cv L y z)
      · rw [hcv] at CL
        have CL2 : Hid (Calls Tryz.prog 26 #[.pointer (some ⟨gb, 0, none⟩), .int .i64 (x : Int), .int .i64 (y : Int), .int .i64 (z : Int)] wr fun e w' => e = .returned (.bool true) ∧ Gr w' base gb v (L ++ [[x, y, z]]) ∧ Kp base gb wr w') := by
          refine CL.mono ?_
          rintro e w' (⟨h0, _⟩ | ⟨_, rfl, hg, hk⟩)
          · cases h0
          · exact ⟨rfl, hg, hk⟩
        have hgz : gz v k L x y z = gr v k (L ++ [[x, y, z]]) := by unfold gz; rw [hcv, if_neg (by simp)]
        cases hgr : gr v k (L ++ [[x, y, z]]) with
        | some R =>
          have HR : Hid (gr v (k + 1) L = some R) := by show _ = _; rw [HZ.out, fz_some hlt (hgz.trans hgr)]
          have CF : Hid (∀ W, Gr W base gb v (L ++ [[x, y, z]]) → Calls Tryz.prog 27 #[.pointer (some ⟨gb, 0, none⟩)] W fun e w' => e = .returned (.bool true) ∧ Gr w' base gb v R ∧ Kp base gb W w') := fun W hW => by
            refine (HIH.out z W hz hlt hcv hW).mono ?_
            rintro e w' (⟨R', e1, rfl, hg, hk⟩ | ⟨e1, _⟩)
            · rw [hgr] at e1
              cases e1
              exact ⟨rfl, hg, hk⟩
            · rw [hgr] at e1; cases e1
          clear CL hgz hgr hcv HIH HLI HLY HZ
          go_wp2_with (first
            | (go_at_call 26; refine CL2.out.mono ?_; rintro e w2 ⟨rfl, hg, hk⟩; clear CL2; have HG2 : Hid (Gr w2 base gb v (L ++ [[x, y, z]])) := hg; have HK2 : Hid (Kp base gb wr w2) := hk; clear hg hk)
            | (go_at_call 27; refine (CF.out w2 HG2.out).mono ?_; rintro e w3 ⟨rfl, hg, hk⟩; clear CF; have HG3 : Hid (Gr w3 base gb v R) := hg; have HK3 : Hid (Kp base gb w2 w3) := hk; clear hg hk))
          go_ret
          exact .inl ⟨R, HR.out, rfl, HG3.out, (HKW.out.trans HK2.out).trans HK3.out⟩
        | none =>
          have HZ2 : Hid (gr v (k + 1) L = fz (gz v k L x y) (v - (z + 1)) (z + 1)) := by show _ = _; rw [HZ.out, fz_none hlt (hgz.trans hgr)]
          have CF : Hid (∀ W, Gr W base gb v (L ++ [[x, y, z]]) → Calls Tryz.prog 27 #[.pointer (some ⟨gb, 0, none⟩)] W fun e w' => e = .returned (.bool false) ∧ Gr w' base gb v (L ++ [[x, y, z]]) ∧ Kp base gb W w') := fun W hW => by
            refine (HIH.out z W hz hlt hcv hW).mono ?_
            rintro e w' (⟨R', e1, _⟩ | ⟨_, rfl, hg, hk⟩)
            · rw [hgr] at e1; cases e1
            · exact ⟨rfl, hg, hk⟩
          have CU : Hid (∀ W, Gr W base gb v (L ++ [[x, y, z]]) → Calls Tryz.prog 73 #[.pointer (some ⟨gb, 0, none⟩)] W fun e w' => e = .returned (.tuple #[]) ∧ Gr w' base gb v L ∧ Kp base gb W w') := fun W hW => HLI.out z W hz hlt hcv hW
          clear CL hgz hgr hcv
          go_wp2_with (first
            | (go_at_call 26; refine CL2.out.mono ?_; rintro e w2 ⟨rfl, hg, hk⟩; clear CL2; have HG2 : Hid (Gr w2 base gb v (L ++ [[x, y, z]])) := hg; have HK2 : Hid (Kp base gb wr w2) := hk; clear hg hk)
            | (go_at_call 27; refine (CF.out w2 HG2.out).mono ?_; rintro e w3 ⟨rfl, hg, hk⟩; clear CF; have HG3 : Hid (Gr w3 base gb v (L ++ [[x, y, z]])) := hg; have HK3 : Hid (Kp base gb w2 w3) := hk; clear hg hk)
            | (go_at_call 73; refine (CU.out w3 HG3.out).mono ?_; rintro e w4 ⟨rfl, hg, hk⟩; clear CU; have HG4 : Hid (Gr w4 base gb v L) := hg; have HK4 : Hid (Kp base gb w3 w4) := hk; clear hg hk))
          go_roundw
          case rel => exact ⟨z + 1, by go_num, by omega, by omega, HZ2, HG4.out, ((HKW.out.trans HK2.out).trans HK3.out).trans HK4.out⟩
          case measure => simp [intOf]; omega
      · rw [hcv] at CL
        have CL2 : Hid (Calls Tryz.prog 26 #[.pointer (some ⟨gb, 0, none⟩), .int .i64 (x : Int), .int .i64 (y : Int), .int .i64 (z : Int)] wr fun e w' => e = .returned (.bool false) ∧ w' = wr) := by
          refine CL.mono ?_
          rintro e w' (⟨_, rfl, hw⟩ | ⟨h0, _⟩)
          · exact ⟨rfl, hw⟩
          · cases h0
        have HZ2 : Hid (gr v (k + 1) L = fz (gz v k L x y) (v - (z + 1)) (z + 1)) := by show _ = _; rw [HZ.out, fz_none hlt (by unfold gz; rw [hcv, if_pos rfl])]
        clear CL hcv
        go_wp2_with (go_at_call 26; refine CL2.out.mono ?_; rintro e w2 ⟨rfl, hw⟩; replace hw := hw.symm; subst hw; clear CL2)
        go_roundw
        case rel => exact ⟨z + 1, by go_num, by omega, by omega, HZ2, HGW.out, HKW.out⟩
        case measure => simp [intOf]; omega
    · have hdi : decide ((z : Int) < (v : Int)) = false := by simp; omega
      have hii : ¬ (z : Int) < (v : Int) := by omega
      have HR : Hid (gr v (k + 1) L = none) := by show _ = _; rw [HZ.out, fz_end (by omega)]
      have HFIN : Hid (FiP base gb v (k + 1) L w1 (.returned (.bool false)) wr) := .inr ⟨HR.out, rfl, hG, hK⟩
      clear hG hK
      go_wp2
      go_ret
      exact HFIN.out
theorem fa_full (v : Nat) (L : List (List Nat)) : Full v L ∨ ∃ x y, FA v L x y := by
  by_cases hf : Full v L
  · exact .inl hf
  · right
    have key : ∀ n x y, x < y → y ≤ v → x + y * 0 ≤ v → Bef v L x y → (v - x) * (v + 1) + (v - y) = n → ∃ x y, FA v L x y := by
      intro n
      induction n using Nat.strongRecOn with
      | _ n ih =>
        intro x y hxy hyv hx hb hn
        by_cases hy : y < v
        · cases e : cv L x y
          · exact ⟨x, y, hxy, hy, e, hb⟩
          · exact ih ((v - x) * (v + 1) + (v - (y + 1))) (by omega) x (y + 1) (by omega) (by omega) (by omega) (hb.next e) rfl
        · have hb2 := hb.row (by omega : v ≤ y)
          by_cases hx2 : x + 2 ≤ v
          · refine ih ((v - (x + 1)) * (v + 1) + (v - (x + 2))) ?_ (x + 1) (x + 2) (by omega) hx2 (by omega) hb2 rfl
            rw [← hn, show v - x = (v - (x + 1)) + 1 by omega, Nat.add_mul]
            omega
          · exact (hf fun p q hp hq => hb2 p q hp hq (by omega)).elim
    rcases Nat.eq_zero_or_pos v with h0 | h0
    · exact (hf fun p q hp hq => by omega).elim
    · exact key _ 0 1 (by omega) (by omega) (by omega) (fun p q hp hq hb => by omega) rfl
theorem fill_any (v base gb : Nat) (hv : v ≤ 9) : ∀ (k : Nat) (L : List (List Nat)) (w : World), Gr w base gb v L → Pk v L → 12 ≤ L.length + k → Calls Tryz.prog 27 #[.pointer (some ⟨gb, 0, none⟩)] w (FiP base gb v k L w)
  | 0, L, w, h, hp, h12 => by
    refine fill_full v base gb 0 hv L w h (hp.full.2 ?_)
    have := hp.le
    have := nine_le hv
    omega
  | k + 1, L, w, h, hp, h12 => by
    rcases fa_full v L with hf | ⟨x, y, hF⟩
    · exact fill_full v base gb (k + 1) hv L w h hf
    · exact fill_fa v base gb k x y hv L w h hp hF h12 (fill_any v base gb hv k)

end Go.Proofs.YtgpkhfpejopacabGreatDoor

namespace Go.Proofs.YtgpkhfpejopacabGreatDoor
open Go.RowKit

def tFt (v : Int) (b : List Int) : Nat := if bF v b ≠ 0 then bF v b else if b.length = 3 then 0 else 2
def Rise3 (v : Nat) (L : List (List Nat)) : Prop := ∀ b ∈ L, ∃ x y z, b = [x, y, z] ∧ x < y ∧ y < z ∧ z < v
theorem tF_zero {v : Nat} {b : List Int} (h : tFt (v : Int) b = 0) : ∃ x y z : Nat, b = [x, y, z].map Int.ofNat ∧ x < y ∧ y < z ∧ z < v := by
  unfold tFt at h
  by_cases hb : bF (v : Int) b ≠ 0
  · rw [if_pos hb] at h; exact (hb h).elim
  · rw [if_neg hb] at h
    by_cases h3 : b.length = 3
    · obtain ⟨hr, hs⟩ := bF_zero (by omega : bF (v : Int) b = 0)
      match b, h3 with
      | [p, q, r], _ =>
        have r0 := hr 0 (by simp)
        have r1 := hr 1 (by simp)
        have r2 := hr 2 (by simp)
        have s1 := hs 1 (by omega) (by simp)
        have s2 := hs 2 (by omega) (by simp)
        simp at r0 r1 r2 s1 s2
        refine ⟨p.toNat, q.toNat, r.toNat, ?_, by omega, by omega, by omega⟩
        simp
        omega
    · rw [if_neg h3] at h; cases h
theorem all_rise {v : Nat} : ∀ {ls : List (List Int)}, (∀ l ∈ ls, tFt (v : Int) l = 0) → ∃ L, ls = toZ L ∧ Rise3 v L
  | [], _ => ⟨[], rfl, fun b h => by simp at h⟩
  | l :: ls, h => by
    obtain ⟨x, y, z, e, hx⟩ := tF_zero (h l List.mem_cons_self)
    obtain ⟨L, e2, hL⟩ := all_rise fun l' h' => h l' (List.mem_cons_of_mem _ h')
    refine ⟨[x, y, z] :: L, by rw [e, e2]; rfl, fun b hb => ?_⟩
    rcases List.mem_cons.1 hb with rfl | hb
    · exact ⟨x, y, z, rfl, hx⟩
    · exact hL b hb
/-- Which fault is told. -/
def GfT (v : Int) (ls : List (List Int)) (e : Int) : Prop :=
  (e = 1 ∧ (v < 1 ∨ 9 < v)) ∨ (e = 3 ∧ 1 ≤ v ∧ v ≤ 9 ∧ 200 < ls.length) ∨
  (1 ≤ v ∧ v ≤ 9 ∧ ls.length ≤ 200 ∧ ∃ (i : Nat) (l : List Int), ls[i]? = some l ∧ (∀ (j : Nat) (l' : List Int), j < i → ls[j]? = some l' → tFt v l' = 0) ∧ e = (tFt v l : Int) ∧ tFt v l ≠ 0) ∨
  (ls.length ≤ 200 ∧ ∃ (n : Nat) (L : List (List Nat)), v = n ∧ 1 ≤ n ∧ n ≤ 9 ∧ ls = toZ L ∧ Rise3 n L ∧ ((¬ Pk n L ∧ e = 6) ∨ (Pk n L ∧ e = 0)))
theorem rise_tF {n : Nat} {L : List (List Nat)} (h : Rise3 n L) : ∀ l ∈ toZ L, tFt (n : Int) l = 0 := fun l hl => by
  obtain ⟨b, hb, rfl⟩ := List.mem_map.1 hl
  obtain ⟨x, y, z, rfl, h1, h2, h3⟩ := h b hb
  have h0 : bF (n : Int) ([x, y, z].map Int.ofNat) = 0 := by
    refine bF_ok (fun j hj => ?_) (fun j h1' hj => ?_)
    · have hj3 : j < 3 := by simpa using hj
      match j, hj3 with
      | 0, _ => simp; omega
      | 1, _ => simp; omega
      | 2, _ => simp; omega
    · have hj3 : j < 3 := by simpa using hj
      match j, hj3 with
      | 1, _ => simp; omega
      | 2, _ => simp; omega
  unfold tFt
  rw [if_neg (by omega), if_pos (by simp)]
theorem toZ_back (L : List (List Nat)) : (toZ L).map (List.map Int.toNat) = L := by
  unfold toZ
  rw [List.map_map]
  refine Eq.trans (List.map_congr_left fun b _ => ?_) (List.map_id _)
  show List.map Int.toNat (List.map Int.ofNat b) = b
  rw [List.map_map]
  exact Eq.trans (List.map_congr_left fun x _ => rfl) (List.map_id _)
theorem toZ_one {L M : List (List Nat)} (h : toZ L = toZ M) : L = M := by rw [← toZ_back L, h, toZ_back]
theorem GfT.one {v e e' : Int} {ls : List (List Int)} (h : GfT v ls e) (h' : GfT v ls e') : e = e' := by
  have bad : ∀ {n : Nat} {L : List (List Nat)} {i : Nat} {l : List Int}, Rise3 n L → (toZ L)[i]? = some l → tFt (n : Int) l ≠ 0 → False := fun hR hi hn => hn (rise_tF hR _ (List.mem_of_getElem? hi))
  rcases h with ⟨rfl, h⟩ | ⟨rfl, h⟩ | ⟨h1, h2, h3, i, l, hi, hj, rfl, hn⟩ | ⟨h1, n, L, rfl, h2, h3, rfl, hR, hc⟩
  · rcases h' with ⟨rfl, _⟩ | ⟨rfl, _⟩ | ⟨_, _, _⟩ | ⟨_, n, L, rfl, _⟩ <;> first | rfl | omega
  · rcases h' with ⟨rfl, _⟩ | ⟨rfl, _⟩ | ⟨_, _, _, _⟩ | ⟨_, n, L, rfl, _⟩ <;> first | rfl | omega
  · rcases h' with ⟨rfl, _⟩ | ⟨rfl, _⟩ | ⟨_, _, _, i', l', hi', hj', rfl, hn'⟩ | ⟨_, n, L, rfl, _, _, rfl, hR, _⟩
    · omega
    · omega
    · rcases Nat.lt_trichotomy i i' with g | g | g
      · exact (hn (hj' i l g hi)).elim
      · subst g
        rw [hi] at hi'
        cases hi'
        rfl
      · exact (hn' (hj i' l' g hi')).elim
    · exact (bad hR hi hn).elim
  · rcases h' with ⟨rfl, _⟩ | ⟨rfl, _⟩ | ⟨_, _, _, i', l', hi', hj', rfl, hn'⟩ | ⟨_, n', L', e1, _, _, e2, hR', hc'⟩
    · omega
    · omega
    · exact (bad hR hi' hn').elim
    · have e3 : n' = n := by omega
      subst e3
      have e4 := toZ_one e2
      subst e4
      rcases hc with ⟨a, rfl⟩ | ⟨a, rfl⟩ <;> rcases hc' with ⟨b, rfl⟩ | ⟨b, rfl⟩ <;> first | rfl | exact (a b).elim | exact (b a).elim
theorem mt_cv {x y z : Nat} (c : List Nat) : 2 ≤ mt [x, y, z] c ↔ (x ∈ c ∧ y ∈ c) ∨ (x ∈ c ∧ z ∈ c) ∨ (y ∈ c ∧ z ∈ c) := by
  unfold mt
  simp only [List.countP_cons, List.countP_nil, List.contains_iff_mem]
  by_cases h1 : x ∈ c <;> by_cases h2 : y ∈ c <;> by_cases h3 : z ∈ c <;> simp [h1, h2, h3]
theorem pk_next {n : Nat} {L : List (List Nat)} {i x y z : Nat} (h : Pk n (L.take i)) (hi : L[i]? = some [x, y, z]) (h1 : x < y) (h2 : y < z) (h3 : z < n) (hc : (cv (L.take i) x y || cv (L.take i) x z || cv (L.take i) y z) = false) : Pk n (L.take (i + 1)) := by
  rw [Bool.or_eq_false_iff, Bool.or_eq_false_iff] at hc
  rw [List.take_add_one, hi]
  exact h.snoc h1 h2 h3 hc.1.1 hc.1.2 hc.2
theorem pk_not {n : Nat} {L : List (List Nat)} {i x y z : Nat} (hi : L[i]? = some [x, y, z]) (h1 : x < y) (h2 : y < z) (h3 : z < n) (hc : (cv (L.take i) x y || cv (L.take i) x z || cv (L.take i) y z) = true) : ¬ Pk n L := fun h => by
  have key : ∀ p q, p < q → q < n → p ∈ [x, y, z] → q ∈ [x, y, z] → cv (L.take i) p q = true → False := fun p q hpq hq hp hq' hcv => by
    have h4 := h.one p q hpq hq
    have h5 : nb L [p, q] = nb (L.take i) [p, q] + nb (L.drop i) [p, q] := by
      have : L = L.take i ++ L.drop i := (List.take_append_drop i L).symm
      unfold nb
      rw [← List.countP_append, ← this]
    have h6 := cv_nb.1 hcv
    have h7 : 1 ≤ nb (L.drop i) [p, q] := cv_nb.1 (cv_iff.2 ⟨[x, y, z], List.mem_of_getElem? (i := 0) (by rw [List.getElem?_drop]; exact hi), hp, hq'⟩)
    omega
  rw [Bool.or_eq_true, Bool.or_eq_true] at hc
  rcases hc with (hc | hc) | hc
  · exact key x y h1 (by omega) (by simp) (by simp) hc
  · exact key x z (by omega) h3 (by simp) (by simp) hc
  · exact key y z h2 h3 (by simp) (by simp) hc
set_option maxRecDepth 100000 in
set_option maxHeartbeats 4000000 in
theorem checkTriple_any (v : Nat) (h1 : 1 ≤ v) (h9 : v ≤ 9) (b : List Int) (u : Value) (w : World) (hu : Sl w u b) (hl : b.length ≤ maxLen) :
    Calls Tryz.prog 25 #[.int .i64 (v : Int), u] w fun e w' => e = .returned (.int .i64 (tFt (v : Int) b : Int)) ∧ Below w.heap.size w w' := by
  have hdf : dF (v : Int) [b] = bF (v : Int) b := by
    unfold dF
    rw [if_neg (by omega), if_neg (by simp), blF, blF]
    by_cases e : bF (v : Int) b ≠ 0
    · rw [if_pos e]
    · rw [if_neg e]; omega
  have HC : Hid (Calls Tryz.prog 68 #[.agg #[.int .i64 (v : Int), .slice (some ⟨w.heap.size, 0, none⟩) 1 1]] (w.alloc (.cells #[u] 29)) fun e w' => e = .returned (.int .i64 (bF (v : Int) b : Int)) ∧ Below (w.alloc (.cells #[u] 29)).heap.size (w.alloc (.cells #[u] 29)) w') := by
    have := Check_any (v : Int) [b] (.slice (some ⟨w.heap.size, 0, none⟩) 1 1) (w.alloc (.cells #[u] 29)) ⟨_, _, rfl, fun i l hi => ?_⟩ (by simp [maxLen]) (fun l hl' => by rw [List.mem_singleton] at hl'; rw [hl']; exact hl)
    · rw [hdf] at this
      exact this
    · match i, hi with
      | 0, hi =>
        obtain rfl : b = l := by simpa using hi
        exact ⟨_, _, u, rfl, by rw [cell_of_row _ _ _ _ _ _ (heap_alloc_new w _)]; rfl, hu.below (balloc w _)⟩
  have hb0 := balloc w (.cells #[u] 29)
  have HB0 : Hid (Below w.heap.size w (w.alloc (.cells #[u] 29))) := hb0
  have htf : tFt (v : Int) b = if bF (v : Int) b ≠ 0 then bF (v : Int) b else if b.length = 3 then 0 else 2 := rfl
  generalize bF (v : Int) b = f at *
  rw [htf]
  obtain ⟨ua, uc, rfl, _⟩ := id hu
  unfold maxLen at hl
  clear hdf htf hu hb0
  generalize b.length = bl at *
  by_cases hf : f ≠ 0
  · rw [if_pos hf]
    have g1 : ((f : Int) != 0) = true := by simp; omega
    have g2 : ¬ (f : Int) = 0 := by omega
    go_enter Tryz.func25, Tryz.ntmps25
    go_wp2_with (go_at_call 68; refine HC.out.mono ?_; rintro e w1 ⟨rfl, hb⟩; clear HC; have HB1 : Hid (Below w.heap.size w w1) := Below.next HB0.out hb; clear hb)
    go_ret
    exact ⟨rfl, HB1.out⟩
  · rw [if_neg hf]
    have hf0 : f = 0 := by omega
    subst hf0
    by_cases h3 : bl = 3
    · rw [if_pos h3]
      subst h3
      go_enter Tryz.func25, Tryz.ntmps25
      go_wp2_with (go_at_call 68; refine HC.out.mono ?_; rintro e w1 ⟨rfl, hb⟩; clear HC; have HB1 : Hid (Below w.heap.size w w1) := Below.next HB0.out hb; clear hb)
      go_ret
      exact ⟨rfl, HB1.out⟩
    · rw [if_neg h3]
      have g1 : ((bl : Int) != 3) = true := by simp; omega
      have g2 : ¬ (bl : Int) = 3 := by omega
      go_enter Tryz.func25, Tryz.ntmps25
      go_wp2_with (go_at_call 68; refine HC.out.mono ?_; rintro e w1 ⟨rfl, hb⟩; clear HC; have HB1 : Hid (Below w.heap.size w w1) := Below.next HB0.out hb; clear hb)
      go_ret
      exact ⟨rfl, HB1.out⟩

end Go.Proofs.YtgpkhfpejopacabGreatDoor

/- The walks of Double and Product. -/
namespace Go.Proofs.YtgpkhfpejopacabGreatDoor
open Go.RowKit

/-- An answer that is stored into its box. -/
theorem res_put {w w1 : World} {t base s : Nat} {p : Int} {y : Value} {Z : List (List Nat)} (hr : w1.heap[t]? = some (.cells #[.int .i64 0, .slice none 0 0] 25 (0, 0))) (hb : Below s w w1) (hs : s ≤ t) (ht : t < base) (hO : OR w1 base y Z) :
    ((w1.setCell ⟨t, 0, none⟩ (.int .i64 p)).setCell ⟨t, 1, none⟩ y).heap[t]? = some (.cells #[.int .i64 p, y] 25 (0, 0)) ∧ Rw ((w1.setCell ⟨t, 0, none⟩ (.int .i64 p)).setCell ⟨t, 1, none⟩ y) y (toZ Z) ∧ Below s w ((w1.setCell ⟨t, 0, none⟩ (.int .i64 p)).setCell ⟨t, 1, none⟩ y) := by
  have h6 := heap_setCell_same w1 t 0 _ 25 (.int .i64 p) hr
  have h7 := heap_setCell_same _ t 1 _ 25 y h6
  refine ⟨by simpa using h7, (hO.keep fun b hb' _ => (heap_setCell_other _ ⟨t, 1, none⟩ b _ (by show b ≠ t; omega)).trans (heap_setCell_other w1 ⟨t, 0, none⟩ b _ (by show b ≠ t; omega))).rw, ?_⟩
  exact (hb.setCell (p := ⟨t, 0, none⟩) hs _).setCell (p := ⟨t, 1, none⟩) hs _
theorem res_none {w w1 : World} {t s : Nat} (hr : w1.heap[t]? = some (.cells #[.int .i64 0, .slice none 0 0] 25 (0, 0))) (hb : Below s w w1) (hs : s ≤ t) :
    ((w1.setCell ⟨t, 0, none⟩ (.int .i64 0)).setCell ⟨t, 1, none⟩ (.slice none 0 0)).heap[t]? = some (.cells #[.int .i64 0, .slice none 0 0] 25 (0, 0)) ∧ Below s w ((w1.setCell ⟨t, 0, none⟩ (.int .i64 0)).setCell ⟨t, 1, none⟩ (.slice none 0 0)) := by
  have h6 := heap_setCell_same w1 t 0 _ 25 (.int .i64 0) hr
  have h7 := heap_setCell_same _ t 1 _ 25 (.slice none 0 0) h6
  exact ⟨by simpa using h7, (hb.setCell (p := ⟨t, 0, none⟩) hs _).setCell (p := ⟨t, 1, none⟩) hs _⟩
end Go.Proofs.YtgpkhfpejopacabGreatDoor

namespace Go.Proofs.YtgpkhfpejopacabGreatDoor
open Go.RowKit

/-- What Grow tells. -/
def GoT (v : Int) (ls : List (List Int)) (p f : Int) (Z : List (List Nat)) : Prop := (GfT v ls f ∧ f ≠ 0 ∧ p = 0 ∧ Z = []) ∨ (∃ (n : Nat) (L : List (List Nat)), v = n ∧ ls = toZ L ∧ Pk n L ∧ 1 ≤ n ∧ n ≤ 9 ∧ ls.length ≤ 200 ∧ ((gr n 12 L = none ∧ f = 4 ∧ p = 0 ∧ Z = []) ∨ (∃ R, gr n 12 L = some R ∧ f = 0 ∧ p = n ∧ Srtd R Z)))
def GoP (v : Int) (ls : List (List Int)) (w : World) (e : Ending) (w' : World) : Prop := ∃ x Z p f, e = .returned (.tuple #[.agg #[.int .i64 p, x], .int .i64 f]) ∧ GoT v ls p f Z ∧ Rw w' x (toZ Z) ∧ Below w.heap.size w w'
theorem rw_nil0 (w : World) : Rw w (.slice none 0 0) (toZ []) := ⟨none, 0, rfl, fun i l h => by simp [toZ] at h⟩
theorem GoP.bad {v f : Int} {ls : List (List Int)} {w w' : World} (h : GfT v ls f) (hf : f ≠ 0) (hb : Below w.heap.size w w') : GoP v ls w (.returned (.tuple #[.agg #[.int .i64 0, .slice none 0 0], .int .i64 f])) w' := ⟨_, [], 0, f, rfl, .inl ⟨h, hf, rfl, rfl⟩, rw_nil0 _, hb⟩
theorem rows_any {w : World} {u : Value} {ls : List (List Int)} (hu : Rw w u ls) : ∃ a cap, u = .slice a ls.length cap ∧ ∀ i, i < ls.length → ∃ l b off r, ls[i]? = some l ∧ a = some ⟨b, off, none⟩ ∧ ∀ W, Below w.heap.size w W → W.cell? ⟨b, off + i, none⟩ = some r ∧ Sl W r l := by
  obtain ⟨a, cap, rfl, h⟩ := hu
  refine ⟨a, cap, rfl, fun i hi => ?_⟩
  obtain ⟨b, off, r, e, hc, hs⟩ := h i _ (List.getElem?_eq_getElem hi)
  exact ⟨_, b, off, r, List.getElem?_eq_getElem hi, e, fun W hW => ⟨(hW.cell (World.block_lt_of_cell? _ _ hc)).trans hc, hs.below hW⟩⟩
theorem sl_thr {w : World} {r : Value} {x y z : Nat} (h : Sl w r ([x, y, z].map Int.ofNat)) : ∃ rq ro rc, r = .slice (some ⟨rq, ro, none⟩) 3 rc ∧ ∀ W, Below w.heap.size w W → W.cell? ⟨rq, ro, none⟩ = some (.int .i64 (x : Int)) ∧ W.cell? ⟨rq, ro + 1, none⟩ = some (.int .i64 (y : Int)) ∧ W.cell? ⟨rq, ro + 2, none⟩ = some (.int .i64 (z : Int)) := by
  obtain ⟨a, cap, rfl, h⟩ := h
  obtain ⟨b, off, rfl, h0⟩ := h 0 (by simp)
  obtain ⟨b1, o1, e1, h1⟩ := h 1 (by simp)
  obtain ⟨b2, o2, e2, h2⟩ := h 2 (by simp)
  cases e1
  cases e2
  exact ⟨b, off, cap, rfl, fun W hW => ⟨(hW.cell (World.block_lt_of_cell? _ _ h0)).trans h0, (hW.cell (World.block_lt_of_cell? _ _ h1)).trans h1, (hW.cell (World.block_lt_of_cell? _ _ h2)).trans h2⟩⟩
theorem tc_nil (i : Nat) : tc [] i = false := by unfold tc cv; simp
theorem gR_nil (v : Nat) : gR v (tc []) = gR v (fun _ => false) := gR_congr fun i _ => tc_nil i
theorem zero_cells (v : Nat) : Tryz.zeroCells65.setIfInBounds 1 (.int .i64 (v : Int)) = (.slice none 0 0 :: gR v (fun _ => false)).toArray := by kernel_rfl
theorem Gr.kp_rows {w w0 w2 wr : World} {base gb : Nat} (hb : Below w.heap.size w w2) (hg : w.heap.size ≤ gb) (h : Kp base gb w2 wr) (_ : w0 = w0) : Below w.heap.size w wr := hb.trans (h.lo.mono hg)
set_option maxRecDepth 100000 in
set_option maxHeartbeats 4000000 in
theorem Grow_far (v : Int) (ls : List (List Int)) (n : Nat) (u : Value) (w : World) (hu : ∃ a c, u = .slice a n c) (h : v < 1 ∨ 9 < v) : Calls Tryz.prog 6 #[.int .i64 v, u] w (GoP v ls w) := by
  have hr := heap_alloc_new w (.cells #[.int .i64 0, .slice none 0 0] 25)
  have HB0 : Hid (Below w.heap.size w (w.alloc (.cells #[.int .i64 0, .slice none 0 0] 25))) := balloc w _
  have H7 : Hid (_ ∧ _) := res_none hr HB0.out (Nat.le_refl _)
  have H8 : Hid (_ ∧ Below w.heap.size w _) := ⟨hr, HB0.out⟩
  have HG : Hid (GfT v ls 1) := .inl ⟨rfl, h⟩
  have z0 := frozen_of_row _ _ 0 _ _ hr
  have z1 := frozen_of_row _ _ 1 _ _ hr
  have y0 := cell_of_row _ _ 0 _ _ _ hr
  have y1 := cell_of_row _ _ 1 _ _ _ hr
  obtain ⟨ua, uc, rfl⟩ := hu
  clear hr
  by_cases h1 : v < 1
  · have hd : decide (v < 1) = true := decide_eq_true h1
    clear h
    go_enter Tryz.func6, Tryz.ntmps6
    go_wp2
    first
      | exact post_d2 4 5 rfl rfl H8.out.1 rfl rfl (GoP.bad HG.out (by omega) H8.out.2)
      | exact post_d2 4 5 rfl rfl H7.out.1 rfl rfl (GoP.bad HG.out (by omega) H7.out.2)
  · have hd : decide (v < 1) = false := decide_eq_false h1
    have h2 : 9 < v := h.resolve_left h1
    have hd2 : decide (9 < v) = true := decide_eq_true h2
    have hd3 : decide (v > 9) = true := decide_eq_true h2
    clear h
    go_enter Tryz.func6, Tryz.ntmps6
    go_wp2
    first
      | exact post_d2 4 5 rfl rfl H8.out.1 rfl rfl (GoP.bad HG.out (by omega) H8.out.2)
      | exact post_d2 4 5 rfl rfl H7.out.1 rfl rfl (GoP.bad HG.out (by omega) H7.out.2)
set_option maxRecDepth 100000 in
set_option maxHeartbeats 4000000 in
theorem Grow_many (v : Int) (ls : List (List Int)) (u : Value) (w : World) (hu : ∃ a c, u = .slice a ls.length c) (h1 : 1 ≤ v) (h9 : v ≤ 9) (hl : ls.length ≤ maxLen) (h2 : 200 < ls.length) : Calls Tryz.prog 6 #[.int .i64 v, u] w (GoP v ls w) := by
  have hr := heap_alloc_new w (.cells #[.int .i64 0, .slice none 0 0] 25)
  have HB0 : Hid (Below w.heap.size w (w.alloc (.cells #[.int .i64 0, .slice none 0 0] 25))) := balloc w _
  have H7 : Hid (_ ∧ _) := res_none hr HB0.out (Nat.le_refl _)
  have H8 : Hid (_ ∧ Below w.heap.size w _) := ⟨hr, HB0.out⟩
  have HG : Hid (GfT v ls 3) := .inr (.inl ⟨rfl, h1, h9, h2⟩)
  have z0 := frozen_of_row _ _ 0 _ _ hr
  have z1 := frozen_of_row _ _ 1 _ _ hr
  have y0 := cell_of_row _ _ 0 _ _ _ hr
  have y1 := cell_of_row _ _ 1 _ _ _ hr
  obtain ⟨ua, uc, rfl⟩ := hu
  unfold maxLen at hl
  obtain ⟨n, Hn⟩ : ∃ n, Hid (ls.length = n) := ⟨_, rfl⟩
  rw [Hn.out] at h2 hl ⊢
  have hd : decide (v < 1) = false := decide_eq_false (by omega)
  have hd2 : decide (9 < v) = false := decide_eq_false (by omega)
  have hd3 : decide (v > 9) = false := decide_eq_false (by omega)
  have hd4 : decide ((200 : Int) < (n : Int)) = true := decide_eq_true (by omega)
  have hd5 : decide ((n : Int) > 200) = true := decide_eq_true (by omega)
  have h6 : ¬ v < 1 := by omega
  have h7 : ¬ 9 < v := by omega
  have h8 : (200 : Int) < (n : Int) := by omega
  clear hr
  go_enter Tryz.func6, Tryz.ntmps6
  go_wp2
  first
    | exact post_d2 4 5 rfl rfl H8.out.1 rfl rfl (GoP.bad HG.out (by omega) H8.out.2)
    | exact post_d2 4 5 rfl rfl H7.out.1 rfl rfl (GoP.bad HG.out (by omega) H7.out.2)
set_option maxRecDepth 100000 in
set_option maxHeartbeats 16000000 in
theorem Grow_in (v : Nat) (ls : List (List Int)) (u : Value) (w : World) (h1 : 1 ≤ v) (h9 : v ≤ 9) (hl : ls.length ≤ 200) (hll : ∀ l ∈ ls, l.length ≤ maxLen) (hu : Rw w u ls) : Calls Tryz.prog 6 #[.int .i64 (v : Int), u] w (GoP (v : Int) ls w) := by
  obtain ⟨a, cap, rfl, hrows⟩ := rows_any hu
  have HROW : Hid (∀ i, i < ls.length → ∃ l b off r, ls[i]? = some l ∧ a = some ⟨b, off, none⟩ ∧ ∀ W, Below w.heap.size w W → W.cell? ⟨b, off + i, none⟩ = some r ∧ Sl W r l) := hrows
  have HBAD : Hid (∀ (i : Nat) (l : List Int) (f : Nat), ls[i]? = some l → (∀ (j : Nat) (l' : List Int), j < i → ls[j]? = some l' → tFt (v : Int) l' = 0) → tFt (v : Int) l = f → f ≠ 0 → GfT (v : Int) ls (f : Int)) := fun i l f h2 h3 h4 h5 => .inr (.inr (.inl ⟨by omega, by omega, hl, i, l, h2, h3, by rw [h4], by omega⟩))
  have HALL : Hid ((∀ (j : Nat) (l' : List Int), j < ls.length → ls[j]? = some l' → tFt (v : Int) l' = 0) → ∃ L, ls = toZ L ∧ Rise3 v L) := fun h => all_rise fun l hl' => by
    obtain ⟨j, hj⟩ := List.getElem?_of_mem hl'
    exact h j l (List.getElem?_eq_some_iff.1 hj).1 hj
  have HMK : Hid (∀ L, ls = toZ L → Rise3 v L → ¬ Pk v L → GfT (v : Int) ls 6) := fun L e hR hp => .inr (.inr (.inr ⟨hl, v, L, rfl, h1, h9, e, hR, .inl ⟨hp, rfl⟩⟩))
  have HOK : Hid (∀ L p f Z, ls = toZ L → Pk v L → ((gr v 12 L = none ∧ f = 4 ∧ p = 0 ∧ Z = []) ∨ (∃ R, gr v 12 L = some R ∧ f = 0 ∧ p = ((v : Nat) : Int) ∧ Srtd R Z)) → GoT (v : Int) ls p f Z) := fun L p f Z e hp h => .inr ⟨v, L, rfl, e, hp, h1, h9, hl, h⟩
  have HCT : Hid (∀ (l : List Int) (r : Value) (W : World), l ∈ ls → Sl W r l → Calls Tryz.prog 25 #[.int .i64 (v : Int), r] W fun e w' => e = .returned (.int .i64 (tFt (v : Int) l : Int)) ∧ Below W.heap.size W w') := fun l r W hm hs => checkTriple_any v h1 h9 l r W hs (hll l hm)
  have hr0 := heap_alloc_new w (.cells #[.int .i64 0, .slice none 0 0] 25)
  have HB0 : Hid (Below w.heap.size w (w.alloc (.cells #[.int .i64 0, .slice none 0 0] 25))) := balloc w _
  have HT : Hid (∀ W, Below (w.heap.size + 1) (w.alloc (.cells #[.int .i64 0, .slice none 0 0] 25)) W → W.heap[w.heap.size]? = some (.cells #[.int .i64 0, .slice none 0 0] 25 (0, 0)) ∧ Below w.heap.size w W) := fun W h => ⟨(h.block _ (by omega)).trans hr0, HB0.out.trans (h.mono (by omega))⟩
  have HBS : Hid (Below (w.heap.size + 1) (w.alloc (.cells #[.int .i64 0, .slice none 0 0] 25)) (w.alloc (.cells #[.int .i64 0, .slice none 0 0] 25))) := Below.refl _ _
  have HNI : Hid (∀ (W : World), Below (w.heap.size + 1) (w.alloc (.cells #[.int .i64 0, .slice none 0 0] 25)) W → _) := fun W h => res_none (HT.out W h).1 (HT.out W h).2 (Nat.le_refl _)
  have HTL : Hid (∀ l ∈ ls, l.length ≤ maxLen) := hll
  have HTA0 : Hid (∀ (j : Nat) (l' : List Int), j < 0 → ls[j]? = some l' → tFt (v : Int) l' = 0) := fun j l' h => by omega
  have hd : decide ((v : Int) < 1) = false := decide_eq_false (by omega)
  have hd2 : decide (9 < (v : Int)) = false := decide_eq_false (by omega)
  have hd3 : decide ((v : Int) > 9) = false := decide_eq_false (by omega)
  have h6 : ¬ (v : Int) < 1 := by omega
  have h7 : ¬ 9 < (v : Int) := by omega
  generalize hn : ls.length = n at *
  have hd4 : decide ((200 : Int) < (n : Int)) = false := decide_eq_false (by omega)
  have hd5 : decide ((n : Int) > 200) = false := decide_eq_false (by omega)
  have h8 : ¬ (200 : Int) < (n : Int) := by omega
  obtain ⟨w0, Hw0⟩ : ∃ w0, Hid (w0 = (w.alloc (.cells #[.int .i64 0, .slice none 0 0] 25))) := ⟨_, rfl⟩
  rw [← Hw0.out] at HB0 HT HBS HNI
  clear hrows hu hll hr0
  go_enter Tryz.func6, Tryz.ntmps6
  go_wp2
  rw [← Hw0.out]
  go_loopw [25] (fun iv wr => ∃ (i : Nat), iv = .int .i64 (i : Int) ∧ i ≤ n ∧ Hid (∀ (j : Nat) (l' : List Int), j < i → ls[j]? = some l' → tFt (v : Int) l' = 0) ∧ Below (w.heap.size + 1) w0 wr) (fun iv _ => (n - intOf iv).toNat)
  case atStart => exact ⟨0, rfl, by omega, HTA0, HBS.out⟩
  case round =>
    clear HTA0 HBS
    obtain ⟨i, rfl, hi, HTA, hB⟩ := hrel
    by_cases hlt : i < n
    · have hdi : decide ((i : Int) < (n : Int)) = true := by simp; omega
      have hii : (i : Int) < (n : Int) := by omega
      have hni : ¬ (n : Int) ≤ (i : Int) := by omega
      obtain ⟨l, b, off, r, hli, rfl, hrow⟩ := HROW.out i hlt
      obtain ⟨rc, hs⟩ := hrow wr (HT.out wr hB).2
      have CT := HCT.out l r wr (List.mem_of_getElem? hli) hs
      obtain ⟨f, Hf⟩ : ∃ f, Hid (tFt (v : Int) l = f) := ⟨_, rfl⟩
      rw [Hf.out] at CT
      have HC : Hid (Calls Tryz.prog 25 #[.int .i64 (v : Int), r] wr fun e w' => e = .returned (.int .i64 (f : Int)) ∧ Below wr.heap.size wr w') := CT
      have HW : Hid (∀ W, Below wr.heap.size wr W → Below (w.heap.size + 1) w0 W) := fun W h => hB.trans (h.mono (by have := hB.size; have := HB0.out.size; rw [Hw0.out] at this; rw [World.size_alloc] at this; rw [Hw0.out, World.size_alloc] at *; omega))
      obtain ⟨ra, rcap, rfl, _⟩ := id hs
      by_cases hf : f ≠ 0
      · have HG : Hid (GfT (v : Int) ls (f : Int)) := HBAD.out i l f hli HTA.out Hf.out hf
        have g1 : ((f : Int) != 0) = true := by simp; omega
        have g2 : ¬ (f : Int) = 0 := by omega
        generalize l.length = ll at *
        clear hrow hs CT hB HTA
        go_wp2_with (go_at_call 25; refine HC.out.mono ?_; rintro e w1 ⟨rfl, hb⟩; clear HC; have hB1 := HW.out w1 hb; have H7 : Hid (_ ∧ _) := HNI.out w1 hB1; have H8 : Hid (_ ∧ _) := HT.out w1 hB1; have hr := H8.out.1; have z0 := frozen_of_row _ _ 0 _ _ hr; have z1 := frozen_of_row _ _ 1 _ _ hr; have y0 := cell_of_row _ _ 0 _ _ _ hr; have y1 := cell_of_row _ _ 1 _ _ _ hr; clear hr hb hB1)
        first
          | exact post_d2 4 5 rfl rfl H8.out.1 rfl rfl (GoP.bad HG.out (by omega) H8.out.2)
          | exact post_d2 4 5 rfl rfl H7.out.1 rfl rfl (GoP.bad HG.out (by omega) H7.out.2)
      · have hf0 : f = 0 := by omega
        subst hf0
        have HT2 : Hid (∀ (j : Nat) (l' : List Int), j < i + 1 → ls[j]? = some l' → tFt (v : Int) l' = 0) := fun j l' hj he => by
          by_cases e : j = i
          · subst e
            rw [hli] at he
            cases he
            exact Hf.out
          · exact HTA.out j l' (by omega) he
        generalize l.length = ll at *
        clear hrow hs CT hB HTA
        go_wp2_with (go_at_call 25; refine HC.out.mono ?_; rintro e w1 ⟨rfl, hb⟩; clear HC; have hB1 := HW.out w1 hb; clear hb)
        go_roundw
        case rel => exact ⟨i + 1, by go_num, by omega, HT2, hB1⟩
        case measure => simp [intOf]; omega
    · have hdi : decide ((i : Int) < (n : Int)) = false := by simp; omega
      have hii : ¬ (i : Int) < (n : Int) := by omega
      obtain rfl : i = n := by omega
      obtain ⟨L, hLs, hR⟩ := HALL.out HTA.out
      have hnL : L.length = i := by rw [← hn, hLs]; simp [toZ]
      have HR3 : Hid (Rise3 v L) := hR
      have HLS : Hid (ls = toZ L) := hLs
      have hgbs : w.heap.size + 1 ≤ wr.heap.size := by have := hB.size; have e := congrArg (fun w : World => w.heap.size) Hw0.out; simp at e; omega
      have HBg : Hid (Below (w.heap.size + 1) w0 wr) := hB
      have hgr0 : Gr (wr.alloc (.cells (.slice none 0 0 :: gR v (fun _ => false)).toArray 65)) (wr.heap.size + 1) wr.heap.size v [] := by
        refine ⟨.slice none 0 0, ?_, OR.nil _ _, by omega, by simp⟩
        rw [gR_nil]
        exact heap_alloc_new wr _
      have HG0 : Hid (Gr (wr.alloc (.cells (.slice none 0 0 :: gR v (fun _ => false)).toArray 65)) (wr.heap.size + 1) wr.heap.size v (L.take 0)) := hgr0
      have HBG : Hid (Below wr.heap.size wr (wr.alloc (.cells (.slice none 0 0 :: gR v (fun _ => false)).toArray 65))) := balloc wr _
      have HZC : Hid (Tryz.zeroCells65.setIfInBounds 1 (.int .i64 (v : Int)) = (.slice none 0 0 :: gR v (fun _ => false)).toArray) := zero_cells v
      have HG2 : Hid (∀ L' : List (List Nat), L' = L.take i → L' = L) := fun L' e => by rw [e, ← hnL, List.take_length]
      clear hgr0 hR hLs hB
      go_wp2
      rw [HZC.out]
      obtain ⟨w3, Hw3⟩ : ∃ w3, Hid (w3 = wr.alloc (.cells (.slice none 0 0 :: gR v (fun _ => false)).toArray 65)) := ⟨_, rfl⟩
      rw [← Hw3.out] at HG0 HBG ⊢
      have HWW : Hid (∀ W, Kp (wr.heap.size + 1) wr.heap.size w3 W → W.heap[w.heap.size]? = some (.cells #[.int .i64 0, .slice none 0 0] 25 (0, 0)) ∧ Below w.heap.size w W) := fun W h => by
        obtain ⟨k1, k2⟩ := HT.out w3 (HBg.out.trans (HBG.out.mono hgbs))
        exact ⟨(h.lo.block _ (by omega)).trans k1, k2.trans (h.lo.mono (by omega))⟩
      have HNW : Hid (∀ W, Kp (wr.heap.size + 1) wr.heap.size w3 W → _) := fun W h => res_none (HWW.out W h).1 (HWW.out W h).2 (Nat.le_refl _)
      generalize hgb : wr.heap.size = gb at *
      have HP0 : Hid (Pk v (L.take 0)) := Pk.nil v
      have HK0 : Hid (Kp (gb + 1) gb w3 w3) := Kp.refl _ _ _
      clear Hw3 HBG HBg HZC HT HNI HCT HBAD HALL hgb hdi hii hd4 hd5 h8
      go_loopw [42] (fun iv wr => ∃ (k : Nat), iv = .int .i64 (k : Int) ∧ k ≤ i ∧ Hid (Pk v (L.take k)) ∧ Gr wr (gb + 1) gb v (L.take k) ∧ Kp (gb + 1) gb w3 wr) (fun iv _ => (i - intOf iv).toNat)
      case atStart => exact ⟨0, rfl, by omega, HP0, HG0.out, HK0.out⟩
      case round =>
        clear HP0 HG0 HK0
        obtain ⟨k, rfl, hk, HP, hG, hK⟩ := hrel
        by_cases hlk : k < i
        · have hdk : decide ((k : Int) < (i : Int)) = true := by simp; omega
          have hki : (k : Int) < (i : Int) := by omega
          have hnk : ¬ (i : Int) ≤ (k : Int) := by omega
          obtain ⟨l, b, off, r, hli, rfl, hrow⟩ := HROW.out k hlk
          obtain ⟨c, hc⟩ : ∃ c, L[k]? = some c := ⟨_, List.getElem?_eq_getElem (by omega)⟩
          obtain ⟨x, y, z, rfl, hxy, hyz, hzv⟩ := HR3.out c (List.mem_of_getElem? hc)
          have hl2 : l = [x, y, z].map Int.ofNat := by
            rw [HLS.out] at hli
            unfold toZ at hli
            rw [List.getElem?_map, hc] at hli
            exact (Option.some.inj hli).symm
          subst hl2
          obtain ⟨rc0, hs⟩ := hrow wr (HWW.out wr hK).2
          obtain ⟨rq, ro, rc, rfl, hcell⟩ := sl_thr hs
          have HCE : Hid (∀ W, Below wr.heap.size wr W → W.cell? ⟨rq, ro, none⟩ = some (.int .i64 (x : Int)) ∧ W.cell? ⟨rq, ro + 1, none⟩ = some (.int .i64 (y : Int)) ∧ W.cell? ⟨rq, ro + 2, none⟩ = some (.int .i64 (z : Int))) := hcell
          obtain ⟨_, hsw⟩ := hrow w (Below.refl _ _)
          obtain ⟨rq2, ro2, rc2, er, hcw⟩ := sl_thr hsw
          cases er
          have HCW : Hid (∀ W, Kp (gb + 1) gb w3 W → W.cell? ⟨rq, ro, none⟩ = some (.int .i64 (x : Int)) ∧ W.cell? ⟨rq, ro + 1, none⟩ = some (.int .i64 (y : Int)) ∧ W.cell? ⟨rq, ro + 2, none⟩ = some (.int .i64 (z : Int))) := fun W h => hcw W (HWW.out W h).2
          have hGd : Gr wr.drew (gb + 1) gb v (L.take k) := hG
          have hKd : Kp (gb + 1) gb w3 wr.drew := ⟨hK.lo.drew, hK.at'⟩
          have CL := lay_any (gb + 1) gb v x y z (L.take k) wr.drew hGd hxy hyz (by omega) (by have := HP.out.few h9; omega)
          have HKD : Hid (Kp (gb + 1) gb w3 wr.drew) := hKd
          have HKU : Hid (Kp (gb + 1) gb w3 wr) := hK
          have HTK : Hid (L.take (k + 1) = L.take k ++ [[x, y, z]]) := by show _ = _; rw [List.take_add_one, hc]; rfl
          cases hcv : (cv (L.take k) x y || cv (L.take k) x z || cv (L.take k) y z)
          · have HPN : Hid (Pk v (L.take (k + 1))) := pk_next HP.out hc hxy hyz hzv hcv
            rw [hcv] at CL
            have CL2 : Hid (Calls Tryz.prog 26 #[.pointer (some ⟨gb, 0, none⟩), .int .i64 (x : Int), .int .i64 (y : Int), .int .i64 (z : Int)] wr.drew fun e w' => e = .returned (.bool true) ∧ Gr w' (gb + 1) gb v (L.take (k + 1)) ∧ Kp (gb + 1) gb w3 w') := by
              refine CL.mono ?_
              rintro e w' (⟨h0, _⟩ | ⟨_, rfl, hg, hk⟩)
              · cases h0
              · exact ⟨rfl, by rw [HTK.out]; exact hg, hKd.trans hk⟩
            clear CL hcv hcell hcw hrow hs hsw hG hK hGd hKd hc hli
            go_wp2
            clear rc0
            refine wp_region_noPanic ?_
            refine wp_region_held_drew (S := fun w' => w'.cell? ⟨rq, ro, none⟩ = some (.int .i64 (x : Int)) ∧ w'.cell? ⟨rq, ro + 1, none⟩ = some (.int .i64 (y : Int)) ∧ w'.cell? ⟨rq, ro + 2, none⟩ = some (.int .i64 (z : Int))) (by kernel_rfl) (HCW.out _ HKD.out) (fun hSx => ?_)
            refine wpAnyH_take (i := 0) (v := .pointer (some ⟨gb, 0, none⟩)) rfl (by kernel_rfl) (by kernel_rfl) (by kernel_rfl) (fun _ _ _ h => h) (Or.inl ⟨by rfl, fun w' hSw => by (try dsimp only at hSw); obtain ⟨hs0, hs1, hs2⟩ := hSw; go_simp⟩) hSx ?_
            try simp only [Act.put, List.setIfInBounds_toArray]
            refine wpAnyH_take (i := 1) (v := .slice (some ⟨rq, ro, none⟩) 3 rc) rfl (by kernel_rfl) (by kernel_rfl) (by kernel_rfl) (fun _ _ _ h => h) (Or.inl ⟨by rfl, fun w' hSw => by (try dsimp only at hSw); obtain ⟨hs0, hs1, hs2⟩ := hSw; go_simp⟩) hSx ?_
            try simp only [Act.put]
            refine wpAnyH_take (i := 2) (v := .pointer (some ⟨rq, ro, none⟩)) rfl (by kernel_rfl) (by kernel_rfl) (by kernel_rfl) (fun _ _ _ h => h) (Or.inl ⟨by rfl, fun w' hSw => by (try dsimp only at hSw); obtain ⟨hs0, hs1, hs2⟩ := hSw; go_simp⟩) hSx ?_
            try simp only [Act.put]
            refine wpAnyH_take (i := 3) (v := .int .i64 (x : Int)) rfl (by kernel_rfl) (by kernel_rfl) (by kernel_rfl) (fun _ _ _ h => h) (Or.inl ⟨by rfl, fun w' hSw => by (try dsimp only at hSw); obtain ⟨hs0, hs1, hs2⟩ := hSw; go_simp⟩) hSx ?_
            try simp only [Act.put]
            refine wpAnyH_take (i := 4) (v := .slice (some ⟨rq, ro, none⟩) 3 rc) rfl (by kernel_rfl) (by kernel_rfl) (by kernel_rfl) (fun _ _ _ h => h) (Or.inl ⟨by rfl, fun w' hSw => by (try dsimp only at hSw); obtain ⟨hs0, hs1, hs2⟩ := hSw; go_simp⟩) hSx ?_
            try simp only [Act.put]
            refine wpAnyH_take (i := 5) (v := .pointer (some ⟨rq, ro + 1, none⟩)) rfl (by kernel_rfl) (by kernel_rfl) (by kernel_rfl) (fun _ _ _ h => h) (Or.inl ⟨by rfl, fun w' hSw => by (try dsimp only at hSw); obtain ⟨hs0, hs1, hs2⟩ := hSw; go_simp⟩) hSx ?_
            try simp only [Act.put]
            refine wpAnyH_take (i := 6) (v := .int .i64 (y : Int)) rfl (by kernel_rfl) (by kernel_rfl) (by kernel_rfl) (fun _ _ _ h => h) (Or.inl ⟨by rfl, fun w' hSw => by (try dsimp only at hSw); obtain ⟨hs0, hs1, hs2⟩ := hSw; go_simp⟩) hSx ?_
            try simp only [Act.put]
            refine wpAnyH_take (i := 7) (v := .slice (some ⟨rq, ro, none⟩) 3 rc) rfl (by kernel_rfl) (by kernel_rfl) (by kernel_rfl) (fun _ _ _ h => h) (Or.inl ⟨by rfl, fun w' hSw => by (try dsimp only at hSw); obtain ⟨hs0, hs1, hs2⟩ := hSw; go_simp⟩) hSx ?_
            try simp only [Act.put]
            refine wpAnyH_take (i := 8) (v := .pointer (some ⟨rq, ro + 2, none⟩)) rfl (by kernel_rfl) (by kernel_rfl) (by kernel_rfl) (fun _ _ _ h => h) (Or.inl ⟨by rfl, fun w' hSw => by (try dsimp only at hSw); obtain ⟨hs0, hs1, hs2⟩ := hSw; go_simp⟩) hSx ?_
            try simp only [Act.put]
            refine wpAnyH_take (i := 9) (v := .int .i64 (z : Int)) rfl (by kernel_rfl) (by kernel_rfl) (by kernel_rfl) (fun _ _ _ h => h) (Or.inl ⟨by rfl, fun w' hSw => by (try dsimp only at hSw); obtain ⟨hs0, hs1, hs2⟩ := hSw; go_simp⟩) hSx ?_
            try simp only [Act.put]
            refine wpAnyH_ready (rs := [10]) (by kernel_rfl) (by simp) ?_
            refine AllReadyH.cons rfl (fun J hJ => ?_) AllReadyH.nil
            go_simp
            refine (CL2.out).mono ?_
            rintro e w4 ⟨rfl, hG4, hK4⟩
            clear CL2
            go_wp2_with fail
            refine hJ.out _ _ (HCW.out _ hK4) (fun hSx => ?_)
            clear hJ J
            try simp only [Act.put, List.setIfInBounds_toArray, List.set_cons_zero, List.set_cons_succ]
            refine wpAnyH_take (i := 11) (v := .bool false) rfl (by kernel_rfl) (by kernel_rfl) (by kernel_rfl) (fun _ _ _ h => h) (Or.inl ⟨by rfl, fun w' hSw => by (try dsimp only at hSw); obtain ⟨hs0, hs1, hs2⟩ := hSw; go_simp⟩) hSx ?_
            try simp only [Act.put, List.setIfInBounds_toArray]
            refine wpAnyH_done (by kernel_rfl) ?_ _
            refine NoPanic.normal ?_
            clear hSx
            go_wp2
            go_roundw
            case rel => exact ⟨k + 1, by go_num, by omega, HPN, hG4, hK4⟩
            case measure => simp [intOf]; omega
          · have HMB : Hid (GfT (v : Int) ls 6) := HMK.out L HLS.out HR3.out (pk_not hc hxy hyz hzv hcv)
            rw [hcv] at CL
            have CL2 : Hid (Calls Tryz.prog 26 #[.pointer (some ⟨gb, 0, none⟩), .int .i64 (x : Int), .int .i64 (y : Int), .int .i64 (z : Int)] wr.drew fun e w' => e = .returned (.bool false) ∧ w' = wr.drew) := by
              refine CL.mono ?_
              rintro e w' (⟨_, rfl, hw⟩ | ⟨h0, _⟩)
              · exact ⟨rfl, hw⟩
              · cases h0
            clear CL hcv hcell hcw hrow hs hsw hG hK hGd hc hli
            go_wp2
            clear rc0
            refine wp_region_noPanic ?_
            refine wp_region_held_drew (S := fun w' => w'.cell? ⟨rq, ro, none⟩ = some (.int .i64 (x : Int)) ∧ w'.cell? ⟨rq, ro + 1, none⟩ = some (.int .i64 (y : Int)) ∧ w'.cell? ⟨rq, ro + 2, none⟩ = some (.int .i64 (z : Int))) (by kernel_rfl) (HCW.out _ HKD.out) (fun hSx => ?_)
            refine wpAnyH_take (i := 0) (v := .pointer (some ⟨gb, 0, none⟩)) rfl (by kernel_rfl) (by kernel_rfl) (by kernel_rfl) (fun _ _ _ h => h) (Or.inl ⟨by rfl, fun w' hSw => by (try dsimp only at hSw); obtain ⟨hs0, hs1, hs2⟩ := hSw; go_simp⟩) hSx ?_
            try simp only [Act.put, List.setIfInBounds_toArray]
            refine wpAnyH_take (i := 1) (v := .slice (some ⟨rq, ro, none⟩) 3 rc) rfl (by kernel_rfl) (by kernel_rfl) (by kernel_rfl) (fun _ _ _ h => h) (Or.inl ⟨by rfl, fun w' hSw => by (try dsimp only at hSw); obtain ⟨hs0, hs1, hs2⟩ := hSw; go_simp⟩) hSx ?_
            try simp only [Act.put]
            refine wpAnyH_take (i := 2) (v := .pointer (some ⟨rq, ro, none⟩)) rfl (by kernel_rfl) (by kernel_rfl) (by kernel_rfl) (fun _ _ _ h => h) (Or.inl ⟨by rfl, fun w' hSw => by (try dsimp only at hSw); obtain ⟨hs0, hs1, hs2⟩ := hSw; go_simp⟩) hSx ?_
            try simp only [Act.put]
            refine wpAnyH_take (i := 3) (v := .int .i64 (x : Int)) rfl (by kernel_rfl) (by kernel_rfl) (by kernel_rfl) (fun _ _ _ h => h) (Or.inl ⟨by rfl, fun w' hSw => by (try dsimp only at hSw); obtain ⟨hs0, hs1, hs2⟩ := hSw; go_simp⟩) hSx ?_
            try simp only [Act.put]
            refine wpAnyH_take (i := 4) (v := .slice (some ⟨rq, ro, none⟩) 3 rc) rfl (by kernel_rfl) (by kernel_rfl) (by kernel_rfl) (fun _ _ _ h => h) (Or.inl ⟨by rfl, fun w' hSw => by (try dsimp only at hSw); obtain ⟨hs0, hs1, hs2⟩ := hSw; go_simp⟩) hSx ?_
            try simp only [Act.put]
            refine wpAnyH_take (i := 5) (v := .pointer (some ⟨rq, ro + 1, none⟩)) rfl (by kernel_rfl) (by kernel_rfl) (by kernel_rfl) (fun _ _ _ h => h) (Or.inl ⟨by rfl, fun w' hSw => by (try dsimp only at hSw); obtain ⟨hs0, hs1, hs2⟩ := hSw; go_simp⟩) hSx ?_
            try simp only [Act.put]
            refine wpAnyH_take (i := 6) (v := .int .i64 (y : Int)) rfl (by kernel_rfl) (by kernel_rfl) (by kernel_rfl) (fun _ _ _ h => h) (Or.inl ⟨by rfl, fun w' hSw => by (try dsimp only at hSw); obtain ⟨hs0, hs1, hs2⟩ := hSw; go_simp⟩) hSx ?_
            try simp only [Act.put]
            refine wpAnyH_take (i := 7) (v := .slice (some ⟨rq, ro, none⟩) 3 rc) rfl (by kernel_rfl) (by kernel_rfl) (by kernel_rfl) (fun _ _ _ h => h) (Or.inl ⟨by rfl, fun w' hSw => by (try dsimp only at hSw); obtain ⟨hs0, hs1, hs2⟩ := hSw; go_simp⟩) hSx ?_
            try simp only [Act.put]
            refine wpAnyH_take (i := 8) (v := .pointer (some ⟨rq, ro + 2, none⟩)) rfl (by kernel_rfl) (by kernel_rfl) (by kernel_rfl) (fun _ _ _ h => h) (Or.inl ⟨by rfl, fun w' hSw => by (try dsimp only at hSw); obtain ⟨hs0, hs1, hs2⟩ := hSw; go_simp⟩) hSx ?_
            try simp only [Act.put]
            refine wpAnyH_take (i := 9) (v := .int .i64 (z : Int)) rfl (by kernel_rfl) (by kernel_rfl) (by kernel_rfl) (fun _ _ _ h => h) (Or.inl ⟨by rfl, fun w' hSw => by (try dsimp only at hSw); obtain ⟨hs0, hs1, hs2⟩ := hSw; go_simp⟩) hSx ?_
            try simp only [Act.put]
            refine wpAnyH_ready (rs := [10]) (by kernel_rfl) (by simp) ?_
            refine AllReadyH.cons rfl (fun J hJ => ?_) AllReadyH.nil
            go_simp
            refine (CL2.out).mono ?_
            rintro e w4 ⟨rfl, hw⟩
            replace hw := hw.symm
            subst hw
            clear CL2
            go_wp2_with fail
            refine hJ.out _ _ (HCW.out _ HKD.out) (fun hSx => ?_)
            clear hJ J
            try simp only [Act.put, List.setIfInBounds_toArray, List.set_cons_zero, List.set_cons_succ]
            refine wpAnyH_take (i := 11) (v := .bool true) rfl (by kernel_rfl) (by kernel_rfl) (by kernel_rfl) (fun _ _ _ h => h) (Or.inl ⟨by rfl, fun w' hSw => by (try dsimp only at hSw); obtain ⟨hs0, hs1, hs2⟩ := hSw; go_simp⟩) hSx ?_
            try simp only [Act.put, List.setIfInBounds_toArray]
            refine wpAnyH_done (by kernel_rfl) ?_ _
            refine NoPanic.normal ?_
            clear hSx
            have H7 : Hid (_ ∧ _) := HNW.out _ hKd
            have H8 : Hid (_ ∧ _) := HWW.out _ hKd
            have hr := (HWW.out wr HKU.out).1
            have z0 := frozen_of_row _ _ 0 _ _ hr
            have z1 := frozen_of_row _ _ 1 _ _ hr
            have y0 := cell_of_row _ _ 0 _ _ _ hr
            have y1 := cell_of_row _ _ 1 _ _ _ hr
            clear hr hKd
            have HU := HNW.out wr HKU.out
            have H9 : Hid (((wr.setCell ⟨w.heap.size, 0, none⟩ (.int .i64 0)).setCell ⟨w.heap.size, 1, none⟩ (.slice none 0 0)).drew.heap[w.heap.size]? = some (.cells #[.int .i64 0, .slice none 0 0] 25 (0, 0)) ∧ Below w.heap.size w ((wr.setCell ⟨w.heap.size, 0, none⟩ (.int .i64 0)).setCell ⟨w.heap.size, 1, none⟩ (.slice none 0 0)).drew) := ⟨HU.1, HU.2.drew⟩
            clear HU
            go_wp2
            first
              | exact post_d2 4 5 rfl rfl H9.out.1 rfl rfl (GoP.bad HMB.out (by omega) H9.out.2)
              | exact post_d2 4 5 rfl rfl H8.out.1 rfl rfl (GoP.bad HMB.out (by omega) H8.out.2)
              | exact post_d2 4 5 rfl rfl H7.out.1 rfl rfl (GoP.bad HMB.out (by omega) H7.out.2)
        · have hdk : decide ((k : Int) < (i : Int)) = false := by simp; omega
          have hki : ¬ (k : Int) < (i : Int) := by omega
          obtain rfl : k = i := by omega
          have eL := HG2.out _ rfl
          rw [eL] at hG HP
          have CF := fill_any v (gb + 1) gb h9 12 L wr hG HP.out (by omega)
          have HKW : Hid (Kp (gb + 1) gb w3 wr) := hK
          cases hgr : gr v 12 L with
          | none =>
            have CF2 : Hid (Calls Tryz.prog 27 #[.pointer (some ⟨gb, 0, none⟩)] wr fun e w' => e = .returned (.bool false) ∧ Kp (gb + 1) gb w3 w') := by
              refine CF.mono ?_
              rintro e w' (⟨R', e1, _⟩ | ⟨_, rfl, _, hk⟩)
              · rw [hgr] at e1; cases e1
              · exact ⟨rfl, hK.trans hk⟩
            have HGO : Hid (GoT (v : Int) ls 0 4 []) := HOK.out L 0 4 [] HLS.out HP.out (.inl ⟨hgr, rfl, rfl, rfl⟩)
            clear CF hgr hG hK eL
            go_wp2_with (go_at_call 27; refine CF2.out.mono ?_; rintro e w4 ⟨rfl, hk⟩; clear CF2; have H7 : Hid (_ ∧ _) := HNW.out w4 hk; have H8 : Hid (_ ∧ _) := HWW.out w4 hk; have hr := H8.out.1; have z0 := frozen_of_row _ _ 0 _ _ hr; have z1 := frozen_of_row _ _ 1 _ _ hr; have y0 := cell_of_row _ _ 0 _ _ _ hr; have y1 := cell_of_row _ _ 1 _ _ _ hr; clear hr hk)
            first
              | exact post_d2 4 5 rfl rfl H8.out.1 rfl rfl ⟨_, [], 0, 4, rfl, HGO.out, rw_nil0 _, H8.out.2⟩
              | exact post_d2 4 5 rfl rfl H7.out.1 rfl rfl ⟨_, [], 0, 4, rfl, HGO.out, rw_nil0 _, H7.out.2⟩
          | some R =>
            have CF2 : Hid (Calls Tryz.prog 27 #[.pointer (some ⟨gb, 0, none⟩)] wr fun e w' => e = .returned (.bool true) ∧ Gr w' (gb + 1) gb v R ∧ Kp (gb + 1) gb w3 w') := by
              refine CF.mono ?_
              rintro e w' (⟨R', e1, rfl, hg, hk⟩ | ⟨e1, _⟩)
              · rw [hgr] at e1
                cases e1
                exact ⟨rfl, hg, hK.trans hk⟩
              · rw [hgr] at e1; cases e1
            obtain ⟨pR, _, _⟩ := gr_sys HP.out hgr
            have HTE : Hid (∀ W, Gr W (gb + 1) gb v R → Calls Tryz.prog 28 #[.pointer (some ⟨gb, 0, none⟩), .int .i64 (v : Int)] W fun e w' => ∃ x Z, e = .returned (.agg #[.int .i64 (v : Int), x]) ∧ Srtd R Z ∧ OR w' (gb + 1) x Z ∧ Below (gb + 1) W w') := fun W hW => tell_any v (gb + 1) gb 65 _ R W hW pR.three (by have := pR.few h9; omega)
            have HGO : Hid (∀ Z, Srtd R Z → GoT (v : Int) ls (v : Int) 0 Z) := fun Z hZ => HOK.out L _ 0 Z HLS.out HP.out (.inr ⟨R, hgr, rfl, rfl, hZ⟩)
            clear CF hgr hG hK eL pR
            go_wp2_with (first
              | (go_at_call 27; refine CF2.out.mono ?_; rintro e w4 ⟨rfl, hg, hk⟩; clear CF2; have HG4 : Hid (Gr w4 (gb + 1) gb v R) := hg; have HK4 : Hid (Kp (gb + 1) gb w3 w4) := hk; clear hg hk)
              | (go_at_call 28; refine (HTE.out w4 HG4.out).mono ?_; rintro e w5 ⟨tx, Z, rfl, hS, hO, hb⟩; clear HTE; have hr : w5.heap[w.heap.size]? = _ := (hb.block _ (by omega)).trans (HWW.out w4 HK4.out).1; obtain ⟨xa, xc, rfl⟩ := hO.cap; have HS5 : Hid (Srtd R Z) := hS; have H7 : Hid (_ ∧ _ ∧ _) := res_put (p := (v : Int)) hr ((HWW.out w4 HK4.out).2.trans (hb.mono (by omega))) (Nat.le_refl _) (by omega) hO; have z0 := frozen_of_row _ _ 0 _ _ hr; have z1 := frozen_of_row _ _ 1 _ _ hr; have y0 := cell_of_row _ _ 0 _ _ _ hr; have y1 := cell_of_row _ _ 1 _ _ _ hr; generalize Z.length = zl at *; clear hr hb hO hS))
            exact post_d2 4 5 rfl rfl H7.out.1 rfl rfl ⟨_, Z, _, 0, rfl, HGO.out Z HS5.out, H7.out.2.1, H7.out.2.2⟩
theorem Grow_any (v : Int) (ls : List (List Int)) (u : Value) (w : World) (hu : Rw w u ls) (hl : ls.length ≤ maxLen) (hll : ∀ l ∈ ls, l.length ≤ maxLen) : Calls Tryz.prog 6 #[.int .i64 v, u] w (GoP v ls w) := by
  have hu' : ∃ a c, u = .slice a ls.length c := by
    obtain ⟨a, c, e, _⟩ := hu
    exact ⟨a, c, e⟩
  by_cases h1 : v < 1 ∨ 9 < v
  · exact Grow_far v ls _ u w hu' h1
  · by_cases h2 : 200 < ls.length
    · exact Grow_many v ls u w hu' (by omega) (by omega) hl h2
    · obtain ⟨n, rfl⟩ : ∃ n : Nat, v = n := ⟨v.toNat, by omega⟩
      exact Grow_in n ls u w (by omega) (by omega) (by omega) hll hu

end Go.Proofs.YtgpkhfpejopacabGreatDoor
