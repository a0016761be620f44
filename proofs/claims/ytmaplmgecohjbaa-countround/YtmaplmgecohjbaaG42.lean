/- The walk of has. -/
import Derived.Test.YtmaplmgecohjbaaGK
import Derived.Test.YtmaplmgecohjbaaG59
import Derived.OrdersHeld
import Derived.Deep.RegionHeld3
namespace Go.Proofs.Ytmaplmgecohjbaa
open Go.RowKit Go.Maps

/-- Block G has the members L: a row of them, from block base on, and a set. -/
def Mem (base : Nat) (w : World) (G : Nat) (L : List (List Nat)) : Prop :=
  ∃ (v : Value) (B : Nat), w.heap[G]? = some (.cells #[v, .map (some B)] 88 (0, 0)) ∧ w.ownsRow base 90 7 v L.length (L.flatMap mvL) ∧ w.ownsMap Try.prog 90 (unitElem (H := Unit)) B L.length (setM L) ∧ base ≤ G ∧ base ≤ B
theorem omap_lt {w : World} {B n : Nat} {D : DataW Unit} (h : w.ownsMap Try.prog 90 (unitElem (H := Unit)) B n D) : B < w.heap.size := by
  obtain ⟨es, clock, hb, _⟩ := h
  exact (Array.getElem?_eq_some_iff.1 hb).1
theorem omap_below {w w' : World} {M B n : Nat} {D : DataW Unit} (h : w.ownsMap Try.prog 90 (unitElem (H := Unit)) B n D) (hb : Below M w w') (hM : B < M) : w'.ownsMap Try.prog 90 (unitElem (H := Unit)) B n D := by
  obtain ⟨es, clock, h1, h2⟩ := h
  exact ⟨es, clock, (hb.block B hM).trans h1, h2⟩
theorem orow_below {w w' : World} {base n : Nat} {e : TypeId} {size : Nat} {v : Value} {xs : List Value} (h : w.ownsRow base e size v n xs) (hb : Below w.heap.size w w') : w'.ownsRow base e size v n xs := by
  obtain ⟨h3, h4 | ⟨g, cap, cur, h5, h6, h7, h8⟩⟩ := h
  · exact ⟨h3, .inl h4⟩
  · exact ⟨h3, .inr ⟨g, cap, cur, h5, h6, (hb.block g (Array.getElem?_eq_some_iff.1 h7).1).trans h7, h8⟩⟩
theorem Mem.below {base : Nat} {w w' : World} {G : Nat} {L : List (List Nat)} (h : Mem base w G L) (hb : Below w.heap.size w w') : Mem base w' G L := by
  obtain ⟨v, B, h1, h2, h3, h4⟩ := h
  exact ⟨v, B, (hb.block G (Array.getElem?_eq_some_iff.1 h1).1).trans h1, orow_below h2 hb, omap_below h3 hb (omap_lt h3), h4⟩

/-- What the look-up's region reads. -/
def HS (w : World) (G B : Nat) (X : List Value) (L : List (List Nat)) (w' : World) : Prop :=
  w'.cell? ⟨G, 1, none⟩ = some (.map (some B)) ∧ w'.rangeAt w.heap.size 0 X ∧ w'.ownsMap Try.prog 90 (unitElem (H := Unit)) B L.length (setM L) ∧ w.heap.size < w'.heap.size ∧ Below w.heap.size w w'
theorem HS.alloc {w w' : World} {G B : Nat} {X : List Value} {L : List (List Nat)} (h : HS w G B X L w') (hG : G < w.heap.size) (o : Obj) : HS w G B X L (w'.alloc o) :=
  ⟨((balloc w' o).cell (p := ⟨G, 1, none⟩) (Nat.lt_trans hG h.2.2.2.1)).trans h.1, World.rangeAt_alloc h.2.1 _, omap_below h.2.2.1 (balloc _ _) (omap_lt h.2.2.1), by rw [World.size_alloc]; exact Nat.lt_succ_of_lt h.2.2.2.1, h.2.2.2.2.alloc (Nat.le_of_lt h.2.2.2.1) _⟩


set_option maxRecDepth 100000 in
set_option maxHeartbeats 1000000 in
theorem has_any (base G : Nat) (L : List (List Nat)) (x : List Nat) (w : World) (hM : Mem base w G L) (hL : ∀ y ∈ L, Small y) (hx : Small x) :
    Calls Try.prog 87 #[.pointer (some ⟨G, 0, none⟩), mv x] w fun e w' => e = .returned (.bool (decide (x ∈ L))) ∧ Below w.heap.size w w' := by
  obtain ⟨v, B, hG, _, hmap, _, _⟩ := hM
  have hGc := cell_of_row w G 1 _ _ _ hG
  have hGlt : G < w.heap.size := (Array.getElem?_eq_some_iff.1 hG).1
  have hBlt := omap_lt hmap
  have hkey := keyM_of hx
  rw [mv_eq] at hkey
  have hhas := has_setM hL hx
  rw [mv_eq, ← hhas]
  obtain ⟨b, Hb⟩ : ∃ b, Hid (Maps.has (setM L) (keyM x) = b) := ⟨_, rfl⟩
  obtain ⟨X, HX⟩ : ∃ X, Hid (mvL x = X) := ⟨_, rfl⟩
  have hinf : (Try.prog.info? 90).map (·.size) = some X.length := by rw [← HX.out]; exact inf62L x
  rw [HX.out] at hkey ⊢
  have hlook : ∀ w' : World, w'.ownsMap Try.prog 90 (unitElem (H := Unit)) B L.length (setM L) → (Instr.lookup 86 (.map (some B)) (.agg X.toArray) true).run Try.prog w' = .ok (.tuple #[.agg #[], .bool b]) w' := by
    intro w' h
    obtain ⟨v, ps, h1, h2⟩ := h.look_ok keyed62 und76 (zero86 w') (unitElem_mk (H := Unit)) hkey
    obtain ⟨rfl, _⟩ := unitElem_inv h2
    rw [← Hb.out]; exact h1
  have hX0 : (w.alloc (.cells X.toArray 90)).rangeAt w.heap.size 0 X := by
    intro j u hu
    rw [Nat.zero_add, cell_of_row _ _ j _ _ _ (heap_alloc_new w _)]
    simpa using hu
  have hB0 := balloc w (.cells X.toArray 90)
  have hc1 : (w.alloc (.cells X.toArray 90)).cell? ⟨G, 1, none⟩ = some (.map (some B)) := (hB0.cell (p := ⟨G, 1, none⟩) hGlt).trans hGc
  have hm1 := omap_below hmap hB0 hBlt
  have HLOOK : Hid (∀ w' : World, w'.ownsMap Try.prog 90 (unitElem (H := Unit)) B L.length (setM L) → (Instr.lookup 86 (.map (some B)) (.agg X.toArray) true).run Try.prog w' = .ok (.tuple #[.agg #[], .bool b]) w') := hlook
  have hS0 : (w.alloc (.cells X.toArray 90)).cell? ⟨G, 1, none⟩ = some (.map (some B)) ∧ (w.alloc (.cells X.toArray 90)).rangeAt w.heap.size 0 X ∧ (w.alloc (.cells X.toArray 90)).ownsMap Try.prog 90 (unitElem (H := Unit)) B L.length (setM L) ∧ w.heap.size < (w.alloc (.cells X.toArray 90)).heap.size ∧ Below w.heap.size w (w.alloc (.cells X.toArray 90)) := ⟨hc1, hX0, hm1, by simp, hB0⟩
  clear hhas hkey hlook hX0 hB0 hc1 hm1 hmap hG hGc
  rw [Hb.out]
  go_enter Try.func87, Try.ntmps87
  go_wp2_with fail
  refine wp_region_noPanic ?_
  refine wp_region_held_drew (S := HS w G B X L) (by kernel_rfl) (by exact ⟨hS0.1, hS0.2.1, hS0.2.2.1, hS0.2.2.2.1, hS0.2.2.2.2.drew⟩) (fun hSx => ?_)
  clear hS0
  refine wpAnyH_take (i := 0) (v := .pointer (some ⟨G, 0, none⟩)) rfl (by kernel_rfl) (by kernel_rfl) (by kernel_rfl) (fun _ _ _ h => h) (Or.inl ⟨by rfl, fun w' hSw => by (try dsimp only at hSw); go_simp⟩) hSx ?_
  try simp only [Act.put, List.setIfInBounds_toArray]
  refine wpAnyH_take (i := 1) (v := .pointer (some ⟨G, 0, none⟩)) rfl (by kernel_rfl) (by kernel_rfl) (by kernel_rfl) (fun _ _ _ h => h) (Or.inl ⟨by rfl, fun w' hSw => by (try dsimp only at hSw); go_simp⟩) hSx ?_
  try simp only [Act.put]
  refine wpAnyH_take (i := 2) (v := .pointer (some ⟨G, 1, none⟩)) rfl (by kernel_rfl) (by kernel_rfl) (by kernel_rfl) (fun _ _ _ h => h) (Or.inl ⟨by rfl, fun w' hSw => by (try dsimp only at hSw); go_simp⟩) hSx ?_
  try simp only [Act.put]
  refine wpAnyH_take (i := 3) (v := .map (some B)) rfl (by kernel_rfl) (by kernel_rfl) (by kernel_rfl) (fun _ _ _ h => h) (Or.inl ⟨by rfl, fun w' hSw => by have hSw := hSw.1; go_simp⟩) hSx ?_
  try simp only [Act.put]
  refine wpAnyH_take (i := 4) (v := .agg X.toArray) rfl (by kernel_rfl) (by kernel_rfl) (by kernel_rfl) (fun _ _ _ h => h) (yieldsIf_load_mid (by rfl) 90 _ rfl w.heap.size 0 rfl X _ (fun _ h => h.2.1) und62 rfl hinf) hSx ?_
  try simp only [Act.put]
  refine wpAnyH_take (i := 5) (v := .tuple #[.agg #[], .bool b]) rfl (by kernel_rfl) (by kernel_rfl) (by kernel_rfl) (fun _ _ _ h => h) (Or.inl ⟨by rfl, fun w' hSw => by have hl := HLOOK.out w' hSw.2.2.1; unfold execOp; simp only [Act.eval]; go_simp⟩) hSx ?_
  try simp only [Act.put]
  refine wpAnyH_take (i := 6) (v := .tuple #[.agg #[], .bool b]) rfl (by kernel_rfl) (by kernel_rfl) (by kernel_rfl) (fun _ _ _ h => h) (Or.inl ⟨by rfl, fun w' hSw => by (try dsimp only at hSw); go_simp⟩) hSx ?_
  try simp only [Act.put]
  refine wpAnyH_take (i := 7) (v := .agg #[]) rfl (by kernel_rfl) (by kernel_rfl) (by kernel_rfl) (fun _ _ _ h => h) (Or.inl ⟨by rfl, fun w' hSw => by (try dsimp only at hSw); go_simp⟩) hSx ?_
  try simp only [Act.put]
  refine wpAnyH_take (i := 8) (v := .bool b) rfl (by kernel_rfl) (by kernel_rfl) (by kernel_rfl) (fun _ _ _ h => h) (Or.inl ⟨by rfl, fun w' hSw => by (try dsimp only at hSw); go_simp⟩) hSx ?_
  try simp only [Act.put]
  refine wpAnyH_ready (rs := [9]) (by kernel_rfl) (by simp) ?_
  refine AllReadyH.cons rfl (fun J hJ => ?_) AllReadyH.nil
  go_simp
  refine hJ.out _ _ (hSx.alloc hGlt _) (fun hSy => ?_)
  clear hJ J
  try simp only [Act.put, List.setIfInBounds_toArray, List.set_cons_zero, List.set_cons_succ]
  refine wpAnyH_ready (rs := [10]) (by kernel_rfl) (by simp) ?_
  refine AllReadyH.cons rfl (fun J hJ => ?_) AllReadyH.nil
  go_simp
  refine hJ.out _ _ hSy (fun hSz => ?_)
  clear hJ J
  try simp only [Act.put, List.setIfInBounds_toArray, List.set_cons_zero, List.set_cons_succ]
  refine wpAnyH_ready (rs := [11]) (by kernel_rfl) (by simp) ?_
  refine AllReadyH.cons rfl (fun J hJ => ?_) AllReadyH.nil
  go_simp
  refine hJ.out _ _ hSz (fun _ => ?_)
  clear hJ J
  refine wpAnyH_done (by kernel_rfl) ?_ _
  refine NoPanic.normal ?_
  go_wp2
  go_ret
  exact ⟨rfl, hSz.2.2.2.2⟩

end Go.Proofs.Ytmaplmgecohjbaa
