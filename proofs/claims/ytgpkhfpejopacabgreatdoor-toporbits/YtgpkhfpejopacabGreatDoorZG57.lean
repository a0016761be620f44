/- The walk of add. -/
import Derived.Test.YtgpkhfpejopacabGreatDoorZGK
import Derived.Test.YtgpkhfpejopacabGreatDoorZG59
import Derived.OrdersHeld
import Derived.Deep.RegionHeld3
import Derived.Deep.AppendLies
/- The walk of has. -/
namespace Go.Proofs.YtgpkhfpejopacabGreatDoor.Gc
open Go.RowKit Go.Maps

/-- Block G has the members L: a row of them, from block base on, and a set. -/
def Mem (base : Nat) (w : World) (G : Nat) (L : List (List Nat)) : Prop :=
  ∃ (v : Value) (B : Nat), w.heap[G]? = some (.cells #[v, .map (some B)] 147 (0, 0)) ∧ w.ownsRow base 95 7 v L.length (L.flatMap mvL) ∧ w.ownsMap Tryz.prog 95 (unitElem (H := Unit)) B L.length (setM L) ∧ base ≤ G ∧ base ≤ B
set_option maxRecDepth 100000 in
theorem omap_lt {w : World} {B n : Nat} {D : DataW Unit} (h : w.ownsMap Tryz.prog 95 (unitElem (H := Unit)) B n D) : B < w.heap.size := by
  obtain ⟨es, clock, hb, _⟩ := h
  exact (Array.getElem?_eq_some_iff.1 hb).1
set_option maxRecDepth 100000 in
theorem omap_below {w w' : World} {M B n : Nat} {D : DataW Unit} (h : w.ownsMap Tryz.prog 95 (unitElem (H := Unit)) B n D) (hb : Below M w w') (hM : B < M) : w'.ownsMap Tryz.prog 95 (unitElem (H := Unit)) B n D := by
  obtain ⟨es, clock, h1, h2⟩ := h
  exact ⟨es, clock, (hb.block B hM).trans h1, h2⟩
theorem orow_below {w w' : World} {base n : Nat} {e : TypeId} {size : Nat} {v : Value} {xs : List Value} (h : w.ownsRow base e size v n xs) (hb : Below w.heap.size w w') : w'.ownsRow base e size v n xs := by
  obtain ⟨h3, h4 | ⟨g, cap, cur, h5, h6, h7, h8⟩⟩ := h
  · exact ⟨h3, .inl h4⟩
  · exact ⟨h3, .inr ⟨g, cap, cur, h5, h6, (hb.block g (Array.getElem?_eq_some_iff.1 h7).1).trans h7, h8⟩⟩
theorem Mem.below {base : Nat} {w w' : World} {G : Nat} {L : List (List Nat)} (h : Mem base w G L) (hb : Below w.heap.size w w') : Mem base w' G L := by
  obtain ⟨v, B, h1, h2, h3, h4⟩ := h
  exact ⟨v, B, (hb.block G (Array.getElem?_eq_some_iff.1 h1).1).trans h1, orow_below h2 hb, omap_below h3 hb (omap_lt h3), h4⟩

/-- What the look-up's region reads. -/
def HS (w : World) (G B : Nat) (X : List Value) (L : List (List Nat)) (w' : World) : Prop :=
  w'.cell? ⟨G, 1, none⟩ = some (.map (some B)) ∧ w'.rangeAt w.heap.size 0 X ∧ w'.ownsMap Tryz.prog 95 (unitElem (H := Unit)) B L.length (setM L) ∧ w.heap.size < w'.heap.size ∧ Below w.heap.size w w'
theorem HS.alloc {w w' : World} {G B : Nat} {X : List Value} {L : List (List Nat)} (h : HS w G B X L w') (hG : G < w.heap.size) (o : Obj) : HS w G B X L (w'.alloc o) :=
  ⟨((balloc w' o).cell (p := ⟨G, 1, none⟩) (Nat.lt_trans hG h.2.2.2.1)).trans h.1, World.rangeAt_alloc h.2.1 _, omap_below h.2.2.1 (balloc _ _) (omap_lt h.2.2.1), by rw [World.size_alloc]; exact Nat.lt_succ_of_lt h.2.2.2.1, h.2.2.2.2.alloc (Nat.le_of_lt h.2.2.2.1) _⟩


set_option maxRecDepth 100000 in
set_option maxHeartbeats 1000000 in
theorem has_any (base G : Nat) (L : List (List Nat)) (x : List Nat) (w : World) (hM : Mem base w G L) (hL : ∀ y ∈ L, Small y) (hx : Small x) :
    Calls Tryz.prog 56 #[.pointer (some ⟨G, 0, none⟩), mv x] w fun e w' => e = .returned (.bool (decide (x ∈ L))) ∧ Below w.heap.size w w' := by
  obtain ⟨v, B, hG, _, hmap, _, _⟩ := hM
  have hGc := cell_of_row w G 1 _ _ _ hG
  have hGlt : G < w.heap.size := (Array.getElem?_eq_some_iff.1 hG).1
  have hBlt := omap_lt hmap
  have hkey := keyM_of hx
  rw [mv_eq] at hkey
  have hhas := has_setM hL hx
  rw [mv_eq, ← hhas]
  obtain ⟨b, Hb⟩ : ∃ b, Hid (Maps.has (setM L) (keyM x) = b) := ⟨_, rfl⟩
  obtain ⟨X, HX⟩ : ∃ X, Hid (mvL x = X) := ⟨_, rfl⟩
  have hinf : (Tryz.prog.info? 95).map (·.size) = some X.length := by rw [← HX.out]; exact inf62L x
  rw [HX.out] at hkey ⊢
  have hlook : ∀ w' : World, w'.ownsMap Tryz.prog 95 (unitElem (H := Unit)) B L.length (setM L) → (Instr.lookup 145 (.map (some B)) (.agg X.toArray) true).run Tryz.prog w' = .ok (.tuple #[.agg #[], .bool b]) w' := by
    intro w' h
    obtain ⟨v, ps, h1, h2⟩ := h.look_ok keyed62 und76 (zero86 w') (unitElem_mk (H := Unit)) hkey
    obtain ⟨rfl, _⟩ := unitElem_inv h2
    rw [← Hb.out]; exact h1
  have hX0 : (w.alloc (.cells X.toArray 95)).rangeAt w.heap.size 0 X := by
    intro j u hu
    rw [Nat.zero_add, cell_of_row _ _ j _ _ _ (heap_alloc_new w _)]
    simpa using hu
  have hB0 := balloc w (.cells X.toArray 95)
  have hc1 : (w.alloc (.cells X.toArray 95)).cell? ⟨G, 1, none⟩ = some (.map (some B)) := (hB0.cell (p := ⟨G, 1, none⟩) hGlt).trans hGc
  have hm1 := omap_below hmap hB0 hBlt
  have HLOOK : Hid (∀ w' : World, w'.ownsMap Tryz.prog 95 (unitElem (H := Unit)) B L.length (setM L) → (Instr.lookup 145 (.map (some B)) (.agg X.toArray) true).run Tryz.prog w' = .ok (.tuple #[.agg #[], .bool b]) w') := hlook
  have hS0 : (w.alloc (.cells X.toArray 95)).cell? ⟨G, 1, none⟩ = some (.map (some B)) ∧ (w.alloc (.cells X.toArray 95)).rangeAt w.heap.size 0 X ∧ (w.alloc (.cells X.toArray 95)).ownsMap Tryz.prog 95 (unitElem (H := Unit)) B L.length (setM L) ∧ w.heap.size < (w.alloc (.cells X.toArray 95)).heap.size ∧ Below w.heap.size w (w.alloc (.cells X.toArray 95)) := ⟨hc1, hX0, hm1, by simp, hB0⟩
  clear hhas hkey hlook hX0 hB0 hc1 hm1 hmap hG hGc
  rw [Hb.out]
  go_enter Tryz.func56, Tryz.ntmps56
  go_wp2_with fail
  refine wp_region_noPanic ?_
  refine wp_region_held_drew (S := HS w G B X L) (by kernel_rfl) (by exact ⟨hS0.1, hS0.2.1, hS0.2.2.1, hS0.2.2.2.1, hS0.2.2.2.2.drew⟩) (fun hSx => ?_)
  clear hS0
  refine wpAnyH_take (i := 0) (v := .pointer (some ⟨G, 0, none⟩)) rfl (by kernel_rfl) (by kernel_rfl) (by kernel_rfl) (fun _ _ _ h => h) (Or.inl ⟨by rfl, fun w' hSw => by (try dsimp only at hSw); go_simp⟩) hSx ?_
  try simp only [Act.put, List.setIfInBounds_toArray]
  refine wpAnyH_take (i := 1) (v := .pointer (some ⟨G, 0, none⟩)) rfl (by kernel_rfl) (by kernel_rfl) (by kernel_rfl) (fun _ _ _ h => h) (Or.inl ⟨by rfl, fun w' hSw => by (try dsimp only at hSw); go_simp⟩) hSx ?_
  try simp only [Act.put]
  refine wpAnyH_take (i := 2) (v := .pointer (some ⟨G, 1, none⟩)) rfl (by kernel_rfl) (by kernel_rfl) (by kernel_rfl) (fun _ _ _ h => h) (Or.inl ⟨by rfl, fun w' hSw => by (try dsimp only at hSw); go_simp⟩) hSx ?_
  try simp only [Act.put]
  refine wpAnyH_take (i := 3) (v := .map (some B)) rfl (by kernel_rfl) (by kernel_rfl) (by kernel_rfl) (fun _ _ _ h => h) (Or.inl ⟨by rfl, fun w' hSw => by have hSw := hSw.1; go_simp⟩) hSx ?_
  try simp only [Act.put]
  refine wpAnyH_take (i := 4) (v := .agg X.toArray) rfl (by kernel_rfl) (by kernel_rfl) (by kernel_rfl) (fun _ _ _ h => h) (yieldsIf_load_mid (by rfl) 95 _ rfl w.heap.size 0 rfl X _ (fun _ h => h.2.1) und62 rfl hinf) hSx ?_
  try simp only [Act.put]
  refine wpAnyH_take (i := 5) (v := .tuple #[.agg #[], .bool b]) rfl (by kernel_rfl) (by kernel_rfl) (by kernel_rfl) (fun _ _ _ h => h) (Or.inl ⟨by rfl, fun w' hSw => by have hl := HLOOK.out w' hSw.2.2.1; unfold execOp; simp only [Act.eval]; go_simp⟩) hSx ?_
  try simp only [Act.put]
  refine wpAnyH_take (i := 6) (v := .tuple #[.agg #[], .bool b]) rfl (by kernel_rfl) (by kernel_rfl) (by kernel_rfl) (fun _ _ _ h => h) (Or.inl ⟨by rfl, fun w' hSw => by (try dsimp only at hSw); go_simp⟩) hSx ?_
  try simp only [Act.put]
  refine wpAnyH_take (i := 7) (v := .agg #[]) rfl (by kernel_rfl) (by kernel_rfl) (by kernel_rfl) (fun _ _ _ h => h) (Or.inl ⟨by rfl, fun w' hSw => by (try dsimp only at hSw); go_simp⟩) hSx ?_
  try simp only [Act.put]
  refine wpAnyH_take (i := 8) (v := .bool b) rfl (by kernel_rfl) (by kernel_rfl) (by kernel_rfl) (fun _ _ _ h => h) (Or.inl ⟨by rfl, fun w' hSw => by (try dsimp only at hSw); go_simp⟩) hSx ?_
  try simp only [Act.put]
  refine wpAnyH_ready (rs := [9]) (by kernel_rfl) (by simp) ?_
  refine AllReadyH.cons rfl (fun J hJ => ?_) AllReadyH.nil
  go_simp
  refine hJ.out _ _ (hSx.alloc hGlt _) (fun hSy => ?_)
  clear hJ J
  try simp only [Act.put, List.setIfInBounds_toArray, List.set_cons_zero, List.set_cons_succ]
  refine wpAnyH_ready (rs := [10]) (by kernel_rfl) (by simp) ?_
  refine AllReadyH.cons rfl (fun J hJ => ?_) AllReadyH.nil
  go_simp
  refine hJ.out _ _ hSy (fun hSz => ?_)
  clear hJ J
  try simp only [Act.put, List.setIfInBounds_toArray, List.set_cons_zero, List.set_cons_succ]
  refine wpAnyH_ready (rs := [11]) (by kernel_rfl) (by simp) ?_
  refine AllReadyH.cons rfl (fun J hJ => ?_) AllReadyH.nil
  go_simp
  refine hJ.out _ _ hSz (fun _ => ?_)
  clear hJ J
  refine wpAnyH_done (by kernel_rfl) ?_ _
  refine NoPanic.normal ?_
  go_wp2
  go_ret
  exact ⟨rfl, hSz.2.2.2.2⟩

end Go.Proofs.YtgpkhfpejopacabGreatDoor.Gc

namespace Go.Proofs.YtgpkhfpejopacabGreatDoor.Gc
open Go.RowKit Go.Maps

/-- What the regions of add read. -/
def AS (w : World) (G B : Nat) (v : Value) (X : List Value) (w' : World) : Prop := w'.cell? ⟨G, 0, none⟩ = some v ∧ w'.cell? ⟨G, 1, none⟩ = some (.map (some B)) ∧ w'.rangeAt w.heap.size 0 X
theorem range_block {w w' : World} {b o : Nat} {cs : List Value} (h : w.rangeAt b o cs) (e : w'.heap[b]? = w.heap[b]?) : w'.rangeAt b o cs := fun j v hv => (World.cell?_of_block (w := w) (a := ⟨b, o + j, none⟩) e).trans (h j v hv)
theorem AS.of {w : World} {G B : Nat} {v : Value} {X : List Value} {w1 w2 : World} (h : AS w G B v X w1) (e1 : w2.heap[G]? = w1.heap[G]?) (e2 : w2.heap[w.heap.size]? = w1.heap[w.heap.size]?) : AS w G B v X w2 :=
  ⟨(World.cell?_of_block (w := w1) (a := ⟨G, 0, none⟩) e1).trans h.1, (World.cell?_of_block (w := w1) (a := ⟨G, 1, none⟩) e1).trans h.2.1, range_block h.2.2 e2⟩
theorem orow_set {w : World} {base n : Nat} {e : TypeId} {size : Nat} {v : Value} {xs : List Value} (h : w.ownsRow base e size v n xs) (a : Addr) (u : Value) (hne : ∀ g, v.ownBlock = some g → g ≠ a.block) : (w.setCell a u).ownsRow base e size v n xs := by
  obtain ⟨h3, h4 | ⟨g, cap, cur, rfl, h6, h7, h8⟩⟩ := h
  · exact ⟨h3, .inl h4⟩
  · exact ⟨h3, .inr ⟨g, cap, cur, rfl, h6, (heap_setCell_other w a g u (hne g rfl)).trans h7, h8⟩⟩

theorem fill7 {X : List Value} (h : X.length = 7) : List.foldl (fun (cs : Array Value) x => cs.setIfInBounds x.snd x.fst) #[Value.int .i64 0, .int .i64 0, .int .i64 0, .int .i64 0, .int .i64 0, .int .i64 0, .int .i64 0] X.zipIdx = X.toArray := by
  match X, h with
  | [_, _, _, _, _, _, _], _ => rfl

set_option maxRecDepth 100000 in
set_option maxHeartbeats 2000000 in
theorem add_yes (base G : Nat) (L : List (List Nat)) (x : List Nat) (w : World) (hM : Mem base w G L) (hbs : base ≤ w.heap.size) (hL : ∀ y ∈ L, Small y) (hx : Small x) (hin : x ∈ L) :
    Calls Tryz.prog 97 #[.pointer (some ⟨G, 0, none⟩), mv x] w fun e w' => e = .returned (.tuple #[]) ∧ Mem base w' G L ∧ Below base w w' := by
  have C := fun W (h : Below w.heap.size w W) => has_any base G L x W (hM.below h) hL hx
  have HM : Hid (Mem base w G L) := hM
  rw [decide_eq_true hin] at C
  rw [mv_eq] at C ⊢
  obtain ⟨X, HX⟩ : ∃ X, Hid (mvL x = X) := ⟨_, rfl⟩
  have hinf : (Tryz.prog.info? 95).map (·.size) = some X.length := by rw [← HX.out]; exact inf62L x
  rw [HX.out] at C ⊢
  have hX0 : (w.alloc (.cells X.toArray 95)).rangeAt w.heap.size 0 X := by
    intro j u hu
    rw [Nat.zero_add, cell_of_row _ _ j _ _ _ (heap_alloc_new w _)]
    simpa using hu
  have hB0 := balloc w (.cells X.toArray 95)
  clear hM hL hx hin
  go_enter Tryz.func97, Tryz.ntmps97
  go_wp2_with (first
    | (refine wpList_load_mid rfl 95 _ rfl w.heap.size 0 rfl X _ hX0 und62 rfl hinf ?_)
    | (go_at_call 56; refine (C _ hB0).mono ?_; rintro e w1 ⟨rfl, b1⟩; replace b1 := Below.next hB0 b1))
  go_end0
  exact ⟨rfl, HM.out.below b1, b1.mono hbs⟩

set_option maxRecDepth 100000 in
set_option maxHeartbeats 2000000 in
theorem add_no (base G : Nat) (L : List (List Nat)) (x : List Nat) (w : World) (hM : Mem base w G L) (hbs : base ≤ w.heap.size) (hL : ∀ y ∈ L, Small y) (hx : Small x) (hin : x ∉ L) (hlen : L.length ≤ 6000) :
    Calls Tryz.prog 97 #[.pointer (some ⟨G, 0, none⟩), mv x] w fun e w' => e = .returned (.tuple #[]) ∧ Mem base w' G (L ++ [x]) ∧ Below base w w' := by
  have C := fun W (h : Below w.heap.size w W) => has_any base G L x W (hM.below h) hL hx
  rw [decide_eq_false hin] at C
  obtain ⟨v, B, hG, hrow, hmap, hbG, hbB⟩ := hM
  have hGlt : G < w.heap.size := (Array.getElem?_eq_some_iff.1 hG).1
  have hBlt := omap_lt hmap
  have hkey := keyM_of hx
  obtain ⟨n, Hn⟩ : ∃ n, Hid (L.length = n) := ⟨_, rfl⟩
  rw [Hn.out] at hrow hmap hlen
  obtain ⟨i62, hi, hz0, hz1, hz2⟩ := info62
  rw [mv_eq] at C hkey ⊢
  obtain ⟨X, HX⟩ : ∃ X, Hid (mvL x = X) := ⟨_, rfl⟩
  have hinf : (Tryz.prog.info? 95).map (·.size) = some X.length := by rw [← HX.out]; exact inf62L x
  have hXl : X.length = 7 := by rw [← HX.out]; exact mvL_len x
  have hX1 : ∀ u ∈ X, u.oneCell' = true := by rw [← HX.out]; exact mvL_one x
  rw [HX.out] at C hkey ⊢
  have hX0 : (w.alloc (.cells X.toArray 95)).rangeAt w.heap.size 0 X := by
    intro j u hu
    rw [Nat.zero_add, cell_of_row _ _ j _ _ _ (heap_alloc_new w _)]
    simpa using hu
  have hB0 := balloc w (.cells X.toArray 95)
  have HK : Hid (keyOf Tryz.prog 95 (.agg X.toArray) = some (keyM x)) := hkey
  have HG : Hid (w.heap[G]? = some (.cells #[v, .map (some B)] 147 (0, 0))) := hG
  have HROW : Hid (w.ownsRow base 95 7 v n (L.flatMap mvL)) := hrow
  have HMAP : Hid (w.ownsMap Tryz.prog 95 (unitElem (H := Unit)) B n (setM L)) := hmap
  have HI : Hid (Tryz.prog.info? 95 = some i62 ∧ i62.zero = some (.agg (mrow fun _ => 0)) ∧ i62.size = 7 ∧ i62.bytes = 56) := ⟨hi, hz0, hz1, hz2⟩
  clear hL hx hin hkey hi hz0 hz1 hz2 hG hrow hmap
  go_enter Tryz.func97, Tryz.ntmps97
  go_wp2_with (first
    | (refine wpList_load_mid rfl 95 _ rfl w.heap.size 0 rfl X _ hX0 und62 rfl hinf ?_)
    | (go_at_call 56; refine (C _ hB0).mono ?_; rintro e w1 ⟨rfl, b1⟩; have hX1w := range_below hX0 b1 (by simp); replace b1 := Below.next hB0 b1))
  have hS1 : AS w G B v X w1 := by
    have e := (b1.block G hGlt).trans HG.out
    exact ⟨cell_of_row w1 G 0 _ _ _ e, cell_of_row w1 G 1 _ _ _ e, hX1w⟩
  have hmap1 := omap_below HMAP.out b1 hBlt
  have hsz1 : w.heap.size < w1.heap.size := by
    have := hX1w 0 _ (List.getElem?_eq_getElem (by omega))
    exact World.block_lt_of_cell? w1 _ this
  obtain ⟨w2, hupd, hmap2, hturn⟩ := (World.ownsMap.drew hmap1).store keyed62 und76 (by unfold maxLen; omega) HK.out (unitElem_mk (H := Unit))
  have hgrow2 := hturn.grown
  clear C hX1w hX0
  refine wp_region_noPanic ?_
  refine wp_region_held_drew (S := AS w G B v X) (by kernel_rfl) (by exact hS1) (fun hSx => ?_)
  refine wpAnyH_take (i := 0) (v := .pointer (some ⟨G, 0, none⟩)) rfl (by kernel_rfl) (by kernel_rfl) (by kernel_rfl) (fun _ _ _ h => h) (Or.inl ⟨by rfl, fun w' hSw => by (try dsimp only at hSw); go_simp⟩) hSx ?_
  try simp only [Act.put, List.setIfInBounds_toArray]
  refine wpAnyH_take (i := 1) (v := .pointer (some ⟨G, 0, none⟩)) rfl (by kernel_rfl) (by kernel_rfl) (by kernel_rfl) (fun _ _ _ h => h) (Or.inl ⟨by rfl, fun w' hSw => by (try dsimp only at hSw); go_simp⟩) hSx ?_
  try simp only [Act.put]
  refine wpAnyH_take (i := 2) (v := .pointer (some ⟨G, 1, none⟩)) rfl (by kernel_rfl) (by kernel_rfl) (by kernel_rfl) (fun _ _ _ h => h) (Or.inl ⟨by rfl, fun w' hSw => by (try dsimp only at hSw); go_simp⟩) hSx ?_
  try simp only [Act.put]
  refine wpAnyH_take (i := 3) (v := .map (some B)) rfl (by kernel_rfl) (by kernel_rfl) (by kernel_rfl) (fun _ _ _ h => h) (Or.inl ⟨by rfl, fun w' hSw => by have hSw := hSw.2.1; go_simp⟩) hSx ?_
  try simp only [Act.put]
  refine wpAnyH_take (i := 4) (v := .agg X.toArray) rfl (by kernel_rfl) (by kernel_rfl) (by kernel_rfl) (fun _ _ _ h => h) (yieldsIf_load_mid (by rfl) 95 _ rfl w.heap.size 0 rfl X _ (fun _ h => h.2.2) und62 rfl hinf) hSx ?_
  try simp only [Act.put]
  refine wpAnyH_take (i := 5) (v := .agg #[]) rfl (by kernel_rfl) (by kernel_rfl) (by kernel_rfl) (fun _ _ _ h => h) (Or.inl ⟨by rfl, fun w' hSw => by (try dsimp only at hSw); go_simp⟩) hSx ?_
  try simp only [Act.put]
  refine wpAnyH_ready (rs := [6]) (by kernel_rfl) (by simp) ?_
  refine AllReadyH.cons rfl (fun J hJ => ?_) AllReadyH.nil
  go_simp
  have hGB : G ≠ B := by
    intro e
    subst e
    obtain ⟨es, clock, h1, _⟩ := hmap1
    rw [(b1.block G hGlt).trans HG.out] at h1
    cases h1
  have hWB : w.heap.size ≠ B := by omega
  have hS2 : AS w G B v X w2 := hS1.of (hgrow2.block G (by show G < w1.heap.size; omega) (by simpa using hGB)) (hgrow2.block w.heap.size hsz1 (by simpa using hWB))
  refine hJ.out _ _ hS2 (fun _ => ?_)
  clear hJ J
  refine wpAnyH_done (by kernel_rfl) ?_ _
  refine NoPanic.normal ?_
  have hb2 : Below base w w2 := (b1.mono hbs).drew.grown hgrow2 (by show base ≤ w1.heap.size; omega) (fun k hk => by cases hk; exact hbB)
  have hsz2 : w1.heap.size ≤ w2.heap.size := hgrow2.size
  have hrow1 := orow_below HROW.out b1
  have hnb : ∀ g, v.ownBlock = some g → g < w.heap.size ∧ g ≠ G ∧ g ≠ B := by
    intro g hg
    obtain ⟨_, ⟨rfl, _⟩ | ⟨g', cap, cur, rfl, _, h7, _⟩⟩ := HROW.out
    · cases hg
    · obtain rfl : g' = g := by simpa [Value.ownBlock] using hg
      refine ⟨(Array.getElem?_eq_some_iff.1 h7).1, ?_, ?_⟩
      · rintro rfl
        rw [HG.out] at h7
        simp at h7
      · rintro rfl
        obtain ⟨es, clock, h1, _⟩ := HMAP.out
        rw [h7] at h1
        cases h1
  have hrow2 : w2.ownsRow base 95 7 v n (L.flatMap mvL) := World.ownsRow.kept (w := w1.drew) hrow1 hgrow2 (by
    cases hv : v.ownBlock with
    | none => exact .inl rfl
    | some g => exact .inr (by simpa using (hnb g hv).2.2))
  have hG2 : w2.heap[G]? = some (.cells #[v, .map (some B)] 147 (0, 0)) := (hgrow2.block G (by show G < w1.heap.size; omega) (by simpa using hGB)).trans ((b1.block G hGlt).trans HG.out)
  have HG2 : Hid (w2.heap[G]? = some (.cells #[v, .map (some B)] 147 (0, 0))) := hG2
  have hlen2 : w.heap.size < w2.heap.size := by omega
  clear hgrow2 hturn hupd hS1 hSx hG2 hmap1 hrow1
  have hrow3 : ((w2.alloc (.cells X.toArray 95)).drew).ownsRow base 95 7 v n (L.flatMap mvL) := World.ownsRow.alloc hrow2 _
  have hS3 : AS w G B v X ((w2.alloc (.cells X.toArray 95)).drew) := hS2.of ((balloc w2 (.cells X.toArray 95)).block G (by omega)) ((balloc w2 (.cells X.toArray 95)).block w.heap.size hlen2)
  have hR3 := hS3.2.2
  have hnews : ∀ j u, X[j]? = some u → ((w2.alloc (.cells X.toArray 95)).drew).cell? ((⟨w2.heap.size, 0, none⟩ : Addr).add j) = some u := by
    intro j u hu
    rw [Addr.add_mid]
    show (w2.alloc (.cells X.toArray 95)).cell? ⟨w2.heap.size, 0 + j, none⟩ = some u
    rw [Nat.zero_add, cell_of_row _ _ j _ _ _ (heap_alloc_new w2 _)]
    simpa using hu
  go_wp2_with fail
  refine wp_region_noPanic ?_
  refine wp_region_held_drew (S := fun w' => w'.rangeAt w.heap.size 0 X) (by kernel_rfl) (by exact hS2.2.2) (fun hSx => ?_)
  refine wpAnyH_take (i := 0) (v := .pointer (some ⟨G, 0, none⟩)) rfl (by kernel_rfl) (by kernel_rfl) (by kernel_rfl) (fun _ _ _ h => h) (Or.inl ⟨by rfl, fun w' hSw => by (try dsimp only at hSw); go_simp⟩) hSx ?_
  try simp only [Act.put, List.setIfInBounds_toArray]
  refine wpAnyH_take (i := 1) (v := .pointer (some ⟨G, 0, none⟩)) rfl (by kernel_rfl) (by kernel_rfl) (by kernel_rfl) (fun _ _ _ h => h) (Or.inl ⟨by rfl, fun w' hSw => by (try dsimp only at hSw); go_simp⟩) hSx ?_
  try simp only [Act.put]
  refine wpAnyH_take (i := 2) (v := .pointer (some ⟨G, 0, none⟩)) rfl (by kernel_rfl) (by kernel_rfl) (by kernel_rfl) (fun _ _ _ h => h) (Or.inl ⟨by rfl, fun w' hSw => by (try dsimp only at hSw); go_simp⟩) hSx ?_
  try simp only [Act.put]
  refine wpAnyH_take (i := 3) (v := .pointer (some ⟨G, 0, none⟩)) rfl (by kernel_rfl) (by kernel_rfl) (by kernel_rfl) (fun _ _ _ h => h) (Or.inl ⟨by rfl, fun w' hSw => by (try dsimp only at hSw); go_simp⟩) hSx ?_
  try simp only [Act.put]
  refine wpAnyH_take (i := 5) (v := .agg X.toArray) rfl (by kernel_rfl) (by kernel_rfl) (by kernel_rfl) (fun _ _ _ h => h) (yieldsIf_load_mid (by rfl) 95 _ rfl w.heap.size 0 rfl X _ (fun _ h => h) und62 rfl hinf) hSx ?_
  try simp only [Act.put]
  refine wpAnyH_ready (rs := [4, 6]) (by kernel_rfl) (by simp) ?_
  refine AllReadyH.cons rfl (fun J hJ => ?_) (AllReadyH.cons rfl (fun J hJ => ?_) AllReadyH.nil)
  · have hc4 := hS2.1
    go_simp
    refine hJ.out _ _ hSx (fun _ => ?_)
    clear hJ J
    try simp only [Act.put, List.setIfInBounds_toArray, List.set_cons_zero, List.set_cons_succ]
    refine wpAnyH_ready (rs := [6]) (by kernel_rfl) (by simp) ?_
    refine AllReadyH.cons rfl (fun J hJ => ?_) AllReadyH.nil
    go_simp
    rw [fill7 hXl]
    refine hJ.out _ _ hR3 (fun hSy => ?_)
    clear hJ J
    try simp only [Act.put, List.setIfInBounds_toArray, List.set_cons_zero, List.set_cons_succ]
    refine wpAnyH_ready (rs := [7]) (by kernel_rfl) (by simp) ?_
    refine AllReadyH.cons rfl (fun J hJ => ?_) AllReadyH.nil
    refine step_append_lies _ (by rfl) _ _ 85 (by rfl) base 95 i62 (.agg (mrow fun _ => 0)) 7 56 und58 HI.out.1 HI.out.2.1 HI.out.2.2.1 HI.out.2.2.2 (by simp [Value.cells]) (by omega) v n _ (by rfl) hrow3 ⟨w2.heap.size, 0, none⟩ 1 1 X (by rfl) (by omega) hnews hX1 (by omega) (by unfold maxLen; omega) (by omega) (by show base ≤ (w2.alloc (.cells X.toArray 95)).heap.size; rw [World.size_alloc]; omega) (w2.heap.size + 1) (by simp) ?_
    intro g cap w5 hown5 hgrow5 hat5 hlt5
    have hgG : g ≠ G := by
      rcases hat5 with h | h
      · exact (hnb g h).2.1
      · omega
    have hb5 : Below base w w5 := ((hb2.alloc (by omega) (.cells X.toArray 95)).drew).grown hgrow5 (by show base ≤ (w2.alloc (.cells X.toArray 95)).heap.size; rw [World.size_alloc]; omega) (fun k hk => (HROW.out.lt k hk).1)
    have hvG : some G ≠ v.ownBlock := by
      intro e
      exact (hnb G e.symm).2.1 rfl
    have hG5 : w5.heap[G]? = some (.cells #[v, .map (some B)] 147 (0, 0)) := (hgrow5.block G (by show G < (w2.alloc (.cells X.toArray 95)).heap.size; rw [World.size_alloc]; omega) hvG).trans (((balloc w2 (.cells X.toArray 95)).block G (by omega)).trans HG2.out)
    have hmap5 : w5.ownsMap Tryz.prog 95 (unitElem (H := Unit)) B (n + 1) ((setM L).put (keyM x) (.agg [])) := World.ownsMap.kept (w := (w2.alloc (.cells X.toArray 95)).drew) (World.ownsMap.alloc hmap2 _) hgrow5 (fun e => (hnb B e.symm).2.2 rfl)
    have hR5 : w5.rangeAt w.heap.size 0 X := range_block hR3 (hgrow5.block w.heap.size (by show w.heap.size < (w2.alloc (.cells X.toArray 95)).heap.size; rw [World.size_alloc]; omega) (fun e => by have := (hnb _ e.symm).1; omega))
    refine hJ.out _ _ hR5 (fun hSz => ?_)
    clear hJ J
    try simp only [Act.put, List.setIfInBounds_toArray]
    refine wpAnyH_take (i := 8) (v := .pointer (some ⟨G, 0, none⟩)) rfl (by kernel_rfl) (by kernel_rfl) (by kernel_rfl) (fun _ _ _ h => h) (Or.inl ⟨by rfl, fun w' hSw => by (try dsimp only at hSw); go_simp⟩) hSz ?_
    try simp only [Act.put]
    refine wpAnyH_take (i := 9) (v := .pointer (some ⟨G, 0, none⟩)) rfl (by kernel_rfl) (by kernel_rfl) (by kernel_rfl) (fun _ _ _ h => h) (Or.inl ⟨by rfl, fun w' hSw => by (try dsimp only at hSw); go_simp⟩) hSz ?_
    try simp only [Act.put]
    refine wpAnyH_ready (rs := [10]) (by kernel_rfl) (by simp) ?_
    refine AllReadyH.cons rfl (fun J hJ => ?_) AllReadyH.nil
    have hc0 := cell_of_row w5 G 0 _ _ _ hG5
    have hf0 := frozen_of_row w5 G 0 _ _ hG5
    go_simp
    have hR6 : (w5.setCell ⟨G, 0, none⟩ (.slice (some ⟨g, 0, none⟩) (n + 1) cap)).rangeAt w.heap.size 0 X := range_block hR5 (heap_setCell_other w5 _ _ _ (by show w.heap.size ≠ G; omega))
    refine hJ.out _ _ hR6 (fun _ => ?_)
    clear hJ J
    refine wpAnyH_done (by kernel_rfl) ?_ _
    refine NoPanic.normal ?_
    go_wp2_with fail
    go_end0
    refine ⟨rfl, ⟨.slice (some ⟨g, 0, none⟩) (n + 1) cap, B, ?_, ?_, ?_, hbG, hbB⟩, hb5.setCell (p := ⟨G, 0, none⟩) hbG _⟩
    · rw [heap_setCell_same w5 G 0 _ _ _ hG5]; rfl
    · rw [List.length_append, Hn.out, List.flatMap_append, List.flatMap_singleton, HX.out]
      exact orow_set hown5 _ _ (fun g' hg' => by
        obtain rfl : g = g' := by simpa [Value.ownBlock] using hg'
        exact hgG)
    · rw [List.length_append, Hn.out, setM_snoc]
      exact hmap5.setCell (by show B ≠ G; exact fun e => hGB e.symm) _
  · go_simp
    rw [fill7 hXl]
    refine hJ.out _ _ hR3 (fun hSy => ?_)
    clear hJ J
    try simp only [Act.put, List.setIfInBounds_toArray, List.set_cons_zero, List.set_cons_succ]
    refine wpAnyH_ready (rs := [4]) (by kernel_rfl) (by simp) ?_
    refine AllReadyH.cons rfl (fun J hJ => ?_) AllReadyH.nil
    have hc4 := hS3.1
    go_simp
    refine hJ.out _ _ hSy (fun _ => ?_)
    clear hJ J
    try simp only [Act.put, List.setIfInBounds_toArray, List.set_cons_zero, List.set_cons_succ]
    refine wpAnyH_ready (rs := [7]) (by kernel_rfl) (by simp) ?_
    refine AllReadyH.cons rfl (fun J hJ => ?_) AllReadyH.nil
    refine step_append_lies _ (by rfl) _ _ 85 (by rfl) base 95 i62 (.agg (mrow fun _ => 0)) 7 56 und58 HI.out.1 HI.out.2.1 HI.out.2.2.1 HI.out.2.2.2 (by simp [Value.cells]) (by omega) v n _ (by rfl) hrow3 ⟨w2.heap.size, 0, none⟩ 1 1 X (by rfl) (by omega) hnews hX1 (by omega) (by unfold maxLen; omega) (by omega) (by show base ≤ (w2.alloc (.cells X.toArray 95)).heap.size; rw [World.size_alloc]; omega) (w2.heap.size + 1) (by simp) ?_
    intro g cap w5 hown5 hgrow5 hat5 hlt5
    have hgG : g ≠ G := by
      rcases hat5 with h | h
      · exact (hnb g h).2.1
      · omega
    have hb5 : Below base w w5 := ((hb2.alloc (by omega) (.cells X.toArray 95)).drew).grown hgrow5 (by show base ≤ (w2.alloc (.cells X.toArray 95)).heap.size; rw [World.size_alloc]; omega) (fun k hk => (HROW.out.lt k hk).1)
    have hvG : some G ≠ v.ownBlock := by
      intro e
      exact (hnb G e.symm).2.1 rfl
    have hG5 : w5.heap[G]? = some (.cells #[v, .map (some B)] 147 (0, 0)) := (hgrow5.block G (by show G < (w2.alloc (.cells X.toArray 95)).heap.size; rw [World.size_alloc]; omega) hvG).trans (((balloc w2 (.cells X.toArray 95)).block G (by omega)).trans HG2.out)
    have hmap5 : w5.ownsMap Tryz.prog 95 (unitElem (H := Unit)) B (n + 1) ((setM L).put (keyM x) (.agg [])) := World.ownsMap.kept (w := (w2.alloc (.cells X.toArray 95)).drew) (World.ownsMap.alloc hmap2 _) hgrow5 (fun e => (hnb B e.symm).2.2 rfl)
    have hR5 : w5.rangeAt w.heap.size 0 X := range_block hR3 (hgrow5.block w.heap.size (by show w.heap.size < (w2.alloc (.cells X.toArray 95)).heap.size; rw [World.size_alloc]; omega) (fun e => by have := (hnb _ e.symm).1; omega))
    refine hJ.out _ _ hR5 (fun hSz => ?_)
    clear hJ J
    try simp only [Act.put, List.setIfInBounds_toArray]
    refine wpAnyH_take (i := 8) (v := .pointer (some ⟨G, 0, none⟩)) rfl (by kernel_rfl) (by kernel_rfl) (by kernel_rfl) (fun _ _ _ h => h) (Or.inl ⟨by rfl, fun w' hSw => by (try dsimp only at hSw); go_simp⟩) hSz ?_
    try simp only [Act.put]
    refine wpAnyH_take (i := 9) (v := .pointer (some ⟨G, 0, none⟩)) rfl (by kernel_rfl) (by kernel_rfl) (by kernel_rfl) (fun _ _ _ h => h) (Or.inl ⟨by rfl, fun w' hSw => by (try dsimp only at hSw); go_simp⟩) hSz ?_
    try simp only [Act.put]
    refine wpAnyH_ready (rs := [10]) (by kernel_rfl) (by simp) ?_
    refine AllReadyH.cons rfl (fun J hJ => ?_) AllReadyH.nil
    have hc0 := cell_of_row w5 G 0 _ _ _ hG5
    have hf0 := frozen_of_row w5 G 0 _ _ hG5
    go_simp
    have hR6 : (w5.setCell ⟨G, 0, none⟩ (.slice (some ⟨g, 0, none⟩) (n + 1) cap)).rangeAt w.heap.size 0 X := range_block hR5 (heap_setCell_other w5 _ _ _ (by show w.heap.size ≠ G; omega))
    refine hJ.out _ _ hR6 (fun _ => ?_)
    clear hJ J
    refine wpAnyH_done (by kernel_rfl) ?_ _
    refine NoPanic.normal ?_
    go_wp2_with fail
    go_end0
    refine ⟨rfl, ⟨.slice (some ⟨g, 0, none⟩) (n + 1) cap, B, ?_, ?_, ?_, hbG, hbB⟩, hb5.setCell (p := ⟨G, 0, none⟩) hbG _⟩
    · rw [heap_setCell_same w5 G 0 _ _ _ hG5]; rfl
    · rw [List.length_append, Hn.out, List.flatMap_append, List.flatMap_singleton, HX.out]
      exact orow_set hown5 _ _ (fun g' hg' => by
        obtain rfl : g = g' := by simpa [Value.ownBlock] using hg'
        exact hgG)
    · rw [List.length_append, Hn.out, setM_snoc]
      exact hmap5.setCell (by show B ≠ G; exact fun e => hGB e.symm) _

end Go.Proofs.YtgpkhfpejopacabGreatDoor.Gc
