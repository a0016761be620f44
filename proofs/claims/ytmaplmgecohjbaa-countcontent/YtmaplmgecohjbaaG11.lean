/- The faces of the group, where something is wrong; order, Order, Has. -/
import Derived.Test.YtmaplmgecohjbaaG43
import Derived.Test.YtmaplmgecohjbaaGM
import Derived.Test.YtmaplmgecohjbaaGK
import Derived.Test.YtmaplmgecohjbaaG59
import Derived.OrdersHeld
import Derived.Deep.RegionHeld3
import Derived.Deep.AppendLies
import Derived.Test.YtmaplmgecohjbaaG36
/- The walk of movesOf. -/
namespace Go.Proofs.Ytmaplmgecohjbaa
open Go.RowKit

set_option maxRecDepth 100000 in
set_option maxHeartbeats 1000000 in
theorem movesOf_any (n : Nat) (ms : List (List Nat)) (v : Value) (w : World) (hn : n ≤ 7) (h1 : 1 ≤ n) (hk : ms.length ≤ 4) (hv : SlSl w v ms) (hm : ∀ m ∈ ms, IsP n m) :
    Calls Try.prog 52 #[v] w fun e w' => (∃ x, e = .returned x ∧ Mvs w' x (ms.map (ext n))) ∧ Below w.heap.size w w' := by
  obtain ⟨k, Hk⟩ : ∃ k, Hid (ms.length = k) := ⟨_, rfl⟩
  rw [Hk.out] at hk
  obtain ⟨a, cap, rfl, _⟩ := id hv
  have HV : Hid (SlSl w (.slice a ms.length cap) ms) := hv
  have HM : Hid (∀ m ∈ ms, m.length = n) := fun m h => (hm m h).len
  rw [Hk.out] at HV ⊢
  clear hv hm
  obtain ⟨i62, hi, hz0, hz1, hz2⟩ := info62
  have hmk : ∀ w : World, (Instr.makeSlice 69 (.int .i64 (k : Int)) (.int .i64 (k : Int))).run Try.prog w = .ok (.slice (some ⟨w.heap.size, 0, none⟩) k k) (w.alloc (.cells (madeCells (mrow fun _ => 0) (k * 7)) 90)) := fun w => by
    have h := run_make (P := Try.prog) w 69 90 i62 (.agg (mrow fun _ => 0)) und58 hi hz0 .i64 .i64 k k (by omega) (by omega) (by rw [hz2]; omega) (by omega)
    rw [hz1] at h
    simpa [Value.cells] using h
  clear hi hz0 hz1 hz2
  have hT0 := made_there w k 90
  have hB0 := balloc w (.cells (madeCells (mrow fun _ => 0) (k * 7)) 90)
  have hs0 : w.heap.size < (w.alloc (.cells (madeCells (mrow fun _ => 0) (k * 7)) 90)).heap.size := by simp
  go_enter Try.func52, Try.ntmps52
  go_wp2
  go_loopw [11] (fun i wr => ∃ j : Nat, i = .int .i64 j ∧ j ≤ k ∧ Hid (wr.there w.heap.size 0 (k * 7)) ∧ Hid (∀ (t : Nat) (l : List Nat), t < j → ms[t]? = some l → wr.rangeAt w.heap.size (t * 7) (mvL (ext n l))) ∧ w.heap.size < wr.heap.size ∧ Below w.heap.size w wr) (fun i _ => (k - intOf i).toNat)
  case atStart => exact ⟨0, rfl, by omega, hT0, (fun t l h => by omega : ∀ (t : Nat) (l : List Nat), t < 0 → _), hs0, hB0⟩
  case round =>
    clear hT0 hB0 hs0
    obtain ⟨j, rfl, hj, HT, HR, hs, hB⟩ := hrel
    by_cases hlt : j < k
    · have hji : (j : Int) < k := by omega
      have hdec : decide ((j : Int) < k) = true := by simp; omega
      obtain ⟨l, hl⟩ : ∃ l, ms[j]? = some l := ⟨ms[j]'(by have := Hk.out; omega), by simp⟩
      have hll := HM.out l (List.mem_of_getElem? hl)
      obtain ⟨b, off, u, rfl, hbw, hcu, hsu⟩ := HV.out.at hl
      have hcu2 := (hB.cell (p := ⟨b, off + j, none⟩) hbw).trans hcu
      have C := fun W (h : Below w.heap.size w W) => moveOf_any n l u W hn h1 (hsu.below h) hll
      have hcu3 : wr.cell? ⟨b, off + j, none⟩ = some u := hcu2
      have HL : Hid (ms[j]? = some l) := hl
      have HLL : Hid (l.length = n) := hll
      have hux : ∃ ua uc, u = .slice ua n uc := by
        obtain ⟨ua, uc, e, _⟩ := hsu
        exact ⟨ua, uc, by rw [e, List.length_map, hll]⟩
      obtain ⟨ua, uc, rfl⟩ := hux
      clear hcu hcu2 hl hsu hll
      obtain ⟨x, Hx⟩ : ∃ x, Hid (ext n l = x) := ⟨_, rfl⟩
      rw [Hx.out] at C
      simp only [mv_eq] at C
      have hln := mvL_len x
      have hone := all_oneCell_toArray (mvL_one x)
      have hinf : (Try.prog.info? 90).map (·.size) = some (mvL x).toArray.size := by simpa using inf62L x
      obtain ⟨X, HX⟩ : ∃ X, Hid (mvL x = X) := ⟨_, rfl⟩
      rw [HX.out] at C hln hone hinf
      go_wp2_with (first
        | (go_at_call 74; refine (C _ hB).mono ?_; rintro e w1 ⟨rfl, b1⟩; have hT1 := there_below HT.out b1 hs; have hT2 := there_sub hT1 hlt; rw [Nat.zero_add] at hT2)
        | (refine wpList_store_mid rfl 90 _ _ rfl w.heap.size (j * 7) X.toArray (by rfl) rfl (by simpa [hln] using hT2) hinf hone ?_))
      go_roundw
      case rel =>
        refine ⟨j + 1, by go_num, by omega, World.there_setCells hT1 _ _ _, (fun t l' ht hl' => ?_ : ∀ (t : Nat) (l : List Nat), t < j + 1 → _), by simp [sets_size]; have := b1.size; omega, (hB.trans (b1.mono (by omega))).trans (bsets (Nat.le_refl _) _ _ _)⟩
        by_cases e : t = j
        · subst e
          obtain rfl : l = l' := by have := HL.out; rw [hl'] at this; simpa using this.symm
          rw [Hx.out, HX.out]
          exact World.rangeAt_setCells_same _ _ _ _ (by rw [hln]; exact hT2)
        · exact World.rangeAt_setCells_apart (range_below (HR.out t l' (by omega) hl') b1 hs) _ _ _ (.inr (.inl (by rw [mvL_len]; omega)))
      case measure => simp [intOf]; omega
    · obtain rfl : j = k := by omega
      have hkd : decide ((j : Int) < (j : Int)) = false := by simp
      go_wp2
      go_ret
      refine ⟨⟨_, rfl, some ⟨w.heap.size, 0, none⟩, j, by rw [List.length_map, Hk.out]; rfl, fun i x hx => ?_⟩, hB⟩
      rw [List.getElem?_map] at hx
      cases he : ms[i]? with
      | none => rw [he] at hx; cases hx
      | some l =>
        rw [he] at hx
        obtain rfl : ext n l = x := by simpa using hx
        have hi' : i < ms.length := (List.getElem?_eq_some_iff.1 he).1
        exact ⟨w.heap.size, 0, rfl, hs, by rw [Nat.zero_add]; exact HR.out i l (by rw [← Hk.out]; exact hi') he⟩

end Go.Proofs.Ytmaplmgecohjbaa

/- The walk of add. -/
/- The walk of has. -/
namespace Go.Proofs.Ytmaplmgecohjbaa
open Go.RowKit Go.Maps

/-- Block G has the members L: a row of them, from block base on, and a set. -/
def Mem (base : Nat) (w : World) (G : Nat) (L : List (List Nat)) : Prop :=
  ∃ (v : Value) (B : Nat), w.heap[G]? = some (.cells #[v, .map (some B)] 88 (0, 0)) ∧ w.ownsRow base 90 7 v L.length (L.flatMap mvL) ∧ w.ownsMap Try.prog 90 (unitElem (H := Unit)) B L.length (setM L) ∧ base ≤ G ∧ base ≤ B
theorem omap_lt {w : World} {B n : Nat} {D : DataW Unit} (h : w.ownsMap Try.prog 90 (unitElem (H := Unit)) B n D) : B < w.heap.size := by
  obtain ⟨es, clock, hb, _⟩ := h
  exact (Array.getElem?_eq_some_iff.1 hb).1
theorem omap_below {w w' : World} {M B n : Nat} {D : DataW Unit} (h : w.ownsMap Try.prog 90 (unitElem (H := Unit)) B n D) (hb : Below M w w') (hM : B < M) : w'.ownsMap Try.prog 90 (unitElem (H := Unit)) B n D := by
  obtain ⟨es, clock, h1, h2⟩ := h
  exact ⟨es, clock, (hb.block B hM).trans h1, h2⟩
theorem orow_below {w w' : World} {base n : Nat} {e : TypeId} {size : Nat} {v : Value} {xs : List Value} (h : w.ownsRow base e size v n xs) (hb : Below w.heap.size w w') : w'.ownsRow base e size v n xs := by
  obtain ⟨h3, h4 | ⟨g, cap, cur, h5, h6, h7, h8⟩⟩ := h
  · exact ⟨h3, .inl h4⟩
  · exact ⟨h3, .inr ⟨g, cap, cur, h5, h6, (hb.block g (Array.getElem?_eq_some_iff.1 h7).1).trans h7, h8⟩⟩
theorem Mem.below {base : Nat} {w w' : World} {G : Nat} {L : List (List Nat)} (h : Mem base w G L) (hb : Below w.heap.size w w') : Mem base w' G L := by
  obtain ⟨v, B, h1, h2, h3, h4⟩ := h
  exact ⟨v, B, (hb.block G (Array.getElem?_eq_some_iff.1 h1).1).trans h1, orow_below h2 hb, omap_below h3 hb (omap_lt h3), h4⟩

/-- What the look-up's region reads. -/
def HS (w : World) (G B : Nat) (X : List Value) (L : List (List Nat)) (w' : World) : Prop :=
  w'.cell? ⟨G, 1, none⟩ = some (.map (some B)) ∧ w'.rangeAt w.heap.size 0 X ∧ w'.ownsMap Try.prog 90 (unitElem (H := Unit)) B L.length (setM L) ∧ w.heap.size < w'.heap.size ∧ Below w.heap.size w w'
theorem HS.alloc {w w' : World} {G B : Nat} {X : List Value} {L : List (List Nat)} (h : HS w G B X L w') (hG : G < w.heap.size) (o : Obj) : HS w G B X L (w'.alloc o) :=
  ⟨((balloc w' o).cell (p := ⟨G, 1, none⟩) (Nat.lt_trans hG h.2.2.2.1)).trans h.1, World.rangeAt_alloc h.2.1 _, omap_below h.2.2.1 (balloc _ _) (omap_lt h.2.2.1), by rw [World.size_alloc]; exact Nat.lt_succ_of_lt h.2.2.2.1, h.2.2.2.2.alloc (Nat.le_of_lt h.2.2.2.1) _⟩


set_option maxRecDepth 100000 in
set_option maxHeartbeats 1000000 in
theorem has_any (base G : Nat) (L : List (List Nat)) (x : List Nat) (w : World) (hM : Mem base w G L) (hL : ∀ y ∈ L, Small y) (hx : Small x) :
    Calls Try.prog 87 #[.pointer (some ⟨G, 0, none⟩), mv x] w fun e w' => e = .returned (.bool (decide (x ∈ L))) ∧ Below w.heap.size w w' := by
  obtain ⟨v, B, hG, _, hmap, _, _⟩ := hM
  have hGc := cell_of_row w G 1 _ _ _ hG
  have hGlt : G < w.heap.size := (Array.getElem?_eq_some_iff.1 hG).1
  have hBlt := omap_lt hmap
  have hkey := keyM_of hx
  rw [mv_eq] at hkey
  have hhas := has_setM hL hx
  rw [mv_eq, ← hhas]
  obtain ⟨b, Hb⟩ : ∃ b, Hid (Maps.has (setM L) (keyM x) = b) := ⟨_, rfl⟩
  obtain ⟨X, HX⟩ : ∃ X, Hid (mvL x = X) := ⟨_, rfl⟩
  have hinf : (Try.prog.info? 90).map (·.size) = some X.length := by rw [← HX.out]; exact inf62L x
  rw [HX.out] at hkey ⊢
  have hlook : ∀ w' : World, w'.ownsMap Try.prog 90 (unitElem (H := Unit)) B L.length (setM L) → (Instr.lookup 86 (.map (some B)) (.agg X.toArray) true).run Try.prog w' = .ok (.tuple #[.agg #[], .bool b]) w' := by
    intro w' h
    obtain ⟨v, ps, h1, h2⟩ := h.look_ok keyed62 und76 (zero86 w') (unitElem_mk (H := Unit)) hkey
    obtain ⟨rfl, _⟩ := unitElem_inv h2
    rw [← Hb.out]; exact h1
  have hX0 : (w.alloc (.cells X.toArray 90)).rangeAt w.heap.size 0 X := by
    intro j u hu
    rw [Nat.zero_add, cell_of_row _ _ j _ _ _ (heap_alloc_new w _)]
    simpa using hu
  have hB0 := balloc w (.cells X.toArray 90)
  have hc1 : (w.alloc (.cells X.toArray 90)).cell? ⟨G, 1, none⟩ = some (.map (some B)) := (hB0.cell (p := ⟨G, 1, none⟩) hGlt).trans hGc
  have hm1 := omap_below hmap hB0 hBlt
  have HLOOK : Hid (∀ w' : World, w'.ownsMap Try.prog 90 (unitElem (H := Unit)) B L.length (setM L) → (Instr.lookup 86 (.map (some B)) (.agg X.toArray) true).run Try.prog w' = .ok (.tuple #[.agg #[], .bool b]) w') := hlook
  have hS0 : (w.alloc (.cells X.toArray 90)).cell? ⟨G, 1, none⟩ = some (.map (some B)) ∧ (w.alloc (.cells X.toArray 90)).rangeAt w.heap.size 0 X ∧ (w.alloc (.cells X.toArray 90)).ownsMap Try.prog 90 (unitElem (H := Unit)) B L.length (setM L) ∧ w.heap.size < (w.alloc (.cells X.toArray 90)).heap.size ∧ Below w.heap.size w (w.alloc (.cells X.toArray 90)) := ⟨hc1, hX0, hm1, by simp, hB0⟩
  clear hhas hkey hlook hX0 hB0 hc1 hm1 hmap hG hGc
  rw [Hb.out]
  go_enter Try.func87, Try.ntmps87
  go_wp2_with fail
  refine wp_region_noPanic ?_
  refine wp_region_held_drew (S := HS w G B X L) (by kernel_rfl) (by exact ⟨hS0.1, hS0.2.1, hS0.2.2.1, hS0.2.2.2.1, hS0.2.2.2.2.drew⟩) (fun hSx => ?_)
  clear hS0
  refine wpAnyH_take (i := 0) (v := .pointer (some ⟨G, 0, none⟩)) rfl (by kernel_rfl) (by kernel_rfl) (by kernel_rfl) (fun _ _ _ h => h) (Or.inl ⟨by rfl, fun w' hSw => by (try dsimp only at hSw); go_simp⟩) hSx ?_
  try simp only [Act.put, List.setIfInBounds_toArray]
  refine wpAnyH_take (i := 1) (v := .pointer (some ⟨G, 0, none⟩)) rfl (by kernel_rfl) (by kernel_rfl) (by kernel_rfl) (fun _ _ _ h => h) (Or.inl ⟨by rfl, fun w' hSw => by (try dsimp only at hSw); go_simp⟩) hSx ?_
  try simp only [Act.put]
  refine wpAnyH_take (i := 2) (v := .pointer (some ⟨G, 1, none⟩)) rfl (by kernel_rfl) (by kernel_rfl) (by kernel_rfl) (fun _ _ _ h => h) (Or.inl ⟨by rfl, fun w' hSw => by (try dsimp only at hSw); go_simp⟩) hSx ?_
  try simp only [Act.put]
  refine wpAnyH_take (i := 3) (v := .map (some B)) rfl (by kernel_rfl) (by kernel_rfl) (by kernel_rfl) (fun _ _ _ h => h) (Or.inl ⟨by rfl, fun w' hSw => by have hSw := hSw.1; go_simp⟩) hSx ?_
  try simp only [Act.put]
  refine wpAnyH_take (i := 4) (v := .agg X.toArray) rfl (by kernel_rfl) (by kernel_rfl) (by kernel_rfl) (fun _ _ _ h => h) (yieldsIf_load_mid (by rfl) 90 _ rfl w.heap.size 0 rfl X _ (fun _ h => h.2.1) und62 rfl hinf) hSx ?_
  try simp only [Act.put]
  refine wpAnyH_take (i := 5) (v := .tuple #[.agg #[], .bool b]) rfl (by kernel_rfl) (by kernel_rfl) (by kernel_rfl) (fun _ _ _ h => h) (Or.inl ⟨by rfl, fun w' hSw => by have hl := HLOOK.out w' hSw.2.2.1; unfold execOp; simp only [Act.eval]; go_simp⟩) hSx ?_
  try simp only [Act.put]
  refine wpAnyH_take (i := 6) (v := .tuple #[.agg #[], .bool b]) rfl (by kernel_rfl) (by kernel_rfl) (by kernel_rfl) (fun _ _ _ h => h) (Or.inl ⟨by rfl, fun w' hSw => by (try dsimp only at hSw); go_simp⟩) hSx ?_
  try simp only [Act.put]
  refine wpAnyH_take (i := 7) (v := .agg #[]) rfl (by kernel_rfl) (by kernel_rfl) (by kernel_rfl) (fun _ _ _ h => h) (Or.inl ⟨by rfl, fun w' hSw => by (try dsimp only at hSw); go_simp⟩) hSx ?_
  try simp only [Act.put]
  refine wpAnyH_take (i := 8) (v := .bool b) rfl (by kernel_rfl) (by kernel_rfl) (by kernel_rfl) (fun _ _ _ h => h) (Or.inl ⟨by rfl, fun w' hSw => by (try dsimp only at hSw); go_simp⟩) hSx ?_
  try simp only [Act.put]
  refine wpAnyH_ready (rs := [9]) (by kernel_rfl) (by simp) ?_
  refine AllReadyH.cons rfl (fun J hJ => ?_) AllReadyH.nil
  go_simp
  refine hJ.out _ _ (hSx.alloc hGlt _) (fun hSy => ?_)
  clear hJ J
  try simp only [Act.put, List.setIfInBounds_toArray, List.set_cons_zero, List.set_cons_succ]
  refine wpAnyH_ready (rs := [10]) (by kernel_rfl) (by simp) ?_
  refine AllReadyH.cons rfl (fun J hJ => ?_) AllReadyH.nil
  go_simp
  refine hJ.out _ _ hSy (fun hSz => ?_)
  clear hJ J
  try simp only [Act.put, List.setIfInBounds_toArray, List.set_cons_zero, List.set_cons_succ]
  refine wpAnyH_ready (rs := [11]) (by kernel_rfl) (by simp) ?_
  refine AllReadyH.cons rfl (fun J hJ => ?_) AllReadyH.nil
  go_simp
  refine hJ.out _ _ hSz (fun _ => ?_)
  clear hJ J
  refine wpAnyH_done (by kernel_rfl) ?_ _
  refine NoPanic.normal ?_
  go_wp2
  go_ret
  exact ⟨rfl, hSz.2.2.2.2⟩

end Go.Proofs.Ytmaplmgecohjbaa

namespace Go.Proofs.Ytmaplmgecohjbaa
open Go.RowKit Go.Maps

theorem und58' : Try.prog.underlying 69 = some (.slice 90) := und58
/-- What the regions of add read. -/
def AS (w : World) (G B : Nat) (v : Value) (X : List Value) (w' : World) : Prop := w'.cell? ⟨G, 0, none⟩ = some v ∧ w'.cell? ⟨G, 1, none⟩ = some (.map (some B)) ∧ w'.rangeAt w.heap.size 0 X
theorem range_block {w w' : World} {b o : Nat} {cs : List Value} (h : w.rangeAt b o cs) (e : w'.heap[b]? = w.heap[b]?) : w'.rangeAt b o cs := fun j v hv => (World.cell?_of_block (w := w) (a := ⟨b, o + j, none⟩) e).trans (h j v hv)
theorem AS.of {w : World} {G B : Nat} {v : Value} {X : List Value} {w1 w2 : World} (h : AS w G B v X w1) (e1 : w2.heap[G]? = w1.heap[G]?) (e2 : w2.heap[w.heap.size]? = w1.heap[w.heap.size]?) : AS w G B v X w2 :=
  ⟨(World.cell?_of_block (w := w1) (a := ⟨G, 0, none⟩) e1).trans h.1, (World.cell?_of_block (w := w1) (a := ⟨G, 1, none⟩) e1).trans h.2.1, range_block h.2.2 e2⟩
theorem orow_set {w : World} {base n : Nat} {e : TypeId} {size : Nat} {v : Value} {xs : List Value} (h : w.ownsRow base e size v n xs) (a : Addr) (u : Value) (hne : ∀ g, v.ownBlock = some g → g ≠ a.block) : (w.setCell a u).ownsRow base e size v n xs := by
  obtain ⟨h3, h4 | ⟨g, cap, cur, rfl, h6, h7, h8⟩⟩ := h
  · exact ⟨h3, .inl h4⟩
  · exact ⟨h3, .inr ⟨g, cap, cur, rfl, h6, (heap_setCell_other w a g u (hne g rfl)).trans h7, h8⟩⟩

theorem fill7 {X : List Value} (h : X.length = 7) : List.foldl (fun (cs : Array Value) x => cs.setIfInBounds x.snd x.fst) #[Value.int .i64 0, .int .i64 0, .int .i64 0, .int .i64 0, .int .i64 0, .int .i64 0, .int .i64 0] X.zipIdx = X.toArray := by
  match X, h with
  | [_, _, _, _, _, _, _], _ => rfl

set_option maxRecDepth 100000 in
set_option maxHeartbeats 2000000 in
theorem add_yes (base G : Nat) (L : List (List Nat)) (x : List Nat) (w : World) (hM : Mem base w G L) (hbs : base ≤ w.heap.size) (hL : ∀ y ∈ L, Small y) (hx : Small x) (hin : x ∈ L) :
    Calls Try.prog 71 #[.pointer (some ⟨G, 0, none⟩), mv x] w fun e w' => e = .returned (.tuple #[]) ∧ Mem base w' G L ∧ Below base w w' := by
  have C := fun W (h : Below w.heap.size w W) => has_any base G L x W (hM.below h) hL hx
  have HM : Hid (Mem base w G L) := hM
  rw [decide_eq_true hin] at C
  rw [mv_eq] at C ⊢
  obtain ⟨X, HX⟩ : ∃ X, Hid (mvL x = X) := ⟨_, rfl⟩
  have hinf : (Try.prog.info? 90).map (·.size) = some X.length := by rw [← HX.out]; exact inf62L x
  rw [HX.out] at C ⊢
  have hX0 : (w.alloc (.cells X.toArray 90)).rangeAt w.heap.size 0 X := by
    intro j u hu
    rw [Nat.zero_add, cell_of_row _ _ j _ _ _ (heap_alloc_new w _)]
    simpa using hu
  have hB0 := balloc w (.cells X.toArray 90)
  clear hM hL hx hin
  go_enter Try.func71, Try.ntmps71
  go_wp2_with (first
    | (refine wpList_load_mid rfl 90 _ rfl w.heap.size 0 rfl X _ hX0 und62 rfl hinf ?_)
    | (go_at_call 87; refine (C _ hB0).mono ?_; rintro e w1 ⟨rfl, b1⟩; replace b1 := Below.next hB0 b1))
  go_end0
  exact ⟨rfl, HM.out.below b1, b1.mono hbs⟩

set_option maxRecDepth 100000 in
set_option maxHeartbeats 2000000 in
theorem add_no (base G : Nat) (L : List (List Nat)) (x : List Nat) (w : World) (hM : Mem base w G L) (hbs : base ≤ w.heap.size) (hL : ∀ y ∈ L, Small y) (hx : Small x) (hin : x ∉ L) (hlen : L.length ≤ 6000) :
    Calls Try.prog 71 #[.pointer (some ⟨G, 0, none⟩), mv x] w fun e w' => e = .returned (.tuple #[]) ∧ Mem base w' G (L ++ [x]) ∧ Below base w w' := by
  have C := fun W (h : Below w.heap.size w W) => has_any base G L x W (hM.below h) hL hx
  rw [decide_eq_false hin] at C
  obtain ⟨v, B, hG, hrow, hmap, hbG, hbB⟩ := hM
  have hGlt : G < w.heap.size := (Array.getElem?_eq_some_iff.1 hG).1
  have hBlt := omap_lt hmap
  have hkey := keyM_of hx
  obtain ⟨n, Hn⟩ : ∃ n, Hid (L.length = n) := ⟨_, rfl⟩
  rw [Hn.out] at hrow hmap hlen
  obtain ⟨i62, hi, hz0, hz1, hz2⟩ := info62
  rw [mv_eq] at C hkey ⊢
  obtain ⟨X, HX⟩ : ∃ X, Hid (mvL x = X) := ⟨_, rfl⟩
  have hinf : (Try.prog.info? 90).map (·.size) = some X.length := by rw [← HX.out]; exact inf62L x
  have hXl : X.length = 7 := by rw [← HX.out]; exact mvL_len x
  have hX1 : ∀ u ∈ X, u.oneCell' = true := by rw [← HX.out]; exact mvL_one x
  rw [HX.out] at C hkey ⊢
  have hX0 : (w.alloc (.cells X.toArray 90)).rangeAt w.heap.size 0 X := by
    intro j u hu
    rw [Nat.zero_add, cell_of_row _ _ j _ _ _ (heap_alloc_new w _)]
    simpa using hu
  have hB0 := balloc w (.cells X.toArray 90)
  have HK : Hid (keyOf Try.prog 90 (.agg X.toArray) = some (keyM x)) := hkey
  have HG : Hid (w.heap[G]? = some (.cells #[v, .map (some B)] 88 (0, 0))) := hG
  have HROW : Hid (w.ownsRow base 90 7 v n (L.flatMap mvL)) := hrow
  have HMAP : Hid (w.ownsMap Try.prog 90 (unitElem (H := Unit)) B n (setM L)) := hmap
  have HI : Hid (Try.prog.info? 90 = some i62 ∧ i62.zero = some (.agg (mrow fun _ => 0)) ∧ i62.size = 7 ∧ i62.bytes = 56) := ⟨hi, hz0, hz1, hz2⟩
  clear hL hx hin hkey hi hz0 hz1 hz2 hG hrow hmap
  go_enter Try.func71, Try.ntmps71
  go_wp2_with (first
    | (refine wpList_load_mid rfl 90 _ rfl w.heap.size 0 rfl X _ hX0 und62 rfl hinf ?_)
    | (go_at_call 87; refine (C _ hB0).mono ?_; rintro e w1 ⟨rfl, b1⟩; have hX1w := range_below hX0 b1 (by simp); replace b1 := Below.next hB0 b1))
  have hS1 : AS w G B v X w1 := by
    have e := (b1.block G hGlt).trans HG.out
    exact ⟨cell_of_row w1 G 0 _ _ _ e, cell_of_row w1 G 1 _ _ _ e, hX1w⟩
  have hmap1 := omap_below HMAP.out b1 hBlt
  have hsz1 : w.heap.size < w1.heap.size := by
    have := hX1w 0 _ (List.getElem?_eq_getElem (by omega))
    exact World.block_lt_of_cell? w1 _ this
  obtain ⟨w2, hupd, hmap2, hturn⟩ := (World.ownsMap.drew hmap1).store keyed62 und76 (by unfold maxLen; omega) HK.out (unitElem_mk (H := Unit))
  have hgrow2 := hturn.grown
  clear C hX1w hX0
  refine wp_region_noPanic ?_
  refine wp_region_held_drew (S := AS w G B v X) (by kernel_rfl) (by exact hS1) (fun hSx => ?_)
  refine wpAnyH_take (i := 0) (v := .pointer (some ⟨G, 0, none⟩)) rfl (by kernel_rfl) (by kernel_rfl) (by kernel_rfl) (fun _ _ _ h => h) (Or.inl ⟨by rfl, fun w' hSw => by (try dsimp only at hSw); go_simp⟩) hSx ?_
  try simp only [Act.put, List.setIfInBounds_toArray]
  refine wpAnyH_take (i := 1) (v := .pointer (some ⟨G, 0, none⟩)) rfl (by kernel_rfl) (by kernel_rfl) (by kernel_rfl) (fun _ _ _ h => h) (Or.inl ⟨by rfl, fun w' hSw => by (try dsimp only at hSw); go_simp⟩) hSx ?_
  try simp only [Act.put]
  refine wpAnyH_take (i := 2) (v := .pointer (some ⟨G, 1, none⟩)) rfl (by kernel_rfl) (by kernel_rfl) (by kernel_rfl) (fun _ _ _ h => h) (Or.inl ⟨by rfl, fun w' hSw => by (try dsimp only at hSw); go_simp⟩) hSx ?_
  try simp only [Act.put]
  refine wpAnyH_take (i := 3) (v := .map (some B)) rfl (by kernel_rfl) (by kernel_rfl) (by kernel_rfl) (fun _ _ _ h => h) (Or.inl ⟨by rfl, fun w' hSw => by have hSw := hSw.2.1; go_simp⟩) hSx ?_
  try simp only [Act.put]
  refine wpAnyH_take (i := 4) (v := .agg X.toArray) rfl (by kernel_rfl) (by kernel_rfl) (by kernel_rfl) (fun _ _ _ h => h) (yieldsIf_load_mid (by rfl) 90 _ rfl w.heap.size 0 rfl X _ (fun _ h => h.2.2) und62 rfl hinf) hSx ?_
  try simp only [Act.put]
  refine wpAnyH_take (i := 5) (v := .agg #[]) rfl (by kernel_rfl) (by kernel_rfl) (by kernel_rfl) (fun _ _ _ h => h) (Or.inl ⟨by rfl, fun w' hSw => by (try dsimp only at hSw); go_simp⟩) hSx ?_
  try simp only [Act.put]
  refine wpAnyH_ready (rs := [6]) (by kernel_rfl) (by simp) ?_
  refine AllReadyH.cons rfl (fun J hJ => ?_) AllReadyH.nil
  go_simp
  have hGB : G ≠ B := by
    intro e
    subst e
    obtain ⟨es, clock, h1, _⟩ := hmap1
    rw [(b1.block G hGlt).trans HG.out] at h1
    cases h1
  have hWB : w.heap.size ≠ B := by omega
  have hS2 : AS w G B v X w2 := hS1.of (hgrow2.block G (by show G < w1.heap.size; omega) (by simpa using hGB)) (hgrow2.block w.heap.size hsz1 (by simpa using hWB))
  refine hJ.out _ _ hS2 (fun _ => ?_)
  clear hJ J
  refine wpAnyH_done (by kernel_rfl) ?_ _
  refine NoPanic.normal ?_
  have hb2 : Below base w w2 := (b1.mono hbs).drew.grown hgrow2 (by show base ≤ w1.heap.size; omega) (fun k hk => by cases hk; exact hbB)
  have hsz2 : w1.heap.size ≤ w2.heap.size := hgrow2.size
  have hrow1 := orow_below HROW.out b1
  have hnb : ∀ g, v.ownBlock = some g → g < w.heap.size ∧ g ≠ G ∧ g ≠ B := by
    intro g hg
    obtain ⟨_, ⟨rfl, _⟩ | ⟨g', cap, cur, rfl, _, h7, _⟩⟩ := HROW.out
    · cases hg
    · obtain rfl : g' = g := by simpa [Value.ownBlock] using hg
      refine ⟨(Array.getElem?_eq_some_iff.1 h7).1, ?_, ?_⟩
      · rintro rfl
        rw [HG.out] at h7
        simp at h7
      · rintro rfl
        obtain ⟨es, clock, h1, _⟩ := HMAP.out
        rw [h7] at h1
        cases h1
  have hrow2 : w2.ownsRow base 90 7 v n (L.flatMap mvL) := World.ownsRow.kept (w := w1.drew) hrow1 hgrow2 (by
    cases hv : v.ownBlock with
    | none => exact .inl rfl
    | some g => exact .inr (by simpa using (hnb g hv).2.2))
  have hG2 : w2.heap[G]? = some (.cells #[v, .map (some B)] 88 (0, 0)) := (hgrow2.block G (by show G < w1.heap.size; omega) (by simpa using hGB)).trans ((b1.block G hGlt).trans HG.out)
  have HG2 : Hid (w2.heap[G]? = some (.cells #[v, .map (some B)] 88 (0, 0))) := hG2
  have hlen2 : w.heap.size < w2.heap.size := by omega
  clear hgrow2 hturn hupd hS1 hSx hG2 hmap1 hrow1
  have hrow3 : ((w2.alloc (.cells X.toArray 90)).drew).ownsRow base 90 7 v n (L.flatMap mvL) := World.ownsRow.alloc hrow2 _
  have hS3 : AS w G B v X ((w2.alloc (.cells X.toArray 90)).drew) := hS2.of ((balloc w2 (.cells X.toArray 90)).block G (by omega)) ((balloc w2 (.cells X.toArray 90)).block w.heap.size hlen2)
  have hR3 := hS3.2.2
  have hnews : ∀ j u, X[j]? = some u → ((w2.alloc (.cells X.toArray 90)).drew).cell? ((⟨w2.heap.size, 0, none⟩ : Addr).add j) = some u := by
    intro j u hu
    rw [Addr.add_mid]
    show (w2.alloc (.cells X.toArray 90)).cell? ⟨w2.heap.size, 0 + j, none⟩ = some u
    rw [Nat.zero_add, cell_of_row _ _ j _ _ _ (heap_alloc_new w2 _)]
    simpa using hu
  go_wp2_with fail
  refine wp_region_noPanic ?_
  refine wp_region_held_drew (S := fun w' => w'.rangeAt w.heap.size 0 X) (by kernel_rfl) (by exact hS2.2.2) (fun hSx => ?_)
  refine wpAnyH_take (i := 0) (v := .pointer (some ⟨G, 0, none⟩)) rfl (by kernel_rfl) (by kernel_rfl) (by kernel_rfl) (fun _ _ _ h => h) (Or.inl ⟨by rfl, fun w' hSw => by (try dsimp only at hSw); go_simp⟩) hSx ?_
  try simp only [Act.put, List.setIfInBounds_toArray]
  refine wpAnyH_take (i := 1) (v := .pointer (some ⟨G, 0, none⟩)) rfl (by kernel_rfl) (by kernel_rfl) (by kernel_rfl) (fun _ _ _ h => h) (Or.inl ⟨by rfl, fun w' hSw => by (try dsimp only at hSw); go_simp⟩) hSx ?_
  try simp only [Act.put]
  refine wpAnyH_take (i := 2) (v := .pointer (some ⟨G, 0, none⟩)) rfl (by kernel_rfl) (by kernel_rfl) (by kernel_rfl) (fun _ _ _ h => h) (Or.inl ⟨by rfl, fun w' hSw => by (try dsimp only at hSw); go_simp⟩) hSx ?_
  try simp only [Act.put]
  refine wpAnyH_take (i := 3) (v := .pointer (some ⟨G, 0, none⟩)) rfl (by kernel_rfl) (by kernel_rfl) (by kernel_rfl) (fun _ _ _ h => h) (Or.inl ⟨by rfl, fun w' hSw => by (try dsimp only at hSw); go_simp⟩) hSx ?_
  try simp only [Act.put]
  refine wpAnyH_take (i := 5) (v := .agg X.toArray) rfl (by kernel_rfl) (by kernel_rfl) (by kernel_rfl) (fun _ _ _ h => h) (yieldsIf_load_mid (by rfl) 90 _ rfl w.heap.size 0 rfl X _ (fun _ h => h) und62 rfl hinf) hSx ?_
  try simp only [Act.put]
  refine wpAnyH_ready (rs := [4, 6]) (by kernel_rfl) (by simp) ?_
  refine AllReadyH.cons rfl (fun J hJ => ?_) (AllReadyH.cons rfl (fun J hJ => ?_) AllReadyH.nil)
  · have hc4 := hS2.1
    go_simp
    refine hJ.out _ _ hSx (fun _ => ?_)
    clear hJ J
    try simp only [Act.put, List.setIfInBounds_toArray, List.set_cons_zero, List.set_cons_succ]
    refine wpAnyH_ready (rs := [6]) (by kernel_rfl) (by simp) ?_
    refine AllReadyH.cons rfl (fun J hJ => ?_) AllReadyH.nil
    go_simp
    rw [fill7 hXl]
    refine hJ.out _ _ hR3 (fun hSy => ?_)
    clear hJ J
    try simp only [Act.put, List.setIfInBounds_toArray, List.set_cons_zero, List.set_cons_succ]
    refine wpAnyH_ready (rs := [7]) (by kernel_rfl) (by simp) ?_
    refine AllReadyH.cons rfl (fun J hJ => ?_) AllReadyH.nil
    refine step_append_lies _ (by rfl) _ _ 69 (by rfl) base 90 i62 (.agg (mrow fun _ => 0)) 7 56 und58 HI.out.1 HI.out.2.1 HI.out.2.2.1 HI.out.2.2.2 (by simp [Value.cells]) (by omega) v n _ (by rfl) hrow3 ⟨w2.heap.size, 0, none⟩ 1 1 X (by rfl) (by omega) hnews hX1 (by omega) (by unfold maxLen; omega) (by omega) (by show base ≤ (w2.alloc (.cells X.toArray 90)).heap.size; rw [World.size_alloc]; omega) (w2.heap.size + 1) (by simp) ?_
    intro g cap w5 hown5 hgrow5 hat5 hlt5
    have hgG : g ≠ G := by
      rcases hat5 with h | h
      · exact (hnb g h).2.1
      · omega
    have hb5 : Below base w w5 := ((hb2.alloc (by omega) (.cells X.toArray 90)).drew).grown hgrow5 (by show base ≤ (w2.alloc (.cells X.toArray 90)).heap.size; rw [World.size_alloc]; omega) (fun k hk => (HROW.out.lt k hk).1)
    have hvG : some G ≠ v.ownBlock := by
      intro e
      exact (hnb G e.symm).2.1 rfl
    have hG5 : w5.heap[G]? = some (.cells #[v, .map (some B)] 88 (0, 0)) := (hgrow5.block G (by show G < (w2.alloc (.cells X.toArray 90)).heap.size; rw [World.size_alloc]; omega) hvG).trans (((balloc w2 (.cells X.toArray 90)).block G (by omega)).trans HG2.out)
    have hmap5 : w5.ownsMap Try.prog 90 (unitElem (H := Unit)) B (n + 1) ((setM L).put (keyM x) (.agg [])) := World.ownsMap.kept (w := (w2.alloc (.cells X.toArray 90)).drew) (World.ownsMap.alloc hmap2 _) hgrow5 (fun e => (hnb B e.symm).2.2 rfl)
    have hR5 : w5.rangeAt w.heap.size 0 X := range_block hR3 (hgrow5.block w.heap.size (by show w.heap.size < (w2.alloc (.cells X.toArray 90)).heap.size; rw [World.size_alloc]; omega) (fun e => by have := (hnb _ e.symm).1; omega))
    refine hJ.out _ _ hR5 (fun hSz => ?_)
    clear hJ J
    try simp only [Act.put, List.setIfInBounds_toArray]
    refine wpAnyH_take (i := 8) (v := .pointer (some ⟨G, 0, none⟩)) rfl (by kernel_rfl) (by kernel_rfl) (by kernel_rfl) (fun _ _ _ h => h) (Or.inl ⟨by rfl, fun w' hSw => by (try dsimp only at hSw); go_simp⟩) hSz ?_
    try simp only [Act.put]
    refine wpAnyH_take (i := 9) (v := .pointer (some ⟨G, 0, none⟩)) rfl (by kernel_rfl) (by kernel_rfl) (by kernel_rfl) (fun _ _ _ h => h) (Or.inl ⟨by rfl, fun w' hSw => by (try dsimp only at hSw); go_simp⟩) hSz ?_
    try simp only [Act.put]
    refine wpAnyH_ready (rs := [10]) (by kernel_rfl) (by simp) ?_
    refine AllReadyH.cons rfl (fun J hJ => ?_) AllReadyH.nil
    have hc0 := cell_of_row w5 G 0 _ _ _ hG5
    have hf0 := frozen_of_row w5 G 0 _ _ hG5
    go_simp
    have hR6 : (w5.setCell ⟨G, 0, none⟩ (.slice (some ⟨g, 0, none⟩) (n + 1) cap)).rangeAt w.heap.size 0 X := range_block hR5 (heap_setCell_other w5 _ _ _ (by show w.heap.size ≠ G; omega))
    refine hJ.out _ _ hR6 (fun _ => ?_)
    clear hJ J
    refine wpAnyH_done (by kernel_rfl) ?_ _
    refine NoPanic.normal ?_
    go_wp2_with fail
    go_end0
    refine ⟨rfl, ⟨.slice (some ⟨g, 0, none⟩) (n + 1) cap, B, ?_, ?_, ?_, hbG, hbB⟩, hb5.setCell (p := ⟨G, 0, none⟩) hbG _⟩
    · rw [heap_setCell_same w5 G 0 _ _ _ hG5]; rfl
    · rw [List.length_append, Hn.out, List.flatMap_append, List.flatMap_singleton, HX.out]
      exact orow_set hown5 _ _ (fun g' hg' => by
        obtain rfl : g = g' := by simpa [Value.ownBlock] using hg'
        exact hgG)
    · rw [List.length_append, Hn.out, setM_snoc]
      exact hmap5.setCell (by show B ≠ G; exact fun e => hGB e.symm) _
  · go_simp
    rw [fill7 hXl]
    refine hJ.out _ _ hR3 (fun hSy => ?_)
    clear hJ J
    try simp only [Act.put, List.setIfInBounds_toArray, List.set_cons_zero, List.set_cons_succ]
    refine wpAnyH_ready (rs := [4]) (by kernel_rfl) (by simp) ?_
    refine AllReadyH.cons rfl (fun J hJ => ?_) AllReadyH.nil
    have hc4 := hS3.1
    go_simp
    refine hJ.out _ _ hSy (fun _ => ?_)
    clear hJ J
    try simp only [Act.put, List.setIfInBounds_toArray, List.set_cons_zero, List.set_cons_succ]
    refine wpAnyH_ready (rs := [7]) (by kernel_rfl) (by simp) ?_
    refine AllReadyH.cons rfl (fun J hJ => ?_) AllReadyH.nil
    refine step_append_lies _ (by rfl) _ _ 69 (by rfl) base 90 i62 (.agg (mrow fun _ => 0)) 7 56 und58 HI.out.1 HI.out.2.1 HI.out.2.2.1 HI.out.2.2.2 (by simp [Value.cells]) (by omega) v n _ (by rfl) hrow3 ⟨w2.heap.size, 0, none⟩ 1 1 X (by rfl) (by omega) hnews hX1 (by omega) (by unfold maxLen; omega) (by omega) (by show base ≤ (w2.alloc (.cells X.toArray 90)).heap.size; rw [World.size_alloc]; omega) (w2.heap.size + 1) (by simp) ?_
    intro g cap w5 hown5 hgrow5 hat5 hlt5
    have hgG : g ≠ G := by
      rcases hat5 with h | h
      · exact (hnb g h).2.1
      · omega
    have hb5 : Below base w w5 := ((hb2.alloc (by omega) (.cells X.toArray 90)).drew).grown hgrow5 (by show base ≤ (w2.alloc (.cells X.toArray 90)).heap.size; rw [World.size_alloc]; omega) (fun k hk => (HROW.out.lt k hk).1)
    have hvG : some G ≠ v.ownBlock := by
      intro e
      exact (hnb G e.symm).2.1 rfl
    have hG5 : w5.heap[G]? = some (.cells #[v, .map (some B)] 88 (0, 0)) := (hgrow5.block G (by show G < (w2.alloc (.cells X.toArray 90)).heap.size; rw [World.size_alloc]; omega) hvG).trans (((balloc w2 (.cells X.toArray 90)).block G (by omega)).trans HG2.out)
    have hmap5 : w5.ownsMap Try.prog 90 (unitElem (H := Unit)) B (n + 1) ((setM L).put (keyM x) (.agg [])) := World.ownsMap.kept (w := (w2.alloc (.cells X.toArray 90)).drew) (World.ownsMap.alloc hmap2 _) hgrow5 (fun e => (hnb B e.symm).2.2 rfl)
    have hR5 : w5.rangeAt w.heap.size 0 X := range_block hR3 (hgrow5.block w.heap.size (by show w.heap.size < (w2.alloc (.cells X.toArray 90)).heap.size; rw [World.size_alloc]; omega) (fun e => by have := (hnb _ e.symm).1; omega))
    refine hJ.out _ _ hR5 (fun hSz => ?_)
    clear hJ J
    try simp only [Act.put, List.setIfInBounds_toArray]
    refine wpAnyH_take (i := 8) (v := .pointer (some ⟨G, 0, none⟩)) rfl (by kernel_rfl) (by kernel_rfl) (by kernel_rfl) (fun _ _ _ h => h) (Or.inl ⟨by rfl, fun w' hSw => by (try dsimp only at hSw); go_simp⟩) hSz ?_
    try simp only [Act.put]
    refine wpAnyH_take (i := 9) (v := .pointer (some ⟨G, 0, none⟩)) rfl (by kernel_rfl) (by kernel_rfl) (by kernel_rfl) (fun _ _ _ h => h) (Or.inl ⟨by rfl, fun w' hSw => by (try dsimp only at hSw); go_simp⟩) hSz ?_
    try simp only [Act.put]
    refine wpAnyH_ready (rs := [10]) (by kernel_rfl) (by simp) ?_
    refine AllReadyH.cons rfl (fun J hJ => ?_) AllReadyH.nil
    have hc0 := cell_of_row w5 G 0 _ _ _ hG5
    have hf0 := frozen_of_row w5 G 0 _ _ hG5
    go_simp
    have hR6 : (w5.setCell ⟨G, 0, none⟩ (.slice (some ⟨g, 0, none⟩) (n + 1) cap)).rangeAt w.heap.size 0 X := range_block hR5 (heap_setCell_other w5 _ _ _ (by show w.heap.size ≠ G; omega))
    refine hJ.out _ _ hR6 (fun _ => ?_)
    clear hJ J
    refine wpAnyH_done (by kernel_rfl) ?_ _
    refine NoPanic.normal ?_
    go_wp2_with fail
    go_end0
    refine ⟨rfl, ⟨.slice (some ⟨g, 0, none⟩) (n + 1) cap, B, ?_, ?_, ?_, hbG, hbB⟩, hb5.setCell (p := ⟨G, 0, none⟩) hbG _⟩
    · rw [heap_setCell_same w5 G 0 _ _ _ hG5]; rfl
    · rw [List.length_append, Hn.out, List.flatMap_append, List.flatMap_singleton, HX.out]
      exact orow_set hown5 _ _ (fun g' hg' => by
        obtain rfl : g = g' := by simpa [Value.ownBlock] using hg'
        exact hgG)
    · rw [List.length_append, Hn.out, setM_snoc]
      exact hmap5.setCell (by show B ≠ G; exact fun e => hGB e.symm) _

end Go.Proofs.Ytmaplmgecohjbaa

/- The walk of made. -/
/- A list of members that grows till it is closed. -/
namespace Go.Proofs.Ytmaplmgecohjbaa
open Go.RowKit Go.Maps

def addL (L : List (List Nat)) (x : List Nat) : List (List Nat) := open Classical in if x ∈ L then L else L ++ [x]
theorem mem_addL {L : List (List Nat)} {x y : List Nat} : y ∈ addL L x ↔ y ∈ L ∨ y = x := by
  unfold addL
  split
  · exact ⟨fun h => .inl h, fun h => h.elim id (fun e => by rw [e]; assumption)⟩
  · simp
theorem addL_at {L : List (List Nat)} {x y : List Nat} {t : Nat} (h : L[t]? = some y) : (addL L x)[t]? = some y := by
  unfold addL
  split
  · exact h
  · rw [List.getElem?_append_left (List.getElem?_eq_some_iff.1 h).1]; exact h
theorem addL_len (L : List (List Nat)) (x : List Nat) : L.length ≤ (addL L x).length := by
  unfold addL
  split
  · exact Nat.le_refl _
  · simp
theorem addL_nodup {L : List (List Nat)} {x : List Nat} (h : L.Nodup) : (addL L x).Nodup := by
  unfold addL
  split
  · exact h
  · rename_i hx
    exact List.nodup_append.2 ⟨h, by simp, fun a ha b hb => by
      obtain rfl : b = x := by simpa using hb
      exact fun e => hx (e ▸ ha)⟩
theorem addL_ext {n : Nat} {L : List (List Nat)} {x : List Nat} (hn : n ≤ 7) (hL : ∀ y ∈ L, y.length = n) (hx : x.length = n) : (addL L x).map (ext n) = addL (L.map (ext n)) (ext n x) := by
  unfold addL
  by_cases h : x ∈ L
  · rw [if_pos h, if_pos (List.mem_map.2 ⟨x, h, rfl⟩)]
  · rw [if_neg h, if_neg, List.map_append]
    · rfl
    · rintro h2
      obtain ⟨y, hy, e⟩ := List.mem_map.1 h2
      exact h (ext_inj (hL y hy) hx hn e ▸ hy)

/-- Distinct members, what moves nothing among them. -/
structure MadeS (n : Nat) (ms L : List (List Nat)) : Prop where
  nd : L.Nodup
  one : idL n ∈ L
  gen : ∀ a ∈ L, Gen n ms a
theorem MadeS.isP {n : Nat} {ms L : List (List Nat)} (hm : ∀ m ∈ ms, IsP n m) (h : MadeS n ms L) : ∀ a ∈ L, IsP n a := fun a ha => (h.gen a ha).isP hm
theorem MadeS.len {n : Nat} {ms L : List (List Nat)} (hm : ∀ m ∈ ms, IsP n m) (hn : n ≤ 7) (h : MadeS n ms L) : L.length ≤ 5040 := by
  have := perms_le h.nd (h.isP hm)
  have h2 : fac n ≤ fac 7 := fac_mono hn
  have h3 : fac 7 = 5040 := by decide
  omega
/-- Each of the first i with each maker, the next one with the first j, is there. -/
structure Clo (ms L : List (List Nat)) (i j : Nat) : Prop where
  low : ∀ t a m, t < i → L[t]? = some a → m ∈ ms → thenL a m ∈ L
  now : ∀ a q m, L[i]? = some a → q < j → ms[q]? = some m → thenL a m ∈ L
theorem Clo.start {ms L : List (List Nat)} : Clo ms L 0 0 := ⟨fun t a m h => by omega, fun a q m _ h => by omega⟩
theorem Clo.next {ms L : List (List Nat)} {i j : Nat} {a m : List Nat} (h : Clo ms L i j) (hi : i < L.length) (ha : L[i]? = some a) (hm : ms[j]? = some m) : Clo ms (addL L (thenL a m)) i (j + 1) := by
  have back : ∀ t b, t ≤ i → (addL L (thenL a m))[t]? = some b → L[t]? = some b := fun t b ht hb => by
    have h1 : L[t]? = some L[t] := List.getElem?_eq_getElem (by omega)
    have h2 := addL_at (x := thenL a m) h1
    rw [hb] at h2
    rw [h1, h2]
  refine ⟨fun t b q ht hb hq => mem_addL.2 (.inl (h.low t b q ht (back t b (by omega) hb) hq)), fun b q m' hb hq hm' => ?_⟩
  have hb' := back i b (Nat.le_refl _) hb
  by_cases e : q = j
  · subst e
    rw [hm] at hm'
    rw [ha] at hb'
    obtain rfl : m = m' := by simpa using hm'
    obtain rfl : a = b := by simpa using hb'
    exact mem_addL.2 (.inr rfl)
  · exact mem_addL.2 (.inl (h.now b q m' hb' (by omega) hm'))
theorem Clo.turn {ms L : List (List Nat)} {i : Nat} (h : Clo ms L i ms.length) : Clo ms L (i + 1) 0 := by
  refine ⟨fun t a m ht ha hm => ?_, fun a q m _ hq => by omega⟩
  by_cases e : t = i
  · subst e
    obtain ⟨q, hq, rfl⟩ := List.mem_iff_getElem.1 hm
    exact h.now a q _ ha hq (List.getElem?_eq_getElem hq)
  · exact h.low t a m (by omega) ha hm
theorem Clo.done {n : Nat} {ms L : List (List Nat)} (hS : MadeS n ms L) (h : Clo ms L L.length 0) (a : List Nat) : a ∈ L ↔ Gen n ms a :=
  gen_closed hS.one hS.gen (fun a ha m hm => by
    obtain ⟨t, ht, rfl⟩ := List.mem_iff_getElem.1 ha
    exact h.low t _ m ht (List.getElem?_eq_getElem ht) hm) a
theorem MadeS.add {n : Nat} {ms L : List (List Nat)} (h : MadeS n ms L) {a m : List Nat} (ha : a ∈ L) (hm : m ∈ ms) : MadeS n ms (addL L (thenL a m)) :=
  ⟨addL_nodup h.nd, mem_addL.2 (.inl h.one), fun b hb => by
    rcases mem_addL.1 hb with h1 | rfl
    · exact h.gen b h1
    · exact .step a m (h.gen a ha) hm⟩

theorem add_any (n base G : Nat) (L : List (List Nat)) (x : List Nat) (w : World) (hn : n ≤ 7) (hM : Mem base w G (L.map (ext n))) (hbs : base ≤ w.heap.size) (hL : ∀ y ∈ L, IsP n y) (hx : IsP n x) (hlen : L.length ≤ 6000) :
    Calls Try.prog 71 #[.pointer (some ⟨G, 0, none⟩), mv (ext n x)] w fun e w' => e = .returned (.tuple #[]) ∧ Mem base w' G ((addL L x).map (ext n)) ∧ Below base w w' := by
  have hS : ∀ y ∈ L.map (ext n), Small y := fun y hy => by
    obtain ⟨z, hz, rfl⟩ := List.mem_map.1 hy
    exact (ext_isP (hL z hz) hn).small
  have hxS := (ext_isP hx hn).small
  rw [addL_ext hn (fun y hy => (hL y hy).len) hx.len]
  by_cases h : ext n x ∈ L.map (ext n)
  · have e : addL (L.map (ext n)) (ext n x) = L.map (ext n) := by unfold addL; rw [if_pos h]
    rw [e]
    exact add_yes base G _ _ w hM hbs hS hxS h
  · have e : addL (L.map (ext n)) (ext n x) = L.map (ext n) ++ [ext n x] := by unfold addL; rw [if_neg h]
    rw [e]
    exact add_no base G _ _ w hM hbs hS hxS h (by rw [List.length_map]; exact hlen)
theorem flat_range {L : List (List Nat)} : ∀ {i : Nat} {x : List Nat}, L[i]? = some x → ∀ j v, (mvL x)[j]? = some v → (L.flatMap mvL)[i * 7 + j]? = some v := by
  induction L with
  | nil => intro i x h; simp at h
  | cons y L ih =>
    intro i x h j v hv
    rw [List.flatMap_cons]
    cases i with
    | zero =>
      obtain rfl : y = x := by simpa using h
      rw [Nat.zero_mul, Nat.zero_add, List.getElem?_append_left (List.getElem?_eq_some_iff.1 hv).1]; exact hv
    | succ i =>
      rw [List.getElem?_append_right (by rw [mvL_len]; omega), mvL_len, show (i + 1) * 7 + j - 7 = i * 7 + j by omega]
      exact ih (by simpa using h) j v hv
/-- What the block of members shows to a reader. -/
theorem Mem.open {base G : Nat} {w : World} {L : List (List Nat)} (h : Mem base w G L) (hne : 0 < L.length) : ∃ g cap, w.cell? ⟨G, 0, none⟩ = some (.slice (some ⟨g, 0, none⟩) L.length cap) ∧ g < w.heap.size ∧ G < w.heap.size ∧ cap ≤ maxLen ∧ L.length ≤ cap ∧ ∀ i x, L[i]? = some x → w.rangeAt g (i * 7) (mvL x) := by
  obtain ⟨v, B, h1, h2, _⟩ := h
  obtain ⟨_, ⟨rfl, h0⟩ | ⟨g, cap, cur, rfl, _, h7, h8, h9, h10, ht⟩⟩ := h2
  · omega
  · refine ⟨g, cap, cell_of_row w G 0 _ _ _ h1, (Array.getElem?_eq_some_iff.1 h7).1, (Array.getElem?_eq_some_iff.1 h1).1, h9, h8, fun i x hx j v hv => ?_⟩
    rw [cell_of_row w g _ _ _ _ h7]
    have h3 := flat_range hx j v hv
    rw [← ht] at h3
    have hj : j < 7 := by have := (List.getElem?_eq_some_iff.1 hv).1; rwa [mvL_len] at this
    have hi : i < L.length := (List.getElem?_eq_some_iff.1 hx).1
    rw [List.getElem?_take, if_pos (by omega)] at h3
    rw [← Array.getElem?_toList]; exact h3
theorem Mem.mvs {base G : Nat} {w : World} {L : List (List Nat)} (h : Mem base w G L) (hne : 0 < L.length) : ∃ v, w.cell? ⟨G, 0, none⟩ = some v ∧ Mvs w v L ∧ G < w.heap.size := by
  obtain ⟨g, cap, h1, h2, h3, _, _, h4⟩ := h.open hne
  exact ⟨_, h1, ⟨_, cap, rfl, fun i x hx => ⟨g, 0, rfl, h2, by rw [Nat.zero_add]; exact h4 i x hx⟩⟩, h3⟩

end Go.Proofs.Ytmaplmgecohjbaa

namespace Go.Proofs.Ytmaplmgecohjbaa
open Go.RowKit Go.Maps

set_option maxRecDepth 100000 in
set_option maxHeartbeats 4000000 in
theorem made_any (n : Nat) (ms : List (List Nat)) (v : Value) (w : World) (hn : n ≤ 7) (hk : ms.length ≤ 100000) (hv : Mvs w v (ms.map (ext n))) (hm : ∀ m ∈ ms, IsP n m) :
    Calls Try.prog 51 #[v] w fun e w' => (∃ (G : Nat) (L : List (List Nat)), e = .returned (.pointer (some ⟨G, 0, none⟩)) ∧ Mem w.heap.size w' G (L.map (ext n)) ∧ L.Nodup ∧ ∀ a, a ∈ L ↔ Gen n ms a) ∧ Below w.heap.size w w' := by
  obtain ⟨k, Hk⟩ : ∃ k, Hid (ms.length = k) := ⟨_, rfl⟩
  rw [Hk.out] at hk
  obtain ⟨a, cap, rfl, _⟩ := id hv
  have HV : Hid (Mvs w (.slice a (ms.map (ext n)).length cap) (ms.map (ext n))) := hv
  rw [List.length_map, Hk.out] at HV ⊢
  have HM : Hid (∀ m ∈ ms, IsP n m) := hm
  clear hv hm
  have hmm := @run_makeMap Try.prog
  have C0 := fun W => still_any W
  rw [← ext_id hn] at C0
  have hM0 : Mem w.heap.size ((w.alloc (.map #[] 0)).alloc (.cells #[.slice none 0 0, .map (some w.heap.size)] 88)) (w.heap.size + 1) (([] : List (List Nat)).map (ext n)) := by
    refine ⟨.slice none 0 0, w.heap.size, ?_, World.ownsRow_nil _ _ _ _, ?_, by omega, Nat.le_refl _⟩
    · have h := heap_alloc_new (w.alloc (.map #[] 0)) (.cells #[.slice none 0 0, .map (some w.heap.size)] 88)
      rw [World.size_alloc] at h; exact h
    · exact World.ownsMap.alloc (World.ownsMap_made w _ _ _) _
  have hB0 : Below w.heap.size w ((w.alloc (.map #[] 0)).alloc (.cells #[.slice none 0 0, .map (some w.heap.size)] 88)) := (balloc w _).alloc (by simp) _
  have C1 := fun W (h : Mem w.heap.size W (w.heap.size + 1) (([] : List (List Nat)).map (ext n))) (hs : w.heap.size ≤ W.heap.size) => add_any n w.heap.size (w.heap.size + 1) [] (idL n) W hn h hs (by simp) (isP_id n) (by simp)
  have e1 : addL [] (idL n) = [idL n] := by unfold addL; simp
  rw [e1] at C1
  obtain ⟨I, HI⟩ : ∃ I, Hid (mv (ext n (idL n)) = I) := ⟨_, rfl⟩
  rw [HI.out] at C0 C1
  clear e1
  go_enter Try.func51, Try.ntmps51
  go_wp2_with (first
    | (go_at_call 72; refine (C0 _).mono ?_; rintro e w1 ⟨rfl, b1⟩; have hM1 := hM0.below b1; replace b1 := Below.next hB0 b1)
    | (go_at_call 71; refine (C1 _ hM1 b1.size).mono ?_; rintro e w2 ⟨rfl, hM2, b2⟩; replace b2 := b1.trans b2))
  clear hM0 hM1 hB0 b1 C0 C1 hmm
  go_loopw [4] (fun i wr => ∃ (t : Nat) (L : List (List Nat)), i = .int .i64 t ∧ t ≤ L.length ∧ Hid (MadeS n ms L) ∧ Hid (Clo ms L t 0) ∧ Hid (Mem w.heap.size wr (w.heap.size + 1) (L.map (ext n))) ∧ Below w.heap.size w wr) (fun i _ => (5041 - intOf i).toNat)
  case atStart => exact ⟨0, [idL n], rfl, by simp, (⟨by simp, by simp, fun a h => by rw [List.mem_singleton.1 h]; exact .one⟩ : MadeS n ms [idL n]), Clo.start, hM2, b2⟩
  case round =>
    clear hM2 b2
    obtain ⟨t, L, rfl, ht, HS, HC, HME, hB⟩ := hrel
    have hlen := HS.out.len HM.out hn
    have hpos : 0 < L.length := List.length_pos_iff.2 fun e => by have := HS.out.one; rw [e] at this; cases this
    obtain ⟨r, Hr⟩ : ∃ r, Hid (L.length = r) := ⟨_, rfl⟩
    obtain ⟨g, gc, hc0, hgl, hGl, hgc, _, _⟩ := HME.out.open (by rw [List.length_map]; exact hpos)
    rw [List.length_map, Hr.out] at hc0
    rw [Hr.out] at ht hlen hpos
    by_cases hlt : t < r
    · have hti : (t : Int) < r := by omega
      have hdec : decide ((t : Int) < r) = true := by simp; omega
      go_wp2
      go_loopw [24] (fun i wr => ∃ (j : Nat) (L' : List (List Nat)), i = .int .i64 j ∧ j ≤ k ∧ t < L'.length ∧ Hid (MadeS n ms L') ∧ Hid (Clo ms L' t j) ∧ Hid (Mem w.heap.size wr (w.heap.size + 1) (L'.map (ext n))) ∧ Below w.heap.size w wr) (fun i _ => (k - intOf i).toNat)
      case atStart => exact ⟨0, L, rfl, by omega, by have := Hr.out; omega, HS, HC, HME, hB⟩
      case round =>
        clear hc0 hgl hgc hB HME HS HC hlen hpos Hr ht hlt hti hdec
        obtain ⟨j, L', rfl, hj, htl, HS, HC, HME, hB⟩ := hrel
        by_cases hlt : j < k
        · have hji : (j : Int) < k := by omega
          have hdec : decide ((j : Int) < k) = true := by simp; omega
          have hlen := HS.out.len HM.out hn
          obtain ⟨g, gc, hc0, hgl, hGl, hgc, _, hrg⟩ := HME.out.open (by rw [List.length_map]; omega)
          obtain ⟨r, Hr⟩ : ∃ r, Hid (L'.length = r) := ⟨_, rfl⟩
          rw [List.length_map, Hr.out] at hc0
          rw [Hr.out] at htl hlen
          have hti : (t : Int) < r := by omega
          obtain ⟨x, hx⟩ : ∃ x, L'[t]? = some x := ⟨L'[t]'(by have := Hr.out; omega), by simp⟩
          obtain ⟨m, hmj⟩ : ∃ m, ms[j]? = some m := ⟨ms[j]'(by have := Hk.out; omega), by simp⟩
          have hxP := HS.out.isP HM.out x (List.mem_of_getElem? hx)
          have hmP := HM.out m (List.mem_of_getElem? hmj)
          have hrx := hrg t (ext n x) (by rw [List.getElem?_map, hx]; rfl)
          obtain ⟨b, off, rfl, hbw, hrm⟩ := HV.out.at (i := j) (x := ext n m) (by rw [List.getElem?_map, hmj]; rfl)
          have hrm1 := range_below hrm hB hbw
          have hsz := hB.size
          have C := fun W => then_any (ext n x) (ext n m) W (ext_len _ _) (fun i hi => ext_lt hxP hn hi)
          rw [← ext_then hxP hn] at C
          have D := fun W (h : Mem w.heap.size W (w.heap.size + 1) (L'.map (ext n))) (hs : w.heap.size ≤ W.heap.size) => add_any n w.heap.size (w.heap.size + 1) L' (thenL x m) W hn h hs (HS.out.isP HM.out) (hxP.then hmP) (by have := Hr.out; omega)
          obtain ⟨Y, HY⟩ : ∃ Y, Hid (mv (ext n (thenL x m)) = Y) := ⟨_, rfl⟩
          rw [HY.out] at C D
          simp only [mv_eq] at C
          have hinX : (Try.prog.info? 90).map (·.size) = some (mvL (ext n x)).length := inf62L _
          have hinM : (Try.prog.info? 90).map (·.size) = some (mvL (ext n m)).length := inf62L _
          have hlM : (mvL (ext n m)).length = 7 := mvL_len _
          have h1M : ∀ u ∈ mvL (ext n m), u.oneCell' = true := mvL_one _
          obtain ⟨X, HX⟩ : ∃ X, Hid (mvL (ext n x) = X) := ⟨_, rfl⟩
          obtain ⟨M, HMM⟩ : ∃ M, Hid (mvL (ext n m) = M) := ⟨_, rfl⟩
          rw [HX.out] at C hinX hrx
          rw [HMM.out] at C hinM hrm1 hlM h1M
          have HXP : Hid (L'[t]? = some x ∧ ms[j]? = some m ∧ IsP n x ∧ IsP n m) := ⟨hx, hmj, hxP, hmP⟩
          have hone := all_oneCell_toArray h1M
          have hinM' : (Try.prog.info? 90).map (·.size) = some M.toArray.size := by simpa using hinM
          have hth : (wr.alloc (.cells #[.int .i64 0, .int .i64 0, .int .i64 0, .int .i64 0, .int .i64 0, .int .i64 0, .int .i64 0] 90)).there wr.heap.size 0 M.toArray.size := by
            intro q hq
            rw [Nat.zero_add, cell_of_row _ _ q _ _ _ (heap_alloc_new wr _), frozen_of_row _ _ q _ _ (heap_alloc_new wr _)]
            have hq7 : q < 7 := by simpa [hlM] using hq
            exact ⟨by simp [hq7], rfl⟩
          clear hx hmj hxP hmP hrg hrm h1M
          have hBa := balloc wr (.cells #[.int .i64 0, .int .i64 0, .int .i64 0, .int .i64 0, .int .i64 0, .int .i64 0, .int .i64 0] 90)
          have hBb : Below wr.heap.size wr ((wr.alloc (.cells #[.int .i64 0, .int .i64 0, .int .i64 0, .int .i64 0, .int .i64 0, .int .i64 0, .int .i64 0] 90)).setCells wr.heap.size 0 M) := hBa.trans (bsets (Nat.le_refl _) _ _ _)
          have hrM2 : ((wr.alloc (.cells #[.int .i64 0, .int .i64 0, .int .i64 0, .int .i64 0, .int .i64 0, .int .i64 0, .int .i64 0] 90)).setCells wr.heap.size 0 M).rangeAt wr.heap.size 0 M := World.rangeAt_setCells_same _ _ _ _ (by simpa using hth)
          obtain ⟨W, HW⟩ : ∃ W, Hid ((wr.alloc (.cells #[.int .i64 0, .int .i64 0, .int .i64 0, .int .i64 0, .int .i64 0, .int .i64 0, .int .i64 0] 90)).setCells wr.heap.size 0 M = W) := ⟨_, rfl⟩
          rw [HW.out] at hBb hrM2
          have hrx2 := range_below hrx hBb hgl
          have hc2 := (hBb.cell (p := ⟨w.heap.size + 1, 0, none⟩) hGl).trans hc0
          have HME2 : Hid (Mem w.heap.size W (w.heap.size + 1) (L'.map (ext n))) := HME.out.below hBb
          have hB2 := Below.next hB hBb
          go_wp2_with (first
            | (refine wpList_load_mid rfl 90 _ rfl b (off + j * 7) rfl M _ hrm1 und62 rfl hinM ?_)
            | (refine wpList_store_mid rfl 90 _ _ rfl wr.heap.size 0 M.toArray rfl rfl hth hinM' hone ?_; rw [show M.toArray.toList = M from rfl, HW.out]))
          clear hc0 hrx hrm1 hth
          refine wp_region_noPanic ?_
          refine wp_region_held_drew (S := fun _ => True) (by kernel_rfl) trivial (fun hSx => ?_)
          refine wpAnyH_take (i := 0) (v := .pointer (some ⟨w.heap.size + 1, 0, none⟩)) rfl (by kernel_rfl) (by kernel_rfl) (by kernel_rfl) (fun _ _ _ h => h) (Or.inl ⟨by rfl, fun w' hSw => by (try dsimp only at hSw); go_simp⟩) trivial ?_
          try simp only [Act.put, List.setIfInBounds_toArray]
          refine wpAnyH_take (i := 1) (v := .pointer (some ⟨w.heap.size + 1, 0, none⟩)) rfl (by kernel_rfl) (by kernel_rfl) (by kernel_rfl) (fun _ _ _ h => h) (Or.inl ⟨by rfl, fun w' hSw => by (try dsimp only at hSw); go_simp⟩) trivial ?_
          try simp only [Act.put]
          refine wpAnyH_take (i := 2) (v := .pointer (some ⟨w.heap.size + 1, 0, none⟩)) rfl (by kernel_rfl) (by kernel_rfl) (by kernel_rfl) (fun _ _ _ h => h) (Or.inl ⟨by rfl, fun w' hSw => by (try dsimp only at hSw); go_simp⟩) trivial ?_
          try simp only [Act.put]
          refine wpAnyH_take (i := 3) (v := .pointer (some ⟨w.heap.size + 1, 0, none⟩)) rfl (by kernel_rfl) (by kernel_rfl) (by kernel_rfl) (fun _ _ _ h => h) (Or.inl ⟨by rfl, fun w' hSw => by (try dsimp only at hSw); go_simp⟩) trivial ?_
          try simp only [Act.put]
          refine wpAnyH_take (i := 5) (v := .int .i64 t) rfl (by kernel_rfl) (by kernel_rfl) (by kernel_rfl) (fun _ _ _ h => h) (Or.inl ⟨by rfl, fun w' hSw => by (try dsimp only at hSw); go_simp⟩) trivial ?_
          try simp only [Act.put]
          refine wpAnyH_ready (rs := [4, 8]) (by kernel_rfl) (by simp) ?_
          refine AllReadyH.cons rfl (fun J hJ => ?_) (AllReadyH.cons rfl (fun J hJ => ?_) AllReadyH.nil)
          · go_simp
            refine hJ.out _ _ trivial (fun _ => ?_)
            clear hJ J
            try simp only [Act.put, List.setIfInBounds_toArray, List.set_cons_zero, List.set_cons_succ]
            refine wpAnyH_take (i := 6) (v := .pointer (some ⟨g, t * 7, none⟩)) rfl (by kernel_rfl) (by kernel_rfl) (by kernel_rfl) (fun _ _ _ h => h) (Or.inl ⟨by rfl, fun w' hSw => by (try dsimp only at hSw); go_simp⟩) trivial ?_
            try simp only [Act.put, List.setIfInBounds_toArray]
            refine wpAnyH_ready (rs := [7, 8]) (by kernel_rfl) (by simp) ?_
            refine AllReadyH.cons rfl (fun J hJ => ?_) (AllReadyH.cons rfl (fun J hJ => ?_) AllReadyH.nil)
            · refine step_load_mid (by rfl) 90 _ (by rfl) g (t * 7) (by rfl) X _ (by exact hrx2) und62 rfl hinX ?_
              refine hJ.out _ _ trivial (fun _ => ?_)
              clear hJ J
              try simp only [Act.put]
              refine wpAnyH_ready (rs := [8]) (by kernel_rfl) (by simp) ?_
              refine AllReadyH.cons rfl (fun J hJ => ?_) AllReadyH.nil
              refine step_load_mid (by rfl) 90 _ (by rfl) wr.heap.size 0 (by rfl) M _ (by exact hrM2) und62 rfl hinM ?_
              refine hJ.out _ _ trivial (fun _ => ?_)
              clear hJ J
              try simp only [Act.put]
              refine wpAnyH_ready (rs := [9]) (by kernel_rfl) (by simp) ?_
              refine AllReadyH.cons rfl (fun J hJ => ?_) AllReadyH.nil
              go_simp
              refine (C _).mono ?_
              rintro e w3 ⟨rfl, b3⟩
              have hM3 := Mem.below (w := W.drew) HME2.out b3
              have hB3 := Below.next hB2.drew b3
              go_wp2_with fail
              refine hJ.out _ _ trivial (fun _ => ?_)
              clear hJ J
              try simp only [Act.put, List.setIfInBounds_toArray, List.set_cons_zero, List.set_cons_succ]
              refine wpAnyH_ready (rs := [10]) (by kernel_rfl) (by simp) ?_
              refine AllReadyH.cons rfl (fun J hJ => ?_) AllReadyH.nil
              go_simp
              refine (D _ hM3 hB3.size).mono ?_
              rintro e w4 ⟨rfl, hM4, b4⟩
              have hB4 := hB3.trans b4
              go_wp2_with fail
              refine hJ.out _ _ trivial (fun _ => ?_)
              clear hJ J
              refine wpAnyH_done (by kernel_rfl) ?_ _
              refine NoPanic.normal ?_
              go_wp2_with fail
              go_roundw
              case rel =>
                have hxm := HXP.out
                exact ⟨j + 1, addL L' (thenL x m), by go_num, by omega, by have := addL_len L' (thenL x m); have := Hr.out; omega, HS.out.add (List.mem_of_getElem? hxm.1) (List.mem_of_getElem? hxm.2.1), HC.out.next (by have := Hr.out; omega) hxm.1 hxm.2.1, hM4, hB4⟩
              case measure => simp [intOf]; omega
            · refine step_load_mid (by rfl) 90 _ (by rfl) wr.heap.size 0 (by rfl) M _ (by exact hrM2) und62 rfl hinM ?_
              refine hJ.out _ _ trivial (fun _ => ?_)
              clear hJ J
              try simp only [Act.put]
              refine wpAnyH_ready (rs := [7]) (by kernel_rfl) (by simp) ?_
              refine AllReadyH.cons rfl (fun J hJ => ?_) AllReadyH.nil
              refine step_load_mid (by rfl) 90 _ (by rfl) g (t * 7) (by rfl) X _ (by exact hrx2) und62 rfl hinX ?_
              refine hJ.out _ _ trivial (fun _ => ?_)
              clear hJ J
              try simp only [Act.put]
              refine wpAnyH_ready (rs := [9]) (by kernel_rfl) (by simp) ?_
              refine AllReadyH.cons rfl (fun J hJ => ?_) AllReadyH.nil
              go_simp
              refine (C _).mono ?_
              rintro e w3 ⟨rfl, b3⟩
              have hM3 := Mem.below (w := W.drew) HME2.out b3
              have hB3 := Below.next hB2.drew b3
              go_wp2_with fail
              refine hJ.out _ _ trivial (fun _ => ?_)
              clear hJ J
              try simp only [Act.put, List.setIfInBounds_toArray, List.set_cons_zero, List.set_cons_succ]
              refine wpAnyH_ready (rs := [10]) (by kernel_rfl) (by simp) ?_
              refine AllReadyH.cons rfl (fun J hJ => ?_) AllReadyH.nil
              go_simp
              refine (D _ hM3 hB3.size).mono ?_
              rintro e w4 ⟨rfl, hM4, b4⟩
              have hB4 := hB3.trans b4
              go_wp2_with fail
              refine hJ.out _ _ trivial (fun _ => ?_)
              clear hJ J
              refine wpAnyH_done (by kernel_rfl) ?_ _
              refine NoPanic.normal ?_
              go_wp2_with fail
              go_roundw
              case rel =>
                have hxm := HXP.out
                exact ⟨j + 1, addL L' (thenL x m), by go_num, by omega, by have := addL_len L' (thenL x m); have := Hr.out; omega, HS.out.add (List.mem_of_getElem? hxm.1) (List.mem_of_getElem? hxm.2.1), HC.out.next (by have := Hr.out; omega) hxm.1 hxm.2.1, hM4, hB4⟩
              case measure => simp [intOf]; omega
          · refine step_load_mid (by rfl) 90 _ (by rfl) wr.heap.size 0 (by rfl) M _ (by exact hrM2) und62 rfl hinM ?_
            refine hJ.out _ _ trivial (fun _ => ?_)
            clear hJ J
            try simp only [Act.put]
            refine wpAnyH_ready (rs := [4]) (by kernel_rfl) (by simp) ?_
            refine AllReadyH.cons rfl (fun J hJ => ?_) AllReadyH.nil
            go_simp
            refine hJ.out _ _ trivial (fun _ => ?_)
            clear hJ J
            try simp only [Act.put, List.setIfInBounds_toArray, List.set_cons_zero, List.set_cons_succ]
            refine wpAnyH_take (i := 6) (v := .pointer (some ⟨g, t * 7, none⟩)) rfl (by kernel_rfl) (by kernel_rfl) (by kernel_rfl) (fun _ _ _ h => h) (Or.inl ⟨by rfl, fun w' hSw => by (try dsimp only at hSw); go_simp⟩) trivial ?_
            try simp only [Act.put, List.setIfInBounds_toArray]
            refine wpAnyH_ready (rs := [7]) (by kernel_rfl) (by simp) ?_
            refine AllReadyH.cons rfl (fun J hJ => ?_) AllReadyH.nil
            refine step_load_mid (by rfl) 90 _ (by rfl) g (t * 7) (by rfl) X _ (by exact hrx2) und62 rfl hinX ?_
            refine hJ.out _ _ trivial (fun _ => ?_)
            clear hJ J
            try simp only [Act.put]
            refine wpAnyH_ready (rs := [9]) (by kernel_rfl) (by simp) ?_
            refine AllReadyH.cons rfl (fun J hJ => ?_) AllReadyH.nil
            go_simp
            refine (C _).mono ?_
            rintro e w3 ⟨rfl, b3⟩
            have hM3 := Mem.below (w := W.drew) HME2.out b3
            have hB3 := Below.next hB2.drew b3
            go_wp2_with fail
            refine hJ.out _ _ trivial (fun _ => ?_)
            clear hJ J
            try simp only [Act.put, List.setIfInBounds_toArray, List.set_cons_zero, List.set_cons_succ]
            refine wpAnyH_ready (rs := [10]) (by kernel_rfl) (by simp) ?_
            refine AllReadyH.cons rfl (fun J hJ => ?_) AllReadyH.nil
            go_simp
            refine (D _ hM3 hB3.size).mono ?_
            rintro e w4 ⟨rfl, hM4, b4⟩
            have hB4 := hB3.trans b4
            go_wp2_with fail
            refine hJ.out _ _ trivial (fun _ => ?_)
            clear hJ J
            refine wpAnyH_done (by kernel_rfl) ?_ _
            refine NoPanic.normal ?_
            go_wp2_with fail
            go_roundw
            case rel =>
              have hxm := HXP.out
              exact ⟨j + 1, addL L' (thenL x m), by go_num, by omega, by have := addL_len L' (thenL x m); have := Hr.out; omega, HS.out.add (List.mem_of_getElem? hxm.1) (List.mem_of_getElem? hxm.2.1), HC.out.next (by have := Hr.out; omega) hxm.1 hxm.2.1, hM4, hB4⟩
            case measure => simp [intOf]; omega
        · obtain rfl : j = k := by omega
          have hkd : decide ((j : Int) < (j : Int)) = false := by simp
          have hlen := HS.out.len HM.out hn
          have ht5 : t < 5040 := by omega
          go_wp2
          go_roundw
          case rel =>
            refine ⟨t + 1, L', by go_num, by omega, HS, ?_, HME, hB⟩
            have h := HC.out
            rw [← Hk.out] at h
            exact h.turn
          case measure => simp [intOf]; omega
    · obtain rfl : t = r := by omega
      have hkd : decide ((t : Int) < (t : Int)) = false := by simp
      go_wp2
      go_ret
      refine ⟨⟨w.heap.size + 1, L, rfl, HME.out, HS.out.nd, fun a => ?_⟩, hB⟩
      have h := HC.out
      rw [← Hr.out] at h
      exact Clo.done HS.out h a

end Go.Proofs.Ytmaplmgecohjbaa

namespace Go.Proofs.Ytmaplmgecohjbaa
open Go.RowKit Go.Maps

theorem order_any (base G : Nat) (L : List (List Nat)) (w : World) (hM : Mem base w G L) (h0 : 0 < L.length) :
    Calls Try.prog 53 #[.pointer (some ⟨G, 0, none⟩)] w fun e w' => e = .returned (.int .i64 (L.length : Int)) ∧ w' = w := by
  obtain ⟨g, cap, hc, _, hG, _, _, _⟩ := hM.open h0
  obtain ⟨r, Hr⟩ : ∃ r, Hid (L.length = r) := ⟨_, rfl⟩
  rw [Hr.out] at hc ⊢
  clear hM h0
  go_enter Try.func53, Try.ntmps53
  go_wp2
  go_ret
  exact ⟨rfl, rfl⟩
/-- As many as there are. -/
theorem gen_len {n : Nat} {ms L : List (List Nat)} (hm : ∀ m ∈ ms, IsP n m) (nd : L.Nodup) (h : ∀ a, a ∈ L ↔ Gen n ms a) : L.length = (els n (Gen n ms)).length :=
  List.Perm.length_eq ((List.perm_ext_iff_of_nodup nd (els_nodup _ _)).2 fun a => by rw [h a, (gen_grp hm).mem])
theorem gen_perm {n : Nat} {ms L : List (List Nat)} (hm : ∀ m ∈ ms, IsP n m) (nd : L.Nodup) (h : ∀ a, a ∈ L ↔ Gen n ms a) : L.Perm (els n (Gen n ms)) :=
  (List.perm_ext_iff_of_nodup nd (els_nodup _ _)).2 fun a => by rw [h a, (gen_grp hm).mem]
theorem gen_bound {n : Nat} {ms L : List (List Nat)} (hm : ∀ m ∈ ms, IsP n m) (hn : n ≤ 7) (nd : L.Nodup) (h : ∀ a, a ∈ L ↔ Gen n ms a) : 0 < L.length ∧ L.length ≤ 5040 := by
  have hS : MadeS n ms L := ⟨nd, (h _).2 .one, fun a ha => (h a).1 ha⟩
  exact ⟨List.length_pos_iff.2 (fun e => by have := hS.one; rw [e] at this; cases this), hS.len hm hn⟩
/-- How many members. -/
noncomputable def ordG (n : Nat) (ms : List (List Nat)) : Nat := (els n (Gen n ms)).length
/-- The makers, as they lie in memory, and what is known of them. -/
structure Mk (n : Nat) (ms : List (List Nat)) (v : Value) (w : World) : Prop where
  n1 : 1 ≤ n
  n7 : n ≤ 7
  len : ms.length ≤ 4
  isP : ∀ m ∈ ms, IsP n m
  sl : SlSl w v ms
theorem Mk.below {n : Nat} {ms : List (List Nat)} {v : Value} {w w' : World} (h : Mk n ms v w) (hb : Below w.heap.size w w') : Mk n ms v w' := ⟨h.n1, h.n7, h.len, h.isP, h.sl.below hb⟩
theorem Mk.check {n : Nat} {ms : List (List Nat)} {v : Value} {w : World} (h : Mk n ms v w) : Calls Try.prog 34 #[.int .i64 (n : Int), v] w fun e w' => e = .returned (.int .i64 0) ∧ Below w.heap.size w w' := by
  have := GCheck_any n _ v w h.sl.sls (fun l hl => by
    obtain ⟨m, hm, rfl⟩ := List.mem_map.1 hl
    rw [List.length_map, (h.isP m hm).len]; have := h.n7; unfold maxLen; omega) (by rw [List.length_map]; have := h.len; unfold maxLen; omega)
  rw [gF_isP h.n1 h.n7 h.len h.isP] at this
  exact this
theorem Mk.moves {n : Nat} {ms : List (List Nat)} {v : Value} {w : World} (h : Mk n ms v w) : Calls Try.prog 52 #[v] w fun e w' => (∃ x, e = .returned x ∧ Mvs w' x (ms.map (ext n))) ∧ Below w.heap.size w w' :=
  movesOf_any n ms v w h.n7 h.n1 h.len h.sl h.isP
theorem Mk.made {n : Nat} {ms : List (List Nat)} {v : Value} {w : World} (h : Mk n ms v w) (x : Value) (W : World) (hx : Mvs W x (ms.map (ext n))) : Calls Try.prog 51 #[x] W fun e w' => (∃ (G : Nat) (L : List (List Nat)), e = .returned (.pointer (some ⟨G, 0, none⟩)) ∧ Mem W.heap.size w' G (L.map (ext n)) ∧ L.Nodup ∧ ∀ a, a ∈ L ↔ Gen n ms a) ∧ Below W.heap.size W w' :=
  made_any n ms x W h.n7 (by have := h.len; omega) hx h.isP

set_option maxRecDepth 100000 in
set_option maxHeartbeats 1000000 in
theorem Order_ok (n : Nat) (ms : List (List Nat)) (v : Value) (w : World) (h : Mk n ms v w) :
    Calls Try.prog 26 #[.int .i64 (n : Int), v] w fun e w' => e = .returned (.tuple #[.int .i64 (ordG n ms : Int), .int .i64 0]) ∧ Below w.heap.size w w' := by
  have C1 := h.check
  have C2 := fun W (hb : Below w.heap.size w W) => (h.below hb).moves
  have C3 := fun x W hx => h.made x W hx
  have C4 := fun base G (L : List (List Nat)) W (hM : Mem base W G (L.map (ext n))) (nd : L.Nodup) (hg : ∀ a, a ∈ L ↔ Gen n ms a) => order_any base G _ W hM (by rw [List.length_map]; exact (gen_bound h.isP h.n7 nd hg).1)
  have e1 : ∀ (L : List (List Nat)), L.Nodup → (∀ a, a ∈ L ↔ Gen n ms a) → (L.map (ext n)).length = ordG n ms := fun L nd hg => by rw [List.length_map]; exact gen_len h.isP nd hg
  have E1 : Hid (∀ (L : List (List Nat)), L.Nodup → (∀ a, a ∈ L ↔ Gen n ms a) → (L.map (ext n)).length = ordG n ms) := e1
  clear e1 h
  go_enter Try.func26, Try.ntmps26
  go_wp2_with (first
    | (go_at_call 34; refine C1.mono ?_; rintro e w1 ⟨rfl, b1⟩)
    | (go_at_call 52; refine (C2 _ b1).mono ?_; rintro e w2 ⟨⟨x, rfl, hx⟩, b2⟩; replace b2 := Below.next b1 b2)
    | (go_at_call 51; refine (C3 _ _ hx).mono ?_; rintro e w3 ⟨⟨G, L, rfl, hM, nd, hg⟩, b3⟩; replace b3 := Below.next b2 b3)
    | (go_at_call 53; refine (C4 _ _ _ _ hM nd hg).mono ?_; rw [E1.out L nd hg]; rintro e w4 ⟨rfl, rfl⟩))
  exact bodyPost_ret (v := .tuple #[.int .i64 (ordG n ms : Int), .int .i64 0]) (by simp [results, Try.results26, go_sem]) rfl ⟨rfl, b3⟩

set_option maxRecDepth 100000 in
theorem Order_bad (n : Int) (ls : List (List Int)) (v : Value) (w : World) (hv : Sls w v ls) (hls : ∀ l ∈ ls, l.length ≤ maxLen) (hlm : ls.length ≤ maxLen) (z : Int) (hz : gF n ls = z) (h0 : z ≠ 0) :
    Calls Try.prog 26 #[.int .i64 n, v] w fun e w' => e = .returned (.tuple #[.int .i64 0, .int .i64 z]) ∧ Below w.heap.size w w' := by
  have C := GCheck_any n ls v w hv hls hlm
  rw [hz] at C
  have hzd : (z != 0) = true := by simpa using h0
  obtain ⟨a, cap, rfl, _⟩ := hv
  clear h0 hz
  go_enter Try.func26, Try.ntmps26
  go_wp2_with (first | (go_at_call 34; refine C.mono ?_; rintro e w1 ⟨rfl, b1⟩))
  exact bodyPost_ret (v := .tuple #[.int .i64 0, .int .i64 z]) (by simp [results, Try.results26, go_sem]) rfl ⟨rfl, b1⟩

end Go.Proofs.Ytmaplmgecohjbaa
