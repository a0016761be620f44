/- The walk of put: a number at the end, and whether none of its gaps was there. -/
import Derived.Test.YtmiinhbffiodmaaDoorG2
import Derived.Deep.MidRow
import Derived.Deep.RegionHeld3
import Derived.Deep.QuietTactic
import Derived.BigQuiet
import Derived.Shelf.Abstract
namespace Go.Proofs.YtmiinhbffiodmaaDoor
open Go.RowKit Go.Maps

theorem infG (c : Int × Int) : (Tryd.prog.info? 55).map (·.size) = some ([.int .i64 c.1, .int .i64 c.2] : List Value).length := by kernel_rfl
theorem one2 (a b : Int) : (#[.int .i64 a, .int .i64 b] : Array Value).all (·.oneCell') = true := by
  have h1 : ∀ z : Int, (Value.int .i64 z).oneCell' = true := fun _ => rfl
  simp [h1]
theorem gBox {w : World} {a : Nat} {c : Int × Int} (h : w.heap[a]? = some (.cells #[.int .i64 c.1, .int .i64 c.2] 55 (0, 0))) : w.rangeAt a 0 [.int .i64 c.1, .int .i64 c.2] := by
  intro j z hz
  rw [Nat.zero_add, cell_of_row w _ j _ _ _ h]
  simpa using hz
theorem rowAt {w : World} {base : Nat} {a : Option Addr} {k cap : Nat} {l : List Int} (h : w.ownsRow base 3 1 (.slice a k cap) l.length (l.map (Value.int .i64))) (hk : l.length = k) {i : Nat} (hi : i < k) : ∃ b, a = some ⟨b, 0, none⟩ ∧ w.cell? ⟨b, i, none⟩ = some (.int .i64 (l.getD i 0)) := by
  subst hk
  obtain ⟨h1, ⟨h2, h3⟩ | ⟨g, c, cur, e, hb, hg, hc, hm, hs, ht⟩⟩ := h
  · omega
  · simp only [Value.slice.injEq] at e
    refine ⟨g, e.1, ?_⟩
    rw [cell_of_row w g i cur 3 (0, 0) hg, ← Array.getElem?_toList]
    have e2 : (cur.toList.take (l.length * 1))[i]? = some (.int .i64 (l.getD i 0)) := by
      rw [ht, List.getElem?_map, List.getElem?_eq_getElem hi, List.getD_eq_getElem?_getD, List.getElem?_eq_getElem hi]; rfl
    rwa [List.getElem?_take, if_pos (by omega)] at e2
theorem own_ne {w : World} {base g k : Nat} {v : Value} {xs : List Value} {cs : Array Value} {t : TypeId} (h : w.ownsRow base 3 1 v k xs) (hg : w.heap[g]? = some (.cells cs t (0, 0))) (ht : t ≠ 3) : v.ownBlock ≠ some g := fun e => by
  obtain ⟨h1, ⟨h2, h3⟩ | ⟨b, c, cur, rfl, hb, hb2, _⟩⟩ := h
  · subst h2; cases e
  · simp only [Value.ownBlock, Option.some.injEq] at e
    subst e
    rw [hb2] at hg
    simp only [Option.some.injEq, Obj.cells.injEq] at hg
    exact ht hg.2.1.symm
theorem own_kind {w : World} {base k : Nat} {v : Value} {xs : List Value} (h : w.ownsRow base 3 1 v k xs) : ∀ g, v.ownBlock = some g → ∃ c fz, w.heap[g]? = some (.cells c 3 fz) := fun g e => by
  obtain ⟨h1, ⟨h2, h3⟩ | ⟨b, c, cur, rfl, hb, hb2, _⟩⟩ := h
  · subst h2; cases e
  · simp only [Value.ownBlock, Option.some.injEq] at e
    subst e
    exact ⟨_, _, hb2⟩
theorem own_nemap {w : World} {base m n k : Nat} {v : Value} {xs : List Value} {D : DataW Unit} (h : w.ownsRow base 3 1 v k xs) (hm : w.ownsMap Tryd.prog 55 (plainElem Tryd.prog 3) m n D) : v.ownBlock ≠ some m := fun e => by
  obtain ⟨es, clock, hb0, _⟩ := hm
  obtain ⟨h1, ⟨h2, h3⟩ | ⟨b, c, cur, rfl, hb, hb2, _⟩⟩ := h
  · subst h2; cases e
  · simp only [Value.ownBlock, Option.some.injEq] at e
    subst e
    rw [hb2] at hb0
    cases hb0
theorem map_neg {w : World} {g m n : Nat} {D : DataW Unit} {cs : Array Value} {t : TypeId} {fz : Nat × Nat} (hm : w.ownsMap Tryd.prog 55 (plainElem Tryd.prog 3) m n D) (hg : w.heap[g]? = some (.cells cs t fz)) : g ≠ m := fun e => by
  obtain ⟨es, clock, hb0, _⟩ := hm
  subst e
  rw [hg] at hb0
  cases hb0
theorem Kr.grown {base g m n : Nat} {w w1 w2 : World} {D : DataW Unit} (h : Kr base g w w1) (hm : w1.ownsMap Tryd.prog 55 (plainElem Tryd.prog 3) m n D) (hbm : base ≤ m) (hg : w1.grownBy w2 (some m)) : Kr base g w w2 :=
  h.trans ⟨hg.os, hg.tape, hg.output, hg.size, fun k hk => by
    by_cases e : k < w1.heap.size
    · exact hg.block k e (by simp; omega)
    · have := blk_lt hm.choose_spec.choose_spec.1
      omega, fun k c t fz e _ _ => hg.block k (blk_lt e) (by simpa using map_neg hm e)⟩
theorem bsetRw {B g : Nat} {w0 w : World} (hb : Below B w0 w) (hBg : B ≤ g) (cs : Array Value) : Below B w0 (w.setRow g cs) :=
  ⟨hb.os, hb.tape, hb.output, by simpa using hb.size, fun k hk => (setRow_other w g k cs (by omega)).trans (hb.block k hk)⟩
theorem Kr.drew {base g : Nat} {w w1 : World} (h : Kr base g w w1) : Kr base g w w1.drew := h.trans ⟨rfl, rfl, rfl, Nat.le_refl _, fun _ _ => rfl, fun _ _ _ _ _ _ _ => rfl⟩

set_option maxRecDepth 100000 in
set_option maxHeartbeats 16000000 in
theorem put_any (ap : Int → Int → Int × Int) (base g m f n : Nat) (l : List Int) (T : Int × Int → Int) (x : Int) (w : World) (hA : ApF f ap) (hR : RowS w base g m f l T n)
    (hx : 0 ≤ x ∧ x ≤ 1000000000) (hl : ∀ i, i < l.length → 0 ≤ l.getD i 0 ∧ l.getD i 0 ≤ 1000000000) (h60 : l.length ≤ 60) (hT : ∀ c, 0 ≤ T c ∧ T c ≤ 100000) (hn : n ≤ 1000000000000000000) :
    Calls Tryd.prog 39 #[.pointer (some ⟨g, 0, none⟩), .int .i64 x] w fun e w' => e = .returned (.bool (ftB T (nwG ap l x) l.length)) ∧ RowS w' base g m f (l ++ [x]) (upT T (nwG ap l x)) (n + l.length) ∧ Kr base g w w' := by
  obtain ⟨v, hbox, hown⟩ := hR.box
  obtain ⟨D0, hmap, hgap⟩ := hR.map
  have hbg := hR.bg
  have hbm := hR.bm
  obtain ⟨va, vc, rfl⟩ := own_form hown
  have c0 : w.cell? ⟨g, 0, none⟩ = some (.slice va l.length vc) := by rw [cell_of_row w g 0 _ _ _ hbox]; rfl
  obtain ⟨k, Hk⟩ : ∃ k, Hid (l.length = k) := ⟨_, rfl⟩
  have HLEN : Hid ((nwG ap l x).length = k) := (nwG_len ap l x).trans Hk.out
  have HNW : Hid (∀ i : Nat, i < k → (nwG ap l x).getD i (0, 0) = ap ((k : Int) - (i : Int)) (x - l.getD i 0)) := fun i hi => by
    have h := nwG_at ap l x (i := i) (by rw [Hk.out]; exact hi)
    rw [Hk.out] at h; exact h
  have HLB : Hid (∀ i : Nat, i < k → 0 ≤ l.getD i 0 ∧ l.getD i 0 ≤ 1000000000) := fun i hi => hl i (by rw [Hk.out]; exact hi)
  obtain ⟨L, HL⟩ : ∃ L, Hid (nwG ap l x = L) := ⟨_, rfl⟩
  rw [HL.out] at HLEN HNW ⊢
  have HBD : Hid (∀ (i : Nat) (c : Int × Int), 0 ≤ upT T (L.take i) c ∧ upT T (L.take i) c ≤ 100100) := fun i c => upT_bd c (hT c) (by have := HLEN.out; have := Hk.out; omega)
  have HRW : Hid (∀ W : World, W.ownsRow base 3 1 (.slice va k vc) l.length (l.map (Value.int .i64)) → ∀ i : Nat, i < k → ∃ b, va = some ⟨b, 0, none⟩ ∧ W.cell? ⟨b, i, none⟩ = some (.int .i64 (l.getD i 0))) := fun W hW i hi => rowAt hW Hk.out hi
  have HAP : Hid (ApF f ap) := hA
  have eg := hA.ent
  rw [Hk.out] at c0 hbox hown h60 ⊢
  have hown1 : w.ownsRow base 3 1 (.slice va k vc) l.length (l.map (Value.int .i64)) := by rw [Hk.out]; exact hown
  clear hR hl hT hA hown
  go_enter Tryd.func39, Tryd.ntmps39
  go_wp2
  go_loopw [5, 14] (fun fv iv wr => ∃ (i : Nat) (D : DataW Unit), iv = .int .i64 (i : Int) ∧ i ≤ k ∧ fv = .bool (ftB T L i) ∧ wr.heap[g]? = some (.cells #[.slice va k vc, .map (some m), .func (.func f) #[] #[]] 64 (0, 0)) ∧
      wr.ownsRow base 3 1 (.slice va k vc) l.length (l.map (Value.int .i64)) ∧ wr.ownsMap Tryd.prog 55 (plainElem Tryd.prog 3) m (n + i) D ∧ Hid (GapsIs D (upT T (L.take i))) ∧ Hid (Kr base g w wr)) (fun _ iv _ => (k - intOf iv).toNat)
  case atStart => exact ⟨0, D0, rfl, by omega, rfl, hbox, hown1, hmap, (show GapsIs D0 (upT T (L.take 0)) by rw [List.take_zero, upT_nil]; exact hgap), (show Kr base g w w from Kr.refl _ _ _)⟩
  case round =>
    clear c0 hbox hown1 hmap hgap
    obtain ⟨i, D, rfl, hi, rfl, hbox, hown, hmap, HG, HK⟩ := hrel
    by_cases hlt : i < k
    · have hdi : decide ((i : Int) < (k : Int)) = true := by simp; omega
      have hii : (i : Int) < (k : Int) := by omega
      obtain ⟨b, rfl, hcell⟩ := HRW.out _ hown i hlt
      have hyb := HLB.out i hlt
      have HC := HNW.out i hlt
      obtain ⟨y, Hy⟩ : ∃ y, Hid (l.getD i 0 = y) := ⟨_, rfl⟩
      rw [Hy.out] at hcell hyb HC
      have hc0 : wr.cell? ⟨g, 0, none⟩ = some (.slice (some ⟨b, 0, none⟩) k vc) := by rw [cell_of_row wr g 0 _ _ _ hbox]; rfl
      have hc1 : wr.cell? ⟨g, 1, none⟩ = some (.map (some m)) := by rw [cell_of_row wr g 1 _ _ _ hbox]; rfl
      have hc2 : wr.cell? ⟨g, 2, none⟩ = some (.func (.func f) #[] #[]) := by rw [cell_of_row wr g 2 _ _ _ hbox]; rfl
      have hgl := blk_lt hbox
      have HS : Hid (∀ W, Below wr.heap.size wr W → W.cell? ⟨g, 0, none⟩ = some (.slice (some ⟨b, 0, none⟩) k vc) ∧ W.cell? ⟨g, 2, none⟩ = some (.func (.func f) #[] #[])) := fun W hW => ⟨(hW.cell (p := ⟨g, 0, none⟩) hgl).trans hc0, (hW.cell (p := ⟨g, 2, none⟩) hgl).trans hc2⟩
      have C := fun W => HAP.out.call ((k : Int) - (i : Int)) (x - y) W
      have hok := HAP.out.ok ((k : Int) - (i : Int)) (x - y) (by omega) (by omega) (by omega) (by omega)
      obtain ⟨⟨c1, c2⟩, Hc⟩ : ∃ c, Hid (ap ((k : Int) - (i : Int)) (x - y) = c) := ⟨_, rfl⟩
      rw [Hc.out] at hok HC
      have C : ∀ W, Calls Tryd.prog f #[.int .i64 ((k : Int) - (i : Int)), .int .i64 (x - y)] W fun e w' => e = .returned (.agg #[.int .i64 c1, .int .i64 c2]) ∧ Below W.heap.size W w' := fun W => by
        have := C W
        rw [Hc.out] at this
        exact this
      have HOK : Hid (GOk (c1, c2)) := hok
      have HCC : Hid (L.getD i (0, 0) = (c1, c2)) := HC
      obtain ⟨hx1, hx2⟩ := hx
      obtain ⟨hy1, hy2⟩ := hyb
      clear hok HC hc0 hc2
      go_wp2
      refine wp_region_noPanic ?_
      refine wp_region_held_drew (S := fun w' => w'.cell? ⟨g, 0, none⟩ = some (.slice (some ⟨b, 0, none⟩) k vc) ∧ w'.cell? ⟨g, 2, none⟩ = some (.func (.func f) #[] #[])) (by kernel_rfl) (HS.out _ (Below.refl _ wr).drew) (fun hSx => ?_)
      refine wpAnyH_take (i := 0) (v := .pointer (some ⟨g, 0, none⟩)) rfl (by kernel_rfl) (by kernel_rfl) (by kernel_rfl) (fun _ _ _ h => h) (Or.inl ⟨by rfl, fun w' hSw => by (try dsimp only at hSw); obtain ⟨hs0, hs1⟩ := hSw; go_simp⟩) hSx ?_
      try simp only [Act.put, List.setIfInBounds_toArray]
      refine wpAnyH_take (i := 1) (v := .pointer (some ⟨g, 0, none⟩)) rfl (by kernel_rfl) (by kernel_rfl) (by kernel_rfl) (fun _ _ _ h => h) (Or.inl ⟨by rfl, fun w' hSw => by (try dsimp only at hSw); obtain ⟨hs0, hs1⟩ := hSw; go_simp⟩) hSx ?_
      try simp only [Act.put]
      refine wpAnyH_take (i := 2) (v := .pointer (some ⟨g, 2, none⟩)) rfl (by kernel_rfl) (by kernel_rfl) (by kernel_rfl) (fun _ _ _ h => h) (Or.inl ⟨by rfl, fun w' hSw => by (try dsimp only at hSw); obtain ⟨hs0, hs1⟩ := hSw; go_simp⟩) hSx ?_
      try simp only [Act.put]
      refine wpAnyH_take (i := 3) (v := .func (.func f) #[] #[]) rfl (by kernel_rfl) (by kernel_rfl) (by kernel_rfl) (fun _ _ _ h => h) (Or.inl ⟨by rfl, fun w' hSw => by (try dsimp only at hSw); obtain ⟨hs0, hs1⟩ := hSw; go_simp⟩) hSx ?_
      try simp only [Act.put]
      refine wpAnyH_take (i := 4) (v := .pointer (some ⟨g, 0, none⟩)) rfl (by kernel_rfl) (by kernel_rfl) (by kernel_rfl) (fun _ _ _ h => h) (Or.inl ⟨by rfl, fun w' hSw => by (try dsimp only at hSw); obtain ⟨hs0, hs1⟩ := hSw; go_simp⟩) hSx ?_
      try simp only [Act.put]
      refine wpAnyH_take (i := 5) (v := .pointer (some ⟨g, 0, none⟩)) rfl (by kernel_rfl) (by kernel_rfl) (by kernel_rfl) (fun _ _ _ h => h) (Or.inl ⟨by rfl, fun w' hSw => by (try dsimp only at hSw); obtain ⟨hs0, hs1⟩ := hSw; go_simp⟩) hSx ?_
      try simp only [Act.put]
      refine wpAnyH_take (i := 6) (v := .pointer (some ⟨g, 0, none⟩)) rfl (by kernel_rfl) (by kernel_rfl) (by kernel_rfl) (fun _ _ _ h => h) (Or.inl ⟨by rfl, fun w' hSw => by (try dsimp only at hSw); obtain ⟨hs0, hs1⟩ := hSw; go_simp⟩) hSx ?_
      try simp only [Act.put]
      refine wpAnyH_take (i := 7) (v := .slice (some ⟨b, 0, none⟩) k vc) rfl (by kernel_rfl) (by kernel_rfl) (by kernel_rfl) (fun _ _ _ h => h) (Or.inl ⟨by rfl, fun w' hSw => by (try dsimp only at hSw); obtain ⟨hs0, hs1⟩ := hSw; go_simp⟩) hSx ?_
      try simp only [Act.put]
      refine wpAnyH_take (i := 8) (v := .int .i64 (k : Int)) rfl (by kernel_rfl) (by kernel_rfl) (by kernel_rfl) (fun _ _ _ h => h) (Or.inl ⟨by rfl, fun w' hSw => by (try dsimp only at hSw); obtain ⟨hs0, hs1⟩ := hSw; go_simp⟩) hSx ?_
      try simp only [Act.put]
      refine wpAnyH_take (i := 9) (v := .int .i64 (i : Int)) rfl (by kernel_rfl) (by kernel_rfl) (by kernel_rfl) (fun _ _ _ h => h) (Or.inl ⟨by rfl, fun w' hSw => by (try dsimp only at hSw); obtain ⟨hs0, hs1⟩ := hSw; go_simp⟩) hSx ?_
      try simp only [Act.put]
      refine wpAnyH_take (i := 10) (v := .int .i64 ((k : Int) - (i : Int))) rfl (by kernel_rfl) (by kernel_rfl) (by kernel_rfl) (fun _ _ _ h => h) (Or.inl ⟨by rfl, fun w' hSw => by (try dsimp only at hSw); obtain ⟨hs0, hs1⟩ := hSw; go_simp; rw [IntKind.wrap_i64]; omega⟩) hSx ?_
      try simp only [Act.put]
      refine wpAnyH_take (i := 11) (v := .int .i64 x) rfl (by kernel_rfl) (by kernel_rfl) (by kernel_rfl) (fun _ _ _ h => h) (Or.inl ⟨by rfl, fun w' hSw => by (try dsimp only at hSw); obtain ⟨hs0, hs1⟩ := hSw; go_simp⟩) hSx ?_
      try simp only [Act.put]
      refine wpAnyH_take (i := 12) (v := .int .i64 y) rfl (by kernel_rfl) (by kernel_rfl) (by kernel_rfl) (fun _ _ _ h => h) (Or.inl ⟨by rfl, fun w' hSw => by (try dsimp only at hSw); obtain ⟨hs0, hs1⟩ := hSw; go_simp⟩) hSx ?_
      try simp only [Act.put]
      refine wpAnyH_take (i := 13) (v := .int .i64 (x - y)) rfl (by kernel_rfl) (by kernel_rfl) (by kernel_rfl) (fun _ _ _ h => h) (Or.inl ⟨by rfl, fun w' hSw => by (try dsimp only at hSw); obtain ⟨hs0, hs1⟩ := hSw; go_simp; rw [IntKind.wrap_i64]; omega⟩) hSx ?_
      try simp only [Act.put]
      have d0 : Below wr.heap.size wr wr.drew := (Below.refl _ wr).drew
      refine wpAnyH_ready (rs := [14, 15]) (by kernel_rfl) (by simp) ?_
      refine (AllReadyH.cons rfl (fun J hJ => ?_) (AllReadyH.cons rfl (fun J hJ => ?_) AllReadyH.nil))
      · go_simp
        go_at_fn f
        refine (C _).mono ?_
        rintro e w1 ⟨rfl, b1⟩
        have d1 : Below wr.heap.size wr w1 := Below.next d0 b1
        go_wp2_with fail
        refine hJ.out _ _ (HS.out _ d1) (fun hSx => ?_)
        clear hJ J
        try simp only [Act.put, List.setIfInBounds_toArray, List.set_cons_zero, List.set_cons_succ]
        refine wpAnyH_ready (rs := [15]) (by kernel_rfl) (by simp) ?_
        refine (AllReadyH.cons rfl (fun J hJ => ?_) AllReadyH.nil)
        go_simp
        have d2 : Below wr.heap.size wr (w1.alloc (.cells #[.int .i64 0, .int .i64 0] 55)) := d1.alloc d1.size _
        refine hJ.out _ _ (HS.out _ d2) (fun hSx => ?_)
        clear hJ J
        try simp only [Act.put, List.setIfInBounds_toArray, List.set_cons_zero, List.set_cons_succ]
        refine wpAnyH_ready (rs := [16]) (by kernel_rfl) (by simp) ?_
        refine (AllReadyH.cons rfl (fun J hJ => ?_) AllReadyH.nil)
        have hz := heap_alloc_new w1 (.cells #[.int .i64 0, .int .i64 0] 55)
        have d3 : Below wr.heap.size wr ((w1.alloc (.cells #[.int .i64 0, .int .i64 0] 55)).setRow w1.heap.size #[.int .i64 c1, .int .i64 c2]) := bsetRw d2 d1.size _
        have hG5 : ((w1.alloc (.cells #[.int .i64 0, .int .i64 0] 55)).setRow w1.heap.size #[.int .i64 c1, .int .i64 c2]).heap[w1.heap.size]? = some (.cells #[.int .i64 c1, .int .i64 c2] 55 (0, 0)) := setRow_heap _ _ _ _ _ _ hz
        refine step_store_row (by rfl) 55 _ _ (by rfl) w1.heap.size #[.int .i64 c1, .int .i64 c2] (by rfl) (by rfl) 55 _ hz (infG (c1, c2)) (by simp) (one2 _ _) ?_
        refine hJ.out _ _ (HS.out _ d3) (fun hSx => ?_)
        clear hJ J
        try simp only [Act.put, List.setIfInBounds_toArray]
        refine wpAnyH_done (by kernel_rfl) ?_ _
        refine NoPanic.normal ?_
        have ha5 : wr.heap.size ≤ w1.heap.size := d1.size
        obtain ⟨a5, Ha5⟩ : ∃ a, Hid (w1.heap.size = a) := ⟨_, rfl⟩
        obtain ⟨W5, HW5⟩ : ∃ W, Hid ((w1.alloc (.cells #[.int .i64 0, .int .i64 0] 55)).setRow w1.heap.size #[.int .i64 c1, .int .i64 c2] = W) := ⟨_, rfl⟩
        rw [HW5.out] at hG5 d3 ⊢
        rw [Ha5.out] at hG5 ha5 ⊢
        clear hSx hz d2 d1 b1 d0 C HS Ha5 HW5
        have hb5 := (d3.block g hgl).trans hbox
        have ho5 := hown.kept (grownB d3) (Classical.em _)
        have hm5 := hmap.kept (grownB d3) (by simp)
        have HK5 : Hid (Kr base g w W5) := HK.out.trans (Kr.of_below (Nat.le_trans hbg (Nat.le_of_lt hgl)) d3)
        have q0 : W5.cell? ⟨a5, 0, none⟩ = some (.int .i64 c1) := gBox (c := (c1, c2)) hG5 0 _ rfl
        have q1 : W5.cell? ⟨a5, 1, none⟩ = some (.int .i64 c2) := gBox (c := (c1, c2)) hG5 1 _ rfl
        have HG5 : Hid (W5.heap[a5]? = some (.cells #[.int .i64 c1, .int .i64 c2] 55 (0, 0))) := hG5
        have hc15 : W5.cell? ⟨g, 1, none⟩ = some (.map (some m)) := by rw [cell_of_row W5 g 1 _ _ _ hb5]; rfl
        have HB5 : Hid (W5.heap[g]? = some (.cells #[.slice (some ⟨b, 0, none⟩) k vc, .map (some m), .func (.func f) #[] #[]] 64 (0, 0))) := hb5
        have HO5 : Hid (W5.ownsRow base 3 1 (.slice (some ⟨b, 0, none⟩) k vc) l.length (l.map (Value.int .i64))) := ho5
        have HM5 : Hid (W5.ownsMap Tryd.prog 55 (plainElem Tryd.prog 3) m (n + i) D) := hm5
        clear hbox hown hmap HK d3 hc1 hgl ha5 hcell hG5 hb5 ho5 hm5
        obtain ⟨t, HTX⟩ : ∃ t, Hid (t = upT T (L.take i) (c1, c2)) := ⟨_, rfl⟩
        have htb := HBD.out i (c1, c2)
        rw [← HTX.out] at htb
        have hlk : ∀ nn, (Instr.lookup 62 (.map (some m)) (.agg #[.int .i64 c1, .int .i64 c2]) false).run Tryd.prog (W5.drewN nn) = .ok (.int .i64 t) (W5.drewN nn) := fun nn => by
          have hmn : (W5.drewN nn).ownsMap Tryd.prog 55 (plainElem Tryd.prog 3) m (n + i) D := HM5.out
          obtain ⟨t', h1, h2, h3⟩ := hmn.lookup_int keyedG undM und3 (zero3' _) (gK_of HOK.out)
          rw [HTX.out, ← HG.out.look HOK.out h2]
          exact h1
        obtain ⟨fb, Hfb⟩ : ∃ fb, Hid (ftB T L i = fb) := ⟨_, rfl⟩
        have HFT : Hid (ftB T L (i + 1) = (fb && (t == 0))) := by show (ftB T L i && _) = _; rw [HCC.out, HTX.out, Hfb.out]
        rw [Hfb.out]
        obtain ⟨ht0, ht1⟩ := htb
        go_wp2
        cases fb
        · go_quiet (fail)
          obtain ⟨W6, HW6⟩ : ∃ W, Hid (W5.drewN nq = W) := ⟨_, rfl⟩
          have hb5 : W6.heap[g]? = some (.cells #[.slice (some ⟨b, 0, none⟩) k vc, .map (some m), .func (.func f) #[] #[]] 64 (0, 0)) := by rw [← HW6.out]; exact HB5.out
          have hG5 : W6.heap[a5]? = some (.cells #[.int .i64 c1, .int .i64 c2] 55 (0, 0)) := by rw [← HW6.out]; exact HG5.out
          have ho5 : W6.ownsRow base 3 1 (.slice (some ⟨b, 0, none⟩) k vc) l.length (l.map (Value.int .i64)) := by rw [← HW6.out]; exact HO5.out
          have hm5 : W6.ownsMap Tryd.prog 55 (plainElem Tryd.prog 3) m (n + i) D := by rw [← HW6.out]; exact HM5.out
          have HK6 : Hid (Kr base g w W6) := by show Kr base g w W6; rw [← HW6.out]; exact HK5.out.trans ⟨rfl, rfl, rfl, Nat.le_refl _, fun _ _ => rfl, fun _ _ _ _ _ _ _ => rfl⟩
          have hR5 : W6.rangeAt a5 0 [.int .i64 c1, .int .i64 c2] := gBox (c := (c1, c2)) hG5
          have hc16 : W6.cell? ⟨g, 1, none⟩ = some (.map (some m)) := by rw [cell_of_row W6 g 1 _ _ _ hb5]; rfl
          rw [HW6.out]
          have hgm := map_neg hm5 hb5
          have ham := map_neg hm5 hG5
          clear hlk q0 q1 hc15 HW6 HB5 HG5 HO5 HM5 HK5
          obtain ⟨c, v0, st, w4, hat7, hlook, hent, hlook2, hg4, hs4, hst⟩ := entry_any hm5.drew (by unfold maxLen; omega) (gK_of HOK.out)
          obtain rfl : t = c := HTX.out.trans (HG.out.look HOK.out hat7).symm
          obtain ⟨w5, hsto, hm6, hg5, hs5⟩ := hst (t + 1) (wfI (by omega) (by omega))
          rw [show goInt (st : Int) = Value.int .i64 (st : Int) from rfl] at hsto hent
          rw [show gV (c1, c2) = .agg #[.int .i64 c1, .int .i64 c2] from rfl] at hlook hent hlook2
          have hb6 := (hg5.block g (by exact blk_lt hb5) (by simpa using hgm)).trans hb5
          have ho6 := ho5.drew.kept hg5 (.inr (own_nemap ho5 hm5))
          have HK7 : Hid (Kr base g w w5) := HK6.out.drew.grown hm5.drew hbm hg5
          have hR4 : w4.rangeAt a5 0 [.int .i64 c1, .int .i64 c2] ∧ w4.cell? ⟨g, 1, none⟩ = some (.map (some m)) := ⟨fun j z hz => (World.cell?_of_block (w := W6.drew) (a := ⟨a5, 0 + j, none⟩) (hg4.block a5 (by exact blk_lt hG5) (by simpa using ham))).trans (hR5 j z hz), (World.cell?_of_block (w := W6.drew) (a := ⟨g, 1, none⟩) (hg4.block g (by exact blk_lt hb5) (by simpa using hgm))).trans hc16⟩
          have hR6 : w5.rangeAt a5 0 [.int .i64 c1, .int .i64 c2] ∧ w5.cell? ⟨g, 1, none⟩ = some (.map (some m)) := ⟨fun j z hz => (World.cell?_of_block (w := W6.drew) (a := ⟨a5, 0 + j, none⟩) (hg5.block a5 (by exact blk_lt hG5) (by simpa using ham))).trans (hR5 j z hz), (World.cell?_of_block (w := W6.drew) (a := ⟨g, 1, none⟩) (hg5.block g (by exact blk_lt hb5) (by simpa using hgm))).trans hc16⟩
          have hGP := HG.out.put (T' := upT T (L.take (i + 1))) hm5.isMap HOK.out (x := t + 1) (by rw [← HCC.out, (upT_put (by rw [HLEN.out]; exact hlt)).1, HCC.out, ← HTX.out]) (fun d hd => (upT_put (by rw [HLEN.out]; exact hlt)).2 d (by rw [HCC.out]; exact hd))
          obtain ⟨D6, HD6⟩ : ∃ D6, Hid (D.put (gK (c1, c2)) (.lit (.int .i64 (t + 1))) = D6) := ⟨_, rfl⟩
          rw [HD6.out] at hGP hm6
          have HGP : Hid (GapsIs D6 (upT T (L.take (i + 1)))) := hGP
          clear hat7 hst hGP hg4 hg5 hs4 hs5 HG hm5 HK6 ho5 hb5 hG5 HD6
          go_wp2
          refine wp_region_noPanic ?_
          refine wp_region_held_drew (S := fun w' => w'.rangeAt a5 0 [.int .i64 c1, .int .i64 c2] ∧ w'.cell? ⟨g, 1, none⟩ = some (.map (some m))) (by kernel_rfl) (⟨hR5, hc16⟩) (fun hSx => ?_)
          refine wpAnyH_take (i := 0) (v := .pointer (some ⟨g, 0, none⟩)) rfl (by kernel_rfl) (by kernel_rfl) (by kernel_rfl) (fun _ _ _ h => h) (Or.inl ⟨by rfl, fun w' hSw => by (try dsimp only at hSw); obtain ⟨hs0, hs1⟩ := hSw; go_simp⟩) hSx ?_
          try simp only [Act.put, List.setIfInBounds_toArray]
          refine wpAnyH_take (i := 1) (v := .pointer (some ⟨g, 0, none⟩)) rfl (by kernel_rfl) (by kernel_rfl) (by kernel_rfl) (fun _ _ _ h => h) (Or.inl ⟨by rfl, fun w' hSw => by (try dsimp only at hSw); obtain ⟨hs0, hs1⟩ := hSw; go_simp⟩) hSx ?_
          try simp only [Act.put]
          refine wpAnyH_take (i := 2) (v := .pointer (some ⟨g, 1, none⟩)) rfl (by kernel_rfl) (by kernel_rfl) (by kernel_rfl) (fun _ _ _ h => h) (Or.inl ⟨by rfl, fun w' hSw => by (try dsimp only at hSw); obtain ⟨hs0, hs1⟩ := hSw; go_simp⟩) hSx ?_
          try simp only [Act.put]
          refine wpAnyH_take (i := 3) (v := .map (some m)) rfl (by kernel_rfl) (by kernel_rfl) (by kernel_rfl) (fun _ _ _ h => h) (Or.inl ⟨by rfl, fun w' hSw => by (try dsimp only at hSw); obtain ⟨hs0, hs1⟩ := hSw; go_simp⟩) hSx ?_
          try simp only [Act.put]
          refine wpAnyH_take (i := 4) (v := .agg #[.int .i64 c1, .int .i64 c2]) rfl (by kernel_rfl) (by kernel_rfl) (by kernel_rfl) (fun _ _ _ h => h) (yieldsIf_load_mid (by rfl) 55 _ rfl a5 0 rfl [.int .i64 c1, .int .i64 c2] _ (fun w' h => h.1) Tryd.underlying55 rfl (infG (c1, c2))) hSx ?_
          try simp only [Act.put]
          refine wpAnyH_ready (rs := [5, 7]) (by kernel_rfl) (by simp) ?_
          refine (AllReadyH.cons rfl (fun J hJ => ?_) (AllReadyH.cons rfl (fun J hJ => ?_) AllReadyH.nil))
          · go_simp
            refine hJ.out _ _ (hSx) (fun hSx => ?_)
            clear hJ J
            try simp only [Act.put, List.setIfInBounds_toArray, List.set_cons_zero, List.set_cons_succ]
            refine wpAnyH_take (i := 6) (v := .int .i64 (t + 1)) rfl (by kernel_rfl) (by kernel_rfl) (by kernel_rfl) (fun _ _ _ h => h) (Or.inl ⟨by rfl, fun w' hSw => by (try dsimp only at hSw); go_simp; rw [IntKind.wrap_i64]; omega⟩) hSx ?_
            try simp only [Act.put, List.setIfInBounds_toArray]
            refine wpAnyH_ready (rs := [7]) (by kernel_rfl) (by simp) ?_
            refine (AllReadyH.cons rfl (fun J hJ => ?_) AllReadyH.nil)
            go_simp
            refine hJ.out _ _ (hR4) (fun hSx => ?_)
            clear hJ J
            try simp only [Act.put, List.setIfInBounds_toArray, List.set_cons_zero, List.set_cons_succ]
            refine wpAnyH_take (i := 8) (v := .int .i64 (st : Int)) rfl (by kernel_rfl) (by kernel_rfl) (by kernel_rfl) (fun _ _ _ h => h) (Or.inl ⟨by rfl, fun w' hSw => by (try dsimp only at hSw); go_simp⟩) hSx ?_
            try simp only [Act.put, List.setIfInBounds_toArray]
            refine wpAnyH_ready (rs := [9]) (by kernel_rfl) (by simp) ?_
            refine (AllReadyH.cons rfl (fun J hJ => ?_) AllReadyH.nil)
            go_simp
            refine hJ.out _ _ (hR6) (fun hSx => ?_)
            clear hJ J
            try simp only [Act.put, List.setIfInBounds_toArray, List.set_cons_zero, List.set_cons_succ]
            refine wpAnyH_done (by kernel_rfl) ?_ _
            refine NoPanic.normal ?_
            clear hlook hent hlook2 hsto hSx
            go_wp2
            go_roundw
            case rel => exact ⟨i + 1, D6, by go_num, by omega, by rw [HFT.out]; simp, hb6, ho6, hm6, HGP, HK7⟩
            case measure => simp [intOf]; omega
          · go_simp
            refine hJ.out _ _ (hR4) (fun hSx => ?_)
            clear hJ J
            try simp only [Act.put, List.setIfInBounds_toArray, List.set_cons_zero, List.set_cons_succ]
            refine wpAnyH_take (i := 8) (v := .int .i64 (st : Int)) rfl (by kernel_rfl) (by kernel_rfl) (by kernel_rfl) (fun _ _ _ h => h) (Or.inl ⟨by rfl, fun w' hSw => by (try dsimp only at hSw); go_simp⟩) hSx ?_
            try simp only [Act.put, List.setIfInBounds_toArray]
            refine wpAnyH_ready (rs := [5]) (by kernel_rfl) (by simp) ?_
            refine (AllReadyH.cons rfl (fun J hJ => ?_) AllReadyH.nil)
            go_simp
            refine hJ.out _ _ (hR4) (fun hSx => ?_)
            clear hJ J
            try simp only [Act.put, List.setIfInBounds_toArray, List.set_cons_zero, List.set_cons_succ]
            refine wpAnyH_take (i := 6) (v := .int .i64 (t + 1)) rfl (by kernel_rfl) (by kernel_rfl) (by kernel_rfl) (fun _ _ _ h => h) (Or.inl ⟨by rfl, fun w' hSw => by (try dsimp only at hSw); go_simp; rw [IntKind.wrap_i64]; omega⟩) hSx ?_
            try simp only [Act.put, List.setIfInBounds_toArray]
            refine wpAnyH_ready (rs := [9]) (by kernel_rfl) (by simp) ?_
            refine (AllReadyH.cons rfl (fun J hJ => ?_) AllReadyH.nil)
            go_simp
            refine hJ.out _ _ (hR6) (fun hSx => ?_)
            clear hJ J
            try simp only [Act.put, List.setIfInBounds_toArray, List.set_cons_zero, List.set_cons_succ]
            refine wpAnyH_done (by kernel_rfl) ?_ _
            refine NoPanic.normal ?_
            clear hlook hent hlook2 hsto hSx
            go_wp2
            go_roundw
            case rel => exact ⟨i + 1, D6, by go_num, by omega, by rw [HFT.out]; simp, hb6, ho6, hm6, HGP, HK7⟩
            case measure => simp [intOf]; omega
        · go_quiet (fail)
          obtain ⟨W6, HW6⟩ : ∃ W, Hid (W5.drewN nq = W) := ⟨_, rfl⟩
          have hb5 : W6.heap[g]? = some (.cells #[.slice (some ⟨b, 0, none⟩) k vc, .map (some m), .func (.func f) #[] #[]] 64 (0, 0)) := by rw [← HW6.out]; exact HB5.out
          have hG5 : W6.heap[a5]? = some (.cells #[.int .i64 c1, .int .i64 c2] 55 (0, 0)) := by rw [← HW6.out]; exact HG5.out
          have ho5 : W6.ownsRow base 3 1 (.slice (some ⟨b, 0, none⟩) k vc) l.length (l.map (Value.int .i64)) := by rw [← HW6.out]; exact HO5.out
          have hm5 : W6.ownsMap Tryd.prog 55 (plainElem Tryd.prog 3) m (n + i) D := by rw [← HW6.out]; exact HM5.out
          have HK6 : Hid (Kr base g w W6) := by show Kr base g w W6; rw [← HW6.out]; exact HK5.out.trans ⟨rfl, rfl, rfl, Nat.le_refl _, fun _ _ => rfl, fun _ _ _ _ _ _ _ => rfl⟩
          have hR5 : W6.rangeAt a5 0 [.int .i64 c1, .int .i64 c2] := gBox (c := (c1, c2)) hG5
          have hc16 : W6.cell? ⟨g, 1, none⟩ = some (.map (some m)) := by rw [cell_of_row W6 g 1 _ _ _ hb5]; rfl
          rw [HW6.out]
          have hgm := map_neg hm5 hb5
          have ham := map_neg hm5 hG5
          clear hlk q0 q1 hc15 HW6 HB5 HG5 HO5 HM5 HK5
          obtain ⟨c, v0, st, w4, hat7, hlook, hent, hlook2, hg4, hs4, hst⟩ := entry_any hm5.drew (by unfold maxLen; omega) (gK_of HOK.out)
          obtain rfl : t = c := HTX.out.trans (HG.out.look HOK.out hat7).symm
          obtain ⟨w5, hsto, hm6, hg5, hs5⟩ := hst (t + 1) (wfI (by omega) (by omega))
          rw [show goInt (st : Int) = Value.int .i64 (st : Int) from rfl] at hsto hent
          rw [show gV (c1, c2) = .agg #[.int .i64 c1, .int .i64 c2] from rfl] at hlook hent hlook2
          have hb6 := (hg5.block g (by exact blk_lt hb5) (by simpa using hgm)).trans hb5
          have ho6 := ho5.drew.kept hg5 (.inr (own_nemap ho5 hm5))
          have HK7 : Hid (Kr base g w w5) := HK6.out.drew.grown hm5.drew hbm hg5
          have hR4 : w4.rangeAt a5 0 [.int .i64 c1, .int .i64 c2] ∧ w4.cell? ⟨g, 1, none⟩ = some (.map (some m)) := ⟨fun j z hz => (World.cell?_of_block (w := W6.drew) (a := ⟨a5, 0 + j, none⟩) (hg4.block a5 (by exact blk_lt hG5) (by simpa using ham))).trans (hR5 j z hz), (World.cell?_of_block (w := W6.drew) (a := ⟨g, 1, none⟩) (hg4.block g (by exact blk_lt hb5) (by simpa using hgm))).trans hc16⟩
          have hR6 : w5.rangeAt a5 0 [.int .i64 c1, .int .i64 c2] ∧ w5.cell? ⟨g, 1, none⟩ = some (.map (some m)) := ⟨fun j z hz => (World.cell?_of_block (w := W6.drew) (a := ⟨a5, 0 + j, none⟩) (hg5.block a5 (by exact blk_lt hG5) (by simpa using ham))).trans (hR5 j z hz), (World.cell?_of_block (w := W6.drew) (a := ⟨g, 1, none⟩) (hg5.block g (by exact blk_lt hb5) (by simpa using hgm))).trans hc16⟩
          have hGP := HG.out.put (T' := upT T (L.take (i + 1))) hm5.isMap HOK.out (x := t + 1) (by rw [← HCC.out, (upT_put (by rw [HLEN.out]; exact hlt)).1, HCC.out, ← HTX.out]) (fun d hd => (upT_put (by rw [HLEN.out]; exact hlt)).2 d (by rw [HCC.out]; exact hd))
          obtain ⟨D6, HD6⟩ : ∃ D6, Hid (D.put (gK (c1, c2)) (.lit (.int .i64 (t + 1))) = D6) := ⟨_, rfl⟩
          rw [HD6.out] at hGP hm6
          have HGP : Hid (GapsIs D6 (upT T (L.take (i + 1)))) := hGP
          clear hat7 hst hGP hg4 hg5 hs4 hs5 HG hm5 HK6 ho5 hb5 hG5 HD6
          go_wp2
          refine wp_region_noPanic ?_
          refine wp_region_held_drew (S := fun w' => w'.rangeAt a5 0 [.int .i64 c1, .int .i64 c2] ∧ w'.cell? ⟨g, 1, none⟩ = some (.map (some m))) (by kernel_rfl) (⟨hR5, hc16⟩) (fun hSx => ?_)
          refine wpAnyH_take (i := 0) (v := .pointer (some ⟨g, 0, none⟩)) rfl (by kernel_rfl) (by kernel_rfl) (by kernel_rfl) (fun _ _ _ h => h) (Or.inl ⟨by rfl, fun w' hSw => by (try dsimp only at hSw); obtain ⟨hs0, hs1⟩ := hSw; go_simp⟩) hSx ?_
          try simp only [Act.put, List.setIfInBounds_toArray]
          refine wpAnyH_take (i := 1) (v := .pointer (some ⟨g, 0, none⟩)) rfl (by kernel_rfl) (by kernel_rfl) (by kernel_rfl) (fun _ _ _ h => h) (Or.inl ⟨by rfl, fun w' hSw => by (try dsimp only at hSw); obtain ⟨hs0, hs1⟩ := hSw; go_simp⟩) hSx ?_
          try simp only [Act.put]
          refine wpAnyH_take (i := 2) (v := .pointer (some ⟨g, 1, none⟩)) rfl (by kernel_rfl) (by kernel_rfl) (by kernel_rfl) (fun _ _ _ h => h) (Or.inl ⟨by rfl, fun w' hSw => by (try dsimp only at hSw); obtain ⟨hs0, hs1⟩ := hSw; go_simp⟩) hSx ?_
          try simp only [Act.put]
          refine wpAnyH_take (i := 3) (v := .map (some m)) rfl (by kernel_rfl) (by kernel_rfl) (by kernel_rfl) (fun _ _ _ h => h) (Or.inl ⟨by rfl, fun w' hSw => by (try dsimp only at hSw); obtain ⟨hs0, hs1⟩ := hSw; go_simp⟩) hSx ?_
          try simp only [Act.put]
          refine wpAnyH_take (i := 4) (v := .agg #[.int .i64 c1, .int .i64 c2]) rfl (by kernel_rfl) (by kernel_rfl) (by kernel_rfl) (fun _ _ _ h => h) (yieldsIf_load_mid (by rfl) 55 _ rfl a5 0 rfl [.int .i64 c1, .int .i64 c2] _ (fun w' h => h.1) Tryd.underlying55 rfl (infG (c1, c2))) hSx ?_
          try simp only [Act.put]
          refine wpAnyH_ready (rs := [5, 7]) (by kernel_rfl) (by simp) ?_
          refine (AllReadyH.cons rfl (fun J hJ => ?_) (AllReadyH.cons rfl (fun J hJ => ?_) AllReadyH.nil))
          · go_simp
            refine hJ.out _ _ (hSx) (fun hSx => ?_)
            clear hJ J
            try simp only [Act.put, List.setIfInBounds_toArray, List.set_cons_zero, List.set_cons_succ]
            refine wpAnyH_take (i := 6) (v := .int .i64 (t + 1)) rfl (by kernel_rfl) (by kernel_rfl) (by kernel_rfl) (fun _ _ _ h => h) (Or.inl ⟨by rfl, fun w' hSw => by (try dsimp only at hSw); go_simp; rw [IntKind.wrap_i64]; omega⟩) hSx ?_
            try simp only [Act.put, List.setIfInBounds_toArray]
            refine wpAnyH_ready (rs := [7]) (by kernel_rfl) (by simp) ?_
            refine (AllReadyH.cons rfl (fun J hJ => ?_) AllReadyH.nil)
            go_simp
            refine hJ.out _ _ (hR4) (fun hSx => ?_)
            clear hJ J
            try simp only [Act.put, List.setIfInBounds_toArray, List.set_cons_zero, List.set_cons_succ]
            refine wpAnyH_take (i := 8) (v := .int .i64 (st : Int)) rfl (by kernel_rfl) (by kernel_rfl) (by kernel_rfl) (fun _ _ _ h => h) (Or.inl ⟨by rfl, fun w' hSw => by (try dsimp only at hSw); go_simp⟩) hSx ?_
            try simp only [Act.put, List.setIfInBounds_toArray]
            refine wpAnyH_ready (rs := [9]) (by kernel_rfl) (by simp) ?_
            refine (AllReadyH.cons rfl (fun J hJ => ?_) AllReadyH.nil)
            go_simp
            refine hJ.out _ _ (hR6) (fun hSx => ?_)
            clear hJ J
            try simp only [Act.put, List.setIfInBounds_toArray, List.set_cons_zero, List.set_cons_succ]
            refine wpAnyH_done (by kernel_rfl) ?_ _
            refine NoPanic.normal ?_
            clear hlook hent hlook2 hsto hSx
            go_wp2
            go_roundw
            case rel => exact ⟨i + 1, D6, by go_num, by omega, by rw [HFT.out]; simp, hb6, ho6, hm6, HGP, HK7⟩
            case measure => simp [intOf]; omega
          · go_simp
            refine hJ.out _ _ (hR4) (fun hSx => ?_)
            clear hJ J
            try simp only [Act.put, List.setIfInBounds_toArray, List.set_cons_zero, List.set_cons_succ]
            refine wpAnyH_take (i := 8) (v := .int .i64 (st : Int)) rfl (by kernel_rfl) (by kernel_rfl) (by kernel_rfl) (fun _ _ _ h => h) (Or.inl ⟨by rfl, fun w' hSw => by (try dsimp only at hSw); go_simp⟩) hSx ?_
            try simp only [Act.put, List.setIfInBounds_toArray]
            refine wpAnyH_ready (rs := [5]) (by kernel_rfl) (by simp) ?_
            refine (AllReadyH.cons rfl (fun J hJ => ?_) AllReadyH.nil)
            go_simp
            refine hJ.out _ _ (hR4) (fun hSx => ?_)
            clear hJ J
            try simp only [Act.put, List.setIfInBounds_toArray, List.set_cons_zero, List.set_cons_succ]
            refine wpAnyH_take (i := 6) (v := .int .i64 (t + 1)) rfl (by kernel_rfl) (by kernel_rfl) (by kernel_rfl) (fun _ _ _ h => h) (Or.inl ⟨by rfl, fun w' hSw => by (try dsimp only at hSw); go_simp; rw [IntKind.wrap_i64]; omega⟩) hSx ?_
            try simp only [Act.put, List.setIfInBounds_toArray]
            refine wpAnyH_ready (rs := [9]) (by kernel_rfl) (by simp) ?_
            refine (AllReadyH.cons rfl (fun J hJ => ?_) AllReadyH.nil)
            go_simp
            refine hJ.out _ _ (hR6) (fun hSx => ?_)
            clear hJ J
            try simp only [Act.put, List.setIfInBounds_toArray, List.set_cons_zero, List.set_cons_succ]
            refine wpAnyH_done (by kernel_rfl) ?_ _
            refine NoPanic.normal ?_
            clear hlook hent hlook2 hsto hSx
            go_wp2
            go_roundw
            case rel => exact ⟨i + 1, D6, by go_num, by omega, by rw [HFT.out]; simp, hb6, ho6, hm6, HGP, HK7⟩
            case measure => simp [intOf]; omega
      · go_simp
        have d1 : Below wr.heap.size wr (wr.drew.alloc (.cells #[.int .i64 0, .int .i64 0] 55)) := d0.alloc (by exact Nat.le_refl _) _
        refine hJ.out _ _ (HS.out _ d1) (fun hSx => ?_)
        clear hJ J
        try simp only [Act.put, List.setIfInBounds_toArray, List.set_cons_zero, List.set_cons_succ]
        refine wpAnyH_ready (rs := [14]) (by kernel_rfl) (by simp) ?_
        refine (AllReadyH.cons rfl (fun J hJ => ?_) AllReadyH.nil)
        go_simp
        go_at_fn f
        refine (C _).mono ?_
        rintro e w1 ⟨rfl, b1⟩
        have hz : w1.heap[wr.heap.size]? = some (.cells #[.int .i64 0, .int .i64 0] 55) := (b1.block wr.heap.size (by simp)).trans (heap_alloc_new wr.drew _)
        have d2 : Below wr.heap.size wr w1 := Below.next d1 b1
        go_wp2_with fail
        refine hJ.out _ _ (HS.out _ d2) (fun hSx => ?_)
        clear hJ J
        try simp only [Act.put, List.setIfInBounds_toArray, List.set_cons_zero, List.set_cons_succ]
        refine wpAnyH_ready (rs := [16]) (by kernel_rfl) (by simp) ?_
        refine (AllReadyH.cons rfl (fun J hJ => ?_) AllReadyH.nil)
        have d3 : Below wr.heap.size wr (w1.setRow wr.heap.size #[.int .i64 c1, .int .i64 c2]) := bsetRw d2 (Nat.le_refl _) _
        have hG5 : (w1.setRow wr.heap.size #[.int .i64 c1, .int .i64 c2]).heap[wr.heap.size]? = some (.cells #[.int .i64 c1, .int .i64 c2] 55 (0, 0)) := setRow_heap _ _ _ _ _ _ hz
        refine step_store_row (by rfl) 55 _ _ (by rfl) wr.heap.size #[.int .i64 c1, .int .i64 c2] (by rfl) (by rfl) 55 _ hz (infG (c1, c2)) (by simp) (one2 _ _) ?_
        refine hJ.out _ _ (HS.out _ d3) (fun hSx => ?_)
        clear hJ J
        try simp only [Act.put, List.setIfInBounds_toArray]
        refine wpAnyH_done (by kernel_rfl) ?_ _
        refine NoPanic.normal ?_
        have ha5 : wr.heap.size ≤ wr.heap.size := Nat.le_refl _
        obtain ⟨W5, HW5⟩ : ∃ W, Hid (w1.setRow wr.heap.size #[.int .i64 c1, .int .i64 c2] = W) := ⟨_, rfl⟩
        rw [HW5.out] at hG5 d3 ⊢
        obtain ⟨a5, Ha5⟩ : ∃ a, Hid (wr.heap.size = a) := ⟨_, rfl⟩
        have ha5 : wr.heap.size ≤ a5 := by rw [Ha5.out]; exact Nat.le_refl _
        rw [Ha5.out] at hG5
        rw [Ha5.out]
        clear hSx hz d2 d1 b1 d0 C HS Ha5 HW5
        have hb5 := (d3.block g hgl).trans hbox
        have ho5 := hown.kept (grownB d3) (Classical.em _)
        have hm5 := hmap.kept (grownB d3) (by simp)
        have HK5 : Hid (Kr base g w W5) := HK.out.trans (Kr.of_below (Nat.le_trans hbg (Nat.le_of_lt hgl)) d3)
        have q0 : W5.cell? ⟨a5, 0, none⟩ = some (.int .i64 c1) := gBox (c := (c1, c2)) hG5 0 _ rfl
        have q1 : W5.cell? ⟨a5, 1, none⟩ = some (.int .i64 c2) := gBox (c := (c1, c2)) hG5 1 _ rfl
        have HG5 : Hid (W5.heap[a5]? = some (.cells #[.int .i64 c1, .int .i64 c2] 55 (0, 0))) := hG5
        have hc15 : W5.cell? ⟨g, 1, none⟩ = some (.map (some m)) := by rw [cell_of_row W5 g 1 _ _ _ hb5]; rfl
        have HB5 : Hid (W5.heap[g]? = some (.cells #[.slice (some ⟨b, 0, none⟩) k vc, .map (some m), .func (.func f) #[] #[]] 64 (0, 0))) := hb5
        have HO5 : Hid (W5.ownsRow base 3 1 (.slice (some ⟨b, 0, none⟩) k vc) l.length (l.map (Value.int .i64))) := ho5
        have HM5 : Hid (W5.ownsMap Tryd.prog 55 (plainElem Tryd.prog 3) m (n + i) D) := hm5
        clear hbox hown hmap HK d3 hc1 hgl ha5 hcell hG5 hb5 ho5 hm5
        obtain ⟨t, HTX⟩ : ∃ t, Hid (t = upT T (L.take i) (c1, c2)) := ⟨_, rfl⟩
        have htb := HBD.out i (c1, c2)
        rw [← HTX.out] at htb
        have hlk : ∀ nn, (Instr.lookup 62 (.map (some m)) (.agg #[.int .i64 c1, .int .i64 c2]) false).run Tryd.prog (W5.drewN nn) = .ok (.int .i64 t) (W5.drewN nn) := fun nn => by
          have hmn : (W5.drewN nn).ownsMap Tryd.prog 55 (plainElem Tryd.prog 3) m (n + i) D := HM5.out
          obtain ⟨t', h1, h2, h3⟩ := hmn.lookup_int keyedG undM und3 (zero3' _) (gK_of HOK.out)
          rw [HTX.out, ← HG.out.look HOK.out h2]
          exact h1
        obtain ⟨fb, Hfb⟩ : ∃ fb, Hid (ftB T L i = fb) := ⟨_, rfl⟩
        have HFT : Hid (ftB T L (i + 1) = (fb && (t == 0))) := by show (ftB T L i && _) = _; rw [HCC.out, HTX.out, Hfb.out]
        rw [Hfb.out]
        obtain ⟨ht0, ht1⟩ := htb
        go_wp2
        cases fb
        · go_quiet (fail)
          obtain ⟨W6, HW6⟩ : ∃ W, Hid (W5.drewN nq = W) := ⟨_, rfl⟩
          have hb5 : W6.heap[g]? = some (.cells #[.slice (some ⟨b, 0, none⟩) k vc, .map (some m), .func (.func f) #[] #[]] 64 (0, 0)) := by rw [← HW6.out]; exact HB5.out
          have hG5 : W6.heap[a5]? = some (.cells #[.int .i64 c1, .int .i64 c2] 55 (0, 0)) := by rw [← HW6.out]; exact HG5.out
          have ho5 : W6.ownsRow base 3 1 (.slice (some ⟨b, 0, none⟩) k vc) l.length (l.map (Value.int .i64)) := by rw [← HW6.out]; exact HO5.out
          have hm5 : W6.ownsMap Tryd.prog 55 (plainElem Tryd.prog 3) m (n + i) D := by rw [← HW6.out]; exact HM5.out
          have HK6 : Hid (Kr base g w W6) := by show Kr base g w W6; rw [← HW6.out]; exact HK5.out.trans ⟨rfl, rfl, rfl, Nat.le_refl _, fun _ _ => rfl, fun _ _ _ _ _ _ _ => rfl⟩
          have hR5 : W6.rangeAt a5 0 [.int .i64 c1, .int .i64 c2] := gBox (c := (c1, c2)) hG5
          have hc16 : W6.cell? ⟨g, 1, none⟩ = some (.map (some m)) := by rw [cell_of_row W6 g 1 _ _ _ hb5]; rfl
          rw [HW6.out]
          have hgm := map_neg hm5 hb5
          have ham := map_neg hm5 hG5
          clear hlk q0 q1 hc15 HW6 HB5 HG5 HO5 HM5 HK5
          obtain ⟨c, v0, st, w4, hat7, hlook, hent, hlook2, hg4, hs4, hst⟩ := entry_any hm5.drew (by unfold maxLen; omega) (gK_of HOK.out)
          obtain rfl : t = c := HTX.out.trans (HG.out.look HOK.out hat7).symm
          obtain ⟨w5, hsto, hm6, hg5, hs5⟩ := hst (t + 1) (wfI (by omega) (by omega))
          rw [show goInt (st : Int) = Value.int .i64 (st : Int) from rfl] at hsto hent
          rw [show gV (c1, c2) = .agg #[.int .i64 c1, .int .i64 c2] from rfl] at hlook hent hlook2
          have hb6 := (hg5.block g (by exact blk_lt hb5) (by simpa using hgm)).trans hb5
          have ho6 := ho5.drew.kept hg5 (.inr (own_nemap ho5 hm5))
          have HK7 : Hid (Kr base g w w5) := HK6.out.drew.grown hm5.drew hbm hg5
          have hR4 : w4.rangeAt a5 0 [.int .i64 c1, .int .i64 c2] ∧ w4.cell? ⟨g, 1, none⟩ = some (.map (some m)) := ⟨fun j z hz => (World.cell?_of_block (w := W6.drew) (a := ⟨a5, 0 + j, none⟩) (hg4.block a5 (by exact blk_lt hG5) (by simpa using ham))).trans (hR5 j z hz), (World.cell?_of_block (w := W6.drew) (a := ⟨g, 1, none⟩) (hg4.block g (by exact blk_lt hb5) (by simpa using hgm))).trans hc16⟩
          have hR6 : w5.rangeAt a5 0 [.int .i64 c1, .int .i64 c2] ∧ w5.cell? ⟨g, 1, none⟩ = some (.map (some m)) := ⟨fun j z hz => (World.cell?_of_block (w := W6.drew) (a := ⟨a5, 0 + j, none⟩) (hg5.block a5 (by exact blk_lt hG5) (by simpa using ham))).trans (hR5 j z hz), (World.cell?_of_block (w := W6.drew) (a := ⟨g, 1, none⟩) (hg5.block g (by exact blk_lt hb5) (by simpa using hgm))).trans hc16⟩
          have hGP := HG.out.put (T' := upT T (L.take (i + 1))) hm5.isMap HOK.out (x := t + 1) (by rw [← HCC.out, (upT_put (by rw [HLEN.out]; exact hlt)).1, HCC.out, ← HTX.out]) (fun d hd => (upT_put (by rw [HLEN.out]; exact hlt)).2 d (by rw [HCC.out]; exact hd))
          obtain ⟨D6, HD6⟩ : ∃ D6, Hid (D.put (gK (c1, c2)) (.lit (.int .i64 (t + 1))) = D6) := ⟨_, rfl⟩
          rw [HD6.out] at hGP hm6
          have HGP : Hid (GapsIs D6 (upT T (L.take (i + 1)))) := hGP
          clear hat7 hst hGP hg4 hg5 hs4 hs5 HG hm5 HK6 ho5 hb5 hG5 HD6
          go_wp2
          refine wp_region_noPanic ?_
          refine wp_region_held_drew (S := fun w' => w'.rangeAt a5 0 [.int .i64 c1, .int .i64 c2] ∧ w'.cell? ⟨g, 1, none⟩ = some (.map (some m))) (by kernel_rfl) (⟨hR5, hc16⟩) (fun hSx => ?_)
          refine wpAnyH_take (i := 0) (v := .pointer (some ⟨g, 0, none⟩)) rfl (by kernel_rfl) (by kernel_rfl) (by kernel_rfl) (fun _ _ _ h => h) (Or.inl ⟨by rfl, fun w' hSw => by (try dsimp only at hSw); obtain ⟨hs0, hs1⟩ := hSw; go_simp⟩) hSx ?_
          try simp only [Act.put, List.setIfInBounds_toArray]
          refine wpAnyH_take (i := 1) (v := .pointer (some ⟨g, 0, none⟩)) rfl (by kernel_rfl) (by kernel_rfl) (by kernel_rfl) (fun _ _ _ h => h) (Or.inl ⟨by rfl, fun w' hSw => by (try dsimp only at hSw); obtain ⟨hs0, hs1⟩ := hSw; go_simp⟩) hSx ?_
          try simp only [Act.put]
          refine wpAnyH_take (i := 2) (v := .pointer (some ⟨g, 1, none⟩)) rfl (by kernel_rfl) (by kernel_rfl) (by kernel_rfl) (fun _ _ _ h => h) (Or.inl ⟨by rfl, fun w' hSw => by (try dsimp only at hSw); obtain ⟨hs0, hs1⟩ := hSw; go_simp⟩) hSx ?_
          try simp only [Act.put]
          refine wpAnyH_take (i := 3) (v := .map (some m)) rfl (by kernel_rfl) (by kernel_rfl) (by kernel_rfl) (fun _ _ _ h => h) (Or.inl ⟨by rfl, fun w' hSw => by (try dsimp only at hSw); obtain ⟨hs0, hs1⟩ := hSw; go_simp⟩) hSx ?_
          try simp only [Act.put]
          refine wpAnyH_take (i := 4) (v := .agg #[.int .i64 c1, .int .i64 c2]) rfl (by kernel_rfl) (by kernel_rfl) (by kernel_rfl) (fun _ _ _ h => h) (yieldsIf_load_mid (by rfl) 55 _ rfl a5 0 rfl [.int .i64 c1, .int .i64 c2] _ (fun w' h => h.1) Tryd.underlying55 rfl (infG (c1, c2))) hSx ?_
          try simp only [Act.put]
          refine wpAnyH_ready (rs := [5, 7]) (by kernel_rfl) (by simp) ?_
          refine (AllReadyH.cons rfl (fun J hJ => ?_) (AllReadyH.cons rfl (fun J hJ => ?_) AllReadyH.nil))
          · go_simp
            refine hJ.out _ _ (hSx) (fun hSx => ?_)
            clear hJ J
            try simp only [Act.put, List.setIfInBounds_toArray, List.set_cons_zero, List.set_cons_succ]
            refine wpAnyH_take (i := 6) (v := .int .i64 (t + 1)) rfl (by kernel_rfl) (by kernel_rfl) (by kernel_rfl) (fun _ _ _ h => h) (Or.inl ⟨by rfl, fun w' hSw => by (try dsimp only at hSw); go_simp; rw [IntKind.wrap_i64]; omega⟩) hSx ?_
            try simp only [Act.put, List.setIfInBounds_toArray]
            refine wpAnyH_ready (rs := [7]) (by kernel_rfl) (by simp) ?_
            refine (AllReadyH.cons rfl (fun J hJ => ?_) AllReadyH.nil)
            go_simp
            refine hJ.out _ _ (hR4) (fun hSx => ?_)
            clear hJ J
            try simp only [Act.put, List.setIfInBounds_toArray, List.set_cons_zero, List.set_cons_succ]
            refine wpAnyH_take (i := 8) (v := .int .i64 (st : Int)) rfl (by kernel_rfl) (by kernel_rfl) (by kernel_rfl) (fun _ _ _ h => h) (Or.inl ⟨by rfl, fun w' hSw => by (try dsimp only at hSw); go_simp⟩) hSx ?_
            try simp only [Act.put, List.setIfInBounds_toArray]
            refine wpAnyH_ready (rs := [9]) (by kernel_rfl) (by simp) ?_
            refine (AllReadyH.cons rfl (fun J hJ => ?_) AllReadyH.nil)
            go_simp
            refine hJ.out _ _ (hR6) (fun hSx => ?_)
            clear hJ J
            try simp only [Act.put, List.setIfInBounds_toArray, List.set_cons_zero, List.set_cons_succ]
            refine wpAnyH_done (by kernel_rfl) ?_ _
            refine NoPanic.normal ?_
            clear hlook hent hlook2 hsto hSx
            go_wp2
            go_roundw
            case rel => exact ⟨i + 1, D6, by go_num, by omega, by rw [HFT.out]; simp, hb6, ho6, hm6, HGP, HK7⟩
            case measure => simp [intOf]; omega
          · go_simp
            refine hJ.out _ _ (hR4) (fun hSx => ?_)
            clear hJ J
            try simp only [Act.put, List.setIfInBounds_toArray, List.set_cons_zero, List.set_cons_succ]
            refine wpAnyH_take (i := 8) (v := .int .i64 (st : Int)) rfl (by kernel_rfl) (by kernel_rfl) (by kernel_rfl) (fun _ _ _ h => h) (Or.inl ⟨by rfl, fun w' hSw => by (try dsimp only at hSw); go_simp⟩) hSx ?_
            try simp only [Act.put, List.setIfInBounds_toArray]
            refine wpAnyH_ready (rs := [5]) (by kernel_rfl) (by simp) ?_
            refine (AllReadyH.cons rfl (fun J hJ => ?_) AllReadyH.nil)
            go_simp
            refine hJ.out _ _ (hR4) (fun hSx => ?_)
            clear hJ J
            try simp only [Act.put, List.setIfInBounds_toArray, List.set_cons_zero, List.set_cons_succ]
            refine wpAnyH_take (i := 6) (v := .int .i64 (t + 1)) rfl (by kernel_rfl) (by kernel_rfl) (by kernel_rfl) (fun _ _ _ h => h) (Or.inl ⟨by rfl, fun w' hSw => by (try dsimp only at hSw); go_simp; rw [IntKind.wrap_i64]; omega⟩) hSx ?_
            try simp only [Act.put, List.setIfInBounds_toArray]
            refine wpAnyH_ready (rs := [9]) (by kernel_rfl) (by simp) ?_
            refine (AllReadyH.cons rfl (fun J hJ => ?_) AllReadyH.nil)
            go_simp
            refine hJ.out _ _ (hR6) (fun hSx => ?_)
            clear hJ J
            try simp only [Act.put, List.setIfInBounds_toArray, List.set_cons_zero, List.set_cons_succ]
            refine wpAnyH_done (by kernel_rfl) ?_ _
            refine NoPanic.normal ?_
            clear hlook hent hlook2 hsto hSx
            go_wp2
            go_roundw
            case rel => exact ⟨i + 1, D6, by go_num, by omega, by rw [HFT.out]; simp, hb6, ho6, hm6, HGP, HK7⟩
            case measure => simp [intOf]; omega
        · go_quiet (fail)
          obtain ⟨W6, HW6⟩ : ∃ W, Hid (W5.drewN nq = W) := ⟨_, rfl⟩
          have hb5 : W6.heap[g]? = some (.cells #[.slice (some ⟨b, 0, none⟩) k vc, .map (some m), .func (.func f) #[] #[]] 64 (0, 0)) := by rw [← HW6.out]; exact HB5.out
          have hG5 : W6.heap[a5]? = some (.cells #[.int .i64 c1, .int .i64 c2] 55 (0, 0)) := by rw [← HW6.out]; exact HG5.out
          have ho5 : W6.ownsRow base 3 1 (.slice (some ⟨b, 0, none⟩) k vc) l.length (l.map (Value.int .i64)) := by rw [← HW6.out]; exact HO5.out
          have hm5 : W6.ownsMap Tryd.prog 55 (plainElem Tryd.prog 3) m (n + i) D := by rw [← HW6.out]; exact HM5.out
          have HK6 : Hid (Kr base g w W6) := by show Kr base g w W6; rw [← HW6.out]; exact HK5.out.trans ⟨rfl, rfl, rfl, Nat.le_refl _, fun _ _ => rfl, fun _ _ _ _ _ _ _ => rfl⟩
          have hR5 : W6.rangeAt a5 0 [.int .i64 c1, .int .i64 c2] := gBox (c := (c1, c2)) hG5
          have hc16 : W6.cell? ⟨g, 1, none⟩ = some (.map (some m)) := by rw [cell_of_row W6 g 1 _ _ _ hb5]; rfl
          rw [HW6.out]
          have hgm := map_neg hm5 hb5
          have ham := map_neg hm5 hG5
          clear hlk q0 q1 hc15 HW6 HB5 HG5 HO5 HM5 HK5
          obtain ⟨c, v0, st, w4, hat7, hlook, hent, hlook2, hg4, hs4, hst⟩ := entry_any hm5.drew (by unfold maxLen; omega) (gK_of HOK.out)
          obtain rfl : t = c := HTX.out.trans (HG.out.look HOK.out hat7).symm
          obtain ⟨w5, hsto, hm6, hg5, hs5⟩ := hst (t + 1) (wfI (by omega) (by omega))
          rw [show goInt (st : Int) = Value.int .i64 (st : Int) from rfl] at hsto hent
          rw [show gV (c1, c2) = .agg #[.int .i64 c1, .int .i64 c2] from rfl] at hlook hent hlook2
          have hb6 := (hg5.block g (by exact blk_lt hb5) (by simpa using hgm)).trans hb5
          have ho6 := ho5.drew.kept hg5 (.inr (own_nemap ho5 hm5))
          have HK7 : Hid (Kr base g w w5) := HK6.out.drew.grown hm5.drew hbm hg5
          have hR4 : w4.rangeAt a5 0 [.int .i64 c1, .int .i64 c2] ∧ w4.cell? ⟨g, 1, none⟩ = some (.map (some m)) := ⟨fun j z hz => (World.cell?_of_block (w := W6.drew) (a := ⟨a5, 0 + j, none⟩) (hg4.block a5 (by exact blk_lt hG5) (by simpa using ham))).trans (hR5 j z hz), (World.cell?_of_block (w := W6.drew) (a := ⟨g, 1, none⟩) (hg4.block g (by exact blk_lt hb5) (by simpa using hgm))).trans hc16⟩
          have hR6 : w5.rangeAt a5 0 [.int .i64 c1, .int .i64 c2] ∧ w5.cell? ⟨g, 1, none⟩ = some (.map (some m)) := ⟨fun j z hz => (World.cell?_of_block (w := W6.drew) (a := ⟨a5, 0 + j, none⟩) (hg5.block a5 (by exact blk_lt hG5) (by simpa using ham))).trans (hR5 j z hz), (World.cell?_of_block (w := W6.drew) (a := ⟨g, 1, none⟩) (hg5.block g (by exact blk_lt hb5) (by simpa using hgm))).trans hc16⟩
          have hGP := HG.out.put (T' := upT T (L.take (i + 1))) hm5.isMap HOK.out (x := t + 1) (by rw [← HCC.out, (upT_put (by rw [HLEN.out]; exact hlt)).1, HCC.out, ← HTX.out]) (fun d hd => (upT_put (by rw [HLEN.out]; exact hlt)).2 d (by rw [HCC.out]; exact hd))
          obtain ⟨D6, HD6⟩ : ∃ D6, Hid (D.put (gK (c1, c2)) (.lit (.int .i64 (t + 1))) = D6) := ⟨_, rfl⟩
          rw [HD6.out] at hGP hm6
          have HGP : Hid (GapsIs D6 (upT T (L.take (i + 1)))) := hGP
          clear hat7 hst hGP hg4 hg5 hs4 hs5 HG hm5 HK6 ho5 hb5 hG5 HD6
          go_wp2
          refine wp_region_noPanic ?_
          refine wp_region_held_drew (S := fun w' => w'.rangeAt a5 0 [.int .i64 c1, .int .i64 c2] ∧ w'.cell? ⟨g, 1, none⟩ = some (.map (some m))) (by kernel_rfl) (⟨hR5, hc16⟩) (fun hSx => ?_)
          refine wpAnyH_take (i := 0) (v := .pointer (some ⟨g, 0, none⟩)) rfl (by kernel_rfl) (by kernel_rfl) (by kernel_rfl) (fun _ _ _ h => h) (Or.inl ⟨by rfl, fun w' hSw => by (try dsimp only at hSw); obtain ⟨hs0, hs1⟩ := hSw; go_simp⟩) hSx ?_
          try simp only [Act.put, List.setIfInBounds_toArray]
          refine wpAnyH_take (i := 1) (v := .pointer (some ⟨g, 0, none⟩)) rfl (by kernel_rfl) (by kernel_rfl) (by kernel_rfl) (fun _ _ _ h => h) (Or.inl ⟨by rfl, fun w' hSw => by (try dsimp only at hSw); obtain ⟨hs0, hs1⟩ := hSw; go_simp⟩) hSx ?_
          try simp only [Act.put]
          refine wpAnyH_take (i := 2) (v := .pointer (some ⟨g, 1, none⟩)) rfl (by kernel_rfl) (by kernel_rfl) (by kernel_rfl) (fun _ _ _ h => h) (Or.inl ⟨by rfl, fun w' hSw => by (try dsimp only at hSw); obtain ⟨hs0, hs1⟩ := hSw; go_simp⟩) hSx ?_
          try simp only [Act.put]
          refine wpAnyH_take (i := 3) (v := .map (some m)) rfl (by kernel_rfl) (by kernel_rfl) (by kernel_rfl) (fun _ _ _ h => h) (Or.inl ⟨by rfl, fun w' hSw => by (try dsimp only at hSw); obtain ⟨hs0, hs1⟩ := hSw; go_simp⟩) hSx ?_
          try simp only [Act.put]
          refine wpAnyH_take (i := 4) (v := .agg #[.int .i64 c1, .int .i64 c2]) rfl (by kernel_rfl) (by kernel_rfl) (by kernel_rfl) (fun _ _ _ h => h) (yieldsIf_load_mid (by rfl) 55 _ rfl a5 0 rfl [.int .i64 c1, .int .i64 c2] _ (fun w' h => h.1) Tryd.underlying55 rfl (infG (c1, c2))) hSx ?_
          try simp only [Act.put]
          refine wpAnyH_ready (rs := [5, 7]) (by kernel_rfl) (by simp) ?_
          refine (AllReadyH.cons rfl (fun J hJ => ?_) (AllReadyH.cons rfl (fun J hJ => ?_) AllReadyH.nil))
          · go_simp
            refine hJ.out _ _ (hSx) (fun hSx => ?_)
            clear hJ J
            try simp only [Act.put, List.setIfInBounds_toArray, List.set_cons_zero, List.set_cons_succ]
            refine wpAnyH_take (i := 6) (v := .int .i64 (t + 1)) rfl (by kernel_rfl) (by kernel_rfl) (by kernel_rfl) (fun _ _ _ h => h) (Or.inl ⟨by rfl, fun w' hSw => by (try dsimp only at hSw); go_simp; rw [IntKind.wrap_i64]; omega⟩) hSx ?_
            try simp only [Act.put, List.setIfInBounds_toArray]
            refine wpAnyH_ready (rs := [7]) (by kernel_rfl) (by simp) ?_
            refine (AllReadyH.cons rfl (fun J hJ => ?_) AllReadyH.nil)
            go_simp
            refine hJ.out _ _ (hR4) (fun hSx => ?_)
            clear hJ J
            try simp only [Act.put, List.setIfInBounds_toArray, List.set_cons_zero, List.set_cons_succ]
            refine wpAnyH_take (i := 8) (v := .int .i64 (st : Int)) rfl (by kernel_rfl) (by kernel_rfl) (by kernel_rfl) (fun _ _ _ h => h) (Or.inl ⟨by rfl, fun w' hSw => by (try dsimp only at hSw); go_simp⟩) hSx ?_
            try simp only [Act.put, List.setIfInBounds_toArray]
            refine wpAnyH_ready (rs := [9]) (by kernel_rfl) (by simp) ?_
            refine (AllReadyH.cons rfl (fun J hJ => ?_) AllReadyH.nil)
            go_simp
            refine hJ.out _ _ (hR6) (fun hSx => ?_)
            clear hJ J
            try simp only [Act.put, List.setIfInBounds_toArray, List.set_cons_zero, List.set_cons_succ]
            refine wpAnyH_done (by kernel_rfl) ?_ _
            refine NoPanic.normal ?_
            clear hlook hent hlook2 hsto hSx
            go_wp2
            go_roundw
            case rel => exact ⟨i + 1, D6, by go_num, by omega, by rw [HFT.out]; simp, hb6, ho6, hm6, HGP, HK7⟩
            case measure => simp [intOf]; omega
          · go_simp
            refine hJ.out _ _ (hR4) (fun hSx => ?_)
            clear hJ J
            try simp only [Act.put, List.setIfInBounds_toArray, List.set_cons_zero, List.set_cons_succ]
            refine wpAnyH_take (i := 8) (v := .int .i64 (st : Int)) rfl (by kernel_rfl) (by kernel_rfl) (by kernel_rfl) (fun _ _ _ h => h) (Or.inl ⟨by rfl, fun w' hSw => by (try dsimp only at hSw); go_simp⟩) hSx ?_
            try simp only [Act.put, List.setIfInBounds_toArray]
            refine wpAnyH_ready (rs := [5]) (by kernel_rfl) (by simp) ?_
            refine (AllReadyH.cons rfl (fun J hJ => ?_) AllReadyH.nil)
            go_simp
            refine hJ.out _ _ (hR4) (fun hSx => ?_)
            clear hJ J
            try simp only [Act.put, List.setIfInBounds_toArray, List.set_cons_zero, List.set_cons_succ]
            refine wpAnyH_take (i := 6) (v := .int .i64 (t + 1)) rfl (by kernel_rfl) (by kernel_rfl) (by kernel_rfl) (fun _ _ _ h => h) (Or.inl ⟨by rfl, fun w' hSw => by (try dsimp only at hSw); go_simp; rw [IntKind.wrap_i64]; omega⟩) hSx ?_
            try simp only [Act.put, List.setIfInBounds_toArray]
            refine wpAnyH_ready (rs := [9]) (by kernel_rfl) (by simp) ?_
            refine (AllReadyH.cons rfl (fun J hJ => ?_) AllReadyH.nil)
            go_simp
            refine hJ.out _ _ (hR6) (fun hSx => ?_)
            clear hJ J
            try simp only [Act.put, List.setIfInBounds_toArray, List.set_cons_zero, List.set_cons_succ]
            refine wpAnyH_done (by kernel_rfl) ?_ _
            refine NoPanic.normal ?_
            clear hlook hent hlook2 hsto hSx
            go_wp2
            go_roundw
            case rel => exact ⟨i + 1, D6, by go_num, by omega, by rw [HFT.out]; simp, hb6, ho6, hm6, HGP, HK7⟩
            case measure => simp [intOf]; omega
    · obtain rfl : i = k := by omega
      have hdi : decide ((i : Int) < (i : Int)) = false := by simp
      have hc0 : wr.cell? ⟨g, 0, none⟩ = some (.slice va i vc) := by rw [cell_of_row wr g 0 _ _ _ hbox]; rfl
      have hgl := blk_lt hbox
      have hbs : base ≤ wr.heap.size := Nat.le_trans hbg (Nat.le_of_lt hgl)
      have hL60 : l.length ≤ 60 := by rw [Hk.out]; exact h60
      obtain ⟨hx1, hx2⟩ := hx
      obtain ⟨i3, hi3, hz0, hz1, hz2⟩ := info3
      have hne := own_ne hown hbox (by decide)
      have hnm := own_nemap hown hmap
      obtain ⟨o1, Ho1⟩ : ∃ o, Hid (Obj.cells #[.int .i64 x] 3 (0, 0) = o) := ⟨_, rfl⟩
      have HFB : Hid (∀ (v' : Value) (w4 : World), w4.ownsRow base 3 1 v' (l.length + 1) (l.map (Value.int .i64) ++ [.int .i64 x]) → (wr.alloc o1).grownBy w4 (Value.slice va i vc).ownBlock → w4.cell? ⟨g, 0, none⟩ = some (.slice va i vc) ∧ w4.frozen? ⟨g, 0, none⟩ = false ∧
          RowS (w4.setCell ⟨g, 0, none⟩ v') base g m f (l ++ [x]) (upT T L) (n + i) ∧ Kr base g w (w4.setCell ⟨g, 0, none⟩ v')) := fun v' w4 h1 h2 => by
        have hb4 : w4.heap[g]? = some (.cells #[.slice va i vc, .map (some m), .func (.func f) #[] #[]] 64 (0, 0)) := (h2.block g (by rw [World.size_alloc]; omega) (fun e => hne e.symm)).trans ((((Below.refl wr.heap.size wr).alloc (Nat.le_refl _) o1).block g hgl).trans hbox)
        have hs := heap_setCell_same w4 g 0 _ _ v' hb4
        have hvn := own_ne h1 hb4 (by decide)
        have hm4 : w4.ownsMap Tryd.prog 55 (plainElem Tryd.prog 3) m (n + i) D := (hmap.alloc _).kept h2 (fun e => hnm e.symm)
        refine ⟨by rw [cell_of_row w4 g 0 _ _ _ hb4]; rfl, frozen_of_row w4 g 0 _ _ hb4, ⟨⟨v', by simpa using hs, ?_⟩, ⟨D, hm4.kept (row := some g) ⟨rfl, rfl, rfl, by simp, fun k hk hne => heap_setCell_other w4 ⟨g, 0, none⟩ k v' (fun e => hne (by rw [e]))⟩ (by simpa using fun e => map_neg hm4 hb4 e.symm), ?_⟩, hbg, hbm⟩, HK.out.trans ⟨h2.os, h2.tape, h2.output, ?_, fun k hk => ?_, fun k c t fz e ht hkg => ?_⟩⟩
        · have := ownsRow_setCell_other h1 (a := ⟨g, 0, none⟩) hvn v'
          simpa using this
        · have h := HG.out
          rwa [List.take_of_length_le (by rw [HLEN.out]; exact Nat.le_refl _)] at h
        · have := h2.size
          rw [World.size_alloc] at this
          simp
          omega
        · rw [heap_setCell_other w4 ⟨g, 0, none⟩ k v' (by show k ≠ g; omega), h2.block k (by rw [World.size_alloc]; omega) (fun e => by have := (hown.lt k e.symm).1; omega), ((Below.refl wr.heap.size wr).alloc (Nat.le_refl _) o1).block k (by omega)]
        · rw [heap_setCell_other w4 ⟨g, 0, none⟩ k v' hkg, h2.block k (by rw [World.size_alloc]; have := blk_lt e; omega) (fun e' => ?_), ((Below.refl wr.heap.size wr).alloc (Nat.le_refl _) o1).block k (blk_lt e)]
          obtain ⟨c', fz', e2⟩ := own_kind hown k e'.symm
          rw [e] at e2
          simp only [Option.some.injEq, Obj.cells.injEq] at e2
          exact ht e2.2.1
      have hownA := hown.alloc o1
      rw [← Ho1.out] at hownA HFB
      clear hbox hmap HG HK hne hnm
      go_wp2_with (first
        | (at_builtin; refine wpList_append_own _ rfl _ _ 22 rfl base 3 i3 (.int .i64 0) 1 8 und22 hi3 hz0 hz1 hz2 rfl (by decide) _ _ _ rfl hownA ⟨wr.heap.size, 0, none⟩ 1 1 [.int .i64 x] rfl rfl (fun j u hj => by (match j, hj with | 0, hj => simp at hj; subst hj; simp [Addr.add])) (fun u hu => by (simp at hu; subst hu; rfl)) (by (unfold maxLen; omega)) (by omega) (by (simp; omega)) ?_; intro v' w4 hown' hgrow _; obtain ⟨f1, f2, f3, f4⟩ := HFB.out v' w4 hown' hgrow; obtain ⟨va', vc', rfl⟩ := own_form hown'
           have HF3 : Hid (RowS (w4.setCell ⟨g, 0, none⟩ (.slice va' (l.length + 1) vc')) base g m f (l ++ [x]) (upT T L) (n + i) ∧ Kr base g w (w4.setCell ⟨g, 0, none⟩ (.slice va' (l.length + 1) vc'))) := ⟨f3, f4⟩
           clear f3 f4 hown' hgrow)
        | go_in)
      go_ret
      exact ⟨rfl, HF3.out⟩

end Go.Proofs.YtmiinhbffiodmaaDoor
