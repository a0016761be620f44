/- The walk of All. -/
import Derived.Test.YtmaplmgecohjbaaGSh
import Derived.Test.YtmaplmgecohjbaaGSc
import Derived.Test.YtmaplmgecohjbaaGLex
import Derived.Test.YtmaplmgecohjbaaG11
import Derived.Test.YtmaplmgecohjbaaP25
import Derived.Test.YtmaplmgecohjbaaC10
/- The walks of list, Element. -/
/- The walks of Compare, the order of moves, inOrder. -/
namespace Go.Proofs.Ytmaplmgecohjbaa
open Go.RowKit

theorem cmp_nat (a b : Nat) : Lib.compareInt (a : Int) (b : Int) = if a < b then -1 else if b < a then 1 else 0 := by
  unfold Lib.compareInt
  by_cases h1 : a < b
  · rw [if_pos h1, if_pos (by omega)]
  · rw [if_neg h1, if_neg (by omega)]
    by_cases h2 : b < a
    · rw [if_pos h2, if_pos (by omega)]
    · rw [if_neg h2, if_neg (by omega)]

set_option maxRecDepth 100000 in
set_option maxHeartbeats 1000000 in
theorem Compare_any (f g : Nat → Nat) (a b : Nat) (w : World) (ha : ∀ j, j < 7 → w.cell? ⟨a, j, none⟩ = some (.int .i64 (f j : Int))) (hb : ∀ j, j < 7 → w.cell? ⟨b, j, none⟩ = some (.int .i64 (g j : Int))) :
    Calls Try.prog 63 #[.slice (some ⟨a, 0, none⟩) 7 7, .slice (some ⟨b, 0, none⟩) 7 7] w fun e w' => e = .returned (.int .i64 (lexc f g 7 0)) ∧ w' = w := by
  have C := fun (x y : Int) W => AnyG.cmp_Compare_int cmpInt x y W
  change ∀ (x y : Int) W, Calls Try.prog 82 _ _ _ at C
  have HA : Hid (∀ j, j < 7 → w.cell? ⟨a, j, none⟩ = some (.int .i64 (f j : Int))) := ha
  have HB : Hid (∀ j, j < 7 → w.cell? ⟨b, j, none⟩ = some (.int .i64 (g j : Int))) := hb
  obtain ⟨z, Hz⟩ : ∃ z, Hid (lexc f g 7 0 = z) := ⟨_, rfl⟩
  rw [Hz.out]
  clear ha hb
  go_enter Try.func63, Try.ntmps63
  go_wp2
  go_loopw [11] (fun i wr => ∃ j : Nat, i = .int .i64 j ∧ j ≤ 7 ∧ Hid (lexc f g (7 - j) j = z) ∧ wr = w) (fun i _ => (7 - intOf i).toNat)
  case atStart => exact ⟨0, rfl, by omega, Hz, rfl⟩
  case round =>
    obtain ⟨j, rfl, hj, HL, hw⟩ := hrel
    subst hw
    by_cases hlt : j < 7
    · have hji : (j : Int) < 7 := by omega
      have hdec : decide ((j : Int) < 7) = true := by simp; omega
      have hd2 : decide ((7 : Int) ≤ (j : Int)) = false := by simp; omega
      have hca := HA.out j hlt
      have hcb := HB.out j hlt
      have HL2 : Hid ((if f j < g j then (-1 : Int) else if g j < f j then 1 else lexc f g (7 - (j + 1)) (j + 1)) = z) := by
        have h := HL.out
        rw [show 7 - j = 7 - (j + 1) + 1 by omega] at h
        exact h
      obtain ⟨x, Hx⟩ : ∃ x, Hid (f j = x) := ⟨_, rfl⟩
      obtain ⟨y, Hy⟩ : ∃ y, Hid (g j = y) := ⟨_, rfl⟩
      rw [Hx.out] at hca HL2
      rw [Hy.out] at hcb HL2
      have D := C (x : Int) (y : Int)
      rw [cmp_nat] at D
      by_cases h1 : x < y
      · rw [if_pos h1] at D
        obtain rfl : -1 = z := by have := HL2.out; rwa [if_pos h1] at this
        clear h1
        go_wp2_with (first | (go_at_call 82; refine (D _).mono ?_; rintro e w1 ⟨rfl, h⟩; replace h := h.symm; subst h))
        go_ret
        exact ⟨rfl, rfl⟩
      · by_cases h2 : y < x
        · rw [if_neg h1, if_pos h2] at D
          obtain rfl : 1 = z := by have := HL2.out; rwa [if_neg h1, if_pos h2] at this
          clear h1 h2
          go_wp2_with (first | (go_at_call 82; refine (D _).mono ?_; rintro e w1 ⟨rfl, h⟩; replace h := h.symm; subst h))
          go_ret
          exact ⟨rfl, rfl⟩
        · rw [if_neg h1, if_neg h2] at D
          have HL3 : Hid (lexc f g (7 - (j + 1)) (j + 1) = z) := by have := HL2.out; rwa [if_neg h1, if_neg h2] at this
          clear h1 h2
          go_wp2_with (first | (go_at_call 82; refine (D _).mono ?_; rintro e w1 ⟨rfl, h⟩; replace h := h.symm; subst h))
          go_roundw
          case rel => exact ⟨j + 1, by go_num, by omega, HL3, trivial⟩
          case measure => simp [intOf]; omega
    · obtain rfl : j = 7 := by omega
      have hz : z = 0 := by have := HL.out; simpa [lexc] using this.symm
      subst hz
      go_wp2
      go_ret
      exact ⟨rfl, rfl⟩

/-- How two moves compare. -/
def cmpM (x y : List Nat) : Int := lexc (fun j => x.getD j 0) (fun j => y.getD j 0) 7 0

set_option maxRecDepth 100000 in
set_option maxHeartbeats 1000000 in
theorem closure_any (x y : List Nat) (W : World) :
    Calls Try.prog 92 #[.agg (mvL x).toArray, .agg (mvL y).toArray] W fun e w' => e = .returned (.int .i64 (cmpM x y)) ∧ ∃ q os', w' = Go.Sort.grow (W.drewN q) os' := by
  have hB : Below W.heap.size W ((W.alloc (.cells (mvL x).toArray 90)).alloc (.cells (mvL y).toArray 90)) := (balloc W _).alloc (by simp) _
  have C := fun W' (h1 : ∀ j, j < 7 → W'.cell? ⟨W.heap.size, j, none⟩ = some (.int .i64 ((x.getD j 0 : Nat) : Int))) (h2 : ∀ j, j < 7 → W'.cell? ⟨W.heap.size + 1, j, none⟩ = some (.int .i64 ((y.getD j 0 : Nat) : Int))) => Compare_any (fun j => x.getD j 0) (fun j => y.getD j 0) W.heap.size (W.heap.size + 1) W' h1 h2
  have H1 : Hid (∀ j, j < 7 → ((W.alloc (.cells (mvL x).toArray 90)).alloc (.cells (mvL y).toArray 90)).cell? ⟨W.heap.size, j, none⟩ = some (.int .i64 ((x.getD j 0 : Nat) : Int))) := fun j hj => by
    have h := (MRow.made 90 W (fun j => (x.getD j 0 : Int))).alloc (.cells (mvL y).toArray 90)
    exact h.cell j hj
  have H2 : Hid (∀ j, j < 7 → ((W.alloc (.cells (mvL x).toArray 90)).alloc (.cells (mvL y).toArray 90)).cell? ⟨W.heap.size + 1, j, none⟩ = some (.int .i64 ((y.getD j 0 : Nat) : Int))) := fun j hj => by
    have h := MRow.made 90 (W.alloc (.cells (mvL x).toArray 90)) (fun j => (y.getD j 0 : Int))
    rw [World.size_alloc] at h
    exact h.cell j hj
  have e0 : cmpM x y = lexc (fun j => x.getD j 0) (fun j => y.getD j 0) 7 0 := rfl
  rw [e0]
  obtain ⟨z, Hz⟩ : ∃ z, Hid (lexc (fun j => x.getD j 0) (fun j => y.getD j 0) 7 0 = z) := ⟨_, rfl⟩
  rw [Hz.out] at C ⊢
  obtain ⟨X, HX⟩ : ∃ X, Hid (mvL x = X) := ⟨_, rfl⟩
  obtain ⟨Y, HY⟩ : ∃ Y, Hid (mvL y = Y) := ⟨_, rfl⟩
  rw [HX.out, HY.out] at H1 H2 ⊢
  have hlx : X.length = 7 := by rw [← HX.out]; exact mvL_len x
  have hly : Y.length = 7 := by rw [← HY.out]; exact mvL_len y
  clear e0 hB
  go_enter Try.func92, Try.ntmps92
  go_wp2_with fail
  refine wp_region_noPanic ?_
  refine wp_region_held_drew (S := fun _ => True) (by kernel_rfl) (trivial) (fun hSx => ?_)
  refine wpAnyH_take (i := 0) (v := .slice (some ⟨W.heap.size, 0, none⟩) 7 7) rfl (by kernel_rfl) (by kernel_rfl) (by kernel_rfl) (fun _ _ _ h => h) (Or.inl ⟨by rfl, fun w' hSw => by (try dsimp only at hSw); go_simp⟩) trivial ?_
  try simp only [Act.put, List.setIfInBounds_toArray]
  refine wpAnyH_take (i := 1) (v := .slice (some ⟨W.heap.size + 1, 0, none⟩) 7 7) rfl (by kernel_rfl) (by kernel_rfl) (by kernel_rfl) (fun _ _ _ h => h) (Or.inl ⟨by rfl, fun w' hSw => by (try dsimp only at hSw); go_simp⟩) trivial ?_
  try simp only [Act.put]
  refine wpAnyH_ready (rs := [2]) (by kernel_rfl) (by simp) ?_
  refine AllReadyH.cons rfl (fun J hJ => ?_) AllReadyH.nil
  go_simp
  refine (C (World.drew _) (by exact H1.out) (by exact H2.out)).mono ?_
  rintro e w1 ⟨rfl, h⟩
  replace h := h.symm
  subst h
  go_wp2_with fail
  refine hJ.out _ _ trivial (fun _ => ?_)
  clear hJ J
  try simp only [Act.put, List.setIfInBounds_toArray, List.set_cons_zero, List.set_cons_succ]
  refine wpAnyH_ready (rs := [3]) (by kernel_rfl) (by simp) ?_
  refine AllReadyH.cons rfl (fun J hJ => ?_) AllReadyH.nil
  go_simp
  refine hJ.out _ _ trivial (fun _ => ?_)
  clear hJ J
  try simp only [Act.put, List.setIfInBounds_toArray, List.set_cons_zero, List.set_cons_succ]
  refine wpAnyH_done (by kernel_rfl) ?_ _
  refine NoPanic.normal ?_
  go_wp2_with fail
  go_ret
  refine ⟨rfl, 1, #[.cells X.toArray 90, .cells Y.toArray 90], ?_⟩
  rw [Go.Sort.alloc_eq_grow, Go.Sort.alloc_eq_grow, Go.Sort.grow_grow]
  rfl

end Go.Proofs.Ytmaplmgecohjbaa

/- The walks of inOrder, list, Element. -/
namespace Go.Proofs.Ytmaplmgecohjbaa
open Go.RowKit

theorem lt_iff (x y : List Nat) : ltOf cmpM x y = true ↔ LexLt 7 (fun j => x.getD j 0) (fun j => y.getD j 0) := by
  unfold ltOf cmpM
  rw [decide_eq_true_iff, lexc_iff]
theorem lt_no (x y : List Nat) : ltOf cmpM x y = false ↔ ¬ LexLt 7 (fun j => x.getD j 0) (fun j => y.getD j 0) := by
  rw [← lt_iff]; simp
theorem lex_congr {f f' g : Nat → Nat} (e : ∀ i, i < 7 → f i = f' i) (h : LexLt 7 f g) : LexLt 7 f' g := by
  obtain ⟨i, hi, h1, h2⟩ := h
  exact ⟨i, hi, fun j hj => by rw [← e j (by omega)]; exact h1 j hj, by rw [← e i hi]; exact h2⟩
theorem swoM : Go.Sort.SWO (ltOf cmpM) where
  irrefl x := (lt_no x x).2 LexLt.irrefl
  trans x y z h1 h2 := (lt_iff x z).2 (((lt_iff x y).1 h1).trans ((lt_iff y z).1 h2))
  ntrans x y z h1 h2 := by
    rw [lt_no] at h1 h2 ⊢
    intro h
    by_cases h3 : LexLt 7 (fun j => y.getD j 0) (fun j => x.getD j 0)
    · exact h2 (h3.trans h)
    · exact h2 (lex_congr (lex_total h1 h3) h)
theorem sort_below {w : World} {B blk n : Nat} {d' : Array (List Nat)} {os : Array Obj} (hB : B ≤ blk) (hs : B ≤ w.heap.size) : Below B w (sortWorldK mvL 7 w blk 0 n d' os) := by
  refine ⟨rfl, rfl, rfl, ?_, fun k hk => ?_⟩
  · show w.heap.size ≤ (Go.Sort.grow (Go.Sort.putRowK mvL 7 (Go.Sort.ahead w n) blk 0 d') os).heap.size
    simp [Go.Sort.grow, Go.Sort.putRowK, Go.Sort.putRow, Go.Sort.mapBlock, Go.Sort.ahead]
  · show (Go.Sort.grow (Go.Sort.putRowK mvL 7 (Go.Sort.ahead w n) blk 0 d') os).heap[k]? = w.heap[k]?
    rw [Go.Sort.heap_grow_old _ _ (by simp [Go.Sort.putRowK, Go.Sort.putRow, Go.Sort.mapBlock, Go.Sort.ahead]; omega)]
    simp only [Go.Sort.putRowK, Go.Sort.putRow, Go.Sort.mapBlock, Go.Sort.ahead]
    rw [Array.getElem?_modify, if_neg (by omega)]
theorem flat_at {M : List (List Nat)} {t : Nat} (ht : t < M.length * 7) : (M.flatMap mvL)[t]? = some ((mvL M.toArray[t / 7]!)[t % 7]!) := by
  have hi : t / 7 < M.length := by omega
  have hj : t % 7 < 7 := Nat.mod_lt _ (by omega)
  have h := flat_range (L := M) (i := t / 7) (x := M[t / 7]) (List.getElem?_eq_getElem hi) (t % 7) ((mvL M[t / 7])[t % 7]'(by rw [mvL_len]; exact hj)) (List.getElem?_eq_getElem _)
  rw [show t / 7 * 7 + t % 7 = t by omega] at h
  rw [h]
  have e1 : M.toArray[t / 7]! = M[t / 7] := by simp [hi]
  rw [e1, getElem!_pos (mvL M[t / 7]) (t % 7) (by rw [mvL_len]; exact hj)]
theorem isAgg62' (w : World) : (isAgg 90).run Try.prog w = .ok true w := by kernel_rfl
theorem sizeOf62' (w : World) : (Go.sizeOf 90).run Try.prog w = .ok 7 w := by kernel_rfl

set_option maxRecDepth 100000 in
set_option maxHeartbeats 2000000 in
theorem inOrder_any (base G : Nat) (M : List (List Nat)) (w : World) (hM : Mem base w G M) (h0 : 0 < M.length) (h6 : M.length ≤ 6000) :
    Calls Try.prog 76 #[.pointer (some ⟨G, 0, none⟩)] w fun e w' => (∃ v M', e = .returned v ∧ Mvs w' v M' ∧ M'.Perm M ∧ M'.Pairwise fun a b => ¬ LexLt 7 (fun i => b.getD i 0) (fun i => a.getD i 0)) ∧ Below w.heap.size w w' := by
  obtain ⟨i62, hi, hz0, hz1, hz2⟩ := info62
  obtain ⟨v, B, hG, hrow, _⟩ := id hM
  obtain ⟨g, gc, hc0, hgl, hGl, _, _, _⟩ := hM.open h0
  obtain ⟨r, Hr⟩ : ∃ r, Hid (M.length = r) := ⟨_, rfl⟩
  have hv : v = .slice (some ⟨g, 0, none⟩) M.length gc := by
    rw [cell_of_row w G 0 _ _ _ hG] at hc0
    simpa using hc0
  have hcl : ∀ j u, (M.flatMap mvL)[j]? = some u → w.cell? ⟨g, 0 + j, none⟩ = some u := fun j u hu => by
    have h := hrow.cells (g := g) (by rw [hv]; rfl) j u hu
    rw [Addr.add_mid] at h; exact h
  have hfl : (M.flatMap mvL).length = M.length * 7 := hrow.1
  have C1 := AnyE.slices_Clone cloneMv i62 (.agg (mrow fun _ => 0)) 7 56 hi hz0 hz1 hz2 (by simp [Value.cells]) (by omega) sizeOf62' g 0 M.length gc (M.flatMap mvL) w hfl (by unfold maxLen; omega) (by omega) hcl (fun u hu => by
    obtain ⟨x, _, hx⟩ := List.mem_flatMap.1 hu
    exact mvL_one x u hx)
  change Calls Try.prog 90 _ _ _ at C1
  have C2 : ∀ (g' cap' : Nat) (W : World), W.ownsRow w.heap.size 90 7 (.slice (some ⟨g', 0, none⟩) M.length cap') M.length (M.flatMap mvL) → w.heap.size ≤ W.heap.size → Calls Try.prog 91 #[.slice (some ⟨g', 0, none⟩) M.length cap', .func (.func 92) #[] #[]] W fun e w' => e = .returned (.tuple #[]) ∧ (∃ M' : List (List Nat), M'.length = M.length ∧ Mvs w' (.slice (some ⟨g', 0, none⟩) M.length cap') M' ∧ M'.Perm M ∧ M'.Pairwise fun a b => ¬ LexLt 7 (fun i => b.getD i 0) (fun i => a.getD i 0)) ∧ Below w.heap.size W w' := by
    intro g' cap' W hown hsW
    obtain ⟨hl', ⟨e, _⟩ | ⟨g2, cap2, cur, e, hb, h7, h8, h9, h10, ht⟩⟩ := hown
    · cases e
    · cases e
      have hH : Go.Sort.HoldsK mvL 7 W g' 0 M.toArray := fun t htt => by
        rw [Go.Sort.size_flatK] at htt
        have htt : t < M.length * 7 := by simpa using htt
        rw [Go.Sort.get_flatK _ _ _ _ (by simpa using htt)]
        refine ⟨?_, frozen_of_row W g' _ _ _ h7⟩
        rw [Nat.zero_add, cell_of_row W g' _ _ _ _ h7]
        have h3 := flat_at htt
        rw [← ht, List.getElem?_take, if_pos (by omega)] at h3
        rw [← Array.getElem?_toList]; exact h3
      have hblk : g' < W.heap.size := (Array.getElem?_eq_some_iff.1 h7).1
      have eg : ∀ args w, (callFunc 92 args).run Try.prog w = .ok (.enter 92 args) w := enters_of Try.func92 (by kernel_rfl) rfl
      have h := AnyQ.slices_SortFunc sortMv 7 isAgg62' sizeOf62' mvL mvL_len mvL_one cmpM swoM 92 #[] g' 0 cap' M.toArray W eg (fun m os dk _ x y => closure_any x y _) hH hblk (by simp; omega)
      change Calls Try.prog 91 _ _ _ at h
      have hsz0 : M.toArray.size = M.length := by simp
      rw [hsz0] at h
      exact h.mono (fun e w' ⟨he, d', n, os, hp, hs, hw⟩ => by
        have hsz : d'.size = M.length := by simpa using hp.1
        refine ⟨he, ⟨d'.toList, by simpa using hsz, ?_, ?_, ?_⟩, ?_⟩
        · have hH' : Go.Sort.HoldsK mvL 7 w' g' 0 d' := by
            rw [hw]
            exact Go.Sort.holdsK_grow mvL 7 _ _ _ _ _ (by simp [Go.Sort.putRowK, Go.Sort.putRow, Go.Sort.mapBlock, Go.Sort.ahead]; exact hblk) (Go.Sort.holdsK_putRowK mvL 7 _ _ _ M.toArray d' (Go.Sort.holdsK_ahead mvL 7 _ _ _ _ _ hH) (by simpa using hsz))
          refine ⟨_, cap', by simp [hsz], fun i x hx => ⟨g', 0, rfl, ?_, fun j u hu => ?_⟩⟩
          · rw [hw]
            show g' < (Go.Sort.grow (Go.Sort.putRowK mvL 7 (Go.Sort.ahead W n) g' 0 d') os).heap.size
            simp [Go.Sort.grow, Go.Sort.putRowK, Go.Sort.putRow, Go.Sort.mapBlock, Go.Sort.ahead]; omega
          · have hi' : i < d'.size := by have := (List.getElem?_eq_some_iff.1 hx).1; simpa using this
            have hj : j < 7 := by have := (List.getElem?_eq_some_iff.1 hu).1; rwa [mvL_len] at this
            have hc := (hH'.cell hi' hj).1
            have e1 : d'[i]! = x := by
              have : d'.toList[i]? = some x := hx
              rw [Array.getElem?_toList, Array.getElem?_eq_getElem hi'] at this
              rw [getElem!_pos d' i hi']
              exact Option.some.inj this
            rw [hc, e1, getElem!_pos (mvL x) j (by rw [mvL_len]; exact hj)]
            rw [List.getElem?_eq_getElem (by rw [mvL_len]; exact hj)] at hu
            exact hu
        · have h2 := hp.2.2
          have e1 : d'.extract 0 M.length = d' := by rw [← hsz]; simp
          have e2 : M.toArray.extract 0 M.length = M.toArray := by simp
          rw [e1, e2] at h2
          exact h2
        · rw [List.pairwise_iff_getElem]
          intro a b ha hb' hab
          have ha' : a < d'.size := by simpa using ha
          have hb2 : b < d'.size := by simpa using hb'
          have h3 := hs a b (Nat.zero_le _) hab (by omega)
          rw [lt_no, getElem!_pos d' a ha', getElem!_pos d' b hb2] at h3
          exact h3
        · rw [hw]; exact sort_below hb hsW)
  rw [Hr.out] at C1 C2 hc0
  have h6r : r ≤ 6000 := by rw [← Hr.out]; exact h6
  clear hM hrow hcl hfl hG hv hi hz0 hz1 hz2 h6
  have C1' := C1.mono (R' := fun e w' => (∃ g' cap', e = .returned (.slice (some ⟨g', 0, none⟩) r cap') ∧ w'.ownsRow w.heap.size 90 7 (.slice (some ⟨g', 0, none⟩) r cap') r (M.flatMap mvL)) ∧ Below w.heap.size w w') (fun e w' ⟨v', h1, h2, h3, h4⟩ => by
    obtain ⟨k1, ⟨e1, _⟩ | ⟨g2, cap2, cur, e1, k2⟩⟩ := id h2
    · exact absurd e1 h3
    · exact ⟨⟨g2, cap2, by rw [h1, e1], by rw [← e1]; exact h2⟩, h4⟩)
  clear C1
  go_enter Try.func76, Try.ntmps76
  go_wp2_with (first
    | (go_at_call 90; refine C1'.mono ?_; rintro e w1 ⟨⟨g', cap', rfl, how⟩, b1⟩)
    | (go_at_call 91; refine (C2 g' cap' _ how b1.size).mono ?_; rintro e w2 ⟨rfl, ⟨M', hl, hm, hp, hs⟩, b2⟩))
  go_ret
  exact ⟨⟨_, M', rfl, hm, hp, hs⟩, b1.trans b2⟩

end Go.Proofs.Ytmaplmgecohjbaa

namespace Go.Proofs.Ytmaplmgecohjbaa
open Go.RowKit

theorem sizeOf3' (w : World) : (Go.sizeOf 3).run Try.prog w = .ok 1 w := by kernel_rfl

set_option maxRecDepth 100000 in
set_option maxHeartbeats 1000000 in
theorem list_any (n : Nat) (a : List Nat) (w : World) (hn : n ≤ 7) (ha : a.length = n) :
    Calls Try.prog 77 #[mv (ext n a), .int .i64 (n : Int)] w fun e w' => (∃ y, e = .returned y ∧ Sl w' y (a.map Int.ofNat)) ∧ Below w.heap.size w w' := by
  obtain ⟨i3, ti, tz0, tz1, tz2⟩ := info3
  have hk0 := MRow.made 90 w (fun j => ((ext n a).getD j 0 : Int))
  have hB0 := balloc w (.cells (mrow fun j => ((ext n a).getD j 0 : Int)) 90)
  have hnews : ∀ j u, (vl a)[j]? = some u → (w.alloc (.cells (mrow fun j => ((ext n a).getD j 0 : Int)) 90)).cell? ⟨w.heap.size, 0 + j, none⟩ = some u := fun j u hu => by
    have hj : j < n := by have := (List.getElem?_eq_some_iff.1 hu).1; simp [vl] at this; omega
    rw [Nat.zero_add, hk0.cell j (by omega), ext_lo hn a hj]
    have hj' : j < a.length := by omega
    simp [vl, hj'] at hu ⊢
    exact hu
  have C := AnyE.slices_Clone cloneInt i3 (.int .i64 0) 1 8 ti tz0 tz1 tz2 (by simp [Value.cells]) (by omega) sizeOf3' w.heap.size 0 n 7 (vl a) _ (by simp [vl, ha]) (by unfold maxLen; omega) (by omega) hnews (fun u hu => by
    simp only [vl, List.mem_map] at hu
    obtain ⟨x, _, rfl⟩ := hu
    rfl)
  change Calls Try.prog 70 _ _ _ at C
  have C' := C.mono (R' := fun e w' => (∃ y, e = .returned y ∧ Sl w' y (a.map Int.ofNat)) ∧ Below w.heap.size w w') (fun e w' ⟨v', h1, h2, _, h4⟩ => ⟨⟨v', h1, own_vl h2 ha⟩, Below.next hB0 h4⟩)
  clear C hnews ti tz0 tz1 tz2
  unfold mv
  obtain ⟨F, HF⟩ : ∃ F : Nat → Int, Hid ((fun j => ((ext n a).getD j 0 : Int)) = F) := ⟨_, rfl⟩
  rw [HF.out] at C' hk0 hB0 ⊢
  have hn0 : (0 : Int) ≤ (n : Int) := by omega
  have hn7 : (n : Int) ≤ 7 := by omega
  go_enter Try.func77, Try.ntmps77
  go_wp2_with (first
    | (go_at_call 70; refine C'.mono ?_; rintro e w1 ⟨⟨y, rfl, hy⟩, b1⟩))
  go_ret
  exact ⟨⟨y, rfl, hy⟩, b1⟩

theorem sorted_els {n : Nat} {ms L M : List (List Nat)} (hm : ∀ m ∈ ms, IsP n m) (hn : n ≤ 7) (nd : L.Nodup) (hg : ∀ a, a ∈ L ↔ Gen n ms a) (hp : M.Perm (L.map (ext n))) (hs : M.Pairwise fun a b => ¬ LexLt 7 (fun i => b.getD i 0) (fun i => a.getD i 0)) : M = (els n (Gen n ms)).map (ext n) := by
  have hp2 : M.Perm ((els n (Gen n ms)).map (ext n)) := hp.trans ((gen_perm hm nd hg).map _)
  refine lex_sorted_eq hp2 (fun a ha => ?_) hs ?_
  · obtain ⟨b, _, rfl⟩ := List.mem_map.1 (hp.mem_iff.1 ha)
    exact ext_len _ _
  · rw [List.pairwise_map]
    refine List.Pairwise.imp (fun {a b} h h2 => ?_) (els_lex n (Gen n ms))
    exact LexLt.irrefl ((ext_lex hn h).trans h2)
theorem ord_le' {n : Nat} {ms : List (List Nat)} (hm : ∀ m ∈ ms, IsP n m) (hn : n ≤ 7) : ordG n ms ≤ 5040 := (gen_bound hm hn (els_nodup n (Gen n ms)) (fun _ => (gen_grp hm).mem)).2
theorem els_at {n : Nat} {ms : List (List Nat)} {k : Nat} (hk : k < ordG n ms) : ∃ a, (els n (Gen n ms))[k]? = some a ∧ IsP n a ∧ Gen n ms a := by
  unfold ordG at hk
  refine ⟨(els n (Gen n ms))[k], List.getElem?_eq_getElem hk, ?_, ?_⟩
  · exact (mem_els.1 (List.getElem_mem hk)).1
  · exact (mem_els.1 (List.getElem_mem hk)).2

end Go.Proofs.Ytmaplmgecohjbaa

namespace Go.Proofs.Ytmaplmgecohjbaa
open Go.RowKit Go.Shelf

set_option maxRecDepth 100000 in
set_option maxHeartbeats 1000000 in
theorem list_row (n : Nat) (a : List Nat) (w : World) (h1 : 1 ≤ n) (hn : n ≤ 7) (ha : a.length = n) :
    Calls Try.prog 77 #[mv (ext n a), .int .i64 (n : Int)] w fun e w' => (∃ g cap, e = .returned (.slice (some ⟨g, 0, none⟩) n cap) ∧ w.heap.size ≤ g ∧ Own w' g n (fun j => (a.getD j 0 : Int))) ∧ Below w.heap.size w w' := by
  obtain ⟨i3, ti, tz0, tz1, tz2⟩ := info3
  have hk0 := MRow.made 90 w (fun j => ((ext n a).getD j 0 : Int))
  have hB0 := balloc w (.cells (mrow fun j => ((ext n a).getD j 0 : Int)) 90)
  have hnews : ∀ j u, (vl a)[j]? = some u → (w.alloc (.cells (mrow fun j => ((ext n a).getD j 0 : Int)) 90)).cell? ⟨w.heap.size, 0 + j, none⟩ = some u := fun j u hu => by
    have hj : j < n := by have := (List.getElem?_eq_some_iff.1 hu).1; simp [vl] at this; omega
    rw [Nat.zero_add, hk0.cell j (by omega), ext_lo hn a hj]
    have hj' : j < a.length := by omega
    simp [vl, hj'] at hu ⊢
    exact hu
  have C := AnyE.slices_Clone cloneInt i3 (.int .i64 0) 1 8 ti tz0 tz1 tz2 (by simp [Value.cells]) (by omega) sizeOf3' w.heap.size 0 n 7 (vl a) _ (by simp [vl, ha]) (by unfold maxLen; omega) (by omega) hnews (fun u hu => by
    simp only [vl, List.mem_map] at hu
    obtain ⟨x, _, rfl⟩ := hu
    rfl)
  change Calls Try.prog 70 _ _ _ at C
  have C' := C.mono (R' := fun e w' => (∃ g cap, e = .returned (.slice (some ⟨g, 0, none⟩) n cap) ∧ w.heap.size ≤ g ∧ Own w' g n (fun j => (a.getD j 0 : Int))) ∧ Below w.heap.size w w') (fun e w' ⟨v', e1, e2, _, e4⟩ => by
    obtain ⟨g, cap, rfl, hg, hO⟩ := Own.of (l := a.map Int.ofNat) e2 h1
    refine ⟨⟨g, cap, e1, by rw [World.size_alloc] at hg; omega, hO.congr fun j hj => ?_⟩, Below.next hB0 e4⟩
    have hj' : j < a.length := by omega
    simp [hj'])
  clear C hnews ti tz0 tz1 tz2
  unfold mv
  obtain ⟨F, HF⟩ : ∃ F : Nat → Int, Hid ((fun j => ((ext n a).getD j 0 : Int)) = F) := ⟨_, rfl⟩
  rw [HF.out] at C' hk0 hB0 ⊢
  have hn0 : (0 : Int) ≤ (n : Int) := by omega
  have hn7 : (n : Int) ≤ 7 := by omega
  go_enter Try.func77, Try.ntmps77
  go_wp2_with (first
    | (go_at_call 70; refine C'.mono ?_; rintro e w1 ⟨⟨g, cap, rfl, hg, hO⟩, b1⟩))
  go_ret
  exact ⟨⟨g, cap, rfl, hg, hO⟩, b1⟩

theorem CycR.low {w : World} {base b0 : Nat} {v : Value} {ls : List (List Nat)} (h : CycR w base v ls) (hb : b0 ≤ base) : CycR w b0 v ls := by
  obtain ⟨vals, h1, h2⟩ := h
  refine ⟨vals, ?_, fun i u l hu hl => ?_⟩
  · obtain ⟨h3, h4 | ⟨g, cap, cur, h5, h6, h7⟩⟩ := h1
    · exact ⟨h3, .inl h4⟩
    · exact ⟨h3, .inr ⟨g, cap, cur, h5, by omega, h7⟩⟩
  · obtain ⟨g, cap, rfl, hg, hO⟩ := h2 i u l hu hl
    exact ⟨g, cap, rfl, by omega, hO⟩
theorem ext_back {n : Nat} (hn : n ≤ 7) {a : List Nat} (ha : a.length = n) : ((List.range n).map fun j => (ext n a).getD j 0) = a := by
  refine ext_getD (by simp) ha fun y hy => ?_
  have := ext_lo hn a hy
  simp [hy] at this ⊢
  exact this
theorem ext_perm {n : Nat} (hn : n ≤ 7) {A L : List (List Nat)} (hA : ∀ a ∈ A, a.length = n) (hL : ∀ a ∈ L, a.length = n) (h : (A.map (ext n)).Perm (L.map (ext n))) : A.Perm L := by
  have h2 := h.map fun x => (List.range n).map fun j => x.getD j 0
  rw [List.map_map, List.map_map] at h2
  have key : ∀ X : List (List Nat), (∀ a ∈ X, a.length = n) → X.map ((fun x => (List.range n).map fun j => x.getD j 0) ∘ ext n) = X := by
    intro X hX
    have : X.map ((fun x => (List.range n).map fun j => x.getD j 0) ∘ ext n) = X.map id := List.map_congr_left fun a ha => ext_back hn (hX a ha)
    rw [this, List.map_id]
  rw [key A hA, key L hL] at h2
  exact h2
/-- What All answers: rows of one's own. -/
def AllAns (w : World) (n : Nat) (ms : List (List Nat)) (e : Ending) (w' : World) : Prop :=
  ∃ (y : Value) (L : List (List Nat)), e = .returned (.tuple #[y, .int .i64 0]) ∧ CycR w' w.heap.size y L ∧ L.Perm (els n (Gen n ms)) ∧ Below w.heap.size w w'

set_option maxRecDepth 100000 in
set_option maxHeartbeats 4000000 in
theorem All_any (n : Nat) (ms : List (List Nat)) (v : Value) (w : World) (h : Mk n ms v w) :
    Calls Try.prog 58 #[.int .i64 (n : Int), v] w fun e w' => AllAns w n ms e w' := by
  obtain ⟨i22, hi', hz0', hz1', hz2'⟩ := info22
  have hn1 := h.n1
  have hn7 := h.n7
  have C0 := h.check
  have C1 := fun W (b : Below w.heap.size w W) => (h.below b).moves
  have C2 := fun W (b : Below w.heap.size w W) => (h.below b).made
  have HISP : Hid (∀ m ∈ ms, IsP n m) := h.isP
  have C3 := fun (G : Nat) (L : List (List Nat)) (base : Nat) (W : World) (hM : Mem base W G (L.map (ext n))) (h0 : 0 < (L.map (ext n)).length) (h6 : (L.map (ext n)).length ≤ 6000) => inOrder_any base G (L.map (ext n)) W hM h0 h6
  clear h
  go_enter Try.func58, Try.ntmps58
  go_wp2_with (first
    | (go_at_call 34; refine C0.mono ?_; rintro e w1 ⟨rfl, b1⟩)
    | (go_at_call 52; refine (C1 _ b1).mono ?_; rintro e w2 ⟨⟨x, rfl, hx⟩, b2⟩; have b2' := Below.next b1 b2)
    | (go_at_call 51; refine (C2 _ b1 x _ hx).mono ?_; rintro e w3 ⟨⟨G, L, rfl, hM, hnd, hgen⟩, b3⟩; have b3' := Below.next b2' b3
       have hpE := gen_perm HISP.out hnd hgen
       have hlo := gen_bound HISP.out hn7 hnd hgen
       have HG : Hid (L.Perm (els n (Gen n ms))) := hpE
       have h0L : 0 < L.length := List.length_pos_of_mem ((hgen _).2 Gen.one)
       have h6L : L.length ≤ 6000 := by have := hlo.2; omega
       clear hgen hnd hpE hlo)
    | (go_at_call 76; refine (C3 G L _ _ hM (by rw [List.length_map]; exact h0L) (by rw [List.length_map]; exact h6L)).mono ?_; rintro e w4 ⟨⟨y, M', rfl, hMv, hp, _⟩, b4⟩; have b4' := Below.next b3' b4
       have hMl : M'.length = L.length := by rw [hp.length_eq, List.length_map]
       obtain ⟨ya, yc, ey⟩ := hMv.form
       rw [hMl] at ey
       subst ey))
  obtain ⟨r, Hr⟩ : ∃ r, Hid (L.length = r) := ⟨_, rfl⟩
  rw [Hr.out] at h6L h0L hMl hMv ⊢
  have HMV : Hid (Mvs w4 (.slice ya r yc) M') := hMv
  have HP : Hid (M'.Perm (L.map (ext n))) := hp
  have HB4 : Hid (Below w.heap.size w w4) := b4'
  have hw4 : w.heap.size ≤ w4.heap.size := b4'.size
  clear hMv hp b1 b2 b3 b4 b2' b3' b4' hM hx C0 C1 C2 C3
  go_loopw [7, 21] (fun o i wr => ∃ (k : Nat) (A : List (List Nat)), i = .int .i64 (k : Int) ∧ k ≤ r ∧ CycR wr w4.heap.size o A ∧ Hid (A.length = k ∧ A.map (ext n) = M'.take k ∧ ∀ a ∈ A, a.length = n) ∧ Below w4.heap.size w4 wr) (fun _ i _ => (r - intOf i).toNat)
  case atStart => exact ⟨0, [], rfl, by omega, CycR.nil _ _, ⟨rfl, by simp, by simp⟩, Below.refl _ _⟩
  case round =>
    obtain ⟨k, A, rfl, hk, hR, HA, hB⟩ := hrel
    by_cases hlt : k < r
    · have hki : (k : Int) < r := by omega
      have hdec : decide ((k : Int) < r) = true := by simp; omega
      obtain ⟨m, hm⟩ : ∃ m, M'[k]? = some m := ⟨M'[k]'(by omega), by simp⟩
      obtain ⟨a, haL, rfl⟩ : ∃ a, a ∈ L ∧ ext n a = m := by
        obtain ⟨a, h1, h2⟩ := List.mem_map.1 (HP.out.mem_iff.1 (List.mem_of_getElem? hm))
        exact ⟨a, h1, h2⟩
      have hal : a.length = n := (mem_els.1 (HG.out.mem_iff.1 haL)).1.len
      have HTK : Hid (M'.take (k + 1) = M'.take k ++ [ext n a]) := by show _ = _; rw [List.take_add_one, hm]; rfl
      obtain ⟨b, off, hya, hbl, hrM0⟩ := HMV.out.at hm
      subst hya
      have hrM := range_below hrM0 hB hbl
      have C := fun W => list_row n a W hn1 hn7 hal
      rw [mv_eq] at C
      have hinM : (Try.prog.info? 90).map (·.size) = some (mvL (ext n a)).length := inf62L _
      have hlM : (mvL (ext n a)).length = 7 := mvL_len _
      have h1M : ∀ u ∈ mvL (ext n a), u.oneCell' = true := mvL_one _
      obtain ⟨M, HM⟩ : ∃ M, Hid (mvL (ext n a) = M) := ⟨_, rfl⟩
      rw [HM.out] at hinM hrM hlM h1M C
      have honeM := all_oneCell_toArray h1M
      have hinM' : (Try.prog.info? 90).map (·.size) = some M.toArray.size := by simpa using hinM
      have hthM : (wr.alloc (.cells #[.int .i64 0, .int .i64 0, .int .i64 0, .int .i64 0, .int .i64 0, .int .i64 0, .int .i64 0] 90)).there wr.heap.size 0 M.toArray.size := by
        intro q hq
        rw [Nat.zero_add, cell_of_row _ _ q _ _ _ (heap_alloc_new wr _), frozen_of_row _ _ q _ _ (heap_alloc_new wr _)]
        have hq7 : q < 7 := by simpa [hlM] using hq
        exact ⟨by simp [hq7], rfl⟩
      have hBM : Below wr.heap.size wr ((wr.alloc (.cells #[.int .i64 0, .int .i64 0, .int .i64 0, .int .i64 0, .int .i64 0, .int .i64 0, .int .i64 0] 90)).setCells wr.heap.size 0 M) := (balloc wr (.cells #[.int .i64 0, .int .i64 0, .int .i64 0, .int .i64 0, .int .i64 0, .int .i64 0, .int .i64 0] 90)).trans (bsets (Nat.le_refl _) _ _ _)
      have hrM2 : ((wr.alloc (.cells #[.int .i64 0, .int .i64 0, .int .i64 0, .int .i64 0, .int .i64 0, .int .i64 0, .int .i64 0] 90)).setCells wr.heap.size 0 M).rangeAt wr.heap.size 0 M := World.rangeAt_setCells_same _ _ _ _ (by simpa using hthM)
      obtain ⟨W, HW⟩ : ∃ W, Hid ((wr.alloc (.cells #[.int .i64 0, .int .i64 0, .int .i64 0, .int .i64 0, .int .i64 0, .int .i64 0, .int .i64 0] 90)).setCells wr.heap.size 0 M = W) := ⟨_, rfl⟩
      rw [HW.out] at hBM hrM2
      obtain ⟨vals, hv1, hv2⟩ := hR
      have hAl := HA.out.1
      rw [hAl] at hv1
      have hsz := hB.size
      clear hrM0 hm haL
      go_wp2_with (first
        | (refine wpList_load_mid rfl 90 _ rfl b (off + k * 7) rfl M _ hrM und62 rfl hinM ?_)
        | (refine wpList_store_mid rfl 90 _ _ rfl wr.heap.size 0 M.toArray rfl rfl hthM hinM' honeM ?_; rw [show M.toArray.toList = M from rfl, HW.out])
        | (refine wpList_load_mid rfl 90 _ rfl wr.heap.size 0 rfl M _ hrM2 und62 rfl hinM ?_)
        | (go_at_call 77; refine (C _).mono ?_; rintro e w5 ⟨⟨g, cap, rfl, hg, hO⟩, b5⟩; have b5' := Below.next hBM b5; have hk5 : Kp 0 wr w5 := Kp.below b5'; have hv5 := own_below hv1 b5'; have hs5 := b5'.size)
        | (at_builtin; refine wpList_append_own _ rfl _ _ 28 rfl w4.heap.size 40 i22 (.slice none 0 0) 1 24 und54 hi' hz0' hz1' hz2' rfl (by decide) _ _ _ rfl (hv5.alloc _) ⟨w5.heap.size, 0, none⟩ 1 1 [.slice (some ⟨g, 0, none⟩) n cap] rfl rfl ?c1 ?c2 ?c3 ?c4 ?c5 ?_)
        | go_in)
      case c1 =>
        intro j u hj
        match j, hj with
        | 0, hj => simp at hj; subst hj; simp [Addr.add]
      case c2 => intro u hu; simp at hu; subst hu; rfl
      case c3 => unfold maxLen; omega
      case c4 => omega
      case c5 => simp; omega
      intro v' w8 hown8 hgrow8 _
      have hU8 : Below w4.heap.size w5 w8 := ((Below.refl _ _).alloc (by omega) _).grown hgrow8 (by simp; omega) (fun k hk => (hv5.lt k hk).1)
      have hB8 : Below w4.heap.size w4 w8 := (hB.trans (b5'.mono hsz)).trans hU8
      have hka : Kp 0 w5 (w5.alloc (.cells #[.slice (some ⟨g, 0, none⟩) n cap] 40)) := Kp.below (balloc w5 _)
      have hsM := hBM.size
      have hrow : RowIs (w5.alloc (.cells #[.slice (some ⟨g, 0, none⟩) n cap] 40)) w4.heap.size (.slice (some ⟨g, 0, none⟩) n cap) a := ⟨g, cap, by rw [hal], by omega, by rw [hal]; exact hO.below (balloc w5 _)⟩
      have hR8 := CycR.more (l := a) (ls := A) (by rw [hAl]; exact hv5.alloc _) (fun i u l h1 h2 => ((hv2 i u l h1 h2).kp hk5 (by omega)).kp hka (by omega)) hrow (by rw [hAl]; exact hown8) hgrow8
      clear hka hrow hown8 hgrow8 hU8 hv5 hO b5 b5' hk5 hv1 hv2 hBM hrM2 hrM
      go_wp2
      go_roundw
      case rel =>
        refine ⟨k + 1, A ++ [a], by go_num, by omega, hR8, ⟨by rw [List.length_append, hAl]; rfl, ?_, fun x hx => ?_⟩, hB8⟩
        · rw [List.map_append, HA.out.2.1, HTK.out]; rfl
        · rcases List.mem_append.1 hx with h | h
          · exact HA.out.2.2 x h
          · rw [List.mem_singleton.1 h]; exact hal
      case measure => simp [intOf]; omega
    · have hdec : decide ((k : Int) < r) = false := by simp; omega
      obtain rfl : k = r := by omega
      go_wp2
      go_ret2
      refine ⟨_, A, rfl, hR.low hw4, ?_, HB4.out.trans (hB.mono hw4)⟩
      refine (ext_perm hn7 HA.out.2.2 (fun a ha => (mem_els.1 (HG.out.mem_iff.1 ha)).1.len) ?_).trans HG.out
      rw [HA.out.2.1, List.take_of_length_le (by omega)]
      exact HP.out

end Go.Proofs.Ytmaplmgecohjbaa
