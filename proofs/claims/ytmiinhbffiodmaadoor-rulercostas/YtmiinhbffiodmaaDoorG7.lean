/- Sums of two, all unlike: the walks of sumsUnlike and Sidon. -/
import Derived.Test.YtmiinhbffiodmaaDoorG3
import Derived.Test.YtmiinhbffiodmaaDoorRuB
import Derived.Test.YtmiinhbffiodmaaDoorR2
/- The gaps of a whole list; what put and drop do to a row that knows them. -/
/- The walk of drop: the last number away, with its gaps. -/
namespace Go.Proofs.YtmiinhbffiodmaaDoor
open Go.RowKit Go.Maps

theorem upT_dp {T : Int × Int → Int} {L : List (Int × Int)} {i : Nat} (h : i < L.length) : upT T (L.drop (i + 1)) (L.getD i (0, 0)) = upT T (L.drop i) (L.getD i (0, 0)) - 1 ∧ ∀ d, d ≠ L.getD i (0, 0) → upT T (L.drop (i + 1)) d = upT T (L.drop i) d := by
  have e : L.drop i = L.getD i (0, 0) :: L.drop (i + 1) := by
    rw [List.drop_eq_getElem_cons h, List.getD_eq_getElem?_getD, List.getElem?_eq_getElem h]; rfl
  rw [e]
  refine ⟨?_, fun d hd => ?_⟩
  · unfold upT
    rw [List.count_cons_self]
    omega
  · unfold upT
    rw [List.count_cons_of_ne (fun h => hd h.symm)]
theorem upT_bd2 {T : Int × Int → Int} {L : List (Int × Int)} {i : Nat} (c : Int × Int) (hT : 0 ≤ T c ∧ T c ≤ 100000) (hL : L.length ≤ 100) : 0 ≤ upT T (L.drop i) c ∧ upT T (L.drop i) c ≤ 100100 := by
  have := List.count_le_length (a := c) (l := L.drop i)
  rw [List.length_drop] at this
  unfold upT
  omega
/-- The last number, and the numbers without it. -/
theorem own_last {w : World} {base k : Nat} {v : Value} {l : List Int} {x : Int} (h : w.ownsRow base 3 1 v (l ++ [x]).length ((l ++ [x]).map (Value.int .i64))) (hk : l.length = k) :
    ∃ b cap, v = .slice (some ⟨b, 0, none⟩) (k + 1) cap ∧ k + 1 ≤ cap ∧ w.cell? ⟨b, k, none⟩ = some (.int .i64 x) ∧ w.ownsRow base 3 1 (.slice (some ⟨b, 0, none⟩) k cap) l.length (l.map (Value.int .i64)) := by
  subst hk
  have hl2 : (l ++ [x]).length = l.length + 1 := by simp
  rw [hl2] at h
  obtain ⟨h1, ⟨h2, h3⟩ | ⟨b, c, cur, rfl, hb, hg, hc, hm, hs, ht⟩⟩ := h
  · omega
  · refine ⟨b, c, rfl, hc, ?_, by simp, .inr ⟨b, c, cur, rfl, hb, hg, by omega, hm, hs, ?_⟩⟩
    · have e2 : (cur.toList.take ((l.length + 1) * 1))[l.length]? = some (.int .i64 x) := by rw [ht]; simp
      rw [cell_of_row w b _ cur 3 (0, 0) hg, ← Array.getElem?_toList]
      rwa [List.getElem?_take, if_pos (by omega)] at e2
    · have e3 : (cur.toList.take ((l.length + 1) * 1)).take (l.length * 1) = ((l ++ [x]).map (Value.int .i64)).take (l.length * 1) := by rw [ht]
      rw [List.take_take, Nat.min_eq_left (by omega)] at e3
      rw [e3]
      simp

set_option maxRecDepth 100000 in
set_option maxHeartbeats 16000000 in
theorem drop_any (ap : Int → Int → Int × Int) (base g m f n : Nat) (l : List Int) (T : Int × Int → Int) (x : Int) (w : World) (hA : ApF f ap) (hR : RowS w base g m f (l ++ [x]) (upT T (nwG ap l x)) n)
    (hx : 0 ≤ x ∧ x ≤ 1000000000) (hl : ∀ i, i < l.length → 0 ≤ l.getD i 0 ∧ l.getD i 0 ≤ 1000000000) (h60 : l.length ≤ 60) (hT : ∀ c, 0 ≤ T c ∧ T c ≤ 100000) (hn : n ≤ 1000000000000000000) :
    Calls Tryd.prog 46 #[.pointer (some ⟨g, 0, none⟩)] w fun e w' => e = .returned (.tuple #[]) ∧ RowS w' base g m f l T (n + l.length) ∧ Kr base g w w' := by
  obtain ⟨v, hbox0, hown0⟩ := hR.box
  obtain ⟨D0, hmap0, hgap⟩ := hR.map
  have hbg := hR.bg
  have hbm := hR.bm
  obtain ⟨k, Hk⟩ : ∃ k, Hid (l.length = k) := ⟨_, rfl⟩
  obtain ⟨b, vc, rfl, hkc, hcx, hown1⟩ := own_last hown0 Hk.out
  have c0 : w.cell? ⟨g, 0, none⟩ = some (.slice (some ⟨b, 0, none⟩) (k + 1) vc) := by rw [cell_of_row w g 0 _ _ _ hbox0]; rfl
  have hfz : w.frozen? ⟨g, 0, none⟩ = false := frozen_of_row w g 0 _ _ hbox0
  have hbox1 : (w.setCell ⟨g, 0, none⟩ (.slice (some ⟨b, 0, none⟩) k vc)).heap[g]? = some (.cells #[.slice (some ⟨b, 0, none⟩) k vc, .map (some m), .func (.func f) #[] #[]] 64 (0, 0)) := by
    simpa using heap_setCell_same w g 0 _ _ (.slice (some ⟨b, 0, none⟩) k vc) hbox0
  have hown2 := ownsRow_setCell_other hown1 (a := ⟨g, 0, none⟩) (own_ne hown1 hbox0 (by decide)) (.slice (some ⟨b, 0, none⟩) k vc)
  have hmap1 : (w.setCell ⟨g, 0, none⟩ (.slice (some ⟨b, 0, none⟩) k vc)).ownsMap Tryd.prog 55 (plainElem Tryd.prog 3) m n D0 := hmap0.kept (row := some g) ⟨rfl, rfl, rfl, by simp, fun j hj hne => heap_setCell_other w ⟨g, 0, none⟩ j _ (fun e => hne (by rw [e]))⟩ (by simpa using fun e => map_neg hmap0 hbox0 e.symm)
  have hK1 : Kr base g w (w.setCell ⟨g, 0, none⟩ (.slice (some ⟨b, 0, none⟩) k vc)) := ⟨rfl, rfl, rfl, by simp, fun j hj => heap_setCell_other w ⟨g, 0, none⟩ j _ (by show j ≠ g; omega), fun j c t fz e ht hjg => heap_setCell_other w ⟨g, 0, none⟩ j _ hjg⟩
  have HLEN : Hid ((nwG ap l x).length = k) := (nwG_len ap l x).trans Hk.out
  have HNW : Hid (∀ i : Nat, i < k → (nwG ap l x).getD i (0, 0) = ap ((k : Int) - (i : Int)) (x - l.getD i 0)) := fun i hi => by
    have h := nwG_at ap l x (i := i) (by rw [Hk.out]; exact hi)
    rw [Hk.out] at h; exact h
  have HLB : Hid (∀ i : Nat, i < k → 0 ≤ l.getD i 0 ∧ l.getD i 0 ≤ 1000000000) := fun i hi => hl i (by rw [Hk.out]; exact hi)
  obtain ⟨L, HL⟩ : ∃ L, Hid (nwG ap l x = L) := ⟨_, rfl⟩
  rw [HL.out] at HLEN HNW hgap
  have HBD : Hid (∀ (i : Nat) (c : Int × Int), 0 ≤ upT T (L.drop i) c ∧ upT T (L.drop i) c ≤ 100100) := fun i c => upT_bd2 c (hT c) (by have := HLEN.out; have := Hk.out; omega)
  have HRW : Hid (∀ W : World, W.ownsRow base 3 1 (.slice (some ⟨b, 0, none⟩) k vc) l.length (l.map (Value.int .i64)) → ∀ i : Nat, i < k → W.cell? ⟨b, i, none⟩ = some (.int .i64 (l.getD i 0))) := fun W hW i hi => by
    obtain ⟨b', e, h⟩ := rowAt hW Hk.out hi
    simp only [Option.some.injEq, Addr.mk.injEq] at e
    rw [e.1]; exact h
  have HAP : Hid (ApF f ap) := hA
  have eg := hA.ent
  rw [Hk.out] at h60 ⊢
  have hG0 : Hid (GapsIs D0 (upT T (L.drop 0))) := hgap
  have hnc : ¬ (vc : Int) < (k : Int) := by omega
  have hn1 : ¬ ((k : Int) + 1 ≤ (k : Int)) := by omega
  have HB1 : Hid ((w.setCell ⟨g, 0, none⟩ (.slice (some ⟨b, 0, none⟩) k vc)).heap[g]? = some (.cells #[.slice (some ⟨b, 0, none⟩) k vc, .map (some m), .func (.func f) #[] #[]] 64 (0, 0))) := hbox1
  have HO2 : Hid ((w.setCell ⟨g, 0, none⟩ (.slice (some ⟨b, 0, none⟩) k vc)).ownsRow base 3 1 (.slice (some ⟨b, 0, none⟩) k vc) l.length (l.map (Value.int .i64))) := hown2
  have HM1 : Hid ((w.setCell ⟨g, 0, none⟩ (.slice (some ⟨b, 0, none⟩) k vc)).ownsMap Tryd.prog 55 (plainElem Tryd.prog 3) m n D0) := hmap1
  have HK1 : Hid (Kr base g w (w.setCell ⟨g, 0, none⟩ (.slice (some ⟨b, 0, none⟩) k vc))) := hK1
  clear hR hl hT hA hown0 hown1 hbox0 hmap0 hgap hbox1 hown2 hmap1 hK1
  go_enter Tryd.func46, Tryd.ntmps46
  go_wp2
  go_loopw [33] (fun iv wr => ∃ (i : Nat) (D : DataW Unit), iv = .int .i64 (i : Int) ∧ i ≤ k ∧ wr.heap[g]? = some (.cells #[.slice (some ⟨b, 0, none⟩) k vc, .map (some m), .func (.func f) #[] #[]] 64 (0, 0)) ∧
      wr.ownsRow base 3 1 (.slice (some ⟨b, 0, none⟩) k vc) l.length (l.map (Value.int .i64)) ∧ wr.ownsMap Tryd.prog 55 (plainElem Tryd.prog 3) m (n + i) D ∧ Hid (GapsIs D (upT T (L.drop i))) ∧ Hid (Kr base g w wr)) (fun iv _ => (k - intOf iv).toNat)
  case atStart => exact ⟨0, D0, rfl, by omega, HB1.out, HO2.out, HM1.out, hG0, HK1⟩
  case round =>
    clear c0 hfz hcx HB1 HO2 HM1 HK1 hG0 hnc hn1
    obtain ⟨i, D, rfl, hi, hbox, hown, hmap, HG, HK⟩ := hrel
    by_cases hlt : i < k
    · have hdi : decide ((i : Int) < (k : Int)) = true := by simp; omega
      have hii : (i : Int) < (k : Int) := by omega
      have hcell := HRW.out _ hown i hlt
      have hyb := HLB.out i hlt
      have HC := HNW.out i hlt
      obtain ⟨y, Hy⟩ : ∃ y, Hid (l.getD i 0 = y) := ⟨_, rfl⟩
      rw [Hy.out] at hcell hyb HC
      have hc1 : wr.cell? ⟨g, 1, none⟩ = some (.map (some m)) := by rw [cell_of_row wr g 1 _ _ _ hbox]; rfl
      have hc2 : wr.cell? ⟨g, 2, none⟩ = some (.func (.func f) #[] #[]) := by rw [cell_of_row wr g 2 _ _ _ hbox]; rfl
      have hgl := blk_lt hbox
      have HS : Hid (∀ W, Below wr.heap.size wr W → W.cell? ⟨g, 1, none⟩ = some (.map (some m)) ∧ W.cell? ⟨g, 2, none⟩ = some (.func (.func f) #[] #[])) := fun W hW => ⟨(hW.cell (p := ⟨g, 1, none⟩) hgl).trans hc1, (hW.cell (p := ⟨g, 2, none⟩) hgl).trans hc2⟩
      have C := fun W => HAP.out.call ((k : Int) - (i : Int)) (x - y) W
      have hok := HAP.out.ok ((k : Int) - (i : Int)) (x - y) (by omega) (by omega) (by omega) (by omega)
      obtain ⟨⟨c1, c2⟩, Hc⟩ : ∃ c, Hid (ap ((k : Int) - (i : Int)) (x - y) = c) := ⟨_, rfl⟩
      rw [Hc.out] at hok HC
      have C : ∀ W, Calls Tryd.prog f #[.int .i64 ((k : Int) - (i : Int)), .int .i64 (x - y)] W fun e w' => e = .returned (.agg #[.int .i64 c1, .int .i64 c2]) ∧ Below W.heap.size W w' := fun W => by
        have := C W
        rw [Hc.out] at this
        exact this
      have HOK : Hid (GOk (c1, c2)) := hok
      have HCC : Hid (L.getD i (0, 0) = (c1, c2)) := HC
      obtain ⟨hx1, hx2⟩ := hx
      obtain ⟨hy1, hy2⟩ := hyb
      obtain ⟨t, HTX⟩ : ∃ t, Hid (t = upT T (L.drop i) (c1, c2)) := ⟨_, rfl⟩
      have htb := HBD.out i (c1, c2)
      rw [← HTX.out] at htb
      obtain ⟨ht0, ht1⟩ := htb
      clear hok HC hc1 hc2
      go_wp2
      refine wp_region_noPanic ?_
      refine wp_region_held_drew (S := fun w' => w'.cell? ⟨g, 1, none⟩ = some (.map (some m)) ∧ w'.cell? ⟨g, 2, none⟩ = some (.func (.func f) #[] #[])) (by kernel_rfl) (HS.out _ (Below.refl _ wr).drew) (fun hSx => ?_)
      refine wpAnyH_take (i := 0) (v := .pointer (some ⟨g, 0, none⟩)) rfl (by kernel_rfl) (by kernel_rfl) (by kernel_rfl) (fun _ _ _ h => h) (Or.inl ⟨by rfl, fun w' hSw => by (try dsimp only at hSw); obtain ⟨hs0, hs1⟩ := hSw; go_simp⟩) hSx ?_
      try simp only [Act.put, List.setIfInBounds_toArray]
      refine wpAnyH_take (i := 1) (v := .pointer (some ⟨g, 0, none⟩)) rfl (by kernel_rfl) (by kernel_rfl) (by kernel_rfl) (fun _ _ _ h => h) (Or.inl ⟨by rfl, fun w' hSw => by (try dsimp only at hSw); obtain ⟨hs0, hs1⟩ := hSw; go_simp⟩) hSx ?_
      try simp only [Act.put]
      refine wpAnyH_take (i := 2) (v := .pointer (some ⟨g, 1, none⟩)) rfl (by kernel_rfl) (by kernel_rfl) (by kernel_rfl) (fun _ _ _ h => h) (Or.inl ⟨by rfl, fun w' hSw => by (try dsimp only at hSw); obtain ⟨hs0, hs1⟩ := hSw; go_simp⟩) hSx ?_
      try simp only [Act.put]
      refine wpAnyH_take (i := 3) (v := .map (some m)) rfl (by kernel_rfl) (by kernel_rfl) (by kernel_rfl) (fun _ _ _ h => h) (Or.inl ⟨by rfl, fun w' hSw => by (try dsimp only at hSw); obtain ⟨hs0, hs1⟩ := hSw; go_simp⟩) hSx ?_
      try simp only [Act.put]
      refine wpAnyH_take (i := 4) (v := .pointer (some ⟨g, 0, none⟩)) rfl (by kernel_rfl) (by kernel_rfl) (by kernel_rfl) (fun _ _ _ h => h) (Or.inl ⟨by rfl, fun w' hSw => by (try dsimp only at hSw); obtain ⟨hs0, hs1⟩ := hSw; go_simp⟩) hSx ?_
      try simp only [Act.put]
      refine wpAnyH_take (i := 5) (v := .pointer (some ⟨g, 0, none⟩)) rfl (by kernel_rfl) (by kernel_rfl) (by kernel_rfl) (fun _ _ _ h => h) (Or.inl ⟨by rfl, fun w' hSw => by (try dsimp only at hSw); obtain ⟨hs0, hs1⟩ := hSw; go_simp⟩) hSx ?_
      try simp only [Act.put]
      refine wpAnyH_take (i := 6) (v := .pointer (some ⟨g, 2, none⟩)) rfl (by kernel_rfl) (by kernel_rfl) (by kernel_rfl) (fun _ _ _ h => h) (Or.inl ⟨by rfl, fun w' hSw => by (try dsimp only at hSw); obtain ⟨hs0, hs1⟩ := hSw; go_simp⟩) hSx ?_
      try simp only [Act.put]
      refine wpAnyH_take (i := 7) (v := .func (.func f) #[] #[]) rfl (by kernel_rfl) (by kernel_rfl) (by kernel_rfl) (fun _ _ _ h => h) (Or.inl ⟨by rfl, fun w' hSw => by (try dsimp only at hSw); obtain ⟨hs0, hs1⟩ := hSw; go_simp⟩) hSx ?_
      try simp only [Act.put]
      refine wpAnyH_take (i := 8) (v := .int .i64 (k : Int)) rfl (by kernel_rfl) (by kernel_rfl) (by kernel_rfl) (fun _ _ _ h => h) (Or.inl ⟨by rfl, fun w' hSw => by (try dsimp only at hSw); obtain ⟨hs0, hs1⟩ := hSw; go_simp⟩) hSx ?_
      try simp only [Act.put]
      refine wpAnyH_take (i := 9) (v := .int .i64 (i : Int)) rfl (by kernel_rfl) (by kernel_rfl) (by kernel_rfl) (fun _ _ _ h => h) (Or.inl ⟨by rfl, fun w' hSw => by (try dsimp only at hSw); obtain ⟨hs0, hs1⟩ := hSw; go_simp⟩) hSx ?_
      try simp only [Act.put]
      refine wpAnyH_take (i := 10) (v := .int .i64 ((k : Int) - (i : Int))) rfl (by kernel_rfl) (by kernel_rfl) (by kernel_rfl) (fun _ _ _ h => h) (Or.inl ⟨by rfl, fun w' hSw => by (try dsimp only at hSw); obtain ⟨hs0, hs1⟩ := hSw; go_simp; rw [IntKind.wrap_i64]; omega⟩) hSx ?_
      try simp only [Act.put]
      refine wpAnyH_take (i := 11) (v := .int .i64 x) rfl (by kernel_rfl) (by kernel_rfl) (by kernel_rfl) (fun _ _ _ h => h) (Or.inl ⟨by rfl, fun w' hSw => by (try dsimp only at hSw); obtain ⟨hs0, hs1⟩ := hSw; go_simp⟩) hSx ?_
      try simp only [Act.put]
      refine wpAnyH_take (i := 12) (v := .int .i64 y) rfl (by kernel_rfl) (by kernel_rfl) (by kernel_rfl) (fun _ _ _ h => h) (Or.inl ⟨by rfl, fun w' hSw => by (try dsimp only at hSw); obtain ⟨hs0, hs1⟩ := hSw; go_simp⟩) hSx ?_
      try simp only [Act.put]
      refine wpAnyH_take (i := 13) (v := .int .i64 (x - y)) rfl (by kernel_rfl) (by kernel_rfl) (by kernel_rfl) (fun _ _ _ h => h) (Or.inl ⟨by rfl, fun w' hSw => by (try dsimp only at hSw); obtain ⟨hs0, hs1⟩ := hSw; go_simp; rw [IntKind.wrap_i64]; omega⟩) hSx ?_
      try simp only [Act.put]
      refine wpAnyH_ready (rs := [14]) (by kernel_rfl) (by simp) ?_
      refine (AllReadyH.cons rfl (fun J hJ => ?_) AllReadyH.nil)
      go_simp
      go_at_fn f
      refine (C _).mono ?_
      rintro e w1 ⟨rfl, b1⟩
      have d1 : Below wr.heap.size wr w1 := Below.next (Below.refl _ wr).drew b1
      have hb5 := (d1.block g hgl).trans hbox
      have ho5 := hown.kept (grownB d1) (Classical.em _)
      have hm5 := hmap.kept (grownB d1) (by simp)
      have HK6 : Hid (Kr base g w w1) := HK.out.trans (Kr.of_below (Nat.le_trans hbg (Nat.le_of_lt hgl)) d1)
      have hgm := map_neg hm5 hb5
      obtain ⟨c, v0, st, w4, hat7, hlook, hent, hlook2, hg4, hs4, hst⟩ := entry_any hm5 (by unfold maxLen; omega) (gK_of HOK.out)
      obtain rfl : t = c := HTX.out.trans (HG.out.look HOK.out hat7).symm
      obtain ⟨w5, hsto, hm6, hg5, hs5⟩ := hst (t - 1) (wfI (by omega) (by omega))
      rw [show goInt (st : Int) = Value.int .i64 (st : Int) from rfl] at hsto hent
      rw [show gV (c1, c2) = .agg #[.int .i64 c1, .int .i64 c2] from rfl] at hlook hent hlook2
      have hb4 := (hg4.block g (by exact blk_lt hb5) (by simpa using hgm)).trans hb5
      have hb6 := (hg5.block g (by exact blk_lt hb5) (by simpa using hgm)).trans hb5
      have ho6 := ho5.kept hg5 (.inr (own_nemap ho5 hm5))
      have HK7 : Hid (Kr base g w w5) := HK6.out.grown hm5 hbm hg5
      have hR4 : w4.cell? ⟨g, 1, none⟩ = some (.map (some m)) ∧ w4.cell? ⟨g, 2, none⟩ = some (.func (.func f) #[] #[]) := ⟨by rw [cell_of_row w4 g 1 _ _ _ hb4]; rfl, by rw [cell_of_row w4 g 2 _ _ _ hb4]; rfl⟩
      have hR6 : w5.cell? ⟨g, 1, none⟩ = some (.map (some m)) ∧ w5.cell? ⟨g, 2, none⟩ = some (.func (.func f) #[] #[]) := ⟨by rw [cell_of_row w5 g 1 _ _ _ hb6]; rfl, by rw [cell_of_row w5 g 2 _ _ _ hb6]; rfl⟩
      have hGP := HG.out.put (T' := upT T (L.drop (i + 1))) hm5.isMap HOK.out (x := t - 1) (by rw [← HCC.out, (upT_dp (by rw [HLEN.out]; exact hlt)).1, HCC.out, ← HTX.out]) (fun d hd => (upT_dp (by rw [HLEN.out]; exact hlt)).2 d (by rw [HCC.out]; exact hd))
      obtain ⟨D6, HD6⟩ : ∃ D6, Hid (D.put (gK (c1, c2)) (.lit (.int .i64 (t - 1))) = D6) := ⟨_, rfl⟩
      rw [HD6.out] at hGP hm6
      have HGP : Hid (GapsIs D6 (upT T (L.drop (i + 1)))) := hGP
      clear hat7 hst hGP hg4 hg5 hs4 hs5 HG hm5 HK6 ho5 hb5 HD6 hb4 hbox hown hmap HK b1 C
      go_wp2_with fail
      refine hJ.out _ _ (HS.out _ d1) (fun hSx => ?_)
      clear hJ J
      try simp only [Act.put, List.setIfInBounds_toArray, List.set_cons_zero, List.set_cons_succ]
      refine wpAnyH_ready (rs := [15, 17]) (by kernel_rfl) (by simp) ?_
      refine (AllReadyH.cons rfl (fun J hJ => ?_) (AllReadyH.cons rfl (fun J hJ => ?_) AllReadyH.nil))
      · go_simp
        refine hJ.out _ _ (hSx) (fun hSx => ?_)
        clear hJ J
        try simp only [Act.put, List.setIfInBounds_toArray, List.set_cons_zero, List.set_cons_succ]
        refine wpAnyH_take (i := 16) (v := .int .i64 (t - 1)) rfl (by kernel_rfl) (by kernel_rfl) (by kernel_rfl) (fun _ _ _ h => h) (Or.inl ⟨by rfl, fun w' hSw => by (try dsimp only at hSw); go_simp; rw [IntKind.wrap_i64]; omega⟩) hSx ?_
        try simp only [Act.put, List.setIfInBounds_toArray]
        refine wpAnyH_ready (rs := [17]) (by kernel_rfl) (by simp) ?_
        refine (AllReadyH.cons rfl (fun J hJ => ?_) AllReadyH.nil)
        go_simp
        refine hJ.out _ _ (hR4) (fun hSx => ?_)
        clear hJ J
        try simp only [Act.put, List.setIfInBounds_toArray, List.set_cons_zero, List.set_cons_succ]
        refine wpAnyH_take (i := 18) (v := .int .i64 (st : Int)) rfl (by kernel_rfl) (by kernel_rfl) (by kernel_rfl) (fun _ _ _ h => h) (Or.inl ⟨by rfl, fun w' hSw => by (try dsimp only at hSw); go_simp⟩) hSx ?_
        try simp only [Act.put, List.setIfInBounds_toArray]
        refine wpAnyH_ready (rs := [19]) (by kernel_rfl) (by simp) ?_
        refine (AllReadyH.cons rfl (fun J hJ => ?_) AllReadyH.nil)
        go_simp
        refine hJ.out _ _ (hR6) (fun hSx => ?_)
        clear hJ J
        try simp only [Act.put, List.setIfInBounds_toArray, List.set_cons_zero, List.set_cons_succ]
        refine wpAnyH_done (by kernel_rfl) ?_ _
        refine NoPanic.normal ?_
        clear hlook hent hlook2 hsto hSx HS d1
        go_wp2
        go_roundw
        case rel => exact ⟨i + 1, D6, by go_num, by omega, hb6, ho6, hm6, HGP, HK7⟩
        case measure => simp [intOf]; omega
      · go_simp
        refine hJ.out _ _ (hR4) (fun hSx => ?_)
        clear hJ J
        try simp only [Act.put, List.setIfInBounds_toArray, List.set_cons_zero, List.set_cons_succ]
        refine wpAnyH_take (i := 18) (v := .int .i64 (st : Int)) rfl (by kernel_rfl) (by kernel_rfl) (by kernel_rfl) (fun _ _ _ h => h) (Or.inl ⟨by rfl, fun w' hSw => by (try dsimp only at hSw); go_simp⟩) hSx ?_
        try simp only [Act.put, List.setIfInBounds_toArray]
        refine wpAnyH_ready (rs := [15]) (by kernel_rfl) (by simp) ?_
        refine (AllReadyH.cons rfl (fun J hJ => ?_) AllReadyH.nil)
        go_simp
        refine hJ.out _ _ (hR4) (fun hSx => ?_)
        clear hJ J
        try simp only [Act.put, List.setIfInBounds_toArray, List.set_cons_zero, List.set_cons_succ]
        refine wpAnyH_take (i := 16) (v := .int .i64 (t - 1)) rfl (by kernel_rfl) (by kernel_rfl) (by kernel_rfl) (fun _ _ _ h => h) (Or.inl ⟨by rfl, fun w' hSw => by (try dsimp only at hSw); go_simp; rw [IntKind.wrap_i64]; omega⟩) hSx ?_
        try simp only [Act.put, List.setIfInBounds_toArray]
        refine wpAnyH_ready (rs := [19]) (by kernel_rfl) (by simp) ?_
        refine (AllReadyH.cons rfl (fun J hJ => ?_) AllReadyH.nil)
        go_simp
        refine hJ.out _ _ (hR6) (fun hSx => ?_)
        clear hJ J
        try simp only [Act.put, List.setIfInBounds_toArray, List.set_cons_zero, List.set_cons_succ]
        refine wpAnyH_done (by kernel_rfl) ?_ _
        refine NoPanic.normal ?_
        clear hlook hent hlook2 hsto hSx HS d1
        go_wp2
        go_roundw
        case rel => exact ⟨i + 1, D6, by go_num, by omega, hb6, ho6, hm6, HGP, HK7⟩
        case measure => simp [intOf]; omega
    · obtain rfl : i = k := by omega
      have hdi : decide ((i : Int) < (i : Int)) = false := by simp
      have HR : Hid (RowS wr base g m f l T (n + i) ∧ Kr base g w wr) := ⟨⟨⟨_, hbox, by have h := hown; exact h⟩, ⟨D, hmap, HG.out.congr fun c => by rw [List.drop_of_length_le (by rw [HLEN.out]; exact Nat.le_refl _), upT_nil]⟩, hbg, hbm⟩, HK.out⟩
      clear hbox hown hmap HG HK
      go_wp2
      go_end0
      exact ⟨rfl, HR.out⟩

end Go.Proofs.YtmiinhbffiodmaaDoor

namespace Go.Proofs.YtmiinhbffiodmaaDoor
open Go.RowKit Go.Maps

/-- What comes of all pairs, as they come: of each with those behind it. -/
def prGL {α : Type} (f : Nat → Nat → α) (n : Nat) : List α := (List.range n).flatMap fun i => (List.range i).map fun j => f i j
/-- The same, up to the j-th of the i-th. -/
def prGP {α : Type} (f : Nat → Nat → α) (i j : Nat) : List α := prGL f i ++ (List.range j).map fun k => f i k
theorem prGP_zero {α : Type} (f : Nat → Nat → α) (i : Nat) : prGP f i 0 = prGL f i := by simp [prGP]
theorem prGP_next {α : Type} (f : Nat → Nat → α) (i j : Nat) : prGP f i (j + 1) = prGP f i j ++ [f i j] := by
  unfold prGP
  rw [List.range_succ, List.map_append, List.append_assoc]
  rfl
theorem prGP_row {α : Type} (f : Nat → Nat → α) (i : Nat) : prGP f i i = prGP f (i + 1) 0 := by
  rw [prGP_zero]
  unfold prGP prGL
  rw [List.range_succ, List.flatMap_append]
  simp
theorem prGL_mem {α : Type} {f : Nat → Nat → α} {n : Nat} {x : α} : x ∈ prGL f n ↔ ∃ i j, j < i ∧ i < n ∧ f i j = x := by
  unfold prGL
  rw [List.mem_flatMap]
  constructor
  · rintro ⟨i, hi, hx⟩
    obtain ⟨j, hj, rfl⟩ := List.mem_map.1 hx
    exact ⟨i, j, List.mem_range.1 hj, List.mem_range.1 hi, rfl⟩
  · rintro ⟨i, j, hj, hi, rfl⟩
    exact ⟨i, List.mem_range.2 hi, List.mem_map.2 ⟨j, List.mem_range.2 hj, rfl⟩⟩
/-- UnlGike: no two pairs have the same. -/
def UnlG {α : Type} (f : Nat → Nat → α) (n : Nat) : Prop := ∀ i j k m, j < i → i < n → m < k → k < n → f i j = f k m → i = k ∧ j = m
theorem prGL_nodup {α : Type} {f : Nat → Nat → α} : ∀ {n : Nat}, (prGL f n).Nodup ↔ UnlG f n
  | 0 => ⟨fun _ i j k m h1 h2 => by omega, fun _ => by simp [prGL]⟩
  | n + 1 => by
    rw [← prGP_zero, ← prGP_row]
    unfold prGP
    rw [List.nodup_append, prGL_nodup (n := n)]
    constructor
    · rintro ⟨h1, h2, h3⟩ i j k m hj hi hm hk e
      have hinj : ∀ a b, a < n → b < n → f n a = f n b → a = b := fun a b ha hb e => by
        rw [List.nodup_iff_pairwise_ne, List.pairwise_map] at h2
        have h2' := List.pairwise_iff_getElem.1 h2
        rcases Nat.lt_trichotomy a b with h | h | h
        · exact absurd e (by have := h2' a b (by simpa using ha) (by simpa using hb) h; rwa [List.getElem_range, List.getElem_range] at this)
        · exact h
        · exact absurd e.symm (by have := h2' b a (by simpa using hb) (by simpa using ha) h; rwa [List.getElem_range, List.getElem_range] at this)
      by_cases e1 : i = n
      · by_cases e2 : k = n
        · subst e1
          subst e2
          exact ⟨rfl, hinj j m hj hm e⟩
        · subst e1
          exact absurd e.symm (h3 (f k m) (prGL_mem.2 ⟨k, m, hm, by omega, rfl⟩) (f i j) (List.mem_map.2 ⟨j, List.mem_range.2 hj, rfl⟩))
      · by_cases e2 : k = n
        · subst e2
          exact absurd e (h3 (f i j) (prGL_mem.2 ⟨i, j, hj, by omega, rfl⟩) (f k m) (List.mem_map.2 ⟨m, List.mem_range.2 hm, rfl⟩))
        · exact h1 i j k m hj (by omega) hm (by omega) e
    · intro h
      refine ⟨fun i j k m hj hi hm hk e => h i j k m hj (by omega) hm (by omega) e, ?_, ?_⟩
      · rw [List.nodup_iff_pairwise_ne, List.pairwise_map]
        refine List.Pairwise.imp_of_mem (R := fun a b => a ≠ b) (fun {a b} ha hb hne e => ?_) List.nodup_range
        exact hne (h n a n b (List.mem_range.1 ha) (by omega) (List.mem_range.1 hb) (by omega) e).2
      · intro x hx y hy e
        obtain ⟨k, m, hm, hk, rfl⟩ := prGL_mem.1 hx
        obtain ⟨j, hj, rfl⟩ := List.mem_map.1 hy
        have := (h k m n j hm (by omega) (List.mem_range.1 hj) (by omega) e).1
        omega

/-- The gaps of a list, as they come. -/
def gpL (ap : Int → Int → Int × Int) (l : List Int) : List (Int × Int) := (List.range l.length).flatMap fun i => nwG ap (l.take i) (l.getD i 0)
theorem flat_congr {α β : Type} {f g : α → List β} : ∀ {l : List α}, (∀ x ∈ l, f x = g x) → l.flatMap f = l.flatMap g
  | [], _ => rfl
  | a :: l, h => by rw [List.flatMap_cons, List.flatMap_cons, h a (by simp), flat_congr fun x hx => h x (by simp [hx])]
theorem gpL_snoc (ap : Int → Int → Int × Int) (l : List Int) (x : Int) : gpL ap (l ++ [x]) = gpL ap l ++ nwG ap l x := by
  unfold gpL
  rw [List.length_append, List.length_singleton, List.range_succ, List.flatMap_append]
  congr 1
  · refine flat_congr fun i hi => ?_
    have hi := List.mem_range.1 hi
    rw [List.take_append_of_le_length (by omega), List.getD_eq_getElem?_getD, List.getElem?_append_left hi, ← List.getD_eq_getElem?_getD]
  · simp
theorem gpL_pr (ap : Int → Int → Int × Int) (l : List Int) : gpL ap l = prGL (fun i j => ap ((i : Int) - (j : Int)) (l.getD i 0 - l.getD j 0)) l.length := by
  unfold gpL prGL
  refine flat_congr fun i hi => ?_
  have hi := List.mem_range.1 hi
  unfold nwG
  have e : (l.take i).length = i := by rw [List.length_take]; omega
  rw [e]
  refine List.map_congr_left fun j hj => ?_
  have hj := List.mem_range.1 hj
  rw [List.getD_eq_getElem?_getD (l := l.take i), List.getElem?_take, if_pos hj, ← List.getD_eq_getElem?_getD]
theorem gpL_len (ap : Int → Int → Int × Int) (l : List Int) : (gpL ap l).length ≤ l.length * l.length := by
  rw [gpL_pr]
  generalize l.length = n
  induction n with
  | zero => simp [prGL]
  | succ n ih =>
    rw [← prGP_zero, ← prGP_row]
    unfold prGP
    rw [List.length_append, List.length_map, List.length_range]
    have : (n + 1) * (n + 1) = n * n + 2 * n + 1 := by rw [Nat.add_mul, Nat.mul_add]; omega
    omega
/-- How often each gap of a list is there. -/
def TG (ap : Int → Int → Int × Int) (l : List Int) : Int × Int → Int := upT (fun _ => 0) (gpL ap l)
theorem TG_nil (ap : Int → Int → Int × Int) : TG ap [] = fun _ => 0 := by funext c; simp [TG, upT, gpL]
theorem TG_snoc (ap : Int → Int → Int × Int) (l : List Int) (x : Int) : upT (TG ap l) (nwG ap l x) = TG ap (l ++ [x]) := by
  funext c
  unfold TG
  rw [← upT_app, gpL_snoc]
theorem TG_bd (ap : Int → Int → Int × Int) {l : List Int} (h : l.length ≤ 60) (c : Int × Int) : 0 ≤ TG ap l c ∧ TG ap l c ≤ 100000 := by
  have h1 := gpL_len ap l
  have h2 := List.count_le_length (a := c) (l := gpL ap l)
  have h3 : l.length * l.length ≤ 60 * 60 := Nat.mul_le_mul h h
  show 0 ≤ (0 : Int) + ((gpL ap l).count c : Int) ∧ (0 : Int) + ((gpL ap l).count c : Int) ≤ 100000
  omega
theorem ft_nodup {G L : List (Int × Int)} (hG : G.Nodup) : ∀ i, i ≤ L.length → (ftB (upT (fun _ => 0) G) L i = true ↔ (G ++ L.take i).Nodup)
  | 0, _ => by simp [ftB, hG]
  | i + 1, hi => by
    have ih := ft_nodup hG (L := L) i (by omega)
    unfold ftB
    rw [Bool.and_eq_true, ih, take_upG (by omega), ← List.append_assoc, List.nodup_append (l₁ := G ++ L.take i), beq_iff_eq]
    rw [← upT_app]
    unfold upT
    refine and_congr_right fun _ => ?_
    constructor
    · intro h
      have h' : (0 : Int) + ((G ++ L.take i).count (L.getD i (0, 0)) : Int) = 0 := h
      have h0 : (G ++ L.take i).count (L.getD i (0, 0)) = 0 := by omega
      refine ⟨by simp, fun a ha b hb e => ?_⟩
      obtain rfl := List.mem_singleton.1 hb
      subst e
      exact absurd ha (List.count_eq_zero.1 h0)
    · rintro ⟨_, h⟩
      rw [List.count_eq_zero.2 fun hm => h _ hm _ (by simp) rfl]
      rfl
theorem ft_all {ap : Int → Int → Int × Int} {l : List Int} {x : Int} (hG : (gpL ap l).Nodup) : ftB (TG ap l) (nwG ap l x) l.length = decide (gpL ap (l ++ [x])).Nodup := by
  have h := ft_nodup hG (L := nwG ap l x) l.length (by rw [nwG_len]; exact Nat.le_refl _)
  rw [List.take_of_length_le (by rw [nwG_len]; exact Nat.le_refl _), ← gpL_snoc] at h
  rw [Bool.eq_iff_iff, decide_eq_true_eq]
  exact h
def apM : Int → Int → Int × Int := fun _ b => (0, b)
def apB : Int → Int → Int × Int := fun a b => (a, b)
theorem getD_of (l : List Nat) (i : Nat) : (l.map Int.ofNat).getD i 0 = ((l.getD i 0 : Nat) : Int) := by
  rw [List.getD_eq_getElem?_getD, List.getElem?_map, List.getD_eq_getElem?_getD]
  cases l[i]? <;> rfl
theorem gp_gol (l : List Nat) : decide (gpL apM (l.map Int.ofNat)).Nodup = golB l := by
  rw [Bool.eq_iff_iff, decide_eq_true_eq, golB_iff, gpL_pr, prGL_nodup, List.length_map]
  unfold UnlG Unl apM gdF
  simp only [getD_of, Prod.mk.injEq, true_and]
theorem gp_cos (l : List Nat) : decide (gpL apB (l.map Int.ofNat)).Nodup = cosB l.length fun i => l.getD i 0 := by
  rw [Bool.eq_iff_iff, decide_eq_true_eq, cosB_two, gpL_pr, prGL_nodup, List.length_map]
  unfold UnlG Cos2 apB
  simp only [getD_of, Prod.mk.injEq]
  constructor
  · intro h i j k m hij hj hkm hm hd e
    have := h j i m k hij hj hkm hm ⟨by omega, e⟩
    exact ⟨this.2, this.1⟩
  · rintro h i j k m hj hi hm hk ⟨hd, e⟩
    have := h j i m k hj hi hm hk (by omega) e
    exact ⟨this.2, this.1⟩
theorem put_row (ap : Int → Int → Int × Int) (base g m f n : Nat) (l : List Int) (x : Int) (w : World) (hA : ApF f ap) (hR : RowS w base g m f l (TG ap l) n) (hG : (gpL ap l).Nodup)
    (hx : 0 ≤ x ∧ x ≤ 1000000000) (hl : ∀ i, i < l.length → 0 ≤ l.getD i 0 ∧ l.getD i 0 ≤ 1000000000) (h60 : l.length ≤ 60) (hn : n ≤ 1000000000000000000) :
    Calls Tryd.prog 39 #[.pointer (some ⟨g, 0, none⟩), .int .i64 x] w fun e w' => e = .returned (.bool (decide (gpL ap (l ++ [x])).Nodup)) ∧ RowS w' base g m f (l ++ [x]) (TG ap (l ++ [x])) (n + l.length) ∧ Kr base g w w' := by
  rw [← ft_all hG, ← TG_snoc]
  exact put_any ap base g m f n l _ x w hA hR hx hl h60 (TG_bd ap h60) hn
theorem drop_row (ap : Int → Int → Int × Int) (base g m f n : Nat) (l : List Int) (x : Int) (w : World) (hA : ApF f ap) (hR : RowS w base g m f (l ++ [x]) (TG ap (l ++ [x])) n)
    (hx : 0 ≤ x ∧ x ≤ 1000000000) (hl : ∀ i, i < l.length → 0 ≤ l.getD i 0 ∧ l.getD i 0 ≤ 1000000000) (h60 : l.length ≤ 60) (hn : n ≤ 1000000000000000000) :
    Calls Tryd.prog 46 #[.pointer (some ⟨g, 0, none⟩)] w fun e w' => e = .returned (.tuple #[]) ∧ RowS w' base g m f l (TG ap l) (n + l.length) ∧ Kr base g w w' := by
  rw [← TG_snoc] at hR
  exact drop_any ap base g m f n l _ x w hA hR hx hl h60 (TG_bd ap h60) hn

end Go.Proofs.YtmiinhbffiodmaaDoor

/- The walks of allUnlike and checkMarks, Check. -/
namespace Go.Proofs.YtmiinhbffiodmaaDoor
open Go.RowKit Go.Maps

theorem gpL_pre (ap : Int → Int → Int × Int) : ∀ (b a : List Int), ∃ R, gpL ap (a ++ b) = gpL ap a ++ R
  | [], a => ⟨[], by simp⟩
  | x :: b, a => by
    obtain ⟨R, h⟩ := gpL_pre ap b (a ++ [x])
    exact ⟨nwG ap a x ++ R, by rw [show a ++ x :: b = (a ++ [x]) ++ b by simp, h, gpL_snoc, List.append_assoc]⟩
theorem gpL_take {ap : Int → Int → Int × Int} {l : List Int} {i : Nat} (h : ¬ (gpL ap (l.take i)).Nodup) : decide (gpL ap l).Nodup = false := by
  obtain ⟨R, e⟩ := gpL_pre ap (l.drop i) (l.take i)
  rw [List.take_append_drop] at e
  rw [decide_eq_false_iff_not, e]
  exact fun hn => h (List.nodup_append.1 hn).1
theorem take_upZ {l : List Int} {i : Nat} (h : i < l.length) : l.take (i + 1) = l.take i ++ [l.getD i 0] := by
  rw [List.take_add_one, List.getElem?_eq_getElem h, List.getD_eq_getElem?_getD, List.getElem?_eq_getElem h]; rfl
set_option maxRecDepth 100000 in
set_option maxHeartbeats 4000000 in
theorem allUnlike_any (f : Nat) (ap : Int → Int → Int × Int) (l : List Int) (u : Value) (w : World) (hA : ApF f ap) (hu : Sl w u l) (h60 : l.length ≤ 60) (hb : ∀ i, i < l.length → 0 ≤ l.getD i 0 ∧ l.getD i 0 ≤ 1000000000) :
    Calls Tryd.prog 21 #[u, .func (.func f) #[] #[]] w fun e w' => e = .returned (.bool (decide (gpL ap l).Nodup)) ∧ Below w.heap.size w w' := by
  obtain ⟨ua, uc, rfl, hub⟩ := hu
  have HUB : Hid (∀ j, j < l.length → ∃ g o, ua = some ⟨g, o, none⟩ ∧ ∀ W, Below w.heap.size w W → W.cell? ⟨g, o + j, none⟩ = some (.int .i64 (l.getD j 0))) := fun j hj => by
    obtain ⟨g, o, e, hc⟩ := hub j hj
    exact ⟨g, o, e, fun W bW => (bW.cell (World.block_lt_of_cell? _ _ hc)).trans hc⟩
  obtain ⟨B, HB⟩ : ∃ B, Hid (w.heap.size = B) := ⟨_, rfl⟩
  have HNEW : Hid (Calls Tryd.prog 38 #[.func (.func f) #[] #[]] w fun e w' => e = .returned (.pointer (some ⟨B + 1, 0, none⟩)) ∧ RowS w' B (B + 1) B f [] (TG ap []) 0 ∧ Below B w w') := by
    show Calls _ _ _ _ _
    rw [TG_nil, ← HB.out]
    exact newRow_any f w
  have HPUT : Hid (∀ (i : Nat) (W : World), i < l.length → RowS W B (B + 1) B f (l.take i) (TG ap (l.take i)) (i * 60) → (gpL ap (l.take i)).Nodup → Calls Tryd.prog 39 #[.pointer (some ⟨B + 1, 0, none⟩), .int .i64 (l.getD i 0)] W fun e w' => e = .returned (.bool (decide (gpL ap (l.take (i + 1))).Nodup)) ∧ RowS w' B (B + 1) B f (l.take (i + 1)) (TG ap (l.take (i + 1))) ((i + 1) * 60) ∧ Below B W w') := fun i W hi hR hG => by
    have hlen : (l.take i).length = i := by rw [List.length_take]; omega
    rw [take_upZ hi]
    refine (put_row ap B (B + 1) B f _ (l.take i) (l.getD i 0) W hA hR hG (hb i hi) (fun j hj => ?_) (by omega) (by omega)).mono ?_
    · rw [hlen] at hj
      rw [List.getD_eq_getElem?_getD, List.getElem?_take, if_pos hj, ← List.getD_eq_getElem?_getD]
      exact hb j (by omega)
    · rintro e w' ⟨rfl, h1, h2⟩
      obtain ⟨D, h3, h4⟩ := h1.map
      exact ⟨rfl, ⟨h1.box, ⟨D, h3.mono (by rw [hlen]; omega), h4⟩, h1.bg, h1.bm⟩, h2.below⟩
  have HNO : Hid (∀ i, decide (gpL ap (l.take i)).Nodup = false → decide (gpL ap l).Nodup = false) := fun i h => gpL_take (by simpa using h)
  have HYES : Hid (∀ i, ¬ i < l.length → (gpL ap (l.take i)).Nodup → decide (gpL ap l).Nodup = true) := fun i h hn => by
    rw [List.take_of_length_le (by omega)] at hn
    exact decide_eq_true hn
  obtain ⟨z, Hz⟩ : ∃ z, Hid (decide (gpL ap l).Nodup = z) := ⟨_, rfl⟩
  rw [Hz.out] at HNO HYES ⊢
  rw [HB.out]
  have HBW : Hid (∀ W, Below B w W → Below w.heap.size w W) := fun W h => by rw [HB.out]; exact h
  have h00 : Hid ((gpL ap (l.take 0)).Nodup) := (show (gpL ap (l.take 0)).Nodup by simp [gpL])
  generalize hn : l.length = n at *
  clear hub hA
  go_enter Tryd.func21, Tryd.ntmps21
  go_wp2_with (go_at_call 38; refine HNEW.out.mono ?_; rintro e w1 ⟨rfl, hR1, hB1⟩; clear HNEW)
  go_loopw [12] (fun iv wr => ∃ i : Nat, iv = .int .i64 (i : Int) ∧ i ≤ n ∧ Hid (RowS wr B (B + 1) B f (l.take i) (TG ap (l.take i)) (i * 60)) ∧ Hid ((gpL ap (l.take i)).Nodup) ∧ Hid (Below B w wr)) (fun iv _ => (n - intOf iv).toNat)
  case atStart => exact ⟨0, rfl, by omega, hR1, h00, hB1⟩
  case round =>
    clear hR1 hB1 h00
    obtain ⟨i, rfl, hi, HR, HG, HBr⟩ := hrel
    by_cases hlt : i < n
    · have hdi : decide ((i : Int) < (n : Int)) = true := by simp; omega
      have hii : (i : Int) < (n : Int) := by omega
      obtain ⟨g, o, rfl, hc0⟩ := HUB.out i hlt
      have hc := hc0 _ (HBW.out _ HBr.out)
      have C := HPUT.out i wr hlt HR.out HG.out
      have hno := HNO.out (i + 1)
      obtain ⟨x, Hx⟩ : ∃ x, Hid (l.getD i 0 = x) := ⟨_, rfl⟩
      rw [Hx.out] at hc C
      obtain ⟨fz, Hfz⟩ : ∃ fz, Hid (decide (gpL ap (l.take (i + 1))).Nodup = fz) := ⟨_, rfl⟩
      rw [Hfz.out] at C hno
      clear hc0
      cases fz
      · obtain rfl := hno rfl
        clear hno
        go_wp2_with (go_at_call 39; refine C.mono ?_; rintro e w2 ⟨rfl, hR2, hB2⟩; clear C)
        go_ret
        exact ⟨rfl, HBr.out.trans hB2⟩
      · have HG2 : Hid ((gpL ap (l.take (i + 1))).Nodup) := (show (gpL ap (l.take (i + 1))).Nodup from of_decide_eq_true Hfz.out)
        clear hno
        go_wp2_with (go_at_call 39; refine C.mono ?_; rintro e w2 ⟨rfl, hR2, hB2⟩; clear C)
        go_roundw
        case rel => exact ⟨i + 1, by go_num, by omega, hR2, HG2, HBr.out.trans hB2⟩
        case measure => simp [intOf]; omega
    · have hdi : decide ((i : Int) < (n : Int)) = false := by simp; omega
      obtain rfl := HYES.out i hlt HG.out
      go_wp2
      go_ret
      exact ⟨rfl, HBr.out⟩

set_option maxHeartbeats 4000000 in
theorem checkMarks_far (u : Value) (w : World) (n c : Nat) (a : Option Addr) (hu : u = .slice a n c) (h : 60 < n) : Calls Tryd.prog 31 #[u] w fun e w' => e = .returned (.int .i64 3) ∧ Below w.heap.size w w' := by
  subst hu
  have d1 : decide (60 < (n : Int)) = true := by simp; omega
  have d2 : 60 < (n : Int) := by omega
  go_enter Tryd.func31, Tryd.ntmps31
  go_wp2
  go_ret
  exact ⟨rfl, Below.refl _ _⟩
set_option maxRecDepth 100000 in
set_option maxHeartbeats 8000000 in
theorem checkMarks_near (b : List Int) (u : Value) (w : World) (hu : Sl w u b) (h60 : b.length ≤ 60) :
    Calls Tryd.prog 31 #[u] w fun e w' => e = .returned (.int .i64 (mF b : Int)) ∧ Below w.heap.size w w' := by
  obtain ⟨ua, uc, rfl, hub⟩ := hu
  have HUB : Hid (∀ j, j < b.length → ∃ g o, ua = some ⟨g, o, none⟩ ∧ ∀ W, Below w.heap.size w W → W.cell? ⟨g, o + j, none⟩ = some (.int .i64 (b.getD j 0))) := fun j hj => by
    obtain ⟨g, o, e, hc⟩ := hub j hj
    exact ⟨g, o, e, fun W bW => (bW.cell (World.block_lt_of_cell? _ _ hc)).trans hc⟩
  obtain ⟨w1, Hw1⟩ : ∃ w1 : World, Hid (w1 = w) := ⟨_, rfl⟩
  rw [← Hw1.out] at HUB
  have HO : Hid (∀ j, j < b.length → ¬ (0 ≤ b.getD j 0 ∧ b.getD j 0 < 1000000001) → mF b = 1) := fun j hj h => mF_out h60 hj h
  have HF : Hid ((∀ j, j < b.length → 0 ≤ b.getD j 0 ∧ b.getD j 0 < 1000000001) → 0 < b.length → b.getD 0 0 ≠ 0 → mF b = 2) := fun h h0 hn => mF_first h60 h h0 hn
  have HL : Hid ((∀ j, j < b.length → 0 ≤ b.getD j 0 ∧ b.getD j 0 < 1000000001) → ∀ j, 1 ≤ j → j < b.length → b.getD j 0 ≤ b.getD (j - 1) 0 → mF b = 2) := fun h j h1 hj hf => mF_fall h60 h h1 hj hf
  have HZZ : Hid ((∀ j, j < b.length → 0 ≤ b.getD j 0 ∧ b.getD j 0 < 1000000001) → (0 < b.length → b.getD 0 0 = 0) → (∀ j, 1 ≤ j → j < b.length → b.getD (j - 1) 0 < b.getD j 0) → mF b = 0) := fun h h0 hr => mF_zero h60 h h0 hr
  obtain ⟨z, HZ⟩ : ∃ z, Hid (mF b = z) := ⟨_, rfl⟩
  rw [HZ.out] at HO HF HL HZZ ⊢
  generalize hbn : b.length = bn at *
  have d1 : decide (60 < (bn : Int)) = false := by simp; omega
  have d2 : ¬ 60 < (bn : Int) := by omega
  clear hub
  go_enter Tryd.func31, Tryd.ntmps31
  go_wp2
  go_loopw [12] (fun jv wr' => ∃ j : Nat, jv = .int .i64 (j : Int) ∧ j ≤ bn ∧ Hid (∀ m, m < j → 0 ≤ b.getD m 0 ∧ b.getD m 0 < 1000000001) ∧ Below w1.heap.size w1 wr') (fun jv _ => (bn - intOf jv).toNat)
  case atStart => exact ⟨0, rfl, by omega, (show ∀ m, m < 0 → _ from fun m h => by omega), by rw [Hw1.out]; exact Below.refl _ _⟩
  case round =>
    obtain ⟨j, rfl, hj, HJ, hB2⟩ := hrel
    by_cases hlj : j < bn
    · have hdj : decide ((j : Int) < (bn : Int)) = true := by simp; omega
      have hji : (j : Int) < (bn : Int) := by omega
      obtain ⟨g, o, rfl, hcj0⟩ := HUB.out j hlj
      have hcj := hcj0 _ hB2
      have hO := HO.out j hlj
      obtain ⟨x, Hx⟩ : ∃ x, Hid (x = b.getD j 0) := ⟨_, (rfl : b.getD j 0 = b.getD j 0)⟩
      rw [← Hx.out] at hcj hO
      by_cases hneg : x < 0
      · obtain rfl := hO (by omega)
        have hdx : decide (x < 0) = true := decide_eq_true hneg
        clear hneg hO hcj0 HO HF HL HZZ
        go_wp2
        go_ret
        exact ⟨rfl, by rw [← Hw1.out]; exact hB2⟩
      · have hdx : decide (x < 0) = false := decide_eq_false hneg
        by_cases hge : 1000000000 < x
        · obtain rfl := hO (by omega)
          have hdx2 : decide (1000000000 < x) = true := decide_eq_true hge
          clear hneg hge hO hcj0 HO HF HL HZZ
          go_wp2
          go_ret
          exact ⟨rfl, by rw [← Hw1.out]; exact hB2⟩
        · have hdx2 : decide (1000000000 < x) = false := decide_eq_false hge
          have HJ2 : Hid (∀ m, m < j + 1 → 0 ≤ b.getD m 0 ∧ b.getD m 0 < 1000000001) := fun m hm => by
            by_cases e : m = j
            · subst e; rw [← Hx.out]; omega
            · exact HJ.out m (by omega)
          clear hneg hge HJ hcj0 hO HO HF HL HZZ
          go_wp2
          go_roundw
          case rel => exact ⟨j + 1, by go_num, by omega, HJ2, hB2⟩
          case measure => simp [intOf]; omega
    · have hdj : decide ((j : Int) < (bn : Int)) = false := by simp; omega
      obtain rfl : j = bn := by omega
      have HF' : Hid (0 < j → b.getD 0 0 ≠ 0 → z = 2) := fun h1 h2 => HF.out HJ.out h1 h2
      have HL' : Hid (∀ k, 1 ≤ k → k < j → b.getD k 0 ≤ b.getD (k - 1) 0 → z = 2) := fun k h1 h2 h3 => HL.out HJ.out k h1 h2 h3
      have HZ' : Hid ((0 < j → b.getD 0 0 = 0) → (∀ k, 1 ≤ k → k < j → b.getD (k - 1) 0 < b.getD k 0) → z = 0) := fun h1 h2 => HZZ.out HJ.out h1 h2
      clear hlj HO HF HL HZZ HJ
      go_wp2
      go_loopw [25] (fun jv wr' => ∃ k : Nat, jv = .int .i64 (k : Int) ∧ k ≤ j ∧ Hid (0 < k → b.getD 0 0 = 0) ∧ Hid (∀ m, 1 ≤ m → m < k → b.getD (m - 1) 0 < b.getD m 0) ∧ Below w1.heap.size w1 wr') (fun jv _ => (j - intOf jv).toNat)
      case atStart => exact ⟨0, rfl, by omega, (show 0 < 0 → _ from fun h => by omega), (show ∀ m, 1 ≤ m → m < 0 → _ from fun m h h' => by omega), hB2⟩
      case round =>
        clear hB2
        obtain ⟨k, rfl, hkj, HK0, HK, hB3⟩ := hrel
        by_cases hlk : k < j
        · have hdk : decide ((k : Int) < (j : Int)) = true := by simp; omega
          have hki : (k : Int) < (j : Int) := by omega
          by_cases hk0 : k = 0
          · subst hk0
            obtain ⟨g, o, rfl, hc0⟩ := HUB.out 0 hlk
            have hck := hc0 _ hB3
            rw [Nat.add_zero] at hck
            have hF := HF'.out hlk
            obtain ⟨x, Hx⟩ : ∃ x, Hid (b.getD 0 0 = x) := ⟨_, rfl⟩
            rw [Hx.out] at hck hF
            clear hc0
            by_cases hx : x = 0
            · subst hx
              have HK2 : Hid (0 < 0 + 1 → b.getD 0 0 = 0) := fun _ => Hx.out
              have HK3 : Hid (∀ m, 1 ≤ m → m < 0 + 1 → b.getD (m - 1) 0 < b.getD m 0) := fun m h1 h2 => by omega
              clear HK0 HK hF HF' HL' HZ'
              go_wp2
              go_roundw
              case rel => exact ⟨0 + 1, by go_num, by omega, HK2, HK3, hB3⟩
              case measure => simp [intOf]; omega
            · obtain rfl := hF hx
              have e2 : (x != 0) = true := by simpa using hx
              clear HK0 HK hF HF' HL' HZ'
              go_wp2
              go_ret
              exact ⟨rfl, by rw [← Hw1.out]; exact hB3⟩
          · obtain ⟨k', Hk'⟩ : ∃ k', Hid (k = k' + 1) := ⟨k - 1, (by omega : k = k - 1 + 1)⟩
            have hsub : (k : Int) - 1 = (k' : Int) := by have := Hk'.out; omega
            have hk'i : (k' : Int) < (j : Int) := by have := Hk'.out; omega
            have hk0i : ¬ (k : Int) = 0 := by omega
            have hk0b : ((k : Int) == 0) = false := by simpa using hk0i
            have hkp : decide ((0 : Int) < (k : Int)) = true := by simp; omega
            have hkp2 : (0 : Int) < (k : Int) := by omega
            have hkp3 : 0 < k := by omega
            obtain ⟨g, o, rfl, hc0⟩ := HUB.out k hlk
            obtain ⟨g2, o2, e2, hc1⟩ := HUB.out k' (by have := Hk'.out; omega)
            obtain ⟨rfl, rfl⟩ : g = g2 ∧ o = o2 := by
              simp only [Option.some.injEq, Addr.mk.injEq] at e2
              exact ⟨e2.1, e2.2.1⟩
            have hck := hc0 _ hB3
            have hck' := hc1 _ hB3
            have hL := HL'.out k (by omega) hlk
            rw [show k - 1 = k' by have := Hk'.out; omega] at hL
            obtain ⟨x, Hx⟩ : ∃ x, Hid (x = b.getD k 0) := ⟨_, (rfl : b.getD k 0 = b.getD k 0)⟩
            obtain ⟨y, Hy⟩ : ∃ y, Hid (y = b.getD k' 0) := ⟨_, (rfl : b.getD k' 0 = b.getD k' 0)⟩
            rw [← Hx.out] at hck hL
            rw [← Hy.out] at hck' hL
            clear e2 hc0 hc1
            by_cases hle : x ≤ y
            · obtain rfl := hL hle
              have hdx : decide (x ≤ y) = true := decide_eq_true hle
              clear hle hL HF' HL' HZ' HK HK0
              go_wp2
              go_ret
              exact ⟨rfl, by rw [← Hw1.out]; exact hB3⟩
            · have hdx : decide (x ≤ y) = false := decide_eq_false hle
              have HK2 : Hid (∀ m, 1 ≤ m → m < k + 1 → b.getD (m - 1) 0 < b.getD m 0) := fun m h1 h2 => by
                by_cases e : m = k
                · subst e; rw [show m - 1 = k' by have := Hk'.out; omega, ← Hx.out, ← Hy.out]; omega
                · exact HK.out m h1 (by omega)
              have HK4 : Hid (0 < k + 1 → b.getD 0 0 = 0) := fun _ => HK0.out (by omega)
              clear hle HK hL HF' HL' HZ' HK0
              go_wp2
              go_roundw
              case rel => exact ⟨k + 1, by go_num, by omega, HK4, HK2, hB3⟩
              case measure => simp [intOf]; omega
        · have hdk : decide ((k : Int) < (j : Int)) = false := by simp; omega
          obtain rfl : k = j := by omega
          obtain rfl := HZ'.out HK0.out HK.out
          go_wp2
          go_ret
          exact ⟨rfl, by rw [← Hw1.out]; exact hB3⟩
theorem checkMarks_any (b : List Int) (u : Value) (w : World) (hu : Sl w u b) :
    Calls Tryd.prog 31 #[u] w fun e w' => e = .returned (.int .i64 (mF b : Int)) ∧ Below w.heap.size w w' := by
  by_cases h : 60 < b.length
  · rw [show mF b = 3 from if_pos h]
    obtain ⟨a, c, rfl, _⟩ := hu
    exact checkMarks_far _ w _ c a rfl h
  · exact checkMarks_near b u w hu (by omega)


theorem bF_01 (p : Int) (b : List Int) : bF p b = 0 ∨ bF p b = 1 ∨ bF p b = 2 := by
  unfold bF
  repeat' split
  all_goals simp
theorem mF_3 (l : List Int) : mF l ≤ 3 := by
  unfold mF
  repeat' split
  all_goals omega
theorem good_bd {D : List Nat} (h : GoodM D) : ∀ i, i < (D.map Int.ofNat).length → 0 ≤ (D.map Int.ofNat).getD i 0 ∧ (D.map Int.ofNat).getD i 0 ≤ 1000000000 := fun i hi => by
  rw [List.length_map] at hi
  have hm : D.getD i 0 ∈ D := by rw [List.getD_eq_getElem?_getD, List.getElem?_eq_getElem hi]; exact List.getElem_mem hi
  have := h.le _ hm
  rw [getD_of]
  omega
set_option maxRecDepth 100000 in
set_option maxHeartbeats 4000000 in
theorem Check_bad (b : List Int) (u : Value) (w : World) (hu : Sl w u b) (hm : mF b ≠ 0) :
    Calls Tryd.prog 17 #[u] w fun e w' => e = .returned (.tuple #[.bool false, .int .i64 (mF b : Int)]) ∧ Below w.heap.size w w' := by
  have C := checkMarks_any b u w hu
  obtain ⟨z, Hz⟩ : ∃ z, Hid (mF b = z) := ⟨_, rfl⟩
  rw [Hz.out] at C hm ⊢
  have hz : ((z : Int) != 0) = true := by simpa using hm
  have hz2 : ¬ (z : Int) = 0 := by omega
  clear hu
  go_enter Tryd.func17, Tryd.ntmps17
  go_wp2_with (go_at_call 31; refine C.mono ?_; rintro e w1 ⟨rfl, b1⟩; clear C)
  exact bodyPost_ret (v := .tuple #[.bool false, .int .i64 (z : Int)]) (by simp [results, Tryd.results17, go_sem]) rfl ⟨rfl, b1⟩
set_option maxRecDepth 100000 in
set_option maxHeartbeats 4000000 in
theorem Check_good (D : List Nat) (u : Value) (w : World) (hu : Sl w u (D.map Int.ofNat)) (hD : GoodM D) (hm : mF (D.map Int.ofNat) = 0) :
    Calls Tryd.prog 17 #[u] w fun e w' => e = .returned (.tuple #[.bool (golB D), .int .i64 0]) ∧ Below w.heap.size w w' := by
  have C := checkMarks_any _ u w hu
  rw [hm] at C
  have HC : Hid (∀ W, Below w.heap.size w W → Calls Tryd.prog 21 #[u, .func (.func 32) #[] #[]] W fun e w' => e = .returned (.bool (golB D)) ∧ Below W.heap.size W w') := fun W hW => by
    have h := allUnlike_any 32 apM _ u W byMuch_ap (hu.below hW) (by rw [List.length_map]; exact hD.few) (good_bd hD)
    rw [gp_gol] at h
    exact h
  clear hu hm
  go_enter Tryd.func17, Tryd.ntmps17
  go_wp2_with (first
    | (go_at_call 31; refine C.mono ?_; rintro e w1 ⟨rfl, b1⟩; clear C)
    | (go_at_call 21; refine (HC.out _ b1).mono ?_; rintro e w2 ⟨rfl, b2⟩))
  exact bodyPost_ret (v := .tuple #[.bool (golB D), .int .i64 0]) (by simp [results, Tryd.results17, go_sem]) rfl ⟨rfl, Below.next b1 b2⟩

end Go.Proofs.YtmiinhbffiodmaaDoor

namespace Go.Proofs.YtmiinhbffiodmaaDoor
open Go.RowKit Go.Maps

theorem undN : Tryd.prog.underlying 66 = some (.map 3 3) := by kernel_rfl
theorem law3 : Keyed Tryd.prog 3 := int_keyed und3
/-- The pairs that have come: those of the rows below i, and j of the i-th. -/
def Bf (n i j a b : Nat) : Prop := a ≤ b ∧ b < n ∧ (a < i ∨ (a = i ∧ b < i + j))
/-- What has come has come once; T tells what. -/
def SumI (s : Nat → Nat → Nat) (n i j : Nat) (T : Nat → Int) : Prop := (∀ c, T c = 0 ∨ T c = 1) ∧ (∀ c, T c = 1 ↔ ∃ a b, Bf n i j a b ∧ s a b = c) ∧ ∀ a b c d, Bf n i j a b → Bf n i j c d → s a b = s c d → a = c ∧ b = d
theorem SumI.start (s : Nat → Nat → Nat) (n : Nat) : SumI s n 0 0 (fun _ => 0) := by
  refine ⟨fun _ => .inl rfl, fun c => ⟨fun h => ?_, fun h => ?_⟩, fun a b c d h => ?_⟩
  · have h : (0 : Int) = 1 := h
    omega
  · obtain ⟨a, b, ⟨h1, h2, h3⟩, _⟩ := h
    omega
  · obtain ⟨h1, h2, h3⟩ := h
    omega
theorem SumI.next {s : Nat → Nat → Nat} {n i j : Nat} {T : Nat → Int} (h : SumI s n i j T) (hj : i + j < n) (h0 : T (s i (i + j)) = 0) : SumI s n i (j + 1) (fun c => if c = s i (i + j) then 1 else T c) := by
  have hnew : ∀ a b, Bf n i (j + 1) a b → (a = i ∧ b = i + j) ∨ Bf n i j a b := fun a b ⟨h1, h2, h3⟩ => by
    by_cases e : a = i ∧ b = i + j
    · exact .inl e
    · exact .inr ⟨h1, h2, by omega⟩
  have hold : ∀ a b, Bf n i j a b → s a b ≠ s i (i + j) := fun a b hb e => by
    have := (h.2.1 (s i (i + j))).2 ⟨a, b, hb, e⟩
    omega
  refine ⟨fun c => ?_, fun c => ?_, fun a b c d ha hc e => ?_⟩
  · show (if c = s i (i + j) then (1 : Int) else T c) = 0 ∨ (if c = s i (i + j) then (1 : Int) else T c) = 1
    split
    · exact .inr rfl
    · exact h.1 c
  · show (if c = s i (i + j) then (1 : Int) else T c) = 1 ↔ _
    split
    · rename_i e
      exact ⟨fun _ => ⟨i, i + j, ⟨by omega, hj, .inr ⟨rfl, by omega⟩⟩, e.symm⟩, fun _ => rfl⟩
    · rename_i e
      rw [h.2.1 c]
      constructor
      · rintro ⟨a, b, ⟨h1, h2, h3⟩, e2⟩
        exact ⟨a, b, ⟨h1, h2, by omega⟩, e2⟩
      · rintro ⟨a, b, hb, e2⟩
        rcases hnew a b hb with ⟨rfl, rfl⟩ | hb'
        · exact absurd e2.symm e
        · exact ⟨a, b, hb', e2⟩
  · rcases hnew a b ha with ⟨rfl, rfl⟩ | ha' <;> rcases hnew c d hc with ⟨rfl, rfl⟩ | hc'
    · exact ⟨rfl, rfl⟩
    · exact absurd e.symm (hold c d hc')
    · exact absurd e (hold a b ha')
    · exact h.2.2 a b c d ha' hc' e
theorem SumI.row {s : Nat → Nat → Nat} {n i j : Nat} {T : Nat → Int} (h : SumI s n i j T) (hj : i + j = n) : SumI s n (i + 1) 0 T := by
  have e : ∀ a b, Bf n i j a b ↔ Bf n (i + 1) 0 a b := fun a b => by unfold Bf; omega
  refine ⟨h.1, fun c => ?_, fun a b c d ha hc => h.2.2 a b c d ((e a b).2 ha) ((e c d).2 hc)⟩
  rw [h.2.1 c]
  simp only [e]
/-- The sum of two of a set. -/
def smF (v : Nat) (l : List Nat) (a b : Nat) : Nat := (l.getD a 0 + l.getD b 0) % v
theorem sum_no {v : Nat} {l : List Nat} {i j : Nat} {T : Nat → Int} (h : SumI (smF v l) l.length i j T) (hj : i + j < l.length) (h1 : T (smF v l i (i + j)) ≠ 0) : sidB v l = false := by
  obtain ⟨a, b, ⟨k1, k2, k3⟩, e⟩ := (h.2.1 _).1 (by rcases h.1 (smF v l i (i + j)) with h0 | h0; exact absurd h0 h1; exact h0)
  cases hs : sidB v l with
  | false => rfl
  | true =>
    have hu := sidB_iff.1 hs
    have := hu (b + 1) a (i + j + 1) i (by omega) (by omega) (by omega) (by omega) (by
      unfold sdF
      rw [Nat.add_sub_cancel, Nat.add_sub_cancel, Nat.add_comm (l.getD b 0), Nat.add_comm (l.getD (i + j) 0)]
      exact congrArg Int.ofNat e)
    omega
theorem sum_yes {v : Nat} {l : List Nat} {T : Nat → Int} (h : SumI (smF v l) l.length l.length 0 T) : sidB v l = true := by
  refine sidB_iff.2 fun i j k m hj hi hm hk e => ?_
  obtain ⟨a, rfl⟩ : ∃ a, i = a + 1 := ⟨i - 1, by omega⟩
  obtain ⟨c, rfl⟩ : ∃ c, k = c + 1 := ⟨k - 1, by omega⟩
  unfold sdF at e
  rw [Nat.add_sub_cancel, Nat.add_sub_cancel] at e
  have := h.2.2 j a m c ⟨by omega, by omega, by omega⟩ ⟨by omega, by omega, by omega⟩ (by
    unfold smF
    rw [Nat.add_comm (l.getD j 0), Nat.add_comm (l.getD m 0)]
    exact Int.ofNat.inj e)
  omega
/-- What a map of sums reads as. -/
def SmIs (D : DataW Unit) (T : Nat → Int) : Prop := ∀ c : Nat, D.atKey (.int .i64 (c : Int)) (.lit (.int .i64 0)) = .lit (.int .i64 (T c))
theorem SmIs.empty : SmIs (.map []) (fun _ => 0) := fun c => by simp [DataW.atKey]
theorem SmIs.look {D : DataW Unit} {T : Nat → Int} (h : SmIs D T) {c : Nat} {x : Int} (hat : D.atKey (.int .i64 (c : Int)) (.lit (.int .i64 0)) = .lit (.int .i64 x)) : x = T c := by
  rw [h c] at hat
  simp only [DataW.lit.injEq, Lit.int.injEq, true_and] at hat
  exact hat.symm
theorem SmIs.put {D : DataW Unit} {T : Nat → Int} (h : SmIs D T) (hD : IsMap D) (c : Nat) (x : Int) : SmIs (D.put (.int .i64 (c : Int)) (.lit (.int .i64 x))) (fun d => if d = c then x else T d) := fun d => by
  have hk : WideAt.IsKeyLit (.int .i64 (c : Int)) := trivial
  by_cases e : d = c
  · subst e
    rw [atKey_put_same hD hk]
    simp
  · rw [atKey_put_other (by simp; omega), h d]
    simp [e]
theorem cut22 (b o i n k cap : Nat) (h : i < n) (hc : n ≤ cap) (hk : n = i + k) (W : World) : (Instr.sliceAt 22 (.slice (some ⟨b, o, none⟩) n cap) (some (.int .i64 (i : Int))) none none).run Tryd.prog W = .ok (.slice (some ⟨b, o + i, none⟩) k (cap - i)) W := by
  have h1 : (i : Int) ≤ (n : Int) := by omega
  have h2 : ¬ cap = i := by omega
  have h3 : n - i = k := by omega
  go_simp
  intro q
  omega
set_option maxRecDepth 100000 in
set_option maxHeartbeats 8000000 in
theorem sumsUnlike_any (v : Nat) (l : List Nat) (a : Option Addr) (cap : Nat) (w : World) (h1 : 1 ≤ v) (h60v : v ≤ 60) (hu : Sl w (.slice a l.length cap) (l.map Int.ofNat)) (hcap : l.length ≤ cap) (h60 : l.length ≤ 60) (hb : ∀ x ∈ l, x < v) :
    Calls Tryd.prog 34 #[.slice a l.length cap, .int .i64 (v : Int)] w fun e w' => e = .returned (.bool (sidB v l)) ∧ Below w.heap.size w w' := by
  have hmm := @run_makeMap Tryd.prog
  have HUB : Hid (∀ j, j < l.length → ∃ g o, a = some ⟨g, o, none⟩ ∧ ∀ W, Below w.heap.size w W → W.cell? ⟨g, o + j, none⟩ = some (.int .i64 ((l.getD j 0 : Nat) : Int))) := fun j hj => by
    obtain ⟨a', c', e', hub⟩ := hu
    rw [List.length_map] at hub
    simp only [Value.slice.injEq] at e'
    obtain ⟨g, o, e, hc⟩ := hub j hj
    rw [getD_of] at hc
    exact ⟨g, o, e'.1.trans e, fun W bW => (bW.cell (World.block_lt_of_cell? _ _ hc)).trans hc⟩
  have HV : Hid (∀ i, i < l.length → l.getD i 0 < v) := fun i hi => by
    rw [List.getD_eq_getElem?_getD, List.getElem?_eq_getElem hi]; exact hb _ (List.getElem_mem hi)
  have HNO : Hid (∀ (i j : Nat) (T : Nat → Int), SumI (smF v l) l.length i j T → i + j < l.length → T (smF v l i (i + j)) ≠ 0 → sidB v l = false) := fun i j T h hj h1 => sum_no h hj h1
  have HYES : Hid (∀ T, SumI (smF v l) l.length l.length 0 T → sidB v l = true) := fun T h => sum_yes h
  obtain ⟨z, Hz⟩ : ∃ z, Hid (sidB v l = z) := ⟨_, rfl⟩
  rw [Hz.out] at HNO HYES ⊢
  have hST := SumI.start (smF v l) l.length
  generalize hn : l.length = n at *
  obtain ⟨B, HB⟩ : ∃ B, Hid (w.heap.size = B) := ⟨_, rfl⟩
  have hv0 : ¬ (v : Int) = 0 := by omega
  have hv0' : ¬ v = 0 := by omega
  clear hu hb
  go_enter Tryd.func34, Tryd.ntmps34
  go_wp2
  go_loopw [14] (fun iv wr => ∃ (i : Nat) (D : DataW Unit) (T : Nat → Int), iv = .int .i64 (i : Int) ∧ i ≤ n ∧ wr.ownsMap Tryd.prog 3 (plainElem Tryd.prog 3) w.heap.size (i * 100) D ∧ Hid (SmIs D T) ∧ Hid (SumI (smF v l) n i 0 T) ∧ Below w.heap.size w wr) (fun iv _ => (n - intOf iv).toNat)
  case atStart =>
    exact ⟨0, .map [], _, rfl, by omega, (World.ownsMap_made _ _ _ _).mono (by omega), SmIs.empty, hST, balloc _ _⟩
  case round =>
    clear hST
    obtain ⟨i, D, T, rfl, hi, hown, HT, HI, hB⟩ := hrel
    by_cases hlt : i < n
    · have hdi : decide ((i : Int) < (n : Int)) = true := by simp; omega
      have hii : (i : Int) < (n : Int) := by omega
      obtain ⟨g, o, rfl, hc0⟩ := HUB.out i hlt
      have hc := hc0 _ hB
      have hxv := HV.out i hlt
      obtain ⟨k, Hk⟩ : ∃ k, Hid (n = i + k) := ⟨n - i, (by omega : n = i + (n - i))⟩
      have hcut := cut22 g o i n k cap hlt hcap Hk.out
      have HCE : Hid (∀ j, j < k → ∀ W, Below w.heap.size w W → W.cell? ⟨g, o + i + j, none⟩ = some (.int .i64 ((l.getD (i + j) 0 : Nat) : Int))) := fun j hj W hW => by
        obtain ⟨g', o', e, h⟩ := HUB.out (i + j) (by have := Hk.out; omega)
        simp only [Option.some.injEq, Addr.mk.injEq] at e
        rw [e.1, e.2.1, Nat.add_assoc]
        exact h W hW
      have HSM : Hid (∀ j, smF v l i (i + j) = (l.getD i 0 + l.getD (i + j) 0) % v) := fun j => rfl
      obtain ⟨x, Hx⟩ : ∃ x, Hid (l.getD i 0 = x) := ⟨_, rfl⟩
      rw [Hx.out] at hc hxv HSM
      have hkb : k ≤ 60 := by have := Hk.out; omega
      clear hc0
      go_wp2
      go_loopw [23] (fun jv wr' => ∃ (j : Nat) (D : DataW Unit) (T : Nat → Int), jv = .int .i64 (j : Int) ∧ j ≤ k ∧ wr'.ownsMap Tryd.prog 3 (plainElem Tryd.prog 3) w.heap.size (i * 100 + j) D ∧ Hid (SmIs D T) ∧ Hid (SumI (smF v l) n i j T) ∧ Below w.heap.size w wr') (fun jv _ => (k - intOf jv).toNat)
      case atStart => exact ⟨0, D, T, rfl, by omega, hown, HT, HI, hB⟩
      case round =>
        clear hown HT HI hB hc hcut
        obtain ⟨j, D, T, rfl, hj, hown, HT, HI, hB⟩ := hrel
        by_cases hlj : j < k
        · have hdj : decide ((j : Int) < (k : Int)) = true := by simp; omega
          have hji : (j : Int) < (k : Int) := by omega
          have hcj := HCE.out j hlj _ hB
          have hyv := HV.out (i + j) (by have := Hk.out; omega)
          have hsm := HSM.out j
          obtain ⟨y, Hy⟩ : ∃ y, Hid (l.getD (i + j) 0 = y) := ⟨_, rfl⟩
          rw [Hy.out] at hcj hyv hsm
          have hno := HNO.out i j T HI.out (by have := Hk.out; omega)
          have hnx := HI.out.next (by have := Hk.out; omega)
          obtain ⟨s, Hs⟩ : ∃ s, Hid (smF v l i (i + j) = s) := ⟨_, rfl⟩
          rw [Hs.out] at hsm hno hnx
          have hrem : ((x : Int) + (y : Int)).tmod (v : Int) = (s : Int) := by rw [hsm]; rfl
          have hsv : s < v := by rw [hsm]; exact Nat.mod_lt _ (by omega)
          have hT1 := HI.out.1 s
          clear hsm
          by_cases ht0 : T s = 0
          · have HNX : Hid (SumI (smF v l) n i (j + 1) (fun c => if c = s then 1 else T c)) := hnx ht0
            have HT0 : Hid (T s = 0) := ht0
            clear hno hnx ht0 hT1
            go_wp2_with (first
              | (at_lookup; refine wpList_lookup_own_int _ rfl _ _ 66 rfl 3 3 .i64 law3 undN und3 (zero3' _) w.heap.size _ _ rfl hown4 _ _ rfl (keyOf_int_mk und3 (wfI (by omega) (by omega))) ?_; intro t2 hatt2 hwt2
                 obtain rfl : t2 = 1 := by rw [HT4.out.look hatt2]; simp
                 clear hatt2 hwt2)
              | (at_lookup; refine wpList_lookup_own_int _ rfl _ _ 66 rfl 3 3 .i64 law3 undN und3 (zero3' _) w.heap.size _ _ rfl hown _ _ rfl (keyOf_int_mk und3 (wfI (by omega) (by omega))) ?_; intro t hatt hwt
                 obtain rfl : t = 0 := (HT.out.look hatt).trans HT0.out
                 clear hatt hwt)
              | (at_mapUpdate; refine wpList_mapUpdate_own _ rfl _ _ _ 66 rfl 3 3 law3 undN _ w.heap.size _ _ rfl hown (by unfold maxLen; omega) _ _ _ rfl rfl (keyOf_int_mk und3 (wfI (by omega) (by omega))) _ [] (plainElem_int und3 (wfI (by omega) (by omega))) ?_; intro w4 hown4 hg4; go_frame
                 have hB4 : Below w.heap.size w w4 := hB.grown hg4 hB.size (fun j hj => by cases hj; exact Nat.le_refl _)
                 have HT4 : Hid (SmIs _ (fun c => if c = s then 1 else T c)) := HT.out.put hown.isMap s 1)
              | go_in)
            go_roundw
            case rel => exact ⟨j + 1, _, _, by go_num, by omega, hown4.mono (by omega), HT4, HNX, hB4⟩
            case measure => simp [intOf]; omega
          · have ht1 : T s = 1 := by omega
            have HT0 : Hid (T s = 1) := ht1
            obtain rfl := hno ht0
            clear hno hnx ht0 hT1 ht1
            go_wp2_with (first
              | (at_lookup; refine wpList_lookup_own_int _ rfl _ _ 66 rfl 3 3 .i64 law3 undN und3 (zero3' _) w.heap.size _ _ rfl hown4 _ _ rfl (keyOf_int_mk und3 (wfI (by omega) (by omega))) ?_; intro t2 hatt2 hwt2
                 obtain rfl : t2 = 2 := by rw [HT4.out.look hatt2]; simp
                 clear hatt2 hwt2)
              | (at_lookup; refine wpList_lookup_own_int _ rfl _ _ 66 rfl 3 3 .i64 law3 undN und3 (zero3' _) w.heap.size _ _ rfl hown _ _ rfl (keyOf_int_mk und3 (wfI (by omega) (by omega))) ?_; intro t hatt hwt
                 obtain rfl : t = 1 := (HT.out.look hatt).trans HT0.out
                 clear hatt hwt)
              | (at_mapUpdate; refine wpList_mapUpdate_own _ rfl _ _ _ 66 rfl 3 3 law3 undN _ w.heap.size _ _ rfl hown (by unfold maxLen; omega) _ _ _ rfl rfl (keyOf_int_mk und3 (wfI (by omega) (by omega))) _ [] (plainElem_int und3 (wfI (by omega) (by omega))) ?_; intro w4 hown4 hg4; go_frame
                 have hB4 : Below w.heap.size w w4 := hB.grown hg4 hB.size (fun j hj => by cases hj; exact Nat.le_refl _)
                 have HT4 : Hid (SmIs _ (fun c => if c = s then 2 else T c)) := HT.out.put hown.isMap s 2)
              | go_in)
            go_ret
            exact ⟨rfl, hB4⟩
        · have hdj : decide ((j : Int) < (k : Int)) = false := by simp; omega
          obtain rfl : j = k := by omega
          have HI2 : Hid (SumI (smF v l) n (i + 1) 0 T) := HI.out.row Hk.out.symm
          clear HI
          go_wp2
          go_roundw
          case rel => exact ⟨i + 1, D, T, by go_num, by omega, hown.mono (by omega), HT, HI2, hB⟩
          case measure => simp [intOf]; omega
    · have hdi : decide ((i : Int) < (n : Int)) = false := by simp; omega
      obtain rfl : i = n := by omega
      obtain rfl := HYES.out T HI.out
      go_wp2
      go_ret
      exact ⟨rfl, hB⟩

set_option maxRecDepth 100000 in
set_option maxHeartbeats 4000000 in
theorem Sidon_bad (p : Int) (b : List Int) (u : Value) (w : World) (hu : Sl w u b) (hbl : b.length ≤ maxLen) (hm : sF p b ≠ 0) :
    Calls Tryd.prog 18 #[u, .int .i64 p] w fun e w' => e = .returned (.tuple #[.bool false, .int .i64 (sF p b : Int)]) ∧ Below w.heap.size w w' := by
  have C := CheckS_any p b u w hu hbl
  obtain ⟨z, Hz⟩ : ∃ z, Hid (sF p b = z) := ⟨_, rfl⟩
  rw [Hz.out] at C hm ⊢
  have hz : ((z : Int) != 0) = true := by simpa using hm
  have hz2 : ¬ (z : Int) = 0 := by omega
  clear hu hbl
  go_enter Tryd.func18, Tryd.ntmps18
  go_wp2_with (go_at_call 33; refine C.mono ?_; rintro e w1 ⟨rfl, b1⟩; clear C)
  exact bodyPost_ret (v := .tuple #[.bool false, .int .i64 (z : Int)]) (by simp [results, Tryd.results18, go_sem]) rfl ⟨rfl, b1⟩
set_option maxRecDepth 100000 in
set_option maxHeartbeats 4000000 in
theorem Sidon_good (v : Nat) (D : List Nat) (a : Option Addr) (cap : Nat) (w : World) (hu : Sl w (.slice a D.length cap) (D.map Int.ofNat)) (hcap : D.length ≤ cap) (hD : GoodS v D) :
    Calls Tryd.prog 18 #[.slice a D.length cap, .int .i64 (v : Int)] w fun e w' => e = .returned (.tuple #[.bool (sidB v D), .int .i64 0]) ∧ Below w.heap.size w w' := by
  have hlen := hD.len
  have hle := hD.le
  have C := CheckS_any v _ _ w hu (by rw [List.length_map]; unfold maxLen; omega)
  rw [sF_of hD] at C
  have HC : Hid (∀ W, Below w.heap.size w W → Calls Tryd.prog 34 #[.slice a D.length cap, .int .i64 (v : Int)] W fun e w' => e = .returned (.bool (sidB v D)) ∧ Below W.heap.size W w') := fun W hW => sumsUnlike_any v D a cap W hD.pos hD.le (hu.below hW) hcap (by omega) hD.lt
  clear hu
  generalize D.length = n at *
  go_enter Tryd.func18, Tryd.ntmps18
  go_wp2_with (first
    | (go_at_call 33; refine C.mono ?_; rintro e w1 ⟨rfl, b1⟩; clear C)
    | (go_at_call 34; refine (HC.out _ b1).mono ?_; rintro e w2 ⟨rfl, b2⟩))
  exact bodyPost_ret (v := .tuple #[.bool (sidB v D), .int .i64 0]) (by simp [results, Tryd.results18, go_sem]) rfl ⟨rfl, Below.next b1 b2⟩

end Go.Proofs.YtmiinhbffiodmaaDoor
