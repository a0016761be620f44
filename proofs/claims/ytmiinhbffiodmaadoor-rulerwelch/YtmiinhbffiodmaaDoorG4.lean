/- The walk of drop: the last number away, with its gaps. -/
import Derived.Test.YtmiinhbffiodmaaDoorG3
namespace Go.Proofs.YtmiinhbffiodmaaDoor
open Go.RowKit Go.Maps

theorem upT_dp {T : Int × Int → Int} {L : List (Int × Int)} {i : Nat} (h : i < L.length) : upT T (L.drop (i + 1)) (L.getD i (0, 0)) = upT T (L.drop i) (L.getD i (0, 0)) - 1 ∧ ∀ d, d ≠ L.getD i (0, 0) → upT T (L.drop (i + 1)) d = upT T (L.drop i) d := by
  have e : L.drop i = L.getD i (0, 0) :: L.drop (i + 1) := by
    rw [List.drop_eq_getElem_cons h, List.getD_eq_getElem?_getD, List.getElem?_eq_getElem h]; rfl
  rw [e]
  refine ⟨?_, fun d hd => ?_⟩
  · unfold upT
    rw [List.count_cons_self]
    omega
  · unfold upT
    rw [List.count_cons_of_ne (fun h => hd h.symm)]
theorem upT_bd2 {T : Int × Int → Int} {L : List (Int × Int)} {i : Nat} (c : Int × Int) (hT : 0 ≤ T c ∧ T c ≤ 100000) (hL : L.length ≤ 100) : 0 ≤ upT T (L.drop i) c ∧ upT T (L.drop i) c ≤ 100100 := by
  have := List.count_le_length (a := c) (l := L.drop i)
  rw [List.length_drop] at this
  unfold upT
  omega
/-- The last number, and the numbers without it. -/
theorem own_last {w : World} {base k : Nat} {v : Value} {l : List Int} {x : Int} (h : w.ownsRow base 3 1 v (l ++ [x]).length ((l ++ [x]).map (Value.int .i64))) (hk : l.length = k) :
    ∃ b cap, v = .slice (some ⟨b, 0, none⟩) (k + 1) cap ∧ k + 1 ≤ cap ∧ w.cell? ⟨b, k, none⟩ = some (.int .i64 x) ∧ w.ownsRow base 3 1 (.slice (some ⟨b, 0, none⟩) k cap) l.length (l.map (Value.int .i64)) := by
  subst hk
  have hl2 : (l ++ [x]).length = l.length + 1 := by simp
  rw [hl2] at h
  obtain ⟨h1, ⟨h2, h3⟩ | ⟨b, c, cur, rfl, hb, hg, hc, hm, hs, ht⟩⟩ := h
  · omega
  · refine ⟨b, c, rfl, hc, ?_, by simp, .inr ⟨b, c, cur, rfl, hb, hg, by omega, hm, hs, ?_⟩⟩
    · have e2 : (cur.toList.take ((l.length + 1) * 1))[l.length]? = some (.int .i64 x) := by rw [ht]; simp
      rw [cell_of_row w b _ cur 3 (0, 0) hg, ← Array.getElem?_toList]
      rwa [List.getElem?_take, if_pos (by omega)] at e2
    · have e3 : (cur.toList.take ((l.length + 1) * 1)).take (l.length * 1) = ((l ++ [x]).map (Value.int .i64)).take (l.length * 1) := by rw [ht]
      rw [List.take_take, Nat.min_eq_left (by omega)] at e3
      rw [e3]
      simp

set_option maxRecDepth 100000 in
set_option maxHeartbeats 16000000 in
theorem drop_any (ap : Int → Int → Int × Int) (base g m f n : Nat) (l : List Int) (T : Int × Int → Int) (x : Int) (w : World) (hA : ApF f ap) (hR : RowS w base g m f (l ++ [x]) (upT T (nwG ap l x)) n)
    (hx : 0 ≤ x ∧ x ≤ 1000000000) (hl : ∀ i, i < l.length → 0 ≤ l.getD i 0 ∧ l.getD i 0 ≤ 1000000000) (h60 : l.length ≤ 60) (hT : ∀ c, 0 ≤ T c ∧ T c ≤ 100000) (hn : n ≤ 1000000000000000000) :
    Calls Tryd.prog 46 #[.pointer (some ⟨g, 0, none⟩)] w fun e w' => e = .returned (.tuple #[]) ∧ RowS w' base g m f l T (n + l.length) ∧ Kr base g w w' := by
  obtain ⟨v, hbox0, hown0⟩ := hR.box
  obtain ⟨D0, hmap0, hgap⟩ := hR.map
  have hbg := hR.bg
  have hbm := hR.bm
  obtain ⟨k, Hk⟩ : ∃ k, Hid (l.length = k) := ⟨_, rfl⟩
  obtain ⟨b, vc, rfl, hkc, hcx, hown1⟩ := own_last hown0 Hk.out
  have c0 : w.cell? ⟨g, 0, none⟩ = some (.slice (some ⟨b, 0, none⟩) (k + 1) vc) := by rw [cell_of_row w g 0 _ _ _ hbox0]; rfl
  have hfz : w.frozen? ⟨g, 0, none⟩ = false := frozen_of_row w g 0 _ _ hbox0
  have hbox1 : (w.setCell ⟨g, 0, none⟩ (.slice (some ⟨b, 0, none⟩) k vc)).heap[g]? = some (.cells #[.slice (some ⟨b, 0, none⟩) k vc, .map (some m), .func (.func f) #[] #[]] 64 (0, 0)) := by
    simpa using heap_setCell_same w g 0 _ _ (.slice (some ⟨b, 0, none⟩) k vc) hbox0
  have hown2 := ownsRow_setCell_other hown1 (a := ⟨g, 0, none⟩) (own_ne hown1 hbox0 (by decide)) (.slice (some ⟨b, 0, none⟩) k vc)
  have hmap1 : (w.setCell ⟨g, 0, none⟩ (.slice (some ⟨b, 0, none⟩) k vc)).ownsMap Tryd.prog 55 (plainElem Tryd.prog 3) m n D0 := hmap0.kept (row := some g) ⟨rfl, rfl, rfl, by simp, fun j hj hne => heap_setCell_other w ⟨g, 0, none⟩ j _ (fun e => hne (by rw [e]))⟩ (by simpa using fun e => map_neg hmap0 hbox0 e.symm)
  have hK1 : Kr base g w (w.setCell ⟨g, 0, none⟩ (.slice (some ⟨b, 0, none⟩) k vc)) := ⟨rfl, rfl, rfl, by simp, fun j hj => heap_setCell_other w ⟨g, 0, none⟩ j _ (by show j ≠ g; omega), fun j c t fz e ht hjg => heap_setCell_other w ⟨g, 0, none⟩ j _ hjg⟩
  have HLEN : Hid ((nwG ap l x).length = k) := (nwG_len ap l x).trans Hk.out
  have HNW : Hid (∀ i : Nat, i < k → (nwG ap l x).getD i (0, 0) = ap ((k : Int) - (i : Int)) (x - l.getD i 0)) := fun i hi => by
    have h := nwG_at ap l x (i := i) (by rw [Hk.out]; exact hi)
    rw [Hk.out] at h; exact h
  have HLB : Hid (∀ i : Nat, i < k → 0 ≤ l.getD i 0 ∧ l.getD i 0 ≤ 1000000000) := fun i hi => hl i (by rw [Hk.out]; exact hi)
  obtain ⟨L, HL⟩ : ∃ L, Hid (nwG ap l x = L) := ⟨_, rfl⟩
  rw [HL.out] at HLEN HNW hgap
  have HBD : Hid (∀ (i : Nat) (c : Int × Int), 0 ≤ upT T (L.drop i) c ∧ upT T (L.drop i) c ≤ 100100) := fun i c => upT_bd2 c (hT c) (by have := HLEN.out; have := Hk.out; omega)
  have HRW : Hid (∀ W : World, W.ownsRow base 3 1 (.slice (some ⟨b, 0, none⟩) k vc) l.length (l.map (Value.int .i64)) → ∀ i : Nat, i < k → W.cell? ⟨b, i, none⟩ = some (.int .i64 (l.getD i 0))) := fun W hW i hi => by
    obtain ⟨b', e, h⟩ := rowAt hW Hk.out hi
    simp only [Option.some.injEq, Addr.mk.injEq] at e
    rw [e.1]; exact h
  have HAP : Hid (ApF f ap) := hA
  have eg := hA.ent
  rw [Hk.out] at h60 ⊢
  have hG0 : Hid (GapsIs D0 (upT T (L.drop 0))) := hgap
  have hnc : ¬ (vc : Int) < (k : Int) := by omega
  have hn1 : ¬ ((k : Int) + 1 ≤ (k : Int)) := by omega
  have HB1 : Hid ((w.setCell ⟨g, 0, none⟩ (.slice (some ⟨b, 0, none⟩) k vc)).heap[g]? = some (.cells #[.slice (some ⟨b, 0, none⟩) k vc, .map (some m), .func (.func f) #[] #[]] 64 (0, 0))) := hbox1
  have HO2 : Hid ((w.setCell ⟨g, 0, none⟩ (.slice (some ⟨b, 0, none⟩) k vc)).ownsRow base 3 1 (.slice (some ⟨b, 0, none⟩) k vc) l.length (l.map (Value.int .i64))) := hown2
  have HM1 : Hid ((w.setCell ⟨g, 0, none⟩ (.slice (some ⟨b, 0, none⟩) k vc)).ownsMap Tryd.prog 55 (plainElem Tryd.prog 3) m n D0) := hmap1
  have HK1 : Hid (Kr base g w (w.setCell ⟨g, 0, none⟩ (.slice (some ⟨b, 0, none⟩) k vc))) := hK1
  clear hR hl hT hA hown0 hown1 hbox0 hmap0 hgap hbox1 hown2 hmap1 hK1
  go_enter Tryd.func46, Tryd.ntmps46
  go_wp2
  go_loopw [33] (fun iv wr => ∃ (i : Nat) (D : DataW Unit), iv = .int .i64 (i : Int) ∧ i ≤ k ∧ wr.heap[g]? = some (.cells #[.slice (some ⟨b, 0, none⟩) k vc, .map (some m), .func (.func f) #[] #[]] 64 (0, 0)) ∧
      wr.ownsRow base 3 1 (.slice (some ⟨b, 0, none⟩) k vc) l.length (l.map (Value.int .i64)) ∧ wr.ownsMap Tryd.prog 55 (plainElem Tryd.prog 3) m (n + i) D ∧ Hid (GapsIs D (upT T (L.drop i))) ∧ Hid (Kr base g w wr)) (fun iv _ => (k - intOf iv).toNat)
  case atStart => exact ⟨0, D0, rfl, by omega, HB1.out, HO2.out, HM1.out, hG0, HK1⟩
  case round =>
    clear c0 hfz hcx HB1 HO2 HM1 HK1 hG0 hnc hn1
    obtain ⟨i, D, rfl, hi, hbox, hown, hmap, HG, HK⟩ := hrel
    by_cases hlt : i < k
    · have hdi : decide ((i : Int) < (k : Int)) = true := by simp; omega
      have hii : (i : Int) < (k : Int) := by omega
      have hcell := HRW.out _ hown i hlt
      have hyb := HLB.out i hlt
      have HC := HNW.out i hlt
      obtain ⟨y, Hy⟩ : ∃ y, Hid (l.getD i 0 = y) := ⟨_, rfl⟩
      rw [Hy.out] at hcell hyb HC
      have hc1 : wr.cell? ⟨g, 1, none⟩ = some (.map (some m)) := by rw [cell_of_row wr g 1 _ _ _ hbox]; rfl
      have hc2 : wr.cell? ⟨g, 2, none⟩ = some (.func (.func f) #[] #[]) := by rw [cell_of_row wr g 2 _ _ _ hbox]; rfl
      have hgl := blk_lt hbox
      have HS : Hid (∀ W, Below wr.heap.size wr W → W.cell? ⟨g, 1, none⟩ = some (.map (some m)) ∧ W.cell? ⟨g, 2, none⟩ = some (.func (.func f) #[] #[])) := fun W hW => ⟨(hW.cell (p := ⟨g, 1, none⟩) hgl).trans hc1, (hW.cell (p := ⟨g, 2, none⟩) hgl).trans hc2⟩
      have C := fun W => HAP.out.call ((k : Int) - (i : Int)) (x - y) W
      have hok := HAP.out.ok ((k : Int) - (i : Int)) (x - y) (by omega) (by omega) (by omega) (by omega)
      obtain ⟨⟨c1, c2⟩, Hc⟩ : ∃ c, Hid (ap ((k : Int) - (i : Int)) (x - y) = c) := ⟨_, rfl⟩
      rw [Hc.out] at hok HC
      have C : ∀ W, Calls Tryd.prog f #[.int .i64 ((k : Int) - (i : Int)), .int .i64 (x - y)] W fun e w' => e = .returned (.agg #[.int .i64 c1, .int .i64 c2]) ∧ Below W.heap.size W w' := fun W => by
        have := C W
        rw [Hc.out] at this
        exact this
      have HOK : Hid (GOk (c1, c2)) := hok
      have HCC : Hid (L.getD i (0, 0) = (c1, c2)) := HC
      obtain ⟨hx1, hx2⟩ := hx
      obtain ⟨hy1, hy2⟩ := hyb
      obtain ⟨t, HTX⟩ : ∃ t, Hid (t = upT T (L.drop i) (c1, c2)) := ⟨_, rfl⟩
      have htb := HBD.out i (c1, c2)
      rw [← HTX.out] at htb
      obtain ⟨ht0, ht1⟩ := htb
      clear hok HC hc1 hc2
      go_wp2
      refine wp_region_noPanic ?_
      refine wp_region_held_drew (S := fun w' => w'.cell? ⟨g, 1, none⟩ = some (.map (some m)) ∧ w'.cell? ⟨g, 2, none⟩ = some (.func (.func f) #[] #[])) (by kernel_rfl) (HS.out _ (Below.refl _ wr).drew) (fun hSx => ?_)
      refine wpAnyH_take (i := 0) (v := .pointer (some ⟨g, 0, none⟩)) rfl (by kernel_rfl) (by kernel_rfl) (by kernel_rfl) (fun _ _ _ h => h) (Or.inl ⟨by rfl, fun w' hSw => by (try dsimp only at hSw); obtain ⟨hs0, hs1⟩ := hSw; go_simp⟩) hSx ?_
      try simp only [Act.put, List.setIfInBounds_toArray]
      refine wpAnyH_take (i := 1) (v := .pointer (some ⟨g, 0, none⟩)) rfl (by kernel_rfl) (by kernel_rfl) (by kernel_rfl) (fun _ _ _ h => h) (Or.inl ⟨by rfl, fun w' hSw => by (try dsimp only at hSw); obtain ⟨hs0, hs1⟩ := hSw; go_simp⟩) hSx ?_
      try simp only [Act.put]
      refine wpAnyH_take (i := 2) (v := .pointer (some ⟨g, 1, none⟩)) rfl (by kernel_rfl) (by kernel_rfl) (by kernel_rfl) (fun _ _ _ h => h) (Or.inl ⟨by rfl, fun w' hSw => by (try dsimp only at hSw); obtain ⟨hs0, hs1⟩ := hSw; go_simp⟩) hSx ?_
      try simp only [Act.put]
      refine wpAnyH_take (i := 3) (v := .map (some m)) rfl (by kernel_rfl) (by kernel_rfl) (by kernel_rfl) (fun _ _ _ h => h) (Or.inl ⟨by rfl, fun w' hSw => by (try dsimp only at hSw); obtain ⟨hs0, hs1⟩ := hSw; go_simp⟩) hSx ?_
      try simp only [Act.put]
      refine wpAnyH_take (i := 4) (v := .pointer (some ⟨g, 0, none⟩)) rfl (by kernel_rfl) (by kernel_rfl) (by kernel_rfl) (fun _ _ _ h => h) (Or.inl ⟨by rfl, fun w' hSw => by (try dsimp only at hSw); obtain ⟨hs0, hs1⟩ := hSw; go_simp⟩) hSx ?_
      try simp only [Act.put]
      refine wpAnyH_take (i := 5) (v := .pointer (some ⟨g, 0, none⟩)) rfl (by kernel_rfl) (by kernel_rfl) (by kernel_rfl) (fun _ _ _ h => h) (Or.inl ⟨by rfl, fun w' hSw => by (try dsimp only at hSw); obtain ⟨hs0, hs1⟩ := hSw; go_simp⟩) hSx ?_
      try simp only [Act.put]
      refine wpAnyH_take (i := 6) (v := .pointer (some ⟨g, 2, none⟩)) rfl (by kernel_rfl) (by kernel_rfl) (by kernel_rfl) (fun _ _ _ h => h) (Or.inl ⟨by rfl, fun w' hSw => by (try dsimp only at hSw); obtain ⟨hs0, hs1⟩ := hSw; go_simp⟩) hSx ?_
      try simp only [Act.put]
      refine wpAnyH_take (i := 7) (v := .func (.func f) #[] #[]) rfl (by kernel_rfl) (by kernel_rfl) (by kernel_rfl) (fun _ _ _ h => h) (Or.inl ⟨by rfl, fun w' hSw => by (try dsimp only at hSw); obtain ⟨hs0, hs1⟩ := hSw; go_simp⟩) hSx ?_
      try simp only [Act.put]
      refine wpAnyH_take (i := 8) (v := .int .i64 (k : Int)) rfl (by kernel_rfl) (by kernel_rfl) (by kernel_rfl) (fun _ _ _ h => h) (Or.inl ⟨by rfl, fun w' hSw => by (try dsimp only at hSw); obtain ⟨hs0, hs1⟩ := hSw; go_simp⟩) hSx ?_
      try simp only [Act.put]
      refine wpAnyH_take (i := 9) (v := .int .i64 (i : Int)) rfl (by kernel_rfl) (by kernel_rfl) (by kernel_rfl) (fun _ _ _ h => h) (Or.inl ⟨by rfl, fun w' hSw => by (try dsimp only at hSw); obtain ⟨hs0, hs1⟩ := hSw; go_simp⟩) hSx ?_
      try simp only [Act.put]
      refine wpAnyH_take (i := 10) (v := .int .i64 ((k : Int) - (i : Int))) rfl (by kernel_rfl) (by kernel_rfl) (by kernel_rfl) (fun _ _ _ h => h) (Or.inl ⟨by rfl, fun w' hSw => by (try dsimp only at hSw); obtain ⟨hs0, hs1⟩ := hSw; go_simp; rw [IntKind.wrap_i64]; omega⟩) hSx ?_
      try simp only [Act.put]
      refine wpAnyH_take (i := 11) (v := .int .i64 x) rfl (by kernel_rfl) (by kernel_rfl) (by kernel_rfl) (fun _ _ _ h => h) (Or.inl ⟨by rfl, fun w' hSw => by (try dsimp only at hSw); obtain ⟨hs0, hs1⟩ := hSw; go_simp⟩) hSx ?_
      try simp only [Act.put]
      refine wpAnyH_take (i := 12) (v := .int .i64 y) rfl (by kernel_rfl) (by kernel_rfl) (by kernel_rfl) (fun _ _ _ h => h) (Or.inl ⟨by rfl, fun w' hSw => by (try dsimp only at hSw); obtain ⟨hs0, hs1⟩ := hSw; go_simp⟩) hSx ?_
      try simp only [Act.put]
      refine wpAnyH_take (i := 13) (v := .int .i64 (x - y)) rfl (by kernel_rfl) (by kernel_rfl) (by kernel_rfl) (fun _ _ _ h => h) (Or.inl ⟨by rfl, fun w' hSw => by (try dsimp only at hSw); obtain ⟨hs0, hs1⟩ := hSw; go_simp; rw [IntKind.wrap_i64]; omega⟩) hSx ?_
      try simp only [Act.put]
      refine wpAnyH_ready (rs := [14]) (by kernel_rfl) (by simp) ?_
      refine (AllReadyH.cons rfl (fun J hJ => ?_) AllReadyH.nil)
      go_simp
      go_at_fn f
      refine (C _).mono ?_
      rintro e w1 ⟨rfl, b1⟩
      have d1 : Below wr.heap.size wr w1 := Below.next (Below.refl _ wr).drew b1
      have hb5 := (d1.block g hgl).trans hbox
      have ho5 := hown.kept (grownB d1) (Classical.em _)
      have hm5 := hmap.kept (grownB d1) (by simp)
      have HK6 : Hid (Kr base g w w1) := HK.out.trans (Kr.of_below (Nat.le_trans hbg (Nat.le_of_lt hgl)) d1)
      have hgm := map_neg hm5 hb5
      obtain ⟨c, v0, st, w4, hat7, hlook, hent, hlook2, hg4, hs4, hst⟩ := entry_any hm5 (by unfold maxLen; omega) (gK_of HOK.out)
      obtain rfl : t = c := HTX.out.trans (HG.out.look HOK.out hat7).symm
      obtain ⟨w5, hsto, hm6, hg5, hs5⟩ := hst (t - 1) (wfI (by omega) (by omega))
      rw [show goInt (st : Int) = Value.int .i64 (st : Int) from rfl] at hsto hent
      rw [show gV (c1, c2) = .agg #[.int .i64 c1, .int .i64 c2] from rfl] at hlook hent hlook2
      have hb4 := (hg4.block g (by exact blk_lt hb5) (by simpa using hgm)).trans hb5
      have hb6 := (hg5.block g (by exact blk_lt hb5) (by simpa using hgm)).trans hb5
      have ho6 := ho5.kept hg5 (.inr (own_nemap ho5 hm5))
      have HK7 : Hid (Kr base g w w5) := HK6.out.grown hm5 hbm hg5
      have hR4 : w4.cell? ⟨g, 1, none⟩ = some (.map (some m)) ∧ w4.cell? ⟨g, 2, none⟩ = some (.func (.func f) #[] #[]) := ⟨by rw [cell_of_row w4 g 1 _ _ _ hb4]; rfl, by rw [cell_of_row w4 g 2 _ _ _ hb4]; rfl⟩
      have hR6 : w5.cell? ⟨g, 1, none⟩ = some (.map (some m)) ∧ w5.cell? ⟨g, 2, none⟩ = some (.func (.func f) #[] #[]) := ⟨by rw [cell_of_row w5 g 1 _ _ _ hb6]; rfl, by rw [cell_of_row w5 g 2 _ _ _ hb6]; rfl⟩
      have hGP := HG.out.put (T' := upT T (L.drop (i + 1))) hm5.isMap HOK.out (x := t - 1) (by rw [← HCC.out, (upT_dp (by rw [HLEN.out]; exact hlt)).1, HCC.out, ← HTX.out]) (fun d hd => (upT_dp (by rw [HLEN.out]; exact hlt)).2 d (by rw [HCC.out]; exact hd))
      obtain ⟨D6, HD6⟩ : ∃ D6, Hid (D.put (gK (c1, c2)) (.lit (.int .i64 (t - 1))) = D6) := ⟨_, rfl⟩
      rw [HD6.out] at hGP hm6
      have HGP : Hid (GapsIs D6 (upT T (L.drop (i + 1)))) := hGP
      clear hat7 hst hGP hg4 hg5 hs4 hs5 HG hm5 HK6 ho5 hb5 HD6 hb4 hbox hown hmap HK b1 C
      go_wp2_with fail
      refine hJ.out _ _ (HS.out _ d1) (fun hSx => ?_)
      clear hJ J
      try simp only [Act.put, List.setIfInBounds_toArray, List.set_cons_zero, List.set_cons_succ]
      refine wpAnyH_ready (rs := [15, 17]) (by kernel_rfl) (by simp) ?_
      refine (AllReadyH.cons rfl (fun J hJ => ?_) (AllReadyH.cons rfl (fun J hJ => ?_) AllReadyH.nil))
      · go_simp
        refine hJ.out _ _ (hSx) (fun hSx => ?_)
        clear hJ J
        try simp only [Act.put, List.setIfInBounds_toArray, List.set_cons_zero, List.set_cons_succ]
        refine wpAnyH_take (i := 16) (v := .int .i64 (t - 1)) rfl (by kernel_rfl) (by kernel_rfl) (by kernel_rfl) (fun _ _ _ h => h) (Or.inl ⟨by rfl, fun w' hSw => by (try dsimp only at hSw); go_simp; rw [IntKind.wrap_i64]; omega⟩) hSx ?_
        try simp only [Act.put, List.setIfInBounds_toArray]
        refine wpAnyH_ready (rs := [17]) (by kernel_rfl) (by simp) ?_
        refine (AllReadyH.cons rfl (fun J hJ => ?_) AllReadyH.nil)
        go_simp
        refine hJ.out _ _ (hR4) (fun hSx => ?_)
        clear hJ J
        try simp only [Act.put, List.setIfInBounds_toArray, List.set_cons_zero, List.set_cons_succ]
        refine wpAnyH_take (i := 18) (v := .int .i64 (st : Int)) rfl (by kernel_rfl) (by kernel_rfl) (by kernel_rfl) (fun _ _ _ h => h) (Or.inl ⟨by rfl, fun w' hSw => by (try dsimp only at hSw); go_simp⟩) hSx ?_
        try simp only [Act.put, List.setIfInBounds_toArray]
        refine wpAnyH_ready (rs := [19]) (by kernel_rfl) (by simp) ?_
        refine (AllReadyH.cons rfl (fun J hJ => ?_) AllReadyH.nil)
        go_simp
        refine hJ.out _ _ (hR6) (fun hSx => ?_)
        clear hJ J
        try simp only [Act.put, List.setIfInBounds_toArray, List.set_cons_zero, List.set_cons_succ]
        refine wpAnyH_done (by kernel_rfl) ?_ _
        refine NoPanic.normal ?_
        clear hlook hent hlook2 hsto hSx HS d1
        go_wp2
        go_roundw
        case rel => exact ⟨i + 1, D6, by go_num, by omega, hb6, ho6, hm6, HGP, HK7⟩
        case measure => simp [intOf]; omega
      · go_simp
        refine hJ.out _ _ (hR4) (fun hSx => ?_)
        clear hJ J
        try simp only [Act.put, List.setIfInBounds_toArray, List.set_cons_zero, List.set_cons_succ]
        refine wpAnyH_take (i := 18) (v := .int .i64 (st : Int)) rfl (by kernel_rfl) (by kernel_rfl) (by kernel_rfl) (fun _ _ _ h => h) (Or.inl ⟨by rfl, fun w' hSw => by (try dsimp only at hSw); go_simp⟩) hSx ?_
        try simp only [Act.put, List.setIfInBounds_toArray]
        refine wpAnyH_ready (rs := [15]) (by kernel_rfl) (by simp) ?_
        refine (AllReadyH.cons rfl (fun J hJ => ?_) AllReadyH.nil)
        go_simp
        refine hJ.out _ _ (hR4) (fun hSx => ?_)
        clear hJ J
        try simp only [Act.put, List.setIfInBounds_toArray, List.set_cons_zero, List.set_cons_succ]
        refine wpAnyH_take (i := 16) (v := .int .i64 (t - 1)) rfl (by kernel_rfl) (by kernel_rfl) (by kernel_rfl) (fun _ _ _ h => h) (Or.inl ⟨by rfl, fun w' hSw => by (try dsimp only at hSw); go_simp; rw [IntKind.wrap_i64]; omega⟩) hSx ?_
        try simp only [Act.put, List.setIfInBounds_toArray]
        refine wpAnyH_ready (rs := [19]) (by kernel_rfl) (by simp) ?_
        refine (AllReadyH.cons rfl (fun J hJ => ?_) AllReadyH.nil)
        go_simp
        refine hJ.out _ _ (hR6) (fun hSx => ?_)
        clear hJ J
        try simp only [Act.put, List.setIfInBounds_toArray, List.set_cons_zero, List.set_cons_succ]
        refine wpAnyH_done (by kernel_rfl) ?_ _
        refine NoPanic.normal ?_
        clear hlook hent hlook2 hsto hSx HS d1
        go_wp2
        go_roundw
        case rel => exact ⟨i + 1, D6, by go_num, by omega, hb6, ho6, hm6, HGP, HK7⟩
        case measure => simp [intOf]; omega
    · obtain rfl : i = k := by omega
      have hdi : decide ((i : Int) < (i : Int)) = false := by simp
      have HR : Hid (RowS wr base g m f l T (n + i) ∧ Kr base g w wr) := ⟨⟨⟨_, hbox, by have h := hown; exact h⟩, ⟨D, hmap, HG.out.congr fun c => by rw [List.drop_of_length_le (by rw [HLEN.out]; exact Nat.le_refl _), upT_nil]⟩, hbg, hbm⟩, HK.out⟩
      clear hbox hown hmap HG HK
      go_wp2
      go_end0
      exact ⟨rfl, HR.out⟩

end Go.Proofs.YtmiinhbffiodmaaDoor
