/- The walk of extended. -/
import Derived.Test.YtagpbkcnjogbgaaX9
import Derived.Test.YtagpbkcnjogbgaaL17
namespace Go.Proofs.Ytagpbkcnjogbgaa
open Go.RowKit Go.Maps

def lenAt (w : World) (b : Nat) : Nat := match w.cell? ⟨b, 0, none⟩ with | some (.slice _ l _) => l | _ => 0
theorem news_one2 (w : World) (u : Value) : ∀ j v, [u][j]? = some v → (w.alloc (.cells #[u] 22)).cell? ((⟨w.heap.size, 0, none⟩ : Addr).add j) = some v := fun j v hj => by
  match j, hj with
  | 0, hj =>
    simp only [List.getElem?_cons_zero, Option.some.injEq] at hj
    subst hj
    rw [Addr.add_mid, cell_of_row _ _ _ _ _ _ (heap_alloc_new w _)]
    rfl
theorem own_box {w : World} {base n g : Nat} {e t : TypeId} {size : Nat} {v : Value} {xs : List Value} {cs : Array Value} (h : w.ownsRow base e size v n xs) (hg : w.heap[g]? = some (.cells cs t (0, 0))) (hne : e ≠ t) : v.ownBlock ≠ some g := by
  obtain ⟨_, ⟨rfl, _⟩ | ⟨g', cap, cur, rfl, _, h7, _⟩⟩ := h
  · intro e; cases e
  · intro e2
    obtain rfl : g' = g := by simpa [Value.ownBlock] using e2
    rw [hg] at h7
    simp only [Option.some.injEq, Obj.cells.injEq] at h7
    exact hne h7.2.1.symm
theorem OwnR.store {w0 w : World} {base b : Nat} {v u x : Value} {ls : List (List Int)} (h : OwnR w0 w base v ls) (hb : w.heap[b]? = some (.cells #[u] 34 (0, 0))) : OwnR w0 (w.setCell ⟨b, 0, none⟩ x) base v ls := by
  obtain ⟨us, h1, h2, h3⟩ := h
  exact ⟨us, orow_other h1 _ _ (own_box h1 hb (by decide)), h2, fun i l hi => by
    obtain ⟨u, h4, h5⟩ := h3 i l hi
    exact ⟨u, h4, h5.imp id fun h => orow_other h _ _ (own_box h hb (by decide))⟩⟩
theorem OwnR.push {w0 w w' : World} {base : Nat} {o o' y : Value} {ls : List (List Int)} {l : List Int} {us : List Value} (h1 : w.ownsRow base 22 1 o ls.length us) (h2 : us.length = ls.length) (h3 : ∀ (i : Nat) (l : List Int), ls[i]? = some l → ∃ u, us[i]? = some u ∧ (Sl w0 u l ∨ w.ownsRow base 3 1 u l.length (l.map (Value.int .i64)))) (hy : w.ownsRow base 3 1 y l.length (l.map (Value.int .i64))) (hG : w.grownBy w' o.ownBlock) (hO : w'.ownsRow base 22 1 o' (ls.length + 1) (us ++ [y])) : OwnR w0 w' base o' (ls ++ [l]) := by
  refine ⟨us ++ [y], by rw [List.length_append]; exact hO, by simp [h2], fun i m hi => ?_⟩
  by_cases hlt : i < ls.length
  · rw [List.getElem?_append_left hlt] at hi
    obtain ⟨u, h4, h5⟩ := h3 i m hi
    exact ⟨u, by rw [List.getElem?_append_left (by omega)]; exact h4, h5.imp id fun h => orow_grown h hG fun g hg => own_apart h h1 (by decide) g hg⟩
  · rw [List.getElem?_append_right (by omega)] at hi
    have hi0 : i - ls.length = 0 := by have := (List.getElem?_eq_some_iff.1 hi).1; simp at this; omega
    rw [hi0] at hi
    simp only [List.getElem?_cons_zero, Option.some.injEq] at hi
    subst hi
    exact ⟨y, by rw [List.getElem?_append_right (by omega), h2, hi0]; rfl, .inr (orow_grown hy hG fun g hg => own_apart hy h1 (by decide) g hg)⟩
theorem toI_snoc (all : List (List Nat)) (t : List Nat) : toI (all ++ [t]) = toI all ++ [t.map Int.ofNat] := by simp [toI]
theorem vn_ofNat (t : List Nat) : (t.map Int.ofNat).map (Value.int .i64) = vn t := by simp [vn]
theorem fl_flat {m : Nat} {al : List (List Nat)} (hm : al.length = m) (hr : ∀ r ∈ al, r.length = m) (h1 : 0 < m) : flN m (fun r c => (al.getD r []).getD c 0) (m * m) = al.flatten := by
  have hfl := flat_len hr
  rw [hm] at hfl
  apply List.ext_getElem?
  intro k
  unfold flN
  by_cases hk : k < m * m
  · have e := flat_at hr (i := k / m) (j := k % m) (by rw [hm]; exact Nat.div_lt_of_lt_mul hk) (Nat.mod_lt _ h1)
    rw [Nat.mul_comm, Nat.div_add_mod] at e
    rw [List.getElem?_map, List.getElem?_range hk, Option.map_some]
    have k2 : k < al.flatten.length := by rw [hfl]; exact hk
    show some ((al.getD (k / m) []).getD (k % m) 0) = _
    rw [← e, List.getD_eq_getElem?_getD, List.getElem?_eq_getElem k2]; rfl
  · rw [List.getElem?_eq_none (by simp; omega), List.getElem?_eq_none (by omega)]
/-- What goes on from these rows. -/
structure GoesOn (n : Nat) (Z all : List (List Nat)) : Prop where
  le : all.length ≤ n
  len : ∀ r ∈ all, r.length = n
  part : Part n all.flatten
  goes : goOn n (n - all.length) all = Z
theorem GoesOn.next {n : Nat} {Z all : List (List Nat)} (h : GoesOn n Z all) (hl : all.length < n) : ∃ t, nextR n all = some t ∧ t.length = n ∧ GoesOn n Z (all ++ [t]) := by
  obtain ⟨t, h1, h2, h3, h4⟩ := next_some h.len h.part hl
  refine ⟨t, h1, h2, ⟨by simp; omega, fun r hr => ?_, h3, ?_⟩⟩
  · rcases List.mem_append.1 hr with hr | hr
    · exact h.len r hr
    · rw [List.mem_singleton.1 hr]; exact h2
  · rw [← h.goes, List.length_append, List.length_singleton]
    obtain ⟨m, hm⟩ : ∃ m, n - all.length = m + 1 := ⟨n - all.length - 1, by omega⟩
    rw [hm, show n - (all.length + 1) = m from by omega]
    show _ = goOn n m (all ++ [(nextR n all).getD []])
    rw [h1]; rfl

set_option maxRecDepth 100000 in
set_option maxHeartbeats 8000000 in
theorem extended_any (n : Nat) (all : List (List Nat)) (v : Value) (w : World) (h1 : 1 ≤ n) (hn : n ≤ 8) (hv : Rw w v (toI all)) (hnil : v = .slice none 0 0 ∨ ∃ a l c, v = .slice (some a) l c) (ha : all.length ≤ n) (hr : ∀ r ∈ all, r.length = n) (hP : Part n all.flatten) :
    Calls Try.prog 29 #[.int .i64 (n : Int), v] w fun e w' => (∃ y, e = .returned (.agg #[.int .i64 (n : Int), y]) ∧ w'.ownsRow w.heap.size 3 1 y (n * n) (vn (goOn n (n - all.length) all).flatten)) ∧ Below w.heap.size w w' := by
  obtain ⟨i22, ti, tz0, tz1, tz2⟩ := info22
  have HI22 : Hid (Try.prog.info? 22 = some i22 ∧ i22.zero = some (.slice none 0 0) ∧ i22.size = 1 ∧ i22.bytes = 24) := ⟨ti, tz0, tz1, tz2⟩
  clear ti tz0 tz1 tz2
  have b0 := balloc w (.cells #[.int .i64 0, .slice none 0 0] 24)
  have C1 := Clone_any (toI all) v _ (hv.below b0) (by rw [toI_len]; omega) hnil
  have hsz : (w.alloc (.cells #[.int .i64 0, .slice none 0 0] 24)).heap.size = w.heap.size + 1 := by simp
  have f0 := heap_alloc_new w (.cells #[.int .i64 0, .slice none 0 0] 24)
  obtain ⟨Z, HZ⟩ : ∃ Z, Hid (goOn n (n - all.length) all = Z) := ⟨_, rfl⟩
  have HG : Hid (GoesOn n Z all) := ⟨ha, hr, hP, HZ.out⟩
  have HE : Hid (Part n Z.flatten ∧ Z.length = n ∧ ∀ r ∈ Z, r.length = n) := by
    have := goOn_fill (m := n - all.length) hr hP (by omega)
    rw [HZ.out] at this
    exact ⟨this.2.2.2.1, this.2.1, this.2.2.1⟩
  rw [HZ.out]
  have HB0 : Hid (Below w.heap.size w (w.alloc (.cells #[.int .i64 0, .slice none 0 0] 24))) := b0
  have HC1 : Hid (Calls Try.prog 38 #[v] (w.alloc (.cells #[.int .i64 0, .slice none 0 0] 24)) fun e w' => (∃ y, e = .returned y ∧ OwnR (w.alloc (.cells #[.int .i64 0, .slice none 0 0] 24)) w' (w.alloc (.cells #[.int .i64 0, .slice none 0 0] 24)).heap.size y (toI all)) ∧ Below (w.alloc (.cells #[.int .i64 0, .slice none 0 0] 24)).heap.size (w.alloc (.cells #[.int .i64 0, .slice none 0 0] 24)) w') := C1
  obtain ⟨va, vc, ev, _⟩ := id hv
  subst ev
  clear C1 b0 ha hr hP HZ hnil hv
  go_enter Try.func29, Try.ntmps29
  go_wp2_with (go_at_call 38; refine HC1.out.mono ?_; rintro e w2 ⟨⟨y, rfl, hO⟩, b2⟩; obtain ⟨ya, yc, ey⟩ := hO.form; subst ey; rw [hsz] at hO b2)
  have hs2 := b2.size
  rw [hsz] at hs2
  obtain ⟨w1, Hw1⟩ : ∃ w1, Hid (w.alloc (.cells #[.int .i64 0, .slice none 0 0] 24) = w1) := ⟨_, rfl⟩
  rw [Hw1.out] at hO b2 f0 hsz HB0
  clear HC1 Hw1
  obtain ⟨sz, Hsz⟩ : ∃ sz, Hid (w.heap.size + 1 = sz) := ⟨_, rfl⟩
  have hss : w.heap.size < sz := by rw [← Hsz.out]; omega
  rw [Hsz.out] at hO b2 hsz hs2
  have HS1 : Hid (w1.heap.size = sz) := hsz
  have H0 : Hid (w1.heap[w.heap.size]? = some (.cells #[.int .i64 0, .slice none 0 0] 24 (0, 0))) := f0
  clear Hsz hsz f0
  obtain ⟨B, HB⟩ : ∃ B, Hid (w2.heap.size = B) := ⟨_, rfl⟩
  have kB := heap_alloc_new w2 (.cells #[.slice ya (toI all).length yc] 34)
  have kO : OwnR w1 (w2.alloc (.cells #[.slice ya (toI all).length yc] 34)) sz (.slice ya (toI all).length yc) (toI all) := hO.below (balloc w2 _)
  have kb : Below sz w1 (w2.alloc (.cells #[.slice ya (toI all).length yc] 34)) := b2.alloc (by omega) _
  rw [HB.out] at hs2 kB
  have HK : Hid ((w2.alloc (.cells #[.slice ya (toI all).length yc] 34)).heap[B]? = some (.cells #[.slice ya (toI all).length yc] 34 (0, 0)) ∧ OwnR w1 (w2.alloc (.cells #[.slice ya (toI all).length yc] 34)) sz (.slice ya (toI all).length yc) (toI all) ∧ Below sz w1 (w2.alloc (.cells #[.slice ya (toI all).length yc] 34))) := ⟨kB, kO, kb⟩
  clear kB kO kb hO b2
  go_wp2
  rw [HB.out]
  go_loopw [] (fun wr => ∃ (al : List (List Nat)) (o : Value), Hid (GoesOn n Z al) ∧ wr.heap[B]? = some (.cells #[o] 34 (0, 0)) ∧ OwnR w1 wr sz o (toI al) ∧ Below sz w1 wr) (fun wr => n - lenAt wr B)
  case atStart => exact ⟨all, _, HG, HK.out.1, HK.out.2.1, HK.out.2.2⟩
  case round =>
    clear HK HG
    obtain ⟨al, o, hG, hBx, hO, hb⟩ := hrel
    obtain ⟨oa, oc, eo⟩ := hO.form
    rw [toI_len] at eo
    subst eo
    obtain ⟨m, Hm⟩ : ∃ m, Hid (al.length = m) := ⟨_, rfl⟩
    rw [Hm.out] at hBx hO
    have hmn : m ≤ n := by rw [← Hm.out]; exact hG.out.le
    have hc0 : wr.cell? ⟨B, 0, none⟩ = some (.slice oa m oc) := by rw [cell_of_row _ _ _ _ _ _ hBx]; rfl
    have hlB : B < wr.heap.size := (Array.getElem?_eq_some_iff.1 hBx).1
    by_cases hlt : m < n
    · have hd : decide ((m : Int) < (n : Int)) = true := by simp; omega
      obtain ⟨t, ht, htl, hG2⟩ := hG.out.next (by rw [Hm.out]; exact hlt)
      have D1 := below_any n al t (.slice oa m oc) wr.drew h1 hn ((hO.rw (by rw [HS1.out]; exact hb))) (by rw [Hm.out]; omega) hG.out.len ht
      have HM : Hid (n - lenAt wr B = n - m) := by show _ = _; unfold lenAt; rw [hc0]
      have Htl : Hid (t.length = n) := htl
      have HG2 : Hid (GoesOn n Z (al ++ [t])) := hG2
      have HLB : Hid (B < wr.heap.size) := hlB
      clear htl hG2 ht hG
      go_wp2_with fail
      refine wp_region_noPanic ?_
      refine wp_region_held_drew (S := fun _ => True) (by kernel_rfl) (trivial) (fun hSx => ?_)
      refine wpAnyH_take (i := 1) (v := .int .i64 (n : Int)) rfl (by kernel_rfl) (by kernel_rfl) (by kernel_rfl) (fun _ _ _ h => h) (Or.inl ⟨by rfl, fun w' hSw => by (try dsimp only at hSw); go_simp⟩) trivial ?_
      try simp only [Act.put, List.setIfInBounds_toArray]
      refine wpAnyH_ready (rs := [0, 2]) (by kernel_rfl) (by simp) ?_
      refine AllReadyH.cons rfl (fun J hJ => ?_) (AllReadyH.cons rfl (fun J hJ => ?_) AllReadyH.nil)
      · go_simp
        refine hJ.out _ _ trivial (fun _ => ?_)
        clear hJ J
        try simp only [Act.put, List.setIfInBounds_toArray, List.set_cons_zero, List.set_cons_succ]
        refine wpAnyH_ready (rs := [2]) (by kernel_rfl) (by simp) ?_
        refine AllReadyH.cons rfl (fun J hJ => ?_) AllReadyH.nil
        go_simp
        refine hJ.out _ _ trivial (fun _ => ?_)
        clear hJ J
        try simp only [Act.put, List.setIfInBounds_toArray, List.set_cons_zero, List.set_cons_succ]
        refine wpAnyH_ready (rs := [3]) (by kernel_rfl) (by simp) ?_
        refine AllReadyH.cons rfl (fun J hJ => ?_) AllReadyH.nil
        go_simp
        go_at_call 39
        refine D1.mono ?_
        rintro e w5 ⟨⟨y, rfl, hY⟩, b5⟩
        obtain ⟨ye, yl, yk, rfl⟩ := own_slice hY
        have b5' := Below.next (Below.refl _ wr).drew b5
        have hB5 := (b5'.block _ HLB.out).trans hBx
        have hO5 := hO.below b5'
        have hc5 : w5.cell? ⟨B, 0, none⟩ = some (.slice oa m oc) := by rw [cell_of_row _ _ _ _ _ _ hB5]; rfl
        have hb5 := hb.trans (b5'.mono (Nat.le_trans hs2 (Nat.le_of_lt HLB.out)))
        have hs5 := b5'.size
        have hl5 : B < w5.heap.size := (Array.getElem?_eq_some_iff.1 hB5).1
        have hY5 : w5.ownsRow sz 3 1 (.slice ye yl yk) n (vn t) := orow_base hY (Nat.le_trans (Nat.le_trans hs2 (Nat.le_of_lt HLB.out)) (Nat.le_refl _))
        clear D1 hY
        go_wp2_with fail
        refine hJ.out _ _ trivial (fun _ => ?_)
        clear hJ J
        try simp only [Act.put, List.setIfInBounds_toArray, List.set_cons_zero, List.set_cons_succ]
        refine wpAnyH_ready (rs := [4]) (by kernel_rfl) (by simp) ?_
        refine AllReadyH.cons rfl (fun J hJ => ?_) AllReadyH.nil
        go_simp
        have hB6 := ((balloc w5 (.cells #[.slice ye yl yk] 22)).block _ hl5).trans hB5
        have hc6 : (w5.alloc (.cells #[.slice ye yl yk] 22)).cell? ⟨B, 0, none⟩ = some (.slice oa m oc) := by rw [cell_of_row _ _ _ _ _ _ hB6]; rfl
        refine hJ.out _ _ trivial (fun _ => ?_)
        clear hJ J
        try simp only [Act.put, List.setIfInBounds_toArray, List.set_cons_zero, List.set_cons_succ]
        refine wpAnyH_ready (rs := [5]) (by kernel_rfl) (by simp) ?_
        refine AllReadyH.cons rfl (fun J hJ => ?_) AllReadyH.nil
        rw [if_pos (by rfl)]
        obtain ⟨us, hU1, hU2, hU3⟩ := hO5.below (balloc w5 (.cells #[.slice ye yl yk] 22))
        have hU1' := hU1
        rw [toI_len, Hm.out] at hU1'
        refine wp_append_lies _ _ _ 34 rfl sz 22 i22 (.slice none 0 0) 1 24 und34 HI22.out.1 HI22.out.2.1 HI22.out.2.2.1 HI22.out.2.2.2 rfl (by decide) (.slice oa m oc) m us rfl hU1' ⟨w5.heap.size, 0, none⟩ 1 1 [.slice ye yl yk] rfl rfl (news_one2 w5 _) (fun u hu => by simp at hu; subst hu; rfl) (by decide) (by unfold maxLen; omega) (by omega) (by simp; omega) _ rfl ?_
        intro og oc2 w7 hW7 hg7 _ _
        have hB7 := (hg7.block B (by simp; omega) (fun e => own_box hU1 hB6 (by decide) e.symm)).trans hB6
        have hb7 : Below sz w1 w7 := (hb5.trans ((balloc w5 _).mono (by omega))).grown hg7 (by simp; omega) (fun j hj => by
          obtain ⟨_, ⟨e, _⟩ | ⟨g', cap, cur, e, h8, _⟩⟩ := id hU1
          · rw [e] at hj; cases hj
          · rw [e] at hj; obtain rfl : g' = j := by simpa [Value.ownBlock] using hj
            exact h8)
        have hO7 : OwnR w1 w7 sz (.slice (some ⟨og, 0, none⟩) (m + 1) oc2) (toI (al ++ [t])) := by
          rw [toI_snoc]
          exact OwnR.push hU1 hU2 hU3 (by rw [List.length_map, Htl.out, vn_ofNat]; exact orow_below hY5 (balloc w5 _)) hg7 (by rw [toI_len, Hm.out]; exact hW7)
        have hf7 : w7.frozen? ⟨B, 0, none⟩ = false := frozen_of_row w7 _ 0 _ _ hB7
        have hq7 : w7.cell? ⟨B, 0, none⟩ = some (.slice oa m oc) := by rw [cell_of_row _ _ _ _ _ _ hB7]; rfl
        clear hU1 hU2 hU3 hU1' hW7 hg7
        refine hJ.out _ _ trivial (fun _ => ?_)
        clear hJ J
        try simp only [Act.put, List.setIfInBounds_toArray]
        refine wpAnyH_ready (rs := [6]) (by kernel_rfl) (by simp) ?_
        refine AllReadyH.cons rfl (fun J hJ => ?_) AllReadyH.nil
        go_simp
        refine hJ.out _ _ trivial (fun _ => ?_)
        clear hJ J
        try simp only [Act.put, List.setIfInBounds_toArray, List.set_cons_zero, List.set_cons_succ]
        refine wpAnyH_done (by kernel_rfl) ?_ _
        refine NoPanic.normal ?_
        have hO8 := hO7.store (x := .slice (some ⟨og, 0, none⟩) (m + 1) oc2) hB7
        have hB8 : (w7.setCell ⟨B, 0, none⟩ (.slice (some ⟨og, 0, none⟩) (m + 1) oc2)).heap[B]? = some (.cells #[.slice (some ⟨og, 0, none⟩) (m + 1) oc2] 34 (0, 0)) := by rw [heap_setCell_same w7 _ 0 _ _ _ hB7]; rfl
        have hb8 := hb7.setCell (p := ⟨B, 0, none⟩) (by exact hs2) (.slice (some ⟨og, 0, none⟩) (m + 1) oc2)
        clear hq7 hf7 hc6 hc5 hc0
        go_wp2
        go_roundw
        case rel => exact ⟨al ++ [t], _, HG2, hB8, hO8, hb8⟩
        case measure =>
          rw [HM.out]
          have : lenAt (w7.setCell ⟨B, 0, none⟩ (.slice (some ⟨og, 0, none⟩) (m + 1) oc2)) B = m + 1 := by
            unfold lenAt
            rw [cell_of_row _ _ _ _ _ _ hB8]; rfl
          rw [this]; omega
      · go_simp
        refine hJ.out _ _ trivial (fun _ => ?_)
        clear hJ J
        try simp only [Act.put, List.setIfInBounds_toArray, List.set_cons_zero, List.set_cons_succ]
        refine wpAnyH_ready (rs := [0, 3]) (by kernel_rfl) (by simp) ?_
        refine AllReadyH.cons rfl (fun J hJ => ?_) (AllReadyH.cons rfl (fun J hJ => ?_) AllReadyH.nil)
        · go_simp
          refine hJ.out _ _ trivial (fun _ => ?_)
          clear hJ J
          try simp only [Act.put, List.setIfInBounds_toArray, List.set_cons_zero, List.set_cons_succ]
          refine wpAnyH_ready (rs := [3]) (by kernel_rfl) (by simp) ?_
          refine AllReadyH.cons rfl (fun J hJ => ?_) AllReadyH.nil
          go_simp
          go_at_call 39
          refine D1.mono ?_
          rintro e w5 ⟨⟨y, rfl, hY⟩, b5⟩
          obtain ⟨ye, yl, yk, rfl⟩ := own_slice hY
          have b5' := Below.next (Below.refl _ wr).drew b5
          have hB5 := (b5'.block _ HLB.out).trans hBx
          have hO5 := hO.below b5'
          have hc5 : w5.cell? ⟨B, 0, none⟩ = some (.slice oa m oc) := by rw [cell_of_row _ _ _ _ _ _ hB5]; rfl
          have hb5 := hb.trans (b5'.mono (Nat.le_trans hs2 (Nat.le_of_lt HLB.out)))
          have hs5 := b5'.size
          have hl5 : B < w5.heap.size := (Array.getElem?_eq_some_iff.1 hB5).1
          have hY5 : w5.ownsRow sz 3 1 (.slice ye yl yk) n (vn t) := orow_base hY (Nat.le_trans (Nat.le_trans hs2 (Nat.le_of_lt HLB.out)) (Nat.le_refl _))
          clear D1 hY
          go_wp2_with fail
          refine hJ.out _ _ trivial (fun _ => ?_)
          clear hJ J
          try simp only [Act.put, List.setIfInBounds_toArray, List.set_cons_zero, List.set_cons_succ]
          refine wpAnyH_ready (rs := [4]) (by kernel_rfl) (by simp) ?_
          refine AllReadyH.cons rfl (fun J hJ => ?_) AllReadyH.nil
          go_simp
          have hB6 := ((balloc w5 (.cells #[.slice ye yl yk] 22)).block _ hl5).trans hB5
          have hc6 : (w5.alloc (.cells #[.slice ye yl yk] 22)).cell? ⟨B, 0, none⟩ = some (.slice oa m oc) := by rw [cell_of_row _ _ _ _ _ _ hB6]; rfl
          refine hJ.out _ _ trivial (fun _ => ?_)
          clear hJ J
          try simp only [Act.put, List.setIfInBounds_toArray, List.set_cons_zero, List.set_cons_succ]
          refine wpAnyH_ready (rs := [5]) (by kernel_rfl) (by simp) ?_
          refine AllReadyH.cons rfl (fun J hJ => ?_) AllReadyH.nil
          rw [if_pos (by rfl)]
          obtain ⟨us, hU1, hU2, hU3⟩ := hO5.below (balloc w5 (.cells #[.slice ye yl yk] 22))
          have hU1' := hU1
          rw [toI_len, Hm.out] at hU1'
          refine wp_append_lies _ _ _ 34 rfl sz 22 i22 (.slice none 0 0) 1 24 und34 HI22.out.1 HI22.out.2.1 HI22.out.2.2.1 HI22.out.2.2.2 rfl (by decide) (.slice oa m oc) m us rfl hU1' ⟨w5.heap.size, 0, none⟩ 1 1 [.slice ye yl yk] rfl rfl (news_one2 w5 _) (fun u hu => by simp at hu; subst hu; rfl) (by decide) (by unfold maxLen; omega) (by omega) (by simp; omega) _ rfl ?_
          intro og oc2 w7 hW7 hg7 _ _
          have hB7 := (hg7.block B (by simp; omega) (fun e => own_box hU1 hB6 (by decide) e.symm)).trans hB6
          have hb7 : Below sz w1 w7 := (hb5.trans ((balloc w5 _).mono (by omega))).grown hg7 (by simp; omega) (fun j hj => by
            obtain ⟨_, ⟨e, _⟩ | ⟨g', cap, cur, e, h8, _⟩⟩ := id hU1
            · rw [e] at hj; cases hj
            · rw [e] at hj; obtain rfl : g' = j := by simpa [Value.ownBlock] using hj
              exact h8)
          have hO7 : OwnR w1 w7 sz (.slice (some ⟨og, 0, none⟩) (m + 1) oc2) (toI (al ++ [t])) := by
            rw [toI_snoc]
            exact OwnR.push hU1 hU2 hU3 (by rw [List.length_map, Htl.out, vn_ofNat]; exact orow_below hY5 (balloc w5 _)) hg7 (by rw [toI_len, Hm.out]; exact hW7)
          have hf7 : w7.frozen? ⟨B, 0, none⟩ = false := frozen_of_row w7 _ 0 _ _ hB7
          have hq7 : w7.cell? ⟨B, 0, none⟩ = some (.slice oa m oc) := by rw [cell_of_row _ _ _ _ _ _ hB7]; rfl
          clear hU1 hU2 hU3 hU1' hW7 hg7
          refine hJ.out _ _ trivial (fun _ => ?_)
          clear hJ J
          try simp only [Act.put, List.setIfInBounds_toArray]
          refine wpAnyH_ready (rs := [6]) (by kernel_rfl) (by simp) ?_
          refine AllReadyH.cons rfl (fun J hJ => ?_) AllReadyH.nil
          go_simp
          refine hJ.out _ _ trivial (fun _ => ?_)
          clear hJ J
          try simp only [Act.put, List.setIfInBounds_toArray, List.set_cons_zero, List.set_cons_succ]
          refine wpAnyH_done (by kernel_rfl) ?_ _
          refine NoPanic.normal ?_
          have hO8 := hO7.store (x := .slice (some ⟨og, 0, none⟩) (m + 1) oc2) hB7
          have hB8 : (w7.setCell ⟨B, 0, none⟩ (.slice (some ⟨og, 0, none⟩) (m + 1) oc2)).heap[B]? = some (.cells #[.slice (some ⟨og, 0, none⟩) (m + 1) oc2] 34 (0, 0)) := by rw [heap_setCell_same w7 _ 0 _ _ _ hB7]; rfl
          have hb8 := hb7.setCell (p := ⟨B, 0, none⟩) (by exact hs2) (.slice (some ⟨og, 0, none⟩) (m + 1) oc2)
          clear hq7 hf7 hc6 hc5 hc0
          go_wp2
          go_roundw
          case rel => exact ⟨al ++ [t], _, HG2, hB8, hO8, hb8⟩
          case measure =>
            rw [HM.out]
            have : lenAt (w7.setCell ⟨B, 0, none⟩ (.slice (some ⟨og, 0, none⟩) (m + 1) oc2)) B = m + 1 := by
              unfold lenAt
              rw [cell_of_row _ _ _ _ _ _ hB8]; rfl
            rw [this]; omega
        · go_simp
          go_at_call 39
          refine D1.mono ?_
          rintro e w5 ⟨⟨y, rfl, hY⟩, b5⟩
          obtain ⟨ye, yl, yk, rfl⟩ := own_slice hY
          have b5' := Below.next (Below.refl _ wr).drew b5
          have hB5 := (b5'.block _ HLB.out).trans hBx
          have hO5 := hO.below b5'
          have hc5 : w5.cell? ⟨B, 0, none⟩ = some (.slice oa m oc) := by rw [cell_of_row _ _ _ _ _ _ hB5]; rfl
          have hb5 := hb.trans (b5'.mono (Nat.le_trans hs2 (Nat.le_of_lt HLB.out)))
          have hs5 := b5'.size
          have hl5 : B < w5.heap.size := (Array.getElem?_eq_some_iff.1 hB5).1
          have hY5 : w5.ownsRow sz 3 1 (.slice ye yl yk) n (vn t) := orow_base hY (Nat.le_trans (Nat.le_trans hs2 (Nat.le_of_lt HLB.out)) (Nat.le_refl _))
          clear D1 hY
          go_wp2_with fail
          refine hJ.out _ _ trivial (fun _ => ?_)
          clear hJ J
          try simp only [Act.put, List.setIfInBounds_toArray, List.set_cons_zero, List.set_cons_succ]
          refine wpAnyH_ready (rs := [0, 4]) (by kernel_rfl) (by simp) ?_
          refine AllReadyH.cons rfl (fun J hJ => ?_) (AllReadyH.cons rfl (fun J hJ => ?_) AllReadyH.nil)
          · go_simp
            refine hJ.out _ _ trivial (fun _ => ?_)
            clear hJ J
            try simp only [Act.put, List.setIfInBounds_toArray, List.set_cons_zero, List.set_cons_succ]
            refine wpAnyH_ready (rs := [4]) (by kernel_rfl) (by simp) ?_
            refine AllReadyH.cons rfl (fun J hJ => ?_) AllReadyH.nil
            go_simp
            have hB6 := ((balloc w5 (.cells #[.slice ye yl yk] 22)).block _ hl5).trans hB5
            have hc6 : (w5.alloc (.cells #[.slice ye yl yk] 22)).cell? ⟨B, 0, none⟩ = some (.slice oa m oc) := by rw [cell_of_row _ _ _ _ _ _ hB6]; rfl
            refine hJ.out _ _ trivial (fun _ => ?_)
            clear hJ J
            try simp only [Act.put, List.setIfInBounds_toArray, List.set_cons_zero, List.set_cons_succ]
            refine wpAnyH_ready (rs := [5]) (by kernel_rfl) (by simp) ?_
            refine AllReadyH.cons rfl (fun J hJ => ?_) AllReadyH.nil
            rw [if_pos (by rfl)]
            obtain ⟨us, hU1, hU2, hU3⟩ := hO5.below (balloc w5 (.cells #[.slice ye yl yk] 22))
            have hU1' := hU1
            rw [toI_len, Hm.out] at hU1'
            refine wp_append_lies _ _ _ 34 rfl sz 22 i22 (.slice none 0 0) 1 24 und34 HI22.out.1 HI22.out.2.1 HI22.out.2.2.1 HI22.out.2.2.2 rfl (by decide) (.slice oa m oc) m us rfl hU1' ⟨w5.heap.size, 0, none⟩ 1 1 [.slice ye yl yk] rfl rfl (news_one2 w5 _) (fun u hu => by simp at hu; subst hu; rfl) (by decide) (by unfold maxLen; omega) (by omega) (by simp; omega) _ rfl ?_
            intro og oc2 w7 hW7 hg7 _ _
            have hB7 := (hg7.block B (by simp; omega) (fun e => own_box hU1 hB6 (by decide) e.symm)).trans hB6
            have hb7 : Below sz w1 w7 := (hb5.trans ((balloc w5 _).mono (by omega))).grown hg7 (by simp; omega) (fun j hj => by
              obtain ⟨_, ⟨e, _⟩ | ⟨g', cap, cur, e, h8, _⟩⟩ := id hU1
              · rw [e] at hj; cases hj
              · rw [e] at hj; obtain rfl : g' = j := by simpa [Value.ownBlock] using hj
                exact h8)
            have hO7 : OwnR w1 w7 sz (.slice (some ⟨og, 0, none⟩) (m + 1) oc2) (toI (al ++ [t])) := by
              rw [toI_snoc]
              exact OwnR.push hU1 hU2 hU3 (by rw [List.length_map, Htl.out, vn_ofNat]; exact orow_below hY5 (balloc w5 _)) hg7 (by rw [toI_len, Hm.out]; exact hW7)
            have hf7 : w7.frozen? ⟨B, 0, none⟩ = false := frozen_of_row w7 _ 0 _ _ hB7
            have hq7 : w7.cell? ⟨B, 0, none⟩ = some (.slice oa m oc) := by rw [cell_of_row _ _ _ _ _ _ hB7]; rfl
            clear hU1 hU2 hU3 hU1' hW7 hg7
            refine hJ.out _ _ trivial (fun _ => ?_)
            clear hJ J
            try simp only [Act.put, List.setIfInBounds_toArray]
            refine wpAnyH_ready (rs := [6]) (by kernel_rfl) (by simp) ?_
            refine AllReadyH.cons rfl (fun J hJ => ?_) AllReadyH.nil
            go_simp
            refine hJ.out _ _ trivial (fun _ => ?_)
            clear hJ J
            try simp only [Act.put, List.setIfInBounds_toArray, List.set_cons_zero, List.set_cons_succ]
            refine wpAnyH_done (by kernel_rfl) ?_ _
            refine NoPanic.normal ?_
            have hO8 := hO7.store (x := .slice (some ⟨og, 0, none⟩) (m + 1) oc2) hB7
            have hB8 : (w7.setCell ⟨B, 0, none⟩ (.slice (some ⟨og, 0, none⟩) (m + 1) oc2)).heap[B]? = some (.cells #[.slice (some ⟨og, 0, none⟩) (m + 1) oc2] 34 (0, 0)) := by rw [heap_setCell_same w7 _ 0 _ _ _ hB7]; rfl
            have hb8 := hb7.setCell (p := ⟨B, 0, none⟩) (by exact hs2) (.slice (some ⟨og, 0, none⟩) (m + 1) oc2)
            clear hq7 hf7 hc6 hc5 hc0
            go_wp2
            go_roundw
            case rel => exact ⟨al ++ [t], _, HG2, hB8, hO8, hb8⟩
            case measure =>
              rw [HM.out]
              have : lenAt (w7.setCell ⟨B, 0, none⟩ (.slice (some ⟨og, 0, none⟩) (m + 1) oc2)) B = m + 1 := by
                unfold lenAt
                rw [cell_of_row _ _ _ _ _ _ hB8]; rfl
              rw [this]; omega
          · go_simp
            have hB6 := ((balloc w5 (.cells #[.slice ye yl yk] 22)).block _ hl5).trans hB5
            have hc6 : (w5.alloc (.cells #[.slice ye yl yk] 22)).cell? ⟨B, 0, none⟩ = some (.slice oa m oc) := by rw [cell_of_row _ _ _ _ _ _ hB6]; rfl
            refine hJ.out _ _ trivial (fun _ => ?_)
            clear hJ J
            try simp only [Act.put, List.setIfInBounds_toArray, List.set_cons_zero, List.set_cons_succ]
            refine wpAnyH_ready (rs := [0]) (by kernel_rfl) (by simp) ?_
            refine AllReadyH.cons rfl (fun J hJ => ?_) AllReadyH.nil
            go_simp
            refine hJ.out _ _ trivial (fun _ => ?_)
            clear hJ J
            try simp only [Act.put, List.setIfInBounds_toArray, List.set_cons_zero, List.set_cons_succ]
            refine wpAnyH_ready (rs := [5]) (by kernel_rfl) (by simp) ?_
            refine AllReadyH.cons rfl (fun J hJ => ?_) AllReadyH.nil
            rw [if_pos (by rfl)]
            obtain ⟨us, hU1, hU2, hU3⟩ := hO5.below (balloc w5 (.cells #[.slice ye yl yk] 22))
            have hU1' := hU1
            rw [toI_len, Hm.out] at hU1'
            refine wp_append_lies _ _ _ 34 rfl sz 22 i22 (.slice none 0 0) 1 24 und34 HI22.out.1 HI22.out.2.1 HI22.out.2.2.1 HI22.out.2.2.2 rfl (by decide) (.slice oa m oc) m us rfl hU1' ⟨w5.heap.size, 0, none⟩ 1 1 [.slice ye yl yk] rfl rfl (news_one2 w5 _) (fun u hu => by simp at hu; subst hu; rfl) (by decide) (by unfold maxLen; omega) (by omega) (by simp; omega) _ rfl ?_
            intro og oc2 w7 hW7 hg7 _ _
            have hB7 := (hg7.block B (by simp; omega) (fun e => own_box hU1 hB6 (by decide) e.symm)).trans hB6
            have hb7 : Below sz w1 w7 := (hb5.trans ((balloc w5 _).mono (by omega))).grown hg7 (by simp; omega) (fun j hj => by
              obtain ⟨_, ⟨e, _⟩ | ⟨g', cap, cur, e, h8, _⟩⟩ := id hU1
              · rw [e] at hj; cases hj
              · rw [e] at hj; obtain rfl : g' = j := by simpa [Value.ownBlock] using hj
                exact h8)
            have hO7 : OwnR w1 w7 sz (.slice (some ⟨og, 0, none⟩) (m + 1) oc2) (toI (al ++ [t])) := by
              rw [toI_snoc]
              exact OwnR.push hU1 hU2 hU3 (by rw [List.length_map, Htl.out, vn_ofNat]; exact orow_below hY5 (balloc w5 _)) hg7 (by rw [toI_len, Hm.out]; exact hW7)
            have hf7 : w7.frozen? ⟨B, 0, none⟩ = false := frozen_of_row w7 _ 0 _ _ hB7
            have hq7 : w7.cell? ⟨B, 0, none⟩ = some (.slice oa m oc) := by rw [cell_of_row _ _ _ _ _ _ hB7]; rfl
            clear hU1 hU2 hU3 hU1' hW7 hg7
            refine hJ.out _ _ trivial (fun _ => ?_)
            clear hJ J
            try simp only [Act.put, List.setIfInBounds_toArray]
            refine wpAnyH_ready (rs := [6]) (by kernel_rfl) (by simp) ?_
            refine AllReadyH.cons rfl (fun J hJ => ?_) AllReadyH.nil
            go_simp
            refine hJ.out _ _ trivial (fun _ => ?_)
            clear hJ J
            try simp only [Act.put, List.setIfInBounds_toArray, List.set_cons_zero, List.set_cons_succ]
            refine wpAnyH_done (by kernel_rfl) ?_ _
            refine NoPanic.normal ?_
            have hO8 := hO7.store (x := .slice (some ⟨og, 0, none⟩) (m + 1) oc2) hB7
            have hB8 : (w7.setCell ⟨B, 0, none⟩ (.slice (some ⟨og, 0, none⟩) (m + 1) oc2)).heap[B]? = some (.cells #[.slice (some ⟨og, 0, none⟩) (m + 1) oc2] 34 (0, 0)) := by rw [heap_setCell_same w7 _ 0 _ _ _ hB7]; rfl
            have hb8 := hb7.setCell (p := ⟨B, 0, none⟩) (by exact hs2) (.slice (some ⟨og, 0, none⟩) (m + 1) oc2)
            clear hq7 hf7 hc6 hc5 hc0
            go_wp2
            go_roundw
            case rel => exact ⟨al ++ [t], _, HG2, hB8, hO8, hb8⟩
            case measure =>
              rw [HM.out]
              have : lenAt (w7.setCell ⟨B, 0, none⟩ (.slice (some ⟨og, 0, none⟩) (m + 1) oc2)) B = m + 1 := by
                unfold lenAt
                rw [cell_of_row _ _ _ _ _ _ hB8]; rfl
              rw [this]; omega
    · have hd : decide ((m : Int) < (n : Int)) = false := by simp; omega
      obtain rfl : m = n := by omega
      have hZ : al = Z := by rw [← hG.out.goes, Hm.out, Nat.sub_self]; rfl
      subst hZ
      have hT : Teller (.func (.func 41) #[] #[.pointer (some ⟨B, 0, none⟩)]) m m (fun r c => (al.getD r []).getD c 0) wr := by
        refine ⟨41, _, rfl, e41, fun W hW r c hr hc => ?_⟩
        have hRw := (hO.rw (by rw [HS1.out]; exact hb)).below hW
        have hrl : r < al.length := by rw [Hm.out]; exact hr
        have hrow : (al.getD r []).length = m := hG.out.len _ (by rw [List.getD_eq_getElem?_getD, List.getElem?_eq_getElem hrl]; exact List.getElem_mem hrl)
        have hg : ((al.getD r []).map Int.ofNat).getD c 0 = ((al.getD r []).getD c 0 : Int) := by
          have : c < (al.getD r []).length := by rw [hrow]; exact hc
          generalize al.getD r [] = q at *
          simp [this]
        have h := extended1_any m B r c (toI al) ((al.getD r []).map Int.ofNat) _ W hRw (by rw [toI_len, Hm.out]; exact hn) (by unfold toI; rw [List.getElem?_map, List.getElem?_eq_getElem hrl, List.getD_eq_getElem?_getD, List.getElem?_eq_getElem hrl]; rfl) (by rw [List.length_map]; exact hrow) hc hn (by rw [hg]; omega) (by rw [hW.cell hlB]; exact hc0)
        rw [hg] at h
        exact h
      have C := filled_any m _ _ wr h1 hn hT
      have eF := fl_flat Hm.out hG.out.len h1
      rw [eF] at C
      have HC : Hid (Calls Try.prog 40 #[.int .i64 (m : Int), .func (.func 41) #[] #[.pointer (some ⟨B, 0, none⟩)]] wr fun e w' => (∃ y, e = .returned (.agg #[.int .i64 (m : Int), y]) ∧ w'.ownsRow wr.heap.size 3 1 y (m * m) (vn al.flatten)) ∧ Below wr.heap.size wr w') := C
      have hR := (hb.block w.heap.size hss).trans H0.out
      have hRl : w.heap.size < wr.heap.size := (Array.getElem?_eq_some_iff.1 hR).1
      have HR : Hid (wr.heap[w.heap.size]? = some (.cells #[.int .i64 0, .slice none 0 0] 24 (0, 0)) ∧ w.heap.size < wr.heap.size ∧ Below w.heap.size w wr) := ⟨hR, hRl, HB0.out.trans (hb.mono (Nat.le_of_lt hss))⟩
      clear C hT eF hO hR hRl
      go_wp2_with (go_at_call 40; refine HC.out.mono ?_; rintro e w8 ⟨⟨y, rfl, hY⟩, b8⟩; obtain ⟨ye, yl, yk, rfl⟩ := own_slice hY; have hR8 := (b8.block _ HR.out.2.1).trans HR.out.1; have q0 : w8.cell? ⟨w.heap.size, 0, none⟩ = some (.int .i64 0) := (by rw [cell_of_row _ _ _ _ _ _ hR8]; rfl); have q1 : w8.cell? ⟨w.heap.size, 1, none⟩ = some (.slice none 0 0) := (by rw [cell_of_row _ _ _ _ _ _ hR8]; rfl); have f0 : w8.frozen? ⟨w.heap.size, 0, none⟩ = false := frozen_of_row w8 _ 0 _ _ hR8; have f1 : w8.frozen? ⟨w.heap.size, 1, none⟩ = false := frozen_of_row w8 _ 1 _ _ hR8)
      have hn1 := heap_setCell_same w8 w.heap.size 0 _ _ (.int .i64 (m : Int)) hR8
      have hn2 := heap_setCell_same _ w.heap.size 1 _ _ (.slice ye yl yk) hn1
      have hY2 := orow_other (orow_other (orow_base hY (Nat.le_of_lt HR.out.2.1)) ⟨w.heap.size, 0, none⟩ (.int .i64 (m : Int)) (own_diff hY hR8)) ⟨w.heap.size, 1, none⟩ (.slice ye yl yk) (own_diff hY hR8)
      have hb8 := Below.next HR.out.2.2 b8
      exact post_sq 4 Try.results29 rfl hn2 rfl ⟨⟨_, rfl, hY2⟩, (hb8.setCell (Nat.le_refl _) _).setCell (Nat.le_refl _) _⟩
end Go.Proofs.Ytagpbkcnjogbgaa
