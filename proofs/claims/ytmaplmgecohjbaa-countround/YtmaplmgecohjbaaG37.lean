/- The walk of made. -/
import Derived.Test.YtmaplmgecohjbaaGA
namespace Go.Proofs.Ytmaplmgecohjbaa
open Go.RowKit Go.Maps

set_option maxRecDepth 100000 in
set_option maxHeartbeats 4000000 in
theorem made_any (n : Nat) (ms : List (List Nat)) (v : Value) (w : World) (hn : n ≤ 7) (hk : ms.length ≤ 100000) (hv : Mvs w v (ms.map (ext n))) (hm : ∀ m ∈ ms, IsP n m) :
    Calls Try.prog 51 #[v] w fun e w' => (∃ (G : Nat) (L : List (List Nat)), e = .returned (.pointer (some ⟨G, 0, none⟩)) ∧ Mem w.heap.size w' G (L.map (ext n)) ∧ L.Nodup ∧ ∀ a, a ∈ L ↔ Gen n ms a) ∧ Below w.heap.size w w' := by
  obtain ⟨k, Hk⟩ : ∃ k, Hid (ms.length = k) := ⟨_, rfl⟩
  rw [Hk.out] at hk
  obtain ⟨a, cap, rfl, _⟩ := id hv
  have HV : Hid (Mvs w (.slice a (ms.map (ext n)).length cap) (ms.map (ext n))) := hv
  rw [List.length_map, Hk.out] at HV ⊢
  have HM : Hid (∀ m ∈ ms, IsP n m) := hm
  clear hv hm
  have hmm := @run_makeMap Try.prog
  have C0 := fun W => still_any W
  rw [← ext_id hn] at C0
  have hM0 : Mem w.heap.size ((w.alloc (.map #[] 0)).alloc (.cells #[.slice none 0 0, .map (some w.heap.size)] 88)) (w.heap.size + 1) (([] : List (List Nat)).map (ext n)) := by
    refine ⟨.slice none 0 0, w.heap.size, ?_, World.ownsRow_nil _ _ _ _, ?_, by omega, Nat.le_refl _⟩
    · have h := heap_alloc_new (w.alloc (.map #[] 0)) (.cells #[.slice none 0 0, .map (some w.heap.size)] 88)
      rw [World.size_alloc] at h; exact h
    · exact World.ownsMap.alloc (World.ownsMap_made w _ _ _) _
  have hB0 : Below w.heap.size w ((w.alloc (.map #[] 0)).alloc (.cells #[.slice none 0 0, .map (some w.heap.size)] 88)) := (balloc w _).alloc (by simp) _
  have C1 := fun W (h : Mem w.heap.size W (w.heap.size + 1) (([] : List (List Nat)).map (ext n))) (hs : w.heap.size ≤ W.heap.size) => add_any n w.heap.size (w.heap.size + 1) [] (idL n) W hn h hs (by simp) (isP_id n) (by simp)
  have e1 : addL [] (idL n) = [idL n] := by unfold addL; simp
  rw [e1] at C1
  obtain ⟨I, HI⟩ : ∃ I, Hid (mv (ext n (idL n)) = I) := ⟨_, rfl⟩
  rw [HI.out] at C0 C1
  clear e1
  go_enter Try.func51, Try.ntmps51
  go_wp2_with (first
    | (go_at_call 72; refine (C0 _).mono ?_; rintro e w1 ⟨rfl, b1⟩; have hM1 := hM0.below b1; replace b1 := Below.next hB0 b1)
    | (go_at_call 71; refine (C1 _ hM1 b1.size).mono ?_; rintro e w2 ⟨rfl, hM2, b2⟩; replace b2 := b1.trans b2))
  clear hM0 hM1 hB0 b1 C0 C1 hmm
  go_loopw [4] (fun i wr => ∃ (t : Nat) (L : List (List Nat)), i = .int .i64 t ∧ t ≤ L.length ∧ Hid (MadeS n ms L) ∧ Hid (Clo ms L t 0) ∧ Hid (Mem w.heap.size wr (w.heap.size + 1) (L.map (ext n))) ∧ Below w.heap.size w wr) (fun i _ => (5041 - intOf i).toNat)
  case atStart => exact ⟨0, [idL n], rfl, by simp, (⟨by simp, by simp, fun a h => by rw [List.mem_singleton.1 h]; exact .one⟩ : MadeS n ms [idL n]), Clo.start, hM2, b2⟩
  case round =>
    clear hM2 b2
    obtain ⟨t, L, rfl, ht, HS, HC, HME, hB⟩ := hrel
    have hlen := HS.out.len HM.out hn
    have hpos : 0 < L.length := List.length_pos_iff.2 fun e => by have := HS.out.one; rw [e] at this; cases this
    obtain ⟨r, Hr⟩ : ∃ r, Hid (L.length = r) := ⟨_, rfl⟩
    obtain ⟨g, gc, hc0, hgl, hGl, hgc, _, _⟩ := HME.out.open (by rw [List.length_map]; exact hpos)
    rw [List.length_map, Hr.out] at hc0
    rw [Hr.out] at ht hlen hpos
    by_cases hlt : t < r
    · have hti : (t : Int) < r := by omega
      have hdec : decide ((t : Int) < r) = true := by simp; omega
      go_wp2
      go_loopw [24] (fun i wr => ∃ (j : Nat) (L' : List (List Nat)), i = .int .i64 j ∧ j ≤ k ∧ t < L'.length ∧ Hid (MadeS n ms L') ∧ Hid (Clo ms L' t j) ∧ Hid (Mem w.heap.size wr (w.heap.size + 1) (L'.map (ext n))) ∧ Below w.heap.size w wr) (fun i _ => (k - intOf i).toNat)
      case atStart => exact ⟨0, L, rfl, by omega, by have := Hr.out; omega, HS, HC, HME, hB⟩
      case round =>
        clear hc0 hgl hgc hB HME HS HC hlen hpos Hr ht hlt hti hdec
        obtain ⟨j, L', rfl, hj, htl, HS, HC, HME, hB⟩ := hrel
        by_cases hlt : j < k
        · have hji : (j : Int) < k := by omega
          have hdec : decide ((j : Int) < k) = true := by simp; omega
          have hlen := HS.out.len HM.out hn
          obtain ⟨g, gc, hc0, hgl, hGl, hgc, _, hrg⟩ := HME.out.open (by rw [List.length_map]; omega)
          obtain ⟨r, Hr⟩ : ∃ r, Hid (L'.length = r) := ⟨_, rfl⟩
          rw [List.length_map, Hr.out] at hc0
          rw [Hr.out] at htl hlen
          have hti : (t : Int) < r := by omega
          obtain ⟨x, hx⟩ : ∃ x, L'[t]? = some x := ⟨L'[t]'(by have := Hr.out; omega), by simp⟩
          obtain ⟨m, hmj⟩ : ∃ m, ms[j]? = some m := ⟨ms[j]'(by have := Hk.out; omega), by simp⟩
          have hxP := HS.out.isP HM.out x (List.mem_of_getElem? hx)
          have hmP := HM.out m (List.mem_of_getElem? hmj)
          have hrx := hrg t (ext n x) (by rw [List.getElem?_map, hx]; rfl)
          obtain ⟨b, off, rfl, hbw, hrm⟩ := HV.out.at (i := j) (x := ext n m) (by rw [List.getElem?_map, hmj]; rfl)
          have hrm1 := range_below hrm hB hbw
          have hsz := hB.size
          have C := fun W => then_any (ext n x) (ext n m) W (ext_len _ _) (fun i hi => ext_lt hxP hn hi)
          rw [← ext_then hxP hn] at C
          have D := fun W (h : Mem w.heap.size W (w.heap.size + 1) (L'.map (ext n))) (hs : w.heap.size ≤ W.heap.size) => add_any n w.heap.size (w.heap.size + 1) L' (thenL x m) W hn h hs (HS.out.isP HM.out) (hxP.then hmP) (by have := Hr.out; omega)
          obtain ⟨Y, HY⟩ : ∃ Y, Hid (mv (ext n (thenL x m)) = Y) := ⟨_, rfl⟩
          rw [HY.out] at C D
          simp only [mv_eq] at C
          have hinX : (Try.prog.info? 90).map (·.size) = some (mvL (ext n x)).length := inf62L _
          have hinM : (Try.prog.info? 90).map (·.size) = some (mvL (ext n m)).length := inf62L _
          have hlM : (mvL (ext n m)).length = 7 := mvL_len _
          have h1M : ∀ u ∈ mvL (ext n m), u.oneCell' = true := mvL_one _
          obtain ⟨X, HX⟩ : ∃ X, Hid (mvL (ext n x) = X) := ⟨_, rfl⟩
          obtain ⟨M, HMM⟩ : ∃ M, Hid (mvL (ext n m) = M) := ⟨_, rfl⟩
          rw [HX.out] at C hinX hrx
          rw [HMM.out] at C hinM hrm1 hlM h1M
          have HXP : Hid (L'[t]? = some x ∧ ms[j]? = some m ∧ IsP n x ∧ IsP n m) := ⟨hx, hmj, hxP, hmP⟩
          have hone := all_oneCell_toArray h1M
          have hinM' : (Try.prog.info? 90).map (·.size) = some M.toArray.size := by simpa using hinM
          have hth : (wr.alloc (.cells #[.int .i64 0, .int .i64 0, .int .i64 0, .int .i64 0, .int .i64 0, .int .i64 0, .int .i64 0] 90)).there wr.heap.size 0 M.toArray.size := by
            intro q hq
            rw [Nat.zero_add, cell_of_row _ _ q _ _ _ (heap_alloc_new wr _), frozen_of_row _ _ q _ _ (heap_alloc_new wr _)]
            have hq7 : q < 7 := by simpa [hlM] using hq
            exact ⟨by simp [hq7], rfl⟩
          clear hx hmj hxP hmP hrg hrm h1M
          have hBa := balloc wr (.cells #[.int .i64 0, .int .i64 0, .int .i64 0, .int .i64 0, .int .i64 0, .int .i64 0, .int .i64 0] 90)
          have hBb : Below wr.heap.size wr ((wr.alloc (.cells #[.int .i64 0, .int .i64 0, .int .i64 0, .int .i64 0, .int .i64 0, .int .i64 0, .int .i64 0] 90)).setCells wr.heap.size 0 M) := hBa.trans (bsets (Nat.le_refl _) _ _ _)
          have hrM2 : ((wr.alloc (.cells #[.int .i64 0, .int .i64 0, .int .i64 0, .int .i64 0, .int .i64 0, .int .i64 0, .int .i64 0] 90)).setCells wr.heap.size 0 M).rangeAt wr.heap.size 0 M := World.rangeAt_setCells_same _ _ _ _ (by simpa using hth)
          obtain ⟨W, HW⟩ : ∃ W, Hid ((wr.alloc (.cells #[.int .i64 0, .int .i64 0, .int .i64 0, .int .i64 0, .int .i64 0, .int .i64 0, .int .i64 0] 90)).setCells wr.heap.size 0 M = W) := ⟨_, rfl⟩
          rw [HW.out] at hBb hrM2
          have hrx2 := range_below hrx hBb hgl
          have hc2 := (hBb.cell (p := ⟨w.heap.size + 1, 0, none⟩) hGl).trans hc0
          have HME2 : Hid (Mem w.heap.size W (w.heap.size + 1) (L'.map (ext n))) := HME.out.below hBb
          have hB2 := Below.next hB hBb
          go_wp2_with (first
            | (refine wpList_load_mid rfl 90 _ rfl b (off + j * 7) rfl M _ hrm1 und62 rfl hinM ?_)
            | (refine wpList_store_mid rfl 90 _ _ rfl wr.heap.size 0 M.toArray rfl rfl hth hinM' hone ?_; rw [show M.toArray.toList = M from rfl, HW.out]))
          clear hc0 hrx hrm1 hth
          refine wp_region_noPanic ?_
          refine wp_region_held_drew (S := fun _ => True) (by kernel_rfl) trivial (fun hSx => ?_)
          refine wpAnyH_take (i := 0) (v := .pointer (some ⟨w.heap.size + 1, 0, none⟩)) rfl (by kernel_rfl) (by kernel_rfl) (by kernel_rfl) (fun _ _ _ h => h) (Or.inl ⟨by rfl, fun w' hSw => by (try dsimp only at hSw); go_simp⟩) trivial ?_
          try simp only [Act.put, List.setIfInBounds_toArray]
          refine wpAnyH_take (i := 1) (v := .pointer (some ⟨w.heap.size + 1, 0, none⟩)) rfl (by kernel_rfl) (by kernel_rfl) (by kernel_rfl) (fun _ _ _ h => h) (Or.inl ⟨by rfl, fun w' hSw => by (try dsimp only at hSw); go_simp⟩) trivial ?_
          try simp only [Act.put]
          refine wpAnyH_take (i := 2) (v := .pointer (some ⟨w.heap.size + 1, 0, none⟩)) rfl (by kernel_rfl) (by kernel_rfl) (by kernel_rfl) (fun _ _ _ h => h) (Or.inl ⟨by rfl, fun w' hSw => by (try dsimp only at hSw); go_simp⟩) trivial ?_
          try simp only [Act.put]
          refine wpAnyH_take (i := 3) (v := .pointer (some ⟨w.heap.size + 1, 0, none⟩)) rfl (by kernel_rfl) (by kernel_rfl) (by kernel_rfl) (fun _ _ _ h => h) (Or.inl ⟨by rfl, fun w' hSw => by (try dsimp only at hSw); go_simp⟩) trivial ?_
          try simp only [Act.put]
          refine wpAnyH_take (i := 5) (v := .int .i64 t) rfl (by kernel_rfl) (by kernel_rfl) (by kernel_rfl) (fun _ _ _ h => h) (Or.inl ⟨by rfl, fun w' hSw => by (try dsimp only at hSw); go_simp⟩) trivial ?_
          try simp only [Act.put]
          refine wpAnyH_ready (rs := [4, 8]) (by kernel_rfl) (by simp) ?_
          refine AllReadyH.cons rfl (fun J hJ => ?_) (AllReadyH.cons rfl (fun J hJ => ?_) AllReadyH.nil)
          · go_simp
            refine hJ.out _ _ trivial (fun _ => ?_)
            clear hJ J
            try simp only [Act.put, List.setIfInBounds_toArray, List.set_cons_zero, List.set_cons_succ]
            refine wpAnyH_take (i := 6) (v := .pointer (some ⟨g, t * 7, none⟩)) rfl (by kernel_rfl) (by kernel_rfl) (by kernel_rfl) (fun _ _ _ h => h) (Or.inl ⟨by rfl, fun w' hSw => by (try dsimp only at hSw); go_simp⟩) trivial ?_
            try simp only [Act.put, List.setIfInBounds_toArray]
            refine wpAnyH_ready (rs := [7, 8]) (by kernel_rfl) (by simp) ?_
            refine AllReadyH.cons rfl (fun J hJ => ?_) (AllReadyH.cons rfl (fun J hJ => ?_) AllReadyH.nil)
            · refine step_load_mid (by rfl) 90 _ (by rfl) g (t * 7) (by rfl) X _ (by exact hrx2) und62 rfl hinX ?_
              refine hJ.out _ _ trivial (fun _ => ?_)
              clear hJ J
              try simp only [Act.put]
              refine wpAnyH_ready (rs := [8]) (by kernel_rfl) (by simp) ?_
              refine AllReadyH.cons rfl (fun J hJ => ?_) AllReadyH.nil
              refine step_load_mid (by rfl) 90 _ (by rfl) wr.heap.size 0 (by rfl) M _ (by exact hrM2) und62 rfl hinM ?_
              refine hJ.out _ _ trivial (fun _ => ?_)
              clear hJ J
              try simp only [Act.put]
              refine wpAnyH_ready (rs := [9]) (by kernel_rfl) (by simp) ?_
              refine AllReadyH.cons rfl (fun J hJ => ?_) AllReadyH.nil
              go_simp
              refine (C _).mono ?_
              rintro e w3 ⟨rfl, b3⟩
              have hM3 := Mem.below (w := W.drew) HME2.out b3
              have hB3 := Below.next hB2.drew b3
              go_wp2_with fail
              refine hJ.out _ _ trivial (fun _ => ?_)
              clear hJ J
              try simp only [Act.put, List.setIfInBounds_toArray, List.set_cons_zero, List.set_cons_succ]
              refine wpAnyH_ready (rs := [10]) (by kernel_rfl) (by simp) ?_
              refine AllReadyH.cons rfl (fun J hJ => ?_) AllReadyH.nil
              go_simp
              refine (D _ hM3 hB3.size).mono ?_
              rintro e w4 ⟨rfl, hM4, b4⟩
              have hB4 := hB3.trans b4
              go_wp2_with fail
              refine hJ.out _ _ trivial (fun _ => ?_)
              clear hJ J
              refine wpAnyH_done (by kernel_rfl) ?_ _
              refine NoPanic.normal ?_
              go_wp2_with fail
              go_roundw
              case rel =>
                have hxm := HXP.out
                exact ⟨j + 1, addL L' (thenL x m), by go_num, by omega, by have := addL_len L' (thenL x m); have := Hr.out; omega, HS.out.add (List.mem_of_getElem? hxm.1) (List.mem_of_getElem? hxm.2.1), HC.out.next (by have := Hr.out; omega) hxm.1 hxm.2.1, hM4, hB4⟩
              case measure => simp [intOf]; omega
            · refine step_load_mid (by rfl) 90 _ (by rfl) wr.heap.size 0 (by rfl) M _ (by exact hrM2) und62 rfl hinM ?_
              refine hJ.out _ _ trivial (fun _ => ?_)
              clear hJ J
              try simp only [Act.put]
              refine wpAnyH_ready (rs := [7]) (by kernel_rfl) (by simp) ?_
              refine AllReadyH.cons rfl (fun J hJ => ?_) AllReadyH.nil
              refine step_load_mid (by rfl) 90 _ (by rfl) g (t * 7) (by rfl) X _ (by exact hrx2) und62 rfl hinX ?_
              refine hJ.out _ _ trivial (fun _ => ?_)
              clear hJ J
              try simp only [Act.put]
              refine wpAnyH_ready (rs := [9]) (by kernel_rfl) (by simp) ?_
              refine AllReadyH.cons rfl (fun J hJ => ?_) AllReadyH.nil
              go_simp
              refine (C _).mono ?_
              rintro e w3 ⟨rfl, b3⟩
              have hM3 := Mem.below (w := W.drew) HME2.out b3
              have hB3 := Below.next hB2.drew b3
              go_wp2_with fail
              refine hJ.out _ _ trivial (fun _ => ?_)
              clear hJ J
              try simp only [Act.put, List.setIfInBounds_toArray, List.set_cons_zero, List.set_cons_succ]
              refine wpAnyH_ready (rs := [10]) (by kernel_rfl) (by simp) ?_
              refine AllReadyH.cons rfl (fun J hJ => ?_) AllReadyH.nil
              go_simp
              refine (D _ hM3 hB3.size).mono ?_
              rintro e w4 ⟨rfl, hM4, b4⟩
              have hB4 := hB3.trans b4
              go_wp2_with fail
              refine hJ.out _ _ trivial (fun _ => ?_)
              clear hJ J
              refine wpAnyH_done (by kernel_rfl) ?_ _
              refine NoPanic.normal ?_
              go_wp2_with fail
              go_roundw
              case rel =>
                have hxm := HXP.out
                exact ⟨j + 1, addL L' (thenL x m), by go_num, by omega, by have := addL_len L' (thenL x m); have := Hr.out; omega, HS.out.add (List.mem_of_getElem? hxm.1) (List.mem_of_getElem? hxm.2.1), HC.out.next (by have := Hr.out; omega) hxm.1 hxm.2.1, hM4, hB4⟩
              case measure => simp [intOf]; omega
          · refine step_load_mid (by rfl) 90 _ (by rfl) wr.heap.size 0 (by rfl) M _ (by exact hrM2) und62 rfl hinM ?_
            refine hJ.out _ _ trivial (fun _ => ?_)
            clear hJ J
            try simp only [Act.put]
            refine wpAnyH_ready (rs := [4]) (by kernel_rfl) (by simp) ?_
            refine AllReadyH.cons rfl (fun J hJ => ?_) AllReadyH.nil
            go_simp
            refine hJ.out _ _ trivial (fun _ => ?_)
            clear hJ J
            try simp only [Act.put, List.setIfInBounds_toArray, List.set_cons_zero, List.set_cons_succ]
            refine wpAnyH_take (i := 6) (v := .pointer (some ⟨g, t * 7, none⟩)) rfl (by kernel_rfl) (by kernel_rfl) (by kernel_rfl) (fun _ _ _ h => h) (Or.inl ⟨by rfl, fun w' hSw => by (try dsimp only at hSw); go_simp⟩) trivial ?_
            try simp only [Act.put, List.setIfInBounds_toArray]
            refine wpAnyH_ready (rs := [7]) (by kernel_rfl) (by simp) ?_
            refine AllReadyH.cons rfl (fun J hJ => ?_) AllReadyH.nil
            refine step_load_mid (by rfl) 90 _ (by rfl) g (t * 7) (by rfl) X _ (by exact hrx2) und62 rfl hinX ?_
            refine hJ.out _ _ trivial (fun _ => ?_)
            clear hJ J
            try simp only [Act.put]
            refine wpAnyH_ready (rs := [9]) (by kernel_rfl) (by simp) ?_
            refine AllReadyH.cons rfl (fun J hJ => ?_) AllReadyH.nil
            go_simp
            refine (C _).mono ?_
            rintro e w3 ⟨rfl, b3⟩
            have hM3 := Mem.below (w := W.drew) HME2.out b3
            have hB3 := Below.next hB2.drew b3
            go_wp2_with fail
            refine hJ.out _ _ trivial (fun _ => ?_)
            clear hJ J
            try simp only [Act.put, List.setIfInBounds_toArray, List.set_cons_zero, List.set_cons_succ]
            refine wpAnyH_ready (rs := [10]) (by kernel_rfl) (by simp) ?_
            refine AllReadyH.cons rfl (fun J hJ => ?_) AllReadyH.nil
            go_simp
            refine (D _ hM3 hB3.size).mono ?_
            rintro e w4 ⟨rfl, hM4, b4⟩
            have hB4 := hB3.trans b4
            go_wp2_with fail
            refine hJ.out _ _ trivial (fun _ => ?_)
            clear hJ J
            refine wpAnyH_done (by kernel_rfl) ?_ _
            refine NoPanic.normal ?_
            go_wp2_with fail
            go_roundw
            case rel =>
              have hxm := HXP.out
              exact ⟨j + 1, addL L' (thenL x m), by go_num, by omega, by have := addL_len L' (thenL x m); have := Hr.out; omega, HS.out.add (List.mem_of_getElem? hxm.1) (List.mem_of_getElem? hxm.2.1), HC.out.next (by have := Hr.out; omega) hxm.1 hxm.2.1, hM4, hB4⟩
            case measure => simp [intOf]; omega
        · obtain rfl : j = k := by omega
          have hkd : decide ((j : Int) < (j : Int)) = false := by simp
          have hlen := HS.out.len HM.out hn
          have ht5 : t < 5040 := by omega
          go_wp2
          go_roundw
          case rel =>
            refine ⟨t + 1, L', by go_num, by omega, HS, ?_, HME, hB⟩
            have h := HC.out
            rw [← Hk.out] at h
            exact h.turn
          case measure => simp [intOf]; omega
    · obtain rfl : t = r := by omega
      have hkd : decide ((t : Int) < (t : Int)) = false := by simp
      go_wp2
      go_ret
      refine ⟨⟨w.heap.size + 1, L, rfl, HME.out, HS.out.nd, fun a => ?_⟩, hB⟩
      have h := HC.out
      rw [← Hr.out] at h
      exact Clo.done HS.out h a

end Go.Proofs.Ytmaplmgecohjbaa
