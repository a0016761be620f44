/- The walk of centre. -/
import Derived.Test.YtnbkabggmomhlaaGEq
import Derived.Test.YtnbkabggmomhlaaG11
import Derived.WalkMore
namespace Go.Proofs.Ytnbkabggmomhlaa
open Go.RowKit Go.Maps

/-- How many do not mind the order with any maker. -/
def cenC (ms L : List (List Nat)) : Nat := L.countP fun a => decide (∀ m ∈ ms, thenL a m = thenL m a)
theorem cenC_le (ms L : List (List Nat)) : cenC ms L ≤ L.length := List.countP_le_length
theorem cenC_take {ms L : List (List Nat)} {j : Nat} {a : List Nat} (h : L[j]? = some a) : cenC ms (L.take (j + 1)) = cenC ms (L.take j) + if ∀ m ∈ ms, thenL a m = thenL m a then 1 else 0 := by
  unfold cenC
  rw [List.take_add_one, h, Option.toList_some, List.countP_append]
  congr 1
  by_cases e : ∀ m ∈ ms, thenL a m = thenL m a
  · rw [if_pos e, List.countP_singleton, if_pos (decide_eq_true e)]
  · rw [if_neg e, List.countP_singleton, if_neg (by simpa using e)]
theorem small_fn {x : List Nat} (h : IsP 7 x) : ∀ j, j < 7 → (0 : Int) ≤ (x.getD j 0 : Int) ∧ (x.getD j 0 : Int) < 7 := fun j hj => ⟨by omega, by have := h.at hj; omega⟩
theorem same_iff {x y : List Nat} (hx : IsP 7 x) (hy : IsP 7 y) : (∀ j, j < 7 → (x.getD j 0 : Int) = (y.getD j 0 : Int)) ↔ x = y :=
  ⟨fun h => isP_ext hx.len hy.len fun i hi => Int.ofNat.inj (h i hi), fun h => by rw [h]; exact fun _ _ => rfl⟩
/-- What the region reads. -/
def TS (w W : World) (a b : Nat) (A B : List Value) (w' : World) : Prop := w'.rangeAt a 0 A ∧ w'.rangeAt b 0 B ∧ W.heap.size ≤ w'.heap.size ∧ Below w.heap.size w w'
theorem TS.below {w W w1 w2 : World} {a b : Nat} {A B : List Value} (h : TS w W a b A B w1) (ha : a < W.heap.size) (hb : b < W.heap.size) (hbl : Below w1.heap.size w1 w2) : TS w W a b A B w2 :=
  ⟨range_below h.1 hbl (by have := h.2.2.1; omega), range_below h.2.1 hbl (by have := h.2.2.1; omega), Nat.le_trans h.2.2.1 hbl.size, Below.next h.2.2.2 hbl⟩

set_option maxRecDepth 100000 in
set_option maxHeartbeats 8000000 in
theorem centre_any (base G : Nat) (ms L : List (List Nat)) (v : Value) (w : World) (hM : Mem base w G L) (h0 : 0 < L.length) (h6 : L.length ≤ 6000) (hL : ∀ a ∈ L, IsP 7 a) (hk : ms.length ≤ 4) (hv : Mvs w v ms) (hm : ∀ m ∈ ms, IsP 7 m) :
    Calls Try.prog 54 #[.pointer (some ⟨G, 0, none⟩), v] w fun e w' => e = .returned (.int .i64 (cenC ms L : Int)) ∧ Below w.heap.size w w' := by
  obtain ⟨k, Hk⟩ : ∃ k, Hid (ms.length = k) := ⟨_, rfl⟩
  rw [Hk.out] at hk
  obtain ⟨va, vc, rfl, _⟩ := id hv
  have HV : Hid (Mvs w (.slice va ms.length vc) ms) := hv
  rw [Hk.out] at HV ⊢
  have HMS : Hid (∀ m ∈ ms, IsP 7 m) := hm
  have HLS : Hid (∀ a ∈ L, IsP 7 a) := hL
  obtain ⟨g, gc, hc0, hgl, hGl, _, _, hrg⟩ := hM.open h0
  obtain ⟨r, Hr⟩ : ∃ r, Hid (L.length = r) := ⟨_, rfl⟩
  rw [Hr.out] at hc0 h6
  have HRG : Hid (∀ i x, L[i]? = some x → w.rangeAt g (i * 7) (mvL x)) := hrg
  clear hM h0 hrg hv hm hL
  go_enter Try.func54, Try.ntmps54
  go_wp2
  go_step3
  go_wp2
  go_step3
  go_wp2
  go_loopw [5, 15] (fun o i wr => ∃ c j : Nat, o = .int .i64 c ∧ i = .int .i64 j ∧ j ≤ r ∧ c ≤ j ∧ Hid (c = cenC ms (L.take j)) ∧ Below w.heap.size w wr) (fun _ i _ => (r - intOf i).toNat)
  case atStart => exact ⟨0, 0, rfl, rfl, by omega, by omega, (by simp [cenC] : 0 = cenC ms (L.take 0)), Below.refl _ _⟩
  case round =>
    obtain ⟨c, j, rfl, rfl, hj, hcj, HC, hB⟩ := hrel
    by_cases hlt : j < r
    · have hji : (j : Int) < r := by omega
      have hdec : decide ((j : Int) < r) = true := by simp; omega
      obtain ⟨x, hx⟩ : ∃ x, L[j]? = some x := ⟨L[j]'(by have := Hr.out; omega), by simp⟩
      have HXP : Hid (IsP 7 x) := HLS.out x (List.mem_of_getElem? hx)
      have hrM := range_below (HRG.out j x hx) hB hgl
      have HT' : Hid (cenC ms (L.take (j + 1)) = cenC ms (L.take j) + if ∀ m ∈ ms, thenL x m = thenL m x then 1 else 0) := cenC_take (ms := ms) hx
      have hinM : (Try.prog.info? 62).map (·.size) = some (mvL (x)).length := inf62L _
      have hlM : (mvL (x)).length = 7 := mvL_len _
      have h1M : ∀ u ∈ mvL (x), u.oneCell' = true := mvL_one _
      obtain ⟨M, HM⟩ : ∃ M, Hid (mvL (x) = M) := ⟨_, rfl⟩
      rw [HM.out] at hinM hrM hlM h1M
      have honeM := all_oneCell_toArray h1M
      have hinM' : (Try.prog.info? 62).map (·.size) = some M.toArray.size := by simpa using hinM
      have hthM : (wr.alloc (.cells #[.int .i64 0, .int .i64 0, .int .i64 0, .int .i64 0, .int .i64 0, .int .i64 0, .int .i64 0] 62)).there wr.heap.size 0 M.toArray.size := by
        intro q hq
        rw [Nat.zero_add, cell_of_row _ _ q _ _ _ (heap_alloc_new wr _), frozen_of_row _ _ q _ _ (heap_alloc_new wr _)]
        have hq7 : q < 7 := by simpa [hlM] using hq
        exact ⟨by simp [hq7], rfl⟩
      have hBM : Below wr.heap.size wr ((wr.alloc (.cells #[.int .i64 0, .int .i64 0, .int .i64 0, .int .i64 0, .int .i64 0, .int .i64 0, .int .i64 0] 62)).setCells wr.heap.size 0 M) := (balloc wr (.cells #[.int .i64 0, .int .i64 0, .int .i64 0, .int .i64 0, .int .i64 0, .int .i64 0, .int .i64 0] 62)).trans (bsets (Nat.le_refl _) _ _ _)
      have hrM2 : ((wr.alloc (.cells #[.int .i64 0, .int .i64 0, .int .i64 0, .int .i64 0, .int .i64 0, .int .i64 0, .int .i64 0] 62)).setCells wr.heap.size 0 M).rangeAt wr.heap.size 0 M := World.rangeAt_setCells_same _ _ _ _ (by simpa using hthM)
      have hsM : wr.heap.size < ((wr.alloc (.cells #[.int .i64 0, .int .i64 0, .int .i64 0, .int .i64 0, .int .i64 0, .int .i64 0, .int .i64 0] 62)).setCells wr.heap.size 0 M).heap.size := by rw [sets_size, World.size_alloc]; omega
      obtain ⟨W, HW⟩ : ∃ W, Hid ((wr.alloc (.cells #[.int .i64 0, .int .i64 0, .int .i64 0, .int .i64 0, .int .i64 0, .int .i64 0, .int .i64 0] 62)).setCells wr.heap.size 0 M = W) := ⟨_, rfl⟩
      rw [HW.out] at hBM hrM2 hsM
      clear h1M
      have hB2 := Below.next hB hBM
      clear hx
      go_wp2_with (first
          | (refine wpList_load_mid rfl 62 _ rfl g (j * 7) rfl M _ hrM und62 rfl hinM ?_)
          | (refine wpList_store_mid rfl 62 _ _ rfl wr.heap.size 0 M.toArray rfl rfl hthM hinM' honeM ?_; rw [show M.toArray.toList = M from rfl, HW.out]))
      obtain ⟨X, HX⟩ : ∃ X, Hid (wr.heap.size = X) := ⟨_, rfl⟩
      rw [HX.out] at hrM2 hsM ⊢
      go_loopw [21] (fun i ws => ∃ t : Nat, i = .int .i64 t ∧ t ≤ k ∧ Hid (∀ q m, q < t → ms[q]? = some m → thenL x m = thenL m x) ∧ Hid (ws.rangeAt X 0 M) ∧ X < ws.heap.size ∧ Below w.heap.size w ws) (fun i _ => (k - intOf i).toNat)
      case atStart => exact ⟨0, rfl, by omega, (fun q m h => by omega : ∀ q m, q < 0 → _), hrM2, hsM, hB2⟩
      case round =>
        have hjr : j < r := hlt
        clear hB2 hB hrM hBM hrM2 hsM hthM hlt hji hdec HX
        obtain ⟨t, rfl, ht, HA, HRM, hXl, hB⟩ := hrel
        by_cases hlt : t < k
        · have hti : (t : Int) < k := by omega
          have hdec : decide ((t : Int) < k) = true := by simp; omega
          obtain ⟨m, hmj⟩ : ∃ m, ms[t]? = some m := ⟨ms[t]'(by have := Hk.out; omega), by simp⟩
          have HMP : Hid (IsP 7 m) := HMS.out m (List.mem_of_getElem? hmj)
          obtain ⟨bb, off, rfl, hbw, hrN⟩ := HV.out.at hmj
          replace hrN := range_below hrN hB hbw
          have hinN : (Try.prog.info? 62).map (·.size) = some (mvL (m)).length := inf62L _
          have hlN : (mvL (m)).length = 7 := mvL_len _
          have h1N : ∀ u ∈ mvL (m), u.oneCell' = true := mvL_one _
          obtain ⟨N, HN⟩ : ∃ M, Hid (mvL (m) = M) := ⟨_, rfl⟩
          rw [HN.out] at hinN hrN hlN h1N
          have honeN := all_oneCell_toArray h1N
          have hinN' : (Try.prog.info? 62).map (·.size) = some N.toArray.size := by simpa using hinN
          have hthN : (wr.alloc (.cells #[.int .i64 0, .int .i64 0, .int .i64 0, .int .i64 0, .int .i64 0, .int .i64 0, .int .i64 0] 62)).there wr.heap.size 0 N.toArray.size := by
            intro q hq
            rw [Nat.zero_add, cell_of_row _ _ q _ _ _ (heap_alloc_new wr _), frozen_of_row _ _ q _ _ (heap_alloc_new wr _)]
            have hq7 : q < 7 := by simpa [hlN] using hq
            exact ⟨by simp [hq7], rfl⟩
          have hBN : Below wr.heap.size wr ((wr.alloc (.cells #[.int .i64 0, .int .i64 0, .int .i64 0, .int .i64 0, .int .i64 0, .int .i64 0, .int .i64 0] 62)).setCells wr.heap.size 0 N) := (balloc wr (.cells #[.int .i64 0, .int .i64 0, .int .i64 0, .int .i64 0, .int .i64 0, .int .i64 0, .int .i64 0] 62)).trans (bsets (Nat.le_refl _) _ _ _)
          have hrN2 : ((wr.alloc (.cells #[.int .i64 0, .int .i64 0, .int .i64 0, .int .i64 0, .int .i64 0, .int .i64 0, .int .i64 0] 62)).setCells wr.heap.size 0 N).rangeAt wr.heap.size 0 N := World.rangeAt_setCells_same _ _ _ _ (by simpa using hthN)
          have hsN : wr.heap.size < ((wr.alloc (.cells #[.int .i64 0, .int .i64 0, .int .i64 0, .int .i64 0, .int .i64 0, .int .i64 0, .int .i64 0] 62)).setCells wr.heap.size 0 N).heap.size := by rw [sets_size, World.size_alloc]; omega
          obtain ⟨V, HV⟩ : ∃ W, Hid ((wr.alloc (.cells #[.int .i64 0, .int .i64 0, .int .i64 0, .int .i64 0, .int .i64 0, .int .i64 0, .int .i64 0] 62)).setCells wr.heap.size 0 N = W) := ⟨_, rfl⟩
          rw [HV.out] at hBN hrN2 hsN
          clear h1N
          have hB3 := Below.next hB hBN
          have C1 := fun W => then_any x m W HXP.out.len (fun i hi => HXP.out.at hi)
          have C2 := fun W => then_any m x W HMP.out.len (fun i hi => HMP.out.at hi)
          have hxm := HXP.out.then HMP.out
          have hmx := HMP.out.then HXP.out
          obtain ⟨e, he, hee⟩ := eq_ever (eq62 _ _ (small_fn hxm) (small_fn hmx))
          rw [same_iff hxm hmx] at hee
          have HEE : Hid (e = true ↔ thenL x m = thenL m x) := hee
          clear hee hxm hmx
          have e1 : mv (thenL x m) = .agg (mrow fun j => ((thenL x m).getD j 0 : Int)) := rfl
          have e2 : mv (thenL m x) = .agg (mrow fun j => ((thenL m x).getD j 0 : Int)) := rfl
          rw [e1] at C1
          rw [e2] at C2
          obtain ⟨F1, HF1⟩ : ∃ F : Nat → Int, Hid ((fun j => ((thenL x m).getD j 0 : Int)) = F) := ⟨_, rfl⟩
          obtain ⟨F2, HF2⟩ : ∃ F : Nat → Int, Hid ((fun j => ((thenL m x).getD j 0 : Int)) = F) := ⟨_, rfl⟩
          rw [HF1.out] at C1 he
          rw [HF2.out] at C2 he
          clear e1 e2
          simp only [mv_eq] at C1 C2
          rw [HM.out, HN.out] at C1 C2
          have hXV : X < V.heap.size := by omega
          have hS0 : TS w V X wr.heap.size M N V := ⟨range_below HRM.out hBN hXl, hrN2, Nat.le_refl _, hB3⟩
          have HMJ : Hid (ms[t]? = some m) := hmj
          have hsN' := hsN
          clear hmj HRM
          go_wp2_with (first
            | (refine wpList_load_mid rfl 62 _ rfl bb (off + t * 7) rfl N _ hrN und62 rfl hinN ?_)
            | (refine wpList_store_mid rfl 62 _ _ rfl wr.heap.size 0 N.toArray rfl rfl hthN hinN' honeN ?_; rw [show N.toArray.toList = N from rfl, HV.out]))
          clear hrN hthN hrN2 hBN hB
          refine wp_region_noPanic ?_
          refine wp_region_held_drew (S := TS w V X wr.heap.size M N) (by kernel_rfl) (⟨hS0.1, hS0.2.1, hS0.2.2.1, hS0.2.2.2.drew⟩) (fun hSx => ?_)
          clear hS0
          refine wpAnyH_take (i := 0) (v := .agg M.toArray) rfl (by kernel_rfl) (by kernel_rfl) (by kernel_rfl) (fun _ _ _ h => h) (yieldsIf_load_mid (by rfl) 62 _ rfl X 0 rfl M _ (fun _ h => h.1) und62 rfl hinM) hSx ?_
          try simp only [Act.put, List.setIfInBounds_toArray]
          refine wpAnyH_take (i := 1) (v := .agg N.toArray) rfl (by kernel_rfl) (by kernel_rfl) (by kernel_rfl) (fun _ _ _ h => h) (yieldsIf_load_mid (by rfl) 62 _ rfl wr.heap.size 0 rfl N _ (fun _ h => h.2.1) und62 rfl hinN) hSx ?_
          try simp only [Act.put]
          refine wpAnyH_take (i := 3) (v := .agg N.toArray) rfl (by kernel_rfl) (by kernel_rfl) (by kernel_rfl) (fun _ _ _ h => h) (yieldsIf_load_mid (by rfl) 62 _ rfl wr.heap.size 0 rfl N _ (fun _ h => h.2.1) und62 rfl hinN) hSx ?_
          try simp only [Act.put]
          refine wpAnyH_take (i := 4) (v := .agg M.toArray) rfl (by kernel_rfl) (by kernel_rfl) (by kernel_rfl) (fun _ _ _ h => h) (yieldsIf_load_mid (by rfl) 62 _ rfl X 0 rfl M _ (fun _ h => h.1) und62 rfl hinM) hSx ?_
          try simp only [Act.put]
          refine wpAnyH_ready (rs := [2]) (by kernel_rfl) (by simp) ?_
          refine AllReadyH.cons rfl (fun J hJ => ?_) AllReadyH.nil
          go_simp
          refine (C1 _).mono ?_
          rintro e w1 ⟨rfl, b1⟩
          replace hSx := hSx.below hXV hsN' b1
          clear b1
          go_wp2_with fail
          refine hJ.out _ _ hSx (fun _ => ?_)
          clear hJ J
          try simp only [Act.put, List.setIfInBounds_toArray, List.set_cons_zero, List.set_cons_succ]
          refine wpAnyH_ready (rs := [5]) (by kernel_rfl) (by simp) ?_
          refine AllReadyH.cons rfl (fun J hJ => ?_) AllReadyH.nil
          go_simp
          refine (C2 _).mono ?_
          rintro e w1 ⟨rfl, b1⟩
          replace hSx := hSx.below hXV hsN' b1
          clear b1
          go_wp2_with fail
          refine hJ.out _ _ hSx (fun _ => ?_)
          clear hJ J
          try simp only [Act.put, List.setIfInBounds_toArray, List.set_cons_zero, List.set_cons_succ]
          cases e with
          | true =>
            refine wpAnyH_ready (rs := [6]) (by kernel_rfl) (by simp) ?_
            refine AllReadyH.cons rfl (fun J hJ => ?_) AllReadyH.nil
            go_simp
            go_wp2_with fail
            refine hJ.out _ _ hSx (fun _ => ?_)
            clear hJ J
            try simp only [Act.put, List.setIfInBounds_toArray, List.set_cons_zero, List.set_cons_succ]
            refine wpAnyH_done (by kernel_rfl) ?_ _
            refine NoPanic.normal ?_
            go_wp2_with fail
            go_roundw
            case rel =>
              refine ⟨t + 1, by go_num, by omega, (fun q m' hq hm' => ?_ : ∀ q m', q < t + 1 → _), hSx.1, by have := hSx.2.2.1; omega, hSx.2.2.2⟩
              by_cases e : q = t
              · subst e
                obtain rfl : m = m' := by have := HMJ.out; rw [hm'] at this; simpa using this.symm
                exact HEE.out.1 (by trivial)
              · exact HA.out q m' (by omega) hm'
            case measure => simp [intOf]; omega
          | false =>
            refine wpAnyH_ready (rs := [6]) (by kernel_rfl) (by simp) ?_
            refine AllReadyH.cons rfl (fun J hJ => ?_) AllReadyH.nil
            go_simp
            go_wp2_with fail
            refine hJ.out _ _ hSx (fun _ => ?_)
            clear hJ J
            try simp only [Act.put, List.setIfInBounds_toArray, List.set_cons_zero, List.set_cons_succ]
            refine wpAnyH_done (by kernel_rfl) ?_ _
            refine NoPanic.normal ?_
            have HNO : Hid (¬ ∀ m ∈ ms, thenL x m = thenL m x) := fun h => absurd (HEE.out.2 (h m (List.mem_of_getElem? HMJ.out))) Bool.false_ne_true
            go_wp2_with fail
            go_roundw
            case rel =>
              exact ⟨c, j + 1, rfl, by go_num, by omega, by omega, (by rw [HT'.out, if_neg HNO.out, HC.out]; rfl : c = cenC ms (L.take (j + 1))), hSx.2.2.2⟩
            case measure => simp [intOf]; omega
        · obtain rfl : t = k := by omega
          have hkd : decide ((t : Int) < (t : Int)) = false := by simp
          have HYES : Hid (∀ m ∈ ms, thenL x m = thenL m x) := fun m hm => by
            obtain ⟨q, hq, rfl⟩ := List.mem_iff_getElem.1 hm
            exact HA.out q _ (by rw [← Hk.out]; exact hq) (List.getElem?_eq_getElem hq)
          go_wp2
          go_roundw
          case rel => exact ⟨c + 1, j + 1, by go_num, by go_num, by omega, by omega, (by rw [HT'.out, if_pos HYES.out, HC.out] : c + 1 = cenC ms (L.take (j + 1))), hB⟩
          case measure => simp [intOf]; omega
    · obtain rfl : j = r := by omega
      have hkd : decide ((j : Int) < (j : Int)) = false := by simp
      go_wp2
      rw [Exit.noGoto_ret]
      go_ret
      have h := HC.out
      rw [List.take_of_length_le (by rw [Hr.out]; exact Nat.le_refl _)] at h
      exact ⟨by rw [← h]; rfl, hB⟩

end Go.Proofs.Ytnbkabggmomhlaa
