/- starts, Starter, walked. -/
import Derived.Test.YtpeplnojmogkfaaK1
import Derived.Test.YtpeplnojmogkfaaMM
namespace Go.Proofs.Ytpeplnojmogkfaa
open Go.RowKit Go.Maps

theorem ct_nod {D : DataW Unit} {L : List Nat} (h : CtIs kI IOk D L) : Maps.size D = L.length ↔ L.Nodup := by
  obtain ⟨M, hM, hm, hs⟩ := h.sz
  rw [hs]
  constructor
  · intro e
    exact nod_cover hM (fun x hx => (hm x).1 hx) (by omega)
  · intro hL
    have := nodL_len hM (m := L) fun x hx => (hm x).1 hx
    have := nodL_len hL (m := M) fun x hx => (hm x).2 hx
    omega
theorem alS_two (qs : List (Nat × Nat)) (p : Nat × Nat) : alS (qs ++ [p]) = alS qs ++ [p.1] ++ [p.2] := by rw [alS_more]; simp
theorem dfS_two (v : Nat) (qs : List (Nat × Nat)) (p : Nat × Nat) : dfS v (qs ++ [p]) = dfS v qs ++ [(p.1 + v - p.2) % v] ++ [(p.2 + v - p.1) % v] := by rw [dfS_more]; simp
set_option maxRecDepth 100000 in
set_option maxHeartbeats 16000000 in
theorem starts_any (V : Nat) (qs : List (Nat × Nat)) (pv : Value) (w : World) (hv : Rw w pv (prZ qs)) (hV3 : 3 ≤ V) (hV15 : V ≤ 15) (ho : V % 2 = 1) (hln : qs.length = (V - 1) / 2) (hr : ∀ p ∈ qs, (1 ≤ p.1 ∧ p.1 < V) ∧ 1 ≤ p.2 ∧ p.2 < V) :
    Calls Try.prog 38 #[.int .i64 (V : Int), pv] w fun e w' => e = .returned (.bool (cvB V qs)) ∧ Below w.heap.size w w' := by
  have hmm := @run_makeMap Try.prog
  have HV : Hid (∀ W, Below w.heap.size w W → Rw W pv (prZ qs)) := fun W b => hv.below b
  have HRG : Hid (∀ (i : Nat) p, qs[i]? = some p → p.1 < V ∧ p.2 < V) := fun i p h => ⟨(hr p (List.mem_of_getElem? h)).1.2, (hr p (List.mem_of_getElem? h)).2.2⟩
  obtain ⟨a, cap, rfl, -⟩ := hv
  obtain ⟨m, Hm⟩ : ∃ m, Hid (qs.length = m) := ⟨_, rfl⟩
  have HAT : Hid (∀ i, i < m → ∃ p, qs[i]? = some p) := fun i hi => ⟨_, List.getElem?_eq_getElem (by rw [Hm.out]; exact hi)⟩
  have HQ : Hid (cvB V qs = true ↔ (alS qs).Nodup ∧ (dfS V qs).Nodup) := cv_nod hV3 ho hln hr
  have hl2 : 2 * m = V - 1 := by rw [← Hm.out, hln]; omega
  have HL1 : Hid ((alS qs).length = V - 1) := by show _ = _; rw [alS_len, Hm.out]; exact hl2
  have HL2 : Hid ((dfS V qs).length = V - 1) := by show _ = _; rw [dfS_len, Hm.out]; exact hl2
  have hm7 : m ≤ 7 := by omega
  rw [prZ_len, Hm.out]
  obtain ⟨q, Hq⟩ : ∃ q, Hid (cvB V qs = q) := ⟨_, rfl⟩
  rw [Hq.out]
  have HTA : Hid (qs.take m = qs) := List.take_of_length_le (by rw [Hm.out]; omega)
  have hb1 := balloc w (.map #[] 0)
  have ho1 : (w.alloc (.map #[] 0)).ownsMap Try.prog 3 (plainElem (H := Unit) Try.prog 3) w.heap.size 0 (.map []) := World.ownsMap_made _ _ _ _
  have ho2 : ((w.alloc (.map #[] 0)).alloc (.map #[] 0)).ownsMap Try.prog 3 (plainElem (H := Unit) Try.prog 3) (w.alloc (.map #[] 0)).heap.size 0 (.map []) := World.ownsMap_made _ _ _ _
  have ho1' := ho1.alloc (.map #[] 0)
  have hb2 : Below w.heap.size w ((w.alloc (.map #[] 0)).alloc (.map #[] 0)) := hb1.trans ((balloc _ _).mono hb1.size)
  have e1 : (w.alloc (.map #[] 0)).heap.size = w.heap.size + 1 := by simp
  rw [e1] at ho2
  have hV0 : ¬ V = 0 := by omega
  clear hln hr ho1 hb1 hl2
  go_enter Try.func38, Try.ntmps38
  go_wp2
  go_loopw [15] (fun iv wr => ∃ (i : Nat) (D1 D2 : DataW Unit), iv = .int .i64 (i : Int) ∧ i ≤ m ∧ wr.ownsMap Try.prog 3 (plainElem Try.prog 3) w.heap.size (2 * i) D1 ∧ wr.ownsMap Try.prog 3 (plainElem Try.prog 3) (w.heap.size + 1) (2 * i) D2 ∧ Hid (CtIs kI IOk D1 (alS (qs.take i))) ∧ Hid (CtIs kI IOk D2 (dfS V (qs.take i))) ∧ Below w.heap.size w wr) (fun iv _ => (m - intOf iv).toNat)
  case atStart => exact ⟨0, .map [], .map [], rfl, by omega, ho1', ho2, CtIs.empty _ _, CtIs.empty _ _, hb2⟩
  case round =>
    clear ho1' ho2 hb2
    obtain ⟨i, D1, D2, rfl, hi, hn1, hn2, HC1, HC2, hB⟩ := hrel
    by_cases hlt : i < m
    · have hdi : decide ((i : Int) < (m : Int)) = true := by simp; omega
      have hii : (i : Int) < (m : Int) := by omega
      obtain ⟨p, hpi⟩ := HAT.out i hlt
      obtain ⟨hp1, hp2⟩ := HRG.out i p hpi
      obtain ⟨b, o, g, o1, c1, rfl, hc, hx, hy⟩ := pr_cells (HV.out wr hB) hpi
      have HTK : Hid (qs.take (i + 1) = qs.take i ++ [p]) := by show _ = _; rw [List.take_add_one, hpi]; rfl
      obtain ⟨X, HX⟩ : ∃ X, Hid (p.1 = X) := ⟨_, rfl⟩
      obtain ⟨Y, HY⟩ : ∃ Y, Hid (p.2 = Y) := ⟨_, rfl⟩
      rw [HX.out] at hx hp1
      rw [HY.out] at hy hp2
      obtain ⟨f1, He1⟩ : ∃ e, Hid (X + V - Y = e) := ⟨_, rfl⟩
      obtain ⟨f2, He2⟩ : ∃ e, Hid (Y + V - X = e) := ⟨_, rfl⟩
      obtain ⟨m1, Hm1⟩ : ∃ e, Hid (f1 % V = e) := ⟨_, rfl⟩
      obtain ⟨m2, Hm2⟩ : ∃ e, Hid (f2 % V = e) := ⟨_, rfl⟩
      have HA2 : Hid (alS (qs.take (i + 1)) = alS (qs.take i) ++ [X] ++ [Y]) := by show _ = _; rw [HTK.out, alS_two, HX.out, HY.out]
      have HD2 : Hid (dfS V (qs.take (i + 1)) = dfS V (qs.take i) ++ [m1] ++ [m2]) := by show _ = _; rw [HTK.out, dfS_two, HX.out, HY.out, He1.out, He2.out, Hm1.out, Hm2.out]
      have q1 : (X : Int) - (Y : Int) + (V : Int) = (f1 : Int) := by rw [← He1.out]; omega
      have q2 : (Y : Int) - (X : Int) + (V : Int) = (f2 : Int) := by rw [← He2.out]; omega
      have r1 : (f1 : Int) % (V : Int) = (m1 : Int) := by rw [← Hm1.out]; simp
      have r2 : (f2 : Int) % (V : Int) = (m2 : Int) := by rw [← Hm2.out]; simp
      have r1' : (f1 : Int).tmod (V : Int) = (m1 : Int) := by rw [Int.tmod_eq_emod_of_nonneg (by omega)]; exact r1
      have r2' : (f2 : Int).tmod (V : Int) = (m2 : Int) := by rw [Int.tmod_eq_emod_of_nonneg (by omega)]; exact r2
      have hf1 : f1 ≤ 99 := by rw [← He1.out]; omega
      have hf2 : f2 ≤ 99 := by rw [← He2.out]; omega
      have okX : IOk X := show X ≤ 999 by omega
      have okY : IOk Y := show Y ≤ 999 by omega
      have okm1 : IOk m1 := by show m1 ≤ 999; rw [← Hm1.out]; have := Nat.mod_lt f1 (show 0 < V by omega); omega
      have okm2 : IOk m2 := by show m2 ≤ 999; rw [← Hm2.out]; have := Nat.mod_lt f2 (show 0 < V by omega); omega
      have kX := kI_of okX
      have kY := kI_of okY
      have k1 := kI_of okm1
      have k2 := kI_of okm2
      have HBD1 : Hid ((alS (qs.take i)).length ≤ 14) := by show _ ≤ _; rw [alS_len, List.length_take]; omega
      have HBD2 : Hid ((dfS V (qs.take i)).length ≤ 14) := by show _ ≤ _; rw [dfS_len, List.length_take]; omega
      have HNE : Hid (some w.heap.size ≠ some (w.heap.size + 1)) := fun e => by have := Option.some.inj e; omega
      have HNE2 : Hid (some (w.heap.size + 1) ≠ some w.heap.size) := fun e => by have := Option.some.inj e; omega
      obtain ⟨A, HA⟩ : ∃ A, Hid (alS (qs.take i) = A) := ⟨_, rfl⟩
      obtain ⟨Bd, HBd⟩ : ∃ A, Hid (dfS V (qs.take i) = A) := ⟨_, rfl⟩
      rw [HA.out] at HC1 HA2 HBD1
      rw [HBd.out] at HC2 HD2 HBD2
      clear hpi HTK
      go_wp2
      go_quiet (fail)
      have hB3 := bdrewN hB nq
      have hn1' : (wr.drewN nq).ownsMap Try.prog 3 (plainElem Try.prog 3) w.heap.size (2 * i) D1 := hn1
      have hn2' : (wr.drewN nq).ownsMap Try.prog 3 (plainElem Try.prog 3) (w.heap.size + 1) (2 * i) D2 := hn2
      obtain ⟨w3, Hw3⟩ : ∃ w3, Hid (wr.drewN nq = w3) := ⟨_, rfl⟩
      rw [Hw3.out] at hB3 hn1' hn2' ⊢
      clear hn1 hn2 hB hc hx hy
      go_wp2_with (first
        | (at_lookup; refine wpList_lookup_own_int _ rfl _ _ 57 rfl 3 3 .i64 keyedI undMI und3 (zero3' _) w.heap.size (2 * i) D1 rfl hn1' _ _ rfl kX ?_; intro t1 hat1 _; obtain ⟨ha1, ha2⟩ := HC1.out.look_bd keyFI okX hat1
           have HP1 : Hid (CtIs kI IOk (D1.put (kI X) (.lit (.int .i64 (t1 + 1)))) (A ++ [X])) := HC1.out.put2 keyFI (hn1'.tidy keyedI) okX hat1
           have ht1 : t1 ≤ 99 := by have := HBD1.out; omega
           clear hat1 ha2)
        | (at_mapUpdate; refine wpList_mapUpdate_own _ rfl _ _ _ 57 rfl 3 3 keyedI undMI _ w.heap.size _ _ rfl hn1' (by unfold maxLen; omega) _ _ _ rfl rfl kX _ [] (plainElem_int und3 (WalkArith.wf_i64 (by omega))) ?_; intro w4 hn4 hg4; go_frame
           have hd4 := hn2'.kept hg4 HNE2.out
           have hB4 : Below w.heap.size w w4 := hB3.grown hg4 hB3.size (fun j hj => by cases hj; exact Nat.le_refl _)
           clear hn1' hn2' hB3)
        | (at_lookup; refine wpList_lookup_own_int _ rfl _ _ 57 rfl 3 3 .i64 keyedI undMI und3 (zero3' _) w.heap.size (2 * i + 1) _ rfl hn4 _ _ rfl kY ?_; intro t2 hat2 _; obtain ⟨hc1, hc2⟩ := HP1.out.look_bd keyFI okY hat2
           have HP2 : Hid (CtIs kI IOk ((D1.put (kI X) (.lit (.int .i64 (t1 + 1)))).put (kI Y) (.lit (.int .i64 (t2 + 1)))) (A ++ [X] ++ [Y])) := HP1.out.put2 keyFI (hn4.tidy keyedI) okY hat2
           have ht2 : t2 ≤ 99 := by have := HBD1.out; rw [List.length_append] at hc2; simp at hc2; omega
           clear hat2 hc2)
        | (at_mapUpdate; refine wpList_mapUpdate_own _ rfl _ _ _ 57 rfl 3 3 keyedI undMI _ w.heap.size _ _ rfl hn4 (by unfold maxLen; omega) _ _ _ rfl rfl kY _ [] (plainElem_int und3 (WalkArith.wf_i64 (by omega))) ?_; intro w5 hn5 hg5; go_frame
           have hd5 := hd4.kept hg5 HNE2.out
           have hB5 : Below w.heap.size w w5 := hB4.grown hg5 hB4.size (fun j hj => by cases hj; exact Nat.le_refl _)
           clear hn4 hd4 hB4)
        | (at_lookup; refine wpList_lookup_own_int _ rfl _ _ 57 rfl 3 3 .i64 keyedI undMI und3 (zero3' _) (w.heap.size + 1) (2 * i) D2 rfl hd5 _ _ rfl k1 ?_; intro t3 hat3 _; obtain ⟨hd1, hd2⟩ := HC2.out.look_bd keyFI okm1 hat3
           have HP3 : Hid (CtIs kI IOk (D2.put (kI m1) (.lit (.int .i64 (t3 + 1)))) (Bd ++ [m1])) := HC2.out.put2 keyFI (hd5.tidy keyedI) okm1 hat3
           have ht3 : t3 ≤ 99 := by have := HBD2.out; omega
           clear hat3 hd2)
        | (at_mapUpdate; refine wpList_mapUpdate_own _ rfl _ _ _ 57 rfl 3 3 keyedI undMI _ (w.heap.size + 1) _ _ rfl hd5 (by unfold maxLen; omega) _ _ _ rfl rfl k1 _ [] (plainElem_int und3 (WalkArith.wf_i64 (by omega))) ?_; intro w6 hd6 hg6; go_frame
           have hn6 := hn5.kept hg6 HNE.out
           have hB6 : Below w.heap.size w w6 := hB5.grown hg6 hB5.size (fun j hj => by cases hj; exact Nat.le_succ _)
           clear hn5 hd5 hB5)
        | (at_lookup; refine wpList_lookup_own_int _ rfl _ _ 57 rfl 3 3 .i64 keyedI undMI und3 (zero3' _) (w.heap.size + 1) (2 * i + 1) _ rfl hd6 _ _ rfl k2 ?_; intro t4 hat4 _; obtain ⟨hh1, hh2⟩ := HP3.out.look_bd keyFI okm2 hat4
           have HP4 : Hid (CtIs kI IOk ((D2.put (kI m1) (.lit (.int .i64 (t3 + 1)))).put (kI m2) (.lit (.int .i64 (t4 + 1)))) (Bd ++ [m1] ++ [m2])) := HP3.out.put2 keyFI (hd6.tidy keyedI) okm2 hat4
           have ht4 : t4 ≤ 99 := by have := HBD2.out; rw [List.length_append] at hh2; simp at hh2; omega
           clear hat4 hh2)
        | (at_mapUpdate; refine wpList_mapUpdate_own _ rfl _ _ _ 57 rfl 3 3 keyedI undMI _ (w.heap.size + 1) _ _ rfl hd6 (by unfold maxLen; omega) _ _ _ rfl rfl k2 _ [] (plainElem_int und3 (WalkArith.wf_i64 (by omega))) ?_; intro w7 hd7 hg7; go_frame
           have hn7 := hn6.kept hg7 HNE.out
           have hB7 : Below w.heap.size w w7 := hB6.grown hg7 hB6.size (fun j hj => by cases hj; exact Nat.le_succ _)
           clear hn6 hd6 hB6)
        | go_in)
      go_roundw
      case rel => exact ⟨i + 1, _, _, by go_num, by omega, hn7.mono (by omega), hd7.mono (by omega), by rw [HA2.out]; exact HP2.out, by rw [HD2.out]; exact HP4.out, hB7⟩
      case measure => simp [intOf]; omega
    · have hdi : decide ((i : Int) < (m : Int)) = false := by simp; omega
      have hdin : decide (i < m) = false := by simp; omega
      obtain rfl : i = m := by omega
      have c1 := ct_nod HC1.out
      have c2 := ct_nod HC2.out
      rw [HTA.out] at c1 c2
      rw [HL1.out] at c1
      rw [HL2.out] at c2
      obtain ⟨s1, Hs1⟩ : ∃ s, Hid (Maps.size D1 = s) := ⟨_, rfl⟩
      obtain ⟨s2, Hs2⟩ : ∃ s, Hid (Maps.size D2 = s) := ⟨_, rfl⟩
      rw [Hs1.out] at c1
      rw [Hs2.out] at c2
      have hs1 : s1 ≤ 99 := by have := hn1.size_le; rw [Hs1.out] at this; omega
      have hs2 : s2 ≤ 99 := by have := hn2.size_le; rw [Hs2.out] at this; omega
      have HQ2 : Hid (q = true ↔ s1 = V - 1 ∧ s2 = V - 1) := by show _ ↔ _; rw [← Hq.out, HQ.out, c1, c2]
      have hlen1 := fun ty => hn1.len undMI ty
      have hlen2 := fun ty => hn2.len undMI ty
      rw [Hs1.out] at hlen1
      rw [Hs2.out] at hlen2
      clear c1 c2 HC1 HC2
      by_cases h1 : s1 = V - 1
      · have hb1 : ((s1 : Int) == (V : Int) - 1) = true := by simp; omega
        by_cases h2 : s2 = V - 1
        · have hb2 : ((s2 : Int) == (V : Int) - 1) = true := by simp; omega
          have HR : Hid (q = true) := HQ2.out.2 ⟨h1, h2⟩
          clear h1 h2
          go_wp2
          go_ret
          exact ⟨by rw [HR.out]; rfl, hB⟩
        · have hb2 : ((s2 : Int) == (V : Int) - 1) = false := by simp; omega
          have HR : Hid (q = false) := by show _ = _; rw [Bool.eq_false_iff]; exact fun h => h2 (HQ2.out.1 h).2
          clear h1 h2
          go_wp2
          go_ret
          exact ⟨by rw [HR.out]; rfl, hB⟩
      · have hb1 : ((s1 : Int) == (V : Int) - 1) = false := by simp; omega
        have HR : Hid (q = false) := by show _ = _; rw [Bool.eq_false_iff]; exact fun h => h1 (HQ2.out.1 h).1
        clear h1
        go_wp2
        go_ret
        exact ⟨by rw [HR.out]; rfl, hB⟩
end Go.Proofs.Ytpeplnojmogkfaa
