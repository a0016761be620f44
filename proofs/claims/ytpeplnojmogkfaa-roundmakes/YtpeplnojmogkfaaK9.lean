/- Starter, isStrong, Strong, walked. -/
import Derived.Test.YtpeplnojmogkfaaK8
namespace Go.Proofs.Ytpeplnojmogkfaa
open Go.RowKit Go.Maps

theorem sF_shape {v : Int} {ps : List (List Int)} (h : ¬ (v < 3 ∨ 15 < v ∨ v % 2 = 0)) (h2 : (ps.length : Int) ≠ (v - 1) / 2) : sF v ps = 2 := by unfold sF; rw [if_neg h, if_pos h2]
set_option maxRecDepth 100000 in
set_option maxHeartbeats 16000000 in
theorem Starter_any : FStarter := by
  intro v ps pv w hv
  obtain ⟨hv, hl, hll⟩ := hv
  obtain ⟨z, Hz⟩ : ∃ z, Hid (sF v ps = z) := ⟨_, rfl⟩
  have HV : Hid (∀ W, Below w.heap.size w W → Rw W pv ps) := fun W b => hv.below b
  have HLL : Hid (∀ (i : Nat) l, ps[i]? = some l → l.length ≤ maxLen) := fun i l h => hll l (List.mem_of_getElem? h)
  obtain ⟨a, cap, rfl, -⟩ := hv
  unfold maxLen at hl
  have HAT : Hid (∀ i, i < ps.length → ∃ l, ps[i]? = some l) := fun i hi => ⟨_, List.getElem?_eq_getElem hi⟩
  have HLT : Hid (∀ (i : Nat) l, ps[i]? = some l → i < ps.length) := fun i l h => (List.getElem?_eq_some_iff.1 h).1
  have CT := fun W => isModulus_any v W
  rw [Hz.out]
  obtain ⟨m, Hm⟩ : ∃ m, Hid (ps.length = m) := ⟨_, rfl⟩
  by_cases h1 : v < 3 ∨ 15 < v ∨ v % 2 = 0
  · have HZ : Hid (z = 1) := by show _ = _; rw [← Hz.out]; exact sF_range ps h1
    rw [show (decide ¬ (v < 3 ∨ 15 < v ∨ v % 2 = 0)) = false by simp [h1]] at CT
    rw [Hm.out, HZ.out]
    clear HV HAT HLT HLL hll hl h1
    go_enter Try.func18, Try.ntmps18
    go_wp2_with (go_at_call 36; refine (CT _).mono ?_; rintro e w6 ⟨rfl, hw⟩; replace hw := hw.symm; subst hw; clear CT)
    go_ret
    exact ⟨rfl, Below.refl _ _⟩
  · rw [show (decide ¬ (v < 3 ∨ 15 < v ∨ v % 2 = 0)) = true by simp [h1]] at CT
    obtain ⟨V, rfl⟩ : ∃ V : Nat, v = V := ⟨v.toNat, by omega⟩
    have hV3 : 3 ≤ V := by omega
    have hV15 : V ≤ 15 := by omega
    obtain ⟨k, Hk⟩ : ∃ k : Nat, Hid ((k : Int) = ((V : Int) - 1) / 2) := ⟨(V - 1) / 2, show _ = _ by omega⟩
    have hk1 : ((V : Int) - 1) / 2 = (k : Int) := Hk.out.symm
    have hk2 : ((V : Int) - 1).tdiv 2 = (k : Int) := by rw [Int.tdiv_eq_ediv_of_nonneg (by omega)]; exact hk1
    have hk7 : k ≤ 7 := by omega
    by_cases h2 : m = k
    · have HZ : Hid (SfZ V ps z) := by show SfZ V ps z; rw [← Hz.out]; exact sfZ_of h1 (by rw [Hm.out, h2]; exact Hk.out)
      have HPR : Hid ((∀ (j : Nat) m, ps[j]? = some m → prF V m = 0) → ps = prZ (ps.map qO) ∧ ∀ p ∈ ps.map qO, (1 ≤ p.1 ∧ p.1 < V) ∧ 1 ≤ p.2 ∧ p.2 < V) := fun h => by
        have h' : ∀ l ∈ ps, prF V l = 0 := fun l hl => by
          obtain ⟨j, hj⟩ := List.getElem?_of_mem hl
          exact h j l hj
        refine ⟨prZ_qO h', fun p hp => ?_⟩
        obtain ⟨l, hl, rfl⟩ := List.mem_map.1 hp
        exact (prF_ok (h' l hl)).2
      have HLQ : Hid ((ps.map qO).length = (V - 1) / 2) := by show _ = _; rw [List.length_map, Hm.out, h2]; omega
      have HOD : Hid (V % 2 = 1) := by show _ = _; omega
      have HSZ : Hid (ps.length = m) := Hm.out
      rw [Hm.out] at hl HAT HLT ⊢
      subst h2
      have hne : ((m : Int) != (m : Int)) = false := by simp
      clear hll h1 hl Hz Hm
      go_enter Try.func18, Try.ntmps18
      go_wp2_with (go_at_call 36; refine (CT _).mono ?_; rintro e w6 ⟨rfl, hw⟩; replace hw := hw.symm; subst hw; clear CT)
      go_loopw [19] (fun iv wr => ∃ i : Nat, iv = .int .i64 (i : Int) ∧ i ≤ m ∧ Hid (∀ (j : Nat) l, j < i → ps[j]? = some l → prF V l = 0) ∧ Below w.heap.size w wr) (fun iv _ => (m - intOf iv).toNat)
      case atStart => exact ⟨0, rfl, by omega, (show ∀ (j : Nat) l, j < 0 → _ from fun j l h => by omega), Below.refl _ _⟩
      case round =>
        obtain ⟨i, rfl, hi, HO, hB⟩ := hrel
        by_cases hlt : i < m
        · have hdi : decide ((i : Int) < (m : Int)) = true := by simp; omega
          have hii : (i : Int) < (m : Int) := by omega
          obtain ⟨l, hli⟩ := HAT.out i hlt
          obtain ⟨b, off, u, rfl, hc, hs⟩ := (HV.out wr hB).at hli rfl
          have HROW : Hid (prF V l ≠ 0 → z = prF V l) := fun h => HZ.out.row i l hli (fun j q hj hq => HO.out j q hj hq) h
          have HO2 : Hid (prF V l = 0 → ∀ (j : Nat) q, j < i + 1 → ps[j]? = some q → prF V q = 0) := fun h j q hj hq => by
            by_cases e : j = i
            · subst e; rw [hli] at hq; cases hq; exact h
            · exact HO.out j q (by omega) hq
          have hlm := HLL.out i l hli
          have C := checkTwo_any V l u wr hs hlm hV15
          obtain ⟨r, Hr⟩ : ∃ r, Hid (prF V l = r) := ⟨_, rfl⟩
          rw [Hr.out] at C
          obtain ⟨ua, uc, rfl⟩ := hs.dest
          by_cases hr : r = 0
          · have HO3 := HO2.out (Hr.out.trans hr)
            have HO4 : Hid (∀ (j : Nat) q, j < i + 1 → ps[j]? = some q → prF V q = 0) := HO3
            subst hr
            clear HO3 HO2 HROW hlm hs hli HO
            go_wp2_with (go_at_call 37; refine C.mono ?_; rintro e w6 ⟨rfl, b6⟩; clear C)
            have hB6 := hB.trans (b6.mono hB.size)
            go_roundw
            case rel => exact ⟨i + 1, by go_num, by omega, HO4, hB6⟩
            case measure => simp [intOf]; omega
          · have HZ1 : Hid (z = r) := by
              show _ = _
              rw [← Hr.out]
              exact HROW.out (by rw [Hr.out]; exact hr)
            have hrb : ((r : Int) != 0) = true := by simp; omega
            clear HO2 HROW hlm hs hli HO
            go_wp2_with (go_at_call 37; refine C.mono ?_; rintro e w6 ⟨rfl, b6⟩; clear C)
            have hB6 := hB.trans (b6.mono hB.size)
            go_ret
            exact ⟨by rw [HZ1.out]; rfl, hB6⟩
        · have hdi : decide ((i : Int) < (m : Int)) = false := by simp; omega
          have hdin : decide (i < m) = false := by simp; omega
          have HA : Hid (∀ (j : Nat) l, ps[j]? = some l → prF V l = 0) := fun j l h => HO.out j l (by have := HLT.out j l h; omega) h
          obtain ⟨hps, hrg⟩ := HPR.out HA.out
          have hz := HZ.out.ok HA.out
          have hrw := HV.out wr hB
          rw [HSZ.out] at hrw
          rw [hps] at hrw
          have C := starts_any V (ps.map qO) _ wr hrw hV3 hV15 HOD.out HLQ.out hrg
          obtain ⟨q, Hq⟩ : ∃ q, Hid (cvB V (ps.map qO) = q) := ⟨_, rfl⟩
          rw [Hq.out] at C hz
          clear HO hps hrw HA HLT HAT HLL HV HSZ HPR hrg HZ
          cases q with
          | true =>
            have HZ1 : Hid (z = 0) := by show _ = _; rw [hz]; rfl
            clear hz
            go_wp2_with (go_at_call 38; refine C.mono ?_; rintro e w6 ⟨rfl, b6⟩; clear C)
            go_ret
            exact ⟨by rw [HZ1.out]; rfl, hB.trans (b6.mono hB.size)⟩
          | false =>
            have HZ1 : Hid (z = 6) := by show _ = _; rw [hz]; rfl
            clear hz
            go_wp2_with (go_at_call 38; refine C.mono ?_; rintro e w6 ⟨rfl, b6⟩; clear C)
            go_ret
            exact ⟨by rw [HZ1.out]; rfl, hB.trans (b6.mono hB.size)⟩
    · have HZ : Hid (z = 2) := by show _ = _; rw [← Hz.out]; exact sF_shape h1 (by rw [Hm.out, ← Hk.out]; omega)
      rw [Hm.out] at hl ⊢
      rw [HZ.out]
      have hne : ((m : Int) != (k : Int)) = true := by simp; omega
      clear HV HAT HLT HLL hll h1 h2
      go_enter Try.func18, Try.ntmps18
      go_wp2_with (go_at_call 36; refine (CT _).mono ?_; rintro e w6 ⟨rfl, hw⟩; replace hw := hw.symm; subst hw; clear CT)
      go_ret
      exact ⟨rfl, Below.refl _ _⟩
theorem stg_iff {V : Nat} {qs : List (Nat × Nat)} {D : DataW Unit} (h : CtIs kI IOk D (smS V qs)) {t : Int} (ht : D.atKey (kI 0) (.lit (.int .i64 0)) = .lit (.int .i64 t)) : Stg V qs ↔ t = 0 ∧ Maps.size D = qs.length := by
  have e := h.look keyFI (show IOk 0 by unfold IOk; omega) ht
  have hs := ct_nod h
  rw [smS_len] at hs
  unfold Stg
  rw [List.nodup_cons, hs, e]
  constructor
  · rintro ⟨h1, h2⟩
    exact ⟨by rw [List.count_eq_zero.2 h1]; rfl, h2⟩
  · rintro ⟨h1, h2⟩
    exact ⟨List.count_eq_zero.1 (by omega), h2⟩
set_option maxRecDepth 100000 in
set_option maxHeartbeats 16000000 in
theorem isStrong_any (V : Nat) (qs : List (Nat × Nat)) (pv : Value) (w : World) (hv : Rw w pv (prZ qs)) (hS : St V qs) (q : Bool) (hq : q = true ↔ Stg V qs) :
    Calls Try.prog 39 #[.int .i64 (V : Int), pv] w fun e w' => e = .returned (.bool q) ∧ Below w.heap.size w w' := by
  have HQ : Hid (q = true ↔ Stg V qs) := hq
  clear hq
  have hmm := @run_makeMap Try.prog
  have HV : Hid (∀ W, Below w.heap.size w W → Rw W pv (prZ qs)) := fun W b => hv.below b
  have HRG : Hid (∀ (i : Nat) p, qs[i]? = some p → p.1 < V ∧ p.2 < V) := fun i p h => ⟨(hS.rng p (List.mem_of_getElem? h)).1.2, (hS.rng p (List.mem_of_getElem? h)).2.2⟩
  have hV3 := hS.v3
  have hV15 := hS.v15
  have hln := hS.len
  obtain ⟨a, cap, rfl, -⟩ := hv
  obtain ⟨m, Hm⟩ : ∃ m, Hid (qs.length = m) := ⟨_, rfl⟩
  have HAT : Hid (∀ i, i < m → ∃ p, qs[i]? = some p) := fun i hi => ⟨_, List.getElem?_eq_getElem (by rw [Hm.out]; exact hi)⟩
  rw [Hm.out] at hln
  have hm7 : m ≤ 7 := by omega
  rw [prZ_len, Hm.out]
  have HTA : Hid (qs.take m = qs) := List.take_of_length_le (by rw [Hm.out]; omega)
  have hb1 := balloc w (.map #[] 0)
  have ho1 : (w.alloc (.map #[] 0)).ownsMap Try.prog 3 (plainElem (H := Unit) Try.prog 3) w.heap.size 0 (.map []) := World.ownsMap_made _ _ _ _
  have hV0 : ¬ V = 0 := by omega
  have k0 : keyOf Try.prog 3 (.int .i64 0) = some (kI 0) := kI_of (show IOk 0 by unfold IOk; omega)
  clear hln hS
  go_enter Try.func39, Try.ntmps39
  go_wp2
  go_loopw [11] (fun iv wr => ∃ (i : Nat) (D : DataW Unit), iv = .int .i64 (i : Int) ∧ i ≤ m ∧ wr.ownsMap Try.prog 3 (plainElem Try.prog 3) w.heap.size i D ∧ Hid (CtIs kI IOk D (smS V (qs.take i))) ∧ Below w.heap.size w wr) (fun iv _ => (m - intOf iv).toNat)
  case atStart => exact ⟨0, .map [], rfl, by omega, ho1, CtIs.empty _ _, hb1⟩
  case round =>
    clear ho1 hb1
    obtain ⟨i, D, rfl, hi, hn, HC, hB⟩ := hrel
    by_cases hlt : i < m
    · have hdi : decide ((i : Int) < (m : Int)) = true := by simp; omega
      have hii : (i : Int) < (m : Int) := by omega
      obtain ⟨p, hpi⟩ := HAT.out i hlt
      obtain ⟨hp1, hp2⟩ := HRG.out i p hpi
      obtain ⟨b, o, g, o1, c1, rfl, hc, hx, hy⟩ := pr_cells (HV.out wr hB) hpi
      have HTK : Hid (qs.take (i + 1) = qs.take i ++ [p]) := by show _ = _; rw [List.take_add_one, hpi]; rfl
      obtain ⟨X, HX⟩ : ∃ X, Hid (p.1 = X) := ⟨_, rfl⟩
      obtain ⟨Y, HY⟩ : ∃ Y, Hid (p.2 = Y) := ⟨_, rfl⟩
      obtain ⟨t, Ht⟩ : ∃ t, Hid (X + Y = t) := ⟨_, rfl⟩
      obtain ⟨s, Hs⟩ : ∃ s, Hid (t % V = s) := ⟨_, rfl⟩
      rw [HX.out] at hx hp1
      rw [HY.out] at hy hp2
      have q1 : (X : Int) + (Y : Int) = (t : Int) := by rw [← Ht.out]; omega
      have r1 : (t : Int) % (V : Int) = (s : Int) := by rw [← Hs.out]; simp
      have r2 : (t : Int).tmod (V : Int) = (s : Int) := by rw [Int.tmod_eq_emod_of_nonneg (by omega)]; exact r1
      have ht99 : t ≤ 99 := by rw [← Ht.out]; omega
      have r3 : (IntKind.i64.wrap ((X : Int) + (Y : Int))).tmod (V : Int) = (s : Int) := by
        rw [show IntKind.i64.wrap ((X : Int) + (Y : Int)) = (t : Int) by rw [IntKind.wrap_i64]; omega]; exact r2
      have HSM : Hid (smS V (qs.take (i + 1)) = smS V (qs.take i) ++ [s]) := by show _ = _; rw [HTK.out, smS_more, HX.out, HY.out, Ht.out, Hs.out]
      have oks : IOk s := by show s ≤ 999; rw [← Hs.out]; have := Nat.mod_lt t (show 0 < V by omega); omega
      have ks := kI_of oks
      have hlen : (smS V (qs.take i)).length ≤ 7 := by rw [smS_len, List.length_take]; omega
      clear hpi HTK
      obtain ⟨z, hlk, hat, _⟩ := hn.drew.lookup_int keyedI undMI und3 (zero3' wr.drew) ks
      obtain ⟨hz0, hz1⟩ := HC.out.look_bd keyFI oks hat
      have hz9 : z ≤ 99 := by omega
      have HC2 : Hid (CtIs kI IOk (D.put (kI s) (.lit (.int .i64 (z + 1)))) (smS V (qs.take (i + 1)))) := by
        show CtIs _ _ _ _
        rw [HSM.out]
        exact HC.out.put2 keyFI (hn.tidy keyedI) oks hat
      obtain ⟨w5, hup, hn5, hg5⟩ := hn.drew.update keyedI undMI (by unfold maxLen; omega) ks (plainElem_int (H := Unit) und3 (a := z + 1) (WalkArith.wf_i64 (by omega)))
      have hx5 := cell_grown (w := wr.drew) hn hg5 hx
      have hy5 := cell_grown (w := wr.drew) hn hg5 hy
      have hB5 : Below w.heap.size w w5 := hB.drew.grown hg5 hB.size (fun j hj => by cases hj; exact Nat.le_refl _)
      have hwr : IntKind.i64.wrap (z + 1) = z + 1 := by rw [IntKind.wrap_i64]; omega
      have hwt : IntKind.i64.wrap (t : Int) = (t : Int) := by rw [IntKind.wrap_i64]; omega
      have hSA : wr.drew.cell? ⟨g, o1, none⟩ = some (.int .i64 (X : Int)) ∧ wr.drew.cell? ⟨g, o1 + 1, none⟩ = some (.int .i64 (Y : Int)) := ⟨hx, hy⟩
      have hS5 : w5.cell? ⟨g, o1, none⟩ = some (.int .i64 (X : Int)) ∧ w5.cell? ⟨g, o1 + 1, none⟩ = some (.int .i64 (Y : Int)) := ⟨hx5, hy5⟩
      clear hat hz1 hlen hx hy hx5 hy5 hg5 hn HSM
      go_wp2_with fail
      go_region_held3 (fun W : World => W.cell? ⟨g, o1, none⟩ = some (.int .i64 (X : Int)) ∧ W.cell? ⟨g, o1 + 1, none⟩ = some (.int .i64 (Y : Int))) (first | exact hSA | exact hS5) (fail)
      all_goals
        clear hlk hup
        go_wp2
        go_roundw
        case rel => exact ⟨i + 1, _, by go_num, by omega, hn5, HC2, hB5⟩
        case measure => simp [intOf]; omega
    · have hdi : decide ((i : Int) < (m : Int)) = false := by simp; omega
      have hdin : decide (i < m) = false := by simp; omega
      obtain rfl : i = m := by omega
      have HC' : Hid (CtIs kI IOk D (smS V qs)) := by have := HC.out; rw [HTA.out] at this; exact this
      obtain ⟨t, hlk, hat, _⟩ := hn.lookup_int keyedI undMI und3 (zero3' wr) k0
      have hst := stg_iff HC'.out hat
      rw [Hm.out] at hst
      have hlen := fun ty => hn.len undMI ty
      obtain ⟨s, Hs⟩ : ∃ s, Hid (Maps.size D = s) := ⟨_, rfl⟩
      rw [Hs.out] at hst hlen
      have HST : Hid (q = true ↔ t = 0 ∧ s = i) := by show _ ↔ _; rw [HQ.out, hst]
      clear hst hat HC HC'
      by_cases h1 : t = 0
      · subst h1
        by_cases h2 : s = i
        · have hb2 : ((s : Int) == (i : Int)) = true := by simp [h2]
          have HR : Hid (q = true) := HST.out.2 ⟨rfl, h2⟩
          clear h2
          go_wp2
          go_ret
          exact ⟨by rw [HR.out]; rfl, hB⟩
        · have hb2 : ((s : Int) == (i : Int)) = false := by simp; omega
          have HR : Hid (q = false) := by show _ = _; rw [Bool.eq_false_iff]; exact fun h => h2 (HST.out.1 h).2
          clear h2
          go_wp2
          go_ret
          exact ⟨by rw [HR.out]; rfl, hB⟩
      · have hb1 : (t == 0) = false := by simp [h1]
        have HR : Hid (q = false) := by show _ = _; rw [Bool.eq_false_iff]; exact fun h => h1 (HST.out.1 h).1
        clear h1
        go_wp2
        go_ret
        exact ⟨by rw [HR.out]; rfl, hB⟩
end Go.Proofs.Ytpeplnojmogkfaa
