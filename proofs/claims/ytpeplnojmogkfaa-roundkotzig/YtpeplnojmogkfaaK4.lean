/- ring, isPerfect, Perfect, walked. -/
import Derived.Test.YtpeplnojmogkfaaK3
import Derived.Test.YtpeplnojmogkfaaRdZ
namespace Go.Proofs.Ytpeplnojmogkfaa
open Go.RowKit Go.Maps

set_option maxRecDepth 100000 in
set_option maxHeartbeats 8000000 in
theorem ring_any (n : Nat) (k l : List Nat) (g1 o1 c1 g2 o2 c2 : Nat) (w : World) (hn : 0 < n) (hn16 : n ≤ 16) (hk : Rnd n fun x => k.getD x 0) (hl : Rnd n fun x => l.getD x 0)
    (h1 : ∀ x, x < n → w.cell? ⟨g1, o1 + x, none⟩ = some (.int .i64 ((k.getD x 0 : Nat) : Int))) (h2 : ∀ x, x < n → w.cell? ⟨g2, o2 + x, none⟩ = some (.int .i64 ((l.getD x 0 : Nat) : Int))) :
    Calls Try.prog 40 #[.slice (some ⟨g1, o1, none⟩) n c1, .slice (some ⟨g2, o2, none⟩) n c2] w fun e w' => (∃ q : Nat, e = .returned (.int .i64 (q : Int)) ∧ q ≤ 99 ∧ (n ≤ q ↔ Cn n k l)) ∧ Below w.heap.size w w' := by
  obtain ⟨p, hp1, hpn, h0, hm⟩ := sgm_ret hn hk hl
  have HR : Hid (n ≤ 2 * p ↔ Cn n k l) := sgm_ring hn hk hl hp1 h0 hm
  have H0 : Hid (sgm k l p = 0) := h0
  have HM : Hid (∀ j, 0 < j → j < p → sgm k l j ≠ 0) := hm
  have HLT : Hid (∀ i, sgm k l i < n ∧ k.getD (sgm k l i) 0 < n) := fun i => ⟨sgm_lt hn hk hl i, (hk _ (sgm_lt hn hk hl i)).1⟩
  have HS : Hid (∀ i, sgm k l (i + 1) = l.getD (k.getD (sgm k l i) 0) 0) := fun i => rfl
  have HZ : Hid (sgm k l 0 = 0) := rfl
  have HC1 : Hid (∀ W, Below w.heap.size w W → ∀ x, x < n → W.cell? ⟨g1, o1 + x, none⟩ = some (.int .i64 ((k.getD x 0 : Nat) : Int))) := fun W b x hx => (b.cell (World.block_lt_of_cell? _ _ (h1 x hx))).trans (h1 x hx)
  have HC2 : Hid (∀ W, Below w.heap.size w W → ∀ x, x < n → W.cell? ⟨g2, o2 + x, none⟩ = some (.int .i64 ((l.getD x 0 : Nat) : Int))) := fun W b x hx => (b.cell (World.block_lt_of_cell? _ _ (h2 x hx))).trans (h2 x hx)
  have a1 := h1 0 hn
  obtain ⟨y0, Hy0⟩ : ∃ y, Hid (k.getD 0 0 = y) := ⟨_, rfl⟩
  have hy0 : y0 < n := by have := (HLT.out 0).2; rw [HZ.out, Hy0.out] at this; exact this
  have a2 := h2 y0 hy0
  obtain ⟨z0, Hz0⟩ : ∃ z, Hid (l.getD y0 0 = z) := ⟨_, rfl⟩
  rw [Hy0.out, Nat.add_zero] at a1
  rw [Hz0.out] at a2
  have HZ1 : Hid (z0 = sgm k l 1) := by show _ = _; rw [HS.out, HZ.out, Hy0.out, Hz0.out]
  have hy0i : (y0 : Int) < (n : Int) := by omega
  have hn0i : (0 : Int) < (n : Int) := by omega
  clear h1 h2 hk hl hm h0 HZ
  go_enter Try.func40, Try.ntmps40
  go_wp2
  go_loopw [5, 6] (fun lv tv wr => ∃ i q z : Nat, lv = .int .i64 (q : Int) ∧ tv = .int .i64 (z : Int) ∧ 1 ≤ i ∧ i ≤ p ∧ q ≤ 99 ∧ Hid (q = 2 * i) ∧ Hid (z = sgm k l i) ∧ Below w.heap.size w wr) (fun lv _ _ => (2 * p - intOf lv).toNat)
  case atStart => exact ⟨1, 2, z0, rfl, rfl, Nat.le_refl _, hp1, by omega, rfl, HZ1, Below.refl _ _⟩
  case round =>
    clear a1 a2
    obtain ⟨i, q, z, rfl, rfl, hi1, hip, hq, HQ, HZ, hB⟩ := hrel
    by_cases he : z = 0
    · have hz : ((z : Int) != 0) = false := by simp [he]
      have hipp0 : i = p := by
        refine Classical.byContradiction fun h => HM.out i hi1 (by omega) ?_
        rw [← HZ.out]; exact he
      have hipp : Hid (i = p) := hipp0
      clear hipp0
      clear he
      go_wp2
      go_ret
      exact ⟨⟨q, rfl, hq, by rw [HQ.out, hipp.out]; exact HR.out⟩, hB⟩
    · have hz : ((z : Int) != 0) = true := by simp [he]
      have hip2 : i < p := by
        refine Classical.byContradiction fun h => he ?_
        rw [HZ.out, show i = p by omega]; exact H0.out
      have hzn : z < n := by rw [HZ.out]; exact (HLT.out i).1
      have b1 := HC1.out wr hB z hzn
      obtain ⟨y, Hy⟩ : ∃ y, Hid (k.getD z 0 = y) := ⟨_, rfl⟩
      have hyn : y < n := by rw [← Hy.out, HZ.out]; exact (HLT.out i).2
      have b2 := HC2.out wr hB y hyn
      obtain ⟨x, Hx⟩ : ∃ x, Hid (l.getD y 0 = x) := ⟨_, rfl⟩
      rw [Hy.out] at b1
      rw [Hx.out] at b2
      have HX : Hid (x = sgm k l (i + 1)) := by show _ = _; rw [HS.out, ← HZ.out, Hy.out, Hx.out]
      have HQ2 : Hid (q + 2 = 2 * (i + 1)) := by show _ = _; rw [HQ.out]; omega
      have hq3 : q + 2 ≤ 99 := by rw [HQ2.out]; omega
      have hyi : (y : Int) < (n : Int) := by omega
      have hzi : (z : Int) < (n : Int) := by omega
      have hqp : q + 2 ≤ 2 * p := by rw [HQ2.out]; omega
      clear he
      go_wp2
      go_roundw
      case rel => exact ⟨i + 1, q + 2, x, by go_num, rfl, by omega, by omega, hq3, HQ2, HX, hB⟩
      case measure => simp [intOf]; omega
set_option maxRecDepth 100000 in
set_option maxHeartbeats 16000000 in
theorem isPerfect_any (n : Nat) (L : List (List Nat)) (v : Value) (w : World) (hv : Rw w v (toZ L)) (hL : Lkd n L) :
    Calls Try.prog 29 #[v] w fun e w' => (∃ q : Bool, e = .returned (.bool q) ∧ (q = true ↔ ∀ i j, j < i → i < L.length → Cn n (L.getD i []) (L.getD j []))) ∧ Below w.heap.size w w' := by
  have HV : Hid (∀ W, Below w.heap.size w W → Rw W v (toZ L)) := fun W b => hv.below b
  have h2 := hL.two
  have h16 := hL.le
  have hm15 := hL.few
  obtain ⟨a, cap, rfl, hcap, -⟩ := hv
  rw [toZ_len] at hcap ⊢
  obtain ⟨m, Hm⟩ : ∃ m, Hid (L.length = m) := ⟨_, rfl⟩
  have HLK : Hid (Lkd n L) := hL
  rw [Hm.out] at hm15 hcap ⊢
  have HSZ : Hid (m = L.length) := Hm.out.symm
  have HYES : Hid ((∀ i j, j < i → i < m → Cn n (L.getD i []) (L.getD j [])) → ∀ q : Bool, q = true → (q = true ↔ ∀ i j, j < i → i < m → Cn n (L.getD i []) (L.getD j []))) := fun h q hq => ⟨fun _ => h, fun _ => hq⟩
  have HNO : Hid (∀ i j, j < i → i < m → ¬ Cn n (L.getD i []) (L.getD j []) → (false = true ↔ ∀ i j, j < i → i < m → Cn n (L.getD i []) (L.getD j []))) := fun i j hj hi h => ⟨fun h => (by cases h), fun k => absurd (k i j hj hi) h⟩
  clear hL
  go_enter Try.func29, Try.ntmps29
  go_wp2
  go_loopw [9] (fun iv wr => ∃ i : Nat, iv = .int .i64 (i : Int) ∧ i ≤ m ∧ Hid (∀ x j, j < x → x < i → Cn n (L.getD x []) (L.getD j [])) ∧ Below w.heap.size w wr) (fun iv _ => (m - intOf iv).toNat)
  case atStart => exact ⟨0, rfl, by omega, (show ∀ x j, j < x → x < 0 → _ from fun x j _ h => by omega), Below.refl _ _⟩
  case round =>
    obtain ⟨i, rfl, hi, HI, hB⟩ := hrel
    by_cases hlt : i < m
    · have hdi : decide ((i : Int) < (m : Int)) = true := by simp; omega
      have hii : (i : Int) < (m : Int) := by omega
      have hic : (i : Int) ≤ (cap : Int) := by omega
      have hLi : i < L.length := by rw [← HSZ.out]; exact hlt
      obtain ⟨b, off, u, rfl, hc, hs⟩ := (HV.out wr hB).at (toZ_at hLi) rfl
      have hsn : ((L.getD i []).map Int.ofNat).length = n := by rw [List.length_map]; exact HLK.out.len i hLi
      obtain ⟨g1, o1, c1, rfl, _, hk1⟩ := hs.form hsn (by omega)
      obtain ⟨w1, hw1⟩ : ∃ w1 : World, w1 = wr := ⟨_, rfl⟩
      subst hw1
      have HC : Hid (∀ W, Below w1.heap.size w1 W → ∀ x, x < n → W.cell? ⟨g1, o1 + x, none⟩ = some (.int .i64 (((L.getD i []).getD x 0 : Nat) : Int))) := fun W bW x hx => by
        have h := hk1 x hx
        rw [nat_at] at h
        exact (bW.cell (World.block_lt_of_cell? _ _ h)).trans h
      have HB1 : Hid (Below w.heap.size w w1) := hB
      have HS1 : Hid (w.heap.size ≤ w1.heap.size) := hB.size
      clear hs hk1 hsn hB
      go_wp2
      go_loopw [18] (fun jv wr => ∃ j : Nat, jv = .int .i64 (j : Int) ∧ j ≤ i ∧ Hid (∀ y, y < j → Cn n (L.getD i []) (L.getD y [])) ∧ Below w1.heap.size w1 wr) (fun jv _ => (i - intOf jv).toNat)
      case atStart => exact ⟨0, rfl, by omega, (show ∀ y, y < 0 → _ from fun y h => by omega), Below.refl _ _⟩
      case round =>
        obtain ⟨j, rfl, hj, HJ, hB⟩ := hrel
        have hBw : Below w.heap.size w wr := HB1.out.trans (hB.mono HS1.out)
        by_cases hlj : j < i
        · have hdj : decide ((j : Int) < (i : Int)) = true := by simp; omega
          have hjj : (j : Int) < (i : Int) := by omega
          have hLj : j < L.length := by rw [← HSZ.out]; omega
          obtain ⟨b', off', u2, e', hc2, hs2⟩ := (HV.out wr hBw).at (toZ_at hLj) rfl
          simp only [Option.some.injEq, Addr.mk.injEq, and_true] at e'
          obtain ⟨rfl, rfl⟩ := e'
          have hsn2 : ((L.getD j []).map Int.ofNat).length = n := by rw [List.length_map]; exact HLK.out.len j hLj
          obtain ⟨g2, o2, c2, rfl, _, hk2⟩ := hs2.form hsn2 (by omega)
          have C := ring_any n (L.getD i []) (L.getD j []) g1 o1 c1 g2 o2 c2 wr (by omega) h16 (HLK.out.rnd i hLi) (HLK.out.rnd j hLj) (HC.out wr hB) (fun x hx => by have h := hk2 x hx; rw [nat_at] at h; exact h)
          clear hs2 hk2 hsn2
          go_wp2_with fail
          refine C.mono ?_
          rintro e w6 ⟨⟨q, rfl, hq, hqn⟩, b6⟩
          have hB6 := hB.trans (b6.mono hB.size)
          have hBw6 := hBw.trans (b6.mono hBw.size)
          clear C
          by_cases hqq : q < n
          · have hdq : decide ((q : Int) < (n : Int)) = true := by simp; omega
            have hdqn : decide (q < n) = true := by simp; omega
            have HN : Hid (¬ Cn n (L.getD i []) (L.getD j [])) := fun h => by have := hqn.2 h; omega
            clear hqn
            go_wp2
            go_ret
            exact ⟨⟨false, rfl, HNO.out i j hlj hlt HN.out⟩, hBw6⟩
          · have hdq : decide ((q : Int) < (n : Int)) = false := by simp; omega
            have hdqn : decide (q < n) = false := by simp; omega
            have HJ2 : Hid (∀ y, y < j + 1 → Cn n (L.getD i []) (L.getD y [])) := fun y hy => by
              by_cases e : y = j
              · subst e; exact hqn.1 (by omega)
              · exact HJ.out y (by omega)
            clear hqn
            go_wp2
            go_roundw
            case rel => exact ⟨j + 1, by go_num, by omega, HJ2, hB6⟩
            case measure => simp [intOf]; omega
        · have hdj : decide ((j : Int) < (i : Int)) = false := by simp; omega
          have hdjn : decide (j < i) = false := by simp; omega
          have HI2 : Hid (∀ x j, j < x → x < i + 1 → Cn n (L.getD x []) (L.getD j [])) := fun x y hy hx => by
            by_cases e : x = i
            · subst e; exact HJ.out y (by omega)
            · exact HI.out x y hy (by omega)
          go_wp2
          go_roundw
          case rel => exact ⟨i + 1, by go_num, by omega, HI2, hBw⟩
          case measure => simp [intOf]; omega
    · have hdi : decide ((i : Int) < (m : Int)) = false := by simp; omega
      have hdin : decide (i < m) = false := by simp; omega
      go_wp2
      go_ret
      exact ⟨⟨true, rfl, HYES.out (fun x j hj hx => HI.out x j hj (by omega)) true rfl⟩, hB⟩
set_option maxRecDepth 100000 in
set_option maxHeartbeats 8000000 in
theorem Perfect_any : FPerfect := by
  intro n ls v w hv
  have CC := Check_any n ls v w hv
  obtain ⟨z, Hz⟩ : ∃ z, Hid (rF n ls = z) := ⟨_, rfl⟩
  rw [Hz.out] at CC ⊢
  by_cases hz : z = 0
  · subst hz
    obtain ⟨N, L, rfl, e, hG⟩ := rF_ok Hz.out
    have e : ls = toZ L := e
    subst e
    have hrw := hv.rw
    have h2 := hG.two
    have h16 := hG.le
    have hf := hG.few
    have HP : Hid (PfcZ (N : Int) (toZ L) ↔ Pfc N L) := pfcZ_good hG
    have HLK : Hid (Lkd N L) := hG.lkd
    have CP := fun (W : World) (bW : Below w.heap.size w W) => isPerfect_any N L v W (hrw.below bW) HLK.out
    obtain ⟨a, cap, rfl, hcap, -⟩ := hrw
    rw [toZ_len] at hcap CC CP ⊢
    obtain ⟨m, Hm⟩ : ∃ m, Hid (L.length = m) := ⟨_, rfl⟩
    rw [Hm.out] at hcap CC CP hf ⊢
    have CK := fun W => isComplete_any N m a cap W (by omega) h16 (by omega)
    have HSZ : Hid (m = L.length) := Hm.out.symm
    clear hv hG hcap
    by_cases hc : m = N - 1
    · have hq : (m == N - 1) = true := by simp [hc]
      rw [hq] at CK
      have HPF : Hid (Pfc N L ↔ ∀ i j, j < i → i < m → Cn N (L.getD i []) (L.getD j [])) := by
        show _ ↔ _
        unfold Pfc
        rw [← HSZ.out]
        exact ⟨fun h => h.2, fun h => ⟨hc, h⟩⟩
      clear hq hc
      go_enter Try.func10, Try.ntmps10
      go_wp2_with (first
        | (go_at_call 9; refine CC.mono ?_; rintro e w1 ⟨rfl, b1⟩; clear CC)
        | (go_at_call 28; refine (CK _).mono ?_; rintro e w2 ⟨rfl, hw⟩; replace hw := hw.symm; subst hw; clear CK)
        | (go_at_call 29; refine (CP _ b1).mono ?_; rintro e w3 ⟨⟨q, rfl, hq⟩, b3⟩; clear CP))
      go_ret2
      exact ⟨⟨q, rfl, by rw [hq, HP.out, HPF.out]⟩, b1.trans (b3.mono b1.size)⟩
    · have hq : (m == N - 1) = false := by simp [hc]
      rw [hq] at CK
      have HPF : Hid (¬ PfcZ (N : Int) (toZ L)) := fun h => hc (by rw [HSZ.out]; exact (HP.out.1 h).1)
      clear hq hc CP
      go_enter Try.func10, Try.ntmps10
      go_wp2_with (first
        | (go_at_call 9; refine CC.mono ?_; rintro e w1 ⟨rfl, b1⟩; clear CC)
        | (go_at_call 28; refine (CK _).mono ?_; rintro e w2 ⟨rfl, hw⟩; replace hw := hw.symm; subst hw; clear CK))
      go_ret2
      exact ⟨⟨false, rfl, by simp [HPF.out]⟩, b1⟩
  · have HPF : Hid (¬ PfcZ n ls) := pfcZ_bad (by rw [Hz.out]; exact hz)
    obtain ⟨a, m, c, rfl⟩ := hv.form
    have hzb : ((z : Int) != 0) = true := by simp; omega
    clear hv hz
    go_enter Try.func10, Try.ntmps10
    go_wp2_with (go_at_call 9; refine CC.mono ?_; rintro e w1 ⟨rfl, b1⟩; clear CC)
    go_ret2
    exact ⟨⟨false, rfl, by simp [HPF.out]⟩, b1⟩
end Go.Proofs.Ytpeplnojmogkfaa
