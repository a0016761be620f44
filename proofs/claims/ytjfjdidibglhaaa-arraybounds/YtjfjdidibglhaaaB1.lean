/- The walks of rao and Rao. -/
import Derived.Test.YtjfjdidibglhaaaA3
import Derived.Test.YtjfjdidibglhaaaA1
namespace Go.Proofs.Ytjfjdidibglhaaa
open Go.RowKit

/-- The sum ahead of i. -/
def raP (k s : Nat) : Nat → Nat
  | 0 => 0
  | i + 1 => raP k s i + (s - 1) ^ i * chB k i
theorem raP_is (k s : Nat) : ∀ u, raP k s (u + 1) = raS k s u
  | 0 => by simp [raP, raS, chB_zero]
  | u + 1 => by rw [raP, raP_is k s u]; rfl
theorem chB_cO (n i : Nat) (h : n ≤ 30) : cO (chB n i) = chB n i := cO_small (Nat.le_trans (chB_le n i) (Nat.le_trans (Nat.pow_le_pow_right (by decide) h) (by decide)))
set_option maxRecDepth 100000 in
set_option maxHeartbeats 8000000 in
theorem raow_any (k s t : Nat) (w : World) (hk1 : 1 ≤ k) (hk : k ≤ 30) (hs2 : 2 ≤ s) (hs : s ≤ 64) (ht : t ≤ k) :
    Calls Try.prog 29 #[.int .i64 (k : Int), .int .i64 (s : Int), .int .i64 (t : Int)] w fun e w' => e = .returned (.int .i64 (cO (raN k s t) : Int)) ∧ w' = w := by
  obtain ⟨q, Hq⟩ : ∃ q, Hid (s - 1 = q) := ⟨_, rfl⟩
  have hq1 : (s : Int) - 1 = (q : Int) := by have := Hq.out; omega
  have hql : 1 ≤ q ∧ q ≤ 64 := by have := Hq.out; omega
  obtain ⟨u, Hu⟩ : ∃ u, Hid (t / 2 = u) := ⟨_, rfl⟩
  have hu1 : (t : Int).tdiv 2 = (u : Int) := by rw [← Hu.out]; rfl
  have hu2 : 2 * u ≤ t := by have := Hu.out; omega
  obtain ⟨r, Hr⟩ : ∃ r, Hid (t % 2 = r) := ⟨_, rfl⟩
  have hr1 : (t : Int).tmod 2 = (r : Int) := by rw [← Hr.out]; rfl
  have hr2 : r < 2 := by have := Hr.out; omega
  obtain ⟨P, HP⟩ : ∃ P : Nat → Nat, Hid (∀ i, cO (q ^ i) = P i) := ⟨fun i => cO (q ^ i), fun _ => rfl⟩
  obtain ⟨B, HB⟩ : ∃ B : Nat → Nat, Hid (∀ i, cO (raP k s i) = B i) := ⟨fun i => cO (raP k s i), fun _ => rfl⟩
  have HPl : Hid (∀ i, 1 ≤ P i ∧ P i ≤ 1000000000000000001) := fun i => by
    rw [← HP.out]
    exact ⟨by have : 0 < q ^ i := Nat.pow_pos hql.1; unfold cO; omega, cO_le _⟩
  have HBl : Hid (∀ i, B i ≤ 1000000000000000001) := fun i => by rw [← HB.out]; exact cO_le _
  have HB0 : Hid (B 0 = 0) := by show _ = _; rw [← HB.out]; exact cO_small (x := 0) (by omega)
  have HCP : Hid (∀ i : Nat, i ≤ 31 → ∀ W, Calls Try.prog 32 #[.int .i64 (q : Int), .int .i64 (i : Int)] W fun e w' => e = .returned (.int .i64 (P i : Int)) ∧ w' = W) := fun i hi W => power_any q i W hql.1 hql.2 (by omega) (P i) (by show _ = _; exact HP.out i)
  have HCC : Hid (∀ n i : Nat, n ≤ 30 → i ≤ n → ∀ W, Calls Try.prog 38 #[.int .i64 (n : Int), .int .i64 (i : Int)] W fun e w' => e = .returned (.int .i64 (chB n i : Int)) ∧ w' = W) := fun n i hn hi W => choose_any n i W hn hi (chB n i) (by show _ = _; rfl)
  have HCl : Hid (∀ n i : Nat, n ≤ 30 → chB n i ≤ 1000000000000000001) := fun n i hn => by rw [← chB_cO n i hn]; exact cO_le _
  have HPR : Hid (∀ n i j : Nat, n ≤ 30 → prO (P i) (chB n j) = cO (q ^ i * chB n j)) := fun n i j hn => by
    have h := prO_cO (q ^ i) (chB n j)
    rw [chB_cO n j hn, HP.out] at h
    exact h
  have HSM : Hid (∀ i, min (B i + prO (P i) (chB k i)) 1000000000000000001 = B (i + 1)) := fun i => by
    rw [HPR.out k i i hk, ← HB.out, ← HB.out, cO_sum]
    show _ = cO (raP k s i + (s - 1) ^ i * chB k i)
    rw [Hq.out]
  have HZ1 : Hid (r = 1 → min (B (u + 1) + prO (P (u + 1)) (chB (k - 1) u)) 1000000000000000001 = cO (raN k s t)) := fun e => by
    rw [HPR.out (k - 1) _ _ (by omega), ← HB.out, cO_sum, raP_is]
    unfold raN
    rw [Hr.out, if_pos e, Hu.out, Hq.out]
  have HZ0 : Hid (r = 0 → B (u + 1) = cO (raN k s t)) := fun e => by
    rw [← HB.out, raP_is]
    unfold raN
    rw [Hr.out, if_neg (by omega), Hu.out]
  obtain ⟨z, Hz⟩ : ∃ z, Hid (cO (raN k s t) = z) := ⟨_, rfl⟩
  rw [Hz.out] at HZ1 HZ0 ⊢
  go_enter Try.func29, Try.ntmps29
  go_wp2
  go_loopw [8, 9, 14] (fun bv _ iv wr => ∃ i x : Nat, iv = .int .i64 (i : Int) ∧ i ≤ u + 1 ∧ bv = .int .i64 (x : Int) ∧ Hid (B i = x) ∧ wr = w) (fun _ _ iv _ => (u + 1 - intOf iv).toNat)
  case atStart => exact ⟨0, 0, rfl, by omega, rfl, HB0, rfl⟩
  case round =>
    obtain ⟨i, x, rfl, hi, rfl, HX, hw⟩ := hrel
    subst hw
    by_cases hlt : i < u + 1
    · have hdi : decide ((i : Int) < (u : Int) + 1) = true := by simp; omega
      have C1 := HCP.out i (by omega) wr
      have C2 := HCC.out k i hk (by omega) wr
      have hpl := HPl.out i
      obtain ⟨p, Hp⟩ : ∃ p, Hid (P i = p) := ⟨_, rfl⟩
      obtain ⟨c, Hc⟩ : ∃ c, Hid (chB k i = c) := ⟨_, rfl⟩
      have hcl := HCl.out k i hk
      rw [Hc.out] at C2 hcl
      rw [Hp.out] at C1 hpl
      have C3 := product_any p c wr hpl.1 hpl.2 hcl (prO p c) (by show _ = _; rfl)
      obtain ⟨m, Hm⟩ : ∃ m, Hid (prO p c = m) := ⟨_, rfl⟩
      have hml : m ≤ 1000000000000000001 := by rw [← Hm.out, prO_is]; exact cO_le _
      have hxl : x ≤ 1000000000000000001 := by rw [← HX.out]; exact HBl.out i
      rw [Hm.out] at C3
      obtain ⟨y, Hy⟩ : ∃ y, Hid (B (i + 1) = y) := ⟨_, rfl⟩
      have C4 := sum_any x m wr hxl hml y (by show _ = _; rw [← Hy.out, ← HSM.out i, Hp.out, Hc.out, Hm.out, HX.out])
      go_wp2_with (first
        | (go_at_call 32; refine C1.mono ?_; rintro e1 w1 ⟨rfl, h1⟩; replace h1 := h1.symm; subst h1; clear C1)
        | (go_at_call 38; refine C2.mono ?_; rintro e1 w1 ⟨rfl, h1⟩; replace h1 := h1.symm; subst h1; clear C2)
        | (go_at_call 37; refine C3.mono ?_; rintro e1 w1 ⟨rfl, h1⟩; replace h1 := h1.symm; subst h1; clear C3)
        | (go_at_call 36; refine C4.mono ?_; rintro e1 w1 ⟨rfl, h1⟩; replace h1 := h1.symm; subst h1; clear C4))
      go_roundw
      case rel => exact ⟨i + 1, y, by go_num, by omega, rfl, Hy, by first | rfl | trivial⟩
      case measure => simp [intOf]; omega
    · have hdi : decide ((i : Int) < (u : Int) + 1) = false := by simp; omega
      have hiu : i = u + 1 := by omega
      have HXu : Hid (B (u + 1) = x) := by show _ = _; rw [← hiu]; exact HX.out
      clear hlt hiu
      by_cases hr : r = 1
      · subst hr
        obtain ⟨k', Hk'⟩ : ∃ k', Hid (k - 1 = k') := ⟨_, rfl⟩
        have hk'1 : (k : Int) - 1 = (k' : Int) := by have := Hk'.out; omega
        have hk'l : k' ≤ 30 ∧ u ≤ k' := by have := Hk'.out; have := Hr.out; omega
        have C1 := HCP.out (u + 1) (by omega) wr
        rw [show ((u + 1 : Nat) : Int) = (u : Int) + 1 from rfl] at C1
        have C2 := HCC.out k' u hk'l.1 hk'l.2 wr
        have hpl := HPl.out (u + 1)
        have HZ1 := HZ1.out rfl
        rw [Hk'.out, HXu.out] at HZ1
        obtain ⟨p, Hp⟩ : ∃ p, Hid (P (u + 1) = p) := ⟨_, rfl⟩
        obtain ⟨c, Hc⟩ : ∃ c, Hid (chB k' u = c) := ⟨_, rfl⟩
        have hcl := HCl.out k' u hk'l.1
        rw [Hc.out] at C2 hcl HZ1
        rw [Hp.out] at C1 hpl HZ1
        have C3 := product_any p c wr hpl.1 hpl.2 hcl (prO p c) (by show _ = _; rfl)
        obtain ⟨m, Hm⟩ : ∃ m, Hid (prO p c = m) := ⟨_, rfl⟩
        have hml : m ≤ 1000000000000000001 := by rw [← Hm.out, prO_is]; exact cO_le _
        have hxl : x ≤ 1000000000000000001 := by rw [← HXu.out]; exact HBl.out _
        rw [Hm.out] at C3 HZ1
        have C4 := sum_any x m wr hxl hml z HZ1
        clear HZ1
        go_wp2_with (first
          | (go_at_call 32; refine C1.mono ?_; rintro e1 w1 ⟨rfl, h1⟩; replace h1 := h1.symm; subst h1; clear C1)
          | (go_at_call 38; refine C2.mono ?_; rintro e1 w1 ⟨rfl, h1⟩; replace h1 := h1.symm; subst h1; clear C2)
          | (go_at_call 37; refine C3.mono ?_; rintro e1 w1 ⟨rfl, h1⟩; replace h1 := h1.symm; subst h1; clear C3)
          | (go_at_call 36; refine C4.mono ?_; rintro e1 w1 ⟨rfl, h1⟩; replace h1 := h1.symm; subst h1; clear C4))
        go_ret
        exact ⟨rfl, rfl⟩
      · obtain rfl : r = 0 := by omega
        obtain rfl : x = z := HXu.out.symm.trans (HZ0.out rfl)
        go_wp2
        go_ret
        exact ⟨rfl, rfl⟩
/-- What Rao tells. -/
def raA (k s t : Nat) : Nat := if raN k s t ≤ 1000000000000000000 then raN k s t else 0
def raE (k s t : Nat) : Nat := if raN k s t ≤ 1000000000000000000 then 0 else 3
set_option maxRecDepth 100000 in
set_option maxHeartbeats 8000000 in
theorem Rao_ok (k s t : Nat) (w : World) (hk1 : 1 ≤ k) (hk : k ≤ 30) (hs2 : 2 ≤ s) (hs : s ≤ 64) (ht : t ≤ k) :
    Calls Try.prog 17 #[.int .i64 (k : Int), .int .i64 (s : Int), .int .i64 (t : Int)] w fun e w' => e = .returned (.tuple #[.int .i64 (raA k s t : Int), .int .i64 (raE k s t : Int)]) ∧ w' = w := by
  have CL := isLevels_any (s : Int) w
  have hlv : levB (s : Int) = true := by unfold levB; rw [Bool.and_eq_true, decide_eq_true_eq, decide_eq_true_eq]; omega
  rw [hlv] at CL
  have CR := raow_any k s t w hk1 hk hs2 hs ht
  have d1 : decide ((k : Int) < 1) = false := by simp; omega
  have d1n : decide (k < 1) = false := by simp; omega
  have d2 : decide ((30 : Int) < (k : Int)) = false := by simp; omega
  have d2n : decide (30 < k) = false := by simp; omega
  have d3 : decide ((t : Int) < 0) = false := by simp
  have d4 : decide ((k : Int) < (t : Int)) = false := by simp; omega
  have d4n : decide (k < t) = false := by simp; omega
  by_cases hb : raN k s t ≤ 1000000000000000000
  · have e1 : raA k s t = raN k s t := if_pos hb
    have e2 : raE k s t = 0 := if_pos hb
    rw [e1, e2]
    rw [cO_small hb] at CR
    obtain ⟨z, Hz⟩ : ∃ z, Hid (raN k s t = z) := ⟨_, rfl⟩
    rw [Hz.out] at CR hb ⊢
    have d5 : decide ((1000000000000000000 : Int) < (z : Int)) = false := by simp; omega
    have d5n : decide (1000000000000000000 < z) = false := by simp; omega
    clear e1 e2 hlv
    go_enter Try.func17, Try.ntmps17
    go_wp2_with (first
      | (go_at_call 20; refine CL.mono ?_; rintro e1 w1 ⟨rfl, h1⟩; replace h1 := h1.symm; subst h1; clear CL)
      | (go_at_call 29; refine CR.mono ?_; rintro e1 w1 ⟨rfl, h1⟩; replace h1 := h1.symm; subst h1; clear CR))
    go_ret2
    exact ⟨rfl, rfl⟩
  · have e1 : raA k s t = 0 := if_neg hb
    have e2 : raE k s t = 3 := if_neg hb
    rw [e1, e2]
    have e3 : cO (raN k s t) = 1000000000000000001 := by unfold cO; omega
    rw [e3] at CR
    clear e1 e2 e3 hlv hb
    go_enter Try.func17, Try.ntmps17
    go_wp2_with (first
      | (go_at_call 20; refine CL.mono ?_; rintro e1 w1 ⟨rfl, h1⟩; replace h1 := h1.symm; subst h1; clear CL)
      | (go_at_call 29; refine CR.mono ?_; rintro e1 w1 ⟨rfl, h1⟩; replace h1 := h1.symm; subst h1; clear CR))
    go_ret2
    exact ⟨rfl, rfl⟩
set_option maxRecDepth 100000 in
set_option maxHeartbeats 8000000 in
theorem Rao_bad (k s t : Int) (w : World) (h : ¬ (1 ≤ k ∧ k ≤ 30 ∧ levB s = true ∧ 0 ≤ t ∧ t ≤ k)) :
    Calls Try.prog 17 #[.int .i64 k, .int .i64 s, .int .i64 t] w fun e w' => e = .returned (.tuple #[.int .i64 0, .int .i64 1]) ∧ w' = w := by
  have CL := isLevels_any s w
  by_cases h1 : k < 1
  · have d1 : decide (k < 1) = true := decide_eq_true h1
    clear h h1
    go_enter Try.func17, Try.ntmps17
    go_wp2
    go_ret2
    exact ⟨rfl, rfl⟩
  · have d1 : decide (k < 1) = false := decide_eq_false h1
    by_cases h2 : 30 < k
    · have d2 : decide (30 < k) = true := decide_eq_true h2
      clear h h1 h2
      go_enter Try.func17, Try.ntmps17
      go_wp2
      go_ret2
      exact ⟨rfl, rfl⟩
    · have d2 : decide (30 < k) = false := decide_eq_false h2
      cases hl : levB s with
      | false =>
        rw [hl] at CL
        clear h h1 h2 hl
        go_enter Try.func17, Try.ntmps17
        go_wp2_with (go_at_call 20; refine CL.mono ?_; rintro e1 w1 ⟨rfl, h1⟩; replace h1 := h1.symm; subst h1; clear CL)
        go_ret2
        exact ⟨rfl, rfl⟩
      | true =>
        rw [hl] at CL
        by_cases h3 : t < 0
        · have d3 : decide (t < 0) = true := decide_eq_true h3
          clear h h1 h2 hl h3
          go_enter Try.func17, Try.ntmps17
          go_wp2_with (go_at_call 20; refine CL.mono ?_; rintro e1 w1 ⟨rfl, h1⟩; replace h1 := h1.symm; subst h1; clear CL)
          go_ret2
          exact ⟨rfl, rfl⟩
        · have d3 : decide (t < 0) = false := decide_eq_false h3
          have d4 : decide (k < t) = true := decide_eq_true (Classical.byContradiction fun q => h ⟨by omega, by omega, hl, by omega, by omega⟩)
          clear h h1 h2 hl h3
          go_enter Try.func17, Try.ntmps17
          go_wp2_with (go_at_call 20; refine CL.mono ?_; rintro e1 w1 ⟨rfl, h1⟩; replace h1 := h1.symm; subst h1; clear CL)
          go_ret2
          exact ⟨rfl, rfl⟩
end Go.Proofs.Ytjfjdidibglhaaa
