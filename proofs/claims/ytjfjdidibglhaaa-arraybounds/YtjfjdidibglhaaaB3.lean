/- The walk of the document's RaoOf, and the law ArrayBounds. -/
import Derived.Test.YtjfjdidibglhaaaB1
import Derived.Test.YtjfjdidibglhaaaB2
namespace Go.Proofs.Ytjfjdidibglhaaa
open Go.RowKit

theorem raP_mono (k s : Nat) {i : Nat} : ∀ {j : Nat}, i ≤ j → raP k s i ≤ raP k s j
  | 0, h => by
    have : i = 0 := by omega
    rw [this]
    exact Nat.le_refl _
  | j + 1, h => by
    by_cases e : i = j + 1
    · rw [e]; exact Nat.le_refl _
    · exact Nat.le_trans (raP_mono k s (by omega)) (Nat.le_add_right _ _)
theorem raP_raN (k s t : Nat) {i : Nat} (h : i ≤ t / 2 + 1) : raP k s i ≤ raN k s t := by
  refine Nat.le_trans (raP_mono k s h) ?_
  rw [raP_is]
  unfold raN
  split
  · exact Nat.le_add_right _ _
  · exact Nat.le_refl _
set_option maxRecDepth 100000 in
set_option maxHeartbeats 8000000 in
theorem RaoOf_any (k s t : Nat) (w : World) (hk1 : 1 ≤ k) (hk : k ≤ 30) (hs2 : 2 ≤ s) (hs : s ≤ 64) (ht : t ≤ k) :
    Calls Try.prog 18 #[.int .i64 (k : Int), .int .i64 (s : Int), .int .i64 (t : Int)] w fun e w' => e = .returned (.int .i64 (upT (raN k s t))) ∧ Below w.heap.size w w' := by
  obtain ⟨q, Hq⟩ : ∃ q, Hid (s - 1 = q) := ⟨_, rfl⟩
  have hq1 : (s : Int) - 1 = (q : Int) := by have := Hq.out; omega
  have hql : 1 ≤ q ∧ q ≤ 64 := by have := Hq.out; omega
  obtain ⟨u, Hu⟩ : ∃ u, Hid (t / 2 = u) := ⟨_, rfl⟩
  have hu1 : (t : Int).tdiv 2 = (u : Int) := by rw [← Hu.out]; rfl
  have hu2 : 2 * u ≤ t := by have := Hu.out; omega
  obtain ⟨r, Hr⟩ : ∃ r, Hid (t % 2 = r) := ⟨_, rfl⟩
  have hr1 : (t : Int).tmod 2 = (r : Int) := by rw [← Hr.out]; rfl
  have hr2 : r < 2 := by have := Hr.out; omega
  obtain ⟨B, HB⟩ : ∃ B : Nat → Nat, Hid (∀ i, raP k s i = B i) := ⟨fun i => raP k s i, fun _ => rfl⟩
  have HB0 : Hid (B 0 = 0) := by show _ = _; rw [← HB.out]; rfl
  have HBS : Hid (∀ i, B (i + 1) = B i + q ^ i * chB k i) := fun i => by rw [← HB.out, ← HB.out, ← Hq.out]; rfl
  have HBM : Hid (∀ i, i ≤ u + 1 → B i ≤ raN k s t) := fun i hi => by rw [← HB.out]; exact raP_raN k s t (by rw [Hu.out]; exact hi)
  have HPP : Hid (∀ i : Nat, 1 ≤ q ^ i) := fun i => Nat.pow_pos hql.1
  have HCP : Hid (∀ n i : Nat, i ≤ n → 1 ≤ chB n i) := fun n i h => chB_pos h
  have HCC : Hid (∀ n i : Nat, n ≤ 30 → i ≤ n → ∀ W, Calls Try.prog 30 #[.int .i64 (n : Int), .int .i64 (i : Int)] W fun e w' => e = .returned (.int .i64 (chB n i : Int)) ∧ Below W.heap.size W w') := fun n i hn hi W => chosen_any n i W hn hi
  have HCL : Hid (∀ n i : Nat, n ≤ 30 → (chB n i : Int) = upT (chB n i)) := fun n i hn => (upT_small (Nat.le_trans (chB_le n i) (Nat.le_trans (Nat.pow_le_pow_right (by decide) hn) (by decide)))).symm
  have HZ1 : Hid (r = 1 → raN k s t = B (u + 1) + q ^ (u + 1) * chB (k - 1) u) := fun e => by
    rw [← HB.out, raP_is]
    unfold raN
    rw [Hr.out, if_pos e, Hu.out, Hq.out]
  have HZ0 : Hid (r = 0 → raN k s t = B (u + 1)) := fun e => by
    rw [← HB.out, raP_is]
    unfold raN
    rw [Hr.out, if_neg (by omega), Hu.out]
  obtain ⟨Z, HZ⟩ : ∃ Z, Hid (raN k s t = Z) := ⟨_, rfl⟩
  rw [HZ.out] at HZ1 HZ0 HBM ⊢
  obtain ⟨z, Hz⟩ : ∃ z, Hid (upT Z = z) := ⟨_, rfl⟩
  rw [Hz.out]
  have HBIG : Hid (1000000000000000000 < Z → z = -1) := fun h => by rw [← Hz.out]; exact upT_big h
  have HSML : Hid (Z ≤ 1000000000000000000 → z = Z) := fun h => by rw [← Hz.out]; exact upT_small h
  go_enter Try.func18, Try.ntmps18
  go_wp2
  go_loopw [7, 8, 9, 10, 11] (fun sv pv iv _ _ wr => ∃ (i x : Nat) (p : Int), iv = .int .i64 (i : Int) ∧ i ≤ u + 1 ∧ sv = .int .i64 (x : Int) ∧ pv = .int .i64 p ∧ Hid (B i = x) ∧ x ≤ 1000000000000000000 ∧ Hid (p = upT (q ^ i)) ∧ Below w.heap.size w wr) (fun _ _ iv _ _ _ => (u + 1 - intOf iv).toNat)
  case atStart => exact ⟨0, 0, 1, rfl, by omega, rfl, rfl, HB0, by omega, (show (1 : Int) = upT (q ^ 0) by rw [Nat.pow_zero, upT_small (by omega)]; rfl), Below.refl _ _⟩
  case round =>
    obtain ⟨i, x, p, rfl, hi, rfl, rfl, HX, hx18, HP, hB⟩ := hrel
    by_cases hlt : i < u + 1
    · have hdi : decide ((i : Int) ≤ (u : Int)) = true := by simp; omega
      have hdin : decide (i ≤ u) = true := by simp; omega
      have C1 := HCC.out k i hk (by omega) wr
      obtain ⟨y, Hy⟩ : ∃ y, Hid (q ^ i * chB k i = y) := ⟨_, rfl⟩
      have HBi := HBS.out i
      rw [Hy.out, HX.out] at HBi
      have HBi1 : Hid (B (i + 1) = x + y) := HBi
      have hle := HBM.out (i + 1) (by omega)
      rw [HBi1.out] at hle
      have CT : ∀ W, Calls Try.prog 31 #[.int .i64 p, .int .i64 (chB k i : Int)] W fun e w' => e = .returned (.int .i64 (upT y)) ∧ w' = W := fun W => by
        rw [HP.out, HCL.out k i hk]
        exact timesUp_any (q ^ i) (chB k i) W (HPP.out i) (HCP.out k i (by omega)) (upT y) (by show _ = _; rw [Hy.out])
      obtain ⟨c, Hc⟩ : ∃ c, Hid (chB k i = c) := ⟨_, rfl⟩
      rw [Hc.out] at C1 CT
      obtain ⟨p2, HP2⟩ : ∃ p2, Hid (p2 = upT (q ^ (i + 1))) := ⟨_, rfl⟩
      have CP : ∀ W, Calls Try.prog 31 #[.int .i64 p, .int .i64 (q : Int)] W fun e w' => e = .returned (.int .i64 p2) ∧ w' = W := fun W => by
        rw [HP.out, show (q : Int) = upT q from (upT_small (by omega)).symm]
        exact timesUp_any (q ^ i) q W (HPP.out i) hql.1 p2 (by show _ = _; rw [HP2.out, Nat.pow_succ])
      by_cases hy : y ≤ 1000000000000000000
      · have e1 : upT y = (y : Int) := upT_small hy
        rw [e1] at CT
        have dy : decide ((y : Int) < 0) = false := by simp
        by_cases hxy : x + y ≤ 1000000000000000000
        · have dxy : decide ((1000000000000000000 : Int) < (x : Int) + (y : Int)) = false := by simp; omega
          clear HBi hle e1
          go_wp2_with (first
            | (go_at_call 30; refine C1.mono ?_; rintro e1 w1 ⟨rfl, b1⟩; clear C1)
            | (go_at_call 31; refine (CT _).mono ?_; rintro e2 w2 ⟨rfl, h2⟩; replace h2 := h2.symm; subst h2; clear CT)
            | (go_at_call 31; refine (CP _).mono ?_; rintro e3 w3 ⟨rfl, h3⟩; replace h3 := h3.symm; subst h3; clear CP))
          go_roundw
          case rel => exact ⟨i + 1, x + y, p2, by go_num, by omega, by go_num, rfl, HBi1, hxy, HP2, Below.next hB b1⟩
          case measure => simp [intOf]; omega
        · have dxy : decide ((1000000000000000000 : Int) < (x : Int) + (y : Int)) = true := by simp; omega
          obtain rfl : z = -1 := HBIG.out (by omega)
          clear HBi hle e1 hxy CP
          go_wp2_with (first
            | (go_at_call 30; refine C1.mono ?_; rintro e1 w1 ⟨rfl, b1⟩; clear C1)
            | (go_at_call 31; refine (CT _).mono ?_; rintro e2 w2 ⟨rfl, h2⟩; replace h2 := h2.symm; subst h2; clear CT))
          go_ret
          exact ⟨rfl, Below.next hB b1⟩
      · have e1 : upT y = -1 := upT_big (by omega)
        rw [e1] at CT
        obtain rfl : z = -1 := HBIG.out (by omega)
        clear HBi hle e1 CP
        go_wp2_with (first
          | (go_at_call 30; refine C1.mono ?_; rintro e1 w1 ⟨rfl, b1⟩; clear C1)
          | (go_at_call 31; refine (CT _).mono ?_; rintro e2 w2 ⟨rfl, h2⟩; replace h2 := h2.symm; subst h2; clear CT))
        go_ret
        exact ⟨rfl, Below.next hB b1⟩
    · have hdi : decide ((i : Int) ≤ (u : Int)) = false := by simp; omega
      have hdin : decide (i ≤ u) = false := by simp; omega
      have hiu : i = u + 1 := by omega
      have HXu : Hid (B (u + 1) = x) := by show _ = _; rw [← hiu]; exact HX.out
      have HPu : Hid (p = upT (q ^ (u + 1))) := by show _ = _; rw [← hiu]; exact HP.out
      clear hlt hiu HX HP
      by_cases hr : r = 1
      · subst hr
        obtain ⟨k', Hk'⟩ : ∃ k', Hid (k - 1 = k') := ⟨_, rfl⟩
        have hk'1 : (k : Int) - 1 = (k' : Int) := by have := Hk'.out; omega
        have hk'l : k' ≤ 30 ∧ u ≤ k' := by have := Hk'.out; have := Hr.out; omega
        have hZ := HZ1.out rfl
        rw [Hk'.out, HXu.out] at hZ
        have C1 := HCC.out k' u hk'l.1 hk'l.2 wr
        obtain ⟨y, Hy⟩ : ∃ y, Hid (q ^ (u + 1) * chB k' u = y) := ⟨_, rfl⟩
        rw [Hy.out] at hZ
        have CT : ∀ W, Calls Try.prog 31 #[.int .i64 p, .int .i64 (chB k' u : Int)] W fun e w' => e = .returned (.int .i64 (upT y)) ∧ w' = W := fun W => by
          rw [HPu.out, HCL.out k' u hk'l.1]
          exact timesUp_any (q ^ (u + 1)) (chB k' u) W (HPP.out _) (HCP.out k' u hk'l.2) (upT y) (by show _ = _; rw [Hy.out])
        obtain ⟨c, Hc⟩ : ∃ c, Hid (chB k' u = c) := ⟨_, rfl⟩
        rw [Hc.out] at C1 CT
        by_cases hy : y ≤ 1000000000000000000
        · have e1 : upT y = (y : Int) := upT_small hy
          rw [e1] at CT
          have dy : decide ((y : Int) < 0) = false := by simp
          by_cases hxy : x + y ≤ 1000000000000000000
          · have dxy : decide ((1000000000000000000 : Int) < (x : Int) + (y : Int)) = false := by simp; omega
            have HZZ : Hid (z = (x : Int) + (y : Int)) := by show _ = _; rw [HSML.out (by omega), hZ]; simp
            clear e1 hZ
            go_wp2_with (first
              | (go_at_call 30; refine C1.mono ?_; rintro e1 w1 ⟨rfl, b1⟩; clear C1)
              | (go_at_call 31; refine (CT _).mono ?_; rintro e2 w2 ⟨rfl, h2⟩; replace h2 := h2.symm; subst h2; clear CT))
            go_ret
            exact ⟨ret_int HZZ.out.symm, Below.next hB b1⟩
          · have dxy : decide ((1000000000000000000 : Int) < (x : Int) + (y : Int)) = true := by simp; omega
            obtain rfl : z = -1 := HBIG.out (by omega)
            clear e1 hZ hxy
            go_wp2_with (first
              | (go_at_call 30; refine C1.mono ?_; rintro e1 w1 ⟨rfl, b1⟩; clear C1)
              | (go_at_call 31; refine (CT _).mono ?_; rintro e2 w2 ⟨rfl, h2⟩; replace h2 := h2.symm; subst h2; clear CT))
            go_ret
            exact ⟨rfl, Below.next hB b1⟩
        · have e1 : upT y = -1 := upT_big (by omega)
          rw [e1] at CT
          obtain rfl : z = -1 := HBIG.out (by omega)
          clear e1 hZ
          go_wp2_with (first
            | (go_at_call 30; refine C1.mono ?_; rintro e1 w1 ⟨rfl, b1⟩; clear C1)
            | (go_at_call 31; refine (CT _).mono ?_; rintro e2 w2 ⟨rfl, h2⟩; replace h2 := h2.symm; subst h2; clear CT))
          go_ret
          exact ⟨rfl, Below.next hB b1⟩
      · obtain rfl : r = 0 := by omega
        have hZ := HZ0.out rfl
        rw [HXu.out] at hZ
        have HZZ : Hid (z = (x : Int)) := by show _ = _; rw [HSML.out (by omega), hZ]
        clear hZ
        go_wp2
        go_ret
        exact ⟨ret_int HZZ.out.symm, hB⟩
end Go.Proofs.Ytjfjdidibglhaaa
