/- The landed Primes, walked: what is left when the shorter ones are taken away. -/
import Derived.Test.YtcjkcgfohmhbcabX5
import Derived.Test.YtcjkcgfohmhbcabWdM
namespace Go.Proofs.Ytcjkcgfohmhbcab
open Go.RowKit

theorem psZ_le {k d : Nat} (hk : 1 ≤ k) : ∀ j, j ≤ d → -((j * k ^ d : Nat) : Int) ≤ psZ k d j ∧ psZ k d j ≤ ((j * k ^ d : Nat) : Int)
  | 0, _ => by
    rw [Nat.zero_mul]
    exact ⟨Int.le_refl _, Int.le_refl _⟩
  | j + 1, hj => by
    have ih := psZ_le (k := k) (d := d) hk j (by omega)
    have e : (j + 1) * k ^ d = j * k ^ d + k ^ d := by rw [Nat.add_mul, Nat.one_mul]
    rw [e]
    by_cases h : d % (j + 1) = 0
    · have h1 := psZ_yes (k := k) (n := d) (D := j + 1) (by omega) h
      have hm := mbN_le (d / (j + 1))
      have h2 := mul_le1 (k ^ (j + 1)) hm.1 hm.2
      have h3 : k ^ (j + 1) ≤ k ^ d := Nat.pow_le_pow_right hk hj
      rw [h1, Nat.add_sub_cancel]
      generalize mbN (d / (j + 1)) * ((k ^ (j + 1) : Nat) : Int) = t at h2 ⊢
      omega
    · rw [psZ_no (k := k) (n := d) (D := j + 1) (by omega) h, Nat.add_sub_cancel]
      omega
theorem ds_step_yes {k n D : Nat} (h1 : 1 ≤ D) (h : n % D = 0) : dsZ k n D = dsZ k n (D - 1) + (D : Int) * prZ k D := by
  obtain ⟨j, rfl⟩ : ∃ j, D = j + 1 := ⟨D - 1, by omega⟩
  show (if n % (j + 1) = 0 then dsZ k n j + ((j + 1 : Nat) : Int) * prZ k (j + 1) else dsZ k n j) = _
  rw [if_pos h, Nat.add_sub_cancel]
theorem ds_step_no {k n D : Nat} (h1 : 1 ≤ D) (h : ¬ n % D = 0) : dsZ k n D = dsZ k n (D - 1) := by
  obtain ⟨j, rfl⟩ : ∃ j, D = j + 1 := ⟨D - 1, by omega⟩
  show (if n % (j + 1) = 0 then dsZ k n j + ((j + 1 : Nat) : Int) * prZ k (j + 1) else dsZ k n j) = _
  rw [if_neg h, Nat.add_sub_cancel]
/-- A proper divisor's part is small. -/
theorem part_le {k n d : Nat} (hk : 1 ≤ k) (hn : n ≤ 60) (h18 : k ^ n ≤ 1000000000000000000) (hd : 1 ≤ d) (hdn : d < n) (h : n % d = 0) :
    -60000000000 ≤ (d : Int) * prZ k d ∧ (d : Int) * prZ k d ≤ 60000000000 := by
  have h1 : k ^ d ≤ 1000000000 := Nat.le_trans (Nat.pow_le_pow_right hk (half_le h hd hdn)) (root_le hk h18)
  have h2 := psZ_le (k := k) (d := d) hk d (Nat.le_refl _)
  have h3 : d * k ^ d ≤ 60 * 1000000000 := Nat.mul_le_mul (by omega) h1
  rw [pr_mul k hd (by omega)]
  omega
theorem ds_le {k n : Nat} (hk : 1 ≤ k) (hn : n ≤ 60) (h18 : k ^ n ≤ 1000000000000000000) : ∀ j, j < n → -((j * 60000000000 : Nat) : Int) ≤ dsZ k n j ∧ dsZ k n j ≤ ((j * 60000000000 : Nat) : Int)
  | 0, _ => by
    rw [Nat.zero_mul]
    exact ⟨Int.le_refl _, Int.le_refl _⟩
  | j + 1, hj => by
    have ih := ds_le hk hn h18 j (by omega)
    have e : ((((j + 1) * 60000000000 : Nat) : Int)) = ((j * 60000000000 : Nat) : Int) + 60000000000 := by rw [Nat.add_mul, Nat.one_mul, Int.natCast_add]; rfl
    rw [e]
    generalize ((j * 60000000000 : Nat) : Int) = q at ih ⊢
    by_cases h : n % (j + 1) = 0
    · have h1 := part_le hk hn h18 (by omega) hj h
      rw [ds_step_yes (by omega) h, Nat.add_sub_cancel]
      generalize ((j + 1 : Nat) : Int) * prZ k (j + 1) = t at h1 ⊢
      omega
    · rw [ds_step_no (by omega) h, Nat.add_sub_cancel]
      omega
theorem left_is {k n : Nat} (hn : 1 ≤ n) (hn6 : n ≤ 60) : (((k ^ n : Nat) : Int) - dsZ k n (n - 1)).tdiv (n : Int) = prZ k n := by
  have h := ds_full k hn hn6
  rw [ds_step_yes hn (Nat.mod_self n)] at h
  rw [show ((k ^ n : Nat) : Int) - dsZ k n (n - 1) = (n : Int) * prZ k n by omega]
  exact Int.mul_tdiv_cancel_left _ (by omega)
theorem pr_small {k n : Nat} (hk : 1 ≤ k) (hn1 : 1 ≤ n) (hn : n ≤ 60) (h18 : k ^ n ≤ 1000000000000000000) : -1100000000000000000 ≤ prZ k n ∧ prZ k n ≤ 1100000000000000000 := by
  have h := psZ_small hk hn1 hn h18 n (Nat.le_refl _)
  exact tdiv_small (B := 1100000000000000000) h.1 h.2
set_option maxRecDepth 100000 in
set_option maxHeartbeats 4000000 in
theorem primes_any (k : Nat) (hk : 1 ≤ k) : ∀ (n : Nat) (w : World), 1 ≤ n → n ≤ 60 → k ^ n ≤ 1000000000000000000 →
    Calls Try.prog 15 #[.int .i64 (k : Int), .int .i64 (n : Int)] w fun e w' => e = .returned (.int .i64 (prZ k n)) ∧ w' = w := by
  intro n
  induction n using Nat.strongRecOn with
  | _ n ih =>
    intro w hn1 hn60 h18
    have HIH : Hid (∀ d, 1 ≤ d → d < n → ∀ w, Calls Try.prog 15 #[.int .i64 (k : Int), .int .i64 (d : Int)] w fun e w' => e = .returned (.int .i64 (prZ k d)) ∧ w' = w) := fun d h1 h2 w => ih d h2 w h1 (by omega) (Nat.le_trans (Nat.pow_le_pow_right hk (by omega)) h18)
    have HPL : Hid (∀ d, 1 ≤ d → d < n → n % d = 0 → -60000000000 ≤ (d : Int) * prZ k d ∧ (d : Int) * prZ k d ≤ 60000000000) := fun d h1 h2 h3 => part_le hk hn60 h18 h1 h2 h3
    have HDL : Hid (∀ j, j < n → -((j * 60000000000 : Nat) : Int) ≤ dsZ k n j ∧ dsZ k n j ≤ ((j * 60000000000 : Nat) : Int)) := ds_le hk hn60 h18
    have HLF := left_is (k := k) hn1 hn60
    have hsm := pr_small hk hn1 hn60 h18
    have C1 := fun w => power_any k n w hk hn60 h18
    have HSY : Hid (∀ D, 1 ≤ D → n % D = 0 → dsZ k n D = dsZ k n (D - 1) + (D : Int) * prZ k D) := fun D a b => ds_step_yes a b
    have HSN : Hid (∀ D, 1 ≤ D → ¬ n % D = 0 → dsZ k n D = dsZ k n (D - 1)) := fun D a b => ds_step_no a b
    obtain ⟨A, HA⟩ : ∃ A, Hid (k ^ n = A) := ⟨_, rfl⟩
    obtain ⟨z, Hz⟩ : ∃ z, Hid (prZ k n = z) := ⟨_, rfl⟩
    rw [Hz.out] at HLF hsm ⊢
    rw [HA.out] at HLF h18 C1
    have HL : Hid (((A : Int) - dsZ k n (n - 1)).tdiv (n : Int) = z) := HLF
    have hd00 : dsZ k n 0 = 0 := rfl
    have Hd00 : Hid ((A : Int) - dsZ k n (1 - 1) = (A : Int)) := by show _ = _; rw [show 1 - 1 = 0 from rfl, hd00]; omega
    have hn0 : (n : Int) ≠ 0 := by omega
    clear ih HLF hd00
    go_enter Try.func15, Try.ntmps15
    go_wp2_with (go_at_call 20; refine (C1 _).mono ?_; rintro e w' ⟨rfl, hw⟩; subst w'; clear C1)
    go_loopw [5, 6] (fun sv dv wr => ∃ (D : Nat) (s : Int), dv = .int .i64 (D : Int) ∧ sv = .int .i64 s ∧ 1 ≤ D ∧ D ≤ n ∧ Hid ((A : Int) - dsZ k n (D - 1) = s) ∧ wr = w) (fun _ dv _ => (n + 1 - intOf dv).toNat)
    case atStart => exact ⟨1, A, rfl, rfl, by omega, hn1, Hd00, rfl⟩
    case round =>
      obtain ⟨D, s, rfl, rfl, hD1, hDn, HS, e1⟩ := hrel
      subst e1
      by_cases hlt : D < n
      · have hd : decide ((D : Int) < (n : Int)) = true := by simp; omega
        have hD0 : ¬ D = 0 := by omega
        obtain ⟨a, Ha⟩ : ∃ a, Hid (n % D = a) := ⟨_, rfl⟩
        have ea : (n : Int).tmod (D : Int) = (a : Int) := by rw [← Ha.out]; rfl
        have han : a < n := by rw [← Ha.out]; exact Nat.lt_of_lt_of_le (Nat.mod_lt n (by omega)) hDn
        by_cases h0 : a = 0
        · have hae : ((a : Int) == 0) = true := by simp [h0]
          have C := HIH.out D hD1 hlt wr
          have hpl := HPL.out D hD1 hlt (by rw [Ha.out]; exact h0)
          have hsy := HSY.out D hD1 (by rw [Ha.out]; exact h0)
          have hdl := HDL.out (D - 1) (by omega)
          have hs := HS.out
          obtain ⟨r, Hr⟩ : ∃ r, Hid (prZ k D = r) := ⟨_, rfl⟩
          obtain ⟨t, Ht⟩ : ∃ t, Hid ((D : Int) * prZ k D = t) := ⟨_, rfl⟩
          rw [Ht.out] at hpl hsy
          have et : (D : Int) * r = t := by rw [← Hr.out]; exact Ht.out
          rw [Hr.out] at C
          have HS2 : Hid ((A : Int) - dsZ k n (D + 1 - 1) = s - t) := by show _ = _; rw [Nat.add_sub_cancel, hsy]; omega
          have htw : IntKind.i64.wrap t = t := IntWalk.i64_in _ (by omega)
          have hsw : IntKind.i64.wrap (s - t) = s - t := IntWalk.i64_in _ (by omega)
          clear h0 hsy hdl hs
          go_wp2_with (go_at_call 15; refine C.mono ?_; rintro e w' ⟨rfl, rfl⟩; clear C)
          go_roundw
          case rel => exact ⟨D + 1, s - t, by go_num, rfl, by omega, by omega, HS2, trivial⟩
          case measure => simp [intOf]; omega
        · have hae : ((a : Int) == 0) = false := by simp; omega
          have HS2 : Hid ((A : Int) - dsZ k n (D + 1 - 1) = s) := by
            show _ = _
            rw [Nat.add_sub_cancel, HSN.out D hD1 (by rw [Ha.out]; exact h0)]; exact HS.out
          clear h0
          go_wp2
          go_roundw
          case rel => exact ⟨D + 1, s, by go_num, rfl, by omega, by omega, HS2, trivial⟩
          case measure => simp [intOf]; omega
      · obtain rfl : D = n := by omega
        have hd : decide ((D : Int) < (D : Int)) = false := by simp
        have ez : s.tdiv (D : Int) = z := by rw [← HS.out]; exact HL.out
        have hzw : IntKind.i64.wrap z = z := IntWalk.i64_in _ (by omega)
        go_wp2
        go_ret
        exact ⟨rfl, rfl⟩
set_option maxRecDepth 100000 in
set_option maxHeartbeats 4000000 in
theorem Primes_any : FPrimes := by
  intro kk nn w hk64
  by_cases hb : kk < 1 ∨ nn < 1 ∨ 60 < nn
  · have e1 : prE kk nn = 1 := by unfold prE; rw [if_pos hb]
    have e2 : pmZ kk nn = 0 := by unfold pmZ; rw [e1]; rfl
    rw [e1, e2]
    by_cases h1 : kk < 1
    · have hd1 : decide (kk < 1) = true := by simpa using h1
      clear h1 hb
      go_enter Try.func7, Try.ntmps7
      go_wp2
      go_ret2
      exact ⟨rfl, Below.refl _ _⟩
    · have hd1 : decide (kk < 1) = false := by simpa using h1
      by_cases h2 : nn < 1
      · have hd2 : decide (nn < 1) = true := by simpa using h2
        clear h1 h2 hb
        go_enter Try.func7, Try.ntmps7
        go_wp2
        go_ret2
        exact ⟨rfl, Below.refl _ _⟩
      · have hd2 : decide (nn < 1) = false := by simpa using h2
        have hd3 : decide (60 < nn) = true := by simp; omega
        clear h1 h2 hb
        go_enter Try.func7, Try.ntmps7
        go_wp2
        go_ret2
        exact ⟨rfl, Below.refl _ _⟩
  · obtain ⟨k, rfl⟩ : ∃ k : Nat, kk = k := ⟨kk.toNat, by omega⟩
    obtain ⟨n, rfl⟩ : ∃ n : Nat, nn = n := ⟨nn.toNat, by omega⟩
    have hd1 : decide ((k : Int) < 1) = false := by simp; omega
    have hd2 : decide ((n : Int) < 1) = false := by simp; omega
    have hd3 : decide ((60 : Int) < (n : Int)) = false := by simp; omega
    have C1 := isWithin_any k n 1000000000000000000 w (by omega) hk64 (by omega) (Nat.le_refl _)
    have hk1 : 1 ≤ k := by omega
    have hn1 : 1 ≤ n := by omega
    have hn60 : n ≤ 60 := by omega
    by_cases h18 : k ^ n ≤ 1000000000000000000
    · have C2 := primes_any k hk1 n w hn1 hn60 h18
      have e1 : prE k n = 0 := by unfold prE; rw [if_neg hb, Int.toNat_natCast, Int.toNat_natCast, if_neg (by omega)]
      have e2 : pmZ k n = prZ k n := by unfold pmZ; rw [if_pos e1, Int.toNat_natCast, Int.toNat_natCast]
      rw [e1, e2]
      rw [decide_eq_true h18] at C1
      clear hb h18
      go_enter Try.func7, Try.ntmps7
      go_wp2_with (first
        | (go_at_call 13; refine C1.mono ?_; rintro e w' ⟨rfl, rfl⟩; clear C1)
        | (go_at_call 15; refine C2.mono ?_; rintro e w' ⟨rfl, rfl⟩; clear C2))
      go_ret2
      exact ⟨rfl, Below.refl _ _⟩
    · have e1 : prE k n = 3 := by unfold prE; rw [if_neg hb, Int.toNat_natCast, Int.toNat_natCast, if_pos (by omega)]
      have e2 : pmZ k n = 0 := by unfold pmZ; rw [e1]; rfl
      rw [e1, e2]
      rw [decide_eq_false h18] at C1
      clear hb h18
      go_enter Try.func7, Try.ntmps7
      go_wp2_with (go_at_call 13; refine C1.mono ?_; rintro e w' ⟨rfl, rfl⟩; clear C1)
      go_ret2
      exact ⟨rfl, Below.refl _ _⟩
end Go.Proofs.Ytcjkcgfohmhbcab
