/- The document's PrimesFault, mobius and PrimesOf, walked. -/
import Derived.Test.YtcjkcgfohmhbcaaW3
import Derived.Test.YtcjkcgfohmhbcaaWdP
namespace Go.Proofs.Ytcjkcgfohmhbcaa
open Go.RowKit

def prE (k n : Int) : Nat := if k < 1 ∨ n < 1 ∨ 60 < n then 1 else if 1000000000000000000 < k.toNat ^ n.toNat then 3 else 0
set_option maxRecDepth 100000 in
set_option maxHeartbeats 8000000 in
theorem PrimesFault_any (kk nn : Int) (w : World) (hk64 : kk < 2 ^ 63) :
    Calls Try.prog 18 #[.int .i64 kk, .int .i64 nn] w fun e w' => e = .returned (.int .i64 (prE kk nn : Int)) ∧ w' = w := by
  obtain ⟨z, Hz⟩ : ∃ z, Hid (prE kk nn = z) := ⟨_, rfl⟩
  rw [Hz.out]
  by_cases h1 : kk < 1
  · have HZ : Hid (z = 1) := by show _ = _; rw [← Hz.out]; unfold prE; rw [if_pos (.inl h1)]
    have hd : decide (kk < 1) = true := by simpa using h1
    rw [HZ.out]
    clear h1
    go_enter Try.func18, Try.ntmps18
    go_wp2
    go_ret
    exact ⟨rfl, rfl⟩
  have hd : decide (kk < 1) = false := by simpa using h1
  by_cases h2 : nn < 1
  · have HZ : Hid (z = 1) := by show _ = _; rw [← Hz.out]; unfold prE; rw [if_pos (.inr (.inl h2))]
    have hd2 : decide (nn < 1) = true := by simpa using h2
    rw [HZ.out]
    clear h1 h2
    go_enter Try.func18, Try.ntmps18
    go_wp2
    go_ret
    exact ⟨rfl, rfl⟩
  have hd2 : decide (nn < 1) = false := by simpa using h2
  by_cases h3 : 60 < nn
  · have HZ : Hid (z = 1) := by show _ = _; rw [← Hz.out]; unfold prE; rw [if_pos (.inr (.inr h3))]
    have hd3 : decide (60 < nn) = true := by simpa using h3
    rw [HZ.out]
    clear h1 h2 h3
    go_enter Try.func18, Try.ntmps18
    go_wp2
    go_ret
    exact ⟨rfl, rfl⟩
  have hd3 : decide (60 < nn) = false := by simpa using h3
  obtain ⟨k, rfl⟩ : ∃ k : Nat, kk = k := ⟨kk.toNat, by omega⟩
  obtain ⟨n, rfl⟩ : ∃ n : Nat, nn = n := ⟨nn.toNat, by omega⟩
  have hk1 : 1 ≤ k := by omega
  have hn60 : n ≤ 60 := by omega
  have HZ : Hid (z = if 1000000000000000000 < k ^ n then 3 else 0) := by
    show _ = _
    rw [← Hz.out]; unfold prE
    rw [if_neg (by omega), Int.toNat_natCast, Int.toNat_natCast]
  have HGT : Hid (∀ i, i < n → 1000000000000000000 < k ^ (i + 1) → z = 3) := fun i hi h => by
    have : k ^ (i + 1) ≤ k ^ n := Nat.pow_le_pow_right hk1 hi
    rw [HZ.out, if_pos (by omega)]
  have HLE : Hid (k ^ n ≤ 1000000000000000000 → z = 0) := fun h => by rw [HZ.out, if_neg (by omega)]
  obtain ⟨Q, HQ⟩ : ∃ Q, Hid (1000000000000000000 / k = Q) := ⟨_, rfl⟩
  have eQ : (1000000000000000000 : Int).tdiv (k : Int) = (Q : Int) := by rw [← HQ.out]; rfl
  have HQP : Hid (∀ p, Q < p ↔ 1000000000000000000 < p * k) := fun p => by rw [← HQ.out]; exact Nat.div_lt_iff_lt_mul hk1
  have hQ : Hid (Q ≤ 1000000000000000000) := by show Q ≤ _; rw [← HQ.out]; exact Nat.div_le_self _ _
  have hne : (k : Int) ≠ 0 := by omega
  have hQw : IntKind.i64.wrap (Q : Int) = (Q : Int) := IntWalk.i64_in _ (by have := hQ.out; omega)
  clear h1 h2 h3 HZ HQ Hz
  go_enter Try.func18, Try.ntmps18
  go_wp2
  go_loopw [5, 6] (fun pv iv wr => ∃ (i p : Nat), iv = .int .i64 (i : Int) ∧ pv = .int .i64 (p : Int) ∧ i ≤ n ∧ Hid (k ^ i = p) ∧ Hid (p ≤ 1000000000000000000) ∧ wr = w) (fun _ iv _ => (n - intOf iv).toNat)
  case atStart => exact ⟨0, 1, rfl, rfl, by omega, rfl, (show 1 ≤ 1000000000000000000 by decide), rfl⟩
  case round =>
    obtain ⟨i, p, rfl, rfl, hi, HP, hp, e1⟩ := hrel
    subst e1
    by_cases hlt : i < n
    · have hdi : decide ((i : Int) < (n : Int)) = true := by simp; omega
      have hii : (i : Int) < (n : Int) := by omega
      by_cases hqp : Q < p
      · have hdq : decide ((Q : Int) < (p : Int)) = true := by simp; omega
        have HZ3 : Hid (z = 3) := HGT.out i hlt (by rw [Nat.pow_succ, HP.out]; exact (HQP.out p).1 hqp)
        go_wp2
        go_ret
        exact ⟨by rw [HZ3.out]; rfl, rfl⟩
      · have hdq : decide ((Q : Int) < (p : Int)) = false := by simp; omega
        obtain ⟨r, Hr⟩ : ∃ r, Hid (p * k = r) := ⟨_, rfl⟩
        have hpk : Hid (r ≤ 1000000000000000000) := by
          show r ≤ _
          rw [← Hr.out]
          rcases Nat.lt_or_ge 1000000000000000000 (p * k) with h | h
          · exact absurd ((HQP.out p).2 h) hqp
          · exact h
        have er : (p : Int) * (k : Int) = (r : Int) := by rw [← Hr.out]; simp
        have hrw : IntKind.i64.wrap (r : Int) = (r : Int) := IntWalk.i64_in _ (by have := hpk.out; omega)
        have HP2 : Hid (k ^ (i + 1) = r) := by show _ = _; rw [Nat.pow_succ, HP.out]; exact Hr.out
        go_wp2
        go_roundw
        case rel => exact ⟨i + 1, r, by go_num, rfl, by omega, HP2, hpk, trivial⟩
        case measure => simp [intOf]; omega
    · have hdi : decide ((i : Int) < (n : Int)) = false := by simp; omega
      obtain rfl : i = n := by omega
      have HZ0 : Hid (z = 0) := HLE.out (by rw [HP.out]; exact hp.out)
      go_wp2
      go_ret
      exact ⟨by rw [HZ0.out]; rfl, rfl⟩
theorem mbF_end {f p n : Nat} {m : Int} (h : n < p) : mbF f p n m = m := by
  cases f with
  | zero => rfl
  | succ f => show (if n < p then m else _) = _; rw [if_pos h]
theorem mbF_no {f p n : Nat} {m : Int} (h : ¬ n < p) (h2 : ¬ n % p = 0) : mbF (f + 1) p n m = mbF f (p + 1) n m := by
  show (if n < p then m else if n % p = 0 then (if (n / p) % p = 0 then 0 else mbF f (p + 1) (n / p) (-m)) else mbF f (p + 1) n m) = _
  rw [if_neg h, if_neg h2]
theorem mbF_yes {f p n : Nat} {m : Int} (h : ¬ n < p) (h2 : n % p = 0) : mbF (f + 1) p n m = if (n / p) % p = 0 then 0 else mbF f (p + 1) (n / p) (-m) := by
  show (if n < p then m else if n % p = 0 then (if (n / p) % p = 0 then 0 else mbF f (p + 1) (n / p) (-m)) else mbF f (p + 1) n m) = _
  rw [if_neg h, if_pos h2]
theorem mbF_le : ∀ (f p n : Nat) (m : Int), -1 ≤ m → m ≤ 1 → -1 ≤ mbF f p n m ∧ mbF f p n m ≤ 1
  | 0, _, _, m, h1, h2 => ⟨h1, h2⟩
  | f + 1, p, n, m, h1, h2 => by
    have e : mbF (f + 1) p n m = if n < p then m else if n % p = 0 then (if (n / p) % p = 0 then 0 else mbF f (p + 1) (n / p) (-m)) else mbF f (p + 1) n m := rfl
    rw [e]
    split
    · exact ⟨h1, h2⟩
    · split
      · split
        · exact ⟨by decide, by decide⟩
        · exact mbF_le f _ _ _ (by omega) (by omega)
      · exact mbF_le f _ _ _ h1 h2
set_option maxRecDepth 100000 in
set_option maxHeartbeats 8000000 in
theorem mobius_any (N : Nat) (w : World) (h60 : N ≤ 60) :
    Calls Try.prog 35 #[.int .i64 (N : Int)] w fun e w' => e = .returned (.int .i64 (mbN N)) ∧ w' = w := by
  obtain ⟨z, Hz⟩ : ∃ z, Hid (mbN N = z) := ⟨_, rfl⟩
  rw [Hz.out]
  have HZ : Hid (mbF N 2 N 1 = z) := Hz.out
  go_enter Try.func35, Try.ntmps35
  go_wp2
  go_loopw [0, 3, 4] (fun nv mv pv wr => ∃ (n p : Nat) (m : Int), nv = .int .i64 (n : Int) ∧ mv = .int .i64 m ∧ pv = .int .i64 (p : Int) ∧ 2 ≤ p ∧ p ≤ N + 2 ∧ n ≤ N ∧ -1 ≤ m ∧ m ≤ 1 ∧ Hid (mbF (N + 2 - p) p n m = z) ∧ wr = w) (fun _ _ pv _ => (N + 2 - intOf pv).toNat)
  case atStart => exact ⟨N, 2, 1, rfl, rfl, rfl, by omega, by omega, by omega, by omega, by omega, HZ.out, rfl⟩
  case round =>
    clear HZ Hz
    obtain ⟨n, p, m, rfl, rfl, rfl, hp, hpN, hn, hm1, hm2, HF, e1⟩ := hrel
    subst e1
    by_cases hpn : p ≤ n
    · have hd : decide ((p : Int) ≤ (n : Int)) = true := by simp; omega
      have hp0 : ¬ p = 0 := by omega
      obtain ⟨f, Hf⟩ : ∃ f, N + 2 - p = f + 1 := ⟨N + 2 - p - 1, by omega⟩
      have Hf2 : N + 2 - (p + 1) = f := by omega
      rw [Hf] at HF
      obtain ⟨a, Ha⟩ : ∃ a, Hid (n % p = a) := ⟨_, rfl⟩
      have ea : (n : Int).tmod (p : Int) = (a : Int) := by rw [← Ha.out]; rfl
      have hpw : IntKind.i64.wrap ((p : Int) + 1) = (p : Int) + 1 := IntWalk.i64_in _ (by omega)
      by_cases h0 : a = 0
      · have hae : ((a : Int) == 0) = true := by simp [h0]
        obtain ⟨b, Hb⟩ : ∃ b, Hid (n / p = b) := ⟨_, rfl⟩
        have eb : (n : Int).tdiv (p : Int) = (b : Int) := by rw [← Hb.out]; rfl
        have hbn : b ≤ N := by rw [← Hb.out]; exact Nat.le_trans (Nat.div_le_self _ _) hn
        have hbw : IntKind.i64.wrap (b : Int) = (b : Int) := IntWalk.i64_in _ (by omega)
        obtain ⟨c, Hc⟩ : ∃ c, Hid (b % p = c) := ⟨_, rfl⟩
        have ec : (b : Int).tmod (p : Int) = (c : Int) := by rw [← Hc.out]; rfl
        have hst := mbF_yes (f := f) (p := p) (n := n) (m := m) (by omega) (by rw [Ha.out]; exact h0)
        rw [HF.out, Hb.out, Hc.out] at hst
        have hmw : IntKind.i64.wrap (-m) = -m := IntWalk.i64_in _ (by omega)
        by_cases hc0 : c = 0
        · have hce : ((c : Int) == 0) = true := by simp [hc0]
          rw [if_pos hc0] at hst
          have HZ0 : Hid (z = 0) := hst
          clear h0 hc0 hst
          go_wp2
          go_ret
          exact ⟨by rw [HZ0.out]; rfl, rfl⟩
        · have hce : ((c : Int) == 0) = false := by simp; omega
          rw [if_neg hc0] at hst
          have HF2 : Hid (mbF (N + 2 - (p + 1)) (p + 1) b (-m) = z) := by show _ = _; rw [Hf2]; exact hst.symm
          clear h0 hc0 hst
          go_wp2
          go_roundw
          case rel => exact ⟨b, p + 1, -m, rfl, rfl, by go_num, by omega, by omega, hbn, by omega, by omega, HF2, trivial⟩
          case measure => simp [intOf]; omega
      · have hae : ((a : Int) == 0) = false := by simp; omega
        have HF2 : Hid (mbF (N + 2 - (p + 1)) (p + 1) n m = z) := by
          show _ = _
          rw [Hf2, ← mbF_no (f := f) (by omega) (by rw [Ha.out]; exact h0)]
          exact HF.out
        clear h0
        go_wp2
        go_roundw
        case rel => exact ⟨n, p + 1, m, rfl, rfl, by go_num, by omega, by omega, hn, hm1, hm2, HF2, trivial⟩
        case measure => simp [intOf]; omega
    · have hd : decide ((p : Int) ≤ (n : Int)) = false := by simp; omega
      have HZ1 : Hid (z = m) := by show _ = _; rw [← HF.out, mbF_end (by omega)]
      go_wp2
      go_ret
      exact ⟨by rw [HZ1.out]; rfl, rfl⟩
end Go.Proofs.Ytcjkcgfohmhbcaa
