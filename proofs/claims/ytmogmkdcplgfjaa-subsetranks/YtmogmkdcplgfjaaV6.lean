/- The document's binomial, both and great, walked. -/
import Derived.Test.YtmogmkdcplgfjaaV5
import Derived.Test.YtmogmkdcplgfjaaSuC
namespace Go.Proofs.Ytmogmkdcplgfjaa
open Go.RowKit

def bnN (n k : Nat) : Nat := min (chs n k) 2147483648
set_option maxRecDepth 100000 in
set_option maxHeartbeats 4000000 in
theorem binomial_any (n k : Nat) (w : World) (hn : n ≤ 2000000000) (hk : k ≤ 30) :
    Calls Try.prog 45 #[.int .i64 (n : Int), .int .i64 (k : Int)] w fun e w' => e = .returned (.int .i64 (bnN n k : Int)) ∧ w' = w := by
  have hd0 : decide ((k : Int) < 0) = false := by simp
  by_cases h1 : n < k
  · have e1 : bnN n k = 0 := by unfold bnN; rw [chs_gt h1]; rfl
    have hd1 : decide (n < k) = true := by simpa using h1
    rw [e1]
    clear h1
    go_enter Try.func45, Try.ntmps45
    go_wp2
    go_ret
    exact ⟨rfl, rfl⟩
  · have hd1 : decide (n < k) = false := by simpa using h1
    obtain ⟨z, Hz⟩ : ∃ z, Hid (bnN n k = z) := ⟨_, rfl⟩
    obtain ⟨N, hN⟩ : ∃ N, Hid (n = N + k) := ⟨n - k, by show _ = _; omega⟩
    have HST : Hid (∀ i, chs (N + i) i * (N + (i + 1)) / (i + 1) = chs (N + (i + 1)) (i + 1)) := chs_step N
    have HBG : Hid (∀ i, i ≤ k → 2147483648 < chs (N + i) i → z = 2147483648) := fun i hi h => by
      have := chs_part (N := N) hi
      rw [← Hz.out, hN.out]
      unfold bnN
      omega
    have HEN : Hid (chs (N + k) k ≤ 2147483648 → z = chs (N + k) k) := fun h => by
      rw [← Hz.out, hN.out]
      unfold bnN
      omega
    have hnk : (n : Int) - (k : Int) = (N : Int) := by have := hN.out; omega
    have hN2 : N ≤ 2000000000 := by have := hN.out; omega
    rw [Hz.out]
    clear h1 Hz
    go_enter Try.func45, Try.ntmps45
    go_wp2
    go_loopw [5, 6] (fun bv iv wr => ∃ (i b : Nat), iv = .int .i64 ((i : Int) + 1) ∧ bv = .int .i64 (b : Int) ∧ i ≤ k ∧ b ≤ 2147483648 ∧ Hid (chs (N + i) i = b) ∧ wr = w) (fun _ iv _ => (k + 1 - intOf iv).toNat)
    case atStart => exact ⟨0, 1, rfl, rfl, by omega, by omega, chs_zero _, rfl⟩
    case round =>
      obtain ⟨i, b, rfl, rfl, hi, hb, HB, e1⟩ := hrel
      subst e1
      by_cases hlt : i < k
      · have hd : decide ((i : Int) + 1 ≤ (k : Int)) = true := by simp; omega
        have hst := HST.out i
        have hbg := HBG.out (i + 1) (by omega)
        rw [HB.out] at hst
        obtain ⟨p, Hp⟩ : ∃ p, Hid (b * (N + (i + 1)) = p) := ⟨_, rfl⟩
        have hpb : p ≤ 2147483648 * 2000000030 := by rw [← Hp.out]; exact Nat.mul_le_mul hb (by omega)
        have ep : (b : Int) * ((N : Int) + ((i : Int) + 1)) = (p : Int) := by
          rw [← Hp.out, show (N : Int) + ((i : Int) + 1) = ((N + (i + 1) : Nat) : Int) by omega]; simp
        have hpw : IntKind.i64.wrap (p : Int) = (p : Int) := IntWalk.i64_in _ (by omega)
        rw [Hp.out] at hst
        obtain ⟨q, Hq⟩ : ∃ q, Hid (p / (i + 1) = q) := ⟨_, rfl⟩
        have eq : (p : Int).tdiv ((i : Int) + 1) = (q : Int) := by rw [← Hq.out]; rfl
        rw [Hq.out] at hst
        have HB2 : Hid (chs (N + (i + 1)) (i + 1) = q) := hst.symm
        rw [← hst] at hbg
        have hqp : q ≤ p := by rw [← Hq.out]; exact Nat.div_le_self _ _
        have hqw : IntKind.i64.wrap (q : Int) = (q : Int) := IntWalk.i64_in _ (by omega)
        have hi1 : ¬ (i : Int) + 1 = 0 := by omega
        have hxw : IntKind.i64.wrap ((N : Int) + ((i : Int) + 1)) = (N : Int) + ((i : Int) + 1) := IntWalk.i64_in _ (by omega)
        by_cases hbig : 2147483648 < q
        · have hdq : decide ((2147483648 : Int) < (q : Int)) = true := by simp; omega
          have hdq2 : decide (2147483648 < q) = true := by simpa using hbig
          have HZ : Hid (z = 2147483648) := hbg hbig
          clear hst hbg
          go_wp2
          go_ret
          exact ⟨by rw [HZ.out]; rfl, rfl⟩
        · have hdq : decide ((2147483648 : Int) < (q : Int)) = false := by simp; omega
          have hdq2 : decide (2147483648 < q) = false := by simpa using hbig
          clear hst hbg
          go_wp2
          go_roundw
          case rel => exact ⟨i + 1, q, by go_num, rfl, by omega, by omega, HB2, trivial⟩
          case measure => simp [intOf]; omega
      · have hd : decide ((i : Int) + 1 ≤ (k : Int)) = false := by simp; omega
        obtain rfl : i = k := by omega
        have HZ : Hid (b = z) := by
          show _ = _
          rw [← HB.out, HEN.out (by rw [HB.out]; exact hb)]
        go_wp2
        go_ret
        exact ⟨by rw [HZ.out]; rfl, rfl⟩
set_option maxRecDepth 100000 in
set_option maxHeartbeats 4000000 in
theorem both_any (a b : Nat) (w : World) (ha : a < 2 ^ 62) (hb : b < 2 ^ 62) :
    Calls Try.prog 54 #[.int .i64 (a : Int), .int .i64 (b : Int)] w fun e w' => e = .returned (.int .i64 (Nat.gcd a b : Int)) ∧ Below w.heap.size w w' := by
  obtain ⟨z, Hz⟩ : ∃ z, Hid (Nat.gcd a b = z) := ⟨_, rfl⟩
  rw [Hz.out]
  go_enter Try.func54, Try.ntmps54
  go_wp2
  go_loopw [0, 1] (fun av bv wr => ∃ (x y : Nat), av = .int .i64 (x : Int) ∧ bv = .int .i64 (y : Int) ∧ x < 2 ^ 62 ∧ y < 2 ^ 62 ∧ Hid (Nat.gcd x y = z) ∧ Below w.heap.size w wr) (fun _ bv _ => (intOf bv).toNat)
  case atStart => exact ⟨a, b, rfl, rfl, ha, hb, Hz.out, Below.refl _ _⟩
  case round =>
    obtain ⟨x, y, rfl, rfl, hx, hy, HG, hB⟩ := hrel
    rcases Nat.lt_or_ge 0 y with h0 | h0
    · have hd : decide (0 < y) = true := by simpa using h0
      have HG2 : Hid (Nat.gcd y (x % y) = z) := by
        show _ = _
        rw [← HG.out, Nat.gcd_comm x y, Nat.gcd_rec y x, Nat.gcd_comm]
      have hlt := Nat.mod_lt x h0
      obtain ⟨r, hr⟩ : ∃ r, Hid (x % y = r) := ⟨_, rfl⟩
      have er : (x : Int).tmod (y : Int) = (r : Int) := by rw [← hr.out]; rfl
      rw [hr.out] at HG2 hlt
      have hy0 : ¬ y = 0 := by omega
      go_wp2
      go_quiet (fail)
      go_wp2
      go_roundw
      case rel => exact ⟨y, r, rfl, rfl, hy, by omega, HG2, bdrewN hB _⟩
      case measure => simp [intOf]; omega
    · obtain rfl : y = 0 := by omega
      have HZ : Hid (x = z) := by show _ = _; rw [← HG.out, Nat.gcd_zero_right]
      go_wp2
      go_ret
      exact ⟨by rw [HZ.out]; rfl, hB⟩
set_option maxRecDepth 100000 in
set_option maxHeartbeats 4000000 in
theorem great_any (n k : Nat) (w : World) (hn : n ≤ 2000000000) (hk : k ≤ 30) (hs : chs n k < 2 ^ 60) :
    Calls Try.prog 46 #[.int .i64 (n : Int), .int .i64 (k : Int)] w fun e w' => e = .returned (.int .i64 (chs n k : Int)) ∧ Below w.heap.size w w' := by
  have hd0 : decide ((k : Int) < 0) = false := by simp
  by_cases h1 : n < k
  · have e1 : chs n k = 0 := chs_gt h1
    have hd1 : decide (n < k) = true := by simpa using h1
    rw [e1]
    clear h1
    go_enter Try.func46, Try.ntmps46
    go_wp2
    go_ret
    exact ⟨rfl, Below.refl _ _⟩
  · have hd1 : decide (n < k) = false := by simpa using h1
    obtain ⟨z, Hz⟩ : ∃ z, Hid (chs n k = z) := ⟨_, rfl⟩
    obtain ⟨N, hN⟩ : ∃ N, Hid (n = N + k) := ⟨n - k, by show _ = _; omega⟩
    have HST : Hid (∀ i, chs (N + i) i / Nat.gcd (chs (N + i) i) (i + 1) * ((N + (i + 1)) / ((i + 1) / Nat.gcd (chs (N + i) i) (i + 1))) = chs (N + (i + 1)) (i + 1)) := gcd_step N
    have HSM : Hid (∀ i, i ≤ k → chs (N + i) i < 2 ^ 60) := fun i hi => by
      have := chs_part (N := N) hi
      rw [← hN.out] at this
      omega
    have HEN : Hid (chs (N + k) k = z) := by show _ = _; rw [← hN.out]; exact Hz.out
    have hnk : (n : Int) - (k : Int) = (N : Int) := by have := hN.out; omega
    have hN2 : N ≤ 2000000000 := by have := hN.out; omega
    rw [Hz.out]
    clear h1 Hz hs
    go_enter Try.func46, Try.ntmps46
    go_wp2
    go_loopw [5, 6] (fun bv iv wr => ∃ (i b : Nat), iv = .int .i64 ((i : Int) + 1) ∧ bv = .int .i64 (b : Int) ∧ i ≤ k ∧ Hid (chs (N + i) i = b) ∧ Below w.heap.size w wr) (fun _ iv _ => (k + 1 - intOf iv).toNat)
    case atStart => exact ⟨0, 1, rfl, rfl, by omega, chs_zero _, Below.refl _ _⟩
    case round =>
      obtain ⟨i, b, rfl, rfl, hi, HB, hBl⟩ := hrel
      by_cases hlt : i < k
      · have hd : decide ((i : Int) + 1 ≤ (k : Int)) = true := by simp; omega
        have hst := HST.out i
        have hsm := HSM.out i hi
        have hsm2 := HSM.out (i + 1) (by omega)
        rw [HB.out] at hst hsm
        have hg0 : 0 < Nat.gcd b (i + 1) := Nat.gcd_pos_of_pos_right _ (Nat.succ_pos i)
        have hgi := Nat.gcd_le_right b (Nat.succ_pos i)
        have C : ∀ W, Calls Try.prog 54 #[.int .i64 (b : Int), .int .i64 ((i : Int) + 1)] W fun e w' => e = .returned (.int .i64 (Nat.gcd b (i + 1) : Int)) ∧ Below W.heap.size W w' := fun W => both_any b (i + 1) W (by omega) (by omega)
        obtain ⟨gg, Hg⟩ : ∃ gg, Hid (Nat.gcd b (i + 1) = gg) := ⟨_, rfl⟩
        rw [show Nat.gcd b (Nat.succ i) = gg from Hg.out] at hgi
        rw [Hg.out] at hst hg0 C
        have hj0 : 0 < (i + 1) / gg := Nat.div_pos hgi hg0
        obtain ⟨j, Hj⟩ : ∃ j, Hid ((i + 1) / gg = j) := ⟨_, rfl⟩
        have ej : ((i : Int) + 1).tdiv (gg : Int) = (j : Int) := by rw [← Hj.out]; rfl
        have hji : j ≤ i + 1 := by rw [← Hj.out]; exact Nat.div_le_self _ _
        rw [Hj.out] at hst hj0
        obtain ⟨p, Hp⟩ : ∃ p, Hid (b / gg = p) := ⟨_, rfl⟩
        have ep : (b : Int).tdiv (gg : Int) = (p : Int) := by rw [← Hp.out]; rfl
        have hpb : p ≤ b := by rw [← Hp.out]; exact Nat.div_le_self _ _
        obtain ⟨q, Hq⟩ : ∃ q, Hid ((N + (i + 1)) / j = q) := ⟨_, rfl⟩
        have eq : ((N : Int) + ((i : Int) + 1)).tdiv (j : Int) = (q : Int) := by rw [← Hq.out]; rfl
        have hqn : q ≤ N + (i + 1) := by rw [← Hq.out]; exact Nat.div_le_self _ _
        rw [Hp.out, Hq.out] at hst
        obtain ⟨r, Hr⟩ : ∃ r, Hid (p * q = r) := ⟨_, rfl⟩
        have epq : (p : Int) * (q : Int) = (r : Int) := by rw [← Hr.out]; simp
        rw [Hr.out] at hst
        have HB2 : Hid (chs (N + (i + 1)) (i + 1) = r) := hst.symm
        rw [← hst] at hsm2
        have hrw : IntKind.i64.wrap (r : Int) = (r : Int) := IntWalk.i64_in _ (by omega)
        have hpw : IntKind.i64.wrap (p : Int) = (p : Int) := IntWalk.i64_in _ (by omega)
        have hqw : IntKind.i64.wrap (q : Int) = (q : Int) := IntWalk.i64_in _ (by omega)
        have hjw : IntKind.i64.wrap (j : Int) = (j : Int) := IntWalk.i64_in _ (by omega)
        have hxw : IntKind.i64.wrap ((N : Int) + ((i : Int) + 1)) = (N : Int) + ((i : Int) + 1) := IntWalk.i64_in _ (by omega)
        have hi1 : ¬ (i : Int) + 1 = 0 := by omega
        have hgn : ¬ gg = 0 := by omega
        have hjn : ¬ j = 0 := by omega
        clear hst
        go_wp2_with (go_at_call 54; refine (C _).mono ?_; rintro e w2 ⟨rfl, hb2⟩; clear C)
        go_quiet (fail)
        go_wp2
        go_roundw
        case rel => exact ⟨i + 1, r, by go_num, rfl, by omega, HB2, bdrewN (Below.next hBl hb2) _⟩
        case measure => simp [intOf]; omega
      · have hd : decide ((i : Int) + 1 ≤ (k : Int)) = false := by simp; omega
        obtain rfl : i = k := by omega
        have HZ : Hid (b = z) := by show _ = _; rw [← HB.out]; exact HEN.out
        go_wp2
        go_ret
        exact ⟨by rw [HZ.out]; rfl, hBl⟩
end Go.Proofs.Ytmogmkdcplgfjaa
