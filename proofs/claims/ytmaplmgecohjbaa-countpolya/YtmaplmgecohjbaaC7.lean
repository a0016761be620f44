/- The walk of BraceletsOf; the laws CountRings and CountPrime. -/
import Derived.Test.YtmaplmgecohjbaaC5
/- The walks of BeadsOf, BraceletsOf. -/
namespace Go.Proofs.Ytmaplmgecohjbaa
open Go.RowKit Go.Maps

theorem mobG_bd : ∀ (f n p : Nat) (m : Int), -1 ≤ m → m ≤ 1 → -1 ≤ mobG f n p m ∧ mobG f n p m ≤ 1
  | 0, _, _, m, h1, h2 => ⟨h1, h2⟩
  | f + 1, n, p, m, h1, h2 => by
    rw [mobG]
    split
    · split
      · split
        · omega
        · exact mobG_bd f _ _ _ (by omega) (by omega)
      · exact mobG_bd f _ _ _ h1 h2
    · exact ⟨h1, h2⟩
theorem mob_bd (n : Nat) : -1 ≤ mob n ∧ mob n ≤ 1 := mobG_bd n n 2 1 (by omega) (by omega)
/-- The inner sum's first m terms. -/
def inP (d k m : Nat) : Int := sumN (fun c => if d % (c + 1) = 0 then mob (d / (c + 1)) * ((k ^ (c + 1) : Nat) : Int) else 0) m
theorem inP_all (d k : Nat) : inP d k d = inS d k := rfl
theorem mob_mul_bd (x p : Nat) : -(p : Int) ≤ mob x * (p : Int) ∧ mob x * (p : Int) ≤ p := by
  obtain ⟨h1, h2⟩ := mob_bd x
  rcases (show mob x = -1 ∨ mob x = 0 ∨ mob x = 1 by omega) with e | e | e <;> rw [e] <;> omega
theorem inP_bd (d k : Nat) (hk : 2 ≤ k) : ∀ m, -(2 * ((k ^ m : Nat) : Int)) ≤ inP d k m ∧ inP d k m ≤ 2 * ((k ^ m : Nat) : Int)
  | 0 => by simp [inP, sumN]
  | m + 1 => by
    obtain ⟨h1, h2⟩ := inP_bd d k hk m
    have hp : 2 * k ^ m ≤ k ^ (m + 1) := by rw [Nat.pow_succ, Nat.mul_comm]; exact Nat.mul_le_mul_left _ hk
    unfold inP at h1 h2 ⊢
    rw [sumN]
    obtain ⟨h3, h4⟩ := mob_mul_bd (d / (m + 1)) (k ^ (m + 1))
    split <;> omega
/-- The whole sum's first m terms. -/
def docP (n k m : Nat) : Int := sumN (fun d => if n % (d + 1) = 0 then (inS (d + 1) k).tdiv ((d + 1 : Nat) : Int) else 0) m
theorem docP_all (n k : Nat) : docP n k n = docB n k := rfl
theorem tdiv_bd (a : Int) (d : Nat) (M : Int) (h1 : -M ≤ a) (h2 : a ≤ M) : -M ≤ a.tdiv d ∧ a.tdiv d ≤ M := by
  have h := Int.natAbs_tdiv a d
  have hd : a.natAbs.div d ≤ a.natAbs := Nat.div_le_self _ _
  simp only [Int.natAbs_natCast] at h
  rw [← h] at hd
  generalize a.tdiv d = q at *
  omega
theorem docP_bd (n k : Nat) (hk : 2 ≤ k) : ∀ m, -(4 * ((k ^ m : Nat) : Int)) ≤ docP n k m ∧ docP n k m ≤ 4 * ((k ^ m : Nat) : Int)
  | 0 => by simp [docP, sumN]
  | m + 1 => by
    obtain ⟨h1, h2⟩ := docP_bd n k hk m
    have hp : 2 * k ^ m ≤ k ^ (m + 1) := by rw [Nat.pow_succ, Nat.mul_comm]; exact Nat.mul_le_mul_left _ hk
    unfold docP at h1 h2 ⊢
    rw [sumN]
    obtain ⟨h3, h4⟩ := inP_bd (m + 1) k hk (m + 1)
    rw [inP_all] at h3 h4
    obtain ⟨h5, h6⟩ := tdiv_bd _ (m + 1) _ h3 h4
    split <;> omega

set_option maxHeartbeats 400000 in
theorem BeadsOf_one (n : Int) (w : World) : Calls Try.prog 12 #[.int .i64 n, .int .i64 1] w fun e w' => e = .returned (.int .i64 1) ∧ w' = w := by
  go_enter Try.func12, Try.ntmps12
  go_wp2
  go_ret
  exact ⟨rfl, rfl⟩

set_option maxRecDepth 100000 in
set_option maxHeartbeats 1000000 in
theorem BeadsOf_any (n k : Nat) (w : World) (h1 : 1 ≤ n) (hk : 2 ≤ k) (h : k ^ n ≤ 1000000000000000000) :
    Calls Try.prog 12 #[.int .i64 (n : Int), .int .i64 (k : Int)] w fun e w' => e = .returned (.int .i64 (docB n k)) ∧ w' = w := by
  have hn := few_beads hk h
  have hkk : k < 9223372036854775808 := by
    have := Nat.pow_le_pow_right (show 0 < k by omega) h1
    rw [Nat.pow_one] at this; omega
  have hk1 : ((k : Int) == 1) = false := by simp; omega
  have HP : Hid (∀ m, m ≤ n → k ^ m ≤ 1000000000000000000) := fun m hm => Nat.le_trans (pow_up (by omega) hm) h
  obtain ⟨R, HR⟩ : ∃ R, Hid (docB n k = R) := ⟨_, rfl⟩
  rw [HR.out]
  clear h
  go_enter Try.func12, Try.ntmps12
  go_wp2
  go_loop [5, 6] (fun x i => ∃ (d : Nat) (s : Int), x = .int .i64 s ∧ i = .int .i64 ((d : Int) + 1) ∧ d ≤ n ∧ Hid (docP n k d = s)) (fun _ i => (n + 1 - intOf i).toNat)
  case atStart => exact ⟨0, 0, rfl, rfl, by omega, (rfl : docP n k 0 = 0)⟩
  case round =>
    obtain ⟨d, s, rfl, rfl, hdn, HS⟩ := hrel
    have hsb := docP_bd n k hk d
    rw [HS.out] at hsb
    have hpd := HP.out d hdn
    by_cases hlt : d < n
    · have hdi : (d : Int) + 1 ≤ n := by omega
      have hdec : decide ((d : Int) + 1 ≤ n) = true := by simp; omega
      have hpd1 := HP.out (d + 1) (by omega)
      obtain ⟨s', HS'⟩ : ∃ s', Hid (docP n k (d + 1) = s') := ⟨_, rfl⟩
      have hsb' := docP_bd n k hk (d + 1)
      rw [HS'.out] at hsb'
      have hmi : (n : Int) % ((d : Int) + 1) = ((n % (d + 1) : Nat) : Int) := by simp
      have hd0 : (d : Int) + 1 ≠ 0 := by omega
      have hd1 : (0 : Int) < (d : Int) + 1 := by omega
      by_cases hm : n % (d + 1) = 0
      · have hb : ((n : Int) % ((d : Int) + 1) == 0) = true := by rw [hmi, hm]; rfl
        have hb' : (n : Int) % ((d : Int) + 1) = 0 := by omega
        obtain ⟨I, HI⟩ : ∃ I, Hid (inS (d + 1) k = I) := ⟨_, rfl⟩
        have hIb := inP_bd (d + 1) k hk (d + 1)
        rw [inP_all, HI.out] at hIb
        obtain ⟨Q, HQ⟩ : ∃ Q, Hid (I.tdiv ((d + 1 : Nat) : Int) = Q) := ⟨_, rfl⟩
        have hQb := tdiv_bd I (d + 1) _ hIb.1 hIb.2
        rw [HQ.out] at hQb
        have hQ2 : I.tdiv ((d : Int) + 1) = Q := HQ.out
        have hs' : s' = s + Q := by
          rw [← HS'.out, ← HS.out, ← HQ.out, ← HI.out]
          unfold docP
          rw [sumN, if_pos hm]
        clear hmi hm
        go_wp2
        go_loop [7, 8] (fun x i => ∃ (c : Nat) (t : Int), x = .int .i64 t ∧ i = .int .i64 ((c : Int) + 1) ∧ c ≤ d + 1 ∧ Hid (inP (d + 1) k c = t)) (fun _ i => (d + 2 - intOf i).toNat)
        case atStart => exact ⟨0, 0, rfl, rfl, by omega, (rfl : inP (d + 1) k 0 = 0)⟩
        case round =>
          obtain ⟨c, t, rfl, rfl, hcd, HT⟩ := hrel
          have htb := inP_bd (d + 1) k hk c
          rw [HT.out] at htb
          have hpc := HP.out c (by omega)
          by_cases hltc : c < d + 1
          · have hci : (c : Int) + 1 ≤ (d : Int) + 1 := by omega
            have hdecc : decide ((c : Int) + 1 ≤ (d : Int) + 1) = true := by simp; omega
            have hpc1 := HP.out (c + 1) (by omega)
            obtain ⟨t', HT'⟩ : ∃ t', Hid (inP (d + 1) k (c + 1) = t') := ⟨_, rfl⟩
            have htb' := inP_bd (d + 1) k hk (c + 1)
            rw [HT'.out] at htb'
            have hmi : ((d : Int) + 1) % ((c : Int) + 1) = (((d + 1) % (c + 1) : Nat) : Int) := by simp
            have hc0 : (c : Int) + 1 ≠ 0 := by omega
            have hc1 : (0 : Int) < (c : Int) + 1 := by omega
            by_cases hmc : (d + 1) % (c + 1) = 0
            · have hbc : (((d : Int) + 1) % ((c : Int) + 1) == 0) = true := by rw [hmi, hmc]; rfl
              have hbc' : ((d : Int) + 1) % ((c : Int) + 1) = 0 := by omega
              obtain ⟨q, Hq⟩ : ∃ q, Hid ((d + 1) / (c + 1) = q) := ⟨_, rfl⟩
              have hq : ((d : Int) + 1) / ((c : Int) + 1) = (q : Int) := by rw [← Hq.out]; simp
              have hqb : q ≤ d + 1 := by rw [← Hq.out]; exact Nat.div_le_self _ _
              have hmq := fun W => mobius_any q W (by omega)
              have hpw := fun W => powerOf_any k (c + 1) W (by omega) (by omega) (by omega)
              obtain ⟨mu, Hmu⟩ : ∃ mu, Hid (mob q = mu) := ⟨_, rfl⟩
              obtain ⟨p, Hp⟩ : ∃ p, Hid (k ^ (c + 1) = p) := ⟨_, rfl⟩
              have hmub := mob_bd q
              have hmm := mob_mul_bd q p
              have ht' : t' = t + mu * (p : Int) := by
                rw [← HT'.out, ← HT.out, ← Hmu.out, ← Hp.out, ← Hq.out]
                unfold inP
                rw [sumN, if_pos hmc]
              rw [Hmu.out] at hmq hmub hmm
              rw [Hp.out] at hpw hpc1 htb'
              rw [show ((c + 1 : Nat) : Int) = (c : Int) + 1 from rfl] at hpw
              obtain ⟨m2, Hm2⟩ : ∃ m2, Hid (mu * (p : Int) = m2) := ⟨_, rfl⟩
              have hm2 := Hm2.out
              rw [hm2] at ht' hmm
              clear hmi hmc
              go_wp2_with (first
                | (go_at_call 31; refine (hmq _).mono ?_; rintro e w1 ⟨rfl, rfl⟩)
                | (go_at_call 32; refine (hpw _).mono ?_; rintro e w2 ⟨rfl, rfl⟩))
              go_round
              case rel => exact ⟨c + 1, t', by rw [ht'], by go_num, by omega, HT'⟩
              case measure => simp [intOf]; omega
            · have hbc : (((d : Int) + 1) % ((c : Int) + 1) == 0) = false := by rw [hmi]; simp; omega
              have ht' : t' = t := by
                rw [← HT'.out, ← HT.out]
                unfold inP
                rw [sumN, if_neg hmc, Int.add_zero]
              subst ht'
              clear hmi hmc
              go_wp2
              go_round
              case rel => exact ⟨c + 1, t', rfl, by go_num, by omega, HT'⟩
              case measure => simp [intOf]; omega
          · have hci : ¬ (c : Int) + 1 ≤ (d : Int) + 1 := by omega
            have hdecc : decide ((c : Int) + 1 ≤ (d : Int) + 1) = false := by simp; omega
            obtain rfl : c = d + 1 := by omega
            obtain rfl : t = I := by rw [← HT.out, inP_all, HI.out]
            go_wp2
            go_round
            case rel => exact ⟨d + 1, s', by rw [hs'], by go_num, by omega, HS'⟩
            case measure => simp [intOf]; omega
      · have hb : ((n : Int) % ((d : Int) + 1) == 0) = false := by rw [hmi]; simp; omega
        have hs' : s' = s := by
          rw [← HS'.out, ← HS.out]
          unfold docP
          rw [sumN, if_neg hm, Int.add_zero]
        subst hs'
        clear hmi hm
        go_wp2
        go_round
        case rel => exact ⟨d + 1, s', rfl, by go_num, by omega, HS'⟩
        case measure => simp [intOf]; omega
    · have hdec : decide ((d : Int) + 1 ≤ n) = false := by simp; omega
      have hdi : ¬ (d : Int) + 1 ≤ n := by omega
      obtain rfl : d = n := by omega
      obtain rfl : s = R := by rw [← HS.out, docP_all, HR.out]
      go_wp2
      go_ret
      exact ⟨rfl, rfl⟩

end Go.Proofs.Ytmaplmgecohjbaa

namespace Go.Proofs.Ytmaplmgecohjbaa
open Go.RowKit Go.Maps

set_option maxHeartbeats 400000 in
theorem BraceletsOf_one (n : Int) (w : World) : Calls Try.prog 13 #[.int .i64 n, .int .i64 1] w fun e w' => e = .returned (.int .i64 1) ∧ w' = w := by
  go_enter Try.func13, Try.ntmps13
  go_wp2_with (go_at_call 12; refine (BeadsOf_one n _).mono ?_; rintro e w1 ⟨rfl, rfl⟩)
  go_ret
  exact ⟨rfl, rfl⟩

theorem docB_le {n k : Nat} (h1 : 1 ≤ n) (hk : 2 ≤ k) (h : k ^ n ≤ 1000000000000000000) : docB n k ≤ 1000000060000000000 := by
  have e := ring_eq (k := k) h1 (few_beads hk h)
  have e2 := turnS_small hk h1 h
  have h0 := docB_nonneg (k := k) h1 (few_beads hk h)
  have : docB n k * 1 ≤ docB n k * n := Int.mul_le_mul_of_nonneg_left (by omega) h0
  omega
theorem own_le {n k : Nat} (h1 : 1 ≤ n) (hk : 2 ≤ k) (h : k ^ n ≤ 1000000000000000000) : ownS n k ≤ 3000000000000000000 := by
  have h2 := own_small hk h1 h
  have : ownS n k * 1 ≤ ownS n k * n := Nat.mul_le_mul_left _ h1
  rw [← Int.natCast_mul, Nat.mul_comm] at h2
  omega

/-- p is a power that is small. -/
structure PowIs (k m p : Nat) : Prop where
  eq : k ^ m = p
  k0 : 0 < k
  le : k ^ m ≤ 1000000000000000000
  m60 : m ≤ 60
theorem powerOf_is (k m p : Nat) (w : World) (h : PowIs k m p) : Calls Try.prog 32 #[.int .i64 (k : Int), .int .i64 (m : Int)] w fun e w' => e = .returned (.int .i64 (p : Int)) ∧ w' = w := by
  have h1 := h.le
  have h2 := powerOf_any k m w h.k0 (by omega) (by have := h.m60; omega)
  rw [h.eq] at h2
  exact h2
theorem own_int1 {o p q : Nat} (h : o = p / 2 + q / 2 + 1) : (o : Int) = (p : Int) / 2 + (q : Int) / 2 + 1 := by omega
theorem own_int0 {o p q : Nat} (h : o = p / 2 + q / 2 + 0) : (o : Int) = (p : Int) / 2 + (q : Int) / 2 := by omega
set_option maxRecDepth 100000 in
set_option maxHeartbeats 1000000 in
theorem BraceletsOf_any (n k : Nat) (w : World) (h1 : 1 ≤ n) (hk : 2 ≤ k) (h : k ^ n ≤ 1000000000000000000) :
    Calls Try.prog 13 #[.int .i64 (n : Int), .int .i64 (k : Int)] w fun e w' => e = .returned (.int .i64 (docBr n k)) ∧ w' = w := by
  have hn := few_beads hk h
  have hkk : k < 9223372036854775808 := by
    have := Nat.pow_le_pow_right (show 0 < k by omega) h1
    rw [Nat.pow_one] at this; omega
  have hk1 : ((k : Int) == 1) = false := by simp; omega
  have hBe := fun W => BeadsOf_any n k W h1 hk h
  obtain ⟨b, Hb⟩ : ∃ b, Hid (docB n k = b) := ⟨_, rfl⟩
  obtain ⟨o, Ho⟩ : ∃ o, Hid (ownS n k = o) := ⟨_, rfl⟩
  have hb0 := docB_nonneg (k := k) h1 hn
  have hb1 := docB_le h1 hk h
  have ho1 := own_le h1 hk h
  have HP : Hid (∀ m, m ≤ n → k ^ m ≤ 1000000000000000000) := fun m hm => Nat.le_trans (pow_up (by omega) hm) h
  have hR : docBr n k = b / 2 + (o : Int) / 2 + (b % 2 + (o : Int) % 2) / 2 := by
    unfold docBr
    rw [Hb.out, Ho.out]
    rw [Hb.out] at hb0
    rw [Int.tdiv_eq_ediv_of_nonneg (by omega), Int.tdiv_eq_ediv_of_nonneg (by omega), Int.tmod_eq_emod_of_nonneg (by omega), Int.tmod_eq_emod_of_nonneg (by omega), Int.tdiv_eq_ediv_of_nonneg (by omega)]
  rw [Hb.out] at hBe hb0 hb1
  rw [Ho.out] at ho1
  rw [hR]
  clear h hR
  have hmn : (n : Int) % 2 = ((n % 2 : Nat) : Int) := by simp
  rcases Nat.mod_two_eq_zero_or_one n with h2 | h2
  · have hbn : ((n : Int) % 2 == 1) = false := by rw [hmn, h2]; rfl
    obtain ⟨m, Hm⟩ : ∃ m, Hid (n / 2 = m) := ⟨_, rfl⟩
    have hq : (n : Int) / 2 = (m : Int) := by rw [← Hm.out]; simp
    have hm1 : m + 1 ≤ n := by rw [← Hm.out]; omega
    obtain ⟨p, Hp⟩ : ∃ p, Hid (k ^ m = p) := ⟨_, rfl⟩
    obtain ⟨m1, Hm1⟩ : ∃ m1, Hid (m + 1 = m1) := ⟨_, rfl⟩
    have hq1' : (m : Int) + 1 = (m1 : Int) := by rw [← Hm1.out]; rfl
    obtain ⟨q, Hq⟩ : ∃ q, Hid (k ^ m1 = q) := ⟨_, rfl⟩
    have hp1 := HP.out m (by omega)
    have hq1 := HP.out m1 (by omega)
    have hP1 : PowIs k m p := ⟨Hp.out, by omega, hp1, by omega⟩
    have hP2 : PowIs k m1 q := ⟨Hq.out, by omega, hq1, by omega⟩
    rw [Hp.out] at hp1
    rw [Hq.out] at hq1
    have ho : o = p / 2 + q / 2 + (if p % 2 = 1 ∧ q % 2 = 1 then 1 else 0) := by
      rw [← Ho.out, ← Hp.out, ← Hq.out, ← Hm1.out]
      unfold ownS
      rw [if_neg (by omega), Hm.out]
    have hmp : (p : Int) % 2 = ((p % 2 : Nat) : Int) := by simp
    have hmq : (q : Int) % 2 = ((q % 2 : Nat) : Int) := by simp
    clear hmn
    by_cases hpo : p % 2 = 1
    · have hpb : ((p : Int) % 2 == 1) = true := by rw [hmp, hpo]; rfl
      by_cases hqo : q % 2 = 1
      · have hqb : ((q : Int) % 2 == 1) = true := by rw [hmq, hqo]; rfl
        rw [if_pos ⟨hpo, hqo⟩] at ho
        have hoi := own_int1 ho
        clear ho hmp hmq hpo hqo
        rw [hoi]
        go_enter Try.func13, Try.ntmps13
        go_wp2_with (first
          | (go_at_call 12; refine (hBe _).mono ?_; rintro e w1 ⟨rfl, rfl⟩)
          | (go_at_call 32; refine (powerOf_is k _ _ _ (by assumption)).mono ?_; rintro e w1 ⟨rfl, rfl⟩))
        go_ret
        exact ⟨rfl, rfl⟩
      · have hqb : ((q : Int) % 2 == 1) = false := by rw [hmq]; simp; omega
        rw [if_neg (fun h => hqo h.2)] at ho
        have hoi := own_int0 ho
        clear ho hmp hmq hpo hqo
        rw [hoi]
        go_enter Try.func13, Try.ntmps13
        go_wp2_with (first
          | (go_at_call 12; refine (hBe _).mono ?_; rintro e w1 ⟨rfl, rfl⟩)
          | (go_at_call 32; refine (powerOf_is k _ _ _ (by assumption)).mono ?_; rintro e w1 ⟨rfl, rfl⟩))
        go_ret
        exact ⟨rfl, rfl⟩
    · have hpb : ((p : Int) % 2 == 1) = false := by rw [hmp]; simp; omega
      rw [if_neg (fun h => hpo h.1)] at ho
      have hoi := own_int0 ho
      clear ho hmp hmq hpo
      rw [hoi]
      go_enter Try.func13, Try.ntmps13
      go_wp2_with (first
        | (go_at_call 12; refine (hBe _).mono ?_; rintro e w1 ⟨rfl, rfl⟩)
        | (go_at_call 32; refine (powerOf_is k _ _ _ (by assumption)).mono ?_; rintro e w1 ⟨rfl, rfl⟩))
      go_ret
      exact ⟨rfl, rfl⟩
  · have hbn : ((n : Int) % 2 == 1) = true := by rw [hmn, h2]; rfl
    obtain ⟨m, Hm⟩ : ∃ m, Hid ((n + 1) / 2 = m) := ⟨_, rfl⟩
    have hq : ((n : Int) + 1) / 2 = (m : Int) := by rw [← Hm.out]; simp
    have hm1 : m ≤ n := by rw [← Hm.out]; omega
    have hp1 := HP.out m hm1
    have ho : k ^ m = o := by
      rw [← Ho.out, ← Hm.out]
      unfold ownS
      rw [if_pos h2]
    have hP1 : PowIs k m o := ⟨ho, by omega, hp1, by omega⟩
    rw [ho] at hp1
    clear hmn ho
    go_enter Try.func13, Try.ntmps13
    go_wp2_with (first
      | (go_at_call 12; refine (hBe _).mono ?_; rintro e w1 ⟨rfl, rfl⟩)
      | (go_at_call 32; refine (powerOf_is k _ _ _ (by assumption)).mono ?_; rintro e w1 ⟨rfl, rfl⟩))
    go_ret
    exact ⟨rfl, rfl⟩

set_option maxRecDepth 100000 in
set_option maxHeartbeats 1000000 in
theorem CountRings_true (n k : Int) (w : World) (hn : n < 9223372036854775808) (hk : k < 9223372036854775808) :
    Calls Try.prog 3 #[.int .i64 n, .int .i64 k] w fun e w' => e = .returned (.bool true) ∧ Below w.heap.size w w' := by
  have hF := fun W => RingFault_any n k W hn hk
  have hB := fun W => Beads_any n k W hn hk
  have hC := fun W => Bracelets_any n k W hn hk
  unfold beadsV at hB
  unfold bracV at hC
  rcases ringF_cases n k with ⟨e, _⟩ | ⟨N, rfl, h1, rfl, e⟩ | ⟨N, K, rfl, rfl, h1, h2, ⟨hp, e⟩ | ⟨hp, e⟩⟩
  · rw [e] at hF hB hC
    rw [if_neg (by omega)] at hB hC
    go_enter Try.func3, Try.ntmps3
    go_wp2_with (first
      | (go_at_call 9; refine (hF _).mono ?_; rintro e w1 ⟨rfl, rfl⟩)
      | (go_at_call 10; refine (hB _).mono ?_; rintro e w2 ⟨rfl, b2⟩)
      | (go_at_call 11; refine (hC _).mono ?_; rintro e w3 ⟨rfl, b3⟩))
    go_ret
    exact ⟨rfl, Below.next b2 b3⟩
  · rw [e] at hF hB hC
    rw [if_pos rfl, if_pos rfl] at hB hC
    have hD := BeadsOf_one N
    have hE := BraceletsOf_one N
    go_enter Try.func3, Try.ntmps3
    go_wp2_with (first
      | (go_at_call 9; refine (hF _).mono ?_; rintro e w1 ⟨rfl, rfl⟩)
      | (go_at_call 10; refine (hB _).mono ?_; rintro e w2 ⟨rfl, b2⟩)
      | (go_at_call 11; refine (hC _).mono ?_; rintro e w3 ⟨rfl, b3⟩)
      | (go_at_call 12; refine (hD _).mono ?_; rintro e w4 ⟨rfl, rfl⟩)
      | (go_at_call 13; refine (hE _).mono ?_; rintro e w4 ⟨rfl, rfl⟩))
    go_ret
    exact ⟨rfl, Below.next b2 b3⟩
  · rw [e] at hF hB hC
    rw [if_pos rfl, if_neg (by omega), Int.toNat_natCast, Int.toNat_natCast] at hB hC
    have hD := fun W => BeadsOf_any N K W h1 h2 hp
    have hE := fun W => BraceletsOf_any N K W h1 h2 hp
    clear hp
    go_enter Try.func3, Try.ntmps3
    go_wp2_with (first
      | (go_at_call 9; refine (hF _).mono ?_; rintro e w1 ⟨rfl, rfl⟩)
      | (go_at_call 10; refine (hB _).mono ?_; rintro e w2 ⟨rfl, b2⟩)
      | (go_at_call 11; refine (hC _).mono ?_; rintro e w3 ⟨rfl, b3⟩)
      | (go_at_call 12; refine (hD _).mono ?_; rintro e w4 ⟨rfl, rfl⟩)
      | (go_at_call 13; refine (hE _).mono ?_; rintro e w4 ⟨rfl, rfl⟩))
    go_ret
    exact ⟨rfl, Below.next b2 b3⟩
  · rw [e] at hF hB hC
    rw [if_neg (by omega)] at hB hC
    clear hp
    go_enter Try.func3, Try.ntmps3
    go_wp2_with (first
      | (go_at_call 9; refine (hF _).mono ?_; rintro e w1 ⟨rfl, rfl⟩)
      | (go_at_call 10; refine (hB _).mono ?_; rintro e w2 ⟨rfl, b2⟩)
      | (go_at_call 11; refine (hC _).mono ?_; rintro e w3 ⟨rfl, b3⟩))
    go_ret
    exact ⟨rfl, Below.next b2 b3⟩

theorem docB63 : docB 6 3 = 130 := by decide +kernel
theorem ringF63 : ringF 6 3 = 0 := ringF_ok (n := 6) (k := 3) (by omega) (by omega) (by decide)
theorem beadsV63 : beadsV 6 3 = 130 := by
  unfold beadsV
  rw [ringF63, if_pos rfl, if_neg (by omega)]
  exact docB63
set_option maxHeartbeats 400000 in
theorem beads_true (w : World) : Calls Try.prog 24 #[] w fun e w' => e = .returned (.bool true) ∧ Below w.heap.size w w' := by
  have hB := fun W => Beads_any 6 3 W (by omega) (by omega)
  rw [ringF63, beadsV63] at hB
  go_enter Try.func24, Try.ntmps24
  go_wp2_with (go_at_call 10; refine (hB _).mono ?_; rintro e w1 ⟨rfl, b1⟩)
  go_ret
  exact ⟨rfl, b1⟩

set_option maxRecDepth 100000 in
set_option maxHeartbeats 1000000 in
theorem CountPrime_true (n k : Int) (w : World) (hn : n < 9223372036854775808) (hk : k < 9223372036854775808) :
    Calls Try.prog 6 #[.int .i64 n, .int .i64 k] w fun e w' => e = .returned (.bool true) ∧ Below w.heap.size w w' := by
  have hB := fun W => Beads_any n k W hn hk
  have hP := fun W => IsPrime_any n W
  unfold beadsV at hB
  rcases ringF_cases n k with ⟨e, _⟩ | ⟨N, rfl, h1, rfl, e⟩ | ⟨N, K, rfl, rfl, h1, h2, ⟨hp, e⟩ | ⟨hp, e⟩⟩
  · rw [e] at hB
    rw [if_neg (by omega)] at hB
    clear hn hk e
    go_enter Try.func6, Try.ntmps6
    go_wp2_with (first
      | (go_at_call 24; refine (beads_true _).mono ?_; rintro e w1 ⟨rfl, b1⟩)
      | (go_at_call 25; refine (hP _).mono ?_; rintro e w2 ⟨⟨b, rfl, hb⟩, rfl⟩)
      | (go_at_call 10; refine (hB _).mono ?_; rintro e w2 ⟨rfl, b2⟩))
    go_ret
    exact ⟨rfl, Below.next b1 b2⟩
  · rw [e] at hB
    rw [if_pos rfl, if_pos rfl] at hB
    have hNi : (0 : Int) < N := by omega
    have hN0 : (N : Int) ≠ 0 := by omega
    clear hn hk e
    go_enter Try.func6, Try.ntmps6
    go_wp2_with (first
      | (go_at_call 24; refine (beads_true _).mono ?_; rintro e w1 ⟨rfl, b1⟩)
      | (go_at_call 25; refine (hP _).mono ?_; rintro e w2 ⟨⟨b, rfl, hb⟩, rfl⟩; clear hb)
      | (go_at_call 10; refine (hB _).mono ?_; rintro e w2 ⟨rfl, b2⟩))
    · go_ret
      exact ⟨rfl, Below.next b1 b2⟩
    · have hbt : b = true := by cases b <;> simp_all
      subst hbt
      go_loop [9, 10] (fun x i => x = .int .i64 1 ∧ i = .int .i64 0) (fun _ _ => 0)
      case atStart => exact ⟨rfl, rfl⟩
      case round =>
        obtain ⟨rfl, rfl⟩ := hrel
        clear hB hP
        have h00 : (0 : Int) % (N : Int) = 0 := Int.zero_emod _
        have h01 : (0 : Int) / (N : Int) = 0 := Int.zero_ediv _
        go_wp2
        go_ret
        exact ⟨rfl, Below.next b1 b2⟩
  · rw [e] at hB
    rw [if_pos rfl, if_neg (by omega), Int.toNat_natCast, Int.toNat_natCast] at hB
    have hNi : (0 : Int) < N := by omega
    have hN0 : (N : Int) ≠ 0 := by omega
    have hn60 := few_beads h2 hp
    have hK1 : (1 : Int) < K := by omega
    have hK1d : decide ((1 : Int) < K) = true := by simp; omega
    have hkk : K < 9223372036854775808 := by omega
    obtain ⟨bd, Hbd⟩ : ∃ bd, Hid (docB N K = bd) := ⟨_, rfl⟩
    have hbd1 := docB_le h1 h2 hp
    have hbd0 := docB_nonneg (k := K) h1 hn60
    have HE : Hid (docB N K * N = turnS N K) := ring_eq h1 hn60
    rw [Hbd.out] at hB hbd1 hbd0
    have HP : Hid (∀ m, m ≤ N → K ^ m ≤ 1000000000000000000) := fun m hm => Nat.le_trans (pow_up (by omega) hm) hp
    clear hp
    clear hn hk e
    go_enter Try.func6, Try.ntmps6
    go_wp2_with (first
      | (go_at_call 24; refine (beads_true _).mono ?_; rintro e w1 ⟨rfl, b1⟩)
      | (go_at_call 25; refine (hP _).mono ?_; rintro e w2 ⟨⟨b, rfl, hb⟩, rfl⟩; have HPr : Hid (b = true → ∃ p : Nat, (N : Int) = p ∧ PrimeN p) := hb; clear hb)
      | (go_at_call 10; refine (hB _).mono ?_; rintro e w2 ⟨rfl, b2⟩))
    · go_ret
      exact ⟨rfl, Below.next b1 b2⟩
    · have hbt : b = true := by cases b <;> simp_all
      subst hbt
      go_loop [9, 10] (fun x i => ∃ a j : Nat, x = .int .i64 (a : Int) ∧ i = .int .i64 (j : Int) ∧ j ≤ N ∧ Hid (K ^ j = a)) (fun _ i => (N - intOf i).toNat)
      case atStart => exact ⟨1, 0, rfl, rfl, by omega, (Nat.pow_zero K : K ^ 0 = 1)⟩
      case round =>
        obtain ⟨a, j, rfl, rfl, hj, HA⟩ := hrel
        have ha := HP.out j hj
        rw [HA.out] at ha
        by_cases hlt : j < N
        · have hji : (j : Int) < N := by omega
          have hdec : decide ((j : Int) < N) = true := by simp; omega
          obtain ⟨c, Hc⟩ : ∃ c, Hid (K ^ (j + 1) = c) := ⟨_, rfl⟩
          have hcl := HP.out (j + 1) (by omega)
          rw [Hc.out] at hcl
          have hm0 : a * K = c := by rw [← Hc.out, Nat.pow_succ, HA.out]
          have hm : (a : Int) * (K : Int) = (c : Int) := by rw [← hm0]; simp
          go_wp2
          go_round
          case rel => exact ⟨c, j + 1, rfl, by go_num, by omega, Hc⟩
          case measure => simp [intOf]; omega
        · have hdec : decide ((j : Int) < N) = false := by simp; omega
          obtain rfl : j = N := by omega
          obtain ⟨p', hp', hpr⟩ := HPr.out rfl
          obtain rfl : j = p' := by omega
          have e1 := HE.out
          rw [turnS_prime hpr.1 hpr.2, HA.out, Hbd.out] at e1
          have e2 : (a : Int) - K = (j : Int) * (bd - K) := by
            have e3 : bd * (j : Int) = (j : Int) * bd := Int.mul_comm _ _
            have e4 : ((j : Int) - 1) * K = (j : Int) * K - K := by rw [Int.sub_mul, Int.one_mul]
            rw [Int.mul_sub, ← e3, e1, e4]; omega
          have haK : K ≤ a := by rw [← HA.out]; have := Nat.pow_le_pow_right (show 0 < K by omega) h1; rwa [Nat.pow_one] at this
          have hmod : ((a : Int) - K) % (j : Int) = 0 := by rw [e2]; exact Int.mul_emod_right _ _
          have hdiv : ((a : Int) - K) / (j : Int) = bd - K := by rw [e2]; exact Int.mul_ediv_cancel_left _ (by omega)
          have hbK : bd - K + K = bd := by omega
          have hbK0 : 0 ≤ bd - K := by rw [← hdiv]; exact Int.ediv_nonneg (by omega) (by omega)
          have hbb : (bd == bd) = true := by simp
          clear e1 e2 hpr HE hdec hlt hj
          go_wp2
          go_ret
          exact ⟨rfl, Below.next b1 b2⟩
  · rw [e] at hB
    rw [if_neg (by omega)] at hB
    clear hp
    clear hn hk e
    go_enter Try.func6, Try.ntmps6
    go_wp2_with (first
      | (go_at_call 24; refine (beads_true _).mono ?_; rintro e w1 ⟨rfl, b1⟩)
      | (go_at_call 25; refine (hP _).mono ?_; rintro e w2 ⟨⟨b, rfl, hb⟩, rfl⟩)
      | (go_at_call 10; refine (hB _).mono ?_; rintro e w2 ⟨rfl, b2⟩))
    go_ret
    exact ⟨rfl, Below.next b1 b2⟩

end Go.Proofs.Ytmaplmgecohjbaa
