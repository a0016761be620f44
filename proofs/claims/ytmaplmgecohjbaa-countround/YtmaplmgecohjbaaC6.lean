/- The walks of BeadsOf, BraceletsOf. -/
import Derived.Test.YtmaplmgecohjbaaC5
namespace Go.Proofs.Ytmaplmgecohjbaa
open Go.RowKit Go.Maps

theorem mobG_bd : ∀ (f n p : Nat) (m : Int), -1 ≤ m → m ≤ 1 → -1 ≤ mobG f n p m ∧ mobG f n p m ≤ 1
  | 0, _, _, m, h1, h2 => ⟨h1, h2⟩
  | f + 1, n, p, m, h1, h2 => by
    rw [mobG]
    split
    · split
      · split
        · omega
        · exact mobG_bd f _ _ _ (by omega) (by omega)
      · exact mobG_bd f _ _ _ h1 h2
    · exact ⟨h1, h2⟩
theorem mob_bd (n : Nat) : -1 ≤ mob n ∧ mob n ≤ 1 := mobG_bd n n 2 1 (by omega) (by omega)
/-- The inner sum's first m terms. -/
def inP (d k m : Nat) : Int := sumN (fun c => if d % (c + 1) = 0 then mob (d / (c + 1)) * ((k ^ (c + 1) : Nat) : Int) else 0) m
theorem inP_all (d k : Nat) : inP d k d = inS d k := rfl
theorem mob_mul_bd (x p : Nat) : -(p : Int) ≤ mob x * (p : Int) ∧ mob x * (p : Int) ≤ p := by
  obtain ⟨h1, h2⟩ := mob_bd x
  rcases (show mob x = -1 ∨ mob x = 0 ∨ mob x = 1 by omega) with e | e | e <;> rw [e] <;> omega
theorem inP_bd (d k : Nat) (hk : 2 ≤ k) : ∀ m, -(2 * ((k ^ m : Nat) : Int)) ≤ inP d k m ∧ inP d k m ≤ 2 * ((k ^ m : Nat) : Int)
  | 0 => by simp [inP, sumN]
  | m + 1 => by
    obtain ⟨h1, h2⟩ := inP_bd d k hk m
    have hp : 2 * k ^ m ≤ k ^ (m + 1) := by rw [Nat.pow_succ, Nat.mul_comm]; exact Nat.mul_le_mul_left _ hk
    unfold inP at h1 h2 ⊢
    rw [sumN]
    obtain ⟨h3, h4⟩ := mob_mul_bd (d / (m + 1)) (k ^ (m + 1))
    split <;> omega
/-- The whole sum's first m terms. -/
def docP (n k m : Nat) : Int := sumN (fun d => if n % (d + 1) = 0 then (inS (d + 1) k).tdiv ((d + 1 : Nat) : Int) else 0) m
theorem docP_all (n k : Nat) : docP n k n = docB n k := rfl
theorem tdiv_bd (a : Int) (d : Nat) (M : Int) (h1 : -M ≤ a) (h2 : a ≤ M) : -M ≤ a.tdiv d ∧ a.tdiv d ≤ M := by
  have h := Int.natAbs_tdiv a d
  have hd : a.natAbs.div d ≤ a.natAbs := Nat.div_le_self _ _
  simp only [Int.natAbs_natCast] at h
  rw [← h] at hd
  generalize a.tdiv d = q at *
  omega
theorem docP_bd (n k : Nat) (hk : 2 ≤ k) : ∀ m, -(4 * ((k ^ m : Nat) : Int)) ≤ docP n k m ∧ docP n k m ≤ 4 * ((k ^ m : Nat) : Int)
  | 0 => by simp [docP, sumN]
  | m + 1 => by
    obtain ⟨h1, h2⟩ := docP_bd n k hk m
    have hp : 2 * k ^ m ≤ k ^ (m + 1) := by rw [Nat.pow_succ, Nat.mul_comm]; exact Nat.mul_le_mul_left _ hk
    unfold docP at h1 h2 ⊢
    rw [sumN]
    obtain ⟨h3, h4⟩ := inP_bd (m + 1) k hk (m + 1)
    rw [inP_all] at h3 h4
    obtain ⟨h5, h6⟩ := tdiv_bd _ (m + 1) _ h3 h4
    split <;> omega

set_option maxHeartbeats 400000 in
theorem BeadsOf_one (n : Int) (w : World) : Calls Try.prog 12 #[.int .i64 n, .int .i64 1] w fun e w' => e = .returned (.int .i64 1) ∧ w' = w := by
  go_enter Try.func12, Try.ntmps12
  go_wp2
  go_ret
  exact ⟨rfl, rfl⟩

set_option maxRecDepth 100000 in
set_option maxHeartbeats 1000000 in
theorem BeadsOf_any (n k : Nat) (w : World) (h1 : 1 ≤ n) (hk : 2 ≤ k) (h : k ^ n ≤ 1000000000000000000) :
    Calls Try.prog 12 #[.int .i64 (n : Int), .int .i64 (k : Int)] w fun e w' => e = .returned (.int .i64 (docB n k)) ∧ w' = w := by
  have hn := few_beads hk h
  have hkk : k < 9223372036854775808 := by
    have := Nat.pow_le_pow_right (show 0 < k by omega) h1
    rw [Nat.pow_one] at this; omega
  have hk1 : ((k : Int) == 1) = false := by simp; omega
  have HP : Hid (∀ m, m ≤ n → k ^ m ≤ 1000000000000000000) := fun m hm => Nat.le_trans (pow_up (by omega) hm) h
  obtain ⟨R, HR⟩ : ∃ R, Hid (docB n k = R) := ⟨_, rfl⟩
  rw [HR.out]
  clear h
  go_enter Try.func12, Try.ntmps12
  go_wp2
  go_loop [5, 6] (fun x i => ∃ (d : Nat) (s : Int), x = .int .i64 s ∧ i = .int .i64 ((d : Int) + 1) ∧ d ≤ n ∧ Hid (docP n k d = s)) (fun _ i => (n + 1 - intOf i).toNat)
  case atStart => exact ⟨0, 0, rfl, rfl, by omega, (rfl : docP n k 0 = 0)⟩
  case round =>
    obtain ⟨d, s, rfl, rfl, hdn, HS⟩ := hrel
    have hsb := docP_bd n k hk d
    rw [HS.out] at hsb
    have hpd := HP.out d hdn
    by_cases hlt : d < n
    · have hdi : (d : Int) + 1 ≤ n := by omega
      have hdec : decide ((d : Int) + 1 ≤ n) = true := by simp; omega
      have hpd1 := HP.out (d + 1) (by omega)
      obtain ⟨s', HS'⟩ : ∃ s', Hid (docP n k (d + 1) = s') := ⟨_, rfl⟩
      have hsb' := docP_bd n k hk (d + 1)
      rw [HS'.out] at hsb'
      have hmi : (n : Int) % ((d : Int) + 1) = ((n % (d + 1) : Nat) : Int) := by simp
      have hd0 : (d : Int) + 1 ≠ 0 := by omega
      have hd1 : (0 : Int) < (d : Int) + 1 := by omega
      by_cases hm : n % (d + 1) = 0
      · have hb : ((n : Int) % ((d : Int) + 1) == 0) = true := by rw [hmi, hm]; rfl
        have hb' : (n : Int) % ((d : Int) + 1) = 0 := by omega
        obtain ⟨I, HI⟩ : ∃ I, Hid (inS (d + 1) k = I) := ⟨_, rfl⟩
        have hIb := inP_bd (d + 1) k hk (d + 1)
        rw [inP_all, HI.out] at hIb
        obtain ⟨Q, HQ⟩ : ∃ Q, Hid (I.tdiv ((d + 1 : Nat) : Int) = Q) := ⟨_, rfl⟩
        have hQb := tdiv_bd I (d + 1) _ hIb.1 hIb.2
        rw [HQ.out] at hQb
        have hQ2 : I.tdiv ((d : Int) + 1) = Q := HQ.out
        have hs' : s' = s + Q := by
          rw [← HS'.out, ← HS.out, ← HQ.out, ← HI.out]
          unfold docP
          rw [sumN, if_pos hm]
        clear hmi hm
        go_wp2
        go_loop [7, 8] (fun x i => ∃ (c : Nat) (t : Int), x = .int .i64 t ∧ i = .int .i64 ((c : Int) + 1) ∧ c ≤ d + 1 ∧ Hid (inP (d + 1) k c = t)) (fun _ i => (d + 2 - intOf i).toNat)
        case atStart => exact ⟨0, 0, rfl, rfl, by omega, (rfl : inP (d + 1) k 0 = 0)⟩
        case round =>
          obtain ⟨c, t, rfl, rfl, hcd, HT⟩ := hrel
          have htb := inP_bd (d + 1) k hk c
          rw [HT.out] at htb
          have hpc := HP.out c (by omega)
          by_cases hltc : c < d + 1
          · have hci : (c : Int) + 1 ≤ (d : Int) + 1 := by omega
            have hdecc : decide ((c : Int) + 1 ≤ (d : Int) + 1) = true := by simp; omega
            have hpc1 := HP.out (c + 1) (by omega)
            obtain ⟨t', HT'⟩ : ∃ t', Hid (inP (d + 1) k (c + 1) = t') := ⟨_, rfl⟩
            have htb' := inP_bd (d + 1) k hk (c + 1)
            rw [HT'.out] at htb'
            have hmi : ((d : Int) + 1) % ((c : Int) + 1) = (((d + 1) % (c + 1) : Nat) : Int) := by simp
            have hc0 : (c : Int) + 1 ≠ 0 := by omega
            have hc1 : (0 : Int) < (c : Int) + 1 := by omega
            by_cases hmc : (d + 1) % (c + 1) = 0
            · have hbc : (((d : Int) + 1) % ((c : Int) + 1) == 0) = true := by rw [hmi, hmc]; rfl
              have hbc' : ((d : Int) + 1) % ((c : Int) + 1) = 0 := by omega
              obtain ⟨q, Hq⟩ : ∃ q, Hid ((d + 1) / (c + 1) = q) := ⟨_, rfl⟩
              have hq : ((d : Int) + 1) / ((c : Int) + 1) = (q : Int) := by rw [← Hq.out]; simp
              have hqb : q ≤ d + 1 := by rw [← Hq.out]; exact Nat.div_le_self _ _
              have hmq := fun W => mobius_any q W (by omega)
              have hpw := fun W => powerOf_any k (c + 1) W (by omega) (by omega) (by omega)
              obtain ⟨mu, Hmu⟩ : ∃ mu, Hid (mob q = mu) := ⟨_, rfl⟩
              obtain ⟨p, Hp⟩ : ∃ p, Hid (k ^ (c + 1) = p) := ⟨_, rfl⟩
              have hmub := mob_bd q
              have hmm := mob_mul_bd q p
              have ht' : t' = t + mu * (p : Int) := by
                rw [← HT'.out, ← HT.out, ← Hmu.out, ← Hp.out, ← Hq.out]
                unfold inP
                rw [sumN, if_pos hmc]
              rw [Hmu.out] at hmq hmub hmm
              rw [Hp.out] at hpw hpc1 htb'
              rw [show ((c + 1 : Nat) : Int) = (c : Int) + 1 from rfl] at hpw
              obtain ⟨m2, Hm2⟩ : ∃ m2, Hid (mu * (p : Int) = m2) := ⟨_, rfl⟩
              have hm2 := Hm2.out
              rw [hm2] at ht' hmm
              clear hmi hmc
              go_wp2_with (first
                | (go_at_call 31; refine (hmq _).mono ?_; rintro e w1 ⟨rfl, rfl⟩)
                | (go_at_call 32; refine (hpw _).mono ?_; rintro e w2 ⟨rfl, rfl⟩))
              go_round
              case rel => exact ⟨c + 1, t', by rw [ht'], by go_num, by omega, HT'⟩
              case measure => simp [intOf]; omega
            · have hbc : (((d : Int) + 1) % ((c : Int) + 1) == 0) = false := by rw [hmi]; simp; omega
              have ht' : t' = t := by
                rw [← HT'.out, ← HT.out]
                unfold inP
                rw [sumN, if_neg hmc, Int.add_zero]
              subst ht'
              clear hmi hmc
              go_wp2
              go_round
              case rel => exact ⟨c + 1, t', rfl, by go_num, by omega, HT'⟩
              case measure => simp [intOf]; omega
          · have hci : ¬ (c : Int) + 1 ≤ (d : Int) + 1 := by omega
            have hdecc : decide ((c : Int) + 1 ≤ (d : Int) + 1) = false := by simp; omega
            obtain rfl : c = d + 1 := by omega
            obtain rfl : t = I := by rw [← HT.out, inP_all, HI.out]
            go_wp2
            go_round
            case rel => exact ⟨d + 1, s', by rw [hs'], by go_num, by omega, HS'⟩
            case measure => simp [intOf]; omega
      · have hb : ((n : Int) % ((d : Int) + 1) == 0) = false := by rw [hmi]; simp; omega
        have hs' : s' = s := by
          rw [← HS'.out, ← HS.out]
          unfold docP
          rw [sumN, if_neg hm, Int.add_zero]
        subst hs'
        clear hmi hm
        go_wp2
        go_round
        case rel => exact ⟨d + 1, s', rfl, by go_num, by omega, HS'⟩
        case measure => simp [intOf]; omega
    · have hdec : decide ((d : Int) + 1 ≤ n) = false := by simp; omega
      have hdi : ¬ (d : Int) + 1 ≤ n := by omega
      obtain rfl : d = n := by omega
      obtain rfl : s = R := by rw [← HS.out, docP_all, HR.out]
      go_wp2
      go_ret
      exact ⟨rfl, rfl⟩

end Go.Proofs.Ytmaplmgecohjbaa
