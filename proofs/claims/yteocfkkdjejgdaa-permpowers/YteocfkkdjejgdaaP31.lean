/- The walks of divisor, order, sign. -/
import Derived.Test.YteocfkkdjejgdaaP30
namespace Go.Proofs.Yteocfkkdjejgdaa
open Go.RowKit

set_option maxHeartbeats 400000 in
theorem divisor_any (a b : Nat) (w : World) (ha : a ≤ 27720) (hb : b ≤ 27720) :
    Calls Try.prog 40 #[.int .i64 (a : Int), .int .i64 (b : Int)] w fun e w' => e = .returned (.int .i64 (Nat.gcd a b : Nat)) ∧ Below w.heap.size w w' := by
  obtain ⟨g, Hg⟩ : ∃ g : Nat, Hid (Nat.gcd a b = g) := ⟨_, rfl⟩
  rw [Hg.out]
  go_enter Try.func40, Try.ntmps40
  go_wp2
  go_loopw [0, 1] (fun x y wr => ∃ p q : Nat, x = .int .i64 p ∧ y = .int .i64 q ∧ p ≤ 27720 ∧ q ≤ 27720 ∧ Hid (Nat.gcd p q = g) ∧ Below w.heap.size w wr) (fun _ y _ => (intOf y).toNat)
  case atStart => exact ⟨a, b, rfl, rfl, ha, hb, Hg, Below.refl _ _⟩
  case round =>
    obtain ⟨p, q, rfl, rfl, hp, hq, HG, hB⟩ := hrel
    by_cases h0 : 0 < q
    · have h0i : (0 : Int) < q := by omega
      have hdec : decide ((0 : Int) < q) = true := by simp; omega
      have hq0 : ((q : Int) == 0) = false := by simp; omega
      have HM : Hid (((p % q : Nat) : Int) = (p : Int) % (q : Int)) := Int.natCast_emod p q
      have hml := Nat.mod_lt p h0
      have hm0 : 0 ≤ (p : Int) % (q : Int) := by rw [← HM.out]; exact Int.natCast_nonneg _
      have hm1 : (p : Int) % (q : Int) ≤ 27720 := by rw [← HM.out]; omega
      go_wp2
      go_quiet (fail)
      go_wp2
      go_roundw
      case rel =>
        have hfin : ∃ p' q' : Nat, Value.int .i64 (q : Int) = .int .i64 p' ∧ Value.int .i64 ((p : Int) % (q : Int)) = .int .i64 q' ∧ p' ≤ 27720 ∧ q' ≤ 27720 ∧ Hid (Nat.gcd p' q' = g) := by
          refine ⟨q, p % q, rfl, by rw [HM.out], hq, by omega, ?_⟩
          show Nat.gcd q (p % q) = g
          rw [← HG.out, Nat.gcd_comm p q, Nat.gcd_comm q (p % q)]
          exact (Nat.gcd_rec q p).symm
        obtain ⟨p', q', e1, e2, e3, e4, e5⟩ := hfin
        exact ⟨p', q', e1, e2, e3, e4, e5, bdrewN hB _⟩
      case measure =>
        simp [intOf]; omega
    · obtain rfl : q = 0 := by omega
      go_wp2
      go_ret
      have : p = g := by rw [← HG.out, Nat.gcd_zero_right]
      subst this
      exact ⟨rfl, hB⟩

theorem lcm_eq {o j d : Nat} (hd : Nat.gcd o j = d) : o / d * j = Nat.lcm o j := by
  subst hd
  unfold Nat.lcm
  rw [← Nat.div_mul_right_comm (Nat.gcd_dvd_left o j)]
theorem small_dvd : ∀ L, L < 13 → 1 ≤ L → L ∣ 27720 := by decide

set_option maxRecDepth 100000 in
set_option maxHeartbeats 1000000 in
theorem order_any (kn : Nat → Nat) (w : World) (h0 : kn 0 = 0) (hkb : ∀ L, kn L ≤ 12) :
    Calls Try.prog 31 #[.agg (krow fun L => (kn L : Int))] w fun e w' => ∃ o : Nat, e = .returned (.int .i64 (o : Int)) ∧ o ∣ 27720 ∧ (∀ N, o ∣ N ↔ ∀ L, L < 13 → 0 < kn L → L ∣ N) ∧ Below w.heap.size w w' := by
  have hK := KRow.made w (fun L => (kn L : Int))
  have hB0 := balloc w (.cells (krow fun L => (kn L : Int)) 46)
  have H0 : Hid (kn 0 = 0) := h0
  have HK : Hid (∀ L, kn L ≤ 12) := hkb
  clear h0 hkb
  go_enter Try.func31, Try.ntmps31
  go_wp2_with (first
    | (refine wpList_load_row rfl 46 _ rfl w.heap.size rfl 46 _ (0, 0) _ hK und46 rfl (inf46 _) ?_))
  go_loopw [3, 7] (fun x i wr => ∃ o j : Nat, x = .int .i64 o ∧ i = .int .i64 j ∧ j ≤ 13 ∧ Hid (o ∣ 27720) ∧ 1 ≤ o ∧ o ≤ 27720 ∧ Hid (∀ N, o ∣ N ↔ ∀ L, L < j → 0 < kn L → L ∣ N) ∧ Below w.heap.size w wr) (fun _ i _ => (13 - intOf i).toNat)
  case atStart => exact ⟨1, 0, rfl, rfl, by omega, (by decide : 1 ∣ 27720), by omega, by omega, (fun N => ⟨fun _ L h => by omega, fun _ => Nat.one_dvd N⟩ : ∀ N, 1 ∣ N ↔ _), hB0⟩
  case round =>
    clear hK hB0
    obtain ⟨o, j, rfl, rfl, hj, HO, ho1, ho2, HD, hB⟩ := hrel
    by_cases hlt : j < 13
    · have hji : (j : Int) < 13 := by omega
      have hdec : decide ((j : Int) < 13) = true := by simp; omega
      have hix := idx46 (fun L => (kn L : Int)) j hlt
      obtain ⟨m, Hm⟩ : ∃ m, Hid (kn j = m) := ⟨_, rfl⟩
      have hmb := HK.out j
      simp only [Hm.out] at hix hmb
      by_cases hm : 0 < m
      · have hmi : (0 : Int) < m := by omega
        have hmd : decide ((0 : Int) < m) = true := by simp; omega
        have hj1 : 1 ≤ j := by
          rcases Nat.eq_zero_or_pos j with h | h
          · rw [h, H0.out] at Hm; have := Hm.out; omega
          · exact h
        obtain ⟨d, Hd⟩ : ∃ d, Hid (Nat.gcd o j = d) := ⟨_, rfl⟩
        have C := fun W => divisor_any o j W ho2 (by omega)
        rw [Hd.out] at C
        have hd0 : 0 < d := by rw [← Hd.out]; exact Nat.gcd_pos_of_pos_left _ (by omega)
        have hdb : d ≤ 27720 := by
          have := Nat.le_of_dvd (by omega) (Nat.gcd_dvd_left o j)
          rw [Hd.out] at this; omega
        have HL : Hid (o / d * j = Nat.lcm o j) := lcm_eq Hd.out
        have hlo : Nat.lcm o j ∣ 27720 := Nat.lcm_dvd HO.out (small_dvd j hlt hj1)
        have hlb := Nat.le_of_dvd (by omega) hlo
        have hl1 : 1 ≤ Nat.lcm o j := Nat.lcm_pos (by omega) (by omega)
        obtain ⟨q, Hq⟩ : ∃ q, Hid (Nat.lcm o j = q) := ⟨_, rfl⟩
        obtain ⟨r, Hr⟩ : ∃ r, Hid (o / d = r) := ⟨_, rfl⟩
        have hrb : r ≤ 27720 := by rw [← Hr.out]; have := Nat.div_le_self o d; omega
        have he1 : (o : Int) / (d : Int) = (r : Int) := by rw [← Hr.out, Int.natCast_ediv]
        have he2 : (r : Int) * (j : Int) = (q : Int) := by rw [← Hq.out, ← HL.out, Hr.out]; simp
        rw [Hq.out] at hlo hlb hl1
        have HLO : Hid (q ∣ 27720) := hlo
        have hdz : ((d : Int) == 0) = false := by simp; omega
        clear hlo
        go_wp2_with (first
          | (go_at_call 40; refine (C _).mono ?_; rintro e w1 ⟨rfl, hb1⟩))
        have hB1 := Below.next hB hb1
        go_roundw
        case rel =>
          have hfin : ∃ o' j' : Nat, Value.int .i64 (q : Int) = .int .i64 o' ∧ Value.int .i64 ((j : Int) + 1) = .int .i64 j' ∧ j' ≤ 13 ∧ Hid (o' ∣ 27720) ∧ 1 ≤ o' ∧ o' ≤ 27720 ∧ Hid (∀ N, o' ∣ N ↔ ∀ L, L < j' → 0 < kn L → L ∣ N) ∧ Below w.heap.size w w1 := by
            refine ⟨q, j + 1, rfl, by go_num, by omega, HLO, hl1, hlb, (fun N => ?_ : ∀ N, _), hB1⟩
            rw [← Hq.out, Nat.lcm_dvd_iff, HD.out N]
            constructor
            · rintro ⟨h1, h2⟩ L hL hk
              by_cases e : L = j
              · subst e; exact h2
              · exact h1 L (by omega) hk
            · intro h
              exact ⟨fun L hL hk => h L (by omega) hk, h j (by omega) (by rw [Hm.out]; exact hm)⟩
          exact hfin
        case measure => simp [intOf]; omega
      · obtain rfl : m = 0 := by omega
        go_wp2
        go_roundw
        case rel =>
          refine ⟨o, j + 1, rfl, by go_num, by omega, HO, ho1, ho2, (fun N => ?_ : ∀ N, _), hB⟩
          rw [HD.out N]
          constructor
          · intro h L hL hk
            by_cases e : L = j
            · subst e; rw [Hm.out] at hk; omega
            · exact h L (by omega) hk
          · intro h L hL hk
            exact h L (by omega) hk
        case measure => simp [intOf]; omega
    · obtain rfl : j = 13 := by omega
      go_wp2
      go_ret
      exact ⟨o, rfl, HO.out, HD.out, hB⟩

set_option maxRecDepth 100000 in
set_option maxHeartbeats 1000000 in
theorem sign_any (kn : Nat → Nat) (w : World) (hkb : ∀ L, kn L ≤ 12) :
    Calls Try.prog 32 #[.agg (krow fun L => (kn L : Int))] w fun e w' => e = .returned (.int .i64 (sgK kn 13)) ∧ Below w.heap.size w w' := by
  have hK := KRow.made w (fun L => (kn L : Int))
  have hB0 := balloc w (.cells (krow fun L => (kn L : Int)) 46)
  have HK : Hid (∀ L, kn L ≤ 12) := hkb
  obtain ⟨zz, Hzz⟩ : ∃ zz, Hid (sgK kn 13 = zz) := ⟨_, rfl⟩
  rw [Hzz.out]
  clear hkb
  go_enter Try.func32, Try.ntmps32
  go_wp2_with (first
    | (refine wpList_load_row rfl 46 _ rfl w.heap.size rfl 46 _ (0, 0) _ hK und46 rfl (inf46 _) ?_))
  go_loopw [3, 7] (fun x i wr => ∃ (s : Int) (j : Nat), x = .int .i64 s ∧ i = .int .i64 j ∧ j ≤ 13 ∧ Hid (s = sgK kn j) ∧ -1 ≤ s ∧ s ≤ 1 ∧ Below w.heap.size w wr) (fun _ i _ => (13 - intOf i).toNat)
  case atStart => exact ⟨1, 0, rfl, rfl, by omega, (rfl : (1 : Int) = sgK kn 0), by omega, by omega, hB0⟩
  case round =>
    clear hK hB0
    obtain ⟨s, j, rfl, rfl, hj, HS, hs1, hs2, hB⟩ := hrel
    by_cases hlt : j < 13
    · have hji : (j : Int) < 13 := by omega
      have hdec : decide ((j : Int) < 13) = true := by simp; omega
      have hix := idx46 (fun L => (kn L : Int)) j hlt
      obtain ⟨m, Hm⟩ : ∃ m, Hid (kn j = m) := ⟨_, rfl⟩
      have hmb := HK.out j
      simp only [Hm.out] at hix hmb
      by_cases hje : j % 2 = 0
      · have hd1 : ((j : Int) % 2 == 0) = true := by simp; omega
        by_cases hmo : m % 2 = 1
        · have hd2 : ((m : Int) % 2 == 1) = true := by simp; omega
          have HE : Hid (sgK kn (j + 1) = - s) := by
            show sgK kn (j + 1) = - s
            rw [sgK, if_pos ⟨hje, by rw [Hm.out]; exact hmo⟩, HS.out]
          go_wp2
          go_roundw
          case rel => exact ⟨-s, j + 1, by go_num, by go_num, by omega, HE.out.symm, by omega, by omega, hB⟩
          case measure => simp [intOf]; omega
        · have hd2 : ((m : Int) % 2 == 1) = false := by simp; omega
          have HE : Hid (sgK kn (j + 1) = s) := by
            show sgK kn (j + 1) = s
            rw [sgK, if_neg (fun h => hmo (by rw [← Hm.out]; exact h.2)), HS.out]
          go_wp2
          go_roundw
          case rel => exact ⟨s, j + 1, rfl, by go_num, by omega, HE.out.symm, by omega, by omega, hB⟩
          case measure => simp [intOf]; omega
      · have hd1 : ((j : Int) % 2 == 0) = false := by simp; omega
        have HE : Hid (sgK kn (j + 1) = s) := by
          show sgK kn (j + 1) = s
          rw [sgK, if_neg (fun h => hje h.1), HS.out]
        go_wp2
        go_roundw
        case rel => exact ⟨s, j + 1, rfl, by go_num, by omega, HE.out.symm, by omega, by omega, hB⟩
        case measure => simp [intOf]; omega
    · obtain rfl : j = 13 := by omega
      go_wp2
      go_ret
      have : s = zz := by rw [HS.out, Hzz.out]
      subst this
      exact ⟨rfl, hB⟩

end Go.Proofs.Yteocfkkdjejgdaa
