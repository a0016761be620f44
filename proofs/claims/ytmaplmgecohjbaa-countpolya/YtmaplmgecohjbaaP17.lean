/- The walks of Rank and PermRank. -/
import Derived.Test.YtmaplmgecohjbaaP33
namespace Go.Proofs.Ytmaplmgecohjbaa
open Go.RowKit

theorem all_succ (f : Nat → Nat) (x j : Nat) : ((List.range (j + 1)).all fun j' => f j' != x) = (((List.range j).all fun j' => f j' != x) && (f j != x)) := by
  rw [List.range_succ, List.all_append]; simp

set_option maxHeartbeats 2000000 in
theorem PermRank_any (n : Nat) (f : Nat → Nat) (v : Value) (w : World) (hn : n ≤ 12) (hv : Sl w v (pl n f)) (P : Pm n f) :
    Calls Try.prog 40 #[v] w fun e w' => e = .returned (.int .i64 (rkS n f n : Int)) ∧ w' = w := by
  have C := fun (m : Nat) A (h : m ≤ 12) => Factorial_any m A h
  obtain ⟨a, ca, rfl, hcv⟩ := hv
  rw [pl_len] at hcv ⊢
  have HV : Hid (∀ j, j < n → ∃ B off, a = some ⟨B, off, none⟩ ∧ w.cell? ⟨B, off + j, none⟩ = some (.int .i64 (f j : Int))) := fun j hj => by
    have := hcv j hj; rw [pl_at f hj] at this; exact this
  have HP : Hid (Pm n f) := P
  obtain ⟨zz, Hzz⟩ : ∃ zz, Hid (rkS n f n = zz) := ⟨_, rfl⟩
  rw [Hzz.out]
  clear hcv P
  go_enter Try.func40, Try.ntmps40
  go_wp2
  go_loop [3, 4] (fun x i => ∃ s k : Nat, x = .int .i64 s ∧ i = .int .i64 k ∧ k ≤ n ∧ Hid (rkS n f k = s)) (fun _ i => (n - intOf i).toNat)
  case atStart => exact ⟨0, 0, rfl, rfl, by omega, (rfl : rkS n f 0 = 0)⟩
  case round =>
    obtain ⟨s, k, rfl, rfl, hk, HS⟩ := hrel
    by_cases hlt : k < n
    · have hki : (k : Int) < n := by omega
      have hdec : decide ((k : Int) < n) = true := by simp; omega
      obtain ⟨b, off, rfl, hck⟩ := HV.out k hlt
      have HV2 : Hid (∀ j, j < n → w.cell? ⟨b, off + j, none⟩ = some (.int .i64 (f j : Int))) := by
        intro j hj
        obtain ⟨B', off', e, hc⟩ := HV.out j hj
        simp only [Option.some.injEq, Addr.mk.injEq, and_true] at e
        obtain ⟨rfl, rfl⟩ := e
        exact hc
      obtain ⟨t, Ht⟩ : ∃ x, Hid (f k = x) := ⟨_, rfl⟩
      have htn : t < n := by rw [← Ht.out]; exact HP.out.lt k hlt
      rw [Ht.out] at hck
      obtain ⟨m, Hm⟩ : ∃ m, Hid (n - 1 - k = m) := ⟨_, rfl⟩
      have hmi : (n : Int) - 1 - (k : Int) = (m : Int) := by rw [← Hm.out]; omega
      obtain ⟨y, Hy⟩ : ∃ y, Hid (les f k n = y) := ⟨_, rfl⟩
      have hy12 : y ≤ 12 := by rw [← Hy.out]; have := les_le f k n; omega
      have HFR : Hid (fre f k t = y) := by show fre f k t = y; rw [← Ht.out, fre_les HP.out hlt, Hy.out]
      obtain ⟨g, Hg⟩ : ∃ g, Hid (fac m = g) := ⟨_, rfl⟩
      have D := fun A => C m A (by rw [← Hm.out]; omega)
      rw [Hg.out] at D
      have hgb : g ≤ 479001600 := by rw [← Hg.out]; exact fac_le (by rw [← Hm.out]; omega)
      obtain ⟨p, Hp⟩ : ∃ p, Hid (y * g = p) := ⟨_, rfl⟩
      have hpi : (y : Int) * (g : Int) = (p : Int) := by rw [← Hp.out]; simp
      have hpb : p ≤ 12 * 479001600 := by rw [← Hp.out]; exact Nat.mul_le_mul hy12 hgb
      have hsb : s ≤ 12 * (12 * 479001600) := by
        rw [← HS.out]
        exact Nat.le_trans (rkS_le hn k) (Nat.mul_le_mul (by omega) (Nat.le_refl _))
      have HN : Hid (rkS n f (k + 1) = s + p) := by
        show rkS n f k + les f k n * fac (n - 1 - k) = s + p
        rw [HS.out, Hy.out, Hm.out, Hg.out, Hp.out]
      go_wp2
      go_loop [5, 6] (fun c i => ∃ c' x : Nat, c = .int .i64 c' ∧ i = .int .i64 x ∧ x ≤ t ∧ c' ≤ x ∧ Hid (fre f k x = c')) (fun _ i => (t - intOf i).toNat)
      case atStart => exact ⟨0, 0, rfl, rfl, by omega, by omega, (rfl : fre f k 0 = 0)⟩
      case round =>
        obtain ⟨c, x, rfl, rfl, hx, hcx, HF⟩ := hrel
        by_cases hxt : x < t
        · have hxti : (x : Int) < t := by omega
          have hxd : decide ((x : Int) < t) = true := by simp; omega
          have HFS := fre_succ f k x
          rw [HF.out] at HFS
          go_wp2
          go_loop [7, 8] (fun fr i => ∃ (e : Bool) (j : Nat), fr = .bool e ∧ i = .int .i64 j ∧ j ≤ k ∧ Hid (((List.range j).all fun j' => f j' != x) = e)) (fun _ i => (k - intOf i).toNat)
          case atStart => exact ⟨true, 0, rfl, rfl, by omega, (rfl : ((List.range 0).all fun j' => f j' != x) = true)⟩
          case round =>
            obtain ⟨e, j, rfl, rfl, hj, HE⟩ := hrel
            by_cases hjk : j < k
            · have hjki : (j : Int) < k := by omega
              have hjd : decide ((j : Int) < k) = true := by simp; omega
              have hjni : (j : Int) < n := by omega
              have hcj := HV2.out j (by omega)
              obtain ⟨u, Hu⟩ : ∃ u, Hid (f j = u) := ⟨_, rfl⟩
              rw [Hu.out] at hcj
              have hall := all_succ f x j
              rw [HE.out, Hu.out] at hall
              have HA : Hid (((List.range (j + 1)).all fun j' => f j' != x) = (e && (u != x))) := hall
              clear hall
              cases e with
              | true =>
                have hux : ((u : Int) != (x : Int)) = (u != x) := by
                  rw [Bool.eq_iff_iff]; simp only [bne_iff_ne, ne_eq]; omega
                rw [Bool.true_and] at HA
                obtain ⟨e', He'⟩ : ∃ e', Hid ((u != x) = e') := ⟨_, rfl⟩
                rw [He'.out] at hux HA
                go_wp2
                go_round
                case rel => exact ⟨e', j + 1, rfl, by go_num, by omega, HA⟩
                case measure => simp [intOf]; omega
              | false =>
                go_wp2
                go_round
                case rel => exact ⟨false, j + 1, rfl, by go_num, by omega, HA⟩
                case measure => simp [intOf]; omega
            · obtain rfl : j = k := by omega
              have hjd : decide ((j : Int) < (j : Int)) = false := by simp
              rw [HE.out] at HFS
              cases e with
              | true =>
                rw [if_pos rfl] at HFS
                have HF2 : Hid (fre f j (x + 1) = c + 1) := HFS
                clear HFS
                go_wp2
                go_round
                case rel => exact ⟨c + 1, x + 1, by go_num, by go_num, by omega, by omega, HF2⟩
                case measure => simp [intOf]; omega
              | false =>
                rw [if_neg (by simp)] at HFS
                have HF2 : Hid (fre f j (x + 1) = c) := HFS
                clear HFS
                go_wp2
                go_round
                case rel => exact ⟨c, x + 1, rfl, by go_num, by omega, by omega, HF2⟩
                case measure => simp [intOf]; omega
        · obtain rfl : x = t := by omega
          have hxd : decide ((x : Int) < (x : Int)) = false := by simp
          have hcy : c = y := by rw [← HF.out, HFR.out]
          subst hcy
          go_wp2_with (first
            | (go_at_call 37; refine (D _).mono ?_; rintro e w1 ⟨rfl, hw⟩; replace hw := hw.symm; subst hw))
          go_round
          case rel => exact ⟨s + p, k + 1, by go_num, by go_num, by omega, HN⟩
          case measure => simp [intOf]; omega
    · obtain rfl : k = n := by omega
      have hkd : decide ((k : Int) < (k : Int)) = false := by simp
      have : s = zz := by rw [← HS.out, Hzz.out]
      subst this
      go_wp2
      go_ret
      exact ⟨rfl, rfl⟩

end Go.Proofs.Ytmaplmgecohjbaa
