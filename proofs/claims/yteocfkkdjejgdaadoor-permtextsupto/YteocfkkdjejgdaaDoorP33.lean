/- The walks of orders, Factorial, rank, Rank, PermRank. -/
import Derived.Test.YteocfkkdjejgdaaDoorPRank
import Derived.Test.YteocfkkdjejgdaaDoorP28
namespace Go.Proofs.YteocfkkdjejgdaaDoor
open Go.RowKit

/-- A slice no longer than its room. -/
def capOk : Value → Prop
  | .slice _ n c => n ≤ c
  | _ => True

set_option maxHeartbeats 400000 in
theorem orders_any (n : Nat) (w : World) (hn : n ≤ 12) :
    Calls Tryd.prog 21 #[.int .i64 (n : Int)] w fun e w' => e = .returned (.int .i64 (fac n : Int)) ∧ w' = w := by
  obtain ⟨z, Hz⟩ : ∃ z, Hid (fac n = z) := ⟨_, rfl⟩
  rw [Hz.out]
  go_enter Tryd.func21, Tryd.ntmps21
  go_wp2
  go_loop [3, 6] (fun x i => ∃ a k : Nat, x = .int .i64 a ∧ i = .int .i64 k ∧ k ≤ n ∧ Hid (fac k = a)) (fun _ i => (n - intOf i).toNat)
  case atStart => exact ⟨1, 0, rfl, rfl, by omega, (rfl : fac 0 = 1)⟩
  case round =>
    obtain ⟨a, k, rfl, rfl, hk, HA⟩ := hrel
    by_cases hlt : k < n
    · have hki : (k : Int) < n := by omega
      have hdec : decide ((k : Int) < n) = true := by simp; omega
      obtain ⟨b, Hb⟩ : ∃ b, Hid (fac (k + 1) = b) := ⟨_, rfl⟩
      have hbb : b ≤ 479001600 := by rw [← Hb.out]; exact fac_le (by omega)
      have hm : (a : Int) * ((k : Int) + 1) = (b : Int) := by rw [← Hb.out, fac, HA.out]; simp
      go_wp2
      go_round
      case rel => exact ⟨b, k + 1, rfl, by go_num, by omega, Hb⟩
      case measure => simp [intOf]; omega
    · obtain rfl : k = n := by omega
      have hkd : decide ((k : Int) < (k : Int)) = false := by simp
      have : a = z := by rw [← HA.out, Hz.out]
      subst this
      go_wp2
      go_ret
      exact ⟨rfl, rfl⟩

set_option maxHeartbeats 1000000 in
theorem rank_any (n : Nat) (f : Nat → Nat) (v : Value) (w : World) (hn : n ≤ 12) (hv : Sl w v (pl n f)) (hcap : capOk v) :
    Calls Tryd.prog 20 #[v] w fun e w' => e = .returned (.int .i64 (rkS n f n : Int)) ∧ w' = w := by
  have C := fun (m : Nat) A (h : m ≤ 12) => orders_any m A h
  obtain ⟨a, ca, rfl, hcv⟩ := hv
  rw [pl_len] at hcv ⊢
  have HV : Hid (∀ j, j < n → ∃ B off, a = some ⟨B, off, none⟩ ∧ w.cell? ⟨B, off + j, none⟩ = some (.int .i64 (f j : Int))) := fun j hj => by
    have := hcv j hj; rw [pl_at f hj] at this; exact this
  have hca : n ≤ ca := by rw [pl_len] at hcap; exact hcap
  obtain ⟨zz, Hzz⟩ : ∃ zz, Hid (rkS n f n = zz) := ⟨_, rfl⟩
  rw [Hzz.out]
  clear hcv
  go_enter Tryd.func20, Tryd.ntmps20
  go_wp2
  go_loop [3, 11] (fun x i => ∃ s k : Nat, x = .int .i64 s ∧ i = .int .i64 k ∧ k ≤ n ∧ Hid (rkS n f k = s)) (fun _ i => (n - intOf i).toNat)
  case atStart => exact ⟨0, 0, rfl, rfl, by omega, (rfl : rkS n f 0 = 0)⟩
  case round =>
    obtain ⟨s, k, rfl, rfl, hk, HS⟩ := hrel
    by_cases hlt : k < n
    · have hki : (k : Int) < n := by omega
      have hdec : decide ((k : Int) < n) = true := by simp; omega
      obtain ⟨b, off, rfl, hck⟩ := HV.out k hlt
      obtain ⟨x, Hx⟩ : ∃ x, Hid (f k = x) := ⟨_, rfl⟩
      rw [Hx.out] at hck
      have HV2 : Hid (∀ j, j < n → w.cell? ⟨b, off + j, none⟩ = some (.int .i64 (f j : Int))) := by
        intro j hj
        obtain ⟨B', off', e, hc⟩ := HV.out j hj
        simp only [Option.some.injEq, Addr.mk.injEq, and_true] at e
        obtain ⟨rfl, rfl⟩ := e
        exact hc
      obtain ⟨m, Hm⟩ : ∃ m, Hid (n - 1 - k = m) := ⟨_, rfl⟩
      have hmi : (n : Int) - 1 - (k : Int) = (m : Int) := by rw [← Hm.out]; omega
      obtain ⟨y, Hy⟩ : ∃ y, Hid (les f k n = y) := ⟨_, rfl⟩
      have hy12 : y ≤ 12 := by rw [← Hy.out]; have := les_le f k n; omega
      obtain ⟨g, Hg⟩ : ∃ g, Hid (fac m = g) := ⟨_, rfl⟩
      have D := fun A => C m A (by rw [← Hm.out]; omega)
      rw [Hg.out] at D
      have hgb : g ≤ 479001600 := by rw [← Hg.out]; exact fac_le (by rw [← Hm.out]; omega)
      obtain ⟨p, Hp⟩ : ∃ p, Hid (y * g = p) := ⟨_, rfl⟩
      have hpi : (y : Int) * (g : Int) = (p : Int) := by rw [← Hp.out]; simp
      have hpb : p ≤ 12 * 479001600 := by rw [← Hp.out]; exact Nat.mul_le_mul hy12 hgb
      have hsb : s ≤ 12 * (12 * 479001600) := by
        rw [← HS.out]
        exact Nat.le_trans (rkS_le hn k) (Nat.mul_le_mul (by omega) (Nat.le_refl _))
      have HN : Hid (rkS n f (k + 1) = s + p) := by
        show rkS n f k + les f k n * fac (n - 1 - k) = s + p
        rw [HS.out, Hy.out, Hm.out, Hg.out, Hp.out]
      by_cases hkc : ca = k + 1
      · have HNK : Hid (n = k + 1) := (by omega : n = k + 1)
        subst hkc
        have hy0 : y = 0 := by rw [← Hy.out]; exact les_low f k n (by have := HNK.out; omega)
        subst hy0
        have hp0 : p = 0 := by rw [← Hp.out, Nat.zero_mul]
        subst hp0
        have h00 : n - (k + 1) = 0 := by have := HNK.out; omega
        go_wp2
        go_loop [6, 21] (fun x i => x = .int .i64 0 ∧ i = .int .i64 0) (fun _ _ => 0)
        case atStart => exact ⟨rfl, rfl⟩
        case round =>
          obtain ⟨rfl, rfl⟩ := hrel
          go_wp2_with (first
            | (go_at_call 21; refine (D _).mono ?_; rintro e w1 ⟨rfl, hw⟩; replace hw := hw.symm; subst hw))
          go_round
          case rel => exact ⟨s, k + 1, by go_num, by go_num, by omega, HN⟩
          case measure => simp [intOf]; omega
      · have hkc2 : (ca == k + 1) = false := by simpa using hkc
        obtain ⟨q, Hq⟩ : ∃ q, Hid (n - (k + 1) = q) := ⟨_, rfl⟩
        have hqn : q + (k + 1) = n := by rw [← Hq.out]; omega
        have hqe : n - (k + 1) = q := Hq.out
        go_wp2
        go_loop [6, 21] (fun x i => ∃ c j : Nat, x = .int .i64 c ∧ i = .int .i64 j ∧ j ≤ q ∧ c ≤ j ∧ Hid (les f k (k + 1 + j) = c)) (fun _ i => (q - intOf i).toNat)
        case atStart => exact ⟨0, 0, rfl, rfl, by omega, by omega, (les_low f k (k + 1) (Nat.le_refl _) : les f k (k + 1) = 0)⟩
        case round =>
          obtain ⟨c, j, rfl, rfl, hj, hcj, HCC⟩ := hrel
          by_cases hjq : j < q
          · have hjqi : (j : Int) < q := by omega
            have hjd : decide ((j : Int) < q) = true := by simp; omega
            have hcj2 := HV2.out (k + 1 + j) (by omega)
            obtain ⟨u, Hu⟩ : ∃ u, Hid (f (k + 1 + j) = u) := ⟨_, rfl⟩
            rw [Hu.out, ← Nat.add_assoc] at hcj2
            have HLS := les_succ f k (k + 1 + j)
            rw [HCC.out, Hu.out, Hx.out] at HLS
            by_cases hux : u < x
            · have hd : decide ((u : Int) < (x : Int)) = true := by simp; omega
              rw [if_pos ⟨by omega, hux⟩] at HLS
              have HL2 : Hid (les f k (k + 1 + j + 1) = c + 1) := HLS
              clear HLS
              go_wp2
              go_round
              case rel => exact ⟨c + 1, j + 1, by go_num, by go_num, by omega, by omega, HL2⟩
              case measure => simp [intOf]; omega
            · have hd : decide ((u : Int) < (x : Int)) = false := by simp; omega
              rw [if_neg (fun h => hux h.2)] at HLS
              have HL2 : Hid (les f k (k + 1 + j + 1) = c) := HLS
              clear HLS
              go_wp2
              go_round
              case rel => exact ⟨c, j + 1, rfl, by go_num, by omega, by omega, HL2⟩
              case measure => simp [intOf]; omega
          · obtain rfl : j = q := by omega
            have hjd : decide ((j : Int) < (j : Int)) = false := by simp
            have hcy : c = y := by rw [← HCC.out, ← Hy.out, show k + 1 + j = n by omega]
            subst hcy
            go_wp2_with (first
              | (go_at_call 21; refine (D _).mono ?_; rintro e w1 ⟨rfl, hw⟩; replace hw := hw.symm; subst hw))
            go_round
            case rel => exact ⟨s + p, k + 1, by go_num, by go_num, by omega, HN⟩
            case measure => simp [intOf]; omega
    · obtain rfl : k = n := by omega
      have hkd : decide ((k : Int) < (k : Int)) = false := by simp
      have : s = zz := by rw [← HS.out, Hzz.out]
      subst this
      go_wp2
      go_ret
      exact ⟨rfl, rfl⟩

end Go.Proofs.YteocfkkdjejgdaaDoor
