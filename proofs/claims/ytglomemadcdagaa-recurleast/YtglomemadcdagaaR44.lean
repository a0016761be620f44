/- The walks of inverse and missing. -/
import Derived.Test.YtglomemadcdagaaR27
import Derived.Test.YtglomemadcdagaaRBM
namespace Go.Proofs.Ytglomemadcdagaa
open Go.RowKit

theorem inv_all : ∀ P : Fin 8, ∀ a : Fin 8, (smB (P.val : Int) && decide (1 ≤ a.val) && decide (a.val < P.val)) = true → (List.range P.val).any (fun b => decide (1 ≤ b) && a.val * b % P.val == 1) = true := by decide +kernel
theorem inv_ex {P a : Nat} (hs : smB (P : Int) = true) (h1 : 1 ≤ a) (ha : a < P) : ∃ b, 1 ≤ b ∧ b < P ∧ a * b % P = 1 := by
  have hb := smB_bd hs
  have h := inv_all ⟨P, by omega⟩ ⟨a, by omega⟩ (by simp [hs, h1, ha])
  obtain ⟨b, hb1, hb2⟩ := List.any_eq_true.1 h
  simp only [Bool.and_eq_true, decide_eq_true_eq, beq_iff_eq, List.mem_range] at hb1 hb2
  exact ⟨b, hb2.1, hb1, hb2.2⟩

set_option maxHeartbeats 1000000 in
theorem inverse_any (P a : Nat) (w : World) (hs : smB (P : Int) = true) (h1 : 1 ≤ a) (ha : a < P) :
    Calls Try.prog 44 #[.int .i64 (P : Int), .int .i64 (a : Int)] w fun e w' => ∃ b : Nat, e = .returned (.int .i64 (b : Int)) ∧ 1 ≤ b ∧ b < P ∧ Hid (a * b % P = 1 ∧ ∀ c, 1 ≤ c → c < b → a * c % P ≠ 1) ∧ w' = w := by
  have hpb := smB_bd hs
  have hp : 2 ≤ P ∧ P ≤ 7 := by omega
  have HEX : Hid (∃ b, 1 ≤ b ∧ b < P ∧ a * b % P = 1) := inv_ex hs h1 ha
  clear hpb
  go_enter Try.func44, Try.ntmps44
  go_wp2
  go_loop [5] (fun i => ∃ b : Nat, i = .int .i64 b ∧ 1 ≤ b ∧ b ≤ P ∧ Hid (∀ c, 1 ≤ c → c < b → a * c % P ≠ 1)) (fun i => (P - intOf i).toNat)
  case atStart => exact ⟨1, rfl, by omega, by omega, (fun c h1 h2 => by omega : ∀ c, 1 ≤ c → c < 1 → _)⟩
  case round =>
    obtain ⟨b, rfl, hb1, hbP, HB⟩ := hrel
    by_cases hlt : b < P
    · have hbi : (b : Int) < P := by omega
      obtain ⟨x, Hx⟩ : ∃ x : Nat, Hid (x = a * b) := ⟨_, rfl⟩
      have hx : (a : Int) * (b : Int) = (x : Int) := by rw [Hx.out, Int.natCast_mul]
      have hx9 : x ≤ 49 := by rw [Hx.out]; exact Nat.mul_le_mul (show a ≤ 7 by omega) (show b ≤ 7 by omega)
      obtain ⟨r, Hr⟩ : ∃ r : Nat, Hid (r = x % P) := ⟨_, rfl⟩
      have hr : (x : Int) % (P : Int) = (r : Int) := by rw [Hr.out, Int.natCast_emod]
      by_cases hr1 : r = 1
      · subst hr1
        go_wp2
        go_ret
        exact ⟨b, rfl, hb1, hlt, ⟨by rw [← Hx.out]; exact Hr.out.symm, HB.out⟩, rfl⟩
      · have hrd : ((r : Int) == 1) = false := by simp; omega
        go_wp2
        go_round
        case rel =>
          refine ⟨b + 1, by go_num, by omega, by omega, (fun c h1 h2 => ?_ : ∀ c, 1 ≤ c → c < b + 1 → _)⟩
          by_cases e : c = b
          · subst e; rw [← Hx.out, ← Hr.out]; exact hr1
          · exact HB.out c h1 (by omega)
        case measure => simp [intOf]; omega
    · obtain ⟨c, h1, h2, h3⟩ := HEX.out
      exact absurd h3 (HB.out c h1 (by omega))

open Classical in
noncomputable def invN (P a : Nat) : Nat := if h : ∃ b, 1 ≤ b ∧ b < P ∧ a * b % P = 1 ∧ ∀ c, 1 ≤ c → c < b → a * c % P ≠ 1 then Classical.choose h else 0
theorem inverse_is (P a : Nat) (w : World) (hs : smB (P : Int) = true) (h1 : 1 ≤ a) (ha : a < P) :
    Calls Try.prog 44 #[.int .i64 (P : Int), .int .i64 (a : Int)] w fun e w' => e = .returned (.int .i64 (invN P a : Nat)) ∧ w' = w := by
  refine (inverse_any P a w hs h1 ha).mono ?_
  rintro e w' ⟨b, rfl, hb1, hb2, HB, rfl⟩
  have hex : ∃ b, 1 ≤ b ∧ b < P ∧ a * b % P = 1 ∧ ∀ c, 1 ≤ c → c < b → a * c % P ≠ 1 := ⟨b, hb1, hb2, HB.out.1, HB.out.2⟩
  have e : invN P a = b := by
    unfold invN
    rw [dif_pos hex]
    obtain ⟨k1, k2, k3, k4⟩ := Classical.choose_spec hex
    by_cases hlt : Classical.choose hex < b
    · exact absurd k3 (HB.out.2 _ k1 hlt)
    · by_cases hgt : b < Classical.choose hex
      · exact absurd HB.out.1 (k4 b hb1 hgt)
      · omega
  exact ⟨by rw [e], rfl⟩
theorem invN_ok {P a : Nat} (hs : smB (P : Int) = true) (h1 : 1 ≤ a) (ha : a < P) : 1 ≤ invN P a ∧ invN P a < P ∧ a * invN P a % P = 1 := by
  have hleast : ∀ n b, b ≤ n → 1 ≤ b → b < P → a * b % P = 1 → ∃ b, 1 ≤ b ∧ b < P ∧ a * b % P = 1 ∧ ∀ c, 1 ≤ c → c < b → a * c % P ≠ 1 := by
    intro n
    induction n with
    | zero => intro b h; omega
    | succ n ih =>
      intro b hbn hb1 hb2 hb3
      by_cases h : ∃ c, 1 ≤ c ∧ c < b ∧ a * c % P = 1
      · obtain ⟨c, c1, c2, c3⟩ := h
        exact ih c (by omega) c1 (by omega) c3
      · exact ⟨b, hb1, hb2, hb3, fun c c1 c2 c3 => h ⟨c, c1, c2, c3⟩⟩
  obtain ⟨b, b1, b2, b3⟩ := inv_ex hs h1 ha
  have hex := hleast b b (Nat.le_refl _) b1 b2 b3
  unfold invN
  rw [dif_pos hex]
  obtain ⟨k1, k2, k3, _⟩ := Classical.choose_spec hex
  exact ⟨k1, k2, k3⟩

set_option maxHeartbeats 2000000 in
theorem missing_any (P i : Nat) (T S : List Int) (v u : Value) (w : World) (hs : smB (P : Int) = true) (hv : Sl w v T) (hu : Sl w u S) (hbT : belB P T = true) (hbS : belB P S = true) (hi : i < S.length) (hT : T.length ≤ i) (hS : S.length ≤ 60) :
    Calls Try.prog 40 #[.int .i64 (P : Int), v, u, .int .i64 (i : Int)] w fun e w' => ∃ m : Nat, e = .returned (.int .i64 (m : Int)) ∧ m < P ∧ Hid ((P : Int) ∣ S.getD i 0 - dot T (fun j => S.getD j 0) i - m) ∧ w' = w := by
  have hpb := smB_bd hs
  have hp : 2 ≤ P ∧ P ≤ 7 := by omega
  obtain ⟨n, Hn⟩ : ∃ n : Nat, Hid (S.length = n) := ⟨_, rfl⟩
  obtain ⟨k, Hk⟩ : ∃ k : Nat, Hid (T.length = k) := ⟨_, rfl⟩
  have hn : i < n ∧ n ≤ 60 ∧ k ≤ i := by rw [← Hn.out, ← Hk.out]; omega
  obtain ⟨b, off, cap, rfl, hbw, huc⟩ := hu.form Hn.out (by omega)
  obtain ⟨a, ca, rfl, hvc⟩ := hv
  rw [Hk.out] at hvc ⊢
  have HV : Hid (∀ j, j < k → ∃ g o, a = some ⟨g, o, none⟩ ∧ w.cell? ⟨g, o + j, none⟩ = some (.int .i64 (T.getD j 0))) := hvc
  have HU : Hid (∀ j, j < n → w.cell? ⟨b, off + j, none⟩ = some (.int .i64 (S.getD j 0))) := huc
  have HT : Hid (∀ j, j < k → 0 ≤ T.getD j 0 ∧ T.getD j 0 < P) := by show ∀ j, j < k → _; rw [← Hk.out]; exact belB_iff.1 hbT
  have HSb : Hid (∀ j, j < n → 0 ≤ S.getD j 0 ∧ S.getD j 0 < P) := by show ∀ j, j < n → _; rw [← Hn.out]; exact belB_iff.1 hbS
  obtain ⟨x0, Hx0⟩ : ∃ x : Int, Hid (x = S.getD i 0) := ⟨_, rfl⟩
  have hc0 := HU.out i hn.1
  have hx0 := HSb.out i hn.1
  rw [← Hx0.out] at hc0 hx0
  clear hvc huc hi hT hS hpb
  go_enter Try.func40, Try.ntmps40
  go_wp2
  go_loop [9, 18] (fun s c => ∃ (y : Int) (j : Nat), c = .int .i64 j ∧ s = .int .i64 y ∧ j ≤ k ∧ 0 ≤ y ∧ y ≤ 6 + (j : Int) * 49 ∧ Hid ((P : Int) ∣ x0 - sumTo (fun c => T.getD c 0 * S.getD (i - 1 - c) 0) j - y)) (fun _ c => (k - intOf c).toNat)
  case atStart =>
    refine ⟨x0, 0, rfl, rfl, by omega, hx0.1, by omega, ?_⟩
    show (P : Int) ∣ x0 - 0 - x0
    rw [show x0 - 0 - x0 = 0 by omega]; exact Int.dvd_zero _
  case round =>
    obtain ⟨y, j, rfl, rfl, hj, hy0, hy9, HY⟩ := hrel
    by_cases hlt : j < k
    · have hji : (j : Int) < k := by omega
      obtain ⟨g, o, rfl, hcz⟩ := HV.out j hlt
      obtain ⟨z, Hz⟩ : ∃ z : Int, Hid (z = T.getD j 0) := ⟨_, rfl⟩
      obtain ⟨m, Hm⟩ : ∃ m : Nat, Hid (m = i - 1 - j) := ⟨_, rfl⟩
      obtain ⟨x, Hx⟩ : ∃ x : Int, Hid (x = S.getD m 0) := ⟨_, rfl⟩
      have hz := HT.out j hlt
      have hmn : m < n := by rw [Hm.out]; omega
      have hx := HSb.out m hmn
      have hcx := HU.out m hmn
      rw [← Hz.out] at hz hcz
      rw [← Hx.out] at hx hcx
      have hme : (i : Int) - 1 - (j : Int) = (m : Int) := by rw [Hm.out]; omega
      have hpz : 0 ≤ (P : Int) - z ∧ (P : Int) - z ≤ 7 := by omega
      have hq0 : 0 ≤ ((P : Int) - z) * x := Int.mul_nonneg hpz.1 hx.1
      have hq9 : ((P : Int) - z) * x ≤ 7 * 7 := Int.mul_le_mul hpz.2 (by omega) hx.1 (by omega)
      go_wp2
      go_round
      case rel =>
        refine ⟨y + ((P : Int) - z) * x, j + 1, by go_num, by go_num, by omega, by omega, by rw [Int.natCast_add, Int.add_mul]; omega, ?_⟩
        show (P : Int) ∣ x0 - (sumTo (fun c => T.getD c 0 * S.getD (i - 1 - c) 0) j + T.getD j 0 * S.getD (i - 1 - j) 0) - (y + ((P : Int) - z) * x)
        rw [← Hz.out, ← Hm.out, ← Hx.out, Int.sub_mul]
        have h1 := Int.dvd_sub HY.out (Int.dvd_mul_right (P : Int) x)
        rwa [show x0 - sumTo (fun c => T.getD c 0 * S.getD (i - 1 - c) 0) j - y - (P : Int) * x = x0 - (sumTo (fun c => T.getD c 0 * S.getD (i - 1 - c) 0) j + z * x) - (y + ((P : Int) * x - z * x)) by omega] at h1
      case measure => simp [intOf]; omega
    · obtain rfl : j = k := by omega
      obtain ⟨m, Hm⟩ : ∃ m : Nat, Hid ((m : Int) = y % (P : Int)) := ⟨(y % (P : Int)).toNat, by
        show (((y % (P : Int)).toNat : Nat) : Int) = y % (P : Int)
        have := Int.emod_nonneg y (show (P : Int) ≠ 0 by omega)
        omega⟩
      have hym : y % (P : Int) = (m : Int) := Hm.out.symm
      have hmP : m < P := by have := Int.emod_lt_of_pos y (show (0 : Int) < P by omega); omega
      go_wp2
      go_ret
      refine ⟨m, rfl, hmP, ?_, rfl⟩
      show (P : Int) ∣ S.getD i 0 - dot T (fun j => S.getD j 0) i - m
      unfold dot
      rw [Hk.out, ← Hx0.out, Hm.out]
      have h1 := Int.dvd_sub HY.out (emod_dvd (P : Int) y)
      rwa [show x0 - sumTo (fun c => T.getD c 0 * S.getD (i - 1 - c) 0) j - y - (y % (P : Int) - y) = x0 - sumTo (fun c => T.getD c 0 * S.getD (i - 1 - c) 0) j - y % (P : Int) by omega] at h1

end Go.Proofs.Ytglomemadcdagaa
