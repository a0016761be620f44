/- The walks of isPrime, allBelow and power, of small and below: may a number, may numbers be taken? -/
import Derived.Test.YtglomemadcdagaaRBase
namespace Go.Proofs.Ytglomemadcdagaa
open Go.RowKit

theorem belB_inL {bd : Int} {l : List Int} : belB bd l = true ↔ ∀ j, j < l.length → 0 ≤ l.getD j 0 ∧ l.getD j 0 < bd := belB_iff
theorem bel_no {bd : Int} {l : List Int} (h : ¬ ∀ j, j < l.length → 0 ≤ l.getD j 0 ∧ l.getD j 0 < bd) : belB bd l = false := by
  rw [Bool.eq_false_iff]; exact fun e => h (belB_iff.1 e)
theorem bel_yes {bd : Int} {l : List Int} (h : ∀ j, j < l.length → 0 ≤ l.getD j 0 ∧ l.getD j 0 < bd) : belB bd l = true := belB_iff.2 h

set_option maxHeartbeats 400000 in
theorem isPrime_any (p : Int) (w : World) : Calls Try.prog 31 #[.int .i64 p] w fun e w' => e = .returned (.bool (smB p)) ∧ w' = w := by
  by_cases h2 : p = 2
  · subst h2; go_enter Try.func31, Try.ntmps31; go_wp2; go_ret; exact ⟨rfl, rfl⟩
  by_cases h3 : p = 3
  · subst h3; go_enter Try.func31, Try.ntmps31; go_wp2; go_ret; exact ⟨rfl, rfl⟩
  by_cases h5 : p = 5
  · subst h5; go_enter Try.func31, Try.ntmps31; go_wp2; go_ret; exact ⟨rfl, rfl⟩
  by_cases h7 : p = 7
  · subst h7; go_enter Try.func31, Try.ntmps31; go_wp2; go_ret; exact ⟨rfl, rfl⟩
  have e2 : (p == 2) = false := by simpa using h2
  have e3 : (p == 3) = false := by simpa using h3
  have e5 : (p == 5) = false := by simpa using h5
  have e7 : (p == 7) = false := by simpa using h7
  have HS : Hid (smB p = false) := by show smB p = false; simp [smB, e2, e3, e5, e7]
  clear h2 h3 h5 h7
  go_enter Try.func31, Try.ntmps31
  go_wp2
  go_ret
  exact ⟨ret_bool HS.out.symm, rfl⟩

set_option maxHeartbeats 400000 in
theorem small_any (p : Int) (w : World) : Calls Try.prog 24 #[.int .i64 p] w fun e w' => e = .returned (.bool (smB p)) ∧ w' = w := by
  by_cases h2 : p = 2
  · subst h2; go_enter Try.func24, Try.ntmps24; go_wp2; go_ret; exact ⟨rfl, rfl⟩
  by_cases h3 : p = 3
  · subst h3; go_enter Try.func24, Try.ntmps24; go_wp2; go_ret; exact ⟨rfl, rfl⟩
  by_cases h5 : p = 5
  · subst h5; go_enter Try.func24, Try.ntmps24; go_wp2; go_ret; exact ⟨rfl, rfl⟩
  by_cases h7 : p = 7
  · subst h7; go_enter Try.func24, Try.ntmps24; go_wp2; go_ret; exact ⟨rfl, rfl⟩
  have e2 : (p == 2) = false := by simpa using h2
  have e3 : (p == 3) = false := by simpa using h3
  have e5 : (p == 5) = false := by simpa using h5
  have e7 : (p == 7) = false := by simpa using h7
  have HS : Hid (smB p = false) := by show smB p = false; simp [smB, e2, e3, e5, e7]
  clear h2 h3 h5 h7
  go_enter Try.func24, Try.ntmps24
  go_wp2
  go_ret
  exact ⟨ret_bool HS.out.symm, rfl⟩

set_option maxHeartbeats 400000 in
theorem allBelow_any (l : List Int) (v : Value) (bd : Int) (w : World) (hl : Sl w v l) (hll : l.length ≤ maxLen) :
    Calls Try.prog 32 #[v, .int .i64 bd] w fun e w' => e = .returned (.bool (belB bd l)) ∧ w' = w := by
  unfold maxLen at hll
  obtain ⟨n, Hn⟩ : ∃ n : Nat, Hid (l.length = n) := ⟨_, rfl⟩
  have hn63 : n ≤ 9223372036854775807 := by have := Hn.out; omega
  obtain ⟨a, cap, rfl, hc⟩ := hl
  rw [Hn.out] at hc ⊢
  have HC : Hid (∀ j, j < n → ∃ b off, a = some ⟨b, off, none⟩ ∧ w.cell? ⟨b, off + j, none⟩ = some (.int .i64 (l.getD j 0))) := hc
  clear hc hll
  go_enter Try.func32, Try.ntmps32
  go_wp2
  go_loop [9] (fun i => ∃ j : Nat, i = .int .i64 j ∧ j ≤ n ∧ Hid (∀ t, t < j → 0 ≤ l.getD t 0 ∧ l.getD t 0 < bd)) (fun i => (n - intOf i).toNat)
  case atStart => exact ⟨0, rfl, by omega, (fun t ht => by omega : ∀ t, t < 0 → _)⟩
  case round =>
    obtain ⟨j, rfl, hj, HALL⟩ := hrel
    by_cases hlt : j < n
    · obtain ⟨z, Hz⟩ : ∃ z : Int, Hid (z = l.getD j 0) := ⟨_, rfl⟩
      obtain ⟨b, off, rfl, hcz⟩ := HC.out j hlt
      rw [← Hz.out] at hcz
      have hji : (j : Int) < n := by omega
      have hdec : decide ((j : Int) < n) = true := by simp; omega
      by_cases hz0 : z < 0
      · have hd : decide (z < 0) = true := by simpa using hz0
        go_wp2
        go_ret
        refine ⟨ret_bool (bel_no fun h => ?_).symm, rfl⟩
        have := h j (by have := Hn.out; omega)
        rw [← Hz.out] at this
        omega
      · have hd : decide (z < 0) = false := by simpa using hz0
        by_cases hzp : bd ≤ z
        · have hd2 : decide (bd ≤ z) = true := by simpa using hzp
          go_wp2
          go_ret
          refine ⟨ret_bool (bel_no fun h => ?_).symm, rfl⟩
          have := h j (by have := Hn.out; omega)
          rw [← Hz.out] at this
          omega
        · have hd2 : decide (bd ≤ z) = false := by simpa using hzp
          go_wp2
          go_round
          case rel =>
            refine ⟨j + 1, by go_num, by omega, (fun t ht => ?_ : ∀ t, t < j + 1 → _)⟩
            by_cases e : t = j
            · subst e; rw [← Hz.out]; omega
            · exact HALL.out t (by omega)
          case measure => simp [intOf]; omega
    · go_wp2
      go_ret
      exact ⟨ret_bool (bel_yes fun t ht => HALL.out t (by have := Hn.out; omega)).symm, rfl⟩

set_option maxHeartbeats 400000 in
theorem below_any (l : List Int) (v : Value) (bd : Int) (w : World) (hl : Sl w v l) (hll : l.length ≤ maxLen) :
    Calls Try.prog 25 #[v, .int .i64 bd] w fun e w' => e = .returned (.bool (belB bd l)) ∧ w' = w := by
  unfold maxLen at hll
  obtain ⟨n, Hn⟩ : ∃ n : Nat, Hid (l.length = n) := ⟨_, rfl⟩
  have hn63 : n ≤ 9223372036854775807 := by have := Hn.out; omega
  obtain ⟨a, cap, rfl, hc⟩ := hl
  rw [Hn.out] at hc ⊢
  have HC : Hid (∀ j, j < n → ∃ b off, a = some ⟨b, off, none⟩ ∧ w.cell? ⟨b, off + j, none⟩ = some (.int .i64 (l.getD j 0))) := hc
  clear hc hll
  go_enter Try.func25, Try.ntmps25
  go_wp2
  go_loop [5] (fun i => ∃ j : Nat, i = .int .i64 j ∧ j ≤ n ∧ Hid (∀ t, t < j → 0 ≤ l.getD t 0 ∧ l.getD t 0 < bd)) (fun i => (n - intOf i).toNat)
  case atStart => exact ⟨0, rfl, by omega, (fun t ht => by omega : ∀ t, t < 0 → _)⟩
  case round =>
    obtain ⟨j, rfl, hj, HALL⟩ := hrel
    by_cases hlt : j < n
    · obtain ⟨z, Hz⟩ : ∃ z : Int, Hid (z = l.getD j 0) := ⟨_, rfl⟩
      obtain ⟨b, off, rfl, hcz⟩ := HC.out j hlt
      rw [← Hz.out] at hcz
      have hji : (j : Int) < n := by omega
      have hdec : decide ((j : Int) < n) = true := by simp; omega
      by_cases hz0 : z < 0
      · have hd : decide (z < 0) = true := by simpa using hz0
        go_wp2
        go_ret
        refine ⟨ret_bool (bel_no fun h => ?_).symm, rfl⟩
        have := h j (by have := Hn.out; omega)
        rw [← Hz.out] at this
        omega
      · have hd : decide (z < 0) = false := by simpa using hz0
        by_cases hzp : bd ≤ z
        · have hd2 : decide (bd ≤ z) = true := by simpa using hzp
          go_wp2
          go_ret
          refine ⟨ret_bool (bel_no fun h => ?_).symm, rfl⟩
          have := h j (by have := Hn.out; omega)
          rw [← Hz.out] at this
          omega
        · have hd2 : decide (bd ≤ z) = false := by simpa using hzp
          go_wp2
          go_round
          case rel =>
            refine ⟨j + 1, by go_num, by omega, (fun t ht => ?_ : ∀ t, t < j + 1 → _)⟩
            by_cases e : t = j
            · subst e; rw [← Hz.out]; omega
            · exact HALL.out t (by omega)
          case measure => simp [intOf]; omega
    · go_wp2
      go_ret
      exact ⟨ret_bool (bel_yes fun t ht => HALL.out t (by have := Hn.out; omega)).symm, rfl⟩


set_option maxHeartbeats 400000 in
theorem power_any (p k : Nat) (w : World) (hp : 2 ≤ p) (hp' : p ≤ 7) (hk : k ≤ 8) : Calls Try.prog 35 #[.int .i64 p, .int .i64 k] w fun e w' => e = .returned (.int .i64 ((p : Int) ^ k)) ∧ w' = w := by
  go_enter Try.func35, Try.ntmps35
  go_wp2
  go_loop [5, 7] (fun o i => ∃ (y : Int) (j : Nat), i = .int .i64 j ∧ o = .int .i64 y ∧ j ≤ k ∧ Hid (y = (p : Int) ^ j)) (fun _ i => (k - intOf i).toNat)
  case atStart => exact ⟨1, 0, rfl, rfl, by omega, (by show (1 : Int) = (p : Int) ^ 0; simp)⟩
  case round =>
    obtain ⟨y, j, rfl, rfl, hj, HY⟩ := hrel
    by_cases hlt : j < k
    · have hji : (j : Int) < k := by omega
      have h1 := pow_bd (p := (p : Int)) (k := j + 1) (by omega) (by omega) (by omega)
      rw [Int.pow_succ, ← HY.out] at h1
      have h1a := h1.1
      have h1b := h1.2
      clear h1
      go_wp2
      go_round
      case rel => exact ⟨y * p, j + 1, by go_num, by go_num, by omega, (by show y * (p : Int) = (p : Int) ^ (j + 1); rw [Int.pow_succ, HY.out])⟩
      case measure => simp [intOf]; omega
    · go_wp2
      go_ret
      obtain rfl : j = k := by omega
      exact ⟨ret_int HY.out, rfl⟩

end Go.Proofs.Ytglomemadcdagaa
