/- Ways to choose, and whether they are more, as the landed package asks: walked. -/
import Derived.Test.YtmogmkdcplgfjaaV8
import Derived.Test.YtmogmkdcplgfjaaY1
import Derived.Test.YtmogmkdcplgfjaaY2
namespace Go.Proofs.Ytmogmkdcplgfjaa
open Go.RowKit

set_option maxRecDepth 100000 in
set_option maxHeartbeats 4000000 in
theorem pways_in (N k : Nat) (n : Int) (w : World) (hn : n = (N : Int) + (k : Int) - 1) (hN : N + k ≤ 2000000001) (hk : k ≤ 61) (hb : k * chs (N + k - 1) k < 9223372036854775808) :
    Calls Try.prog 37 #[.int .i64 n, .int .i64 (k : Int)] w fun e w' => e = .returned (.int .i64 (chs (N + k - 1) k : Int)) ∧ w' = w := by
  have HP : Hid (∀ i, i < k → chs (N + i - 1) i * (N + i) < 9223372036854775808) := fun i hi => Nat.lt_of_le_of_lt (wy_prod N hi) hb
  have HD : Hid (∀ i, chs (N + i - 1) i * (N + i) / (i + 1) = chs (N + (i + 1) - 1) (i + 1)) := fun i => wy_div N i
  have H0 : Hid (chs (N + 0 - 1) 0 = 1) := chs_zero _
  obtain ⟨z, Hz⟩ : ∃ z, Hid (chs (N + k - 1) k = z) := ⟨_, rfl⟩
  rw [Hz.out]
  obtain ⟨d, hd⟩ : ∃ d : Int, d = (N : Int) - 1 := ⟨_, rfl⟩
  have e1 : IntKind.i64.wrap (n - (k : Int)) = d := by rw [IntWalk.i64_in _ (by omega)]; omega
  clear hb
  go_enter Try.func37, Try.ntmps37
  go_wp2
  go_loopw [5, 8] (fun pv iv wr => ∃ (i p : Nat), iv = .int .i64 (i : Int) ∧ pv = .int .i64 (p : Int) ∧ i ≤ k ∧ Hid (chs (N + i - 1) i = p) ∧ wr = w) (fun _ iv _ => (k - intOf iv).toNat)
  case atStart => exact ⟨0, 1, rfl, rfl, by omega, H0, rfl⟩
  case round =>
    obtain ⟨i, p, rfl, rfl, hi, HPP, e9⟩ := hrel
    subst e9
    by_cases hlt : i < k
    · have hdi : decide ((i : Int) < (k : Int)) = true := by simp; omega
      have hii : (i : Int) < (k : Int) := by omega
      have hpr := HP.out i hlt
      have hdv := HD.out i
      rw [HPP.out] at hpr hdv
      obtain ⟨g, hg⟩ : ∃ g : Int, g = (N : Int) - 1 + (i : Int) := ⟨_, rfl⟩
      obtain ⟨f, hf⟩ : ∃ f : Nat, f = N + i := ⟨_, rfl⟩
      rw [← hf] at hpr hdv
      obtain ⟨r, hr⟩ : ∃ r : Nat, Hid (p * f = r) := ⟨_, rfl⟩
      rw [hr.out] at hpr hdv
      obtain ⟨c, hc⟩ : ∃ c : Nat, Hid (r / (i + 1) = c) := ⟨_, rfl⟩
      rw [hc.out] at hdv
      have HN : Hid (chs (N + (i + 1) - 1) (i + 1) = c) := hdv.symm
      have hcr : c ≤ r := by rw [← hc.out]; exact Nat.div_le_self _ _
      have e2 : IntKind.i64.wrap (d + (i : Int)) = g := by rw [IntWalk.i64_in _ (by omega)]; omega
      have e3 : IntKind.i64.wrap (g + 1) = (f : Int) := by rw [IntWalk.i64_in _ (by omega)]; omega
      have e4 : (p : Int) * (f : Int) = (r : Int) := by rw [← hr.out]; simp
      have e5 : IntKind.i64.wrap (r : Int) = (r : Int) := IntWalk.i64_in _ (by omega)
      have e6 : (r : Int).tdiv ((i : Int) + 1) = (c : Int) := by rw [← hc.out]; rfl
      have e7 : IntKind.i64.wrap (c : Int) = (c : Int) := IntWalk.i64_in _ (by omega)
      have e8 : IntKind.i64.wrap ((i : Int) + 1) = (i : Int) + 1 := IntWalk.i64_in _ (by omega)
      have e9 : (i : Int) + 1 ≠ 0 := by omega
      clear hdv hg hf hd hn
      go_wp2
      go_roundw
      case rel => exact ⟨i + 1, c, by go_num, rfl, by omega, HN, trivial⟩
      case measure => simp [intOf]; omega
    · have hdi : decide ((i : Int) < (k : Int)) = false := by simp; omega
      have ein : i = k := by omega
      have HZ : Hid (p = z) := by show _ = _; rw [← HPP.out, ein]; exact Hz.out
      go_wp2
      go_ret
      exact ⟨by rw [HZ.out]; rfl, rfl⟩
theorem pways_any (n k : Nat) (w : World) (hkn : k ≤ n + 1) (hn : n ≤ 2000000000) (hk : k ≤ 61) (hb : k * chs n k < 9223372036854775808) :
    Calls Try.prog 37 #[.int .i64 (n : Int), .int .i64 (k : Int)] w fun e w' => e = .returned (.int .i64 (chs n k : Int)) ∧ w' = w := by
  have e : n + 1 - k + k - 1 = n := by omega
  have h := pways_in (n + 1 - k) k (n : Int) w (by omega) (by omega) hk (by rw [e]; exact hb)
  rw [e] at h
  exact h
set_option maxRecDepth 100000 in
set_option maxHeartbeats 4000000 in
theorem areMore_any (N k m : Nat) (n : Int) (w : World) (hn : n = (N : Int) + (k : Int) - 1) (hN1 : 1 ≤ N) (hk1 : 1 ≤ k) (hN : N + k ≤ 2000000001) (hk : k ≤ 61) (hp : ∀ i, i < k → chs (N + i - 1) i ≤ m → chs (N + i - 1) i * (N + i) < 9223372036854775808) :
    Calls Try.prog 53 #[.int .i64 n, .int .i64 (k : Int), .int .i64 (m : Int)] w fun e w' => e = .returned (.bool (decide (m < chs (N + k - 1) k))) ∧ w' = w := by
  have HP : Hid (∀ i, i < k → chs (N + i - 1) i ≤ m → chs (N + i - 1) i * (N + i) < 9223372036854775808) := hp
  have HD : Hid (∀ i, chs (N + i - 1) i * (N + i) / (i + 1) = chs (N + (i + 1) - 1) (i + 1)) := fun i => wy_div N i
  have HUP : Hid (∀ i, i ≤ k → chs (N + i - 1) i ≤ chs (N + k - 1) k) := fun i hi => wy_part N hi hN1
  have H0 : Hid (chs (N + 0 - 1) 0 = 1) := chs_zero _
  obtain ⟨z, Hz⟩ : ∃ z, Hid (decide (m < chs (N + k - 1) k) = z) := ⟨_, rfl⟩
  have HT : Hid (∀ i, i < k → m < chs (N + (i + 1) - 1) (i + 1) → z = true) := fun i hi h => by
    rw [← Hz.out]
    exact decide_eq_true (Nat.lt_of_lt_of_le h (HUP.out (i + 1) hi))
  rw [Hz.out]
  obtain ⟨d, hd⟩ : ∃ d : Int, d = (N : Int) - 1 := ⟨_, rfl⟩
  have e1 : IntKind.i64.wrap (n - (k : Int)) = d := by rw [IntWalk.i64_in _ (by omega)]; omega
  clear hp
  go_enter Try.func53, Try.ntmps53
  go_wp2
  go_loopw [7, 10] (fun pv iv wr => ∃ (i p : Nat), iv = .int .i64 (i : Int) ∧ pv = .int .i64 (p : Int) ∧ i ≤ k ∧ (i = 0 ∨ p ≤ m) ∧ Hid (chs (N + i - 1) i = p) ∧ wr = w) (fun _ iv _ => (k - intOf iv).toNat)
  case atStart => exact ⟨0, 1, rfl, rfl, by omega, .inl rfl, H0, rfl⟩
  case round =>
    obtain ⟨i, p, rfl, rfl, hi, hpm, HPP, e9⟩ := hrel
    subst e9
    by_cases hlt : i < k
    · have hdi : decide ((i : Int) < (k : Int)) = true := by simp; omega
      have hii : (i : Int) < (k : Int) := by omega
      have hpr : p * (N + i) < 9223372036854775808 := by
        rcases hpm with e | e
        · subst e
          have := H0.out
          rw [HPP.out] at this
          subst this
          omega
        · have := HP.out i hlt
          rw [HPP.out] at this
          exact this e
      have hdv := HD.out i
      rw [HPP.out] at hdv
      obtain ⟨g, hg⟩ : ∃ g : Int, g = (N : Int) - 1 + (i : Int) := ⟨_, rfl⟩
      obtain ⟨f, hf⟩ : ∃ f : Nat, f = N + i := ⟨_, rfl⟩
      rw [← hf] at hpr hdv
      obtain ⟨r, hr⟩ : ∃ r : Nat, Hid (p * f = r) := ⟨_, rfl⟩
      rw [hr.out] at hpr hdv
      obtain ⟨c, hc⟩ : ∃ c : Nat, Hid (r / (i + 1) = c) := ⟨_, rfl⟩
      rw [hc.out] at hdv
      have HN : Hid (chs (N + (i + 1) - 1) (i + 1) = c) := hdv.symm
      have hcr : c ≤ r := by rw [← hc.out]; exact Nat.div_le_self _ _
      have e2 : IntKind.i64.wrap (d + (i : Int)) = g := by rw [IntWalk.i64_in _ (by omega)]; omega
      have e3 : IntKind.i64.wrap (g + 1) = (f : Int) := by rw [IntWalk.i64_in _ (by omega)]; omega
      have e4 : (p : Int) * (f : Int) = (r : Int) := by rw [← hr.out]; simp
      have e5 : IntKind.i64.wrap (r : Int) = (r : Int) := IntWalk.i64_in _ (by omega)
      have e6 : (r : Int).tdiv ((i : Int) + 1) = (c : Int) := by rw [← hc.out]; rfl
      have e7 : IntKind.i64.wrap (c : Int) = (c : Int) := IntWalk.i64_in _ (by omega)
      have e8 : IntKind.i64.wrap ((i : Int) + 1) = (i : Int) + 1 := IntWalk.i64_in _ (by omega)
      have e9 : (i : Int) + 1 ≠ 0 := by omega
      clear hdv hg hf hd hn hpm
      by_cases hm : m < c
      · have hdm : decide (m < c) = true := by simpa using hm
        have HZ : Hid (z = true) := HT.out i hlt (by rw [HN.out]; exact hm)
        go_wp2
        go_ret
        exact ⟨by rw [HZ.out]; rfl, rfl⟩
      · have hdm : decide (m < c) = false := by simpa using hm
        go_wp2
        go_roundw
        case rel => exact ⟨i + 1, c, by go_num, rfl, by omega, .inr (by omega), HN, trivial⟩
        case measure => simp [intOf]; omega
    · have hdi : decide ((i : Int) < (k : Int)) = false := by simp; omega
      have ein : i = k := by omega
      have HZ : Hid (z = false) := by
        show _ = _
        rw [← Hz.out, ← ein, HPP.out]
        exact decide_eq_false (by omega)
      go_wp2
      go_ret
      exact ⟨by rw [HZ.out]; rfl, rfl⟩
end Go.Proofs.Ytmogmkdcplgfjaa
