/- What the landed package asks of its numbers, walked. -/
import Derived.Test.YtcjkcgfohmhbcabWQ
import Derived.Test.YtcjkcgfohmhbcabWxA
namespace Go.Proofs.Ytcjkcgfohmhbcab
open Go.RowKit

set_option maxRecDepth 100000 in
theorem isBase_any (k : Int) (w : World) :
    Calls Try.prog 12 #[.int .i64 k] w fun e w' => e = .returned (.bool (decide (1 ≤ k ∧ k ≤ 10))) ∧ w' = w := by
  by_cases h1 : 1 ≤ k
  · have hd1 : decide (1 ≤ k) = true := by simpa using h1
    by_cases h2 : k ≤ 10
    · have hd2 : decide (k ≤ 10) = true := by simpa using h2
      rw [decide_eq_true ⟨h1, h2⟩]
      clear h1 h2
      go_enter Try.func12, Try.ntmps12
      go_wp2
      go_ret
      exact ⟨rfl, rfl⟩
    · have hd2 : decide (k ≤ 10) = false := by simpa using h2
      rw [decide_eq_false (fun h => h2 h.2)]
      clear h1 h2
      go_enter Try.func12, Try.ntmps12
      go_wp2
      go_ret
      exact ⟨rfl, rfl⟩
  · have hd1 : decide (1 ≤ k) = false := by simpa using h1
    rw [decide_eq_false (fun h => h1 h.1)]
    clear h1
    go_enter Try.func12, Try.ntmps12
    go_wp2
    go_ret
    exact ⟨rfl, rfl⟩
/-- Are all numbers below it, and none below 0? -/
def arB (k : Int) (l : List Int) : Bool := (List.range l.length).all fun i => decide (0 ≤ l.getD i 0) && decide (l.getD i 0 < k)
set_option maxRecDepth 100000 in
set_option maxHeartbeats 4000000 in
theorem areBelow_any (k : Int) (l : List Int) (v : Value) (w : World) (hv : Sl w v l) (hl : l.length ≤ 4096) :
    Calls Try.prog 17 #[.int .i64 k, v] w fun e w' => e = .returned (.bool (arB k l)) ∧ w' = w := by
  obtain ⟨z, Hz⟩ : ∃ z, Hid (arB k l = z) := ⟨_, rfl⟩
  obtain ⟨a, c, rfl, hA⟩ := hv
  have HA : Hid (∀ i, i < l.length → ∃ b off, a = some ⟨b, off, none⟩ ∧ w.cell? ⟨b, off + i, none⟩ = some (.int .i64 (l.getD i 0))) := hA
  have HB : Hid (∀ i, i < l.length → (l.getD i 0 < 0 ∨ k ≤ l.getD i 0) → z = false) := fun i hi hb => by
    rw [← Hz.out]; unfold arB
    cases e : (List.range l.length).all fun i => decide (0 ≤ l.getD i 0) && decide (l.getD i 0 < k) with
    | false => rfl
    | true =>
      have := List.all_eq_true.1 e i (List.mem_range.2 hi)
      simp only [Bool.and_eq_true, decide_eq_true_eq] at this
      omega
  have HG : Hid ((∀ i, i < l.length → 0 ≤ l.getD i 0 ∧ l.getD i 0 < k) → z = true) := fun hg => by
    rw [← Hz.out]; unfold arB
    rw [List.all_eq_true]
    intro i hi
    have := hg i (List.mem_range.1 hi)
    simp only [Bool.and_eq_true, decide_eq_true_eq]
    exact this
  rw [Hz.out]
  obtain ⟨n, Hn⟩ : ∃ n, Hid (l.length = n) := ⟨_, rfl⟩
  rw [Hn.out] at HA HB HG hl ⊢
  clear hA
  go_enter Try.func17, Try.ntmps17
  go_wp2
  go_loopw [9] (fun iv wr => ∃ (i : Nat), iv = .int .i64 (i : Int) ∧ i ≤ n ∧ Hid (∀ j, j < i → 0 ≤ l.getD j 0 ∧ l.getD j 0 < k) ∧ wr = w) (fun iv _ => (n - intOf iv).toNat)
  case atStart => exact ⟨0, rfl, by omega, (show ∀ j, j < 0 → _ from fun j h => by omega), rfl⟩
  case round =>
    obtain ⟨i, rfl, hi, HI, e1⟩ := hrel
    subst e1
    by_cases hlt : i < n
    · have hdi : decide ((i : Int) < (n : Int)) = true := by simp; omega
      have hii : (i : Int) < (n : Int) := by omega
      obtain ⟨b1, o1, rfl, c1⟩ := HA.out i hlt
      obtain ⟨x, hx⟩ : ∃ x, Hid (l.getD i 0 = x) := ⟨_, rfl⟩
      rw [hx.out] at c1
      by_cases ha : x < 0
      · have hd1 : decide (x < 0) = true := by simpa using ha
        have HZ : Hid (z = false) := HB.out i hlt (.inl (by rw [hx.out]; exact ha))
        go_wp2
        go_ret
        exact ⟨by rw [HZ.out]; rfl, rfl⟩
      · have hd1 : decide (x < 0) = false := by simpa using ha
        by_cases hb : k ≤ x
        · have hd2 : decide (k ≤ x) = true := by simpa using hb
          have HZ : Hid (z = false) := HB.out i hlt (.inr (by rw [hx.out]; exact hb))
          go_wp2
          go_ret
          exact ⟨by rw [HZ.out]; rfl, rfl⟩
        · have hd2 : decide (k ≤ x) = false := by simpa using hb
          have HI2 : Hid (∀ j, j < i + 1 → 0 ≤ l.getD j 0 ∧ l.getD j 0 < k) := fun j hj => by
            by_cases e : j = i
            · rw [e, hx.out]; omega
            · exact HI.out j (by omega)
          clear HI
          go_wp2
          go_roundw
          case rel => exact ⟨i + 1, by go_num, by omega, HI2, trivial⟩
          case measure => simp [intOf]; omega
    · have hdi : decide ((i : Int) < (n : Int)) = false := by simp; omega
      have HZ : Hid (z = true) := HG.out fun j hj => HI.out j (by omega)
      go_wp2
      go_ret
      exact ⟨by rw [HZ.out]; rfl, rfl⟩
theorem arB_ten (l : List Int) (h : l.length ≤ 4096) : wF l = if arB 10 l = true then 0 else 1 := by
  unfold wF
  rw [if_neg (by omega)]
  cases e : arB 10 l with
  | true =>
    rw [if_neg, if_pos rfl]
    intro k
    obtain ⟨i, hi, k⟩ := List.any_eq_true.1 k
    have := List.all_eq_true.1 e i hi
    simp only [Bool.and_eq_true, Bool.or_eq_true, decide_eq_true_eq] at this k
    omega
  | false =>
    rw [if_pos, if_neg (by decide)]
    cases f : (List.range l.length).any fun i => decide (l.getD i 0 < 0) || decide (9 < l.getD i 0) with
    | true => rfl
    | false =>
      have : arB 10 l = true := List.all_eq_true.2 fun i hi => by
        have := List.any_eq_false.1 f i hi
        simp only [Bool.or_eq_true, decide_eq_true_eq] at this
        simp only [Bool.and_eq_true, decide_eq_true_eq]
        omega
      rw [e] at this; cases this
set_option maxRecDepth 100000 in
set_option maxHeartbeats 4000000 in
theorem check_any (l : List Int) (v : Value) (w : World) (hv : Sl w v l) :
    Calls Try.prog 16 #[v] w fun e w' => e = .returned (.int .i64 (wF l : Int)) ∧ w' = w := by
  by_cases h4 : 4096 < l.length
  · have HZ : Hid (wF l = 3) := by show _ = _; unfold wF; rw [if_pos h4]
    obtain ⟨a, c, rfl, -⟩ := hv
    obtain ⟨n, Hn⟩ : ∃ n, Hid (l.length = n) := ⟨_, rfl⟩
    rw [Hn.out] at h4 ⊢
    have hd : decide ((4096 : Int) < (n : Int)) = true := by simp; omega
    rw [HZ.out]
    go_enter Try.func16, Try.ntmps16
    go_wp2
    go_ret
    exact ⟨rfl, rfl⟩
  · have HZ := arB_ten l (by omega)
    have C := areBelow_any 10 l v w hv (by omega)
    obtain ⟨a, c, rfl, -⟩ := hv
    obtain ⟨n, Hn⟩ : ∃ n, Hid (l.length = n) := ⟨_, rfl⟩
    rw [Hn.out] at h4 C ⊢
    have hd : decide ((4096 : Int) < (n : Int)) = false := by simp; omega
    obtain ⟨z, Hz⟩ : ∃ z, Hid (wF l = z) := ⟨_, rfl⟩
    obtain ⟨p, Hp⟩ : ∃ p, Hid (arB 10 l = p) := ⟨_, rfl⟩
    rw [Hp.out] at C HZ
    rw [Hz.out] at HZ ⊢
    cases p with
    | true =>
      have HZ2 : Hid (z = 0) := HZ
      rw [HZ2.out]
      clear HZ HZ2 Hz
      go_enter Try.func16, Try.ntmps16
      go_wp2_with (go_at_call 17; refine C.mono ?_; rintro e w' ⟨rfl, rfl⟩; clear C)
      go_ret
      exact ⟨rfl, rfl⟩
    | false =>
      have HZ2 : Hid (z = 1) := HZ
      rw [HZ2.out]
      clear HZ HZ2 Hz
      go_enter Try.func16, Try.ntmps16
      go_wp2_with (go_at_call 17; refine C.mono ?_; rintro e w' ⟨rfl, rfl⟩; clear C)
      go_ret
      exact ⟨rfl, rfl⟩
set_option maxRecDepth 100000 in
set_option maxHeartbeats 4000000 in
theorem isWithin_any (k n m : Nat) (w : World) (hk : 1 ≤ k) (hk2 : (k : Int) < 2 ^ 63) (hn : n ≤ 60) (hm : m ≤ 1000000000000000000) :
    Calls Try.prog 13 #[.int .i64 (k : Int), .int .i64 (n : Int), .int .i64 (m : Int)] w fun e w' => e = .returned (.bool (decide (k ^ n ≤ m))) ∧ w' = w := by
  have HW := within_is hk n m
  have HD : Hid (∀ i q, m / k ^ i = q → m / k ^ (i + 1) = q / k) := fun i q h => by rw [← h, div_more]
  have H0 : Hid (m / k ^ 0 = m) := by show _ = _; rw [Nat.pow_zero, Nat.div_one]
  have hk0 : (k : Int) ≠ 0 := by omega
  go_enter Try.func13, Try.ntmps13
  go_wp2
  go_loopw [2, 8] (fun mv iv wr => ∃ (i q : Nat), iv = .int .i64 (i : Int) ∧ mv = .int .i64 (q : Int) ∧ i ≤ n ∧ q ≤ 1000000000000000000 ∧ Hid (m / k ^ i = q) ∧ wr = w) (fun _ iv _ => (n - intOf iv).toNat)
  case atStart => exact ⟨0, m, rfl, rfl, by omega, hm, H0, rfl⟩
  case round =>
    obtain ⟨i, q, rfl, rfl, hi, hq, HQ, e1⟩ := hrel
    subst e1
    by_cases hlt : i < n
    · have hdi : decide ((i : Int) < (n : Int)) = true := by simp; omega
      have hii : (i : Int) < (n : Int) := by omega
      obtain ⟨r, Hr⟩ : ∃ r, Hid (q / k = r) := ⟨_, rfl⟩
      have er : (q : Int).tdiv (k : Int) = (r : Int) := by rw [← Hr.out]; rfl
      have hr : r ≤ 1000000000000000000 := by rw [← Hr.out]; exact Nat.le_trans (Nat.div_le_self _ _) hq
      have hrw : IntKind.i64.wrap (r : Int) = (r : Int) := IntWalk.i64_in _ (by omega)
      have HQ2 : Hid (m / k ^ (i + 1) = r) := by show _ = _; rw [HD.out i q HQ.out]; exact Hr.out
      go_wp2
      go_roundw
      case rel => exact ⟨i + 1, r, by go_num, rfl, by omega, by omega, HQ2, trivial⟩
      case measure => simp [intOf]; omega
    · have hdi : decide ((i : Int) < (n : Int)) = false := by simp; omega
      have ein : i = n := by omega
      have HZ : Hid (decide (k ^ n ≤ m) = decide (0 < q)) := by
        show _ = _
        have e := HQ.out
        rw [ein] at e
        rw [e] at HW
        by_cases h : k ^ n ≤ m
        · have := HW.2 h
          rw [decide_eq_true h, decide_eq_true (by omega)]
        · have : ¬ 0 < q := fun h2 => h (HW.1 h2)
          rw [decide_eq_false h, decide_eq_false (by omega)]
      go_wp2
      go_ret
      exact ⟨by rw [HZ.out]; rfl, rfl⟩
set_option maxRecDepth 100000 in
set_option maxHeartbeats 4000000 in
theorem power_any (k n : Nat) (w : World) (hk : 1 ≤ k) (hn : n ≤ 60) (h18 : k ^ n ≤ 1000000000000000000) :
    Calls Try.prog 20 #[.int .i64 (k : Int), .int .i64 (n : Int)] w fun e w' => e = .returned (.int .i64 ((k ^ n : Nat) : Int)) ∧ w' = w := by
  have HPW : Hid (∀ i, i ≤ n → k ^ i ≤ 1000000000000000000) := fun i hi => Nat.le_trans (Nat.pow_le_pow_right hk hi) h18
  obtain ⟨z, Hz⟩ : ∃ z, Hid (k ^ n = z) := ⟨_, rfl⟩
  rw [Hz.out]
  clear h18
  go_enter Try.func20, Try.ntmps20
  go_wp2
  go_loopw [5, 7] (fun pv iv wr => ∃ (i p : Nat), iv = .int .i64 (i : Int) ∧ pv = .int .i64 (p : Int) ∧ i ≤ n ∧ Hid (k ^ i = p) ∧ wr = w) (fun _ iv _ => (n - intOf iv).toNat)
  case atStart => exact ⟨0, 1, rfl, rfl, by omega, rfl, rfl⟩
  case round =>
    obtain ⟨i, p, rfl, rfl, hi, HP, e1⟩ := hrel
    subst e1
    by_cases hlt : i < n
    · have hdi : decide ((i : Int) < (n : Int)) = true := by simp; omega
      have hii : (i : Int) < (n : Int) := by omega
      obtain ⟨q, Hq⟩ : ∃ q, Hid (p * k = q) := ⟨_, rfl⟩
      have HP2 : Hid (k ^ (i + 1) = q) := by show _ = _; rw [Nat.pow_succ, HP.out]; exact Hq.out
      have hq18 : q ≤ 1000000000000000000 := by rw [← HP2.out]; exact HPW.out _ (by omega)
      have eq1 : (p : Int) * (k : Int) = (q : Int) := by rw [← Hq.out]; simp
      have hqw : IntKind.i64.wrap (q : Int) = (q : Int) := IntWalk.i64_in _ (by omega)
      go_wp2
      go_roundw
      case rel => exact ⟨i + 1, q, by go_num, rfl, by omega, HP2, trivial⟩
      case measure => simp [intOf]; omega
    · have hdi : decide ((i : Int) < (n : Int)) = false := by simp; omega
      have ein : i = n := by omega
      have HZ : Hid (p = z) := by show _ = _; rw [← HP.out, ein]; exact Hz.out
      go_wp2
      go_ret
      exact ⟨by rw [HZ.out]; rfl, rfl⟩
end Go.Proofs.Ytcjkcgfohmhbcab
