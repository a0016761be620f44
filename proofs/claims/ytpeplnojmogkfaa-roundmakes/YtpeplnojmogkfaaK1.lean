/- What is wrong with one round, with one pair: the program's own, walked. -/
import Derived.Test.YtpeplnojmogkfaaLA
namespace Go.Proofs.Ytpeplnojmogkfaa
open Go.RowKit

set_option maxHeartbeats 2000000 in
theorem isTeams_any (n : Int) (w : World) : Calls Try.prog 25 #[.int .i64 n] w fun e w' => e = .returned (.bool (decide ¬ (n < 2 ∨ 16 < n ∨ n % 2 = 1))) ∧ w' = w := by
  by_cases h1 : n < 2
  · rw [show (decide ¬ (n < 2 ∨ 16 < n ∨ n % 2 = 1)) = false by simp [h1]]
    have hd : decide ((2 : Int) ≤ n) = false := by simp; omega
    go_enter Try.func25, Try.ntmps25
    go_wp2
    go_ret
    exact ⟨rfl, rfl⟩
  · have hd : decide ((2 : Int) ≤ n) = true := by simp; omega
    by_cases h2 : 16 < n
    · rw [show (decide ¬ (n < 2 ∨ 16 < n ∨ n % 2 = 1)) = false by simp [h2]]
      have hd2 : decide (n ≤ 16) = false := by simp; omega
      go_enter Try.func25, Try.ntmps25
      go_wp2
      go_ret
      exact ⟨rfl, rfl⟩
    · have hd2 : decide (n ≤ 16) = true := by simp; omega
      by_cases h3 : n % 2 = 1
      · rw [show (decide ¬ (n < 2 ∨ 16 < n ∨ n % 2 = 1)) = false by simp [h3]]
        have he : (n.tmod 2 == 0) = false := by rw [beq_eq_false_iff_ne, Int.tmod_eq_emod_of_nonneg (by omega)]; omega
        go_enter Try.func25, Try.ntmps25
        go_wp2
        go_ret
        exact ⟨rfl, rfl⟩
      · rw [show (decide ¬ (n < 2 ∨ 16 < n ∨ n % 2 = 1)) = true by simp [h1, h2, h3]]
        have he : (n % 2 == 0) = true := by rw [beq_iff_eq]; omega
        go_enter Try.func25, Try.ntmps25
        go_wp2
        go_ret
        exact ⟨rfl, rfl⟩
set_option maxHeartbeats 2000000 in
theorem isModulus_any (n : Int) (w : World) : Calls Try.prog 36 #[.int .i64 n] w fun e w' => e = .returned (.bool (decide ¬ (n < 3 ∨ 15 < n ∨ n % 2 = 0))) ∧ w' = w := by
  by_cases h1 : n < 3
  · rw [show (decide ¬ (n < 3 ∨ 15 < n ∨ n % 2 = 0)) = false by simp [h1]]
    have hd : decide ((3 : Int) ≤ n) = false := by simp; omega
    go_enter Try.func36, Try.ntmps36
    go_wp2
    go_ret
    exact ⟨rfl, rfl⟩
  · have hd : decide ((3 : Int) ≤ n) = true := by simp; omega
    by_cases h2 : 15 < n
    · rw [show (decide ¬ (n < 3 ∨ 15 < n ∨ n % 2 = 0)) = false by simp [h2]]
      have hd2 : decide (n ≤ 15) = false := by simp; omega
      go_enter Try.func36, Try.ntmps36
      go_wp2
      go_ret
      exact ⟨rfl, rfl⟩
    · have hd2 : decide (n ≤ 15) = true := by simp; omega
      by_cases h3 : n % 2 = 0
      · rw [show (decide ¬ (n < 3 ∨ 15 < n ∨ n % 2 = 0)) = false by simp [h3]]
        have he : (n.tmod 2 == 1) = false := by rw [beq_eq_false_iff_ne, Int.tmod_eq_emod_of_nonneg (by omega)]; omega
        go_enter Try.func36, Try.ntmps36
        go_wp2
        go_ret
        exact ⟨rfl, rfl⟩
      · rw [show (decide ¬ (n < 3 ∨ 15 < n ∨ n % 2 = 0)) = true by simp [h1, h2, h3]]
        have he : (n % 2 == 1) = true := by rw [beq_iff_eq]; omega
        go_enter Try.func36, Try.ntmps36
        go_wp2
        go_ret
        exact ⟨rfl, rfl⟩
set_option maxHeartbeats 2000000 in
theorem isComplete_any (n m : Nat) (a : Option Addr) (c : Nat) (w : World) (hn : 1 ≤ n) (hn2 : n ≤ 16) (_hm : m ≤ 99) : Calls Try.prog 28 #[.int .i64 (n : Int), .slice a m c] w fun e w' => e = .returned (.bool (m == n - 1)) ∧ w' = w := by
  by_cases h : m = n - 1
  · have he : ((m : Int) == (n : Int) - 1) = true := by simp; omega
    rw [show (m == n - 1) = true by simp [h]]
    clear h
    go_enter Try.func28, Try.ntmps28
    go_wp2
    go_ret
    exact ⟨rfl, rfl⟩
  · have he : ((m : Int) == (n : Int) - 1) = false := by simp; omega
    rw [show (m == n - 1) = false by simp [h]]
    go_enter Try.func28, Try.ntmps28
    go_wp2
    go_ret
    exact ⟨rfl, rfl⟩
set_option maxRecDepth 100000 in
set_option maxHeartbeats 8000000 in
theorem checkRound_any (N : Nat) (l : List Int) (v : Value) (w : World) (hv : Sl w v l) (_hl : l.length ≤ maxLen) (hN2 : 2 ≤ N) (hN16 : N ≤ 16) :
    Calls Try.prog 26 #[.int .i64 (N : Int), v] w fun e w' => e = .returned (.int .i64 (rdF N l : Int)) ∧ Below w.heap.size w w' := by
  obtain ⟨z, Hz⟩ : ∃ z, Hid (rdF N l = z) := ⟨_, rfl⟩
  rw [Hz.out]
  unfold maxLen at _hl
  obtain ⟨k, Hk⟩ : ∃ k, Hid (l.length = k) := ⟨_, rfl⟩
  by_cases hk : k = N
  · obtain ⟨b1, o1, c1, rfl, _, hcell⟩ := hv.form (Hk.out.trans hk) (by omega)
    have HC : Hid (∀ j, j < N → w.cell? ⟨b1, o1 + j, none⟩ = some (.int .i64 (l.getD j 0))) := hcell
    have HLEN : Hid (l.length = N) := Hk.out.trans hk
    have hne : ((N : Int) != (N : Int)) = false := by simp
    clear hcell hv hk Hk _hl
    go_enter Try.func26, Try.ntmps26
    go_wp2
    go_loopw [15] (fun jv wr => ∃ j : Nat, jv = .int .i64 (j : Int) ∧ j ≤ N ∧ Hid (∀ c, c < j → 0 ≤ l.getD c 0 ∧ l.getD c 0 < N) ∧ wr = w) (fun jv _ => (N - intOf jv).toNat)
    case atStart => exact ⟨0, rfl, by omega, (show ∀ c, c < 0 → _ from fun c h => by omega), rfl⟩
    case round =>
      obtain ⟨j, rfl, hj, HJ, hw⟩ := hrel
      replace hw := hw.symm
      subst hw
      by_cases hlj : j < N
      · have hdj : decide ((j : Int) < (N : Int)) = true := by simp; omega
        have hjj : (j : Int) < (N : Int) := by omega
        have hcj := HC.out j hlj
        obtain ⟨x, Hx⟩ : ∃ x, Hid (l.getD j 0 = x) := ⟨_, rfl⟩
        rw [Hx.out] at hcj
        by_cases hx0 : x < 0
        · have hdx : decide (x < 0) = true := by simpa using hx0
          have HZ1 : Hid (z = 1) := by
            have := rdF_out HLEN.out hlj (.inl (by rw [Hx.out]; exact hx0))
            show _ = _
            rw [← Hz.out, this]
          go_wp2
          go_ret
          exact ⟨by rw [HZ1.out]; rfl, Below.refl _ _⟩
        · have hdx : decide (x < 0) = false := by simpa using hx0
          by_cases hxN : (N : Int) ≤ x
          · have hdn : decide ((N : Int) ≤ x) = true := by simpa using hxN
            have HZ1 : Hid (z = 1) := by
              have := rdF_out HLEN.out hlj (.inr (by rw [Hx.out]; exact hxN))
              show _ = _
              rw [← Hz.out, this]
            go_wp2
            go_ret
            exact ⟨by rw [HZ1.out]; rfl, Below.refl _ _⟩
          · have hdn : decide ((N : Int) ≤ x) = false := by simpa using hxN
            have HJ2 : Hid (∀ c, c < j + 1 → 0 ≤ l.getD c 0 ∧ l.getD c 0 < N) := fun c hc => by
              by_cases e : c = j
              · rw [e, Hx.out]; omega
              · exact HJ.out c (by omega)
            go_wp2
            go_roundw
            case rel => exact ⟨j + 1, by go_num, by omega, HJ2, by first | rfl | trivial⟩
            case measure => simp [intOf]; omega
      · have hdj : decide ((j : Int) < (N : Int)) = false := by simp; omega
        have hdjn : decide (j < N) = false := by simp; omega
        have HJ2 : Hid (∀ c, c < N → 0 ≤ l.getD c 0 ∧ l.getD c 0 < N) := fun c hc => HJ.out c (by omega)
        clear HJ hj
        go_wp2
        go_loopw [29] (fun jv wr => ∃ j : Nat, jv = .int .i64 (j : Int) ∧ j ≤ N ∧ Hid (∀ c, c < j → l.getD c 0 ≠ c ∧ l.getD (l.getD c 0).toNat 0 = c) ∧ Below w.heap.size w wr) (fun jv _ => (N - intOf jv).toNat)
        case atStart => exact ⟨0, rfl, by omega, (show ∀ c, c < 0 → _ from fun c h => by omega), Below.refl _ _⟩
        case round =>
          obtain ⟨j, rfl, hj, HJ, hB⟩ := hrel
          by_cases hlj : j < N
          · have hdj : decide ((j : Int) < (N : Int)) = true := by simp; omega
            have hjj : (j : Int) < (N : Int) := by omega
            have hcj := (hB.cell (World.block_lt_of_cell? _ _ (HC.out j hlj))).trans (HC.out j hlj)
            have ho := HJ2.out j hlj
            obtain ⟨x, Hx⟩ : ∃ x : Nat, Hid (l.getD j 0 = (x : Int)) := ⟨(l.getD j 0).toNat, by show _ = _; omega⟩
            rw [Hx.out] at hcj ho
            have hxN : x < N := by omega
            have hcx := (hB.cell (World.block_lt_of_cell? _ _ (HC.out x hxN))).trans (HC.out x hxN)
            obtain ⟨y, Hy⟩ : ∃ y, Hid (l.getD x 0 = y) := ⟨_, rfl⟩
            rw [Hy.out] at hcx
            clear ho
            by_cases hxj : x = j
            · have hxe : ((x : Int) == (j : Int)) = true := by simp [hxj]
              have HZ1 : Hid (z = 4) := by
                have := rdF_not HLEN.out HJ2.out hlj (.inl (by rw [Hx.out, hxj]))
                show _ = _
                rw [← Hz.out, this]
              clear hxj
              go_wp2
              go_ret
              exact ⟨by rw [HZ1.out]; rfl, hB⟩
            · have hxe : ((x : Int) == (j : Int)) = false := by simp; omega
              by_cases hyj : y = (j : Int)
              · have hye : (y != (j : Int)) = false := by simp [hyj]
                have HJ3 : Hid (∀ c, c < j + 1 → l.getD c 0 ≠ c ∧ l.getD (l.getD c 0).toNat 0 = c) := fun c hc => by
                  by_cases e : c = j
                  · rw [e, Hx.out, Int.toNat_natCast, Hy.out]; exact ⟨by omega, hyj⟩
                  · exact HJ.out c (by omega)
                clear hyj hxj
                go_wp2
                go_roundw
                case rel => exact ⟨j + 1, by go_num, by omega, HJ3, hB⟩
                case measure => simp [intOf]; omega
              · have hye : (y != (j : Int)) = true := by simp [hyj]
                have HZ1 : Hid (z = 4) := by
                  have := rdF_not HLEN.out HJ2.out hlj (.inr (by rw [Hx.out, Int.toNat_natCast, Hy.out]; exact hyj))
                  show _ = _
                  rw [← Hz.out, this]
                clear hyj hxj
                go_wp2
                go_ret
                exact ⟨by rw [HZ1.out]; rfl, hB⟩
          · have hdj : decide ((j : Int) < (N : Int)) = false := by simp; omega
            have hdjn : decide (j < N) = false := by simp; omega
            have HZ1 : Hid (z = 0) := by
              have := rdF_zero HLEN.out HJ2.out fun c hc => HJ.out c (by omega)
              show _ = _
              rw [← Hz.out, this]
            go_wp2
            go_ret
            exact ⟨by rw [HZ1.out]; rfl, hB⟩
  · have HZ1 : Hid (z = 2) := by
      have := rdF_len (n := N) (l := l) (by rw [Hk.out]; exact hk)
      show _ = _
      rw [← Hz.out, this]
    obtain ⟨ua, uc, rfl⟩ := hv.dest
    rw [Hk.out] at _hl ⊢
    have hne : ((k : Int) != (N : Int)) = true := by simp; omega
    clear hv
    go_enter Try.func26, Try.ntmps26
    go_wp2
    go_ret
    exact ⟨by rw [HZ1.out]; rfl, Below.refl _ _⟩
theorem prF_len {v : Nat} {l : List Int} (h : l.length ≠ 2) : prF v l = 2 := by unfold prF; rw [if_pos h]
theorem prF_out {v : Nat} {l : List Int} (h : l.length = 2) {j : Nat} (hj : j < 2) (k : l.getD j 0 < 1 ∨ (v : Int) ≤ l.getD j 0) : prF v l = 1 := by
  unfold prF
  rw [if_neg (by simp [h]), if_pos]
  match j, hj with
  | 0, _ => rcases k with k | k
            · exact .inl k
            · exact .inr (.inl k)
  | 1, _ => rcases k with k | k
            · exact .inr (.inr (.inl k))
            · exact .inr (.inr (.inr k))
theorem prF_zero {v : Nat} {l : List Int} (h : l.length = 2) (k : ∀ j, j < 2 → 1 ≤ l.getD j 0 ∧ l.getD j 0 < v) : prF v l = 0 := by
  unfold prF
  have k0 := k 0 (by omega)
  have k1 := k 1 (by omega)
  rw [if_neg (by simp [h]), if_neg (by omega)]
set_option maxRecDepth 100000 in
set_option maxHeartbeats 8000000 in
theorem checkTwo_any (V : Nat) (l : List Int) (v : Value) (w : World) (hv : Sl w v l) (_hl : l.length ≤ maxLen) (_hV : V ≤ 15) :
    Calls Try.prog 37 #[.int .i64 (V : Int), v] w fun e w' => e = .returned (.int .i64 (prF V l : Int)) ∧ Below w.heap.size w w' := by
  obtain ⟨z, Hz⟩ : ∃ z, Hid (prF V l = z) := ⟨_, rfl⟩
  rw [Hz.out]
  unfold maxLen at _hl
  obtain ⟨k, Hk⟩ : ∃ k, Hid (l.length = k) := ⟨_, rfl⟩
  by_cases hk : k = 2
  · obtain ⟨b1, o1, c1, rfl, _, hcell⟩ := hv.form (Hk.out.trans hk) (by omega)
    have HC : Hid (∀ j, j < 2 → w.cell? ⟨b1, o1 + j, none⟩ = some (.int .i64 (l.getD j 0))) := hcell
    have HLEN : Hid (l.length = 2) := Hk.out.trans hk
    clear hcell hv hk Hk _hl
    go_enter Try.func37, Try.ntmps37
    go_wp2
    go_loopw [12] (fun jv wr => ∃ j : Nat, jv = .int .i64 (j : Int) ∧ j ≤ 2 ∧ Hid (∀ c, c < j → 1 ≤ l.getD c 0 ∧ l.getD c 0 < V) ∧ Below w.heap.size w wr) (fun jv _ => (2 - intOf jv).toNat)
    case atStart => exact ⟨0, rfl, by omega, (show ∀ c, c < 0 → _ from fun c h => by omega), Below.refl _ _⟩
    case round =>
      obtain ⟨j, rfl, hj, HJ, hB⟩ := hrel
      by_cases hlj : j < 2
      · have hdj : decide ((j : Int) < 2) = true := by simp; omega
        have hjj : (j : Int) < 2 := by omega
        have hcj := (hB.cell (World.block_lt_of_cell? _ _ (HC.out j hlj))).trans (HC.out j hlj)
        obtain ⟨x, Hx⟩ : ∃ x, Hid (l.getD j 0 = x) := ⟨_, rfl⟩
        rw [Hx.out] at hcj
        by_cases hx0 : x < 1
        · have hdx : decide (x < 1) = true := by simpa using hx0
          have HZ1 : Hid (z = 1) := by
            have := prF_out (v := V) HLEN.out hlj (.inl (by rw [Hx.out]; exact hx0))
            show _ = _
            rw [← Hz.out, this]
          go_wp2
          go_ret
          exact ⟨by rw [HZ1.out]; rfl, hB⟩
        · have hdx : decide (x < 1) = false := by simpa using hx0
          by_cases hxN : (V : Int) ≤ x
          · have hdn : decide ((V : Int) ≤ x) = true := by simpa using hxN
            have HZ1 : Hid (z = 1) := by
              have := prF_out HLEN.out hlj (.inr (by rw [Hx.out]; exact hxN))
              show _ = _
              rw [← Hz.out, this]
            go_wp2
            go_ret
            exact ⟨by rw [HZ1.out]; rfl, hB⟩
          · have hdn : decide ((V : Int) ≤ x) = false := by simpa using hxN
            have HJ2 : Hid (∀ c, c < j + 1 → 1 ≤ l.getD c 0 ∧ l.getD c 0 < V) := fun c hc => by
              by_cases e : c = j
              · rw [e, Hx.out]; omega
              · exact HJ.out c (by omega)
            go_wp2
            go_roundw
            case rel => exact ⟨j + 1, by go_num, by omega, HJ2, hB⟩
            case measure => simp [intOf]; omega
      · have hdj : decide ((j : Int) < 2) = false := by simp; omega
        have HZ1 : Hid (z = 0) := by
          have := prF_zero HLEN.out fun c hc => HJ.out c (by omega)
          show _ = _
          rw [← Hz.out, this]
        go_wp2
        go_ret
        exact ⟨by rw [HZ1.out]; rfl, hB⟩
  · have HZ1 : Hid (z = 2) := by
      have := prF_len (v := V) (l := l) (by rw [Hk.out]; exact hk)
      show _ = _
      rw [← Hz.out, this]
    obtain ⟨ua, uc, rfl⟩ := hv.dest
    rw [Hk.out] at _hl ⊢
    have hne : ((k : Int) != 2) = true := by simp; omega
    clear hv
    go_enter Try.func37, Try.ntmps37
    go_wp2
    go_ret
    exact ⟨by rw [HZ1.out]; rfl, Below.refl _ _⟩
end Go.Proofs.Ytpeplnojmogkfaa
