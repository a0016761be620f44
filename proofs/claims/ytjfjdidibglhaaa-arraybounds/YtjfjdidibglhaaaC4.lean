/- The walks of the document's timesUp and GaussOf. -/
import Derived.Test.YtjfjdidibglhaaaPBase
import Derived.Test.YtjfjdidibglhaaaSpQ
import Derived.OwnWalk
namespace Go.Proofs.Ytjfjdidibglhaaa
open Go.RowKit

set_option maxHeartbeats 2000000 in
/-- A product of what is 1 or more. -/
theorem timesUp_any (a b : Nat) (w : World) (ha : 1 ≤ a) (hb : 1 ≤ b) (s : Int) (hs : Hid (upT (a * b) = s)) :
    Calls Try.prog 31 #[.int .i64 (upT a), .int .i64 (upT b)] w fun e w' => e = .returned (.int .i64 s) ∧ w' = w := by
  by_cases h1 : a ≤ 1000000000000000000
  · have e1 := upT_small h1
    have d1 : decide ((a : Int) < 0) = false := by simp
    by_cases h2 : b ≤ 1000000000000000000
    · have e2 := upT_small h2
      have d2 : decide ((b : Int) < 0) = false := by simp
      have d3 : decide ((0 : Int) < (b : Int)) = true := by simp; omega
      rw [e1, e2]
      obtain ⟨D, hD⟩ : ∃ D, D = 1000000000000000000 / b := ⟨_, rfl⟩
      have hq : (1000000000000000000 : Int).tdiv (b : Int) = (D : Int) := by rw [hD]; rfl
      have hDl : D ≤ 1000000000000000000 := by rw [hD]; exact Nat.div_le_self _ _
      have hne : (b : Int) ≠ 0 := by omega
      by_cases h3 : D < a
      · have d4 : decide ((D : Int) < (a : Int)) = true := by simp; omega
        have HS : Hid (s = -1) := by
          show _ = _
          rw [← hs.out]
          refine upT_big ?_
          rw [Nat.mul_comm]
          exact (gt_div (by omega)).1 (by rw [← hD]; exact h3)
        clear hD hs e1 e2
        go_enter Try.func31, Try.ntmps31
        go_wp2
        go_ret
        exact ⟨ret_int HS.out.symm, rfl⟩
      · have d4 : decide ((D : Int) < (a : Int)) = false := by simp; omega
        have hle : a * b ≤ 1000000000000000000 := by
          have : ¬ 1000000000000000000 < b * a := fun h => h3 (by rw [hD]; exact (gt_div (by omega)).2 h)
          rw [Nat.mul_comm]; omega
        have HS : Hid (((a * b : Nat) : Int) = s) := by
          show _ = _
          rw [← hs.out, upT_small hle]
        have hm : (a : Int) * (b : Int) = ((a * b : Nat) : Int) := by simp
        obtain ⟨c, Hc⟩ : ∃ c, Hid (a * b = c) := ⟨_, rfl⟩
        rw [Hc.out] at hm hle HS
        clear hD hs e1 e2
        go_enter Try.func31, Try.ntmps31
        go_wp2
        go_ret
        exact ⟨ret_int HS.out, rfl⟩
    · have e2 := upT_big (x := b) (by omega)
      have HS : Hid (s = -1) := by
        show _ = _
        rw [← hs.out]
        refine upT_big ?_
        rw [Nat.mul_comm]
        exact upT_big_mul ha (by omega)
      rw [e1, e2]
      clear hs e1 e2
      go_enter Try.func31, Try.ntmps31
      go_wp2
      go_ret
      exact ⟨ret_int HS.out.symm, rfl⟩
  · have e1 := upT_big (x := a) (by omega)
    have HS : Hid (s = -1) := by
      show _ = _
      rw [← hs.out]
      exact upT_big (upT_big_mul hb (by omega))
    rw [e1]
    obtain ⟨c, hc⟩ : ∃ c, upT b = c := ⟨_, rfl⟩
    rw [hc]
    clear hs e1 hc
    go_enter Try.func31, Try.ntmps31
    go_wp2
    go_ret
    exact ⟨ret_int HS.out.symm, rfl⟩
end Go.Proofs.Ytjfjdidibglhaaa
