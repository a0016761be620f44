/- The walks of TapsFault, RunFault, open, begin's tests and Check: what is wrong. -/
import Derived.Test.YtglomemadcdagaaR31
namespace Go.Proofs.Ytglomemadcdagaa
open Go.RowKit

set_option maxHeartbeats 600000 in
theorem tapsFault_any (p : Int) (l : List Int) (v : Value) (w : World) (hl : Sl w v l) (hll : l.length ≤ maxLen) :
    Calls Try.prog 9 #[.int .i64 p, v] w fun e w' => e = .returned (.int .i64 (tapsF p l)) ∧ w' = w := by
  have hlm : l.length ≤ 9223372036854775807 := by unfold maxLen at hll; omega
  by_cases h1 : smB p = true
  · by_cases h2 : l.length = 0
    · have HS : Hid (tapsF p l = 2) := by show tapsF p l = 2; unfold tapsF; rw [if_neg (by simp [h1]), if_pos (by omega)]
      obtain rfl : l = [] := List.length_eq_zero_iff.1 h2
      obtain ⟨a, cap, rfl, _⟩ := id hl
      go_enter Try.func9, Try.ntmps9
      go_wp2_with (go_at_call 24; refine (small_any p _).mono ?_; rw [h1]; rintro e w' ⟨rfl, rfl⟩)
      go_ret
      exact ⟨ret_int HS.out.symm, rfl⟩
    · by_cases h3 : 8 < l.length
      · have HS : Hid (tapsF p l = 2) := by show tapsF p l = 2; unfold tapsF; rw [if_neg (by simp [h1]), if_pos (by omega)]
        obtain ⟨a, cap, rfl, _⟩ := id hl
        have hd : ((l.length : Int) == 0) = false := by simp; exact fun e => h2 (by rw [e]; rfl)
        have hd2 : decide ((8 : Int) < (l.length : Int)) = true := by simp; omega
        go_enter Try.func9, Try.ntmps9
        go_wp2_with (go_at_call 24; refine (small_any p _).mono ?_; rw [h1]; rintro e w' ⟨rfl, rfl⟩)
        go_ret
        exact ⟨ret_int HS.out.symm, rfl⟩
      · have HS : Hid (tapsF p l = if belB p l = false then 1 else 0) := by show tapsF p l = _; unfold tapsF; rw [if_neg (by simp [h1]), if_neg (by omega)]
        have hd : ((l.length : Int) == 0) = false := by simp; exact fun e => h2 (by rw [e]; rfl)
        have hd2 : decide ((8 : Int) < (l.length : Int)) = false := by simp; omega
        obtain ⟨b, Hb⟩ : ∃ b : Bool, Hid (belB p l = b) := ⟨_, rfl⟩
        obtain ⟨a, cap, rfl, _⟩ := id hl
        have C := below_any l _ p w hl hll
        rw [Hb.out] at C
        cases b
        · go_enter Try.func9, Try.ntmps9
          go_wp2_with (first | (go_at_call 24; refine (small_any p _).mono ?_; rw [h1]; rintro e w' ⟨rfl, rfl⟩) | (go_at_call 25; refine C.mono ?_; rintro e w' ⟨rfl, rfl⟩))
          go_ret
          exact ⟨ret_int (by rw [HS.out, if_pos Hb.out]), rfl⟩
        · go_enter Try.func9, Try.ntmps9
          go_wp2_with (first | (go_at_call 24; refine (small_any p _).mono ?_; rw [h1]; rintro e w' ⟨rfl, rfl⟩) | (go_at_call 25; refine C.mono ?_; rintro e w' ⟨rfl, rfl⟩))
          go_ret
          exact ⟨ret_int (by rw [HS.out, if_neg (by rw [Hb.out]; simp)]), rfl⟩
  · have h1' : smB p = false := by simpa using h1
    have HS : Hid (tapsF p l = 1) := by show tapsF p l = 1; unfold tapsF; rw [if_pos h1']
    go_enter Try.func9, Try.ntmps9
    go_wp2_with (go_at_call 24; refine (small_any p _).mono ?_; rw [h1']; rintro e w' ⟨rfl, rfl⟩)
    go_ret
    exact ⟨ret_int HS.out.symm, rfl⟩

set_option maxHeartbeats 600000 in
theorem runFault_any (p : Int) (l m : List Int) (v u : Value) (w : World) (hl : Sl w v l) (hll : l.length ≤ maxLen) (hm : Sl w u m) (hml : m.length ≤ maxLen) :
    Calls Try.prog 11 #[.int .i64 p, v, u] w fun e w' => e = .returned (.int .i64 (runF p l m)) ∧ w' = w := by
  have hlm : l.length ≤ 9223372036854775807 := by unfold maxLen at hll; omega
  have hmm : m.length ≤ 9223372036854775807 := by unfold maxLen at hml; omega
  have C := tapsFault_any p l v w hl hll
  by_cases h1 : tapsF p l = 0
  · rw [h1] at C
    obtain ⟨a, cap, rfl, _⟩ := id hl
    obtain ⟨a', cap', rfl, _⟩ := id hm
    by_cases h2 : m.length = l.length
    · have hd : ((m.length : Int) != (l.length : Int)) = false := by simp; omega
      obtain ⟨b, Hb⟩ : ∃ b : Bool, Hid (belB p m = b) := ⟨_, rfl⟩
      have D := below_any m _ p w hm hml
      rw [Hb.out] at D
      have HS : Hid (runF p l m = if belB p m = false then 1 else 0) := by show runF p l m = _; unfold runF; rw [if_neg (by omega), if_neg (by omega)]
      have H2 : Hid (m.length = l.length) := h2
      clear h2
      cases b
      · go_enter Try.func11, Try.ntmps11
        go_wp2_with (first | (go_at_call 9; refine C.mono ?_; rintro e w' ⟨rfl, rfl⟩) | (go_at_call 25; refine D.mono ?_; rintro e w' ⟨rfl, rfl⟩))
        go_ret
        exact ⟨ret_int (by rw [HS.out, if_pos Hb.out]), rfl⟩
      · go_enter Try.func11, Try.ntmps11
        go_wp2_with (first | (go_at_call 9; refine C.mono ?_; rintro e w' ⟨rfl, rfl⟩) | (go_at_call 25; refine D.mono ?_; rintro e w' ⟨rfl, rfl⟩))
        go_ret
        exact ⟨ret_int (by rw [HS.out, if_neg (by rw [Hb.out]; simp)]), rfl⟩
    · have hd : ((m.length : Int) != (l.length : Int)) = true := by simp; omega
      have HS : Hid (runF p l m = 2) := by show runF p l m = _; unfold runF; rw [if_neg (by omega), if_pos h2]
      have H2 : Hid (¬ m.length = l.length) := h2
      clear h2
      go_enter Try.func11, Try.ntmps11
      go_wp2_with (first | (go_at_call 9; refine C.mono ?_; rintro e w' ⟨rfl, rfl⟩))
      go_ret
      exact ⟨ret_int HS.out.symm, rfl⟩
  · have HS : Hid (runF p l m = tapsF p l) := by show runF p l m = _; unfold runF; rw [if_pos h1]
    obtain ⟨z, Hz⟩ : ∃ z : Int, Hid (z = tapsF p l) := ⟨_, rfl⟩
    rw [← Hz.out] at C h1
    have hd : (z != 0) = true := by simpa using h1
    go_enter Try.func11, Try.ntmps11
    go_wp2_with (first | (go_at_call 9; refine C.mono ?_; rintro e w' ⟨rfl, rfl⟩))
    go_ret
    exact ⟨ret_int (by rw [HS.out, Hz.out]), rfl⟩

end Go.Proofs.Ytglomemadcdagaa
