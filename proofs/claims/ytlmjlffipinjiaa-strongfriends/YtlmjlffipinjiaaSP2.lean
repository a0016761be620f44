/- The walk of pairs. -/
import Derived.Test.YtlmjlffipinjiaaSP1
import Derived.RangeFuncBound
import Derived.RangeFuncCalls
import Derived.OwnWalkIn
import Derived.TacticsInMore
import Derived.LoopNIn
import Derived.LoopIn
namespace Go.Proofs.Ytlmjlffipinjiaa
open Go.RowKit

attribute [local go_sem] Oper.semAt_some
theorem wideNo {p : Prop} (h : Fence.wide.depth.isSome = true) : p := by cases h
def natOf : Value → Nat
  | .int _ n => n.toNat
  | _ => 0
set_option maxRecDepth 100000 in
set_option maxHeartbeats 4000000 in
theorem pairs_runs (N n : Nat) (hN : N ≤ 32) : PrRuns n Try.prog 35 N := by
  intro l J Jx W hY hJ0
  have HY : Hid (∀ (i x : Nat) (A : World) (m : Nat), (prL N)[i]? = some x → J i A → YieldAt Fence.wide m Try.prog l #[.int .i64 ((x / 32 : Nat) : Int), .int .i64 ((x % 32 : Nat) : Int)] A fun e B => (e = .returned (.bool true) ∧ J (i + 1) B) ∨ (e = .returned (.bool false) ∧ Jx B)) := fun i x A m hx hA => YieldAt.anyP (hY i x A hx hA) m
  clear hY
  refine callsIn_of_wp Try.func35 rfl trivial ?_ rfl
  simp only [Try.ntmps35, List.size_toArray, List.length_cons, List.length_nil, Nat.reduceAdd, Nat.reduceSub, Array.replicate_succ, Array.replicate_zero, List.push_toArray, List.append_toArray, List.nil_append, List.cons_append]
  gi_wp2
  refine wpIn_loop (fun a A => ∃ (u4 u5 u8 u9 u10 u11 u12 u13 u14 u15 u16 u17 u18 u19 u20 u21 u22 : Value) (c : Nat), a = { tmps := #[.int .i64 (N : Int), .func (.yield l) #[] #[], undef, undef, u4, u5, .int .i64 (N : Int), .int .i64 (c : Int), u8, u9, u10, u11, u12, u13, u14, u15, u16, u17, u18, u19, u20, u21, u22], defers := [] } ∧ c ≤ N ∧ J (prC N c) A) (fun a _ => N - natOf (a.tmps.getD 7 undef)) ?start ?round
  case start => exact ⟨undef, undef, undef, undef, undef, undef, undef, undef, undef, undef, undef, undef, undef, undef, undef, undef, undef, 0, rfl, Nat.zero_le _, hJ0⟩
  case round =>
    rintro a A ⟨u4, u5, u8, u9, u10, u11, u12, u13, u14, u15, u16, u17, u18, u19, u20, u21, u22, c, rfl, hc, hJA⟩
    by_cases hlt : c < N
    · have hd : decide ((c : Int) < (N : Int)) = true := by simp; omega
      have hc32 : (c : Int) + 1 ≤ 100 := by omega
      gi_wp2
      refine wpIn_loop (fun a A => ∃ (u12 u13 u14 u15 u16 u17 u18 u19 u20 u21 u22 : Value) (b : Nat), a = { tmps := #[.int .i64 (N : Int), .func (.yield l) #[] #[], undef, undef, .int .i64 (c : Int), .int .i64 (b : Int), .int .i64 (N : Int), .int .i64 (c : Int), .bool true, .int .i64 (c : Int), .int .i64 (c : Int), .int .i64 ((c : Int) + 1), u12, u13, u14, u15, u16, u17, u18, u19, u20, u21, u22], defers := [] } ∧ c < b ∧ b ≤ N ∧ J (prC N c + (b - c - 1)) A) (fun a _ => N - natOf (a.tmps.getD 5 undef)) ?start2 ?round2
      case start2 => exact ⟨u12, u13, u14, u15, u16, u17, u18, u19, u20, u21, u22, c + 1, by simp, by omega, by omega, by rw [show c + 1 - c - 1 = 0 by omega]; exact hJA⟩
      case round2 =>
        rintro a A ⟨u12, u13, u14, u15, u16, u17, u18, u19, u20, u21, u22, b, rfl, hb1, hb2, hJB⟩
        by_cases hlb : b < N
        · have hdb : decide ((b : Int) < (N : Int)) = true := by simp; omega
          have hb32 : (b : Int) + 1 ≤ 100 := by omega
          have hx := prL_at (n := N) (a := c) (i := b - c - 1) hlt (by omega)
          rw [show c * 32 + (c + 1 + (b - c - 1)) = c * 32 + b by omega] at hx
          have hR := HY.out _ _ A (n - 1) hx hJB
          rw [show (c * 32 + b) / 32 = c by omega, show (c * 32 + b) % 32 = b by omega] at hR
          obtain ⟨fn, tmps, assign, body, hy, hR⟩ := hR
          gi_wp2
          refine ⟨(fun h => wideNo h), hR.mono ?_⟩
          rintro e B (⟨rfl, hJ1⟩ | ⟨rfl, hJx1⟩)
          · gi_wp2
            refine ⟨⟨_, _, _, _, _, _, _, _, _, _, _, b + 1, rfl, by omega, by omega, ?_⟩, ?_⟩
            · rw [show prC N c + (b + 1 - c - 1) = prC N c + (b - c - 1) + 1 by omega]
              exact hJ1
            · simp [natOf]
              omega
          · gi_wp2
            exact bodyPost_ret (results_none rfl _ _ _) rfl ⟨⟨_, rfl⟩, .inr hJx1⟩
        · have hdb : decide ((b : Int) < (N : Int)) = false := by simp; omega
          obtain rfl : b = N := by omega
          gi_wp2
          refine ⟨⟨_, _, _, _, _, _, _, _, _, _, _, _, _, _, _, _, _, c + 1, rfl, by omega, ?_⟩, ?_⟩
          · rw [prC_succ, show b - 1 - c = b - c - 1 by omega]
            exact hJB
          · simp [natOf]
            omega
    · have hd : decide ((c : Int) < (N : Int)) = false := by simp; omega
      obtain rfl : c = N := by omega
      gi_wp2
      exact bodyPost_end (results_none rfl _ _ _) rfl ⟨⟨_, rfl⟩, .inl hJA⟩
end Go.Proofs.Ytlmjlffipinjiaa
