/- The search that the landed package makes: walked. -/
import Derived.Test.YtmogmkdcplgfjabY3
namespace Go.Proofs.Ytmogmkdcplgfjab
open Go.RowKit

set_option maxRecDepth 100000 in
set_option maxHeartbeats 4000000 in
theorem more_any (k m i gk gm : Nat) (w : World) (hck : w.cell? ⟨gk, 0, none⟩ = some (.int .i64 (k : Int))) (hcm : w.cell? ⟨gm, 0, none⟩ = some (.int .i64 (m : Int))) (hk1 : 1 ≤ k) (hk : k ≤ 30) (hi : i < 1500000000)
    (hp : ∀ j, j < k → chs (i + 2 + j - 1) j ≤ m → chs (i + 2 + j - 1) j * (i + 2 + j) < 9223372036854775808) :
    Calls Try.prog 24 #[.int .i64 (i : Int), .pointer (some ⟨gk, 0, none⟩), .pointer (some ⟨gm, 0, none⟩)] w fun e w' => e = .returned (.bool (decide (m < chs (k + i + 1) k))) ∧ w' = w := by
  have C := areMore_any (i + 2) k m ((k : Int) + (i : Int) + 1) w (by omega) (by omega) hk1 (by omega) (by omega) hp
  rw [show i + 2 + k - 1 = k + i + 1 by omega] at C
  obtain ⟨z, Hz⟩ : ∃ z, Hid (decide (m < chs (k + i + 1) k) = z) := ⟨_, rfl⟩
  rw [Hz.out] at C ⊢
  have e1 : IntKind.i64.wrap ((k : Int) + (i : Int)) = (k : Int) + (i : Int) := IntWalk.i64_in _ (by omega)
  have e2 : IntKind.i64.wrap ((k : Int) + (i : Int) + 1) = (k : Int) + (i : Int) + 1 := IntWalk.i64_in _ (by omega)
  clear hp
  go_enter Try.func24, Try.ntmps24
  go_wp2_with (go_at_call 25; refine C.mono ?_; rintro e w' ⟨rfl, rfl⟩; clear C)
  go_ret
  exact ⟨rfl, rfl⟩
set_option maxRecDepth 100000 in
set_option maxHeartbeats 4000000 in
theorem Search_any (n t gk gm : Nat) (w : World) (hn : n ≤ 1500000000) (ht : t ≤ n)
    (h : ∀ i, i < n → Calls Try.prog 24 #[.int .i64 (i : Int), .pointer (some ⟨gk, 0, none⟩), .pointer (some ⟨gm, 0, none⟩)] w fun e w' => e = .returned (.bool (decide (t ≤ i))) ∧ w' = w) :
    Calls Try.prog 23 #[.int .i64 (n : Int), .func (.func 24) #[] #[.pointer (some ⟨gk, 0, none⟩), .pointer (some ⟨gm, 0, none⟩)]] w fun e w' => e = .returned (.int .i64 (t : Int)) ∧ w' = w := by
  have H : Hid (∀ i, i < n → Calls Try.prog 24 #[.int .i64 (i : Int), .pointer (some ⟨gk, 0, none⟩), .pointer (some ⟨gm, 0, none⟩)] w fun e w' => e = .returned (.bool (decide (t ≤ i))) ∧ w' = w) := h
  clear h
  go_enter Try.func23, Try.ntmps23
  go_wp2
  go_loopw [5, 6] (fun iv jv wr => ∃ (i j : Nat), iv = .int .i64 (i : Int) ∧ jv = .int .i64 (j : Int) ∧ i ≤ t ∧ t ≤ j ∧ j ≤ n ∧ wr = w) (fun iv jv _ => (intOf jv - intOf iv).toNat)
  case atStart => exact ⟨0, n, rfl, rfl, by omega, ht, by omega, rfl⟩
  case round =>
    obtain ⟨i, j, rfl, rfl, hi, htj, hj, e9⟩ := hrel
    subst e9
    by_cases hlt : i < j
    · have hdi : decide ((i : Int) < (j : Int)) = true := by simp; omega
      obtain ⟨c, hc⟩ : ∃ c : Nat, c = (i + j) / 2 := ⟨_, rfl⟩
      have C := H.out c (by omega)
      have ec : (c : Int) = ((i : Int) + (j : Int)) / 2 := by omega
      rw [ec] at C
      by_cases hy : t ≤ c
      · rw [decide_eq_true hy] at C
        go_wp2_with (go_at_call 24; refine C.mono ?_; rintro e w' ⟨rfl, rfl⟩; clear C)
        go_roundw
        case rel => exact ⟨i, c, rfl, by rw [ec], hi, hy, by omega, trivial⟩
        case measure => simp [intOf]; omega
      · rw [decide_eq_false hy] at C
        go_wp2_with (go_at_call 24; refine C.mono ?_; rintro e w' ⟨rfl, rfl⟩; clear C)
        go_roundw
        case rel => exact ⟨c + 1, j, by rw [Int.natCast_add, ec]; rfl, rfl, by omega, htj, hj, trivial⟩
        case measure => simp [intOf]; omega
    · have hdi : decide ((i : Int) < (j : Int)) = false := by simp; omega
      obtain rfl : i = t := by omega
      go_wp2
      go_ret
      exact ⟨rfl, rfl⟩
end Go.Proofs.Ytmogmkdcplgfjab
