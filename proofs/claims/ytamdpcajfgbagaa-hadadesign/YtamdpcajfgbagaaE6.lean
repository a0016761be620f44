/- The walk of size. -/
import Derived.Test.YtamdpcajfgbagaaE5
namespace Go.Proofs.Ytamdpcajfgbagaa
open Go.RowKit

theorem sizes_none (w : World) (a : Option Addr) (c : Nat) :
    Calls Try.prog 27 #[.slice a 0 c] w fun e w' => e = .returned (.tuple #[.int .i64 0, .bool false]) ∧ w' = w := by
  go_enter Try.func27, Try.ntmps27
  go_wp2
  exact bodyPost_ret (v := .tuple #[.int .i64 0, .bool false]) (by simp [results, Try.results27, go_sem]) rfl ⟨rfl, rfl⟩

set_option maxHeartbeats 4000000 in
theorem sizes_main (S : List Nat) (u : Value) (w : World) (hu : SS w u S) (hl : S.length ≤ 200) (hS : ∀ x ∈ S, x < 2 ^ 64) (hne : 0 < S.length) :
    Calls Try.prog 27 #[u] w fun e w' => ((e = .returned (.tuple #[.int .i64 (pc (S.getD 0 0) : Int), .bool true]) ∧ ∀ x ∈ S, pc x = pc (S.getD 0 0)) ∨ (e = .returned (.tuple #[.int .i64 0, .bool false]) ∧ ¬ ∃ k, ∀ x ∈ S, pc x = k)) ∧ w' = w := by
  obtain ⟨a, cap, rfl, hc⟩ := hu
  have HC : Hid (∀ j, j < S.length → ∃ g off, a = some ⟨g, off, none⟩ ∧ w.cell? ⟨g, off + j, none⟩ = some (.int .u64 ((S.getD j 0 : Nat) : Int))) := hc
  have HW : Hid (∀ j, j < S.length → ∀ W, Calls Try.prog 35 #[.int .u64 ((S.getD j 0 : Nat) : Int)] W fun e w' => e = .returned (.int .i64 (pc (S.getD j 0) : Int)) ∧ w' = W) := fun j hj W => size_any _ (hS _ (getD_in hj)) W
  have HY : Hid ((∀ m, m < S.length → pc (S.getD m 0) = pc (S.getD 0 0)) → ∀ x ∈ S, pc x = pc (S.getD 0 0)) := fun h x hx => by
    obtain ⟨m, hm, rfl⟩ := List.mem_iff_getElem.1 hx
    have := h m hm
    rwa [List.getD_eq_getElem?_getD, List.getElem?_eq_getElem hm] at this
  have HNo : Hid (∀ m, m < S.length → pc (S.getD m 0) ≠ pc (S.getD 0 0) → ¬ ∃ k, ∀ x ∈ S, pc x = k) := fun m hm h => by
    rintro ⟨k, hk⟩
    exact h ((hk _ (getD_in hm)).trans (hk _ (getD_in hne)).symm)
  have HP : Hid (∀ m, pc (S.getD m 0) ≤ 64) := fun m => pc_le _
  obtain ⟨g0, off0, rfl, hc0⟩ := HC.out 0 hne
  have C0 := HW.out 0 hne w
  obtain ⟨k0, Hk0⟩ : ∃ k, Hid (pc (S.getD 0 0) = k) := ⟨_, rfl⟩
  have hk64 := HP.out 0
  rw [Hk0.out] at C0 HY HNo hk64 ⊢
  obtain ⟨y0, Hy0⟩ : ∃ y, Hid (S.getD 0 0 = y) := ⟨_, rfl⟩
  rw [Hy0.out] at hc0 C0
  rw [Nat.add_zero] at hc0
  generalize hn : S.length = n at *
  have hn0 : ((n : Int) == 0) = false := by simp; omega
  have hn1 : (0 : Int) < (n : Int) := by omega
  clear hc hS
  go_enter Try.func27, Try.ntmps27
  go_wp2_with (go_at_call 35; refine C0.mono ?_; rintro e w' ⟨rfl, hw⟩; replace hw := hw.symm; subst hw; clear C0)
  go_loopw [16] (fun iv wr => ∃ (j : Nat), iv = .int .i64 (j : Int) ∧ j ≤ n ∧ Hid (∀ m, m < j → pc (S.getD m 0) = k0) ∧ wr = w) (fun iv _ => (n - intOf iv).toNat)
  case atStart => exact ⟨0, rfl, by omega, (show ∀ m, m < 0 → _ from fun m h => by omega), rfl⟩
  case round =>
    obtain ⟨j, rfl, hj, HJ, rfl⟩ := hrel
    by_cases hlt : j < n
    · have hd : decide ((j : Int) < (n : Int)) = true := by simp; omega
      have hji : (j : Int) < (n : Int) := by omega
      obtain ⟨g, off, e2, hcj⟩ := HC.out j hlt
      obtain ⟨rfl, rfl⟩ : g0 = g ∧ off0 = off := by
        simp only [Option.some.injEq, Addr.mk.injEq] at e2
        exact ⟨e2.1, e2.2.1⟩
      have C1 := HW.out j hlt wr
      have hp := HP.out j
      obtain ⟨y, Hy⟩ : ∃ y, Hid (S.getD j 0 = y) := ⟨_, rfl⟩
      rw [Hy.out] at hcj C1 hp
      obtain ⟨k1, Hk1⟩ : ∃ k, Hid (pc y = k) := ⟨_, rfl⟩
      rw [Hk1.out] at C1 hp
      by_cases he : k1 = k0
      · have hd2 : ((k1 : Int) != (k0 : Int)) = false := by simp [he]
        have HJ2 : Hid (∀ m, m < j + 1 → pc (S.getD m 0) = k0) := fun m hm => by
          by_cases e : m = j
          · subst e; rw [Hy.out, Hk1.out]; exact he
          · exact HJ.out m (by omega)
        clear he HJ e2
        go_wp2_with (go_at_call 35; refine C1.mono ?_; rintro e w' ⟨rfl, hw⟩; replace hw := hw.symm; subst hw; clear C1)
        go_roundw
        case rel => exact ⟨j + 1, by go_num, by omega, HJ2, by trivial⟩
        case measure => simp [intOf]; omega
      · have hd2 : ((k1 : Int) != (k0 : Int)) = true := by simp; omega
        have hno := HNo.out j hlt (by rw [Hy.out, Hk1.out]; exact he)
        have HNO : Hid (¬ ∃ k, ∀ x ∈ S, pc x = k) := hno
        clear he HJ e2 hno
        go_wp2_with (go_at_call 35; refine C1.mono ?_; rintro e w' ⟨rfl, hw⟩; replace hw := hw.symm; subst hw; clear C1)
        exact bodyPost_ret (v := .tuple #[.int .i64 0, .bool false]) (by simp [results, Try.results27, go_sem]) rfl ⟨.inr ⟨rfl, HNO.out⟩, rfl⟩
    · have hd : decide ((j : Int) < (n : Int)) = false := by simp; omega
      obtain rfl : j = n := by omega
      have hy := HY.out HJ.out
      have HYS : Hid (∀ x ∈ S, pc x = k0) := hy
      clear hy HJ
      go_wp2
      exact bodyPost_ret (v := .tuple #[.int .i64 (k0 : Int), .bool true]) (by simp [results, Try.results27, go_sem]) rfl ⟨.inl ⟨rfl, HYS.out⟩, rfl⟩

end Go.Proofs.Ytamdpcajfgbagaa
