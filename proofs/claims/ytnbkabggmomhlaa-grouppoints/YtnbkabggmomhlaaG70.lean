/- The walk of stay. -/
import Derived.Test.YtnbkabggmomhlaaGM
namespace Go.Proofs.Ytnbkabggmomhlaa
open Go.RowKit

theorem fixN_succ (n : Nat) (a : List Nat) : fixN (n + 1) a = fixN n a + if a.getD n 0 = n then 1 else 0 := by
  unfold fixN
  rw [List.range_succ, List.countP_append]
  congr 1
  by_cases h : a.getD n 0 = n <;> simp []
theorem fixN_le (n : Nat) (a : List Nat) : fixN n a ≤ n := by
  unfold fixN
  have := List.countP_le_length (p := fun x => decide (a.getD x 0 = x)) (l := List.range n)
  rwa [List.length_range] at this

set_option maxRecDepth 100000 in
set_option maxHeartbeats 1000000 in
theorem stay_any (x : List Nat) (n : Nat) (w : World) (hn : n ≤ 7) :
    Calls Try.prog 70 #[mv x, .int .i64 (n : Int)] w fun e w' => e = .returned (.int .i64 (fixN n x : Int)) ∧ Below w.heap.size w w' := by
  have hk0 : MRow 62 (w.alloc (.cells (mrow fun j => (x.getD j 0 : Int)) 62)) w.heap.size (fun j => (x.getD j 0 : Int)) := MRow.made 62 w _
  have hB0 := balloc w (.cells (mrow fun j => (x.getD j 0 : Int)) 62)
  unfold mv
  obtain ⟨f, Hf⟩ : ∃ f : Nat → Nat, Hid (∀ j, x.getD j 0 = f j) := ⟨_, fun _ => rfl⟩
  obtain ⟨F, HF⟩ : ∃ F : Nat → Int, Hid ((fun j => (x.getD j 0 : Int)) = F) := ⟨_, rfl⟩
  have HFf : Hid (∀ j, F j = (f j : Int)) := fun j => by rw [← HF.out, ← Hf.out j]
  rw [HF.out] at hk0 hB0 ⊢
  have hn0 : (0 : Int) ≤ (n : Int) := by omega
  have hn7 : (n : Int) ≤ 7 := by omega
  go_enter Try.func70, Try.ntmps70
  go_wp2
  go_loopw [5, 11] (fun o i wr => ∃ c j : Nat, o = .int .i64 c ∧ i = .int .i64 j ∧ j ≤ n ∧ c ≤ j ∧ Hid (c = fixN j x) ∧ MRow 62 wr w.heap.size F ∧ Below w.heap.size w wr) (fun _ i _ => (n - intOf i).toNat)
  case atStart => exact ⟨0, 0, rfl, rfl, by omega, by omega, (by rfl : 0 = fixN 0 x), hk0, hB0⟩
  case round =>
    clear hk0 hB0
    obtain ⟨c, j, rfl, rfl, hj, hc, HCn, hK, hB⟩ := hrel
    by_cases hlt : j < n
    · have hji : (j : Int) < n := by omega
      have hdec : decide ((j : Int) < n) = true := by simp; omega
      have hcj := hK.cell j (by omega)
      rw [HFf.out j] at hcj
      have hsx := fixN_succ j x
      rw [Hf.out j] at hsx
      obtain ⟨y, Hy⟩ : ∃ y, Hid (f j = y) := ⟨_, rfl⟩
      rw [Hy.out] at hcj hsx
      have HSX : Hid (fixN (j + 1) x = fixN j x + if y = j then 1 else 0) := hsx
      clear hsx
      by_cases e : y = j
      · subst e
        have he : ((y : Int) == (y : Int)) = true := by simp
        go_wp2
        go_roundw
        case rel => exact ⟨c + 1, y + 1, by go_num, by go_num, by omega, by omega, (by rw [HSX.out, if_pos rfl, HCn.out] : c + 1 = fixN (y + 1) x), hK, hB⟩
        case measure => simp [intOf]; omega
      · have he : ((j : Int) == (y : Int)) = false := by simp; omega
        have HE : Hid (¬ y = j) := e
        clear e
        go_wp2
        go_roundw
        case rel => exact ⟨c, j + 1, rfl, by go_num, by omega, by omega, (by rw [HSX.out, if_neg HE.out, HCn.out]; rfl : c = fixN (j + 1) x), hK, hB⟩
        case measure => simp [intOf]; omega
    · obtain rfl : j = n := by omega
      have hkd : decide ((j : Int) < (j : Int)) = false := by simp
      go_wp2
      go_ret
      exact ⟨by rw [← HCn.out]; rfl, hB⟩

end Go.Proofs.Ytnbkabggmomhlaa
