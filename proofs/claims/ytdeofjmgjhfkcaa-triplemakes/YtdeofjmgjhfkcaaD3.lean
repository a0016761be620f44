/- The walk of the document's MakeOf, whatever it is asked. -/
import Derived.Test.YtdeofjmgjhfkcaaD2
namespace Go.Proofs.Ytdeofjmgjhfkcaa
open Go.RowKit

set_option maxRecDepth 100000 in
set_option maxHeartbeats 4000000 in
theorem MakeOf_far (v : Int) (w : World) (h : v < 1 ∨ 33 < v) :
    Calls Try.prog 10 #[.int .i64 v] w fun e w' => e = .returned (.tuple #[.agg #[.int .i64 0, .slice none 0 0], .int .i64 1]) ∧ Below w.heap.size w w' := by
  have hr := heap_alloc_new w (.cells #[.int .i64 0, .slice none 0 0] 24)
  have b1 := balloc w (.cells #[.int .i64 0, .slice none 0 0] 24)
  have h6 := heap_setCell_same _ w.heap.size 0 _ 24 (.int .i64 0) hr
  have h7 := heap_setCell_same _ w.heap.size 1 _ 24 (.slice none 0 0) h6
  have b7 := (b1.setCell (p := ⟨w.heap.size, 0, none⟩) (Nat.le_refl _) (.int .i64 0)).setCell (p := ⟨w.heap.size, 1, none⟩) (Nat.le_refl _) (.slice none 0 0)
  have H6 : Hid (_ ∧ Below w.heap.size w _) := ⟨h7, b7⟩
  have H1 : Hid (_ ∧ Below w.heap.size w _) := ⟨hr, b1⟩
  have z0 := frozen_of_row _ _ 0 _ _ hr
  have z1 := frozen_of_row _ _ 1 _ _ hr
  have y0 := cell_of_row _ _ 0 _ _ _ hr
  have y1 := cell_of_row _ _ 1 _ _ _ hr
  clear hr b1 h6 h7 b7
  by_cases h1 : v < 1
  · have hd : decide (v < 1) = true := by simp; omega
    go_enter Try.func10, Try.ntmps10
    go_wp2
    first
      | exact post_d2 2 3 rfl rfl H1.out.1 rfl rfl ⟨rfl, H1.out.2⟩
      | exact post_d2 2 3 rfl rfl (by simpa using H6.out.1) rfl rfl ⟨rfl, H6.out.2⟩
  · have hd : decide (v < 1) = false := by simp; omega
    have hd2 : decide (33 < v) = true := by simp; omega
    have h2 : 33 < v := by omega
    go_enter Try.func10, Try.ntmps10
    go_wp2
    first
      | exact post_d2 2 3 rfl rfl H1.out.1 rfl rfl ⟨rfl, H1.out.2⟩
      | exact post_d2 2 3 rfl rfl (by simpa using H6.out.1) rfl rfl ⟨rfl, H6.out.2⟩
set_option maxRecDepth 100000 in
set_option maxHeartbeats 4000000 in
theorem MakeOf_none (n : Nat) (w : World) (h0 : 1 ≤ n) (h3 : n ≤ 33) (h1 : n % 6 ≠ 1) (h2 : n % 6 ≠ 3) :
    Calls Try.prog 10 #[.int .i64 (n : Int)] w fun e w' => e = .returned (.tuple #[.agg #[.int .i64 0, .slice none 0 0], .int .i64 4]) ∧ Below w.heap.size w w' := by
  have hr := heap_alloc_new w (.cells #[.int .i64 0, .slice none 0 0] 24)
  have b1 := balloc w (.cells #[.int .i64 0, .slice none 0 0] 24)
  have h6 := heap_setCell_same _ w.heap.size 0 _ 24 (.int .i64 0) hr
  have h7 := heap_setCell_same _ w.heap.size 1 _ 24 (.slice none 0 0) h6
  have b7 := (b1.setCell (p := ⟨w.heap.size, 0, none⟩) (Nat.le_refl _) (.int .i64 0)).setCell (p := ⟨w.heap.size, 1, none⟩) (Nat.le_refl _) (.slice none 0 0)
  have H6 : Hid (_ ∧ Below w.heap.size w _) := ⟨h7, b7⟩
  have H1 : Hid (_ ∧ Below w.heap.size w _) := ⟨hr, b1⟩
  have z0 := frozen_of_row _ _ 0 _ _ hr
  have z1 := frozen_of_row _ _ 1 _ _ hr
  have y0 := cell_of_row _ _ 0 _ _ _ hr
  have y1 := cell_of_row _ _ 1 _ _ _ hr
  have hd1 : decide ((n : Int) < 1) = false := by simp; omega
  have hd2 : decide ((33 : Int) < (n : Int)) = false := by simp; omega
  have hd3 : ¬ (n : Int) < 1 := by omega
  have hd4 : ¬ (33 : Int) < (n : Int) := by omega
  have hm : (n : Int).tmod 6 = ((n % 6 : Nat) : Int) := by rw [Int.tmod_eq_emod_of_nonneg (by omega)]; rfl
  have hlt : n % 6 < 6 := Nat.mod_lt _ (by omega)
  have hq : (n : Int).tdiv 6 = ((n / 6 : Nat) : Int) := by rw [Int.tdiv_eq_ediv_of_nonneg (by omega)]; rfl
  have hq5 : n / 6 ≤ 5 := by omega
  generalize n / 6 = q at *
  generalize n % 6 = r at *
  have e1 : ((r : Int) == 1) = false := by simp; omega
  have e2 : ((r : Int) == 3) = false := by simp; omega
  have e3 : ¬ (r : Int) = 1 := by omega
  have e4 : ¬ (r : Int) = 3 := by omega
  clear hr b1 h6 h7 b7
  go_enter Try.func10, Try.ntmps10
  go_wp2
  first
    | exact post_d2 2 3 rfl rfl H1.out.1 rfl rfl ⟨rfl, H1.out.2⟩
    | exact post_d2 2 3 rfl rfl (by simpa using H6.out.1) rfl rfl ⟨rfl, H6.out.2⟩
theorem MakeOf_any (v : Int) (w : World) :
    Calls Try.prog 10 #[.int .i64 v] w fun e w' => ∃ x Z p f L, e = .returned (.tuple #[.agg #[.int .i64 p, x], .int .i64 f]) ∧ MkT v p f L ∧ Srtd L Z ∧ Rw w' x (toZ Z) ∧ Below w.heap.size w w' := by
  by_cases h : v < 1 ∨ 33 < v
  · refine (MakeOf_far v w h).mono ?_
    rintro e w' ⟨rfl, hb⟩
    exact ⟨_, [], 0, 1, [], rfl, .inl ⟨h, rfl, rfl, rfl⟩, Srtd.nil, (OR.nil w' 0).rw, hb⟩
  · obtain ⟨n, rfl⟩ : ∃ n : Nat, v = n := ⟨v.toNat, by omega⟩
    by_cases h1 : n % 6 = 1
    · refine (MakeOf_sk n w (by omega) (by omega) h1).mono ?_
      rintro e w' ⟨x, Z, rfl, hS, hR, hb⟩
      exact ⟨x, Z, n, 0, _, rfl, .inr ⟨n, rfl, by omega, by omega, .inl ⟨.inl h1, rfl, rfl, (if_pos h1).symm⟩⟩, hS, hR, hb⟩
    · by_cases h2 : n % 6 = 3
      · refine (MakeOf_bo n w (by omega) (by omega) h2).mono ?_
        rintro e w' ⟨x, Z, rfl, hS, hR, hb⟩
        exact ⟨x, Z, n, 0, _, rfl, .inr ⟨n, rfl, by omega, by omega, .inl ⟨.inr h2, rfl, rfl, (if_neg h1).symm⟩⟩, hS, hR, hb⟩
      · refine (MakeOf_none n w (by omega) (by omega) h1 h2).mono ?_
        rintro e w' ⟨rfl, hb⟩
        exact ⟨_, [], 0, 4, [], rfl, .inr ⟨n, rfl, by omega, by omega, .inr ⟨h1, h2, rfl, rfl, rfl⟩⟩, Srtd.nil, (OR.nil w' 0).rw, hb⟩

end Go.Proofs.Ytdeofjmgjhfkcaa
