/- Both counts are the same; nothing of the program. -/
import Derived.Test.YtmiinhbffiodmaaDoorRuF
import Derived.Test.YtmiinhbffiodmaaDoorRuJ
/- How many Costas permutations there are, of at most 7 points. -/
/- The count of Costas permutations, in blocks; nothing of the program. -/
namespace Go.Proofs.YtmiinhbffiodmaaDoor

/-- How many in a block of m numbers. -/
def blkN (n m b : Nat) : Nat := (List.range m).countP fun k => cosQ (unrL n (List.range n) (m * b + k))
theorem cosK_blk (n m : Nat) (b : Nat) : cosK n (m * b + m) = cosK n (m * b) + blkN n m b := by
  unfold cosK blkN
  rw [List.range_add, List.countP_append, List.countP_map]
  rfl

end Go.Proofs.YtmiinhbffiodmaaDoor

/- How many Costas permutations of 7 points there are: a part of the count. -/
namespace Go.Proofs.YtmiinhbffiodmaaDoor

theorem blk_4 : blkN 7 720 4 = 37 := by decide +kernel
theorem blk_5 : blkN 7 720 5 = 22 := by decide +kernel
theorem blk_6 : blkN 7 720 6 = 22 := by decide +kernel

end Go.Proofs.YtmiinhbffiodmaaDoor

/- How many Costas permutations of 7 points there are: a part of the count. -/
namespace Go.Proofs.YtmiinhbffiodmaaDoor

theorem blk_2 : blkN 7 720 2 = 37 := by decide +kernel
theorem blk_3 : blkN 7 720 3 = 38 := by decide +kernel

end Go.Proofs.YtmiinhbffiodmaaDoor

/- How many Costas permutations of 7 points there are: a part of the count. -/
namespace Go.Proofs.YtmiinhbffiodmaaDoor

theorem blk_0 : blkN 7 720 0 = 22 := by decide +kernel
theorem blk_1 : blkN 7 720 1 = 22 := by decide +kernel

end Go.Proofs.YtmiinhbffiodmaaDoor

namespace Go.Proofs.YtmiinhbffiodmaaDoor

theorem cosN_7 : cosN 7 = 200 := by
  show cosK 7 (720 * 6 + 720) = 200
  rw [cosK_blk, show 720 * 6 = 720 * 5 + 720 from rfl, cosK_blk, show 720 * 5 = 720 * 4 + 720 from rfl, cosK_blk, show 720 * 4 = 720 * 3 + 720 from rfl, cosK_blk, show 720 * 3 = 720 * 2 + 720 from rfl, cosK_blk,
    show 720 * 2 = 720 * 1 + 720 from rfl, cosK_blk, show 720 * 1 = 720 * 0 + 720 from rfl, cosK_blk, blk_0, blk_1, blk_2, blk_3, blk_4, blk_5, blk_6]
  rfl
theorem cosN_few : cosN 1 = 1 ∧ cosN 2 = 2 ∧ cosN 3 = 4 ∧ cosN 4 = 12 := by decide +kernel
/-- The counts. -/
def cosC : Nat → Nat
  | 1 => 1
  | 2 => 2
  | 3 => 4
  | 4 => 12
  | 5 => 40
  | 6 => 116
  | 7 => 200
  | _ => 0
theorem cosN_all {n : Nat} (h1 : 1 ≤ n) (h7 : n ≤ 7) : cosN n = cosC n := by
  obtain ⟨a, b, c, d⟩ := cosN_few
  match n, h1, h7 with
  | 1, _, _ => exact a
  | 2, _, _ => exact b
  | 3, _, _ => exact c
  | 4, _, _ => exact d
  | 5, _, _ => exact cosN_5
  | 6, _, _ => exact cosN_6
  | 7, _, _ => exact cosN_7

end Go.Proofs.YtmiinhbffiodmaaDoor

/- The count of seven points, by the first one; nothing of the program. -/
namespace Go.Proofs.YtmiinhbffiodmaaDoor

theorem cC_74 : cC 6 7 [4] = 37 := by decide +kernel
theorem cC_75 : cC 6 7 [5] = 22 := by decide +kernel
theorem cC_76 : cC 6 7 [6] = 22 := by decide +kernel

end Go.Proofs.YtmiinhbffiodmaaDoor

/- The count of seven points, by the first one; nothing of the program. -/
namespace Go.Proofs.YtmiinhbffiodmaaDoor

theorem cC_72 : cC 6 7 [2] = 37 := by decide +kernel
theorem cC_73 : cC 6 7 [3] = 38 := by decide +kernel

end Go.Proofs.YtmiinhbffiodmaaDoor

/- The count of seven points, by the first one; nothing of the program. -/
namespace Go.Proofs.YtmiinhbffiodmaaDoor

theorem cC_70 : cC 6 7 [0] = 22 := by decide +kernel
theorem cC_71 : cC 6 7 [1] = 22 := by decide +kernel

end Go.Proofs.YtmiinhbffiodmaaDoor

namespace Go.Proofs.YtmiinhbffiodmaaDoor

theorem cC_step {f n : Nat} {l : List Nat} (h : ¬ l.length = n) : cC (f + 1) n l = ((List.range n).map fun x => if l.contains x then 0 else if cosQ (l ++ [x]) then cC f n (l ++ [x]) else 0).sum := by
  conv => lhs; unfold cC
  rw [if_neg h]
theorem cos_one : ∀ x : Fin 7, cosQ [x.val] = true := by decide +kernel
theorem first_one {f n x : Nat} (hx : x < 7) : (if ([] : List Nat).contains x then 0 else if cosQ ([] ++ [x]) then cC f n ([] ++ [x]) else 0) = cC f n [x] := by
  rw [if_neg (by simp), List.nil_append, if_pos (cos_one ⟨x, hx⟩)]
theorem sum_seven {G H : Nat → Nat} (h : ∀ x, x < 7 → G x = H x) : ((List.range 7).map G).sum = H 0 + (H 1 + (H 2 + (H 3 + (H 4 + (H 5 + (H 6 + 0)))))) := by
  rw [← h 0 (by omega), ← h 1 (by omega), ← h 2 (by omega), ← h 3 (by omega), ← h 4 (by omega), ← h 5 (by omega), ← h 6 (by omega)]
  rfl
theorem cC_seven (f : Nat) : cC (f + 1) 7 [] = cC f 7 [0] + (cC f 7 [1] + (cC f 7 [2] + (cC f 7 [3] + (cC f 7 [4] + (cC f 7 [5] + (cC f 7 [6] + 0)))))) := by
  rw [cC_step (by simp)]
  exact sum_seven fun x hx => first_one hx
theorem cC_7 : cC (6 + 1) 7 [] = 200 := by
  rw [cC_seven, cC_70, cC_71, cC_72, cC_73, cC_74, cC_75, cC_76]

theorem cC_all {n f : Nat} (h : n = f + 1) (h7 : n ≤ 7) : cC (f + 1) n [] = cosN n := by
  rw [cosN_all (by omega) h7]
  obtain ⟨a, b, c, d, e⟩ := cC_few
  rcases (show f = 0 ∨ f = 1 ∨ f = 2 ∨ f = 3 ∨ f = 4 ∨ f = 5 ∨ f = 6 by omega) with rfl | rfl | rfl | rfl | rfl | rfl | rfl
  · obtain rfl : n = 1 := by omega
    exact a
  · obtain rfl : n = 2 := by omega
    exact b
  · obtain rfl : n = 3 := by omega
    exact c
  · obtain rfl : n = 4 := by omega
    exact d
  · obtain rfl : n = 5 := by omega
    exact e
  · obtain rfl : n = 6 := by omega
    exact cC_6
  · obtain rfl : n = 7 := by omega
    exact cC_7

end Go.Proofs.YtmiinhbffiodmaaDoor
