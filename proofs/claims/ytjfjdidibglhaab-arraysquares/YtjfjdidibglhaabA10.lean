/- The walk of arrayFact. -/
import Derived.Test.YtjfjdidibglhaabA7
namespace Go.Proofs.Ytjfjdidibglhaab
open Go.RowKit

theorem sl_made (w : World) (l : List Int) : Sl (w.alloc (.cells (l.map (Value.int .i64)).toArray 3)) (.slice (some ⟨w.heap.size, 0, none⟩) l.length l.length) l := by
  refine ⟨_, _, rfl, fun j hj => ⟨w.heap.size, 0, rfl, ?_⟩⟩
  rw [cell_of_row _ w.heap.size (0 + j) _ _ _ (heap_alloc_new w _), Nat.zero_add]
  simp [hj]
def facL : List (List Int) := [[0, 0, 0], [0, 1, 1], [1, 0, 1], [1, 1, 0]]
theorem fac_good : GoodA 2 3 facL := by
  refine ⟨by decide, by decide, by decide, by decide, by decide, by decide, by decide, ?_⟩
  have h : (facL.all fun l => (List.range 3).all fun j => decide (0 ≤ l.getD j 0 ∧ l.getD j 0 < 2)) = true := by decide
  intro l hl j hj
  exact of_decide_eq_true (List.all_eq_true.1 (List.all_eq_true.1 h l hl) j (List.mem_range.2 hj))
theorem fac_str : StrIs 2 3 (rnA facL) 2 := by
  have t1 : taB 2 3 1 facL = true := by decide +kernel
  have t2 : taB 2 3 2 facL = true := by decide +kernel
  have t3 : taB 2 3 3 facL = false := by decide +kernel
  refine ⟨by decide, fun u hu => ?_, fun _ h => ?_⟩
  · rcases (show u = 0 ∨ u = 1 ∨ u = 2 by omega) with rfl | rfl | rfl
    · exact str_zero _ _ _
    · exact (taB_iff fac_good).1 t1
    · exact (taB_iff fac_good).1 t2
  · have := (taB_iff fac_good).2 h
    rw [t3] at this
    cases this
/-- Four rows of three, and the row of them. -/
def facW (w : World) : World := ((((w.alloc (.cells #[.int .i64 0, .int .i64 0, .int .i64 0] 3)).alloc (.cells #[.int .i64 0, .int .i64 1, .int .i64 1] 3)).alloc (.cells #[.int .i64 1, .int .i64 0, .int .i64 1] 3)).alloc (.cells #[.int .i64 1, .int .i64 1, .int .i64 0] 3)).alloc
  (.cells #[.slice (some ⟨w.heap.size, 0, none⟩) 3 3, .slice (some ⟨w.heap.size + 1, 0, none⟩) 3 3, .slice (some ⟨w.heap.size + 1 + 1, 0, none⟩) 3 3, .slice (some ⟨w.heap.size + 1 + 1 + 1, 0, none⟩) 3 3] 22)
theorem fac_rw (w : World) : Rw (facW w) (.slice (some ⟨w.heap.size + 1 + 1 + 1 + 1, 0, none⟩) 4 4) facL ∧ Below w.heap.size w (facW w) := by
  obtain ⟨w1, h1⟩ : ∃ w1, w.alloc (.cells #[.int .i64 0, .int .i64 0, .int .i64 0] 3) = w1 := ⟨_, rfl⟩
  obtain ⟨w2, h2⟩ : ∃ w2, w1.alloc (.cells #[.int .i64 0, .int .i64 1, .int .i64 1] 3) = w2 := ⟨_, rfl⟩
  obtain ⟨w3, h3⟩ : ∃ w3, w2.alloc (.cells #[.int .i64 1, .int .i64 0, .int .i64 1] 3) = w3 := ⟨_, rfl⟩
  obtain ⟨w4, h4⟩ : ∃ w4, w3.alloc (.cells #[.int .i64 1, .int .i64 1, .int .i64 0] 3) = w4 := ⟨_, rfl⟩
  have s1 : w1.heap.size = w.heap.size + 1 := by rw [← h1]; simp
  have s2 : w2.heap.size = w.heap.size + 1 + 1 := by rw [← h2]; simp [s1]
  have s3 : w3.heap.size = w.heap.size + 1 + 1 + 1 := by rw [← h3]; simp [s2]
  have s4 : w4.heap.size = w.heap.size + 1 + 1 + 1 + 1 := by rw [← h4]; simp [s3]
  have b1 : Below w.heap.size w w1 := by rw [← h1]; exact balloc _ _
  have b2 : Below w1.heap.size w1 w2 := by rw [← h2]; exact balloc _ _
  have b3 : Below w2.heap.size w2 w3 := by rw [← h3]; exact balloc _ _
  have b4 : Below w3.heap.size w3 w4 := by rw [← h4]; exact balloc _ _
  have r1 : Sl w1 (.slice (some ⟨w.heap.size, 0, none⟩) 3 3) [0, 0, 0] := by rw [← h1]; exact sl_made w [0, 0, 0]
  have r2 : Sl w2 (.slice (some ⟨w.heap.size + 1, 0, none⟩) 3 3) [0, 1, 1] := by rw [← h2, ← s1]; exact sl_made w1 [0, 1, 1]
  have r3 : Sl w3 (.slice (some ⟨w.heap.size + 1 + 1, 0, none⟩) 3 3) [1, 0, 1] := by rw [← h3, ← s2]; exact sl_made w2 [1, 0, 1]
  have r4 : Sl w4 (.slice (some ⟨w.heap.size + 1 + 1 + 1, 0, none⟩) 3 3) [1, 1, 0] := by rw [← h4, ← s3]; exact sl_made w3 [1, 1, 0]
  have e : facW w = w4.alloc (.cells #[.slice (some ⟨w.heap.size, 0, none⟩) 3 3, .slice (some ⟨w.heap.size + 1, 0, none⟩) 3 3, .slice (some ⟨w.heap.size + 1 + 1, 0, none⟩) 3 3, .slice (some ⟨w.heap.size + 1 + 1 + 1, 0, none⟩) 3 3] 22) := by
    unfold facW
    rw [h1, h2, h3, h4]
  rw [e]
  have b5 := balloc w4 (.cells #[.slice (some ⟨w.heap.size, 0, none⟩) 3 3, .slice (some ⟨w.heap.size + 1, 0, none⟩) 3 3, .slice (some ⟨w.heap.size + 1 + 1, 0, none⟩) 3 3, .slice (some ⟨w.heap.size + 1 + 1 + 1, 0, none⟩) 3 3] 22)
  have hn := heap_alloc_new w4 (.cells #[.slice (some ⟨w.heap.size, 0, none⟩) 3 3, .slice (some ⟨w.heap.size + 1, 0, none⟩) 3 3, .slice (some ⟨w.heap.size + 1 + 1, 0, none⟩) 3 3, .slice (some ⟨w.heap.size + 1 + 1 + 1, 0, none⟩) 3 3] 22)
  refine ⟨⟨_, 4, rfl, fun i l hi => ⟨w.heap.size + 1 + 1 + 1 + 1, 0, ?_⟩⟩, Below.next b1 (Below.next b2 (Below.next b3 (Below.next b4 b5)))⟩
  · have hil : i < 4 := (List.getElem?_eq_some_iff.1 hi).1
    rw [s4] at hn
    rcases (show i = 0 ∨ i = 1 ∨ i = 2 ∨ i = 3 by omega) with rfl | rfl | rfl | rfl
    · obtain rfl : [0, 0, 0] = l := by simpa [facL] using hi
      exact ⟨_, rfl, by rw [cell_of_row _ _ _ _ _ _ hn]; rfl, r1.below (Below.next b2 (Below.next b3 (Below.next b4 b5)))⟩
    · obtain rfl : [0, 1, 1] = l := by simpa [facL] using hi
      exact ⟨_, rfl, by rw [cell_of_row _ _ _ _ _ _ hn]; rfl, r2.below (Below.next b3 (Below.next b4 b5))⟩
    · obtain rfl : [1, 0, 1] = l := by simpa [facL] using hi
      exact ⟨_, rfl, by rw [cell_of_row _ _ _ _ _ _ hn]; rfl, r3.below (Below.next b4 b5)⟩
    · obtain rfl : [1, 1, 0] = l := by simpa [facL] using hi
      exact ⟨_, rfl, by rw [cell_of_row _ _ _ _ _ _ hn]; rfl, r4.below b5⟩
set_option maxRecDepth 100000 in
set_option maxHeartbeats 4000000 in
theorem arrayFact_any (w : World) : Calls Try.prog 4 #[] w fun e w' => e = .returned (.bool true) ∧ Below w.heap.size w w' := by
  obtain ⟨hr, hb⟩ := fac_rw w
  have C := Strength_ok 2 3 facL _ (facW w) hr fac_good
  have HF : Hid (StrIs 2 3 (rnA facL) 2) := fac_str
  clear hr
  go_enter Try.func4, Try.ntmps4
  go_wp2_with (go_at_call 7; refine C.mono ?_; rintro e1 w1 ⟨⟨t, rfl, hT⟩, b1⟩; clear C; have ht : t = 2 := hT.one HF.out; subst ht)
  go_ret
  exact ⟨by simp, Below.next hb b1⟩
end Go.Proofs.Ytjfjdidibglhaab
