/- The walk of turns; Ints, once more. -/
import Derived.Test.YteocfkkdjejgdaaDoorP9
import Derived.Test.YteocfkkdjejgdaaDoorP14
namespace Go.Proofs.YteocfkkdjejgdaaDoor
open Go.RowKit

theorem ints_dec (l m : List Int) (v u : Value) (w : World) (hl : Sl w v l) (hm : Sl w u m) (hll : l.length ≤ 100) (hml : m.length ≤ 100) :
    Calls Tryd.prog 10 #[v, u] w fun e w' => e = .returned (.bool (decide (l = m))) ∧ Below w.heap.size w w' := by
  refine (ints_any l m v u w hl hm (by unfold maxLen; omega) (by unfold maxLen; omega)).mono ?_
  rintro e w' ⟨b, rfl, hb, h⟩
  refine ⟨ret_bool ?_, h⟩
  rw [Bool.eq_iff_iff, hb]; simp
theorem ints_yes (l m : List Int) (v u : Value) (w : World) (hl : Sl w v l) (hm : Sl w u m) (hll : l.length ≤ 100) (e : l = m) :
    Calls Tryd.prog 10 #[v, u] w fun e w' => e = .returned (.bool true) ∧ Below w.heap.size w w' := by
  have h := ints_dec l m v u w hl hm hll (by rw [← e]; exact hll)
  rwa [decide_eq_true e] at h
theorem Sl.len {w : World} {v : Value} {l : List Int} {n : Nat} (h : Sl w v l) (hn : l.length = n) : ∃ a c, v = .slice a n c := by
  obtain ⟨a, c, e, _⟩ := h
  rw [hn] at e
  exact ⟨a, c, e⟩
theorem Sl.three (w : World) (a b c : Int) : Sl (w.alloc (.cells #[.int .i64 a, .int .i64 b, .int .i64 c] 3)) (.slice (some ⟨w.heap.size, 0, none⟩) 3 3) [a, b, c] := by
  refine ⟨_, 3, rfl, fun j hj => ⟨w.heap.size, 0, rfl, ?_⟩⟩
  rw [cell_of_row _ _ _ _ _ _ (heap_alloc_new w _)]
  have : j = 0 ∨ j = 1 ∨ j = 2 := by simp at hj; omega
  rcases this with rfl | rfl | rfl <;> rfl

set_option maxHeartbeats 400000 in
theorem turns_any (w : World) : Calls Tryd.prog 11 #[] w fun e w' => e = .returned (.bool true) ∧ Below w.heap.size w w' := by
  have hf : Pm 3 (fun i => [1, 0, 2].getD i 0) := ⟨by decide, fun i j hi hj => (by decide : ∀ i, i < 3 → ∀ j, j < 3 → [1, 0, 2].getD i 0 = [1, 0, 2].getD j 0 → i = j) i hi j hj⟩
  have hg : Pm 3 (fun i => [0, 2, 1].getD i 0) := ⟨by decide, fun i j hi hj => (by decide : ∀ i, i < 3 → ∀ j, j < 3 → [0, 2, 1].getD i 0 = [0, 2, 1].getD j 0 → i = j) i hi j hj⟩
  have h1 : Sl ((w.alloc (.cells #[.int .i64 1, .int .i64 0, .int .i64 2] 3)).alloc (.cells #[.int .i64 0, .int .i64 2, .int .i64 1] 3)) (.slice (some ⟨w.heap.size, 0, none⟩) 3 3) (pl 3 fun i => [1, 0, 2].getD i 0) := (Sl.three w 1 0 2).alloc _
  have h2 : Sl ((w.alloc (.cells #[.int .i64 1, .int .i64 0, .int .i64 2] 3)).alloc (.cells #[.int .i64 0, .int .i64 2, .int .i64 1] 3)) (.slice (some ⟨w.heap.size + 1, 0, none⟩) 3 3) (pl 3 fun i => [0, 2, 1].getD i 0) := by
    have h := Sl.three (w.alloc (.cells #[.int .i64 1, .int .i64 0, .int .i64 2] 3)) 0 2 1
    rw [World.size_alloc] at h; exact h
  have hB0 : Below w.heap.size w ((w.alloc (.cells #[.int .i64 1, .int .i64 0, .int .i64 2] 3)).alloc (.cells #[.int .i64 0, .int .i64 2, .int .i64 1] 3)) := (balloc w _).alloc (by simp) _
  have hs0 : w.heap.size ≤ ((w.alloc (.cells #[.int .i64 1, .int .i64 0, .int .i64 2] 3)).alloc (.cells #[.int .i64 0, .int .i64 2, .int .i64 1] 3)).heap.size := by simp; omega
  have C := Compose_ok 3 _ _ _ _ _ (by omega) h1 h2 hf hg
  have he : (pl 3 fun i => [0, 2, 1].getD ([1, 0, 2].getD i 0) 0) = [2, 0, 1] := by decide
  rw [he] at C
  clear h1 h2 hf hg he
  go_enter Tryd.func11, Tryd.ntmps11
  go_wp2_with (first
    | (go_at_call 19; refine C.mono ?_; rintro e w1 ⟨x, rfl, hx, hb1⟩)
    | (go_at_call 10; refine (ints_yes [2, 0, 1] [2, 0, 1] _ _ _ (hx.alloc _) (Sl.three w1 2 0 1) (by decide) rfl).mono ?_; rintro e w2 ⟨rfl, hb2⟩))
  go_ret
  exact ⟨rfl, (hB0.trans (hb1.mono hs0)).trans ((balloc w1 _).mono (by have := hb1.size; omega) |>.trans (hb2.mono (by have := hb1.size; simp; omega)))⟩

end Go.Proofs.YteocfkkdjejgdaaDoor
