/- What the laws ask first: rulerFact. -/
import Derived.Test.YtmiinhbffiodmaaDoorD3
namespace Go.Proofs.YtmiinhbffiodmaaDoor
open Go.RowKit Go.Maps

theorem fact_good : GoodM [0, 1, 4, 6] := ⟨by decide, by decide, by decide, rfl⟩
theorem mF_of {D : List Nat} (h : GoodM D) : mF (D.map Int.ofNat) = 0 := by
  refine mF_zero (by rw [List.length_map]; exact h.few) (fun j hj => ?_) (fun h0 => ?_) (fun j h1 hj => ?_)
  · have := good_bd h j hj
    omega
  · rw [getD_of, h.zero]
    rfl
  · rw [List.length_map] at hj
    rw [getD_of, getD_of]
    have := rise_lt h.rise (show j - 1 < j by omega) hj
    omega
theorem wel_52 : (weL 5 2 (5 - 1)).Nodup := by decide
theorem Sl.len_of {w : World} {u : Value} {l : List Int} {n : Nat} (h : Sl w u l) (hn : l.length = n) : ∃ a c, u = .slice a n c := by
  obtain ⟨a, c, rfl, _⟩ := h
  exact ⟨a, c, by rw [hn]⟩
set_option maxRecDepth 100000 in
set_option maxHeartbeats 4000000 in
theorem fact_any (w : World) (hT : Fd.Tab w) : Calls Tryd.prog 15 #[] w fun e w' => e = .returned (.bool true) ∧ Below w.heap.size w w' := by
  obtain ⟨o, Ho⟩ : ∃ o, Hid (Obj.cells #[.int .i64 0, .int .i64 1, .int .i64 4, .int .i64 6] 3 (0, 0) = o) := ⟨_, rfl⟩
  have b0 : Below w.heap.size w (w.alloc o) := (Below.refl _ _).alloc (Nat.le_refl _) _
  have hn := heap_alloc_new w o
  rw [← Ho.out] at hn b0
  have C := Check_good [0, 1, 4, 6] (.slice (some ⟨w.heap.size, 0, none⟩) 4 4) (w.alloc (.cells #[.int .i64 0, .int .i64 1, .int .i64 4, .int .i64 6] 3)) ⟨_, _, rfl, fun j hj => ⟨w.heap.size, 0, rfl, by
    rw [Nat.zero_add, cell_of_row _ _ _ _ _ _ hn]
    rcases (show j = 0 ∨ j = 1 ∨ j = 2 ∨ j = 3 by simp at hj; omega) with rfl | rfl | rfl | rfl <;> rfl⟩⟩ fact_good (mF_of fact_good)
  rw [show golB [0, 1, 4, 6] = true by decide +kernel] at C
  have HW : Hid (∀ W, Below w.heap.size w W → Calls Tryd.prog 10 #[.int .i64 5, .int .i64 2] W fun e w' => (∃ a c, e = .returned (.tuple #[.slice a 4 c, .int .i64 0])) ∧ Below W.heap.size W w') := fun W hW => by
    refine (Welch_main 5 2 W (hT.below hW) (by omega) (by omega) rfl (by omega) (by omega)).mono ?_
    rintro e w' ⟨⟨h, _⟩ | ⟨_, x, rfl, hx⟩, hb⟩
    · exact absurd wel_52 h
    · obtain ⟨a, c, rfl⟩ := hx.len_of (n := 4) (by rw [pl_len])
      exact ⟨⟨a, c, rfl⟩, hb⟩
  clear hT hn Ho
  go_enter Tryd.func15, Tryd.ntmps15
  go_wp2_with (first
    | (go_at_call 17; refine C.mono ?_; rintro e w1 ⟨rfl, b1⟩; clear C; replace b1 := Below.next b0 b1)
    | (go_at_call 10; refine (HW.out _ b1).mono ?_; rintro e w2 ⟨⟨a, c, rfl⟩, b2⟩; clear HW; replace b2 := Below.next b1 b2))
  go_ret
  exact ⟨rfl, b2⟩

end Go.Proofs.YtmiinhbffiodmaaDoor
