/- The law FieldLeast, walked: for every prime and degree the program's first field is the document's first field, error and all. -/
import Derived.Test.YtgbkfkhjfbkidaaDoorW17
namespace Go.Proofs.YtgbkfkhjfbkidaaDoor
open Go.RowKit

theorem LeastIs.len {p k q d : Int} {l : List Int} {z : Int} (h : LeastIs p k q d l z) : l.length ≤ maxLen := by
  unfold maxLen
  rcases h with ⟨_, _, _, rfl, _⟩ | ⟨P, K, rfl, rfl, h0, ⟨n, _, _, _, _, _, rfl, _⟩ | ⟨_, _, _, rfl, _⟩⟩
  · simp
  · have := ord_parts h0
    rw [digL_length]; omega
  · simp

set_option maxHeartbeats 1000000 in
theorem law4_any (p k : Int) (w : World) (hT : Tab w) :
    Calls Tryd.prog 4 #[.int .i64 p, .int .i64 k] w fun e w' => e = .returned (.bool true) ∧ Below w.heap.size w w' := by
  go_enter Tryd.func4, Tryd.ntmps4
  go_wp2_with fail
  refine (least_any p k _ hT).mono ?_
  rintro e w1 ⟨q, d, v, l, z, rfl, hs1, hL1, hb1⟩
  obtain ⟨a1, c1, rfl, _⟩ := id hs1
  go_wp2_with fail
  refine (leastField_any p k _).mono ?_
  rintro e w2 ⟨q', d', v', l', z', rfl, hs2, hL2, hb2⟩
  have hF2 := (FB.made w1 q d (.slice a1 l.length c1)).below hb2
  have hFc := hF2.cells
  have hs1' := (hs1.below ((Below.refl _ w1).alloc (Nat.le_refl _) (.cells #[.int .i64 q, .int .i64 d, .slice a1 l.length c1] 24))).below hb2
  have hbA : Below w.heap.size w (w1.alloc (.cells #[.int .i64 q, .int .i64 d, .slice a1 l.length c1] 24)) := hb1.alloc hb1.size _
  have hbB : Below w.heap.size w w2 := hbA.trans (hb2.mono hbA.size)
  have hll := hL1.len
  have hll' := hL2.len
  obtain ⟨eq, ed, el, ez⟩ := hL1.one hL2
  have HQ : Hid (q = q' ∧ d = d' ∧ l = l') := ⟨eq, ed, el⟩
  have hzz : (z == z') = true := by simpa using ez
  have hlt2 := hF2.lt
  clear eq ed el ez hL1 hL2
  obtain ⟨a2, c2, rfl, _⟩ := id hs2
  go_wp2_with fail
  refine (fields_any q d q' d' l l' _ _ _ ?_ ?_ hll hll').mono ?_
  · exact hs1'.below ((Below.refl _ _).alloc (Nat.le_refl _) _)
  · exact hs2.below ((Below.refl _ _).alloc (Nat.le_refl _) _)
  rintro e w3 ⟨b, rfl, hb, hb3⟩
  obtain rfl : b = true := hb.2 HQ.out
  have hbC : Below w.heap.size w (w2.alloc (.cells #[.int .i64 q', .int .i64 d', .slice a2 l'.length c2] 24)) := hbB.alloc hbB.size _
  go_wp2
  go_ret
  exact ⟨ret_bool rfl, hbC.trans (hb3.mono hbC.size)⟩

end Go.Proofs.YtgbkfkhjfbkidaaDoor
