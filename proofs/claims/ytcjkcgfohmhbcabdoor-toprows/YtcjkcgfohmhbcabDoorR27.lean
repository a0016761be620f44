/- The walks of Check, begin, states and behind. -/
import Derived.Test.YtcjkcgfohmhbcabDoorR26
import Derived.Deep.QuietTactic
import Derived.BigQuiet
import Derived.Deep.RegionWith
namespace Go.Proofs.YtcjkcgfohmhbcabDoor.Rc
open Go.RowKit

theorem RB.set2 {w : World} {g : Nat} {p : Int} {v : Value} (h : RB w g p v) (p' : Int) (v' : Value) : RB ((w.setCell ⟨g, 0, none⟩ (.int .i64 p')).setCell ⟨g, 1, none⟩ v') g p' v' := by
  unfold RB
  rw [heap_setCell_same _ g 1 _ _ _ (heap_setCell_same w g 0 _ _ _ h)]; rfl

set_option maxHeartbeats 1000000 in
theorem begin_ok (p : Int) (l m : List Int) (v u : Value) (w : World) (hl : Sl w v l) (hll : l.length ≤ maxLen) (hm : Sl w u m) (hml : m.length ≤ maxLen) (hz : runF p l m = 0) :
    Calls Tryd.prog 19 #[.int .i64 p, v, u] w fun e w' => e = .returned (.tuple #[.agg #[.int .i64 p, v], .int .i64 (numL p m), .int .i64 0]) ∧ Below w.heap.size w w' := by
  obtain ⟨h1, h2, h3⟩ := runF_ok hz
  obtain ⟨t1, t2, t3, t4⟩ := tapsF_ok h1
  have hpb := smB_bd t1
  have hB0 := balloc w (.cells #[.int .i64 0, .slice none 0 0] 51)
  have hR0 := RB.made w 0 (.slice none 0 0)
  have C := open_ok p l v (w.alloc (.cells #[.int .i64 0, .slice none 0 0] 51)) (hl.alloc _) hll h1
  obtain ⟨P, rfl⟩ := Int.eq_ofNat_of_zero_le (show 0 ≤ p by omega)
  have hmm : m.length ≤ 9223372036854775807 := by omega
  obtain ⟨a, cap, rfl, _⟩ := id hl
  obtain ⟨a', cap', rfl, _⟩ := id hm
  have hd : ((m.length : Int) != (l.length : Int)) = false := by simp; omega
  have HE : Hid (l.length = m.length ∧ l.length ≤ 8) := ⟨by omega, by omega⟩
  obtain ⟨x, Hx⟩ : ∃ x : Int, Hid (x = numL P m) := ⟨_, rfl⟩
  rw [← Hx.out]
  clear h2 hmm t2 t3
  go_enter Tryd.func19, Tryd.ntmps19
  go_wp2_with (first
    | (go_at_call 40; refine C.mono ?_; rintro e w1 ⟨rfl, hb1⟩
       have hN := RB.made w1 0 (.slice none 0 0)
       have hB1 : Below w.heap.size w w1 := Below.next hB0 hb1
       have hRO := hR0.below hb1
       obtain ⟨w2, Hw2⟩ : ∃ w2, Hid (w2 = (w1.alloc (.cells #[.int .i64 0, .slice none 0 0] 51)).setRow w1.heap.size #[.int .i64 (P : Int), .slice a l.length cap]) := ⟨_, rfl⟩
       have hN2 : RB w2 w1.heap.size P (.slice a l.length cap) := by rw [Hw2.out]; exact hN.whole _ _
       have hlt1 := hRO.lt
       have hRO2 : RB w2 w.heap.size 0 (.slice none 0 0) := by rw [Hw2.out]; exact (hRO.below (balloc w1 _)).wholeOther _ _ (by omega)
       have hB2 : Below w.heap.size w w2 := by rw [Hw2.out]; exact bsetRow (hB1.alloc hB1.size _) hB1.size _
       have D := allBelow_any m _ P w2 (hm.below hB2) hml
       rw [h3] at D
       have E := number_any P m _ w2 (hm.below hB2) (by omega) (by omega) (by have := HE.out; omega) h3
       rw [← Hx.out] at E
       have hRc := (hRO2.whole P (.slice a l.length cap)).cells)
    | (refine wpList_store_row rfl 51 _ _ rfl w1.heap.size #[.int .i64 P, .slice a l.length cap] rfl rfl 51 _ hN inf47 rfl (one2 _ _ rfl) ?_; rw [← Hw2.out])
    | (go_at_call 25; refine D.mono ?_; rintro e w' ⟨rfl, rfl⟩))
  obtain ⟨n1, n2⟩ := hN2.cells
  obtain ⟨o1, o2⟩ := hRO2.cells
  have f1 := hRO2.frozen 0
  have f2 := hRO2.frozen 1
  go_region_with (go_at_call 41; refine (number_any P m _ _ (Sl.drew (hm.below hB2)) (by omega) (by omega) (by have := HE.out; omega) h3).mono ?_; rw [← Hx.out]; rintro e w3 ⟨rfl, rfl⟩)
  all_goals go_wp2_with fail
  all_goals
    have hRc := (hRO2.set2 P (.slice a l.length cap)).cells
    refine bodyPost_ret (v := .tuple #[.agg #[.int .i64 P, .slice a l.length cap], .int .i64 x, .int .i64 0]) (by simp [results, Tryd.results19, go_sem, Act.put, hRc]) rfl ⟨rfl, ?_⟩
    exact ((hB2.setCell (p := ⟨w.heap.size, 0, none⟩) (Nat.le_refl _) _).setCell (p := ⟨w.heap.size, 1, none⟩) (Nat.le_refl _) _).drew

end Go.Proofs.YtcjkcgfohmhbcabDoor.Rc
