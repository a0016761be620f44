/- The walk of squares. -/
import Derived.Test.YthdjionamhekfaaDoorW38b
import Derived.Test.YthdjionamhekfaaDoorW14
namespace Go.Proofs.YthdjionamhekfaaDoor
open Go.RowKit

set_option maxRecDepth 100000 in
set_option maxHeartbeats 1000000 in
theorem squares_any (P K q : Nat) (m : Nat → Int) (w : World) (hF : FieldQ P K m) (hP' : P ≤ 64) (hK' : K ≤ 6) (hPK : P ^ K ≤ 64) (HQ : Hid (q = P ^ K)) :
    Calls Tryd.prog 15 #[.agg (ringRow P K q m)] w fun e w' => ∃ v, e = .returned v ∧ Sl w' v (sqTo P K m (P ^ K)) ∧ Below w.heap.size w w' := by
  obtain ⟨i3, hi, hz0, hz1, hz2⟩ := info3
  obtain ⟨fs, hu⟩ := und53
  have hR := hF.toRing1
  have hq1 : 1 < q := by rw [HQ.out]; exact one_lt hR
  have hq64 : q ≤ 64 := by rw [HQ.out]; exact hPK
  have hb0 : BRow ((w.alloc (.cells (ringRow P K q m) 39)).alloc (.cells #[.bool false, .bool false, .bool false, .bool false, .bool false, .bool false, .bool false, .bool false, .bool false, .bool false, .bool false, .bool false, .bool false, .bool false, .bool false, .bool false, .bool false, .bool false, .bool false, .bool false, .bool false, .bool false, .bool false, .bool false, .bool false, .bool false, .bool false, .bool false, .bool false, .bool false, .bool false, .bool false, .bool false, .bool false, .bool false, .bool false, .bool false, .bool false, .bool false, .bool false, .bool false, .bool false, .bool false, .bool false, .bool false, .bool false, .bool false, .bool false, .bool false, .bool false, .bool false, .bool false, .bool false, .bool false, .bool false, .bool false, .bool false, .bool false, .bool false, .bool false, .bool false, .bool false, .bool false, .bool false] 51)) (w.heap.size + 1) (fun _ => false) := by
    have h : ((w.alloc (.cells (ringRow P K q m) 39)).alloc (.cells #[.bool false, .bool false, .bool false, .bool false, .bool false, .bool false, .bool false, .bool false, .bool false, .bool false, .bool false, .bool false, .bool false, .bool false, .bool false, .bool false, .bool false, .bool false, .bool false, .bool false, .bool false, .bool false, .bool false, .bool false, .bool false, .bool false, .bool false, .bool false, .bool false, .bool false, .bool false, .bool false, .bool false, .bool false, .bool false, .bool false, .bool false, .bool false, .bool false, .bool false, .bool false, .bool false, .bool false, .bool false, .bool false, .bool false, .bool false, .bool false, .bool false, .bool false, .bool false, .bool false, .bool false, .bool false, .bool false, .bool false, .bool false, .bool false, .bool false, .bool false, .bool false, .bool false, .bool false, .bool false] 51)).heap[(w.alloc (.cells (ringRow P K q m) 39)).heap.size]? = _ := heap_alloc_new _ _
    rw [World.size_alloc] at h
    exact h
  have hr0 : RB ((w.alloc (.cells (ringRow P K q m) 39)).alloc (.cells #[.bool false, .bool false, .bool false, .bool false, .bool false, .bool false, .bool false, .bool false, .bool false, .bool false, .bool false, .bool false, .bool false, .bool false, .bool false, .bool false, .bool false, .bool false, .bool false, .bool false, .bool false, .bool false, .bool false, .bool false, .bool false, .bool false, .bool false, .bool false, .bool false, .bool false, .bool false, .bool false, .bool false, .bool false, .bool false, .bool false, .bool false, .bool false, .bool false, .bool false, .bool false, .bool false, .bool false, .bool false, .bool false, .bool false, .bool false, .bool false, .bool false, .bool false, .bool false, .bool false, .bool false, .bool false, .bool false, .bool false, .bool false, .bool false, .bool false, .bool false, .bool false, .bool false, .bool false, .bool false] 51)) w.heap.size P K q m := (RB.made w P K q m).below ((Below.refl _ _).alloc (Nat.le_refl _) _)
  have hB0 : Below w.heap.size w ((w.alloc (.cells (ringRow P K q m) 39)).alloc (.cells #[.bool false, .bool false, .bool false, .bool false, .bool false, .bool false, .bool false, .bool false, .bool false, .bool false, .bool false, .bool false, .bool false, .bool false, .bool false, .bool false, .bool false, .bool false, .bool false, .bool false, .bool false, .bool false, .bool false, .bool false, .bool false, .bool false, .bool false, .bool false, .bool false, .bool false, .bool false, .bool false, .bool false, .bool false, .bool false, .bool false, .bool false, .bool false, .bool false, .bool false, .bool false, .bool false, .bool false, .bool false, .bool false, .bool false, .bool false, .bool false, .bool false, .bool false, .bool false, .bool false, .bool false, .bool false, .bool false, .bool false, .bool false, .bool false, .bool false, .bool false, .bool false, .bool false, .bool false, .bool false] 51)) := ((Below.refl _ _).alloc (Nat.le_refl _) _).alloc (by simp) _
  go_enter Tryd.func15, Tryd.ntmps15
  go_wp2
  go_loopw [4] (fun i wr => ∃ a : Nat, i = .int .i64 a ∧ 1 ≤ a ∧ a ≤ q ∧ BRow wr (w.heap.size + 1) (foundTo P K m a) ∧ RB wr w.heap.size P K q m ∧ Below w.heap.size w wr) (fun i _ => (q - intOf i).toNat)
  case atStart => exact ⟨1, rfl, by omega, by omega, hb0.congr (fun j _ => (foundTo_one j).symm), hr0, hB0⟩
  case round =>
    clear hb0 hr0 hB0
    obtain ⟨a, rfl, ha1, haq, hbr, hRB, hB⟩ := hrel
    have hc2 := hRB.cell2
    by_cases hlt : a < q
    · have ha : a < P ^ K := by rw [← HQ.out]; exact hlt
      have hdec : decide ((a : Int) < q) = true := by simp; omega
      obtain ⟨s, Hs⟩ : ∃ s, Hid (s = mulQ P K m a a) := ⟨_, rfl⟩
      have hsq : s < P ^ K := by rw [Hs.out]; exact mulQ_lt hR a a
      go_wp2_with (first
        | (refine wpList_load_row rfl 39 _ rfl w.heap.size rfl 39 _ (0, 0) _ hRB hu rfl (inf53 _ _ _ _) ?_))
      refine (mul_Q P K a a q m _ hR hP' hK' hPK ha ha s Hs).mono ?_
      rintro e w1 ⟨rfl, hb1⟩
      have hbr1 := hbr.below hb1
      have hRB1 := hRB.below hb1
      have hB1 : Below w.heap.size w w1 := hB.trans (hb1.mono hB.size)
      have hcs := hbr1.cell s (by omega)
      have hfs := hbr1.frozen s
      have hs64 : (s : Int) < 64 := by omega
      go_wp2
      go_roundw
      case rel =>
        refine ⟨a + 1, by go_num, by omega, by omega, (hbr1.set s).congr (fun j _ => ?_), (heap_setCell_other _ _ _ _ (by simp)).trans hRB1, hB1.setCell (by simp) _⟩
        rw [foundTo_succ a j ha1, ← Hs.out]
        unfold updB
        by_cases e : j = s
        · subst e; simp
        · rw [if_neg e, show (s == j) = false by simp; omega]; simp
      case measure => simp [intOf]; omega
    · have hbr' : BRow wr (w.heap.size + 1) (isSq P K m) := by
        have e : a = P ^ K := by rw [← HQ.out]; omega
        rw [e] at hbr; exact hbr
      have hlt1 := hbr.lt
      clear hbr
      go_wp2_with (first
        | (refine wpList_load_row rfl 51 _ rfl (w.heap.size + 1) rfl 51 _ (0, 0) _ hbr' und66 rfl (inf66 _) ?_))
      go_loopw [5, 20] (fun o i wr => ∃ j : Nat, i = .int .i64 j ∧ j ≤ 64 ∧ wr.ownsRow (w.heap.size + 2) 3 1 o (sqTo P K m j).length ((sqTo P K m j).map (Value.int .i64)) ∧ w.heap.size + 2 ≤ wr.heap.size ∧ Below w.heap.size w wr) (fun _ i _ => (64 - intOf i).toNat)
      case atStart => exact ⟨0, rfl, by omega, World.ownsRow_nil _ _ _ _, by omega, hB⟩
      case round =>
        clear hB hRB hc2 hbr'
        obtain ⟨j, rfl, hj, hown, hsz, hB⟩ := hrel
        have hlen := sqTo_len (P := P) (K := K) (m := m) j
        by_cases hj64 : j < 64
        · have hix := idx66 (isSq P K m) j hj64
          have hdec : decide ((j : Int) < 64) = true := by simp; omega
          cases hsq : isSq P K m j
          · have HL : Hid (sqTo P K m (j + 1) = sqTo P K m j) := sqTo_no j hsq
            go_wp2
            go_roundw
            case rel =>
              refine ⟨j + 1, by go_num, by omega, ?_, hsz, hB⟩
              rw [HL.out]; exact hown
            case measure => simp [intOf]; omega
          · have HL : Hid (sqTo P K m (j + 1) = sqTo P K m j ++ [(j : Int)]) := sqTo_yes j hsq
            go_wp2_with (first
              | (at_builtin; refine wpList_append_own _ rfl _ _ 22 rfl (w.heap.size + 2) 3 i3 (.int .i64 0) 1 8 und22 hi hz0 hz1 hz2 rfl (by decide) _ _ _ rfl (hown.alloc _) ⟨wr.heap.size, 0, none⟩ 1 1 [.int .i64 (j : Int)] rfl rfl ?c1 ?c2 ?c3 ?c4 ?c5 ?_)
              | go_in)
            case c1 =>
              intro j' u hj'
              match j', hj' with
              | 0, hj' => simp at hj'; subst hj'; simp [Addr.add]
            case c2 => intro u hu'; simp at hu'; subst hu'; rfl
            case c3 => unfold maxLen; omega
            case c4 => omega
            case c5 => simp; omega
            · intro v' w3 hown' hgrow _
              have hB3 : Below w.heap.size w w3 := (hB.alloc hB.size _).grown hgrow (by simp; omega) (fun k hk => by have := (hown.lt k hk).1; omega)
              have hsz3 : w.heap.size + 2 ≤ w3.heap.size := by have := hgrow.size; simp at this; omega
              go_wp2
              go_roundw
              case rel =>
                refine ⟨j + 1, by go_num, by omega, ?_, hsz3, hB3⟩
                rw [HL.out, List.map_append, List.length_append]; exact hown'
              case measure => simp [intOf]; omega
        · go_wp2
          go_ret
          refine ⟨_, rfl, ?_, hB⟩
          have e : sqTo P K m (P ^ K) = sqTo P K m j := by
            have h := sqTo_more hR (64 - P ^ K)
            rw [show P ^ K + (64 - P ^ K) = j by omega] at h
            exact h.symm
          rw [e]
          exact Sl.owned hown

end Go.Proofs.YthdjionamhekfaaDoor
