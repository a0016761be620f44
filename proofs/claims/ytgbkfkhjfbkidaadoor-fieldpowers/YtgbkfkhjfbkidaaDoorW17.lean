/- The walk of LeastField: the first field of an order, as the document's answer has it. -/
import Derived.Test.YtgbkfkhjfbkidaaDoorW16
namespace Go.Proofs.YtgbkfkhjfbkidaaDoor
open Go.RowKit

theorem fault_dig {P K n : Nat} {z : Int} (hP : 2 ≤ P) (h0 : ordZ (P : Int) K ≠ 0) (hn : n < P ^ K) (h : FaultIs P K (digL n P K) z) : z = 0 ↔ goodAt P K n := by
  have hin : inL (P : Int) (digL n P K) := fun j hj => by
    rw [digL_length] at hj
    rw [digL_at _ _ _ _ hj]; exact digF_in n P (by omega) j
  have hlen : ((digL n P K).length : Int) = K := by rw [digL_length]
  unfold goodAt
  rw [← monL_dig n P K hP hn]
  unfold FaultIs at h
  rw [Int.toNat_natCast, Int.toNat_natCast] at h
  rcases h with ⟨a, _⟩ | ⟨_, b, _⟩ | ⟨_, _, c, _⟩ | ⟨_, _, _, d, rfl⟩ | ⟨_, _, _, d, rfl⟩
  · exact absurd a h0
  · exact absurd hlen b
  · exact absurd hin c
  · exact ⟨fun h => absurd h (by decide), fun h => absurd h d⟩
  · exact ⟨fun _ => d, fun _ => rfl⟩

set_option maxHeartbeats 1000000 in
theorem leastField_any (p k : Int) (w : World) :
    Calls Tryd.prog 17 #[.int .i64 p, .int .i64 k] w fun e w' => ∃ (q d : Int) (v : Value) (l : List Int) (z : Int), e = .returned (.tuple #[.agg #[.int .i64 q, .int .i64 d, v], .int .i64 z]) ∧ Sl w' v l ∧ LeastIs p k q d l z ∧ Below w.heap.size w w' := by
  by_cases h0 : ordZ p k = 0
  · have HO : Hid (ordZ p k = 0) := h0
    have hbb : (ordZ p k == 0) = true := by simp [h0]
    clear h0
    go_enter Tryd.func17, Tryd.ntmps17
    go_wp2_with (go_at_call 33; refine (orderOf_any p k _).mono ?_; rintro e w' ⟨rfl, rfl⟩)
    exact bodyPost_ret (v := .tuple #[.agg #[.int .i64 0, .int .i64 0, .slice none 0 0], .int .i64 1]) (by simp [results, Tryd.results17, go_sem]) rfl ⟨0, 0, _, [], 1, rfl, Sl.nil _, .inl ⟨HO.out, rfl, rfl, rfl, rfl⟩, (Below.refl _ _).alloc (Nat.le_refl _) _⟩
  · obtain ⟨P, K, rfl, rfl, hP, hP', hK, hK', hPK, hq⟩ := ord_nat h0
    have HN0 : Hid (ordZ (P : Int) K ≠ 0) := h0
    obtain ⟨Q, HQ⟩ : ∃ Q : Nat, Hid (Q = P ^ K) := ⟨_, rfl⟩
    rw [← HQ.out] at hq
    have hQ64 : Q ≤ 64 := by rw [HQ.out]; exact hPK
    have hQ0 : 0 < Q := by rw [HQ.out]; exact Nat.pow_pos (by omega)
    have hbb : ((Q : Int) == 0) = false := by simp; omega
    clear h0
    go_enter Tryd.func17, Tryd.ntmps17
    go_wp2_with (go_at_call 33; refine (orderOf_any P K _).mono ?_; rintro e w' ⟨rfl, rfl⟩)
    go_loopw [7] (fun i wr => ∃ n : Nat, i = .int .i64 n ∧ n ≤ Q ∧ Hid (∀ m, m < n → ¬ goodAt P K m) ∧ FB wr w.heap.size 0 0 (.slice none 0 0) ∧ Below w.heap.size w wr) (fun i _ => (Q - intOf i).toNat)
    case atStart => exact ⟨0, rfl, by omega, (fun m hm => by omega : ∀ m, m < 0 → _), FB.made w 0 0 (.slice none 0 0), (Below.refl _ _).alloc (Nat.le_refl _) _⟩
    case round =>
      obtain ⟨n, rfl, hn2, HG, hF, hb⟩ := hrel
      by_cases hlt : n < Q
      · have hdec : decide ((n : Int) < Q) = true := by simp; omega
        go_wp2_with fail
        refine (digits_any n P K _ (by omega) hP (by omega) (by omega)).mono ?_
        rintro e w1 ⟨v1, rfl, hown1, hb1⟩
        obtain ⟨g, cap, rfl, hg, hO⟩ := Own.of hown1 (by omega)
        have hSl : Sl w1 (.slice (some ⟨g, 0, none⟩) K cap) (digL n P K) := Sl.owned (base := wr.heap.size) (by rw [digL_length]; exact hown1)
        have hF1 := hF.below hb1
        have hb1' : Below w.heap.size w w1 := hb.trans (hb1.mono hb.size)
        have hFl := hF1.lt
        clear hO hown1
        go_wp2_with fail
        refine (fault_any P K (digL n P K) (.slice (some ⟨g, 0, none⟩) K cap) _ ?_).mono ?_
        · exact hSl.below ((Below.refl _ _).alloc (Nat.le_refl _) _)
        rintro e w2 ⟨z, rfl, hz, hb2⟩
        have HZ : Hid (z = 0 ↔ goodAt P K n) := fault_dig hP HN0.out (by rw [← HQ.out]; exact hlt) hz
        have hbA : Below w1.heap.size w1 (w1.alloc (.cells #[.int .i64 P, .int .i64 K, .slice (some ⟨g, 0, none⟩) K cap] 24)) := (Below.refl _ _).alloc (Nat.le_refl _) _
        have hF2 := (hF1.below hbA).below hb2
        have hG2 := (FB.made w1 P K (.slice (some ⟨g, 0, none⟩) K cap)).below hb2
        have hS2 := (hSl.below hbA).below hb2
        have hGc := hG2.cells
        have hb12 : Below w.heap.size w w2 := (hb1'.trans (hbA.mono hb1'.size)).trans (hb2.mono (hb1'.trans (hbA.mono hb1'.size)).size)
        clear hz hb2
        by_cases hz0 : z = 0
        · have hzb : (z == 0) = true := by simpa using hz0
          have HG0 : Hid (goodAt P K n) := HZ.out.1 hz0
          have hgw2 : Hid (g < w1.heap.size) := by
            obtain ⟨a, c, e, h⟩ := hSl
            simp only [Value.slice.injEq] at e
            obtain ⟨rfl, _, _⟩ := e
            obtain ⟨b, o, e2, hc⟩ := h 0 (by rw [digL_length]; omega)
            simp only [Option.some.injEq, Addr.mk.injEq, and_true] at e2
            obtain ⟨rfl, rfl⟩ := e2
            exact (by simpa using block_lt_of_cell hc : g < w1.heap.size)
          have hFc := (hF2.whole P K (.slice (some ⟨g, 0, none⟩) K cap)).cells
          have hgne : w.heap.size < wr.heap.size := hF.lt
          clear hz0
          go_wp2_with (first | (refine wpList_store_row rfl 24 _ _ rfl w.heap.size #[.int .i64 P, .int .i64 K, .slice (some ⟨g, 0, none⟩) K cap] rfl rfl 24 _ hF2 inf24 rfl (one3 _ _ _ rfl) ?_))
          refine bodyPost_ret (v := .tuple #[.agg #[.int .i64 P, .int .i64 K, .slice (some ⟨g, 0, none⟩) K cap], .int .i64 0]) (by simp [results, Tryd.results17, go_sem, hFc]) rfl ⟨P, K, _, digL n P K, 0, rfl, ?_, .inr ⟨P, K, rfl, rfl, HN0.out, .inl ⟨n, by rw [← HQ.out]; exact hlt, HG0.out, HG.out, rfl, rfl, rfl, rfl⟩⟩, bsetRow hb12 (Nat.le_refl _) _⟩
          obtain ⟨a, c, e, h⟩ := hS2
          refine ⟨a, c, e, fun j hj => ?_⟩
          obtain ⟨b, o, e2, hc⟩ := h j hj
          refine ⟨b, o, e2, ?_⟩
          simp only [Value.slice.injEq] at e
          obtain ⟨rfl, _, _⟩ := e
          simp only [Option.some.injEq, Addr.mk.injEq, and_true] at e2
          obtain ⟨rfl, rfl⟩ := e2
          rw [cell_setRow_other _ _ _ _ (by simp; omega)]
          exact hc
        · have hzb : (z == 0) = false := by simpa using hz0
          go_wp2
          go_roundw
          case rel =>
            refine ⟨n + 1, by go_num, by omega, (fun m hm => ?_ : ∀ m, m < n + 1 → _), hF2, hb12⟩
            by_cases e : m = n
            · subst e; exact fun h => hz0 (HZ.out.2 h)
            · exact HG.out m (by omega)
          case measure => simp [intOf]; omega
      · have hFc := (hF.whole 0 0 (.slice none 0 0)).cells
        go_wp2_with (refine wpList_store_row rfl 24 _ _ rfl w.heap.size #[.int .i64 0, .int .i64 0, .slice none 0 0] rfl rfl 24 _ hF inf24 rfl (one3 _ _ _ rfl) ?_)
        refine bodyPost_ret (v := .tuple #[.agg #[.int .i64 0, .int .i64 0, .slice none 0 0], .int .i64 4]) (by simp [results, Tryd.results17, go_sem, hFc]) rfl ⟨0, 0, _, [], 4, rfl, Sl.nil _, .inr ⟨P, K, rfl, rfl, HN0.out, .inr ⟨fun m hm => HG.out m (by rw [← HQ.out] at hm; omega), rfl, rfl, rfl, rfl⟩⟩, bsetRow hb (Nat.le_refl _) _⟩

end Go.Proofs.YtgbkfkhjfbkidaaDoor
