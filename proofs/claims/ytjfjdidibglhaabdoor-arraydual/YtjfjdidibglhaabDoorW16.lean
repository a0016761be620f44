/- The walks of Least and of LeastField: the first field of an order. -/
import Derived.Test.YtjfjdidibglhaabDoorW40
import Derived.Test.YtjfjdidibglhaabDoorW42
import Derived.Test.YtjfjdidibglhaabDoorW43
import Derived.Test.YtjfjdidibglhaabDoorW9
import Derived.Test.YtjfjdidibglhaabDoorPureD
namespace Go.Proofs.YtjfjdidibglhaabDoor.Fd
open Go.RowKit

theorem one3 (p k : Int) (v : Value) (h : v.oneCell' = true) : (#[.int .i64 p, .int .i64 k, v] : Array Value).all (·.oneCell') = true := by
  have h1 : ∀ z : Int, (Value.int .i64 z).oneCell' = true := fun _ => rfl
  simp [h, h1]

set_option maxRecDepth 100000 in
set_option maxHeartbeats 1000000 in
theorem least_any (p k : Int) (w : World) (hT : Tab w) :
    Calls Tryd.prog 28 #[.int .i64 p, .int .i64 k] w fun e w' => ∃ (q d : Int) (v : Value) (l : List Int) (z : Int), e = .returned (.tuple #[.agg #[.int .i64 q, .int .i64 d, v], .int .i64 z]) ∧ Sl w' v l ∧ LeastIs p k q d l z ∧ Below w.heap.size w w' := by
  by_cases h0 : ordZ p k = 0
  · have HO : Hid (ordZ p k = 0) := h0
    have hbb : (ordZ p k == 0) = true := by simp [h0]
    clear h0
    go_enter Tryd.func28, Tryd.ntmps28
    go_wp2_with (go_at_call 57; refine (order_any p k _ (hT.alloc _)).mono ?_; rintro e w' ⟨rfl, rfl⟩)
    exact bodyPost_ret (v := .tuple #[.agg #[.int .i64 0, .int .i64 0, .slice none 0 0], .int .i64 1]) (by simp [results, Tryd.results28, go_sem]) rfl ⟨0, 0, _, [], 1, rfl, Sl.nil _, .inl ⟨HO.out, rfl, rfl, rfl, rfl⟩, (Below.refl _ _).alloc (Nat.le_refl _) _⟩
  · obtain ⟨P, K, rfl, rfl, hP, hP', hK, hK', hPK, hq⟩ := ord_nat h0
    have HN0 : Hid (ordZ (P : Int) K ≠ 0) := h0
    obtain ⟨Q, HQ⟩ : ∃ Q : Nat, Hid (Q = P ^ K) := ⟨_, rfl⟩
    rw [← HQ.out] at hq
    have hQ64 : Q ≤ 64 := by rw [HQ.out]; exact hPK
    have hQ0 : 0 < Q := by rw [HQ.out]; exact Nat.pow_pos (by omega)
    have hbb : ((Q : Int) == 0) = false := by simp; omega
    clear h0
    go_enter Tryd.func28, Tryd.ntmps28
    go_wp2_with (go_at_call 57; refine (order_any P K _ (hT.alloc _)).mono ?_; rintro e w' ⟨rfl, rfl⟩)
    go_loopw [7] (fun i wr => ∃ n : Nat, i = .int .i64 n ∧ Q ≤ n ∧ n ≤ 2 * Q ∧ Hid (∀ m, m < n - Q → ¬ goodAt P K m) ∧ FB wr w.heap.size 0 0 (.slice none 0 0) ∧ Below w.heap.size w wr) (fun i _ => (2 * Q - intOf i).toNat)
    case atStart => exact ⟨Q, rfl, by omega, by omega, (fun m hm => by omega : ∀ m, m < Q - Q → _), FB.made w 0 0 (.slice none 0 0), (Below.refl _ _).alloc (Nat.le_refl _) _⟩
    case round =>
      obtain ⟨n, rfl, hn1, hn2, HG, hF, hb⟩ := hrel
      by_cases hlt : n < 2 * Q
      · have hdec : decide ((n : Int) < 2 * Q) = true := by simp; omega
        go_wp2_with fail
        refine (polyOf_any n P _ (by omega) hP (by omega)).mono ?_
        rintro e w1 ⟨rfl, hb1⟩
        have hF1 := hF.below hb1
        have hb1' : Below w.heap.size w w1 := hb.trans (hb1.mono hb.size)
        have hFl := hF1.lt
        have hnew := Row.made0 w1
        go_wp2_with (first
          | (refine wpList_store_row rfl 93 _ _ rfl w1.heap.size (prow (digF n P)) rfl rfl 93 _ hnew (inf51 _) (by simp) (prow_one _) ?_)
          | (refine wpList_load_row rfl 93 _ rfl w1.heap.size rfl 93 _ (0, 0) _ (hnew.whole (digF n P)) und51 rfl (inf51 _) ?_))
        refine (irreducible_any (digF n P) K P _ hP (by omega) hK hPK (digF_in n P (by omega))).mono ?_
        rintro e w2 ⟨r, rfl, hr, hb2⟩
        have hbA : Below w1.heap.size w1 ((w1.alloc (.cells #[.int .i64 0, .int .i64 0, .int .i64 0, .int .i64 0, .int .i64 0, .int .i64 0, .int .i64 0, .int .i64 0, .int .i64 0, .int .i64 0, .int .i64 0] 93)).setRow w1.heap.size (prow (digF n P))) := bsetRow ((Below.refl _ _).alloc (Nat.le_refl _) _) (Nat.le_refl _) _
        have hF2 := (hF1.below hbA).below hb2
        have hR2 := (hnew.whole (digF n P)).below hb2
        have hb12 : Below w.heap.size w w2 := (hb1'.trans (hbA.mono hb1'.size)).trans (hb2.mono (hb1'.trans (hbA.mono hb1'.size)).size)
        have HE : Hid (n = P ^ K + (n - Q)) := by
          show n = P ^ K + (n - Q)
          rw [← HQ.out]; omega
        have HR : Hid (r = true ↔ goodAt P K (n - Q)) := by
          show r = true ↔ irrP (digF (P ^ K + (n - Q)) P) K P
          rw [← HE.out]; exact hr
        clear hr hnew
        cases r
        · go_wp2
          go_roundw
          case rel =>
            refine ⟨n + 1, by go_num, by omega, by omega, (fun m hm => ?_ : ∀ m, m < n + 1 - Q → _), hF2, hb12⟩
            by_cases e : m = n - Q
            · subst e; exact fun h => absurd (HR.out.2 h) Bool.false_ne_true
            · exact HG.out m (by omega)
          case measure => simp [intOf]; omega
        · go_wp2_with (refine wpList_load_row rfl 93 _ rfl w1.heap.size rfl 93 _ (0, 0) _ hR2 und51 rfl (inf51 _) ?_)
          refine (low_any (digF n P) K _ hK (by omega)).mono ?_
          rintro e w3 ⟨g, cap, rfl, hgw, hO, hb3⟩
          have hF3 := hF2.below hb3
          have hb13 : Below w.heap.size w w3 := hb12.trans (hb3.mono hb12.size)
          have hFc := (hF3.whole P K (.slice (some ⟨g, 0, none⟩) K cap)).cells
          have hlt2 := hF2.lt
          go_wp2_with (refine wpList_store_row rfl 24 _ _ rfl w.heap.size #[.int .i64 P, .int .i64 K, .slice (some ⟨g, 0, none⟩) K cap] rfl rfl 24 _ hF3 inf24 rfl (one3 _ _ _ rfl) ?_)
          refine bodyPost_ret (v := .tuple #[.agg #[.int .i64 P, .int .i64 K, .slice (some ⟨g, 0, none⟩) K cap], .int .i64 0]) (by simp [results, Tryd.results28, go_sem, hFc]) rfl ⟨P, K, _, digL (n - Q) P K, 0, rfl, ?_, .inr ⟨P, K, rfl, rfl, HN0.out, .inl ⟨n - Q, by rw [← HQ.out]; omega, HR.out.1 (by trivial), HG.out, rfl, rfl, rfl, rfl⟩⟩, bsetRow hb13 (Nat.le_refl _) _⟩
          have hs := (hO.rowOther w.heap.size #[.int .i64 P, .int .i64 K, .slice (some ⟨g, 0, none⟩) K cap] (by omega)).sl cap
          have e : (List.range K).map (digF n P) = digL (n - Q) P K := by
            unfold digL
            apply List.map_congr_left
            intro t ht
            conv => lhs; rw [HE.out]
            exact digF_low (n - Q) P K t hP (by simpa using ht)
          rw [e] at hs
          exact hs
      · have hFc := (hF.whole 0 0 (.slice none 0 0)).cells
        go_wp2_with (refine wpList_store_row rfl 24 _ _ rfl w.heap.size #[.int .i64 0, .int .i64 0, .slice none 0 0] rfl rfl 24 _ hF inf24 rfl (one3 _ _ _ rfl) ?_)
        refine bodyPost_ret (v := .tuple #[.agg #[.int .i64 0, .int .i64 0, .slice none 0 0], .int .i64 4]) (by simp [results, Tryd.results28, go_sem, hFc]) rfl ⟨0, 0, _, [], 4, rfl, Sl.nil _, .inr ⟨P, K, rfl, rfl, HN0.out, .inr ⟨fun m hm => HG.out m (by rw [← HQ.out] at hm; omega), rfl, rfl, rfl, rfl⟩⟩, bsetRow hb (Nat.le_refl _) _⟩

end Go.Proofs.YtjfjdidibglhaabDoor.Fd
