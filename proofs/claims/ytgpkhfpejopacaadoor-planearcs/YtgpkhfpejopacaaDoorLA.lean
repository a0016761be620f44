/- The law PlaneArcs. -/
import Derived.Test.YtgpkhfpejopacaaDoorK8
import Derived.Test.YtgpkhfpejopacaaDoorPA5
namespace Go.Proofs.YtgpkhfpejopacaaDoor
open Go.RowKit

set_option maxRecDepth 100000 in
set_option maxHeartbeats 8000000 in
theorem LArcs_bad (p : Int) (u lv : Value) (w : World) (z : Nat) (hz : z ≠ 0) (hu : ∃ a n c, u = .slice a n c) (hl : ∃ a n c, lv = .slice a n c)
    (h1 : ∀ W, Below w.heap.size w W → Calls Tryd.prog 16 #[.agg #[.int .i64 p, u]] W fun e w' => e = .returned (.tuple #[.int .i64 0, .int .i64 (z : Int)]) ∧ Below W.heap.size W w')
    (h2 : ∀ W, Below w.heap.size w W → Calls Tryd.prog 22 #[.agg #[.int .i64 p, u], lv] W fun e w' => e = .returned (.tuple #[.bool false, .int .i64 (z : Int)]) ∧ Below W.heap.size W w') :
    Calls Tryd.prog 5 #[.agg #[.int .i64 p, u], lv] w fun e w' => e = .returned (.bool true) ∧ Below w.heap.size w w' := by
  obtain ⟨a, n, c, rfl⟩ := hu
  obtain ⟨la, ln, lc, rfl⟩ := hl
  have HC : Hid (∀ W, Below (w.alloc (.cells #[.int .i64 p, .slice a n c] 29)).heap.size (w.alloc (.cells #[.int .i64 p, .slice a n c] 29)) W → W.cell? ⟨w.heap.size, 0, none⟩ = some (.int .i64 p) ∧ W.cell? ⟨w.heap.size, 1, none⟩ = some (.slice a n c)) := des_box p _ w
  obtain ⟨x0, x1⟩ := HC.out _ (Below.refl _ _)
  have b0 : Below w.heap.size w (w.alloc (.cells #[.int .i64 p, .slice a n c] 29)) := balloc _ _
  have C1 := h1 _ b0
  have H2 : Hid (∀ W, Below w.heap.size w W → Calls Tryd.prog 22 #[.agg #[.int .i64 p, .slice a n c], .slice la ln lc] W fun e w' => e = .returned (.tuple #[.bool false, .int .i64 (z : Int)]) ∧ Below W.heap.size W w') := h2
  have hz2 : ¬ (z : Int) = 0 := by omega
  have hz1 : ((z : Int) != 0) = true := by simpa using hz2
  have hze : ((z : Int) == (z : Int)) = true := by simp
  clear h1 h2
  go_enter Tryd.func5, Tryd.ntmps5
  go_wp2_with (first
    | (go_at_call 16; refine C1.mono ?_; rintro e w1 ⟨rfl, b1⟩; clear C1; obtain ⟨y0, y1⟩ := HC.out _ b1; replace b1 := Below.next b0 b1; have C2 := H2.out _ b1)
    | (go_at_call 22; refine C2.mono ?_; rintro e w2 ⟨rfl, b2⟩; clear C2; replace b2 := Below.next b1 b2))
  go_ret
  exact ⟨rfl, b2⟩
set_option maxRecDepth 100000 in
set_option maxHeartbeats 8000000 in
theorem LArcs_good (p : Int) (u lv : Value) (w : World) (r : Int) (z : Nat) (q : Bool) (hu : ∃ a n c, u = .slice a n c) (hl : ∃ a n c, lv = .slice a n c)
    (h1 : ∀ W, Below w.heap.size w W → Calls Tryd.prog 16 #[.agg #[.int .i64 p, u]] W fun e w' => e = .returned (.tuple #[.int .i64 r, .int .i64 0]) ∧ Below W.heap.size W w')
    (h2 : ∀ W, Below w.heap.size w W → Calls Tryd.prog 22 #[.agg #[.int .i64 p, u], lv] W fun e w' => e = .returned (.tuple #[.bool q, .int .i64 (z : Int)]) ∧ Below W.heap.size W w')
    (h3 : ∀ W, Below w.heap.size w W → Calls Tryd.prog 23 #[.agg #[.int .i64 p, u], lv] W fun e w' => e = .returned (.tuple #[.bool q, .int .i64 (z : Int)]) ∧ Below W.heap.size W w') :
    Calls Tryd.prog 5 #[.agg #[.int .i64 p, u], lv] w fun e w' => e = .returned (.bool true) ∧ Below w.heap.size w w' := by
  obtain ⟨a, n, c, rfl⟩ := hu
  obtain ⟨la, ln, lc, rfl⟩ := hl
  have HC : Hid (∀ W, Below (w.alloc (.cells #[.int .i64 p, .slice a n c] 29)).heap.size (w.alloc (.cells #[.int .i64 p, .slice a n c] 29)) W → W.cell? ⟨w.heap.size, 0, none⟩ = some (.int .i64 p) ∧ W.cell? ⟨w.heap.size, 1, none⟩ = some (.slice a n c)) := des_box p _ w
  obtain ⟨x0, x1⟩ := HC.out _ (Below.refl _ _)
  have b0 : Below w.heap.size w (w.alloc (.cells #[.int .i64 p, .slice a n c] 29)) := balloc _ _
  have C1 := h1 _ b0
  have H2 : Hid (∀ W, Below w.heap.size w W → Calls Tryd.prog 22 #[.agg #[.int .i64 p, .slice a n c], .slice la ln lc] W fun e w' => e = .returned (.tuple #[.bool q, .int .i64 (z : Int)]) ∧ Below W.heap.size W w') := h2
  have H3 : Hid (∀ W, Below w.heap.size w W → Calls Tryd.prog 23 #[.agg #[.int .i64 p, .slice a n c], .slice la ln lc] W fun e w' => e = .returned (.tuple #[.bool q, .int .i64 (z : Int)]) ∧ Below W.heap.size W w') := h3
  have hze : ((z : Int) == (z : Int)) = true := by simp
  clear h1 h2 h3
  cases q
  all_goals
    go_enter Tryd.func5, Tryd.ntmps5
    go_wp2_with (first
      | (go_at_call 16; refine C1.mono ?_; rintro e w1 ⟨rfl, b1⟩; clear C1; obtain ⟨y0, y1⟩ := HC.out _ b1; have b1a := b1; replace b1 := Below.next b0 b1; have C2 := H2.out _ b1)
      | (go_at_call 22; refine C2.mono ?_; rintro e w2 ⟨rfl, b2⟩; clear C2; obtain ⟨t0, t1⟩ := HC.out _ (Below.next b1a b2); replace b2 := Below.next b1 b2; have C3 := H3.out _ b2)
      | (go_at_call 23; refine C3.mono ?_; rintro e w3 ⟨rfl, b3⟩; clear C3; replace b3 := Below.next b2 b3))
    go_ret
    exact ⟨rfl, b3⟩
theorem rw_shape {w : World} {u : Value} {ls : List (List Int)} (hu : Rw w u ls) : ∃ a n c, u = .slice a n c := by obtain ⟨a, c, e, _⟩ := hu; exact ⟨a, _, c, e⟩
theorem PlaneArcs_law (p : Int) (ls : List (List Int)) (b : List Int) (u lv : Value) (w : World) (hT : Tab w) (hu : Rw w u ls) (hll : ∀ l ∈ ls, l.length ≤ maxLen) (hlm : ls.length ≤ maxLen) (hl : Sl w lv b) (hbl : b.length ≤ maxLen) :
    Calls Tryd.prog 5 #[.agg #[.int .i64 p, u], lv] w fun e w' => e = .returned (.bool true) ∧ Below w.heap.size w w' := by
  have hlf : ∃ a n c, lv = .slice a n c := by obtain ⟨a, c, e, _⟩ := hl; exact ⟨a, _, c, e⟩
  by_cases hd : dF p ls = 0
  · obtain ⟨v, B, rfl, rfl, G⟩ := dF_ok hd
    by_cases hp : PlP v B
    · obtain ⟨k, hk⟩ := hp.prp G.bls
      obtain ⟨b0, hb0⟩ := hp.ne
      refine LArcs_good v u lv w _ (bF (v : Int) b) (aqB v B b) (rw_shape hu) hlf (fun W hW => PlaneOrder_yes v B b0 u W G hd (hu.below hW) hlm hll hp hb0) (fun W hW => Arc_any v k B b u lv W (hT.next hW) G hd (hu.below hW) (hl.below hW) hbl hk) (fun W hW => ?_)
      refine ArcOf_any v B b (aqB v B b) u lv W G (hu.below hW) (hl.below hW) hbl (fun h W2 hW2 => ?_) (fun h => by unfold aqB; rw [if_neg h])
      obtain ⟨s, rfl, _, hs⟩ := bF_nat G.pos G.le h
      have e : (!aqB v B (s.map Int.ofNat)) = liB B s := by unfold aqB; rw [if_pos h, toNat_ofNat, Bool.not_not]
      rw [e]
      exact lined_any v B s u lv W2 G ((hu.below hW).below hW2) ((hl.below hW).below hW2) (by have := hs.le; have := G.le; omega)
    · have hz : PCz (v : Int) (toZ B) 4 := .inr ⟨v, B, rfl, rfl, G, hd, hp, rfl⟩
      exact LArcs_bad v u lv w 4 (by decide) (rw_shape hu) hlf (fun W hW => PlaneOrder_no v B u W G hd (hu.below hW) hlm hll hp) (fun W hW => Arc_bad _ _ 4 u lv W (hT.next hW) (hu.below hW) hlm hll hz)
  · have hz : PCz p ls (dF p ls) := .inl ⟨hd, rfl⟩
    exact LArcs_bad p u lv w (dF p ls) hd (rw_shape hu) hlf (fun W hW => PlaneOrder_bad p ls u W (hu.below hW) hlm hll hd) (fun W hW => Arc_bad _ _ _ u lv W (hT.next hW) (hu.below hW) hlm hll hz)

end Go.Proofs.YtgpkhfpejopacaaDoor
