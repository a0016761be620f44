/- The law RulerBest. -/
import Derived.Test.YtmiinhbffiodmaaG10
import Derived.Test.YtmiinhbffiodmaaP14
namespace Go.Proofs.Ytmiinhbffiodmaa
open Go.RowKit Go.Maps

theorem best_len (n : Nat) (h : n ≤ 7) : (bestL n).length ≤ 7 := by
  have : ∀ m : Fin 8, (bestL m.val).length ≤ 7 := by decide +kernel
  exact this ⟨n, by omega⟩
set_option maxRecDepth 100000 in
set_option maxHeartbeats 8000000 in
theorem best_walk (n : Int) (z : Int) (L : List Int) (w : World) (hL : L.length ≤ 7)
    (h1 : Calls Try.prog 11 #[.int .i64 n] w fun e w' => ∃ x, e = .returned (.tuple #[x, .int .i64 z]) ∧ Sl w' x L ∧ Below w.heap.size w w')
    (h2 : ∀ W : World, Calls Try.prog 12 #[.int .i64 n] W fun e w' => ∃ x, e = .returned (.tuple #[x, .int .i64 z]) ∧ Sl w' x L ∧ Below W.heap.size W w') :
    Calls Try.prog 4 #[.int .i64 n] w fun e w' => e = .returned (.bool true) ∧ Below w.heap.size w w' := by
  have HI : Hid (∀ (W : World) (x y : Value), Sl W x L → Sl W y L → Calls Try.prog 13 #[x, y] W fun e w' => e = .returned (.bool true) ∧ Below W.heap.size W w') := fun W x y hx hy => by
    have h := ints_any L L x y W hx hy (by unfold maxLen; omega) (by unfold maxLen; omega)
    refine h.mono ?_
    rintro e w' he
    simpa using he
  have H2 : Hid (∀ W : World, Calls Try.prog 12 #[.int .i64 n] W fun e w' => ∃ x, e = .returned (.tuple #[x, .int .i64 z]) ∧ Sl w' x L ∧ Below W.heap.size W w') := h2
  have hzz : (z == z) = true := by simp
  clear h2
  go_enter Try.func4, Try.ntmps4
  go_wp2_with (first
    | (go_at_call 11; refine h1.mono ?_; rintro e w1 ⟨x, rfl, hx, b1⟩; obtain ⟨xa, xc, rfl, hx'⟩ := id hx; have HX : Hid (Sl w1 (.slice xa L.length xc) L) := hx; clear h1 hx hx')
    | (go_at_call 12; refine (H2.out _).mono ?_; rintro e w2 ⟨y, rfl, hy, b2⟩; obtain ⟨ya, yc, rfl, hy'⟩ := id hy; have HY : Hid (Sl w2 (.slice ya L.length yc) L) := hy; have HX2 : Hid (Sl w2 (.slice xa L.length xc) L) := HX.out.below b2; have b12 := Below.next b1 b2; clear H2 hy hy' HX b1 b2)
    | (go_at_call 13; refine (HI.out _ _ _ HX2.out HY.out).mono ?_; rintro e w3 ⟨rfl, b3⟩; have b13 := Below.next b12 b3; clear HI b12 b3))
  go_ret
  exact ⟨rfl, b13⟩
theorem best_law (n : Int) (w : World) : Calls Try.prog 4 #[.int .i64 n] w fun e w' => e = .returned (.bool true) ∧ Below w.heap.size w w' := by
  by_cases h : n < 1 ∨ 7 < n
  · refine best_walk n 1 [] w (by simp) ((Best_none n w h).mono ?_) (fun W => (BestOf_none n W h).mono ?_)
    · rintro e w' ⟨rfl, hb⟩
      exact ⟨_, rfl, Sl.nil _, hb⟩
    · rintro e w' ⟨rfl, hb⟩
      exact ⟨_, rfl, Sl.nil _, hb⟩
  · obtain ⟨N, rfl⟩ : ∃ N : Nat, n = N := ⟨n.toNat, by omega⟩
    refine best_walk N 0 ((bestL N).map Int.ofNat) w (by rw [List.length_map]; exact best_len N (by omega)) ((Best_main N w (by omega) (by omega)).mono ?_) (fun W => (BestOf_main N W (by omega) (by omega)).mono ?_)
    · rintro e w' ⟨b, cap, rfl, hO, hb⟩
      exact ⟨_, rfl, hO.sl, hb⟩
    · rintro e w' ⟨x, rfl, hx, hb⟩
      exact ⟨_, rfl, hx, hb⟩

end Go.Proofs.Ytmiinhbffiodmaa
