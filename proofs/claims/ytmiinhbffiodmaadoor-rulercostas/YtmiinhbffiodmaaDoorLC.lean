/- The law RulerCostas. -/
import Derived.Test.YtmiinhbffiodmaaDoorD7
import Derived.Test.YtmiinhbffiodmaaDoorD4
import Derived.Test.YtmiinhbffiodmaaDoorP7
import Derived.Test.YtmiinhbffiodmaaDoorP14
import Derived.Test.YtmiinhbffiodmaaDoorR3
import Derived.Test.YtmiinhbffiodmaaDoorR4b
import Derived.Test.YtmiinhbffiodmaaDoorR5
namespace Go.Proofs.YtmiinhbffiodmaaDoor
open Go.RowKit Go.Maps

/-- What is told of a list: whether it is Costas, and what is wrong. -/
structure TellC (u : Value) (q : Bool) (z : Int) (w : World) : Prop where
  fault : ∀ W, Below w.heap.size w W → Calls Tryd.prog 7 #[u] W fun e w' => e = .returned (.int .i64 z) ∧ Below W.heap.size W w'
  check : ∀ W, Below w.heap.size w W → Calls Tryd.prog 8 #[u] W fun e w' => e = .returned (.tuple #[.bool q, .int .i64 z]) ∧ Below W.heap.size W w'
  doc : z = 0 → ∀ W, Below w.heap.size w W → Calls Tryd.prog 9 #[u] W fun e w' => e = .returned (.bool q) ∧ Below W.heap.size W w'
  no : z ≠ 0 → q = false
theorem tellC (b : List Int) (u : Value) (w : World) (hu : Sl w u b) (hbl : b.length ≤ maxLen) : ∃ q z, TellC u q z w := by
  by_cases hm : pF b = 0
  · obtain ⟨n, f, hn, P, rfl⟩ := pF_ok hm
    refine ⟨cosB n f, 0, ⟨fun W hW => ?_, fun W hW => Costas_good n f u W (hu.below hW) hn P, fun _ W hW => ?_, fun h => absurd rfl h⟩⟩
    · have h := PermFault_any _ u W (hu.below hW) hbl
      rw [hm] at h
      exact h
    · have hs := hu.below hW
      rw [pl_of] at hs
      have h := CostasOf_any _ u W hs (by simp; omega) (fun x hx => by
        obtain ⟨i, hi, rfl⟩ := List.mem_map.1 hx
        have := P.lt i (List.mem_range.1 hi)
        omega)
      rw [List.length_map, List.length_range, cosB_congr (g := f) fun i hi => range_getD n f hi] at h
      exact h
  · exact ⟨false, pF b, ⟨fun W hW => PermFault_any b u W (hu.below hW) hbl, fun W hW => Costas_bad b u W (hu.below hW) hbl _ rfl hm, fun h => absurd h hm, fun _ => rfl⟩⟩
/-- What both make of a prime and a root. -/
structure TellW (p r : Int) (L : List Int) (z : Int) (w : World) : Prop where
  one : ∀ W, Below w.heap.size w W → Calls Tryd.prog 10 #[.int .i64 p, .int .i64 r] W fun e w' => ∃ x, e = .returned (.tuple #[x, .int .i64 z]) ∧ Sl w' x L ∧ Below W.heap.size W w'
  two : ∀ W, Below w.heap.size w W → Calls Tryd.prog 11 #[.int .i64 p, .int .i64 r] W fun e w' => ∃ x, e = .returned (.tuple #[x, .int .i64 z]) ∧ Sl w' x L ∧ Below W.heap.size W w'
  few : L.length ≤ 12
theorem tellW (p r : Int) (w : World) (hT : Fd.Tab w) : ∃ L z, TellW p r L z w := by
  by_cases h : p < 3 ∨ 13 < p
  · refine ⟨[], 1, ⟨fun W hW => (Welch_far p r W h).mono ?_, fun W hW => (WelchOf_far p r W h).mono ?_, by simp⟩⟩
    · rintro e w' ⟨rfl, hb⟩
      exact ⟨_, rfl, Sl.nil _, hb⟩
    · rintro e w' ⟨rfl, hb⟩
      exact ⟨_, rfl, Sl.nil _, hb⟩
  · obtain ⟨P, rfl⟩ : ∃ P : Nat, p = P := ⟨p.toNat, by omega⟩
    by_cases h2 : wP P = false ∨ r < 1 ∨ (P : Int) ≤ r
    · refine ⟨[], 1, ⟨fun W hW => (Welch_none P r W (hT.below hW) (by omega) (by omega) h2).mono ?_, fun W hW => (WelchOf_none P r W (by omega) (by omega) h2).mono ?_, by simp⟩⟩
      · rintro e w' ⟨rfl, hb⟩
        exact ⟨_, rfl, Sl.nil _, hb⟩
      · rintro e w' ⟨rfl, hb⟩
        exact ⟨_, rfl, Sl.nil _, hb⟩
    · obtain ⟨R, rfl⟩ : ∃ R : Nat, r = R := ⟨r.toNat, by omega⟩
      have hp : wP P = true := by
        cases e : wP P
        · exact absurd (.inl e) h2
        · rfl
      have hr1 : 1 ≤ R := by omega
      have hr2 : R < P := by omega
      by_cases hn : (weL P R (P - 1)).Nodup
      · refine ⟨pl (P - 1) (wlF P R), 0, ⟨fun W hW => (Welch_main P R W (hT.below hW) (by omega) (by omega) hp hr1 hr2).mono ?_, fun W hW => (WelchOf_main P R W (by omega) (by omega) hp hr1 hr2).mono ?_, by rw [pl_len]; omega⟩⟩
        · rintro e w' ⟨⟨h', _⟩ | ⟨_, x, rfl, hx⟩, hb⟩
          · exact absurd hn h'
          · exact ⟨x, rfl, hx, hb⟩
        · rintro e w' ⟨⟨h', _⟩ | ⟨_, x, rfl, hx⟩, hb⟩
          · exact absurd hn h'
          · refine ⟨x, rfl, ?_, hb⟩
            rw [pl_of]
            exact hx.sl
      · refine ⟨[], 4, ⟨fun W hW => (Welch_main P R W (hT.below hW) (by omega) (by omega) hp hr1 hr2).mono ?_, fun W hW => (WelchOf_main P R W (by omega) (by omega) hp hr1 hr2).mono ?_, by simp⟩⟩
        · rintro e w' ⟨⟨_, rfl⟩ | ⟨h', _⟩, hb⟩
          · exact ⟨_, rfl, Sl.nil _, hb⟩
          · exact absurd h' hn
        · rintro e w' ⟨⟨_, rfl⟩ | ⟨h', _⟩, hb⟩
          · exact ⟨_, rfl, Sl.nil _, hb⟩
          · exact absurd h' hn
/-- What both count. -/
structure TellN (n : Int) (y z : Int) : Prop where
  one : ∀ W : World, Calls Tryd.prog 13 #[.int .i64 n] W fun e w' => e = .returned (.tuple #[.int .i64 y, .int .i64 z]) ∧ Below W.heap.size W w'
  two : ∀ W : World, Calls Tryd.prog 14 #[.int .i64 n] W fun e w' => e = .returned (.tuple #[.int .i64 y, .int .i64 z]) ∧ Below W.heap.size W w'
theorem tellN (n : Int) : ∃ y z, TellN n y z := by
  by_cases h : n < 1 ∨ 7 < n
  · exact ⟨0, 1, ⟨fun W => Costases_none n W h, fun W => CostasesOf_none n W h⟩⟩
  · obtain ⟨N, rfl⟩ : ∃ N : Nat, n = N := ⟨n.toNat, by omega⟩
    exact ⟨_, 0, ⟨fun W => Costases_main N W (by omega) (by omega), fun W => CostasesOf_main N W (by omega) (by omega)⟩⟩
set_option maxRecDepth 100000 in
set_option maxHeartbeats 8000000 in
theorem costas_walk (p r n : Int) (u : Value) (q : Bool) (z1 z2 y3 z3 : Int) (L : List Int) (w : World) (h1 : TellC u q z1 w) (h2 : TellW p r L z2 w) (h3 : TellN n y3 z3) :
    Calls Tryd.prog 3 #[u, .int .i64 p, .int .i64 r, .int .i64 n] w fun e w' => e = .returned (.bool true) ∧ Below w.heap.size w w' := by
  have F1 := h1.fault w (Below.refl _ _)
  have C1 : Hid (∀ W, Below w.heap.size w W → Calls Tryd.prog 8 #[u] W fun e w' => e = .returned (.tuple #[.bool q, .int .i64 z1]) ∧ Below W.heap.size W w') := h1.check
  have W1 : Hid (∀ W, Below w.heap.size w W → Calls Tryd.prog 10 #[.int .i64 p, .int .i64 r] W fun e w' => ∃ x, e = .returned (.tuple #[x, .int .i64 z2]) ∧ Sl w' x L ∧ Below W.heap.size W w') := h2.one
  have W2 : Hid (∀ W, Below w.heap.size w W → Calls Tryd.prog 11 #[.int .i64 p, .int .i64 r] W fun e w' => ∃ x, e = .returned (.tuple #[x, .int .i64 z2]) ∧ Sl w' x L ∧ Below W.heap.size W w') := h2.two
  have N1 : Hid (∀ W : World, Calls Tryd.prog 13 #[.int .i64 n] W fun e w' => e = .returned (.tuple #[.int .i64 y3, .int .i64 z3]) ∧ Below W.heap.size W w') := h3.one
  have N2 : Hid (∀ W : World, Calls Tryd.prog 14 #[.int .i64 n] W fun e w' => e = .returned (.tuple #[.int .i64 y3, .int .i64 z3]) ∧ Below W.heap.size W w') := h3.two
  have hL := h2.few
  have HI : Hid (∀ (W : World) (x y : Value), Sl W x L → Sl W y L → Calls Tryd.prog 12 #[x, y] W fun e w' => e = .returned (.bool true) ∧ Below W.heap.size W w') := fun W x y hx hy => by
    have h := ints_any L L x y W hx hy (by unfold maxLen; omega) (by unfold maxLen; omega)
    refine h.mono ?_
    rintro e w' he
    simpa using he
  have k1 : (z1 != z1) = false := by simp
  have k2 : (z2 != z2) = false := by simp
  have k3 : (z3 == z3) = true := by simp
  have k4 : (y3 == y3) = true := by simp
  have k5 : (q != q) = false := by simp
  by_cases hz : z1 = 0
  · have D1 : Hid (∀ W, Below w.heap.size w W → Calls Tryd.prog 9 #[u] W fun e w' => e = .returned (.bool q) ∧ Below W.heap.size W w') := h1.doc hz
    subst hz
    clear h1 h2 h3
    go_enter Tryd.func3, Tryd.ntmps3
    go_wp2_with (first
      | (go_at_call 7; refine F1.mono ?_; rintro e w1 ⟨rfl, b1⟩; clear F1)
      | (go_at_call 8; refine (C1.out _ b1).mono ?_; rintro e w2 ⟨rfl, b2⟩; clear C1; replace b2 := Below.next b1 b2)
      | (go_at_call 9; refine (D1.out _ b2).mono ?_; rintro e w3 ⟨rfl, b3⟩; clear D1; replace b3 := Below.next b2 b3)
      | (go_at_call 10; refine (W1.out _ b3).mono ?_; rintro e w4 ⟨x, rfl, hx, b4⟩; obtain ⟨xa, xc, rfl, hx'⟩ := id hx; have HX : Hid (Sl w4 (.slice xa L.length xc) L) := hx; replace b4 := Below.next b3 b4; clear W1 hx hx')
      | (go_at_call 11; refine (W2.out _ b4).mono ?_; rintro e w5 ⟨y, rfl, hy, b5⟩; obtain ⟨ya, yc, rfl, hy'⟩ := id hy; have HY : Hid (Sl w5 (.slice ya L.length yc) L) := hy; have HX2 : Hid (Sl w5 (.slice xa L.length xc) L) := HX.out.below b5; replace b5 := Below.next b4 b5; clear W2 hy hy' HX)
      | (go_at_call 12; refine (HI.out _ _ _ HX2.out HY.out).mono ?_; rintro e w6 ⟨rfl, b6⟩; replace b6 := Below.next b5 b6; clear HI)
      | (go_at_call 13; refine (N1.out _).mono ?_; rintro e w7 ⟨rfl, b7⟩; replace b7 := Below.next b6 b7; clear N1)
      | (go_at_call 14; refine (N2.out _).mono ?_; rintro e w8 ⟨rfl, b8⟩; replace b8 := Below.next b7 b8; clear N2))
    go_ret
    exact ⟨by simp, b8⟩
  · have hq := h1.no hz
    subst hq
    have k6 : (z1 == 0) = false := by simpa using hz
    clear h1 h2 h3
    go_enter Tryd.func3, Tryd.ntmps3
    go_wp2_with (first
      | (go_at_call 7; refine F1.mono ?_; rintro e w1 ⟨rfl, b1⟩; clear F1)
      | (go_at_call 8; refine (C1.out _ b1).mono ?_; rintro e w2 ⟨rfl, b2⟩; clear C1; replace b2 := Below.next b1 b2)
      | (go_at_call 10; refine (W1.out _ b2).mono ?_; rintro e w4 ⟨x, rfl, hx, b4⟩; obtain ⟨xa, xc, rfl, hx'⟩ := id hx; have HX : Hid (Sl w4 (.slice xa L.length xc) L) := hx; replace b4 := Below.next b2 b4; clear W1 hx hx')
      | (go_at_call 11; refine (W2.out _ b4).mono ?_; rintro e w5 ⟨y, rfl, hy, b5⟩; obtain ⟨ya, yc, rfl, hy'⟩ := id hy; have HY : Hid (Sl w5 (.slice ya L.length yc) L) := hy; have HX2 : Hid (Sl w5 (.slice xa L.length xc) L) := HX.out.below b5; replace b5 := Below.next b4 b5; clear W2 hy hy' HX)
      | (go_at_call 12; refine (HI.out _ _ _ HX2.out HY.out).mono ?_; rintro e w6 ⟨rfl, b6⟩; replace b6 := Below.next b5 b6; clear HI)
      | (go_at_call 13; refine (N1.out _).mono ?_; rintro e w7 ⟨rfl, b7⟩; replace b7 := Below.next b6 b7; clear N1)
      | (go_at_call 14; refine (N2.out _).mono ?_; rintro e w8 ⟨rfl, b8⟩; replace b8 := Below.next b7 b8; clear N2))
    go_ret
    exact ⟨by simp, b8⟩
theorem costas_law (p r n : Int) (b : List Int) (u : Value) (w : World) (hT : Fd.Tab w) (hu : Sl w u b) (hbl : b.length ≤ maxLen) :
    Calls Tryd.prog 3 #[u, .int .i64 p, .int .i64 r, .int .i64 n] w fun e w' => e = .returned (.bool true) ∧ Below w.heap.size w w' := by
  obtain ⟨q, z1, h1⟩ := tellC b u w hu hbl
  obtain ⟨L, z2, h2⟩ := tellW p r w hT
  obtain ⟨y3, z3, h3⟩ := tellN n
  exact costas_walk p r n u q z1 z2 y3 z3 L w h1 h2 h3

end Go.Proofs.YtmiinhbffiodmaaDoor
