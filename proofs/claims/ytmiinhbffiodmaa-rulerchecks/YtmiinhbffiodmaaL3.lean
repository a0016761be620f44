/- The law RulerChecks. -/
import Derived.Test.YtmiinhbffiodmaaG7
import Derived.Test.YtmiinhbffiodmaaR2
namespace Go.Proofs.Ytmiinhbffiodmaa
open Go.RowKit Go.Maps

/-- What is told of marks: whether they are a ruler, and what is wrong. -/
structure TellM (u : Value) (q : Bool) (z : Nat) (w : World) : Prop where
  fault : ∀ W, Below w.heap.size w W → Calls Try.prog 5 #[u] W fun e w' => e = .returned (.int .i64 (z : Int)) ∧ Below W.heap.size W w'
  check : ∀ W, Below w.heap.size w W → Calls Try.prog 6 #[u] W fun e w' => e = .returned (.tuple #[.bool q, .int .i64 (z : Int)]) ∧ Below W.heap.size W w'
  doc : z = 0 → ∀ W, Below w.heap.size w W → Calls Try.prog 7 #[u] W fun e w' => e = .returned (.bool q) ∧ Below W.heap.size W w'
  no : z ≠ 0 → q = false
structure TellS (u : Value) (v : Int) (q : Bool) (z : Nat) (w : World) : Prop where
  fault : ∀ W, Below w.heap.size w W → Calls Try.prog 8 #[.int .i64 v, u] W fun e w' => e = .returned (.int .i64 (z : Int)) ∧ Below W.heap.size W w'
  check : ∀ W, Below w.heap.size w W → Calls Try.prog 9 #[u, .int .i64 v] W fun e w' => e = .returned (.tuple #[.bool q, .int .i64 (z : Int)]) ∧ Below W.heap.size W w'
  doc : z = 0 → ∀ W, Below w.heap.size w W → Calls Try.prog 10 #[u, .int .i64 v] W fun e w' => e = .returned (.bool q) ∧ Below W.heap.size W w'
  no : z ≠ 0 → q = false
theorem tellM (b : List Int) (u : Value) (w : World) (hu : Sl w u b) : ∃ q z, TellM u q z w := by
  by_cases hm : mF b = 0
  · obtain ⟨D, rfl, hD⟩ := mF_good hm
    refine ⟨golB D, 0, ⟨fun W hW => ?_, fun W hW => Check_good D u W (hu.below hW) hD hm, fun _ W hW => Golomb_any D u W (hu.below hW) hD.few hD.le, fun h => absurd rfl h⟩⟩
    have h := MarksFault_any _ u W (hu.below hW)
    rw [hm] at h
    exact h
  · exact ⟨false, mF b, ⟨fun W hW => MarksFault_any b u W (hu.below hW), fun W hW => Check_bad b u W (hu.below hW) hm, fun h => absurd h hm, fun _ => rfl⟩⟩
theorem tellS (p : Int) (b : List Int) (a : Option Addr) (cap n : Nat) (w : World) (hu : Sl w (.slice a n cap) b) (hbl : b.length ≤ maxLen) (hcap : n ≤ cap) : ∃ q z, TellS (.slice a n cap) p q z w := by
  by_cases hm : sF p b = 0
  · obtain ⟨V, D, rfl, rfl, hD⟩ := sF_good hm
    have hn : n = D.length := by
      obtain ⟨a', c', e, _⟩ := hu
      simp only [Value.slice.injEq] at e
      rw [e.2.1, List.length_map]
    subst hn
    have hlen := hD.len
    have hle := hD.le
    refine ⟨sidB V D, 0, ⟨fun W hW => ?_, fun W hW => Sidon_good V D a cap W (hu.below hW) hcap hD, fun _ W hW => SidonOf_any V D _ W hD.pos hD.le (hu.below hW) (by omega) hD.lt, fun h => absurd rfl h⟩⟩
    have h := SetFaultS_any V _ _ W (hu.below hW) hbl
    rw [hm] at h
    exact h
  · exact ⟨false, sF p b, ⟨fun W hW => SetFaultS_any p b _ W (hu.below hW) hbl, fun W hW => Sidon_bad p b _ W (hu.below hW) hbl hm, fun h => absurd h hm, fun _ => rfl⟩⟩
set_option maxRecDepth 100000 in
set_option maxHeartbeats 8000000 in
theorem checks_walk (ua : Option Addr) (un uc : Nat) (va : Option Addr) (vn vc : Nat) (p : Int) (q1 q2 : Bool) (z1 z2 : Nat) (w : World) (h1 : TellM (.slice ua un uc) q1 z1 w) (h2 : TellS (.slice va vn vc) p q2 z2 w) :
    Calls Try.prog 3 #[.slice ua un uc, .slice va vn vc, .int .i64 p] w fun e w' => e = .returned (.bool true) ∧ Below w.heap.size w w' := by
  obtain ⟨f1, c1, d1, n1⟩ := h1
  obtain ⟨f2, c2, d2, n2⟩ := h2
  have F1 := f1 w (Below.refl _ _)
  have C1 : Hid (∀ W, Below w.heap.size w W → Calls Try.prog 6 #[.slice ua un uc] W fun e w' => e = .returned (.tuple #[.bool q1, .int .i64 (z1 : Int)]) ∧ Below W.heap.size W w') := c1
  have F2 : Hid (∀ W, Below w.heap.size w W → Calls Try.prog 8 #[.int .i64 p, .slice va vn vc] W fun e w' => e = .returned (.int .i64 (z2 : Int)) ∧ Below W.heap.size W w') := f2
  have C2 : Hid (∀ W, Below w.heap.size w W → Calls Try.prog 9 #[.slice va vn vc, .int .i64 p] W fun e w' => e = .returned (.tuple #[.bool q2, .int .i64 (z2 : Int)]) ∧ Below W.heap.size W w') := c2
  have e1 : ((z1 : Int) != (z1 : Int)) = false := by simp
  have e2 : ((z2 : Int) != (z2 : Int)) = false := by simp
  have e3 : ∀ b : Bool, (b != b) = false := fun b => by simp
  have e4 : ∀ b : Bool, (b == b) = true := fun b => by simp
  clear f1 c1 f2 c2
  by_cases hz1 : z1 = 0
  · have D1 : Hid (∀ W, Below w.heap.size w W → Calls Try.prog 7 #[.slice ua un uc] W fun e w' => e = .returned (.bool q1) ∧ Below W.heap.size W w') := d1 hz1
    subst hz1
    clear d1 n1
    by_cases hz2 : z2 = 0
    · have D2 : Hid (∀ W, Below w.heap.size w W → Calls Try.prog 10 #[.slice va vn vc, .int .i64 p] W fun e w' => e = .returned (.bool q2) ∧ Below W.heap.size W w') := d2 hz2
      subst hz2
      clear d2 n2
      go_enter Try.func3, Try.ntmps3
      go_wp2_with (first
        | (go_at_call 5; refine F1.mono ?_; rintro e w1 ⟨rfl, b1⟩; clear F1)
        | (go_at_call 6; refine (C1.out _ b1).mono ?_; rintro e w2 ⟨rfl, b2⟩; clear C1; replace b2 := Below.next b1 b2)
        | (go_at_call 7; refine (D1.out _ b2).mono ?_; rintro e w3 ⟨rfl, b3⟩; clear D1; replace b3 := Below.next b2 b3)
        | (go_at_call 8; refine (F2.out _ b3).mono ?_; rintro e w4 ⟨rfl, b4⟩; clear F2; replace b4 := Below.next b3 b4)
        | (go_at_call 9; refine (C2.out _ b4).mono ?_; rintro e w5 ⟨rfl, b5⟩; clear C2; replace b5 := Below.next b4 b5)
        | (go_at_call 10; refine (D2.out _ b5).mono ?_; rintro e w6 ⟨rfl, b6⟩; clear D2; replace b6 := Below.next b5 b6))
      go_ret
      exact ⟨by simp, b6⟩
    · have hn2 := n2 hz2
      subst hn2
      have k1 : ((z2 : Int) == 0) = false := by simp; omega
      have k2 : ¬ (z2 : Int) = 0 := by omega
      clear d2 n2
      go_enter Try.func3, Try.ntmps3
      go_wp2_with (first
        | (go_at_call 5; refine F1.mono ?_; rintro e w1 ⟨rfl, b1⟩; clear F1)
        | (go_at_call 6; refine (C1.out _ b1).mono ?_; rintro e w2 ⟨rfl, b2⟩; clear C1; replace b2 := Below.next b1 b2)
        | (go_at_call 7; refine (D1.out _ b2).mono ?_; rintro e w3 ⟨rfl, b3⟩; clear D1; replace b3 := Below.next b2 b3)
        | (go_at_call 8; refine (F2.out _ b3).mono ?_; rintro e w4 ⟨rfl, b4⟩; clear F2; replace b4 := Below.next b3 b4)
        | (go_at_call 9; refine (C2.out _ b4).mono ?_; rintro e w5 ⟨rfl, b5⟩; clear C2; replace b5 := Below.next b4 b5))
      go_ret
      exact ⟨by simp, b5⟩
  · have hn1 := n1 hz1
    subst hn1
    have k1 : ((z1 : Int) == 0) = false := by simp; omega
    have k2 : ¬ (z1 : Int) = 0 := by omega
    clear d1 n1
    by_cases hz2 : z2 = 0
    · have D2 : Hid (∀ W, Below w.heap.size w W → Calls Try.prog 10 #[.slice va vn vc, .int .i64 p] W fun e w' => e = .returned (.bool q2) ∧ Below W.heap.size W w') := d2 hz2
      subst hz2
      clear d2 n2
      go_enter Try.func3, Try.ntmps3
      go_wp2_with (first
        | (go_at_call 5; refine F1.mono ?_; rintro e w1 ⟨rfl, b1⟩; clear F1)
        | (go_at_call 6; refine (C1.out _ b1).mono ?_; rintro e w2 ⟨rfl, b2⟩; clear C1; replace b2 := Below.next b1 b2)
        | (go_at_call 8; refine (F2.out _ b2).mono ?_; rintro e w4 ⟨rfl, b4⟩; clear F2; replace b4 := Below.next b2 b4)
        | (go_at_call 9; refine (C2.out _ b4).mono ?_; rintro e w5 ⟨rfl, b5⟩; clear C2; replace b5 := Below.next b4 b5)
        | (go_at_call 10; refine (D2.out _ b5).mono ?_; rintro e w6 ⟨rfl, b6⟩; clear D2; replace b6 := Below.next b5 b6))
      go_ret
      exact ⟨by simp, b6⟩
    · have hn2 := n2 hz2
      subst hn2
      have k3 : ((z2 : Int) == 0) = false := by simp; omega
      have k4 : ¬ (z2 : Int) = 0 := by omega
      clear d2 n2
      go_enter Try.func3, Try.ntmps3
      go_wp2_with (first
        | (go_at_call 5; refine F1.mono ?_; rintro e w1 ⟨rfl, b1⟩; clear F1)
        | (go_at_call 6; refine (C1.out _ b1).mono ?_; rintro e w2 ⟨rfl, b2⟩; clear C1; replace b2 := Below.next b1 b2)
        | (go_at_call 8; refine (F2.out _ b2).mono ?_; rintro e w4 ⟨rfl, b4⟩; clear F2; replace b4 := Below.next b2 b4)
        | (go_at_call 9; refine (C2.out _ b4).mono ?_; rintro e w5 ⟨rfl, b5⟩; clear C2; replace b5 := Below.next b4 b5))
      go_ret
      exact ⟨by simp, b5⟩
/-- A slice has room for what it has. -/
def Room (u : Value) : Prop := ∀ a n c, u = .slice a n c → n ≤ c
theorem checks_law (p : Int) (b1 b2 : List Int) (u v : Value) (w : World) (hu : Sl w u b1) (hv : Sl w v b2) (hr : Room v) (hl2 : b2.length ≤ maxLen) :
    Calls Try.prog 3 #[u, v, .int .i64 p] w fun e w' => e = .returned (.bool true) ∧ Below w.heap.size w w' := by
  obtain ⟨q1, z1, h1⟩ := tellM b1 u w hu
  obtain ⟨ua, uc, rfl, _⟩ := id hu
  obtain ⟨va, vc, rfl, _⟩ := id hv
  obtain ⟨q2, z2, h2⟩ := tellS p b2 va vc _ w hv hl2 (hr _ _ _ rfl)
  exact checks_walk ua _ uc va _ vc p q1 q2 z1 z2 w h1 h2

end Go.Proofs.Ytmiinhbffiodmaa
