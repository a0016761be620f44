/- The law PermPairs, walked. -/
import Derived.Test.YteocfkkdjejgdaaP21
import Derived.Test.YteocfkkdjejgdaaP26
import Derived.Test.YteocfkkdjejgdaaP7
namespace Go.Proofs.Yteocfkkdjejgdaa
open Go.RowKit

set_option maxRecDepth 100000 in
set_option maxHeartbeats 2000000 in
theorem law4_any (l m : List Int) (v u : Value) (w : World) (hl : Sl w v l) (hll : l.length ≤ maxLen) (hm : Sl w u m) (hml : m.length ≤ maxLen) :
    Calls Try.prog 4 #[v, u] w fun e w' => e = .returned (.bool true) ∧ Below w.heap.size w w' := by
  have C1 := PermFault_any l v w hl hll
  have C2 := fun A (h : Below w.heap.size w A) => PermFault_any m u A (hm.below h) hml
  obtain ⟨x, Hx⟩ : ∃ x, Hid (pF l = x) := ⟨_, rfl⟩
  obtain ⟨y, Hy⟩ : ∃ y, Hid (pF m = y) := ⟨_, rfl⟩
  obtain ⟨z, Hz⟩ : ∃ z, Hid (p2F l m = z) := ⟨_, rfl⟩
  have HZ : Hid (z = if x ≠ 0 then x else if y ≠ 0 then y else if l.length ≠ m.length then 2 else 0) := by
    show z = _
    rw [← Hz.out, ← Hx.out, ← Hy.out]; rfl
  rw [Hx.out] at C1
  rw [Hy.out] at C2
  by_cases hz : z = 0
  · obtain ⟨n, f, g, hn, P, Q, rfl, rfl⟩ := p2F_ok (by rw [Hz.out]; exact hz : p2F l m = 0)
    have hx : x = 0 := by rw [← Hx.out]; exact pF_pl P hn
    have hy : y = 0 := by rw [← Hy.out]; exact pF_pl Q hn
    subst hx hy
    obtain ⟨va, vc, hve⟩ : ∃ a c, v = .slice a n c := hl.len (pl_len n f)
    obtain ⟨ua, uc, hue⟩ : ∃ a c, u = .slice a n c := hm.len (pl_len n g)
    subst hve hue
    have C3 := fun A (h : Below w.heap.size w A) => Compose_ok n f g _ _ A hn (hl.below h) (hm.below h) P Q
    have C4 := fun A (h : Below w.heap.size w A) => Alike_ok n f g _ _ A hn (hl.below h) (hm.below h) P Q
    have C5 := fun A (h : Below w.heap.size w A) => Then_any n f g _ _ A hn (hl.below h) (hm.below h) P.lt
    have C6 := fun A y y' (h1 : Sl A y (pl n fun i => g (f i))) (h2 : Sl A y' (pl n fun i => g (f i))) => ints_yes _ _ y y' A h1 h2 (by rw [pl_len]; omega) rfl
    have C7 := fun A (h : Below w.heap.size w A) => Lengths_any n f _ A hn (hl.below h) P
    have C8 := fun A (h : Below w.heap.size w A) => Lengths_any n g _ A hn (hm.below h) Q
    have C9 := fun A y y' (h1 : Sl A y (pl (n + 1) (lenC n f))) (h2 : Sl A y' (pl (n + 1) (lenC n g))) => ints_dec _ _ y y' A h1 h2 (by rw [pl_len]; omega) (by rw [pl_len]; omega)
    rw [← alike_len P Q hn] at C9
    obtain ⟨al, Hal⟩ : ∃ b, Hid (alikeB n f g = b) := ⟨_, rfl⟩
    rw [Hal.out] at C4 C9
    have hnn : ((n : Int) != (n : Int)) = false := by simp
    have hal : (al == al) = true := by simp
    clear P Q hl hm hz HZ
    go_enter Try.func4, Try.ntmps4
    go_wp2_with (first
      | (go_at_call 7; refine C1.mono ?_; rintro e w1 ⟨rfl, b1⟩; clear C1)
      | (go_at_call 7; refine (C2 _ b1).mono ?_; rintro e w2 ⟨rfl, b2⟩; clear C2; replace b2 := Below.next b1 b2)
      | (go_at_call 18; refine (C3 _ b2).mono ?_; rintro e w3 ⟨y3, rfl, hy3, b3⟩; clear C3; replace b3 := Below.next b2 b3)
      | (go_at_call 19; refine (C4 _ b3).mono ?_; rintro e w4 ⟨rfl, b4⟩; replace hy3 := hy3.below b4; replace b4 := Below.next b3 b4)
      | (go_at_call 20; refine (C5 _ b4).mono ?_; rintro e w5 ⟨y5, rfl, hy5, b5⟩; replace hy5 := own_pl hy5; replace hy3 := hy3.below b5; replace b5 := Below.next b4 b5)
      | (go_at_call 14; refine (C6 _ _ _ hy3 hy5).mono ?_; rintro e w6 ⟨rfl, b6⟩; clear C6; replace b6 := Below.next b5 b6)
      | (go_at_call 21; refine (C7 _ b6).mono ?_; rintro e w7 ⟨y7, rfl, hy7, b7⟩; clear C7; replace b7 := Below.next b6 b7)
      | (go_at_call 21; refine (C8 _ b7).mono ?_; rintro e w8 ⟨y8, rfl, hy8, b8⟩; clear C8; replace hy7 := hy7.below b8; replace b8 := Below.next b7 b8)
      | (go_at_call 14; refine (C9 _ _ _ hy7 hy8).mono ?_; rintro e w9 ⟨rfl, b9⟩))
    go_ret
    exact ⟨rfl, Below.next b8 b9⟩
  · have hzd : (z != 0) = true := by simpa using hz
    have hzz : (z != z) = false := by simp
    have C3 := fun A (h : Below w.heap.size w A) => Compose_bad l m v u A (hl.below h) (hm.below h) hll hml z Hz.out hz
    have C4 := fun A (h : Below w.heap.size w A) => Alike_bad l m v u A (hl.below h) (hm.below h) hll hml z Hz.out hz
    obtain ⟨va, vc, hve⟩ : ∃ a c, v = .slice a l.length c := hl.len rfl
    obtain ⟨ua, uc, hue⟩ : ∃ a c, u = .slice a m.length c := hm.len rfl
    subst hve hue
    clear hl hm
    by_cases hx : x = 0
    · subst hx
      by_cases hy : y = 0
      · subst hy
        by_cases hlm : l.length = m.length
        · exact absurd (by rw [HZ.out]; simp [hlm]) hz
        · have hd : ((l.length : Int) != (m.length : Int)) = true := by simp; omega
          have hz2 : z = 2 := by rw [HZ.out]; simp [hlm]
          subst hz2
          clear hlm hz
          go_enter Try.func4, Try.ntmps4
          go_wp2_with (first
            | (go_at_call 7; refine C1.mono ?_; rintro e w1 ⟨rfl, b1⟩; clear C1)
            | (go_at_call 7; refine (C2 _ b1).mono ?_; rintro e w2 ⟨rfl, b2⟩; clear C2; replace b2 := Below.next b1 b2)
            | (go_at_call 18; refine (C3 _ b2).mono ?_; rintro e w3 ⟨rfl, b3⟩; clear C3; replace b3 := Below.next b2 b3)
            | (go_at_call 19; refine (C4 _ b3).mono ?_; rintro e w4 ⟨rfl, b4⟩))
          go_ret
          exact ⟨rfl, Below.next b3 b4⟩
      · have hd : (y == 0) = false := by simpa using hy
        have hzy : z = y := by rw [HZ.out]; simp [hy]
        subst hzy
        clear hy hz
        go_enter Try.func4, Try.ntmps4
        go_wp2_with (first
          | (go_at_call 7; refine C1.mono ?_; rintro e w1 ⟨rfl, b1⟩; clear C1)
          | (go_at_call 7; refine (C2 _ b1).mono ?_; rintro e w2 ⟨rfl, b2⟩; clear C2; replace b2 := Below.next b1 b2)
          | (go_at_call 18; refine (C3 _ b2).mono ?_; rintro e w3 ⟨rfl, b3⟩; clear C3; replace b3 := Below.next b2 b3)
          | (go_at_call 19; refine (C4 _ b3).mono ?_; rintro e w4 ⟨rfl, b4⟩))
        go_ret
        exact ⟨rfl, Below.next b3 b4⟩
    · have hd : (x == 0) = false := by simpa using hx
      have hzx : z = x := by rw [HZ.out]; simp [hx]
      subst hzx
      clear hx hz
      go_enter Try.func4, Try.ntmps4
      go_wp2_with (first
        | (go_at_call 7; refine C1.mono ?_; rintro e w1 ⟨rfl, b1⟩; clear C1)
        | (go_at_call 18; refine (C3 _ b1).mono ?_; rintro e w3 ⟨rfl, b3⟩; clear C3; replace b3 := Below.next b1 b3)
        | (go_at_call 19; refine (C4 _ b3).mono ?_; rintro e w4 ⟨rfl, b4⟩))
      go_ret
      exact ⟨rfl, Below.next b3 b4⟩

end Go.Proofs.Yteocfkkdjejgdaa
