/- The law PermGroup, walked. -/
import Derived.Test.YteocfkkdjejgdaaP10
import Derived.Test.YteocfkkdjejgdaaP26
namespace Go.Proofs.Yteocfkkdjejgdaa
open Go.RowKit

theorem sg_bd {n : Nat} {f : Nat → Nat} (P : Pm n f) (hn : n ≤ 12) : -1 ≤ sgI n f ∧ sgI n f ≤ 1 ∧ sgI n f * sgI n f = 1 := by
  rcases sgI_one n P (by omega) with h | h <;> rw [h] <;> decide

set_option maxRecDepth 100000 in
set_option maxHeartbeats 2000000 in
theorem law6_any (l m k : List Int) (v u x : Value) (w : World) (hl : Sl w v l) (hll : l.length ≤ maxLen) (hm : Sl w u m) (hml : m.length ≤ maxLen) (hk : Sl w x k) (hkl : k.length ≤ maxLen) :
    Calls Try.prog 6 #[v, u, x] w fun e w' => e = .returned (.bool true) ∧ Below w.heap.size w w' := by
  have C0 := turns_any w
  obtain ⟨z, Hz⟩ : ∃ z, Hid (p2F l m = z) := ⟨_, rfl⟩
  by_cases hz : z = 0
  · obtain ⟨n, f, g, hn, P, Q, rfl, rfl⟩ := p2F_ok (by rw [Hz.out]; exact hz : p2F l m = 0)
    have PQ := P.comp Q
    obtain ⟨va, vc, hve⟩ : ∃ a c, v = .slice a n c := hl.len (pl_len n f)
    subst hve
    have C1 := fun A (h : Below w.heap.size w A) => Compose_ok n f g _ u A hn (hl.below h) (hm.below h) P Q
    obtain ⟨s1, Hs1⟩ : ∃ s, Hid (sgI n f = s) := ⟨_, rfl⟩
    obtain ⟨s2, Hs2⟩ : ∃ s, Hid (sgI n g = s) := ⟨_, rfl⟩
    obtain ⟨s3, Hs3⟩ : ∃ s, Hid (sgI n (fun i => g (f i)) = s) := ⟨_, rfl⟩
    have C2 := fun A (h : Below w.heap.size w A) => Sign_ok n f _ A hn (hl.below h) P
    have C3 := fun A (h : Below w.heap.size w A) => Sign_ok n g u A hn (hm.below h) Q
    have C4 := fun A y (h : Sl A y (pl n fun i => g (f i))) => Sign_ok n _ y A hn h PQ
    rw [Hs1.out] at C2
    rw [Hs2.out] at C3
    rw [Hs3.out] at C4
    have hs12 : s1 * s2 = s3 := by rw [← Hs1.out, ← Hs2.out, ← Hs3.out, sgI_comp P]
    have b3 := sg_bd PQ hn
    rw [Hs3.out] at b3
    obtain ⟨b31, b32, b33⟩ := b3
    have C5 := fun A (h : Below w.heap.size w A) => Inverse_ok n f _ A hn (hl.below h) P
    have C6 := fun A y (h : Below w.heap.size w A) (hy : Sl A y (pl n (iv f))) => Compose_ok n f (iv f) _ y A hn (hl.below h) hy P P.iv_pm
    have hid : (pl n fun i => iv f (f i)) = pl n fun i => i := pl_congr fun i hi => P.iv_f hi
    rw [hid] at C6
    have C7 := fun A => Still_any n A hn
    have C8 := fun A y y' (h1 : Sl A y (pl n fun i => i)) (h2 : Sl A y' (pl n fun i => i)) => ints_yes _ _ y y' A h1 h2 (by rw [pl_len]; omega) rfl
    have hd3 : (s3 != s3) = false := by simp
    obtain ⟨t, Ht⟩ : ∃ t, Hid (p2F (pl n g) k = t) := ⟨_, rfl⟩
    by_cases ht : t = 0
    · obtain ⟨n', g', h, _, _, R, e1, rfl⟩ := p2F_ok (by rw [Ht.out]; exact ht : p2F (pl n g) k = 0)
      have hn' : n = n' := by have := congrArg List.length e1; simpa using this
      subst hn'
      have C9 := fun A (hA : Below w.heap.size w A) => Compose_ok n g h u x A hn (hm.below hA) (hk.below hA) Q R
      have C10 := fun A y (hA : Below w.heap.size w A) (hy : Sl A y (pl n fun i => g (f i))) => Compose_ok n _ h y x A hn hy (hk.below hA) PQ R
      have C11 := fun A y (hA : Below w.heap.size w A) (hy : Sl A y (pl n fun i => h (g i))) => Compose_ok n f _ _ y A hn (hl.below hA) hy P (Q.comp R)
      have C12 := fun A y y' (h1 : Sl A y (pl n fun i => h (g (f i)))) (h2 : Sl A y' (pl n fun i => h (g (f i)))) => ints_yes _ _ y y' A h1 h2 (by rw [pl_len]; omega) rfl
      clear P Q PQ R hid hl hm hk e1
      go_enter Try.func6, Try.ntmps6
      go_wp2_with (first
        | (go_at_call 26; refine C0.mono ?_; rintro e w0 ⟨rfl, b0⟩)
        | (go_at_call 18; refine (C1 _ b0).mono ?_; rintro e w1 ⟨y1, rfl, hy1, b1⟩; clear C1; replace b1 := Below.next b0 b1)
        | (go_at_call 11; refine (C2 _ b1).mono ?_; rintro e w2 ⟨rfl, b2⟩; clear C2; replace hy1 := hy1.below b2; replace b2 := Below.next b1 b2)
        | (go_at_call 11; refine (C3 _ b2).mono ?_; rintro e w3 ⟨rfl, b3⟩; clear C3; replace hy1 := hy1.below b3; replace b3 := Below.next b2 b3)
        | (go_at_call 11; refine (C4 _ _ hy1).mono ?_; rintro e w4 ⟨rfl, b4⟩; replace hy1 := hy1.below b4; replace b4 := Below.next b3 b4)
        | (go_at_call 9; refine (C5 _ b4).mono ?_; rintro e w5 ⟨y5, rfl, hy5, b5⟩; replace hy1 := hy1.below b5; replace b5 := Below.next b4 b5)
        | (go_at_call 18; refine (C6 _ _ b5 hy5).mono ?_; rintro e w6 ⟨y6, rfl, hy6, b6⟩; clear C6; replace hy1 := hy1.below b6; replace b6 := Below.next b5 b6)
        | (go_at_call 27; refine (C7 _).mono ?_; rintro e w7 ⟨y7, rfl, hy7, b7⟩; replace hy7 := own_pl hy7; replace hy1 := hy1.below b7; replace hy6 := hy6.below b7; replace b7 := Below.next b6 b7)
        | (go_at_call 14; refine (C8 _ _ _ hy6 hy7).mono ?_; rintro e w8 ⟨rfl, b8⟩; clear C8; replace hy1 := hy1.below b8; replace b8 := Below.next b7 b8)
        | (go_at_call 18; refine (C9 _ b8).mono ?_; rintro e w9 ⟨y9, rfl, hy9, b9⟩; clear C9; replace hy1 := hy1.below b9; replace b9 := Below.next b8 b9)
        | (go_at_call 18; refine (C10 _ _ b9 hy1).mono ?_; rintro e w10 ⟨y10, rfl, hy10, b10⟩; clear C10; replace hy9 := hy9.below b10; replace b10 := Below.next b9 b10)
        | (go_at_call 18; refine (C11 _ _ b10 hy9).mono ?_; rintro e w11 ⟨y11, rfl, hy11, b11⟩; clear C11; replace hy10 := hy10.below b11; replace b11 := Below.next b10 b11)
        | (go_at_call 14; refine (C12 _ _ _ hy10 hy11).mono ?_; rintro e w12 ⟨rfl, b12⟩))
      go_ret
      exact ⟨rfl, Below.next b11 b12⟩
    · have C9 := fun A (hA : Below w.heap.size w A) => Compose_bad (pl n g) k u x A (hm.below hA) (hk.below hA) hml hkl t Ht.out ht
      have htd : (t != 0) = true := by simpa using ht
      clear P Q PQ hid hl hm hk ht
      go_enter Try.func6, Try.ntmps6
      go_wp2_with (first
        | (go_at_call 26; refine C0.mono ?_; rintro e w0 ⟨rfl, b0⟩)
        | (go_at_call 18; refine (C1 _ b0).mono ?_; rintro e w1 ⟨y1, rfl, hy1, b1⟩; clear C1; replace b1 := Below.next b0 b1)
        | (go_at_call 11; refine (C2 _ b1).mono ?_; rintro e w2 ⟨rfl, b2⟩; clear C2; replace hy1 := hy1.below b2; replace b2 := Below.next b1 b2)
        | (go_at_call 11; refine (C3 _ b2).mono ?_; rintro e w3 ⟨rfl, b3⟩; clear C3; replace hy1 := hy1.below b3; replace b3 := Below.next b2 b3)
        | (go_at_call 11; refine (C4 _ _ hy1).mono ?_; rintro e w4 ⟨rfl, b4⟩; replace b4 := Below.next b3 b4)
        | (go_at_call 9; refine (C5 _ b4).mono ?_; rintro e w5 ⟨y5, rfl, hy5, b5⟩; replace b5 := Below.next b4 b5)
        | (go_at_call 18; refine (C6 _ _ b5 hy5).mono ?_; rintro e w6 ⟨y6, rfl, hy6, b6⟩; clear C6; replace b6 := Below.next b5 b6)
        | (go_at_call 27; refine (C7 _).mono ?_; rintro e w7 ⟨y7, rfl, hy7, b7⟩; replace hy7 := own_pl hy7; replace hy6 := hy6.below b7; replace b7 := Below.next b6 b7)
        | (go_at_call 14; refine (C8 _ _ _ hy6 hy7).mono ?_; rintro e w8 ⟨rfl, b8⟩; clear C8; replace b8 := Below.next b7 b8)
        | (go_at_call 18; refine (C9 _ b8).mono ?_; rintro e w9 ⟨rfl, b9⟩))
      go_ret
      exact ⟨rfl, Below.next b8 b9⟩
  · have hd : (z != 0) = true := by simpa using hz
    have C1 := fun A (h : Below w.heap.size w A) => Compose_bad l m v u A (hl.below h) (hm.below h) hll hml z Hz.out hz
    clear hz
    go_enter Try.func6, Try.ntmps6
    go_wp2_with (first
      | (go_at_call 26; refine C0.mono ?_; rintro e w0 ⟨rfl, b0⟩)
      | (go_at_call 18; refine (C1 _ b0).mono ?_; rintro e w1 ⟨rfl, b1⟩))
    go_ret
    exact ⟨rfl, Below.next b0 b1⟩

end Go.Proofs.Yteocfkkdjejgdaa
