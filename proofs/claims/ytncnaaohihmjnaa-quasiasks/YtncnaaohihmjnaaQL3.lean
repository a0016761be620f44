/- The law QuasiAsks, walked. -/
import Derived.Test.YtncnaaohihmjnaaQ10
import Derived.Test.YtncnaaohihmjnaaQ8
import Derived.Test.YtncnaaohihmjnaaQ5b
namespace Go.Proofs.Ytncnaaohihmjnaa
open Go.RowKit

theorem int_bne_self (z : Int) : (z != z) = false := by simp
theorem int_beq_self' (z : Int) : (z == z) = true := by simp
theorem bool_beq_self (q : Bool) : (q == q) = true := by simp
set_option maxRecDepth 100000 in
set_option maxHeartbeats 16000000 in
theorem QuasiAsks_law (s : Int) (L : List Int) (v : Value) (w : World) (hv : Sl w v L) (hL : L.length ≤ maxLen) :
    Calls Try.prog 3 #[.agg #[.int .i64 s, v]] w fun e w' => e = .returned (.bool true) ∧ Below w.heap.size w w' := by
  have SS : Hid (∀ W, Below (w.alloc (.cells #[.int .i64 s, v] 24)).heap.size (w.alloc (.cells #[.int .i64 s, v] 24)) W → W.cell? ⟨w.heap.size, 0, none⟩ = some (.int .i64 s) ∧ W.cell? ⟨w.heap.size, 1, none⟩ = some v ∧ W.rangeAt w.heap.size 0 [.int .i64 s, v]) := one_box s v w
  have C1 := fun W (b : Below w.heap.size w W) => LatinFault_any s L v W (hv.below b) hL
  have hb0 := balloc w (.cells #[.int .i64 s, v] 24)
  by_cases h : lF s L = 0
  · rw [h] at C1
    obtain ⟨n, rfl, G⟩ := lF_ok h
    have C3 := fun W (b : Below w.heap.size w W) => Commutes_ok n L v W (hv.below b) G
    have C4 := fun W (b : Below w.heap.size w W) => Associates_ok n L v W (hv.below b) G
    have C5 := fun W (b : Below w.heap.size w W) => Idempotent_ok n L v W (hv.below b) G
    have C6 := fun W (b : Below w.heap.size w W) => Parts_ok n L v W (hv.below b) G
    have D3 := fun W (b : Below w.heap.size w W) => CommutesOf_any n L v W _ (hv.below b) G rfl
    have D4 := fun W (b : Below w.heap.size w W) => AssociatesOf_any n L v W _ (hv.below b) G rfl
    have D5 := fun W (b : Below w.heap.size w W) => IdempotentOf_any n L v W _ (hv.below b) G rfl
    have D6 := fun W (b : Below w.heap.size w W) => PartsOf_any n L v W _ (hv.below b) G rfl
    obtain ⟨p, hp⟩ : ∃ P : Int, P = ((parB n (sq n L) (2 ^ n) : Nat) : Int) := ⟨_, rfl⟩
    rw [← hp] at C6 D6
    have e6 := int_beq_self' p
    cases ho : fstN n (unitB n (sq n L)) with
    | none =>
      have C2 := fun W (b : Below w.heap.size w W) => UnitNone_ok n L v W (hv.below b) G ho
      have D2 := fun W (b : Below w.heap.size w W) => UnitOf_any n L v W _ (-1) (hv.below b) G ho rfl
      generalize comB n (sq n L) = qc at *
      generalize assB n (sq n L) = qa at *
      generalize idmB n (sq n L) = qi at *
      have e3 := bool_beq_self qc
      have e4 := bool_beq_self qa
      have e5 := bool_beq_self qi
      clear hv G h ho hp
      go_enter Try.func3, Try.ntmps3
      go_wp2_with (first
        | (go_at_call 8; refine (C1 _ hb0).mono ?_; rintro e w1 ⟨rfl, b1⟩; have d1 := b1; obtain ⟨x0, x1, _⟩ := SS.out _ d1; clear C1)
        | (go_at_call 9; refine (C2 _ (Below.next hb0 d1)).mono ?_; rintro e w2 ⟨rfl, b2⟩; have d2 := Below.next d1 b2; obtain ⟨y0, y1, _⟩ := SS.out _ d2; clear C2)
        | (go_at_call 10; refine (C3 _ (Below.next hb0 d2)).mono ?_; rintro e w3 ⟨rfl, b3⟩; have d3 := Below.next d2 b3; obtain ⟨z0, z1, _⟩ := SS.out _ d3; clear C3)
        | (go_at_call 11; refine (C4 _ (Below.next hb0 d3)).mono ?_; rintro e w4 ⟨rfl, b4⟩; have d4 := Below.next d3 b4; obtain ⟨t0, t1, _⟩ := SS.out _ d4; clear C4)
        | (go_at_call 12; refine (C5 _ (Below.next hb0 d4)).mono ?_; rintro e w5 ⟨rfl, b5⟩; have d5 := Below.next d4 b5; obtain ⟨r0, r1, _⟩ := SS.out _ d5; clear C5)
        | (go_at_call 13; refine (C6 _ (Below.next hb0 d5)).mono ?_; rintro e w6 ⟨rfl, b6⟩; have d6 := Below.next d5 b6; obtain ⟨k0, k1, _⟩ := SS.out _ d6; clear C6)
        | (go_at_call 14; refine (D2 _ (Below.next hb0 d6)).mono ?_; rintro e w7 ⟨rfl, b7⟩; have d7 := Below.next d6 b7; obtain ⟨l0, l1, _⟩ := SS.out _ d7; clear D2)
        | (go_at_call 15; refine (D3 _ (Below.next hb0 d7)).mono ?_; rintro e w8 ⟨rfl, b8⟩; have d8 := Below.next d7 b8; obtain ⟨m0, m1, _⟩ := SS.out _ d8; clear D3)
        | (go_at_call 16; refine (D4 _ (Below.next hb0 d8)).mono ?_; rintro e w9 ⟨rfl, b9⟩; have d9 := Below.next d8 b9; obtain ⟨n0, n1, _⟩ := SS.out _ d9; clear D4)
        | (go_at_call 17; refine (D5 _ (Below.next hb0 d9)).mono ?_; rintro e wa ⟨rfl, ba⟩; have da := Below.next d9 ba; obtain ⟨o0, o1, _⟩ := SS.out _ da; clear D5)
        | (go_at_call 18; refine (D6 _ (Below.next hb0 da)).mono ?_; rintro e wb ⟨rfl, bb⟩; have db := Below.next da bb; clear D6))
      go_ret
      exact ⟨rfl, Below.next hb0 db⟩
    | some u =>
      have C2 := fun W (b : Below w.heap.size w W) => Unit_ok n L v W (hv.below b) G u ho
      have D2 := fun W (b : Below w.heap.size w W) => UnitOf_any n L v W _ (u : Int) (hv.below b) G ho rfl
      generalize comB n (sq n L) = qc at *
      generalize assB n (sq n L) = qa at *
      generalize idmB n (sq n L) = qi at *
      have e3 := bool_beq_self qc
      have e4 := bool_beq_self qa
      have e5 := bool_beq_self qi
      have hu0 : decide ((u : Int) < 0) = false := decide_eq_false (by omega)
      have hu1 : ((u : Int) != (u : Int)) = false := by simp
      clear hv G h ho hp
      go_enter Try.func3, Try.ntmps3
      go_wp2_with (first
        | (go_at_call 8; refine (C1 _ hb0).mono ?_; rintro e w1 ⟨rfl, b1⟩; have d1 := b1; obtain ⟨x0, x1, _⟩ := SS.out _ d1; clear C1)
        | (go_at_call 9; refine (C2 _ (Below.next hb0 d1)).mono ?_; rintro e w2 ⟨rfl, b2⟩; have d2 := Below.next d1 b2; obtain ⟨y0, y1, _⟩ := SS.out _ d2; clear C2)
        | (go_at_call 10; refine (C3 _ (Below.next hb0 d2)).mono ?_; rintro e w3 ⟨rfl, b3⟩; have d3 := Below.next d2 b3; obtain ⟨z0, z1, _⟩ := SS.out _ d3; clear C3)
        | (go_at_call 11; refine (C4 _ (Below.next hb0 d3)).mono ?_; rintro e w4 ⟨rfl, b4⟩; have d4 := Below.next d3 b4; obtain ⟨t0, t1, _⟩ := SS.out _ d4; clear C4)
        | (go_at_call 12; refine (C5 _ (Below.next hb0 d4)).mono ?_; rintro e w5 ⟨rfl, b5⟩; have d5 := Below.next d4 b5; obtain ⟨r0, r1, _⟩ := SS.out _ d5; clear C5)
        | (go_at_call 13; refine (C6 _ (Below.next hb0 d5)).mono ?_; rintro e w6 ⟨rfl, b6⟩; have d6 := Below.next d5 b6; obtain ⟨k0, k1, _⟩ := SS.out _ d6; clear C6)
        | (go_at_call 14; refine (D2 _ (Below.next hb0 d6)).mono ?_; rintro e w7 ⟨rfl, b7⟩; have d7 := Below.next d6 b7; obtain ⟨l0, l1, _⟩ := SS.out _ d7; clear D2)
        | (go_at_call 15; refine (D3 _ (Below.next hb0 d7)).mono ?_; rintro e w8 ⟨rfl, b8⟩; have d8 := Below.next d7 b8; obtain ⟨m0, m1, _⟩ := SS.out _ d8; clear D3)
        | (go_at_call 16; refine (D4 _ (Below.next hb0 d8)).mono ?_; rintro e w9 ⟨rfl, b9⟩; have d9 := Below.next d8 b9; obtain ⟨n0, n1, _⟩ := SS.out _ d9; clear D4)
        | (go_at_call 17; refine (D5 _ (Below.next hb0 d9)).mono ?_; rintro e wa ⟨rfl, ba⟩; have da := Below.next d9 ba; obtain ⟨o0, o1, _⟩ := SS.out _ da; clear D5)
        | (go_at_call 18; refine (D6 _ (Below.next hb0 da)).mono ?_; rintro e wb ⟨rfl, bb⟩; have db := Below.next da bb; clear D6))
      go_ret
      exact ⟨rfl, Below.next hb0 db⟩
  · have C2 := fun W (b : Below w.heap.size w W) => Unit_bad s L v W (hv.below b) hL h
    have C3 := fun W (b : Below w.heap.size w W) => Commutes_bad s L v W (hv.below b) hL h
    have C4 := fun W (b : Below w.heap.size w W) => Associates_bad s L v W (hv.below b) hL h
    have C5 := fun W (b : Below w.heap.size w W) => Idempotent_bad s L v W (hv.below b) hL h
    have C6 := fun W (b : Below w.heap.size w W) => Parts_bad s L v W (hv.below b) hL h
    have hz0 : (lF s L : Int) ≠ 0 := by omega
    obtain ⟨z, hz⟩ : ∃ z : Int, z = (lF s L : Int) := ⟨_, rfl⟩
    rw [← hz] at C1 C2 C3 C4 C5 C6 hz0
    have e1 : (z != 0) = true := bne_iff_ne.2 hz0
    have e2 := int_bne_self z
    have e3 := int_beq_self' z
    clear hv h hz hz0
    go_enter Try.func3, Try.ntmps3
    go_wp2_with (first
      | (go_at_call 8; refine (C1 _ hb0).mono ?_; rintro e w1 ⟨rfl, b1⟩; have d1 := b1; obtain ⟨x0, x1, _⟩ := SS.out _ d1; clear C1)
      | (go_at_call 9; refine (C2 _ (Below.next hb0 d1)).mono ?_; rintro e w2 ⟨rfl, b2⟩; have d2 := Below.next d1 b2; obtain ⟨y0, y1, _⟩ := SS.out _ d2; clear C2)
      | (go_at_call 10; refine (C3 _ (Below.next hb0 d2)).mono ?_; rintro e w3 ⟨rfl, b3⟩; have d3 := Below.next d2 b3; obtain ⟨z0, z1, _⟩ := SS.out _ d3; clear C3)
      | (go_at_call 11; refine (C4 _ (Below.next hb0 d3)).mono ?_; rintro e w4 ⟨rfl, b4⟩; have d4 := Below.next d3 b4; obtain ⟨t0, t1, _⟩ := SS.out _ d4; clear C4)
      | (go_at_call 12; refine (C5 _ (Below.next hb0 d4)).mono ?_; rintro e w5 ⟨rfl, b5⟩; have d5 := Below.next d4 b5; obtain ⟨r0, r1, _⟩ := SS.out _ d5; clear C5)
      | (go_at_call 13; refine (C6 _ (Below.next hb0 d5)).mono ?_; rintro e w6 ⟨rfl, b6⟩; have d6 := Below.next d5 b6; obtain ⟨k0, k1, _⟩ := SS.out _ d6; clear C6))
    go_ret
    exact ⟨rfl, Below.next hb0 d6⟩
end Go.Proofs.Ytncnaaohihmjnaa
