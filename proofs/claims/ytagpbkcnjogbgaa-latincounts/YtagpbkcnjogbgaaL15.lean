/- The law LatinCounts, walked. -/
import Derived.Test.YtagpbkcnjogbgaaL14
import Derived.Test.YtagpbkcnjogbgaaL12
import Derived.Test.YtagpbkcnjogbgaaL13
import Derived.Test.YtagpbkcnjogbgaaL5
namespace Go.Proofs.Ytagpbkcnjogbgaa
open Go.RowKit

theorem nat_beq_self (z : Nat) : ((z : Int) == (z : Int)) = true := by simp
theorem nat_bne_self (z : Nat) : ((z : Int) != (z : Int)) = false := by simp
set_option maxRecDepth 100000 in
set_option maxHeartbeats 8000000 in
theorem LatinCounts_law (s : Int) (L : List Int) (v : Value) (w : World) (hv : Sl w v L) (hL : L.length ≤ maxLen) :
    Calls Try.prog 4 #[.agg #[.int .i64 s, v]] w fun e w' => e = .returned (.bool true) ∧ Below w.heap.size w w' := by
  have HV : Hid (Sl w v L) := hv
  have SS : Hid (∀ W, Below (w.alloc (.cells #[.int .i64 s, v] 24)).heap.size (w.alloc (.cells #[.int .i64 s, v] 24)) W → W.cell? ⟨w.heap.size, 0, none⟩ = some (.int .i64 s) ∧ W.cell? ⟨w.heap.size, 1, none⟩ = some v ∧ W.rangeAt w.heap.size 0 [.int .i64 s, v]) := one_box s v w
  have C1 := fun W (b : Below w.heap.size w W) => LatinFault_any s L v W (hv.below b) hL
  have hb0 := balloc w (.cells #[.int .i64 s, v] 24)
  by_cases h : lF s L = 0
  · rw [h] at C1
    obtain ⟨n, rfl, G⟩ := lF_ok h
    have C2 := fun W (b : Below w.heap.size w W) => Intercalates_ok n L v W (hv.below b) G
    have C4 := fun W (b : Below w.heap.size w W) => IntercalatesOf_any n L v W (hv.below b) G
    by_cases h7 : n ≤ 7
    · have C3 := fun W (b : Below w.heap.size w W) => Transversals_ok n L v W (hv.below b) G h7
      have C5 := fun W (b : Below w.heap.size w W) => TransversalsOf_any n L v W (hv.below b) G h7
      have hd : decide ((7 : Int) < n) = false := by simp; omega
      generalize icN n (sq n L) = p at *
      generalize trN n (sq n L) = q at *
      have e1 := nat_beq_self q
      have e2 := nat_bne_self p
      clear hv G h HV
      go_enter Try.func4, Try.ntmps4
      go_wp2_with (first
        | (go_at_call 7; refine (C1 _ hb0).mono ?_; rintro e w1 ⟨rfl, b1⟩; obtain ⟨x0, x1, _⟩ := SS.out _ b1; clear C1)
        | (go_at_call 10; refine (C2 _ (Below.next hb0 b1)).mono ?_; rintro e w2 ⟨rfl, b2⟩; have d2 := Below.next b1 b2; obtain ⟨y0, y1, _⟩ := SS.out _ d2; clear C2)
        | (go_at_call 11; refine (C3 _ (Below.next hb0 d2)).mono ?_; rintro e w3 ⟨rfl, b3⟩; have d3 := Below.next d2 b3; obtain ⟨z0, z1, _⟩ := SS.out _ d3; clear C3)
        | (go_at_call 12; refine (C4 _ (Below.next hb0 d3)).mono ?_; rintro e w4 ⟨rfl, b4⟩; have d4 := Below.next d3 b4; obtain ⟨t0, t1, _⟩ := SS.out _ d4; clear C4)
        | (go_at_call 13; refine (C5 _ (Below.next hb0 d4)).mono ?_; rintro e w5 ⟨rfl, b5⟩; have d5 := Below.next d4 b5; clear C5))
      go_ret
      exact ⟨rfl, Below.next hb0 d5⟩
    · obtain rfl : n = 8 := by have := G.le; omega
      have C3 := fun W (b : Below w.heap.size w W) => Transversals_full L v W (hv.below b) G
      generalize icN 8 (sq 8 L) = p at *
      have e2 := nat_bne_self p
      clear hv G h HV h7
      go_enter Try.func4, Try.ntmps4
      go_wp2_with (first
        | (go_at_call 7; refine (C1 _ hb0).mono ?_; rintro e w1 ⟨rfl, b1⟩; obtain ⟨x0, x1, _⟩ := SS.out _ b1; clear C1)
        | (go_at_call 10; refine (C2 _ (Below.next hb0 b1)).mono ?_; rintro e w2 ⟨rfl, b2⟩; have d2 := Below.next b1 b2; obtain ⟨y0, y1, _⟩ := SS.out _ d2; clear C2)
        | (go_at_call 11; refine (C3 _ (Below.next hb0 d2)).mono ?_; rintro e w3 ⟨rfl, b3⟩; have d3 := Below.next d2 b3; obtain ⟨z0, z1, _⟩ := SS.out _ d3; clear C3)
        | (go_at_call 12; refine (C4 _ (Below.next hb0 d3)).mono ?_; rintro e w4 ⟨rfl, b4⟩; have d4 := Below.next d3 b4; obtain ⟨t0, t1, _⟩ := SS.out _ d4; clear C4))
      go_ret
      exact ⟨rfl, Below.next hb0 d4⟩
  · have C2 := fun W (b : Below w.heap.size w W) => Intercalates_bad s L v W (hv.below b) hL h
    have C3 := fun W (b : Below w.heap.size w W) => Transversals_bad s L v W (hv.below b) hL h
    have hz : ((lF s L : Int) != 0) = true := by simp; omega
    have e1 := nat_beq_self (lF s L)
    have e2 := nat_bne_self (lF s L)
    generalize lF s L = z at *
    clear hv h HV
    go_enter Try.func4, Try.ntmps4
    go_wp2_with (first
      | (go_at_call 7; refine (C1 _ hb0).mono ?_; rintro e w1 ⟨rfl, b1⟩; obtain ⟨x0, x1, _⟩ := SS.out _ b1; clear C1)
      | (go_at_call 10; refine (C2 _ (Below.next hb0 b1)).mono ?_; rintro e w2 ⟨rfl, b2⟩; have d2 := Below.next b1 b2; obtain ⟨y0, y1, _⟩ := SS.out _ d2; clear C2)
      | (go_at_call 11; refine (C3 _ (Below.next hb0 d2)).mono ?_; rintro e w3 ⟨rfl, b3⟩; have d3 := Below.next d2 b3; clear C3))
    go_ret
    exact ⟨rfl, Below.next hb0 d3⟩
end Go.Proofs.Ytagpbkcnjogbgaa
