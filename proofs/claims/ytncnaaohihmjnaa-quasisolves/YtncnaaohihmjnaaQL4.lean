/- The law QuasiSolves, walked. -/
import Derived.Test.YtncnaaohihmjnaaQ6
import Derived.Test.YtncnaaohihmjnaaQ7
namespace Go.Proofs.Ytncnaaohihmjnaa
open Go.RowKit

theorem int_bne_self (z : Int) : (z != z) = false := by simp
theorem int_beq_self' (z : Int) : (z == z) = true := by simp
set_option maxRecDepth 100000 in
set_option maxHeartbeats 16000000 in
theorem QuasiSolves_law (s a b : Int) (L : List Int) (v : Value) (w : World) (_ha : (Lit.int .i64 a).wf = true) (_hb : (Lit.int .i64 b).wf = true) (hv : Sl w v L) (hL : L.length ≤ maxLen) :
    Calls Try.prog 4 #[.agg #[.int .i64 s, v], .int .i64 a, .int .i64 b] w fun e w' => e = .returned (.bool true) ∧ Below w.heap.size w w' := by
  have SS : Hid (∀ W, Below (w.alloc (.cells #[.int .i64 s, v] 24)).heap.size (w.alloc (.cells #[.int .i64 s, v] 24)) W → W.cell? ⟨w.heap.size, 0, none⟩ = some (.int .i64 s) ∧ W.cell? ⟨w.heap.size, 1, none⟩ = some v ∧ W.rangeAt w.heap.size 0 [.int .i64 s, v]) := one_box s v w
  have C1 := fun W (b : Below w.heap.size w W) => LatinFault_any s L v W (hv.below b) hL
  have hb0 := balloc w (.cells #[.int .i64 s, v] 24)
  by_cases h : lF s L = 0
  · rw [h] at C1
    obtain ⟨n, rfl, G⟩ := lF_ok h
    by_cases hr : 0 ≤ a ∧ a < n ∧ 0 ≤ b ∧ b < n
    · obtain ⟨a, rfl⟩ : ∃ m : Nat, a = m := ⟨a.toNat, by omega⟩
      obtain ⟨b, rfl⟩ : ∃ m : Nat, b = m := ⟨b.toNat, by omega⟩
      have ha : a < n := by omega
      have hb : b < n := by omega
      obtain ⟨y, hy, hyn, ey⟩ := lat_left G.lat ha hb
      obtain ⟨x, hx, hxn, ex⟩ := lat_right G.lat ha hb
      have C2 := fun W (bW : Below w.heap.size w W) => Left_ok n a b y L v W (hv.below bW) G ha hb hy
      have C3 := fun W (bW : Below w.heap.size w W) => Right_ok n a b x L v W (hv.below bW) G ha hb hx
      have C4 := fun W (bW : Below w.heap.size w W) => At_any n L v W (hv.below bW) G a y ha hyn
      have C5 := fun W (bW : Below w.heap.size w W) => At_any n L v W (hv.below bW) G x a hxn ha
      rw [ey] at C4
      rw [ex] at C5
      have a1 : decide ((a : Int) < 0) = false := decide_eq_false (by omega)
      have a2 : decide ((n : Int) ≤ (a : Int)) = false := decide_eq_false (by omega)
      have a3 : decide ((b : Int) < 0) = false := decide_eq_false (by omega)
      have a4 : decide ((n : Int) ≤ (b : Int)) = false := decide_eq_false (by omega)
      have a5 : decide ((x : Int) < 0) = false := decide_eq_false (by omega)
      have a6 : decide ((n : Int) ≤ (x : Int)) = false := decide_eq_false (by omega)
      have a7 : decide ((y : Int) < 0) = false := decide_eq_false (by omega)
      have a8 : decide ((n : Int) ≤ (y : Int)) = false := decide_eq_false (by omega)
      have n2 : ¬ n ≤ a := by omega
      have n4 : ¬ n ≤ b := by omega
      have n6 : ¬ n ≤ x := by omega
      have n8 : ¬ n ≤ y := by omega
      have e1 : ((b : Int) == (b : Int)) = true := by simp
      clear hv G h hr hy hx ey ex
      go_enter Try.func4, Try.ntmps4
      go_wp2_with (first
        | (go_at_call 8; refine (C1 _ hb0).mono ?_; rintro e w1 ⟨rfl, b1⟩; have d1 := b1; obtain ⟨x0, x1, _⟩ := SS.out _ d1; clear C1)
        | (go_at_call 19; refine (C2 _ (Below.next hb0 d1)).mono ?_; rintro e w2 ⟨rfl, b2⟩; have d2 := Below.next d1 b2; obtain ⟨y0, y1, _⟩ := SS.out _ d2; clear C2)
        | (go_at_call 20; refine (C3 _ (Below.next hb0 d2)).mono ?_; rintro e w3 ⟨rfl, b3⟩; have d3 := Below.next d2 b3; obtain ⟨z0, z1, _⟩ := SS.out _ d3; clear C3)
        | (go_at_call 21; refine (C4 _ (Below.next hb0 d3)).mono ?_; rintro e w4 ⟨rfl, b4⟩; have d4 := Below.next d3 b4; obtain ⟨t0, t1, _⟩ := SS.out _ d4; clear C4)
        | (go_at_call 21; refine (C5 _ (Below.next hb0 d4)).mono ?_; rintro e w5 ⟨rfl, b5⟩; have d5 := Below.next d4 b5; clear C5))
      go_ret
      exact ⟨rfl, Below.next hb0 d5⟩
    · have C2 := fun W (bW : Below w.heap.size w W) => Left_out n a b L v W (hv.below bW) G hr
      have C3 := fun W (bW : Below w.heap.size w W) => Right_out n a b L v W (hv.below bW) G hr
      clear hv G h
      by_cases k1 : a < 0
      · have a1 : decide (a < 0) = true := decide_eq_true k1
        clear hr k1
        go_enter Try.func4, Try.ntmps4
        go_wp2_with (first
          | (go_at_call 8; refine (C1 _ hb0).mono ?_; rintro e w1 ⟨rfl, b1⟩; have d1 := b1; obtain ⟨x0, x1, _⟩ := SS.out _ d1; clear C1)
          | (go_at_call 19; refine (C2 _ (Below.next hb0 d1)).mono ?_; rintro e w2 ⟨rfl, b2⟩; have d2 := Below.next d1 b2; obtain ⟨y0, y1, _⟩ := SS.out _ d2; clear C2)
          | (go_at_call 20; refine (C3 _ (Below.next hb0 d2)).mono ?_; rintro e w3 ⟨rfl, b3⟩; have d3 := Below.next d2 b3; clear C3))
        go_ret
        exact ⟨rfl, Below.next hb0 d3⟩
      · have a1 : decide (a < 0) = false := decide_eq_false k1
        by_cases k2 : (n : Int) ≤ a
        · have a2 : decide ((n : Int) ≤ a) = true := decide_eq_true k2
          clear hr k1 k2
          go_enter Try.func4, Try.ntmps4
          go_wp2_with (first
            | (go_at_call 8; refine (C1 _ hb0).mono ?_; rintro e w1 ⟨rfl, b1⟩; have d1 := b1; obtain ⟨x0, x1, _⟩ := SS.out _ d1; clear C1)
            | (go_at_call 19; refine (C2 _ (Below.next hb0 d1)).mono ?_; rintro e w2 ⟨rfl, b2⟩; have d2 := Below.next d1 b2; obtain ⟨y0, y1, _⟩ := SS.out _ d2; clear C2)
            | (go_at_call 20; refine (C3 _ (Below.next hb0 d2)).mono ?_; rintro e w3 ⟨rfl, b3⟩; have d3 := Below.next d2 b3; clear C3))
          go_ret
          exact ⟨rfl, Below.next hb0 d3⟩
        · have a2 : decide ((n : Int) ≤ a) = false := decide_eq_false k2
          by_cases k3 : b < 0
          · have a3 : decide (b < 0) = true := decide_eq_true k3
            clear hr k1 k2 k3
            go_enter Try.func4, Try.ntmps4
            go_wp2_with (first
              | (go_at_call 8; refine (C1 _ hb0).mono ?_; rintro e w1 ⟨rfl, b1⟩; have d1 := b1; obtain ⟨x0, x1, _⟩ := SS.out _ d1; clear C1)
              | (go_at_call 19; refine (C2 _ (Below.next hb0 d1)).mono ?_; rintro e w2 ⟨rfl, b2⟩; have d2 := Below.next d1 b2; obtain ⟨y0, y1, _⟩ := SS.out _ d2; clear C2)
              | (go_at_call 20; refine (C3 _ (Below.next hb0 d2)).mono ?_; rintro e w3 ⟨rfl, b3⟩; have d3 := Below.next d2 b3; clear C3))
            go_ret
            exact ⟨rfl, Below.next hb0 d3⟩
          · have a3 : decide (b < 0) = false := decide_eq_false k3
            have a4 : decide ((n : Int) ≤ b) = true := decide_eq_true (by omega)
            clear hr k1 k2 k3
            go_enter Try.func4, Try.ntmps4
            go_wp2_with (first
              | (go_at_call 8; refine (C1 _ hb0).mono ?_; rintro e w1 ⟨rfl, b1⟩; have d1 := b1; obtain ⟨x0, x1, _⟩ := SS.out _ d1; clear C1)
              | (go_at_call 19; refine (C2 _ (Below.next hb0 d1)).mono ?_; rintro e w2 ⟨rfl, b2⟩; have d2 := Below.next d1 b2; obtain ⟨y0, y1, _⟩ := SS.out _ d2; clear C2)
              | (go_at_call 20; refine (C3 _ (Below.next hb0 d2)).mono ?_; rintro e w3 ⟨rfl, b3⟩; have d3 := Below.next d2 b3; clear C3))
            go_ret
            exact ⟨rfl, Below.next hb0 d3⟩
  · have C2 := fun W (bW : Below w.heap.size w W) => Left_bad s a b L v W (hv.below bW) hL h
    have C3 := fun W (bW : Below w.heap.size w W) => Right_bad s a b L v W (hv.below bW) hL h
    have hz0 : (lF s L : Int) ≠ 0 := by omega
    obtain ⟨z, hz⟩ : ∃ z : Int, z = (lF s L : Int) := ⟨_, rfl⟩
    rw [← hz] at C1 C2 C3 hz0
    have e0 : (z == 0) = false := beq_eq_false_iff_ne.2 hz0
    have e1 : (z != 0) = true := bne_iff_ne.2 hz0
    have e3 := int_beq_self' z
    clear hv h hz hz0
    go_enter Try.func4, Try.ntmps4
    go_wp2_with (first
      | (go_at_call 8; refine (C1 _ hb0).mono ?_; rintro e w1 ⟨rfl, b1⟩; have d1 := b1; obtain ⟨x0, x1, _⟩ := SS.out _ d1; clear C1)
      | (go_at_call 19; refine (C2 _ (Below.next hb0 d1)).mono ?_; rintro e w2 ⟨rfl, b2⟩; have d2 := Below.next d1 b2; obtain ⟨y0, y1, _⟩ := SS.out _ d2; clear C2)
      | (go_at_call 20; refine (C3 _ (Below.next hb0 d2)).mono ?_; rintro e w3 ⟨rfl, b3⟩; have d3 := Below.next d2 b3; clear C3))
    go_ret
    exact ⟨rfl, Below.next hb0 d3⟩
end Go.Proofs.Ytncnaaohihmjnaa
