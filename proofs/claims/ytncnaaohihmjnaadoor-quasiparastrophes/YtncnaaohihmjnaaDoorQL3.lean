/- The law QuasiParastrophes, walked. -/
import Derived.Test.YtncnaaohihmjnaaDoorQF
import Derived.Test.YtncnaaohihmjnaaDoorQAt
import Derived.Test.YtncnaaohihmjnaaDoorCg
namespace Go.Proofs.YtncnaaohihmjnaaDoor
open Go.RowKit

theorem cj_congr {n k : Nat} {s t t' : Nat → Nat → Nat} (L : Lat n s) (h : Cj n s k t) (he : ∀ i j, i < n → j < n → t' i j = t i j) : Cj n s k t' := fun r c hr hc => by
  have hl := cj_lt (k := k) hr hc (L.lt r c hr hc)
  rw [he _ _ hl.1 hl.2.1]
  exact h r c hr hc
/-- What solves stands in the conjugate squares. -/
theorem cj_left {n a b y : Nat} {s t : Nat → Nat → Nat} (h : Cj n s 1 t) (ha : a < n) (hy : y < n) (e : s a y = b) : t a b = y := by
  have := h a y ha hy
  rw [e] at this
  exact this
theorem cj_right {n a b x : Nat} {s t : Nat → Nat → Nat} (h : Cj n s 4 t) (ha : a < n) (hx : x < n) (e : s x a = b) : t b x = a := by
  have := h x a hx ha
  rw [e] at this
  exact this
set_option maxRecDepth 100000 in
set_option maxHeartbeats 16000000 in
theorem QuasiParastrophes_law (s a b : Int) (L : List Int) (v : Value) (w : World) (hO : OT w) (_ha : (Lit.int .i64 a).wf = true) (_hb : (Lit.int .i64 b).wf = true) (hv : Sl w v L) (hL : L.length ≤ maxLen) :
    Calls Tryd.prog 3 #[.agg #[.int .i64 s, v], .int .i64 a, .int .i64 b] w fun e w' => e = .returned (.bool true) ∧ Below w.heap.size w w' := by
  have SS : Hid (∀ W, Below (w.alloc (.cells #[.int .i64 s, v] 24)).heap.size (w.alloc (.cells #[.int .i64 s, v] 24)) W → W.cell? ⟨w.heap.size, 0, none⟩ = some (.int .i64 s) ∧ W.cell? ⟨w.heap.size, 1, none⟩ = some v ∧ W.rangeAt w.heap.size 0 [.int .i64 s, v]) := one_box s v w
  have hb0 := balloc w (.cells #[.int .i64 s, v] 24)
  have C0 := quasiFact_any (w.alloc (.cells #[.int .i64 s, v] 24))
  by_cases h : lF s L = 0
  · obtain ⟨n, rfl, G⟩ := lF_ok h
    by_cases hr : 0 ≤ a ∧ a < n ∧ 0 ≤ b ∧ b < n
    · obtain ⟨a, rfl⟩ : ∃ m : Nat, a = m := ⟨a.toNat, by omega⟩
      obtain ⟨b, rfl⟩ : ∃ m : Nat, b = m := ⟨b.toNat, by omega⟩
      have ha : a < n := by omega
      have hb : b < n := by omega
      obtain ⟨y, hy, hyn, ey⟩ := lat_left G.lat ha hb
      obtain ⟨x, hx, hxn, ex⟩ := lat_right G.lat ha hb
      have C1 := fun W (bW : Below w.heap.size w W) => Left_ok n a b y L v W (hv.below bW) G ha hb hy
      have C2 := fun W (bW : Below w.heap.size w W) => Right_ok n a b x L v W (hv.below bW) G ha hb hx
      have C3 : ∀ W, Below w.heap.size w W → Calls Tryd.prog 7 #[.agg #[.int .i64 (n : Int), v], .int .i64 1] W fun e w' => (∃ og oc t, e = .returned (.tuple #[.agg #[.int .i64 (n : Int), .slice og (n * n) oc], .int .i64 0]) ∧ Cj n (sq n L) 1 t ∧ Sl w' (.slice og (n * n) oc) ((flN n t (n * n)).map Int.ofNat)) ∧ Below W.heap.size W w' := fun W bW => by
        refine (Conjugate_ok n 1 L v W (hv.below bW) G (by omega) (hO.below bW)).mono ?_
        rintro e w' ⟨⟨y, t, rfl, hCj, hW⟩, b'⟩
        have hS := fl_sl hW
        obtain ⟨og, oc, rfl, _⟩ := id hS
        have hl : ((flN n t (n * n)).map Int.ofNat).length = n * n := by simp [flN]
        rw [hl] at hS ⊢
        exact ⟨⟨og, oc, t, rfl, hCj, hS⟩, b'⟩
      have C4 : ∀ W, Below w.heap.size w W → Calls Tryd.prog 7 #[.agg #[.int .i64 (n : Int), v], .int .i64 4] W fun e w' => (∃ og oc t, e = .returned (.tuple #[.agg #[.int .i64 (n : Int), .slice og (n * n) oc], .int .i64 0]) ∧ Cj n (sq n L) 4 t ∧ Sl w' (.slice og (n * n) oc) ((flN n t (n * n)).map Int.ofNat)) ∧ Below W.heap.size W w' := fun W bW => by
        refine (Conjugate_ok n 4 L v W (hv.below bW) G (by omega) (hO.below bW)).mono ?_
        rintro e w' ⟨⟨y, t, rfl, hCj, hW⟩, b'⟩
        have hS := fl_sl hW
        obtain ⟨og, oc, rfl, _⟩ := id hS
        have hl : ((flN n t (n * n)).map Int.ofNat).length = n * n := by simp [flN]
        rw [hl] at hS ⊢
        exact ⟨⟨og, oc, t, rfl, hCj, hS⟩, b'⟩
      have K1 : Hid (∀ t og oc W, Cj n (sq n L) 1 t → Sl W (.slice og (n * n) oc) ((flN n t (n * n)).map Int.ofNat) → Calls Tryd.prog 8 #[.agg #[.int .i64 (n : Int), .slice og (n * n) oc], .int .i64 (a : Int), .int .i64 (b : Int)] W fun e w' => e = .returned (.int .i64 (y : Int)) ∧ Below W.heap.size W w') := fun t og oc W hc hS => by
        have := At_any n _ _ W hS (fl_good G.pos G.le (cj_all G.lat (by omega) hc).1) a b ha hb
        rw [fl_sq ha hb, cj_left hc ha hyn ey] at this
        exact this
      have K2 : Hid (∀ t og oc W, Cj n (sq n L) 4 t → Sl W (.slice og (n * n) oc) ((flN n t (n * n)).map Int.ofNat) → Calls Tryd.prog 8 #[.agg #[.int .i64 (n : Int), .slice og (n * n) oc], .int .i64 (b : Int), .int .i64 (x : Int)] W fun e w' => e = .returned (.int .i64 (a : Int)) ∧ Below W.heap.size W w') := fun t og oc W hc hS => by
        have := At_any n _ _ W hS (fl_good G.pos G.le (cj_all G.lat (by omega) hc).1) b x hb hxn
        rw [fl_sq hb hxn, cj_right hc ha hxn ex] at this
        exact this
      have e1 : ((y : Int) == (y : Int)) = true := by simp
      have e2 : ((a : Int) == (a : Int)) = true := by simp
      generalize n * n = z at *
      clear hv G h hr hy hx ey ex hO
      go_enter Tryd.func3, Tryd.ntmps3
      go_wp2_with (first
        | (go_at_call 4; refine C0.mono ?_; rintro e w1 ⟨rfl, b1⟩; obtain ⟨x0, x1, _⟩ := SS.out _ b1; clear C0)
        | (go_at_call 5; refine (C1 _ (Below.next hb0 b1)).mono ?_; rintro e w2 ⟨rfl, b2⟩; have d2 := Below.next b1 b2; obtain ⟨y0, y1, _⟩ := SS.out _ d2; clear C1)
        | (go_at_call 6; refine (C2 _ (Below.next hb0 d2)).mono ?_; rintro e w3 ⟨rfl, b3⟩; have d3 := Below.next d2 b3; obtain ⟨z0, z1, _⟩ := SS.out _ d3; clear C2)
        | (go_at_call 7; refine (C3 _ (Below.next hb0 d3)).mono ?_; rintro e w4 ⟨⟨og, oc, t, rfl, hCj, hS⟩, b4⟩; have HCj : Hid (Cj n (sq n L) 1 t) := hCj; have HS : Hid (Sl w4 (.slice og z oc) ((flN n t z).map Int.ofNat)) := hS; have d4 := Below.next (Below.next d3 b4) (balloc w4 (.cells #[.int .i64 (n : Int), .slice og z oc] 24)); obtain ⟨t0, t1, _⟩ := SS.out _ d4; clear C3 hCj hS)
        | (go_at_call 7; refine (C4 _ (Below.next hb0 d4)).mono ?_; rintro e w5 ⟨⟨rg, rc, r, rfl, hCr, hS⟩, b5⟩; have HCr : Hid (Cj n (sq n L) 4 r) := hCr; have HSr : Hid (Sl w5 (.slice rg z rc) ((flN n r z).map Int.ofNat)) := hS; have c5 := Below.next b5 (balloc w5 (.cells #[.int .i64 (n : Int), .slice rg z rc] 24)); have d5 := Below.next d4 c5; obtain ⟨q0, q1, _⟩ := one_box n (.slice og z oc) w4 _ c5; have E1 := K1.out t og oc _ HCj.out ((HS.out.below (balloc w4 _)).below c5); clear C4 hCr hS)
        | (go_at_call 8; refine E1.mono ?_; rintro e w6 ⟨rfl, b6⟩; have d6 := Below.next d5 b6; obtain ⟨r0, r1, _⟩ := one_box n (.slice rg z rc) w5 _ b6; have E2 := K2.out r rg rc w6 HCr.out ((HSr.out.below (balloc w5 _)).below b6); clear E1)
        | (go_at_call 8; refine E2.mono ?_; rintro e w7 ⟨rfl, b7⟩; have d7 := Below.next d6 b7; clear E2))
      go_ret
      exact ⟨rfl, Below.next hb0 d7⟩
    · have C1 := fun W (bW : Below w.heap.size w W) => Left_out n a b L v W (hv.below bW) G hr
      clear hv G h hr hO
      go_enter Tryd.func3, Tryd.ntmps3
      go_wp2_with (first
        | (go_at_call 4; refine C0.mono ?_; rintro e w1 ⟨rfl, b1⟩; obtain ⟨x0, x1, _⟩ := SS.out _ b1; clear C0)
        | (go_at_call 5; refine (C1 _ (Below.next hb0 b1)).mono ?_; rintro e w2 ⟨rfl, b2⟩; have d2 := Below.next b1 b2; clear C1))
      go_ret
      exact ⟨rfl, Below.next hb0 d2⟩
  · have C1 := fun W (bW : Below w.heap.size w W) => Left_bad s a b L v W (hv.below bW) hL h
    have hz0 : (lF s L : Int) ≠ 0 := by omega
    obtain ⟨z, hz⟩ : ∃ z : Int, z = (lF s L : Int) := ⟨_, rfl⟩
    rw [← hz] at C1 hz0
    have e1 : (z != 0) = true := bne_iff_ne.2 hz0
    clear hv h hz hz0 hO
    go_enter Tryd.func3, Tryd.ntmps3
    go_wp2_with (first
      | (go_at_call 4; refine C0.mono ?_; rintro e w1 ⟨rfl, b1⟩; obtain ⟨x0, x1, _⟩ := SS.out _ b1; clear C0)
      | (go_at_call 5; refine (C1 _ (Below.next hb0 b1)).mono ?_; rintro e w2 ⟨rfl, b2⟩; have d2 := Below.next b1 b2; clear C1))
    go_ret
    exact ⟨rfl, Below.next hb0 d2⟩
end Go.Proofs.YtncnaaohihmjnaaDoor
