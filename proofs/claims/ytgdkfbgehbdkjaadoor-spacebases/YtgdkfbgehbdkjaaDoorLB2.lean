/- The law SpaceBases, walked to its end. -/
import Derived.Test.YtgdkfbgehbdkjaaDoorLN
import Derived.Test.YtgdkfbgehbdkjaaDoorE9
/- The law SpaceBases, walked. -/
namespace Go.Proofs.YtgdkfbgehbdkjaaDoor
open Go.RowKit

set_option maxRecDepth 100000 in
set_option maxHeartbeats 8000000 in
theorem law3_err (p k n z : Int) (v u x : Value) (w : World) (hv : ∃ a m c, v = .slice a m c) (hu : ∃ a m c, u = .slice a m c) (hx : ∃ a m c, x = .slice a m c) (h0 : z ≠ 0)
    (C0 : ∀ W, Below w.heap.size w W → Calls Tryd.prog 8 #[.agg #[.int .i64 p, .int .i64 k, v], .int .i64 n] W fun e w' => e = .returned (.int .i64 z) ∧ Below W.heap.size W w')
    (C1 : ∀ W, Below w.heap.size w W → Calls Tryd.prog 10 #[.agg #[.int .i64 p, .int .i64 k, v], .int .i64 n, u] W fun e w' => e = .returned (.tuple #[.slice none 0 0, .int .i64 z]) ∧ Below W.heap.size W w')
    (C2 : ∀ W, Below w.heap.size w W → Calls Tryd.prog 11 #[.agg #[.int .i64 p, .int .i64 k, v], .int .i64 n, u] W fun e w' => e = .returned (.tuple #[.slice none 0 0, .int .i64 z]) ∧ Below W.heap.size W w')
    (C3 : ∀ W, Below w.heap.size w W → Calls Tryd.prog 12 #[.agg #[.int .i64 p, .int .i64 k, v], .int .i64 n, u, x] W fun e w' => e = .returned (.tuple #[.bool false, .int .i64 z]) ∧ Below W.heap.size W w') :
    Calls Tryd.prog 3 #[.agg #[.int .i64 p, .int .i64 k, v], .int .i64 n, u, x] w fun e w' => e = .returned (.bool true) ∧ Below w.heap.size w w' := by
  obtain ⟨fa, fn, fc, rfl⟩ := hv
  obtain ⟨ua, um, uc, rfl⟩ := hu
  obtain ⟨xa, xm, xc, rfl⟩ := hx
  have b0 := balloc w (.cells #[.int .i64 p, .int .i64 k, .slice fa fn fc] 24)
  have hbx := fl_box p k (.slice fa fn fc) w
  obtain ⟨w0, Hw0⟩ : ∃ w0, Hid (w.alloc (.cells #[.int .i64 p, .int .i64 k, .slice fa fn fc] 24) = w0) := ⟨_, rfl⟩
  obtain ⟨x0, x1, x2⟩ := hbx _ (Below.refl _ _)
  rw [Hw0.out] at b0
  have HBX : Hid (∀ W, Below w0.heap.size w0 W → W.cell? ⟨w.heap.size, 0, none⟩ = some (.int .i64 p) ∧ W.cell? ⟨w.heap.size, 1, none⟩ = some (.int .i64 k) ∧ W.cell? ⟨w.heap.size, 2, none⟩ = some (.slice fa fn fc)) := by rw [← Hw0.out]; exact hbx
  have HB0 : Hid (∀ W, Below w0.heap.size w0 W → Below w.heap.size w W) := fun W b => Below.next b0 b
  have D0 := C0 w0 b0
  have d1 : (z != 0) = true := by simpa using h0
  have d2 : (z == 0) = false := by simpa using h0
  have d3 : (z != z) = false := by simp
  have d4 : (z == z) = true := by simp
  clear hbx h0 C0 b0
  go_enter Tryd.func3, Tryd.ntmps3
  go_wp2_with (first
    | (go_at_call 8; rw [Hw0.out]; refine D0.mono ?_; rintro e w1 ⟨rfl, b1⟩; clear D0 x0 x1 x2; obtain ⟨y0, y1, y2⟩ := HBX.out w1 b1; have D1 := C1 w1 (HB0.out w1 b1); clear C1)
    | (go_at_call 10; refine D1.mono ?_; rintro e w2 ⟨rfl, b2⟩; clear D1 y0 y1 y2; have q2 := Below.next b1 b2; obtain ⟨y0, y1, y2⟩ := HBX.out w2 q2; have D2 := C2 w2 (HB0.out w2 q2); clear C2)
    | (go_at_call 11; refine D2.mono ?_; rintro e w3 ⟨rfl, b3⟩; clear D2 y0 y1 y2; have q3 := Below.next q2 b3; obtain ⟨y0, y1, y2⟩ := HBX.out w3 q3; have D3 := C3 w3 (HB0.out w3 q3); clear C3)
    | (go_at_call 12; refine D3.mono ?_; rintro e w4 ⟨rfl, b4⟩; clear D3; have q4 := Below.next q3 b4))
  go_ret
  exact ⟨by first | rfl | simp, HB0.out _ q4⟩
set_option maxRecDepth 100000 in
set_option maxHeartbeats 8000000 in
theorem law3_rows (P K n z : Nat) (v u x : Value) (w : World) (hv : ∃ a m c, v = .slice a m c) (hu : ∃ a m c, u = .slice a m c) (hx : ∃ a m c, x = .slice a m c) (h0 : z ≠ 0)
    (C0 : ∀ W, Below w.heap.size w W → Calls Tryd.prog 8 #[.agg #[.int .i64 (P : Int), .int .i64 (K : Int), v], .int .i64 (n : Int)] W fun e w' => e = .returned (.int .i64 0) ∧ Below W.heap.size W w')
    (CR : ∀ W, Below w.heap.size w W → Calls Tryd.prog 9 #[.agg #[.int .i64 (P : Int), .int .i64 (K : Int), v], .int .i64 (n : Int), u] W fun e w' => e = .returned (.int .i64 (z : Int)) ∧ Below W.heap.size W w')
    (C1 : ∀ W, Below w.heap.size w W → Calls Tryd.prog 10 #[.agg #[.int .i64 (P : Int), .int .i64 (K : Int), v], .int .i64 (n : Int), u] W fun e w' => e = .returned (.tuple #[.slice none 0 0, .int .i64 (z : Int)]) ∧ Below W.heap.size W w')
    (C2 : ∀ W, Below w.heap.size w W → Calls Tryd.prog 11 #[.agg #[.int .i64 (P : Int), .int .i64 (K : Int), v], .int .i64 (n : Int), u] W fun e w' => e = .returned (.tuple #[.slice none 0 0, .int .i64 (z : Int)]) ∧ Below W.heap.size W w')
    (C3 : ∀ W, Below w.heap.size w W → Calls Tryd.prog 12 #[.agg #[.int .i64 (P : Int), .int .i64 (K : Int), v], .int .i64 (n : Int), u, x] W fun e w' => e = .returned (.tuple #[.bool false, .int .i64 (z : Int)]) ∧ Below W.heap.size W w') :
    Calls Tryd.prog 3 #[.agg #[.int .i64 (P : Int), .int .i64 (K : Int), v], .int .i64 (n : Int), u, x] w fun e w' => e = .returned (.bool true) ∧ Below w.heap.size w w' := by
  obtain ⟨fa, fn, fc, rfl⟩ := hv
  obtain ⟨ua, um, uc, rfl⟩ := hu
  obtain ⟨xa, xm, xc, rfl⟩ := hx
  have b0 := balloc w (.cells #[.int .i64 (P : Int), .int .i64 (K : Int), .slice fa fn fc] 24)
  have hbx := fl_box (P : Int) (K : Int) (.slice fa fn fc) w
  obtain ⟨w0, Hw0⟩ : ∃ w0, Hid (w.alloc (.cells #[.int .i64 (P : Int), .int .i64 (K : Int), .slice fa fn fc] 24) = w0) := ⟨_, rfl⟩
  obtain ⟨x0, x1, x2⟩ := hbx _ (Below.refl _ _)
  rw [Hw0.out] at b0
  have HBX : Hid (∀ W, Below w0.heap.size w0 W → W.cell? ⟨w.heap.size, 0, none⟩ = some (.int .i64 (P : Int)) ∧ W.cell? ⟨w.heap.size, 1, none⟩ = some (.int .i64 (K : Int)) ∧ W.cell? ⟨w.heap.size, 2, none⟩ = some (.slice fa fn fc)) := by rw [← Hw0.out]; exact hbx
  have HB0 : Hid (∀ W, Below w0.heap.size w0 W → Below w.heap.size w W) := fun W b => Below.next b0 b
  have D0 := C0 w0 b0
  have d1 : ((z : Int) != 0) = true := by simp; omega
  have d2 : ((z : Int) == 0) = false := by simp; omega
  have d3 : ((z : Int) != (z : Int)) = false := by simp
  have d4 : ((z : Int) == (z : Int)) = true := by simp
  clear hbx h0 C0 b0
  go_enter Tryd.func3, Tryd.ntmps3
  go_wp2_with (first
    | (go_at_call 8; rw [Hw0.out]; refine D0.mono ?_; rintro e w1 ⟨rfl, b1⟩; clear D0 x0 x1 x2; obtain ⟨y0, y1, y2⟩ := HBX.out w1 b1; have DR := CR w1 (HB0.out w1 b1); clear CR)
    | (go_at_call 9; refine DR.mono ?_; rintro e wr ⟨rfl, br⟩; clear DR y0 y1 y2; have qr := Below.next b1 br; obtain ⟨y0, y1, y2⟩ := HBX.out wr qr; have D1 := C1 wr (HB0.out wr qr); clear C1)
    | (go_at_call 10; refine D1.mono ?_; rintro e w2 ⟨rfl, b2⟩; clear D1 y0 y1 y2; have q2 := Below.next qr b2; obtain ⟨y0, y1, y2⟩ := HBX.out w2 q2; have D2 := C2 w2 (HB0.out w2 q2); clear C2)
    | (go_at_call 11; refine D2.mono ?_; rintro e w3 ⟨rfl, b3⟩; clear D2 y0 y1 y2; have q3 := Below.next q2 b3; obtain ⟨y0, y1, y2⟩ := HBX.out w3 q3; have D3 := C3 w3 (HB0.out w3 q3); clear C3)
    | (go_at_call 12; refine D3.mono ?_; rintro e w4 ⟨rfl, b4⟩; clear D3; have q4 := Below.next q3 b4))
  go_ret
  exact ⟨by first | rfl | simp, HB0.out _ q4⟩
end Go.Proofs.YtgdkfbgehbdkjaaDoor

namespace Go.Proofs.YtgdkfbgehbdkjaaDoor
open Go.RowKit

set_option maxRecDepth 100000 in
set_option maxHeartbeats 8000000 in
theorem law3_row (P K n : Nat) (l : List Int) (v u x : Value) (S : List (List Nat)) (r : List Int) (z : Nat) (w : World) (hF : Fld P K l v w) (hu : Rw w u (toZ S)) (hS : Rws (P ^ K) n S) (hSl : S.length ≤ 12) (h1 : 1 ≤ n) (h6 : n ≤ 6) (hf : (P ^ K) ^ n ≤ 4096) (hx : Sl w x r) (hxl : r.length ≤ maxLen) (hz : Hid (rwE (P ^ K) n r = z)) (h0 : z ≠ 0) :
    Calls Tryd.prog 3 #[.agg #[.int .i64 (P : Int), .int .i64 (K : Int), v], .int .i64 (n : Int), u, x] w fun e w' => e = .returned (.bool true) ∧ Below w.heap.size w w' := by
  have zS := rs_zero hS hSl
  have hfq := hF.fqr
  have C0 : ∀ W, Below w.heap.size w W → Calls Tryd.prog 8 #[.agg #[.int .i64 (P : Int), .int .i64 (K : Int), v], .int .i64 (n : Int)] W fun e w' => e = .returned (.int .i64 0) ∧ Below W.heap.size W w' := fun W b => RoomFault_ok (hF.below b) h1 h6 hf
  have hlm : ∀ r ∈ toZ S, r.length ≤ maxLen := toZ_max hS h6
  have hRC : ∀ W, Below w.heap.size w W → RwC W u (toZ S) := fun W b => ⟨hu.below b, by rw [toZ_len]; exact len_max (by omega), hlm⟩
  have CR : ∀ W, Below w.heap.size w W → Calls Tryd.prog 9 #[.agg #[.int .i64 (P : Int), .int .i64 (K : Int), v], .int .i64 (n : Int), u] W fun e w' => e = .returned (.int .i64 ((0 : Nat) : Int)) ∧ Below W.heap.size W w' := fun W b => RowsFault_any P K n l (toZ S) v u W (hF.below b) (hRC W b) h6 0 zS
  have hop : ∀ W, Below w.heap.size w W → OpC P K n v [u] [toZ S] W 0 (rmV P K v n) := fun W b => opc_rows (hF.below b) h1 h6 hf _ _ (by simp) (by rw [lsE_one, zS])
  have C1 : ∀ W, Below w.heap.size w W → Calls Tryd.prog 10 #[.agg #[.int .i64 (P : Int), .int .i64 (K : Int), v], .int .i64 (n : Int), u] W fun e w' => BaR (P ^ K) (adF P K) (muF P K l) n (Spn (P ^ K) (adF P K) (muF P K l) n S) e w' ∧ Below W.heap.size W w' := fun W b => Basis_ok P K n l v u S W (hF.below b) (hu.below b) hS hSl h1 h6 (hop W b)
  have C2 : ∀ W, Below w.heap.size w W → Calls Tryd.prog 11 #[.agg #[.int .i64 (P : Int), .int .i64 (K : Int), v], .int .i64 (n : Int), u] W fun e w' => BaR (P ^ K) (adF P K) (muF P K l) n (Nrm (P ^ K) (adF P K) (muF P K l) n S) e w' ∧ Below W.heap.size W w' := fun W b => Normal_ok P K n l v u S W (hF.below b) (hu.below b) hS hSl h1 h6 (hop W b)
  have CSp : ∀ W, Below w.heap.size w W → Calls Tryd.prog 13 #[.agg #[.int .i64 (P : Int), .int .i64 (K : Int), v], .int .i64 (n : Int), u] W fun e w' => ∃ g V, e = .returned (.slice (some ⟨g, 0, none⟩) ((P ^ K) ^ n) ((P ^ K) ^ n)) ∧ OwnB w' g ((P ^ K) ^ n) V ∧ (∀ c, c < (P ^ K) ^ n → (V c = true ↔ (Spn (P ^ K) (adF P K) (muF P K l) n S) (opn (P ^ K) n c))) ∧ Below W.heap.size W w' := fun W b => Span_any P K n l S v u W (hF.below b) (hu.below b) hS h1 h6 hf (by omega)
  have CNt : ∀ W, Below w.heap.size w W → Calls Tryd.prog 16 #[.agg #[.int .i64 (P : Int), .int .i64 (K : Int), v], .int .i64 (n : Int), u] W fun e w' => ∃ g V, e = .returned (.slice (some ⟨g, 0, none⟩) ((P ^ K) ^ n) ((P ^ K) ^ n)) ∧ OwnB w' g ((P ^ K) ^ n) V ∧ (∀ c, c < (P ^ K) ^ n → (V c = true ↔ Nrm (P ^ K) (adF P K) (muF P K l) n S (opn (P ^ K) n c))) ∧ Below W.heap.size W w' := fun W b => NormalTo_any P K n l S v u W (hF.below b) (hu.below b) hS h1 h6 hf (by omega)
  have HBo : Hid (∀ (W : World) (y : Value) (V : Nat → Bool), Below w.heap.size w W → RdB W y ((P ^ K) ^ n) V → Calls Tryd.prog 14 #[.agg #[.int .i64 (P : Int), .int .i64 (K : Int), v], .int .i64 (n : Int), y] W fun e w' => ∃ x, e = .returned x ∧ Rw w' x (toZ (basL (P ^ K) n (vvB (P ^ K) n V))) ∧ Below W.heap.size W w') := fun W y V b hy => BasisOf_any P K n l V v y W (hF.below b) hy h1 h6 hf
  have HE1 : Hid (∀ (V : Nat → Bool) X, (∀ c, c < (P ^ K) ^ n → (V c = true ↔ (Spn (P ^ K) (adF P K) (muF P K l) n S) (opn (P ^ K) n c))) → BasIs (P ^ K) (adF P K) (muF P K l) n (Spn (P ^ K) (adF P K) (muF P K l) n S) X → basL (P ^ K) n (vvB (P ^ K) n V) = X) := fun V X hV hX => bas_is hfq (hX.congr fun v => (vv_is hfq.pos hV (fun v k => k.vc hfq hS) v).symm)
  have HE2 : Hid (∀ (V : Nat → Bool) X, (∀ c, c < (P ^ K) ^ n → (V c = true ↔ Nrm (P ^ K) (adF P K) (muF P K l) n S (opn (P ^ K) n c))) → BasIs (P ^ K) (adF P K) (muF P K l) n (Nrm (P ^ K) (adF P K) (muF P K l) n S) X → basL (P ^ K) n (vvB (P ^ K) n V) = X) := fun V X hV hX => bas_is hfq (hX.congr fun v => (vv_is hfq.pos hV (fun v k => k.1) v).symm)
  have C3 : ∀ W, Below w.heap.size w W → Calls Tryd.prog 12 #[.agg #[.int .i64 (P : Int), .int .i64 (K : Int), v], .int .i64 (n : Int), u, x] W fun e w' => e = .returned (.tuple #[.bool false, .int .i64 (z : Int)]) ∧ Below W.heap.size W w' := fun W b => Has_row P K n l v u x S r z W (hF.below b) (hu.below b) hS hSl h1 h6 (hop W b) (hx.below b) hxl hz h0
  have CRo : ∀ W, Below w.heap.size w W → Calls Tryd.prog 17 #[.agg #[.int .i64 (P : Int), .int .i64 (K : Int), v], .int .i64 (n : Int), x] W fun e w' => e = .returned (.int .i64 (z : Int)) ∧ Below W.heap.size W w' := fun W b => RowFault_any P K n l r v x W (hF.below b) (hx.below b) hxl h6 z hz
  obtain ⟨xa, xc, rfl, _⟩ := id hx
  obtain ⟨xm, Hxm⟩ : ∃ xm, Hid (r.length = xm) := ⟨_, rfl⟩
  rw [Hxm.out] at C3 CRo ⊢
  obtain ⟨fa, fn, fc, rfl⟩ : ∃ fa fn fc, v = .slice fa fn fc := by obtain ⟨a, c, e, _⟩ := hF.sl; exact ⟨a, _, c, e⟩
  obtain ⟨ua, um, uc, rfl, _⟩ := rw_formH hu
  have b0 := balloc w (.cells #[.int .i64 (P : Int), .int .i64 (K : Int), .slice fa fn fc] 24)
  have hbx := fl_box (P : Int) (K : Int) (.slice fa fn fc) w
  obtain ⟨w0, Hw0⟩ : ∃ w0, Hid (w.alloc (.cells #[.int .i64 (P : Int), .int .i64 (K : Int), .slice fa fn fc] 24) = w0) := ⟨_, rfl⟩
  obtain ⟨x0, x1, x2⟩ := hbx _ (Below.refl _ _)
  rw [Hw0.out] at b0
  have HBX : Hid (∀ W, Below w0.heap.size w0 W → W.cell? ⟨w.heap.size, 0, none⟩ = some (.int .i64 (P : Int)) ∧ W.cell? ⟨w.heap.size, 1, none⟩ = some (.int .i64 (K : Int)) ∧ W.cell? ⟨w.heap.size, 2, none⟩ = some (.slice fa fn fc)) := by rw [← Hw0.out]; exact hbx
  have HB0 : Hid (∀ W, Below w0.heap.size w0 W → Below w.heap.size w W) := fun W b => Below.next b0 b
  have D0 := C0 w0 b0
  obtain ⟨A, HA⟩ : ∃ A, Hid ((P ^ K) ^ n = A) := ⟨_, rfl⟩
  rw [HA.out] at CSp CNt HBo HE1 HE2
  have d1 : ((z : Int) != 0) = true := by simp; omega
  have d3 : ((z : Int) == (z : Int)) = true := by simp
  clear hbx h0 C0 b0 hop hRC hlm zS hx hz hxl hF hu hS hfq hf
  go_enter Tryd.func3, Tryd.ntmps3
  go_wp2_with (first
    | (go_at_call 8; rw [Hw0.out]; refine D0.mono ?_; rintro e w1 ⟨rfl, b1⟩; clear D0 x0 x1 x2; obtain ⟨y0, y1, y2⟩ := HBX.out w1 b1; have DR := CR w1 (HB0.out w1 b1); clear CR)
    | (go_at_call 9; refine DR.mono ?_; rintro e wr ⟨rfl, br⟩; clear DR y0 y1 y2; have qr := Below.next b1 br; obtain ⟨y0, y1, y2⟩ := HBX.out wr qr; have D1 := C1 wr (HB0.out wr qr); clear C1)
    | (go_at_call 10; refine D1.mono ?_; rintro e w2 ⟨⟨r1, X, rfl, hX, hr1⟩, b2⟩; obtain ⟨aa, am, ac, rfl, Ham⟩ := rw_formH hr1; clear D1 y0 y1 y2; have q2 := Below.next qr b2; obtain ⟨y0, y1, y2⟩ := HBX.out w2 q2; have D2 := C2 w2 (HB0.out w2 q2); clear C2)
    | (go_at_call 11; refine D2.mono ?_; rintro e w3 ⟨⟨r2, U, rfl, hU, hr2⟩, b3⟩; obtain ⟨ba, bm, bc, rfl, Hbm⟩ := rw_formH hr2; clear D2 y0 y1 y2; have q3 := Below.next q2 b3; obtain ⟨y0, y1, y2⟩ := HBX.out w3 q3; have D3 := C3 w3 (HB0.out w3 q3); clear C3)
    | (go_at_call 12; refine D3.mono ?_; rintro e w4 ⟨rfl, b4⟩; clear D3 y0 y1 y2; have q4 := Below.next q3 b4; obtain ⟨y0, y1, y2⟩ := HBX.out w4 q4; have D4 := CSp w4 (HB0.out w4 q4); clear CSp)
    | (go_at_call 13; refine D4.mono ?_; rintro e w5 ⟨g5, V5, rfl, hO5, hV5, b5⟩; clear D4 y0 y1 y2; have q5 := Below.next q4 b5; obtain ⟨y0, y1, y2⟩ := HBX.out w5 q5; have D5 := HBo.out w5 _ V5 (HB0.out w5 q5) hO5.rd; rw [HE1.out V5 X hV5 hX] at D5)
    | (go_at_call 14; refine D5.mono ?_; rintro e w6 ⟨r6, rfl, hr6, b6⟩; obtain ⟨ca, cm, cc, rfl, Hcm⟩ := rw_formH hr6; clear D5 y0 y1 y2; have q6 := Below.next q5 b6; obtain ⟨y0, y1, y2⟩ := HBX.out w6 q6; have D6 := lists_same (hr1.below (Below.next (Below.next (Below.next b3 b4) b5) b6)) hr6 hX.rref h6)
    | (go_at_call 15; refine D6.mono ?_; rintro e w7 ⟨rfl, b7⟩; clear D6 y0 y1 y2; have q7 := Below.next q6 b7; obtain ⟨y0, y1, y2⟩ := HBX.out w7 q7; have D7 := CNt w7 (HB0.out w7 q7); clear CNt)
    | (go_at_call 16; refine D7.mono ?_; rintro e w8 ⟨g8, V8, rfl, hO8, hV8, b8⟩; clear D7 y0 y1 y2; have q8 := Below.next q7 b8; obtain ⟨y0, y1, y2⟩ := HBX.out w8 q8; have D8 := HBo.out w8 _ V8 (HB0.out w8 q8) hO8.rd; rw [HE2.out V8 U hV8 hU] at D8)
    | (go_at_call 14; refine D8.mono ?_; rintro e w9 ⟨r9, rfl, hr9, b9⟩; obtain ⟨da, dm, dc, rfl, Hdm⟩ := rw_formH hr9; clear D8 y0 y1 y2; have q9 := Below.next q8 b9; obtain ⟨y0, y1, y2⟩ := HBX.out w9 q9; have D9 := lists_same (hr2.below (Below.next (Below.next (Below.next (Below.next (Below.next b4 b5) b6) b7) b8) b9)) hr9 hU.rref h6)
    | (go_at_call 15; refine D9.mono ?_; rintro e w10 ⟨rfl, b10⟩; clear D9 y0 y1 y2; have q10 := Below.next q9 b10; obtain ⟨y0, y1, y2⟩ := HBX.out w10 q10; have D10 := CRo w10 (HB0.out w10 q10); clear CRo)
    | (go_at_call 17; refine D10.mono ?_; rintro e w11 ⟨rfl, b11⟩; clear D10; have q11 := Below.next q10 b11))
  go_ret
  exact ⟨by first | rfl | simp, HB0.out _ q11⟩
open Classical in
set_option maxRecDepth 100000 in
set_option maxHeartbeats 8000000 in
theorem law3_ok (P K n : Nat) (l : List Int) (v u x : Value) (S : List (List Nat)) (r : List Nat) (w : World) (hF : Fld P K l v w) (hu : Rw w u (toZ S)) (hS : Rws (P ^ K) n S) (hSl : S.length ≤ 12) (h1 : 1 ≤ n) (h6 : n ≤ 6) (hf : (P ^ K) ^ n ≤ 4096) (hx : Sl w x (r.map Int.ofNat)) (hr : Vc (P ^ K) n r) :
    Calls Tryd.prog 3 #[.agg #[.int .i64 (P : Int), .int .i64 (K : Int), v], .int .i64 (n : Int), u, x] w fun e w' => e = .returned (.bool true) ∧ Below w.heap.size w w' := by
  have zS := rs_zero hS hSl
  have hfq := hF.fqr
  have C0 : ∀ W, Below w.heap.size w W → Calls Tryd.prog 8 #[.agg #[.int .i64 (P : Int), .int .i64 (K : Int), v], .int .i64 (n : Int)] W fun e w' => e = .returned (.int .i64 0) ∧ Below W.heap.size W w' := fun W b => RoomFault_ok (hF.below b) h1 h6 hf
  have hlm : ∀ r ∈ toZ S, r.length ≤ maxLen := toZ_max hS h6
  have hRC : ∀ W, Below w.heap.size w W → RwC W u (toZ S) := fun W b => ⟨hu.below b, by rw [toZ_len]; exact len_max (by omega), hlm⟩
  have CR : ∀ W, Below w.heap.size w W → Calls Tryd.prog 9 #[.agg #[.int .i64 (P : Int), .int .i64 (K : Int), v], .int .i64 (n : Int), u] W fun e w' => e = .returned (.int .i64 ((0 : Nat) : Int)) ∧ Below W.heap.size W w' := fun W b => RowsFault_any P K n l (toZ S) v u W (hF.below b) (hRC W b) h6 0 zS
  have hop : ∀ W, Below w.heap.size w W → OpC P K n v [u] [toZ S] W 0 (rmV P K v n) := fun W b => opc_rows (hF.below b) h1 h6 hf _ _ (by simp) (by rw [lsE_one, zS])
  have C1 : ∀ W, Below w.heap.size w W → Calls Tryd.prog 10 #[.agg #[.int .i64 (P : Int), .int .i64 (K : Int), v], .int .i64 (n : Int), u] W fun e w' => BaR (P ^ K) (adF P K) (muF P K l) n (Spn (P ^ K) (adF P K) (muF P K l) n S) e w' ∧ Below W.heap.size W w' := fun W b => Basis_ok P K n l v u S W (hF.below b) (hu.below b) hS hSl h1 h6 (hop W b)
  have C2 : ∀ W, Below w.heap.size w W → Calls Tryd.prog 11 #[.agg #[.int .i64 (P : Int), .int .i64 (K : Int), v], .int .i64 (n : Int), u] W fun e w' => BaR (P ^ K) (adF P K) (muF P K l) n (Nrm (P ^ K) (adF P K) (muF P K l) n S) e w' ∧ Below W.heap.size W w' := fun W b => Normal_ok P K n l v u S W (hF.below b) (hu.below b) hS hSl h1 h6 (hop W b)
  have CSp : ∀ W, Below w.heap.size w W → Calls Tryd.prog 13 #[.agg #[.int .i64 (P : Int), .int .i64 (K : Int), v], .int .i64 (n : Int), u] W fun e w' => ∃ g V, e = .returned (.slice (some ⟨g, 0, none⟩) ((P ^ K) ^ n) ((P ^ K) ^ n)) ∧ OwnB w' g ((P ^ K) ^ n) V ∧ (∀ c, c < (P ^ K) ^ n → (V c = true ↔ (Spn (P ^ K) (adF P K) (muF P K l) n S) (opn (P ^ K) n c))) ∧ Below W.heap.size W w' := fun W b => Span_any P K n l S v u W (hF.below b) (hu.below b) hS h1 h6 hf (by omega)
  have CNt : ∀ W, Below w.heap.size w W → Calls Tryd.prog 16 #[.agg #[.int .i64 (P : Int), .int .i64 (K : Int), v], .int .i64 (n : Int), u] W fun e w' => ∃ g V, e = .returned (.slice (some ⟨g, 0, none⟩) ((P ^ K) ^ n) ((P ^ K) ^ n)) ∧ OwnB w' g ((P ^ K) ^ n) V ∧ (∀ c, c < (P ^ K) ^ n → (V c = true ↔ Nrm (P ^ K) (adF P K) (muF P K l) n S (opn (P ^ K) n c))) ∧ Below W.heap.size W w' := fun W b => NormalTo_any P K n l S v u W (hF.below b) (hu.below b) hS h1 h6 hf (by omega)
  have HBo : Hid (∀ (W : World) (y : Value) (V : Nat → Bool), Below w.heap.size w W → RdB W y ((P ^ K) ^ n) V → Calls Tryd.prog 14 #[.agg #[.int .i64 (P : Int), .int .i64 (K : Int), v], .int .i64 (n : Int), y] W fun e w' => ∃ x, e = .returned x ∧ Rw w' x (toZ (basL (P ^ K) n (vvB (P ^ K) n V))) ∧ Below W.heap.size W w') := fun W y V b hy => BasisOf_any P K n l V v y W (hF.below b) hy h1 h6 hf
  have HE1 : Hid (∀ (V : Nat → Bool) X, (∀ c, c < (P ^ K) ^ n → (V c = true ↔ (Spn (P ^ K) (adF P K) (muF P K l) n S) (opn (P ^ K) n c))) → BasIs (P ^ K) (adF P K) (muF P K l) n (Spn (P ^ K) (adF P K) (muF P K l) n S) X → basL (P ^ K) n (vvB (P ^ K) n V) = X) := fun V X hV hX => bas_is hfq (hX.congr fun v => (vv_is hfq.pos hV (fun v k => k.vc hfq hS) v).symm)
  have HE2 : Hid (∀ (V : Nat → Bool) X, (∀ c, c < (P ^ K) ^ n → (V c = true ↔ Nrm (P ^ K) (adF P K) (muF P K l) n S (opn (P ^ K) n c))) → BasIs (P ^ K) (adF P K) (muF P K l) n (Nrm (P ^ K) (adF P K) (muF P K l) n S) X → basL (P ^ K) n (vvB (P ^ K) n V) = X) := fun V X hV hX => bas_is hfq (hX.congr fun v => (vv_is hfq.pos hV (fun v k => k.1) v).symm)
  have HEnd : Hid (∀ (V : Nat → Bool), (∀ c, c < (P ^ K) ^ n → (V c = true ↔ (Spn (P ^ K) (adF P K) (muF P K l) n S) (opn (P ^ K) n c))) → V (shu (P ^ K) r) = decide ((Spn (P ^ K) (adF P K) (muF P K l) n S) r)) := fun V hV => by
    have h := hV (shu (P ^ K) r) (shu_lt hfq.pos n r hr)
    rw [opn_shu hfq.pos n r hr] at h
    rw [Bool.eq_iff_iff, h]
    simp
  have hzl := shu_lt hfq.pos n r hr
  obtain ⟨tt, Htt⟩ : ∃ tt, Hid (decide ((Spn (P ^ K) (adF P K) (muF P K l) n S) r) = tt) := ⟨_, rfl⟩
  obtain ⟨z, Hz⟩ : ∃ z, Hid (shu (P ^ K) r = z) := ⟨_, rfl⟩
  rw [Htt.out, Hz.out] at HEnd
  rw [Hz.out] at hzl
  have C3 : ∀ W, Below w.heap.size w W → Calls Tryd.prog 12 #[.agg #[.int .i64 (P : Int), .int .i64 (K : Int), v], .int .i64 (n : Int), u, x] W fun e w' => e = .returned (.tuple #[.bool tt, .int .i64 0]) ∧ Below W.heap.size W w' := fun W b => by
    have h := Has_ok P K n l v u x S r W (hF.below b) (hu.below b) hS hSl h1 h6 (hop W b) (hx.below b) hr
    rw [Htt.out] at h
    exact h
  have CRo : ∀ W, Below w.heap.size w W → Calls Tryd.prog 17 #[.agg #[.int .i64 (P : Int), .int .i64 (K : Int), v], .int .i64 (n : Int), x] W fun e w' => e = .returned (.int .i64 ((0 : Nat) : Int)) ∧ Below W.heap.size W w' := fun W b => RowFault_any P K n l _ v x W (hF.below b) (hx.below b) (by rw [List.length_map, hr.len]; exact len_max (by omega)) h6 0 (rwE_vc hr)
  have CSh : ∀ W, Below w.heap.size w W → Calls Tryd.prog 18 #[.agg #[.int .i64 (P : Int), .int .i64 (K : Int), v], x] W fun e w' => e = .returned (.int .i64 (z : Int)) ∧ Below W.heap.size W w' := fun W b => Shut_any P K n l r v x W (hF.below b) (hx.below b) hr h6 hf z Hz
  obtain ⟨xa, xc, rfl, _⟩ := id hx
  obtain ⟨xm, Hxm⟩ : ∃ xm, Hid ((r.map Int.ofNat).length = xm) := ⟨_, rfl⟩
  rw [Hxm.out] at C3 CRo CSh ⊢
  obtain ⟨fa, fn, fc, rfl⟩ : ∃ fa fn fc, v = .slice fa fn fc := by obtain ⟨a, c, e, _⟩ := hF.sl; exact ⟨a, _, c, e⟩
  obtain ⟨ua, um, uc, rfl, _⟩ := rw_formH hu
  have b0 := balloc w (.cells #[.int .i64 (P : Int), .int .i64 (K : Int), .slice fa fn fc] 24)
  have hbx := fl_box (P : Int) (K : Int) (.slice fa fn fc) w
  obtain ⟨w0, Hw0⟩ : ∃ w0, Hid (w.alloc (.cells #[.int .i64 (P : Int), .int .i64 (K : Int), .slice fa fn fc] 24) = w0) := ⟨_, rfl⟩
  obtain ⟨x0, x1, x2⟩ := hbx _ (Below.refl _ _)
  rw [Hw0.out] at b0
  have HBX : Hid (∀ W, Below w0.heap.size w0 W → W.cell? ⟨w.heap.size, 0, none⟩ = some (.int .i64 (P : Int)) ∧ W.cell? ⟨w.heap.size, 1, none⟩ = some (.int .i64 (K : Int)) ∧ W.cell? ⟨w.heap.size, 2, none⟩ = some (.slice fa fn fc)) := by rw [← Hw0.out]; exact hbx
  have HB0 : Hid (∀ W, Below w0.heap.size w0 W → Below w.heap.size w W) := fun W b => Below.next b0 b
  have D0 := C0 w0 b0
  obtain ⟨A, HA⟩ : ∃ A, Hid ((P ^ K) ^ n = A) := ⟨_, rfl⟩
  rw [HA.out] at CSp CNt HBo HE1 HE2 HEnd hzl hf
  have hzi : (z : Int) < (A : Int) := by omega
  have d0 : ((0 : Int) == 0) = true := by simp
  clear hbx C0 b0 hop hRC hlm zS hx hF hu hS hfq hr Hz
  go_enter Tryd.func3, Tryd.ntmps3
  go_wp2_with (first
    | (go_at_call 8; rw [Hw0.out]; refine D0.mono ?_; rintro e w1 ⟨rfl, b1⟩; clear D0 x0 x1 x2; obtain ⟨y0, y1, y2⟩ := HBX.out w1 b1; have DR := CR w1 (HB0.out w1 b1); clear CR)
    | (go_at_call 9; refine DR.mono ?_; rintro e wr ⟨rfl, br⟩; clear DR y0 y1 y2; have qr := Below.next b1 br; obtain ⟨y0, y1, y2⟩ := HBX.out wr qr; have D1 := C1 wr (HB0.out wr qr); clear C1)
    | (go_at_call 10; refine D1.mono ?_; rintro e w2 ⟨⟨r1, X, rfl, hX, hr1⟩, b2⟩; obtain ⟨aa, am, ac, rfl, Ham⟩ := rw_formH hr1; clear D1 y0 y1 y2; have q2 := Below.next qr b2; obtain ⟨y0, y1, y2⟩ := HBX.out w2 q2; have D2 := C2 w2 (HB0.out w2 q2); clear C2)
    | (go_at_call 11; refine D2.mono ?_; rintro e w3 ⟨⟨r2, U, rfl, hU, hr2⟩, b3⟩; obtain ⟨ba, bm, bc, rfl, Hbm⟩ := rw_formH hr2; clear D2 y0 y1 y2; have q3 := Below.next q2 b3; obtain ⟨y0, y1, y2⟩ := HBX.out w3 q3; have D3 := C3 w3 (HB0.out w3 q3); clear C3)
    | (go_at_call 12; refine D3.mono ?_; rintro e w4 ⟨rfl, b4⟩; clear D3 y0 y1 y2; have q4 := Below.next q3 b4; obtain ⟨y0, y1, y2⟩ := HBX.out w4 q4; have D4 := CSp w4 (HB0.out w4 q4); clear CSp)
    | (go_at_call 13; refine D4.mono ?_; rintro e w5 ⟨g5, V5, rfl, hO5, hV5, b5⟩; clear D4 y0 y1 y2; have q5 := Below.next q4 b5; obtain ⟨y0, y1, y2⟩ := HBX.out w5 q5; have D5 := HBo.out w5 _ V5 (HB0.out w5 q5) hO5.rd; rw [HE1.out V5 X hV5 hX] at D5)
    | (go_at_call 14; refine D5.mono ?_; rintro e w6 ⟨r6, rfl, hr6, b6⟩; obtain ⟨ca, cm, cc, rfl, Hcm⟩ := rw_formH hr6; clear D5 y0 y1 y2; have q6 := Below.next q5 b6; obtain ⟨y0, y1, y2⟩ := HBX.out w6 q6; have D6 := lists_same (hr1.below (Below.next (Below.next (Below.next b3 b4) b5) b6)) hr6 hX.rref h6)
    | (go_at_call 15; refine D6.mono ?_; rintro e w7 ⟨rfl, b7⟩; clear D6 y0 y1 y2; have q7 := Below.next q6 b7; obtain ⟨y0, y1, y2⟩ := HBX.out w7 q7; have D7 := CNt w7 (HB0.out w7 q7); clear CNt)
    | (go_at_call 16; refine D7.mono ?_; rintro e w8 ⟨g8, V8, rfl, hO8, hV8, b8⟩; clear D7 y0 y1 y2; have q8 := Below.next q7 b8; obtain ⟨y0, y1, y2⟩ := HBX.out w8 q8; have D8 := HBo.out w8 _ V8 (HB0.out w8 q8) hO8.rd; rw [HE2.out V8 U hV8 hU] at D8)
    | (go_at_call 14; refine D8.mono ?_; rintro e w9 ⟨r9, rfl, hr9, b9⟩; obtain ⟨da, dm, dc, rfl, Hdm⟩ := rw_formH hr9; clear D8 y0 y1 y2; have q9 := Below.next q8 b9; obtain ⟨y0, y1, y2⟩ := HBX.out w9 q9; have D9 := lists_same (hr2.below (Below.next (Below.next (Below.next (Below.next (Below.next b4 b5) b6) b7) b8) b9)) hr9 hU.rref h6)
    | (go_at_call 15; refine D9.mono ?_; rintro e w10 ⟨rfl, b10⟩; clear D9 y0 y1 y2; have q10 := Below.next q9 b10; obtain ⟨y0, y1, y2⟩ := HBX.out w10 q10; have D10 := CRo w10 (HB0.out w10 q10); clear CRo)
    | (go_at_call 17; refine D10.mono ?_; rintro e w11 ⟨rfl, b11⟩; clear D10 y0 y1 y2; have q11 := Below.next q10 b11; obtain ⟨y0, y1, y2⟩ := HBX.out w11 q11; have D11 := CSh w11 (HB0.out w11 q11); clear CSh)
    | (go_at_call 18; refine D11.mono ?_; rintro e w12 ⟨rfl, b12⟩; clear D11; have q12 := Below.next q11 b12; have hOz := hO5.below (Below.next (Below.next (Below.next (Below.next (Below.next (Below.next b6 b7) b8) b9) b10) b11) b12); have cz := hOz.cell hzl; rw [HEnd.out V5 hV5] at cz))
  go_ret
  exact ⟨by first | rfl | simp | (cases tt <;> rfl), HB0.out _ q12⟩
theorem law3_any (p k n : Int) (l : List Int) (rs : List (List Int)) (r : List Int) (v u x : Value) (w : World) (hT : Fd.Tab w) (hl : Fd.Sl w v l) (hll : l.length ≤ maxLen) (hu : RwC w u rs) (hx : Sl w x r) (hxl : r.length ≤ maxLen) :
    Calls Tryd.prog 3 #[.agg #[.int .i64 p, .int .i64 k, v], .int .i64 n, u, x] w fun e w' => e = .returned (.bool true) ∧ Below w.heap.size w w' := by
  have hv : ∃ a m c, v = .slice a m c := by obtain ⟨a, c, e, _⟩ := hl; exact ⟨a, _, c, e⟩
  have hu' : ∃ a m c, u = .slice a m c := by obtain ⟨a, m, c, e, _⟩ := hu.form; exact ⟨a, m, c, e⟩
  have hx' : ∃ a m c, x = .slice a m c := by obtain ⟨a, c, e, _⟩ := hx; exact ⟨a, _, c, e⟩
  rcases room_cases p k l n with ⟨z, hz⟩ | ⟨P, K, N, rfl, rfl, rfl, hG, h1, h6, hf⟩
  · have hO : ∀ W, Below w.heap.size w W → OpC p k n v [u] [rs] W z undef := fun W b => hz.op (hT.below b) (hl.below b) hll _ _ _
    exact law3_err p k n z v u x w hv hu' hx' hz.ne (fun W b => RoomFault_err hz (hT.below b) (hl.below b) hll) (fun W b => Basis_err p k n z v u rs undef W hv (hu.below b) (hO W b) hz.ne) (fun W b => Normal_err p k n z v u rs undef W hv (hu.below b) (hO W b) hz.ne) (fun W b => Has_err p k n z v u x rs undef W hv (hu.below b) hx' (hO W b) hz.ne)
  · have hF : Fld P K l v w := ⟨hT, hl, hll, hG⟩
    by_cases h0 : rsE (P ^ K) N rs = 0
    · obtain ⟨S, rfl, hS, hSl⟩ := rs_nat h0
      by_cases hz : rwE (P ^ K) N r = 0
      · obtain ⟨r', hr', rfl⟩ := rwE_nat hz
        exact law3_ok P K N l v u x S r' w hF hu.rw hS hSl h1 h6 hf hx hr'
      · exact law3_row P K N l v u x S r _ w hF hu.rw hS hSl h1 h6 hf hx hxl rfl hz
    · have hO : ∀ W, Below w.heap.size w W → OpC P K N v [u] [rs] W (rsE (P ^ K) N rs : Nat) (rmV P K v N) := fun W b => opc_rows (hF.below b) h1 h6 hf _ _ (by simp) (lsE_one rs)
      exact law3_rows P K N (rsE (P ^ K) N rs) v u x w hv hu' hx' h0 (fun W b => RoomFault_ok (hF.below b) h1 h6 hf) (fun W b => RowsFault_any P K N l rs v u W (hF.below b) (hu.below b) h6 _ rfl) (fun W b => Basis_err P K N _ v u rs _ W hv (hu.below b) (hO W b) (by omega)) (fun W b => Normal_err P K N _ v u rs _ W hv (hu.below b) (hO W b) (by omega)) (fun W b => Has_err P K N _ v u x rs _ W hv (hu.below b) hx' (hO W b) (by omega))
end Go.Proofs.YtgdkfbgehbdkjaaDoor
