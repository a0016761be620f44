/- The law SpaceMeets, walked. -/
import Derived.Test.YtgdkfbgehbdkjaaDoorLN
import Derived.Test.YtgdkfbgehbdkjaaDoorE9
namespace Go.Proofs.YtgdkfbgehbdkjaaDoor
open Go.RowKit

set_option maxRecDepth 100000 in
set_option maxHeartbeats 8000000 in
theorem law4_err (p k n z : Int) (v u x : Value) (w : World) (hv : ∃ a m c, v = .slice a m c) (hu : ∃ a m c, u = .slice a m c) (hx : ∃ a m c, x = .slice a m c) (h0 : z ≠ 0)
    (C0 : ∀ W, Below w.heap.size w W → Calls Tryd.prog 8 #[.agg #[.int .i64 p, .int .i64 k, v], .int .i64 n] W fun e w' => e = .returned (.int .i64 z) ∧ Below W.heap.size W w')
    (C1 : ∀ W, Below w.heap.size w W → Calls Tryd.prog 19 #[.agg #[.int .i64 p, .int .i64 k, v], .int .i64 n, u, x] W fun e w' => e = .returned (.tuple #[.slice none 0 0, .int .i64 z]) ∧ Below W.heap.size W w')
    (C2 : ∀ W, Below w.heap.size w W → Calls Tryd.prog 20 #[.agg #[.int .i64 p, .int .i64 k, v], .int .i64 n, u, x] W fun e w' => e = .returned (.tuple #[.slice none 0 0, .int .i64 z]) ∧ Below W.heap.size W w') :
    Calls Tryd.prog 4 #[.agg #[.int .i64 p, .int .i64 k, v], .int .i64 n, u, x] w fun e w' => e = .returned (.bool true) ∧ Below w.heap.size w w' := by
  obtain ⟨fa, fn, fc, rfl⟩ := hv
  obtain ⟨ua, um, uc, rfl⟩ := hu
  obtain ⟨xa, xm, xc, rfl⟩ := hx
  have b0 := balloc w (.cells #[.int .i64 p, .int .i64 k, .slice fa fn fc] 24)
  have hbx := fl_box p k (.slice fa fn fc) w
  obtain ⟨w0, Hw0⟩ : ∃ w0, Hid (w.alloc (.cells #[.int .i64 p, .int .i64 k, .slice fa fn fc] 24) = w0) := ⟨_, rfl⟩
  obtain ⟨x0, x1, x2⟩ := hbx _ (Below.refl _ _)
  rw [Hw0.out] at b0
  have HBX : Hid (∀ W, Below w0.heap.size w0 W → W.cell? ⟨w.heap.size, 0, none⟩ = some (.int .i64 p) ∧ W.cell? ⟨w.heap.size, 1, none⟩ = some (.int .i64 k) ∧ W.cell? ⟨w.heap.size, 2, none⟩ = some (.slice fa fn fc)) := by rw [← Hw0.out]; exact hbx
  have HB0 : Hid (∀ W, Below w0.heap.size w0 W → Below w.heap.size w W) := fun W b => Below.next b0 b
  have D0 := C0 w0 b0
  have d1 : (z != 0) = true := by simp; exact h0
  have d2 : (z == 0) = false := by simp; exact h0
  have d3 : (z != z) = false := by simp
  have d4 : (z == z) = true := by simp
  clear hbx h0 C0 b0
  go_enter Tryd.func4, Tryd.ntmps4
  go_wp2_with (first
    | (go_at_call 8; rw [Hw0.out]; refine D0.mono ?_; rintro e w1 ⟨rfl, q1⟩; clear D0 x0 x1 x2; obtain ⟨y0, y1, y2⟩ := HBX.out w1 q1; have D1 := C1 w1 (HB0.out w1 q1); clear C1)
    | (go_at_call 19; refine D1.mono ?_; rintro e w2 ⟨rfl, b2⟩; clear D1 y0 y1 y2; have q2 := Below.next q1 b2; obtain ⟨y0, y1, y2⟩ := HBX.out w2 q2; have D2 := C2 w2 (HB0.out w2 q2); clear C2)
    | (go_at_call 20; refine D2.mono ?_; rintro e w3 ⟨rfl, b3⟩; clear D2; have q3 := Below.next q2 b3))
  go_ret
  exact ⟨by first | rfl | simp, HB0.out _ q3⟩
set_option maxRecDepth 100000 in
set_option maxHeartbeats 8000000 in
theorem law4_a (P K n z : Nat) (v u x : Value) (w : World) (hv : ∃ a m c, v = .slice a m c) (hu : ∃ a m c, u = .slice a m c) (hx : ∃ a m c, x = .slice a m c) (h0 : (z : Int) ≠ 0)
    (C0 : ∀ W, Below w.heap.size w W → Calls Tryd.prog 8 #[.agg #[.int .i64 (P : Int), .int .i64 (K : Int), v], .int .i64 (n : Int)] W fun e w' => e = .returned (.int .i64 0) ∧ Below W.heap.size W w')
    (CA : ∀ W, Below w.heap.size w W → Calls Tryd.prog 9 #[.agg #[.int .i64 (P : Int), .int .i64 (K : Int), v], .int .i64 (n : Int), u] W fun e w' => e = .returned (.int .i64 (z : Int)) ∧ Below W.heap.size W w')
    (C1 : ∀ W, Below w.heap.size w W → Calls Tryd.prog 19 #[.agg #[.int .i64 (P : Int), .int .i64 (K : Int), v], .int .i64 (n : Int), u, x] W fun e w' => e = .returned (.tuple #[.slice none 0 0, .int .i64 (z : Int)]) ∧ Below W.heap.size W w')
    (C2 : ∀ W, Below w.heap.size w W → Calls Tryd.prog 20 #[.agg #[.int .i64 (P : Int), .int .i64 (K : Int), v], .int .i64 (n : Int), u, x] W fun e w' => e = .returned (.tuple #[.slice none 0 0, .int .i64 (z : Int)]) ∧ Below W.heap.size W w') :
    Calls Tryd.prog 4 #[.agg #[.int .i64 (P : Int), .int .i64 (K : Int), v], .int .i64 (n : Int), u, x] w fun e w' => e = .returned (.bool true) ∧ Below w.heap.size w w' := by
  obtain ⟨fa, fn, fc, rfl⟩ := hv
  obtain ⟨ua, um, uc, rfl⟩ := hu
  obtain ⟨xa, xm, xc, rfl⟩ := hx
  have b0 := balloc w (.cells #[.int .i64 (P : Int), .int .i64 (K : Int), .slice fa fn fc] 24)
  have hbx := fl_box (P : Int) (K : Int) (.slice fa fn fc) w
  obtain ⟨w0, Hw0⟩ : ∃ w0, Hid (w.alloc (.cells #[.int .i64 (P : Int), .int .i64 (K : Int), .slice fa fn fc] 24) = w0) := ⟨_, rfl⟩
  obtain ⟨x0, x1, x2⟩ := hbx _ (Below.refl _ _)
  rw [Hw0.out] at b0
  have HBX : Hid (∀ W, Below w0.heap.size w0 W → W.cell? ⟨w.heap.size, 0, none⟩ = some (.int .i64 (P : Int)) ∧ W.cell? ⟨w.heap.size, 1, none⟩ = some (.int .i64 (K : Int)) ∧ W.cell? ⟨w.heap.size, 2, none⟩ = some (.slice fa fn fc)) := by rw [← Hw0.out]; exact hbx
  have HB0 : Hid (∀ W, Below w0.heap.size w0 W → Below w.heap.size w W) := fun W b => Below.next b0 b
  have D0 := C0 w0 b0
  have d1 : ((z : Int) != 0) = true := by simp; omega
  have d2 : ((z : Int) == 0) = false := by simp; omega
  have d3 : ((z : Int) != (z : Int)) = false := by simp
  have d4 : ((z : Int) == (z : Int)) = true := by simp
  clear hbx h0 C0 b0
  go_enter Tryd.func4, Tryd.ntmps4
  go_wp2_with (first
    | (go_at_call 8; rw [Hw0.out]; refine D0.mono ?_; rintro e w1 ⟨rfl, q1⟩; clear D0 x0 x1 x2; obtain ⟨y0, y1, y2⟩ := HBX.out w1 q1; have DA := CA w1 (HB0.out w1 q1); clear CA)
    | (go_at_call 9; refine DA.mono ?_; rintro e wa ⟨rfl, ba⟩; clear DA y0 y1 y2; have qa := Below.next q1 ba; obtain ⟨y0, y1, y2⟩ := HBX.out wa qa; have D1 := C1 wa (HB0.out wa qa); clear C1)
    | (go_at_call 19; refine D1.mono ?_; rintro e w2 ⟨rfl, b2⟩; clear D1 y0 y1 y2; have q2 := Below.next qa b2; obtain ⟨y0, y1, y2⟩ := HBX.out w2 q2; have D2 := C2 w2 (HB0.out w2 q2); clear C2)
    | (go_at_call 20; refine D2.mono ?_; rintro e w3 ⟨rfl, b3⟩; clear D2; have q3 := Below.next q2 b3))
  go_ret
  exact ⟨by first | rfl | simp, HB0.out _ q3⟩
set_option maxRecDepth 100000 in
set_option maxHeartbeats 8000000 in
theorem law4_b (P K n z : Nat) (v u x : Value) (w : World) (hv : ∃ a m c, v = .slice a m c) (hu : ∃ a m c, u = .slice a m c) (hx : ∃ a m c, x = .slice a m c) (h0 : (z : Int) ≠ 0)
    (C0 : ∀ W, Below w.heap.size w W → Calls Tryd.prog 8 #[.agg #[.int .i64 (P : Int), .int .i64 (K : Int), v], .int .i64 (n : Int)] W fun e w' => e = .returned (.int .i64 0) ∧ Below W.heap.size W w')
    (CA : ∀ W, Below w.heap.size w W → Calls Tryd.prog 9 #[.agg #[.int .i64 (P : Int), .int .i64 (K : Int), v], .int .i64 (n : Int), u] W fun e w' => e = .returned (.int .i64 0) ∧ Below W.heap.size W w')
    (CB : ∀ W, Below w.heap.size w W → Calls Tryd.prog 9 #[.agg #[.int .i64 (P : Int), .int .i64 (K : Int), v], .int .i64 (n : Int), x] W fun e w' => e = .returned (.int .i64 (z : Int)) ∧ Below W.heap.size W w')
    (C1 : ∀ W, Below w.heap.size w W → Calls Tryd.prog 19 #[.agg #[.int .i64 (P : Int), .int .i64 (K : Int), v], .int .i64 (n : Int), u, x] W fun e w' => e = .returned (.tuple #[.slice none 0 0, .int .i64 (z : Int)]) ∧ Below W.heap.size W w')
    (C2 : ∀ W, Below w.heap.size w W → Calls Tryd.prog 20 #[.agg #[.int .i64 (P : Int), .int .i64 (K : Int), v], .int .i64 (n : Int), u, x] W fun e w' => e = .returned (.tuple #[.slice none 0 0, .int .i64 (z : Int)]) ∧ Below W.heap.size W w') :
    Calls Tryd.prog 4 #[.agg #[.int .i64 (P : Int), .int .i64 (K : Int), v], .int .i64 (n : Int), u, x] w fun e w' => e = .returned (.bool true) ∧ Below w.heap.size w w' := by
  obtain ⟨fa, fn, fc, rfl⟩ := hv
  obtain ⟨ua, um, uc, rfl⟩ := hu
  obtain ⟨xa, xm, xc, rfl⟩ := hx
  have b0 := balloc w (.cells #[.int .i64 (P : Int), .int .i64 (K : Int), .slice fa fn fc] 24)
  have hbx := fl_box (P : Int) (K : Int) (.slice fa fn fc) w
  obtain ⟨w0, Hw0⟩ : ∃ w0, Hid (w.alloc (.cells #[.int .i64 (P : Int), .int .i64 (K : Int), .slice fa fn fc] 24) = w0) := ⟨_, rfl⟩
  obtain ⟨x0, x1, x2⟩ := hbx _ (Below.refl _ _)
  rw [Hw0.out] at b0
  have HBX : Hid (∀ W, Below w0.heap.size w0 W → W.cell? ⟨w.heap.size, 0, none⟩ = some (.int .i64 (P : Int)) ∧ W.cell? ⟨w.heap.size, 1, none⟩ = some (.int .i64 (K : Int)) ∧ W.cell? ⟨w.heap.size, 2, none⟩ = some (.slice fa fn fc)) := by rw [← Hw0.out]; exact hbx
  have HB0 : Hid (∀ W, Below w0.heap.size w0 W → Below w.heap.size w W) := fun W b => Below.next b0 b
  have D0 := C0 w0 b0
  have d1 : ((z : Int) != 0) = true := by simp; omega
  have d2 : ((z : Int) == 0) = false := by simp; omega
  have d3 : ((z : Int) != (z : Int)) = false := by simp
  have d4 : ((z : Int) == (z : Int)) = true := by simp
  clear hbx h0 C0 b0
  go_enter Tryd.func4, Tryd.ntmps4
  go_wp2_with (first
    | (go_at_call 8; rw [Hw0.out]; refine D0.mono ?_; rintro e w1 ⟨rfl, q1⟩; clear D0 x0 x1 x2; obtain ⟨y0, y1, y2⟩ := HBX.out w1 q1; have DA := CA w1 (HB0.out w1 q1); clear CA)
    | (go_at_call 9; refine DA.mono ?_; rintro e wa ⟨rfl, ba⟩; clear DA y0 y1 y2; have qa := Below.next q1 ba; obtain ⟨y0, y1, y2⟩ := HBX.out wa qa; have DB := CB wa (HB0.out wa qa); clear CB)
    | (go_at_call 9; refine DB.mono ?_; rintro e wb ⟨rfl, bb⟩; clear DB y0 y1 y2; have qb := Below.next qa bb; obtain ⟨y0, y1, y2⟩ := HBX.out wb qb; have D1 := C1 wb (HB0.out wb qb); clear C1)
    | (go_at_call 19; refine D1.mono ?_; rintro e w2 ⟨rfl, b2⟩; clear D1 y0 y1 y2; have q2 := Below.next qb b2; obtain ⟨y0, y1, y2⟩ := HBX.out w2 q2; have D2 := C2 w2 (HB0.out w2 q2); clear C2)
    | (go_at_call 20; refine D2.mono ?_; rintro e w3 ⟨rfl, b3⟩; clear D2; have q3 := Below.next q2 b3))
  go_ret
  exact ⟨by first | rfl | simp, HB0.out _ q3⟩
theorem toZ_append (A B : List (List Nat)) : toZ (A ++ B) = toZ A ++ toZ B := by simp [toZ]
set_option maxRecDepth 100000 in
set_option maxHeartbeats 8000000 in
theorem law4_ok (P K n : Nat) (l : List Int) (v u x : Value) (A B : List (List Nat)) (w : World) (hF : Fld P K l v w) (hu : Rw w u (toZ A)) (hA : Rws (P ^ K) n A) (hAl : A.length ≤ 12) (hx : Rw w x (toZ B)) (hB : Rws (P ^ K) n B) (hBl : B.length ≤ 12) (h1 : 1 ≤ n) (h6 : n ≤ 6) (hf : (P ^ K) ^ n ≤ 4096) :
    Calls Tryd.prog 4 #[.agg #[.int .i64 (P : Int), .int .i64 (K : Int), v], .int .i64 (n : Int), u, x] w fun e w' => e = .returned (.bool true) ∧ Below w.heap.size w w' := by
  have zA := rs_zero hA hAl
  have zB := rs_zero hB hBl
  have hfq := hF.fqr
  have hAB : Rws (P ^ K) n (A ++ B) := fun r hr => (List.mem_append.1 hr).elim (hA r) (hB r)
  obtain ⟨i22, ti, tz0, tz1, tz2⟩ := info36
  have C0 : ∀ W, Below w.heap.size w W → Calls Tryd.prog 8 #[.agg #[.int .i64 (P : Int), .int .i64 (K : Int), v], .int .i64 (n : Int)] W fun e w' => e = .returned (.int .i64 0) ∧ Below W.heap.size W w' := fun W b => RoomFault_ok (hF.below b) h1 h6 hf
  have CA : ∀ W, Below w.heap.size w W → Calls Tryd.prog 9 #[.agg #[.int .i64 (P : Int), .int .i64 (K : Int), v], .int .i64 (n : Int), u] W fun e w' => e = .returned (.int .i64 ((0 : Nat) : Int)) ∧ Below W.heap.size W w' := fun W b => RowsFault_any P K n l (toZ A) v u W (hF.below b) ⟨hu.below b, by rw [toZ_len]; exact len_max (by omega), toZ_max hA h6⟩ h6 0 zA
  have CB : ∀ W, Below w.heap.size w W → Calls Tryd.prog 9 #[.agg #[.int .i64 (P : Int), .int .i64 (K : Int), v], .int .i64 (n : Int), x] W fun e w' => e = .returned (.int .i64 ((0 : Nat) : Int)) ∧ Below W.heap.size W w' := fun W b => RowsFault_any P K n l (toZ B) v x W (hF.below b) ⟨hx.below b, by rw [toZ_len]; exact len_max (by omega), toZ_max hB h6⟩ h6 0 zB
  have hop : ∀ W, Below w.heap.size w W → OpC P K n v [u, x] [toZ A, toZ B] W 0 (rmV P K v n) := fun W b => opc_rows (hF.below b) h1 h6 hf _ _ (by simp) (by rw [lsE_two, zA, zB]; rfl)
  have C1 : ∀ W, Below w.heap.size w W → Calls Tryd.prog 19 #[.agg #[.int .i64 (P : Int), .int .i64 (K : Int), v], .int .i64 (n : Int), u, x] W fun e w' => BaR (P ^ K) (adF P K) (muF P K l) n (Spn (P ^ K) (adF P K) (muF P K l) n (A ++ B)) e w' ∧ Below W.heap.size W w' := fun W b => Join_ok P K n l v u x A B W (hF.below b) (hu.below b) hA hAl (hx.below b) hB hBl h1 h6 (hop W b)
  have C2 : ∀ W, Below w.heap.size w W → Calls Tryd.prog 20 #[.agg #[.int .i64 (P : Int), .int .i64 (K : Int), v], .int .i64 (n : Int), u, x] W fun e w' => BaR (P ^ K) (adF P K) (muF P K l) n (fun v => (Spn (P ^ K) (adF P K) (muF P K l) n A) v ∧ (Spn (P ^ K) (adF P K) (muF P K l) n B) v) e w' ∧ Below W.heap.size W w' := fun W b => Meet_ok P K n l v u x A B W (hF.below b) (hu.below b) hA hAl (hx.below b) hB hBl h1 h6 (hop W b)
  have HSp : Hid (∀ (W : World) (y : Value) (S : List (List Nat)), Below w.heap.size w W → Rw W y (toZ S) → Rws (P ^ K) n S → S.length ≤ 99 → Calls Tryd.prog 13 #[.agg #[.int .i64 (P : Int), .int .i64 (K : Int), v], .int .i64 (n : Int), y] W fun e w' => ∃ g V, e = .returned (.slice (some ⟨g, 0, none⟩) ((P ^ K) ^ n) ((P ^ K) ^ n)) ∧ OwnB w' g ((P ^ K) ^ n) V ∧ (∀ c, c < (P ^ K) ^ n → (V c = true ↔ (Spn (P ^ K) (adF P K) (muF P K l) n S) (opn (P ^ K) n c))) ∧ Below W.heap.size W w') := fun W y S b hy hS hl => Span_any P K n l S v y W (hF.below b) hy hS h1 h6 hf hl
  have HBo : Hid (∀ (W : World) (y : Value) (V : Nat → Bool), Below w.heap.size w W → RdB W y ((P ^ K) ^ n) V → Calls Tryd.prog 14 #[.agg #[.int .i64 (P : Int), .int .i64 (K : Int), v], .int .i64 (n : Int), y] W fun e w' => ∃ x, e = .returned x ∧ Rw w' x (toZ (basL (P ^ K) n (vvB (P ^ K) n V))) ∧ Below W.heap.size W w') := fun W y V b hy => BasisOf_any P K n l V v y W (hF.below b) hy h1 h6 hf
  have HBt : Hid (∀ (W : World) (y z : Value) (V V' : Nat → Bool), RdB W y ((P ^ K) ^ n) V → RdB W z ((P ^ K) ^ n) V' → Calls Tryd.prog 21 #[y, z] W fun e w' => ∃ x, e = .returned x ∧ RdB w' x ((P ^ K) ^ n) (fun i => V i && V' i) ∧ Below W.heap.size W w') := fun W y z V V' hy hz => Both_any _ V V' y z W hy hz (Nat.pow_pos hfq.pos) hf
  have HE1 : Hid (∀ (V : Nat → Bool) X, (∀ c, c < (P ^ K) ^ n → (V c = true ↔ (Spn (P ^ K) (adF P K) (muF P K l) n (A ++ B)) (opn (P ^ K) n c))) → BasIs (P ^ K) (adF P K) (muF P K l) n (Spn (P ^ K) (adF P K) (muF P K l) n (A ++ B)) X → basL (P ^ K) n (vvB (P ^ K) n V) = X) := fun V X hV hX => bas_is hfq (hX.congr fun v => (vv_is hfq.pos hV (fun v k => k.vc hfq hAB) v).symm)
  have HE2 : Hid (∀ (V V' : Nat → Bool) X, (∀ c, c < (P ^ K) ^ n → (V c = true ↔ (Spn (P ^ K) (adF P K) (muF P K l) n A) (opn (P ^ K) n c))) → (∀ c, c < (P ^ K) ^ n → (V' c = true ↔ (Spn (P ^ K) (adF P K) (muF P K l) n B) (opn (P ^ K) n c))) → BasIs (P ^ K) (adF P K) (muF P K l) n (fun v => (Spn (P ^ K) (adF P K) (muF P K l) n A) v ∧ (Spn (P ^ K) (adF P K) (muF P K l) n B) v) X → basL (P ^ K) n (vvB (P ^ K) n (fun i => V i && V' i)) = X) := fun V V' X hV hV' hX => bas_is hfq (hX.congr fun v => (vv_is hfq.pos (V := fun i => V i && V' i) (T := fun v => (Spn (P ^ K) (adF P K) (muF P K l) n A) v ∧ (Spn (P ^ K) (adF P K) (muF P K l) n B) v) (fun c hc => by rw [Bool.and_eq_true, hV c hc, hV' c hc]) (fun v k => k.1.vc hfq hA) v).symm)
  have HUr : Hid (∀ W, Below w.heap.size w W → Rw W u (toZ A)) := fun W b => hu.below b
  have HXr : Hid (∀ W, Below w.heap.size w W → Rw W x (toZ B)) := fun W b => hx.below b
  have HAr : Hid (Rws (P ^ K) n A) := hA
  have HBr : Hid (Rws (P ^ K) n B) := hB
  have HABr : Hid (Rws (P ^ K) n (A ++ B)) := hAB
  obtain ⟨usA, hdA, hsA⟩ := rw_src hu
  obtain ⟨usB, hdB, hsB⟩ := rw_src hx
  have hd : HdR w (usA ++ usB) (toZ (A ++ B)) := by rw [toZ_append]; exact hdA.append hdB
  have oneA := hdA.one
  have oneB := hdB.one
  obtain ⟨fa, fn, fc, rfl⟩ : ∃ fa fn fc, v = .slice fa fn fc := by obtain ⟨a, c, e, _⟩ := hF.sl; exact ⟨a, _, c, e⟩
  obtain ⟨ua, um, uc, rfl, Hum⟩ := rw_formH hu
  obtain ⟨xa, xm, xc, rfl, Hxm⟩ := rw_formH hx
  rw [toZ_len, Hum.out] at hsA
  rw [toZ_len, Hxm.out] at hsB
  have HSA : Hid (∀ W, Below w.heap.size w W → SrcC W (.slice ua um uc) um usA) := hsA
  have HSB : Hid (∀ W, Below w.heap.size w W → SrcC W (.slice xa xm xc) xm usB) := hsB
  have hum : um ≤ 12 := by rw [← Hum.out]; exact hAl
  have hxm : xm ≤ 12 := by rw [← Hxm.out]; exact hBl
  have hABl : (A ++ B).length ≤ 99 := by rw [List.length_append]; omega
  have HRw : Hid (∀ (W : World) (base : Nat) (y : Value), W.ownsRow base 22 1 y (um + xm) (usA ++ usB) → Below w.heap.size w W → Rw W y (toZ (A ++ B))) := fun W base y ho b => by
    refine hdr_rw (w0 := w) (base := base) (us := usA ++ usB) ?_ hd b
    have e : (toZ (A ++ B)).length = um + xm := by rw [toZ_len, List.length_append, Hum.out, Hxm.out]
    rw [e]
    exact ho
  have H1A : Hid (∀ y ∈ usA, y.oneCell' = true) := oneA
  have H1B : Hid (∀ y ∈ usB, y.oneCell' = true) := oneB
  have b0 := balloc w (.cells #[.int .i64 (P : Int), .int .i64 (K : Int), .slice fa fn fc] 24)
  have hbx := fl_box (P : Int) (K : Int) (.slice fa fn fc) w
  obtain ⟨w0, Hw0⟩ : ∃ w0, Hid (w.alloc (.cells #[.int .i64 (P : Int), .int .i64 (K : Int), .slice fa fn fc] 24) = w0) := ⟨_, rfl⟩
  obtain ⟨x0, x1, x2⟩ := hbx _ (Below.refl _ _)
  rw [Hw0.out] at b0
  have HBX : Hid (∀ W, Below w0.heap.size w0 W → W.cell? ⟨w.heap.size, 0, none⟩ = some (.int .i64 (P : Int)) ∧ W.cell? ⟨w.heap.size, 1, none⟩ = some (.int .i64 (K : Int)) ∧ W.cell? ⟨w.heap.size, 2, none⟩ = some (.slice fa fn fc)) := by rw [← Hw0.out]; exact hbx
  have HB0 : Hid (∀ W, Below w0.heap.size w0 W → Below w.heap.size w W) := fun W b => Below.next b0 b
  have D0 := C0 w0 b0
  obtain ⟨N, HN⟩ : ∃ N, Hid ((P ^ K) ^ n = N) := ⟨_, rfl⟩
  rw [HN.out] at HSp HBo HBt HE1 HE2
  clear hbx C0 b0 hop zA zB hF hu hx hA hB hAB hfq hf hdA hdB hsA hsB hd oneA oneB HN
  go_enter Tryd.func4, Tryd.ntmps4
  go_wp2_with (first
    | (go_at_call 8; rw [Hw0.out]; refine D0.mono ?_; rintro e w1 ⟨rfl, q1⟩; clear D0 x0 x1 x2; obtain ⟨y0, y1, y2⟩ := HBX.out w1 q1; have DA := CA w1 (HB0.out w1 q1); clear CA)
    | (go_at_call 9; refine DA.mono ?_; rintro e wa ⟨rfl, ba⟩; clear DA y0 y1 y2; have qa := Below.next q1 ba; obtain ⟨y0, y1, y2⟩ := HBX.out wa qa; have DB := CB wa (HB0.out wa qa); clear CB)
    | (go_at_call 9; refine DB.mono ?_; rintro e wb ⟨rfl, bb⟩; clear DB y0 y1 y2; have qb := Below.next qa bb; obtain ⟨y0, y1, y2⟩ := HBX.out wb qb; have D1 := C1 wb (HB0.out wb qb); clear C1)
    | (go_at_call 19; refine D1.mono ?_; rintro e w2 ⟨⟨r1, J, rfl, hJ, hr1⟩, b2⟩; obtain ⟨aa, am, ac, rfl, Ham⟩ := rw_formH hr1; clear D1 y0 y1 y2; have q2 := Below.next qb b2; obtain ⟨y0, y1, y2⟩ := HBX.out w2 q2; have D2 := C2 w2 (HB0.out w2 q2); clear C2)
    | (go_at_call 20; refine D2.mono ?_; rintro e w3 ⟨⟨r2, M, rfl, hM, hr2⟩, b3⟩; obtain ⟨ba, bm, bc, rfl, Hbm⟩ := rw_formH hr2; clear D2 y0 y1 y2; have q3 := Below.next q2 b3; obtain ⟨y0, y1, y2⟩ := HBX.out w3 q3; have D3 := HSp.out w3 _ A (HB0.out w3 q3) (HUr.out w3 (HB0.out w3 q3)) HAr.out (by omega))
    | (go_at_call 13; refine D3.mono ?_; rintro e w4 ⟨g4, V4, rfl, hO4, hV4, b4⟩; clear D3 y0 y1 y2; have q4 := Below.next q3 b4; obtain ⟨y0, y1, y2⟩ := HBX.out w4 q4; have D4 := HSp.out w4 _ B (HB0.out w4 q4) (HXr.out w4 (HB0.out w4 q4)) HBr.out (by omega))
    | (go_at_call 13; refine D4.mono ?_; rintro e w5 ⟨g5, V5, rfl, hO5, hV5, b5⟩; clear D4 y0 y1 y2; have q5 := Below.next q4 b5; have D5 := HBt.out w5 _ _ V4 V5 (hO4.below b5).rd hO5.rd)
    | (go_at_call 21; refine D5.mono ?_; rintro e w6 ⟨r6, rfl, hr6, b6⟩; clear D5; have q6 := Below.next q5 b6; obtain ⟨y0, y1, y2⟩ := HBX.out w6 q6; have D6 := HBo.out w6 _ _ (HB0.out w6 q6) hr6; rw [HE2.out V4 V5 M hV4 hV5 hM] at D6; obtain ⟨zb, zo, zc, rfl, _⟩ := hr6)
    | (go_at_call 14; refine D6.mono ?_; rintro e w7 ⟨r7, rfl, hr7, b7⟩; obtain ⟨ca, cm, cc, rfl, Hcm⟩ := rw_formH hr7; clear D6 y0 y1 y2; have q7 := Below.next q6 b7; have D7 := lists_same (hr2.below (Below.next (Below.next (Below.next b4 b5) b6) b7)) hr7 hM.rref h6)
    | (go_at_call 15; refine D7.mono ?_; rintro e w8 ⟨rfl, b8⟩; clear D7; have q8 := Below.next q7 b8; have own8 := World.ownsRow_made (base := w8.heap.size) (e := 22) (size := 1) w8 #[] 0 (Nat.le_refl _) (by (unfold maxLen; omega)) (by simp); have q8a := q8.alloc q8.size (.cells #[] 22); have s8 := HSA.out _ (HB0.out _ q8a))
    | (at_builtin; refine wpList_append_srcC _ rfl _ _ 25 rfl w8.heap.size 22 i22 (.slice none 0 0) 24 undR ti tz0 tz1 tz2 rfl (.slice (some ⟨w8.heap.size, 0, none⟩) 0 0) 0 [] rfl own8 (.slice ua um uc) um usA rfl s8 H1A.out (by (unfold maxLen; omega)) (by omega) (by simp) ?_; intro v9 w9 own9 hg9; rw [Nat.zero_add, List.nil_append] at own9; obtain ⟨va9, vc9, rfl⟩ := own_slice own9; have t8 : Below w2.heap.size w2 w8 := Below.next (Below.next (Below.next (Below.next (Below.next b3 b4) b5) b6) b7) b8; have t9 := (t8.alloc t8.size (.cells #[] 22)).grown hg9 (by (have := t8.size; simp; omega)) (fun k hk => by (have := (own8.lt k hk).1; have := t8.size; omega)); have q9 := q8a.grown hg9 (by (have := q8.size; simp; omega)) (fun k hk => by (have := (own8.lt k hk).1; have := q8.size; omega)); have hs9 : w8.heap.size ≤ w9.heap.size := (by have := hg9.size; simp at this; omega); clear own8 s8 q8a hg9; have s9 := HSB.out _ (HB0.out _ q9))
    | (at_builtin; refine wpList_append_srcC _ rfl _ _ 25 rfl w8.heap.size 22 i22 (.slice none 0 0) 24 undR ti tz0 tz1 tz2 rfl (.slice va9 um vc9) um usA rfl own9 (.slice xa xm xc) xm usB rfl s9 H1B.out (by (unfold maxLen; omega)) (by omega) hs9 ?_; intro v10 w10 own10 hg10; have b210 := t9.grown hg10 t9.size (fun k hk => by (have := (own9.lt k hk).1; have := t8.size; omega)); have q10 := q9.grown hg10 q9.size (fun k hk => by (have := (own9.lt k hk).1; have := q8.size; omega)); have hR := HRw.out w10 _ v10 own10 (HB0.out _ q10); obtain ⟨va10, vc10, rfl⟩ := own_slice own10; clear own9 s9 hg10 own10; obtain ⟨y0, y1, y2⟩ := HBX.out w10 q10; have D10 := HSp.out w10 _ (A ++ B) (HB0.out w10 q10) hR HABr.out hABl)
    | (go_at_call 13; refine D10.mono ?_; rintro e w11 ⟨g11, V11, rfl, hO11, hV11, b11⟩; clear D10 y0 y1 y2; have q11 := Below.next q10 b11; obtain ⟨y0, y1, y2⟩ := HBX.out w11 q11; have D11 := HBo.out w11 _ V11 (HB0.out w11 q11) hO11.rd; rw [HE1.out V11 J hV11 hJ] at D11)
    | (go_at_call 14; refine D11.mono ?_; rintro e w12 ⟨r12, rfl, hr12, b12⟩; obtain ⟨da, dm, dc, rfl, Hdm⟩ := rw_formH hr12; clear D11 y0 y1 y2; have q12 := Below.next q11 b12; have D12 := lists_same (hr1.below (Below.next (Below.next b210 b11) b12)) hr12 hJ.rref h6)
    | (go_at_call 15; refine D12.mono ?_; rintro e w13 ⟨rfl, b13⟩; clear D12; have q13 := Below.next q12 b13)
    | go_in)
  go_ret
  exact ⟨by first | rfl | simp, HB0.out _ q13⟩
theorem law4_any (p k n : Int) (l : List Int) (rs ss : List (List Int)) (v u x : Value) (w : World) (hT : Fd.Tab w) (hl : Fd.Sl w v l) (hll : l.length ≤ maxLen) (hu : RwC w u rs) (hx : RwC w x ss) :
    Calls Tryd.prog 4 #[.agg #[.int .i64 p, .int .i64 k, v], .int .i64 n, u, x] w fun e w' => e = .returned (.bool true) ∧ Below w.heap.size w w' := by
  have hv : ∃ a m c, v = .slice a m c := by obtain ⟨a, c, e, _⟩ := hl; exact ⟨a, _, c, e⟩
  have hu' : ∃ a m c, u = .slice a m c := by obtain ⟨a, m, c, e, _⟩ := hu.form; exact ⟨a, m, c, e⟩
  have hx' : ∃ a m c, x = .slice a m c := by obtain ⟨a, m, c, e, _⟩ := hx.form; exact ⟨a, m, c, e⟩
  rcases room_cases p k l n with ⟨z, hz⟩ | ⟨P, K, N, rfl, rfl, rfl, hG, h1, h6, hf⟩
  · have hO : ∀ W, Below w.heap.size w W → OpC p k n v [u, x] [rs, ss] W z undef := fun W b => hz.op (hT.below b) (hl.below b) hll _ _ _
    exact law4_err p k n z v u x w hv hu' hx' hz.ne (fun W b => RoomFault_err hz (hT.below b) (hl.below b) hll) (fun W b => Join_err p k n z v u x rs ss undef W hv (hu.below b) (hx.below b) (hO W b) hz.ne) (fun W b => Meet_err p k n z v u x rs ss undef W hv (hu.below b) (hx.below b) (hO W b) hz.ne)
  · have hF : Fld P K l v w := ⟨hT, hl, hll, hG⟩
    by_cases h0 : rsE (P ^ K) N rs = 0
    · by_cases h2 : rsE (P ^ K) N ss = 0
      · obtain ⟨A, rfl, hA, hAl⟩ := rs_nat h0
        obtain ⟨B, rfl, hB, hBl⟩ := rs_nat h2
        exact law4_ok P K N l v u x A B w hF hu.rw hA hAl hx.rw hB hBl h1 h6 hf
      · have hO : ∀ W, Below w.heap.size w W → OpC P K N v [u, x] [rs, ss] W (rsE (P ^ K) N ss : Nat) (rmV P K v N) := fun W b => opc_rows (hF.below b) h1 h6 hf _ _ (by simp) (by rw [lsE_two, h0]; rfl)
        exact law4_b P K N (rsE (P ^ K) N ss) v u x w hv hu' hx' (by omega) (fun W b => RoomFault_ok (hF.below b) h1 h6 hf) (fun W b => RowsFault_any P K N l rs v u W (hF.below b) (hu.below b) h6 0 h0) (fun W b => RowsFault_any P K N l ss v x W (hF.below b) (hx.below b) h6 _ rfl) (fun W b => Join_err P K N _ v u x rs ss _ W hv (hu.below b) (hx.below b) (hO W b) (by omega)) (fun W b => Meet_err P K N _ v u x rs ss _ W hv (hu.below b) (hx.below b) (hO W b) (by omega))
    · have hO : ∀ W, Below w.heap.size w W → OpC P K N v [u, x] [rs, ss] W (rsE (P ^ K) N rs : Nat) (rmV P K v N) := fun W b => opc_rows (hF.below b) h1 h6 hf _ _ (by simp) (by rw [lsE_two, if_pos h0])
      exact law4_a P K N (rsE (P ^ K) N rs) v u x w hv hu' hx' (by omega) (fun W b => RoomFault_ok (hF.below b) h1 h6 hf) (fun W b => RowsFault_any P K N l rs v u W (hF.below b) (hu.below b) h6 _ rfl) (fun W b => Join_err P K N _ v u x rs ss _ W hv (hu.below b) (hx.below b) (hO W b) (by omega)) (fun W b => Meet_err P K N _ v u x rs ss _ W hv (hu.below b) (hx.below b) (hO W b) (by omega))
end Go.Proofs.YtgdkfbgehbdkjaaDoor
