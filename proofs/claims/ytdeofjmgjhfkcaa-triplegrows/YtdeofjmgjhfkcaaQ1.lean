/- The walks of Double and Product. -/
import Derived.Test.YtdeofjmgjhfkcaaP2
import Derived.Test.YtdeofjmgjhfkcaaC1
namespace Go.Proofs.Ytdeofjmgjhfkcaa
open Go.RowKit

/-- An answer that is stored into its box. -/
theorem res_put {w w1 : World} {t base s : Nat} {p : Int} {y : Value} {Z : List (List Nat)} (hr : w1.heap[t]? = some (.cells #[.int .i64 0, .slice none 0 0] 24 (0, 0))) (hb : Below s w w1) (hs : s ≤ t) (ht : t < base) (hO : OR w1 base y Z) :
    ((w1.setCell ⟨t, 0, none⟩ (.int .i64 p)).setCell ⟨t, 1, none⟩ y).heap[t]? = some (.cells #[.int .i64 p, y] 24 (0, 0)) ∧ Rw ((w1.setCell ⟨t, 0, none⟩ (.int .i64 p)).setCell ⟨t, 1, none⟩ y) y (toZ Z) ∧ Below s w ((w1.setCell ⟨t, 0, none⟩ (.int .i64 p)).setCell ⟨t, 1, none⟩ y) := by
  have h6 := heap_setCell_same w1 t 0 _ 24 (.int .i64 p) hr
  have h7 := heap_setCell_same _ t 1 _ 24 y h6
  refine ⟨by simpa using h7, (hO.keep fun b hb' _ => (heap_setCell_other _ ⟨t, 1, none⟩ b _ (by show b ≠ t; omega)).trans (heap_setCell_other w1 ⟨t, 0, none⟩ b _ (by show b ≠ t; omega))).rw, ?_⟩
  exact (hb.setCell (p := ⟨t, 0, none⟩) hs _).setCell (p := ⟨t, 1, none⟩) hs _
theorem res_none {w w1 : World} {t s : Nat} (hr : w1.heap[t]? = some (.cells #[.int .i64 0, .slice none 0 0] 24 (0, 0))) (hb : Below s w w1) (hs : s ≤ t) :
    ((w1.setCell ⟨t, 0, none⟩ (.int .i64 0)).setCell ⟨t, 1, none⟩ (.slice none 0 0)).heap[t]? = some (.cells #[.int .i64 0, .slice none 0 0] 24 (0, 0)) ∧ Below s w ((w1.setCell ⟨t, 0, none⟩ (.int .i64 0)).setCell ⟨t, 1, none⟩ (.slice none 0 0)) := by
  have h6 := heap_setCell_same w1 t 0 _ 24 (.int .i64 0) hr
  have h7 := heap_setCell_same _ t 1 _ 24 (.slice none 0 0) h6
  exact ⟨by simpa using h7, (hb.setCell (p := ⟨t, 0, none⟩) hs _).setCell (p := ⟨t, 1, none⟩) hs _⟩
set_option maxRecDepth 100000 in
set_option maxHeartbeats 4000000 in
theorem Double_bad (p f : Int) (hf : f ≠ 0) (n : Nat) (u : Value) (w : World) (hu : ∃ a c, u = .slice a n c)
    (C : Hid (∀ W, Below w.heap.size w W → Calls Try.prog 13 #[.agg #[.int .i64 p, u]] W fun e w' => e = .returned (.int .i64 f) ∧ Below W.heap.size W w')) :
    Calls Try.prog 14 #[.agg #[.int .i64 p, u]] w fun e w' => e = .returned (.tuple #[.agg #[.int .i64 0, .slice none 0 0], .int .i64 f]) ∧ Below w.heap.size w w' := by
  have HC : Hid (∀ W, Below ((w.alloc (.cells #[.int .i64 p, u] 24)).alloc (.cells #[.int .i64 0, .slice none 0 0] 24)).heap.size ((w.alloc (.cells #[.int .i64 p, u] 24)).alloc (.cells #[.int .i64 0, .slice none 0 0] 24)) W → (W.cell? ⟨w.heap.size, 0, none⟩ = some (.int .i64 p) ∧ W.cell? ⟨w.heap.size, 1, none⟩ = some u) ∧ W.heap[w.heap.size + 1]? = some (.cells #[.int .i64 0, .slice none 0 0] 24 (0, 0))) := fun W h => ⟨des_box p u w W (Below.next (balloc _ _) h), (h.block _ (by simp)).trans (by have := heap_alloc_new (w.alloc (.cells #[.int .i64 p, u] 24)) (.cells #[.int .i64 0, .slice none 0 0] 24); rw [World.size_alloc] at this; exact this)⟩
  have HB0 : Hid (Below w.heap.size w ((w.alloc (.cells #[.int .i64 p, u] 24)).alloc (.cells #[.int .i64 0, .slice none 0 0] 24))) := Below.next (balloc _ _) (balloc _ _)
  obtain ⟨w0, Hw0⟩ : ∃ w0, Hid (w0 = (w.alloc (.cells #[.int .i64 p, u] 24)).alloc (.cells #[.int .i64 0, .slice none 0 0] 24)) := ⟨_, rfl⟩
  rw [← Hw0.out] at HC HB0
  obtain ⟨ua, uc, rfl⟩ := hu
  obtain ⟨⟨x0, x1⟩, xr⟩ := HC.out w0 (Below.refl _ _)
  rw [Hw0.out] at x0 x1 xr
  clear xr
  have g1 : (f != 0) = true := by simp; omega
  have g2 : ¬ f = 0 := hf
  go_enter Try.func14, Try.ntmps14
  go_wp2_with (go_at_call 13; rw [← Hw0.out]; refine (C.out _ HB0.out).mono ?_; rintro e w1 ⟨rfl, hb⟩; clear C; have HB1 : Hid (Below w.heap.size w w1) := Below.next HB0.out hb; obtain ⟨⟨k0, k1⟩, hr⟩ := HC.out _ hb; have z0 := frozen_of_row _ _ 0 _ _ hr; have z1 := frozen_of_row _ _ 1 _ _ hr; have y0 := cell_of_row _ _ 0 _ _ _ hr; have y1 := cell_of_row _ _ 1 _ _ _ hr; have H7 : Hid (_ ∧ _) := res_none hr HB1.out (Nat.le_succ _); have H8 : Hid (_ ∧ Below w.heap.size w w1) := ⟨hr, HB1.out⟩; clear hr hb)
  first
    | exact post_d2 2 3 rfl rfl H8.out.1 rfl rfl ⟨rfl, H8.out.2⟩
    | exact post_d2 2 3 rfl rfl H7.out.1 rfl rfl ⟨rfl, H7.out.2⟩
set_option maxRecDepth 100000 in
set_option maxHeartbeats 4000000 in
theorem Double_full (v : Nat) (hv : 16 < v) (hv4 : v ≤ 40) (n : Nat) (u : Value) (w : World) (hu : ∃ a c, u = .slice a n c)
    (C : Hid (∀ W, Below w.heap.size w W → Calls Try.prog 13 #[.agg #[.int .i64 (v : Int), u]] W fun e w' => e = .returned (.int .i64 0) ∧ Below W.heap.size W w')) :
    Calls Try.prog 14 #[.agg #[.int .i64 (v : Int), u]] w fun e w' => e = .returned (.tuple #[.agg #[.int .i64 0, .slice none 0 0], .int .i64 3]) ∧ Below w.heap.size w w' := by
  have HC : Hid (∀ W, Below ((w.alloc (.cells #[.int .i64 (v : Int), u] 24)).alloc (.cells #[.int .i64 0, .slice none 0 0] 24)).heap.size ((w.alloc (.cells #[.int .i64 (v : Int), u] 24)).alloc (.cells #[.int .i64 0, .slice none 0 0] 24)) W → (W.cell? ⟨w.heap.size, 0, none⟩ = some (.int .i64 (v : Int)) ∧ W.cell? ⟨w.heap.size, 1, none⟩ = some u) ∧ W.heap[w.heap.size + 1]? = some (.cells #[.int .i64 0, .slice none 0 0] 24 (0, 0))) := fun W h => ⟨des_box (v : Int) u w W (Below.next (balloc _ _) h), (h.block _ (by simp)).trans (by have := heap_alloc_new (w.alloc (.cells #[.int .i64 (v : Int), u] 24)) (.cells #[.int .i64 0, .slice none 0 0] 24); rw [World.size_alloc] at this; exact this)⟩
  have HB0 : Hid (Below w.heap.size w ((w.alloc (.cells #[.int .i64 (v : Int), u] 24)).alloc (.cells #[.int .i64 0, .slice none 0 0] 24))) := Below.next (balloc _ _) (balloc _ _)
  obtain ⟨w0, Hw0⟩ : ∃ w0, Hid (w0 = (w.alloc (.cells #[.int .i64 (v : Int), u] 24)).alloc (.cells #[.int .i64 0, .slice none 0 0] 24)) := ⟨_, rfl⟩
  rw [← Hw0.out] at HC HB0
  obtain ⟨ua, uc, rfl⟩ := hu
  obtain ⟨⟨x0, x1⟩, xr⟩ := HC.out w0 (Below.refl _ _)
  rw [Hw0.out] at x0 x1 xr
  clear xr
  have g1 : decide (2 * (v : Int) + 1 > 33) = true := by simp; omega
  have g1' : decide (33 < 2 * (v : Int) + 1) = true := by simp; omega
  have g2 : 33 < 2 * (v : Int) + 1 := by omega
  go_enter Try.func14, Try.ntmps14
  go_wp2_with (go_at_call 13; rw [← Hw0.out]; refine (C.out _ HB0.out).mono ?_; rintro e w1 ⟨rfl, hb⟩; clear C; have HB1 : Hid (Below w.heap.size w w1) := Below.next HB0.out hb; obtain ⟨⟨k0, k1⟩, hr⟩ := HC.out _ hb; have z0 := frozen_of_row _ _ 0 _ _ hr; have z1 := frozen_of_row _ _ 1 _ _ hr; have y0 := cell_of_row _ _ 0 _ _ _ hr; have y1 := cell_of_row _ _ 1 _ _ _ hr; have H7 : Hid (_ ∧ _) := res_none hr HB1.out (Nat.le_succ _); have H8 : Hid (_ ∧ Below w.heap.size w w1) := ⟨hr, HB1.out⟩; clear hr hb)
  first
    | exact post_d2 2 3 rfl rfl H8.out.1 rfl rfl ⟨rfl, H8.out.2⟩
    | exact post_d2 2 3 rfl rfl H7.out.1 rfl rfl ⟨rfl, H7.out.2⟩
set_option maxRecDepth 100000 in
set_option maxHeartbeats 4000000 in
theorem Double_good (v : Nat) (hv : v ≤ 16) (M : List (List Nat)) (n : Nat) (u : Value) (w : World) (hu : ∃ a c, u = .slice a n c)
    (C : Hid (∀ W, Below w.heap.size w W → Calls Try.prog 13 #[.agg #[.int .i64 (v : Int), u]] W fun e w' => e = .returned (.int .i64 0) ∧ Below W.heap.size W w'))
    (D : Hid (∀ W, Below w.heap.size w W → Calls Try.prog 34 #[.agg #[.int .i64 (v : Int), u]] W fun e w' => ∃ x Z, e = .returned (.agg #[.int .i64 ((2 * v + 1 : Nat) : Int), x]) ∧ Srtd M Z ∧ OR w' (W.heap.size + 3) x Z ∧ Below W.heap.size W w')) :
    Calls Try.prog 14 #[.agg #[.int .i64 (v : Int), u]] w fun e w' => ∃ x Z, e = .returned (.tuple #[.agg #[.int .i64 ((2 * v + 1 : Nat) : Int), x], .int .i64 0]) ∧ Srtd M Z ∧ Rw w' x (toZ Z) ∧ Below w.heap.size w w' := by
  have HC : Hid (∀ W, Below ((w.alloc (.cells #[.int .i64 (v : Int), u] 24)).alloc (.cells #[.int .i64 0, .slice none 0 0] 24)).heap.size ((w.alloc (.cells #[.int .i64 (v : Int), u] 24)).alloc (.cells #[.int .i64 0, .slice none 0 0] 24)) W → (W.cell? ⟨w.heap.size, 0, none⟩ = some (.int .i64 (v : Int)) ∧ W.cell? ⟨w.heap.size, 1, none⟩ = some u) ∧ W.heap[w.heap.size + 1]? = some (.cells #[.int .i64 0, .slice none 0 0] 24 (0, 0))) := fun W h => ⟨des_box (v : Int) u w W (Below.next (balloc _ _) h), (h.block _ (by simp)).trans (by have := heap_alloc_new (w.alloc (.cells #[.int .i64 (v : Int), u] 24)) (.cells #[.int .i64 0, .slice none 0 0] 24); rw [World.size_alloc] at this; exact this)⟩
  have HB0 : Hid (Below w.heap.size w ((w.alloc (.cells #[.int .i64 (v : Int), u] 24)).alloc (.cells #[.int .i64 0, .slice none 0 0] 24))) := Below.next (balloc _ _) (balloc _ _)
  obtain ⟨w0, Hw0⟩ : ∃ w0, Hid (w0 = (w.alloc (.cells #[.int .i64 (v : Int), u] 24)).alloc (.cells #[.int .i64 0, .slice none 0 0] 24)) := ⟨_, rfl⟩
  rw [← Hw0.out] at HC HB0
  obtain ⟨ua, uc, rfl⟩ := hu
  obtain ⟨⟨x0, x1⟩, xr⟩ := HC.out w0 (Below.refl _ _)
  rw [Hw0.out] at x0 x1 xr
  clear xr
  have g1 : decide (2 * (v : Int) + 1 > 33) = false := by simp; omega
  have g1' : decide (33 < 2 * (v : Int) + 1) = false := by simp; omega
  have g2 : ¬ 33 < 2 * (v : Int) + 1 := by omega
  go_enter Try.func14, Try.ntmps14
  go_wp2_with (first
    | (go_at_call 13; rw [← Hw0.out]; refine (C.out _ HB0.out).mono ?_; rintro e w1 ⟨rfl, hb⟩; clear C; have HB1 : Hid (Below w.heap.size w w1) := Below.next HB0.out hb; obtain ⟨⟨k0, k1⟩, hr⟩ := HC.out _ hb; have HR : Hid (w1.heap[w.heap.size + 1]? = _) := hr; clear hr hb)
    | (go_at_call 34; refine (D.out _ HB1.out).mono ?_; rintro e w2 ⟨x, Z, rfl, hS, hO, hb⟩; have hlt : w.heap.size + 1 < w1.heap.size := (Array.getElem?_eq_some_iff.1 HR.out).1; have hr : w2.heap[w.heap.size + 1]? = _ := (hb.block _ hlt).trans HR.out; obtain ⟨xa, xc, rfl⟩ := hO.cap; have hZl := hS.len; rw [hZl] at hO ⊢; have H7 : Hid (_ ∧ _ ∧ _) := res_put (p := 2 * (v : Int) + 1) hr (Below.next HB1.out hb) (Nat.le_succ _) (by omega) hO; have z0 := frozen_of_row _ _ 0 _ _ hr; have z1 := frozen_of_row _ _ 1 _ _ hr; have y0 := cell_of_row _ _ 0 _ _ _ hr; have y1 := cell_of_row _ _ 1 _ _ _ hr; clear hr hb hO hZl HR hlt D))
  exact post_d2 2 3 rfl rfl H7.out.1 rfl rfl ⟨_, Z, rfl, hS, H7.out.2.1, H7.out.2.2⟩
set_option maxRecDepth 100000 in
set_option maxHeartbeats 4000000 in
theorem Product_bada (p q f : Int) (hf : f ≠ 0) (n k : Nat) (u t : Value) (w : World) (hu : ∃ a c, u = .slice a n c) (ht : ∃ a c, t = .slice a k c)
    (C : Hid (∀ W, Below w.heap.size w W → Calls Try.prog 13 #[.agg #[.int .i64 p, u]] W fun e w' => e = .returned (.int .i64 f) ∧ Below W.heap.size W w'))
    : Calls Try.prog 15 #[.agg #[.int .i64 p, u], .agg #[.int .i64 q, t]] w fun e w' => e = .returned (.tuple #[.agg #[.int .i64 0, .slice none 0 0], .int .i64 f]) ∧ Below w.heap.size w w' := by
  have HC : Hid (∀ W, Below (((w.alloc (.cells #[.int .i64 p, u] 24)).alloc (.cells #[.int .i64 q, t] 24)).alloc (.cells #[.int .i64 0, .slice none 0 0] 24)).heap.size (((w.alloc (.cells #[.int .i64 p, u] 24)).alloc (.cells #[.int .i64 q, t] 24)).alloc (.cells #[.int .i64 0, .slice none 0 0] 24)) W → (W.cell? ⟨w.heap.size, 0, none⟩ = some (.int .i64 p) ∧ W.cell? ⟨w.heap.size, 1, none⟩ = some u) ∧ (W.cell? ⟨w.heap.size + 1, 0, none⟩ = some (.int .i64 q) ∧ W.cell? ⟨w.heap.size + 1, 1, none⟩ = some t) ∧ W.heap[w.heap.size + 2]? = some (.cells #[.int .i64 0, .slice none 0 0] 24 (0, 0))) := fun W h => by
    have e2 := des_box q t (w.alloc (.cells #[.int .i64 p, u] 24)) W (Below.next (balloc _ _) h)
    have e3 := heap_alloc_new ((w.alloc (.cells #[.int .i64 p, u] 24)).alloc (.cells #[.int .i64 q, t] 24)) (.cells #[.int .i64 0, .slice none 0 0] 24)
    rw [World.size_alloc] at e2
    rw [World.size_alloc, World.size_alloc] at e3
    exact ⟨des_box p u w W (Below.next (Below.next (balloc _ _) (balloc _ _)) h), e2, (h.block _ (by simp)).trans e3⟩
  have HB0 : Hid (Below w.heap.size w (((w.alloc (.cells #[.int .i64 p, u] 24)).alloc (.cells #[.int .i64 q, t] 24)).alloc (.cells #[.int .i64 0, .slice none 0 0] 24))) := Below.next (Below.next (balloc _ _) (balloc _ _)) (balloc _ _)
  obtain ⟨w0, Hw0⟩ : ∃ w0, Hid (w0 = ((w.alloc (.cells #[.int .i64 p, u] 24)).alloc (.cells #[.int .i64 q, t] 24)).alloc (.cells #[.int .i64 0, .slice none 0 0] 24)) := ⟨_, rfl⟩
  rw [← Hw0.out] at HC HB0
  obtain ⟨ua, uc, rfl⟩ := hu
  obtain ⟨ta, tc, rfl⟩ := ht
  obtain ⟨⟨x0, x1⟩, ⟨x2, x3⟩, xr⟩ := HC.out w0 (Below.refl _ _)
  rw [Hw0.out] at x0 x1 x2 x3 xr
  clear xr
  have g1 : (f != 0) = true := by simp; omega
  have g2 : ¬ f = 0 := hf
  go_enter Try.func15, Try.ntmps15
  go_wp2_with (go_at_call 13; rw [← Hw0.out]; refine (C.out _ HB0.out).mono ?_; rintro e w1 ⟨rfl, hb⟩; clear C; have HB1 : Hid (Below w.heap.size w w1) := Below.next HB0.out hb; have HK1 : Hid (Below w0.heap.size w0 w1) := hb; obtain ⟨⟨k0, k1⟩, ⟨k2, k3⟩, hr⟩ := HC.out _ hb; have z0 := frozen_of_row _ _ 0 _ _ hr; have z1 := frozen_of_row _ _ 1 _ _ hr; have y0 := cell_of_row _ _ 0 _ _ _ hr; have y1 := cell_of_row _ _ 1 _ _ _ hr; have H7 : Hid (_ ∧ _) := res_none hr HB1.out (by omega); have H8 : Hid (_ ∧ Below w.heap.size w w1) := ⟨hr, HB1.out⟩; clear hr hb)
  first
    | exact post_d2 4 5 rfl rfl H8.out.1 rfl rfl ⟨rfl, H8.out.2⟩
    | exact post_d2 4 5 rfl rfl H7.out.1 rfl rfl ⟨rfl, H7.out.2⟩
set_option maxRecDepth 100000 in
set_option maxHeartbeats 4000000 in
theorem Product_badb (p q f : Int) (hf : f ≠ 0) (n k : Nat) (u t : Value) (w : World) (hu : ∃ a c, u = .slice a n c) (ht : ∃ a c, t = .slice a k c)
    (C : Hid (∀ W, Below w.heap.size w W → Calls Try.prog 13 #[.agg #[.int .i64 p, u]] W fun e w' => e = .returned (.int .i64 0) ∧ Below W.heap.size W w'))
    (C2 : Hid (∀ W, Below w.heap.size w W → Calls Try.prog 13 #[.agg #[.int .i64 q, t]] W fun e w' => e = .returned (.int .i64 f) ∧ Below W.heap.size W w'))
    : Calls Try.prog 15 #[.agg #[.int .i64 p, u], .agg #[.int .i64 q, t]] w fun e w' => e = .returned (.tuple #[.agg #[.int .i64 0, .slice none 0 0], .int .i64 f]) ∧ Below w.heap.size w w' := by
  have HC : Hid (∀ W, Below (((w.alloc (.cells #[.int .i64 p, u] 24)).alloc (.cells #[.int .i64 q, t] 24)).alloc (.cells #[.int .i64 0, .slice none 0 0] 24)).heap.size (((w.alloc (.cells #[.int .i64 p, u] 24)).alloc (.cells #[.int .i64 q, t] 24)).alloc (.cells #[.int .i64 0, .slice none 0 0] 24)) W → (W.cell? ⟨w.heap.size, 0, none⟩ = some (.int .i64 p) ∧ W.cell? ⟨w.heap.size, 1, none⟩ = some u) ∧ (W.cell? ⟨w.heap.size + 1, 0, none⟩ = some (.int .i64 q) ∧ W.cell? ⟨w.heap.size + 1, 1, none⟩ = some t) ∧ W.heap[w.heap.size + 2]? = some (.cells #[.int .i64 0, .slice none 0 0] 24 (0, 0))) := fun W h => by
    have e2 := des_box q t (w.alloc (.cells #[.int .i64 p, u] 24)) W (Below.next (balloc _ _) h)
    have e3 := heap_alloc_new ((w.alloc (.cells #[.int .i64 p, u] 24)).alloc (.cells #[.int .i64 q, t] 24)) (.cells #[.int .i64 0, .slice none 0 0] 24)
    rw [World.size_alloc] at e2
    rw [World.size_alloc, World.size_alloc] at e3
    exact ⟨des_box p u w W (Below.next (Below.next (balloc _ _) (balloc _ _)) h), e2, (h.block _ (by simp)).trans e3⟩
  have HB0 : Hid (Below w.heap.size w (((w.alloc (.cells #[.int .i64 p, u] 24)).alloc (.cells #[.int .i64 q, t] 24)).alloc (.cells #[.int .i64 0, .slice none 0 0] 24))) := Below.next (Below.next (balloc _ _) (balloc _ _)) (balloc _ _)
  obtain ⟨w0, Hw0⟩ : ∃ w0, Hid (w0 = ((w.alloc (.cells #[.int .i64 p, u] 24)).alloc (.cells #[.int .i64 q, t] 24)).alloc (.cells #[.int .i64 0, .slice none 0 0] 24)) := ⟨_, rfl⟩
  rw [← Hw0.out] at HC HB0
  obtain ⟨ua, uc, rfl⟩ := hu
  obtain ⟨ta, tc, rfl⟩ := ht
  obtain ⟨⟨x0, x1⟩, ⟨x2, x3⟩, xr⟩ := HC.out w0 (Below.refl _ _)
  rw [Hw0.out] at x0 x1 x2 x3 xr
  clear xr
  have g1 : (f != 0) = true := by simp; omega
  have g2 : ¬ f = 0 := hf
  go_enter Try.func15, Try.ntmps15
  go_wp2_with (first
    | (go_at_call 13; refine (C2.out _ HB1.out).mono ?_; rintro e w2 ⟨rfl, hb⟩; clear C2; have HB2 : Hid (Below w.heap.size w w2) := Below.next HB1.out hb; obtain ⟨⟨l0, l1⟩, ⟨l2, l3⟩, hr⟩ := HC.out _ (Below.next HK1.out hb); have z0 := frozen_of_row _ _ 0 _ _ hr; have z1 := frozen_of_row _ _ 1 _ _ hr; have y0 := cell_of_row _ _ 0 _ _ _ hr; have y1 := cell_of_row _ _ 1 _ _ _ hr; have H7 : Hid (_ ∧ _) := res_none hr HB2.out (by omega); have H8 : Hid (_ ∧ Below w.heap.size w w2) := ⟨hr, HB2.out⟩; clear hr hb)
    | (go_at_call 13; rw [← Hw0.out]; refine (C.out _ HB0.out).mono ?_; rintro e w1 ⟨rfl, hb⟩; clear C; have HB1 : Hid (Below w.heap.size w w1) := Below.next HB0.out hb; have HK1 : Hid (Below w0.heap.size w0 w1) := hb; obtain ⟨⟨k0, k1⟩, ⟨k2, k3⟩, hr⟩ := HC.out _ hb; clear hr hb))
  first
    | exact post_d2 4 5 rfl rfl H8.out.1 rfl rfl ⟨rfl, H8.out.2⟩
    | exact post_d2 4 5 rfl rfl H7.out.1 rfl rfl ⟨rfl, H7.out.2⟩
set_option maxRecDepth 100000 in
set_option maxHeartbeats 4000000 in
theorem Product_full (v m vm : Nat) (hv : v ≤ 40) (hm : m ≤ 40) (hvm : v * m = vm) (h33 : 33 < vm) (n k : Nat) (u t : Value) (w : World) (hu : ∃ a c, u = .slice a n c) (ht : ∃ a c, t = .slice a k c)
    (C : Hid (∀ W, Below w.heap.size w W → Calls Try.prog 13 #[.agg #[.int .i64 (v : Int), u]] W fun e w' => e = .returned (.int .i64 0) ∧ Below W.heap.size W w'))
    (C2 : Hid (∀ W, Below w.heap.size w W → Calls Try.prog 13 #[.agg #[.int .i64 (m : Int), t]] W fun e w' => e = .returned (.int .i64 0) ∧ Below W.heap.size W w'))
    : Calls Try.prog 15 #[.agg #[.int .i64 (v : Int), u], .agg #[.int .i64 (m : Int), t]] w fun e w' => e = .returned (.tuple #[.agg #[.int .i64 0, .slice none 0 0], .int .i64 3]) ∧ Below w.heap.size w w' := by
  have HC : Hid (∀ W, Below (((w.alloc (.cells #[.int .i64 (v : Int), u] 24)).alloc (.cells #[.int .i64 (m : Int), t] 24)).alloc (.cells #[.int .i64 0, .slice none 0 0] 24)).heap.size (((w.alloc (.cells #[.int .i64 (v : Int), u] 24)).alloc (.cells #[.int .i64 (m : Int), t] 24)).alloc (.cells #[.int .i64 0, .slice none 0 0] 24)) W → (W.cell? ⟨w.heap.size, 0, none⟩ = some (.int .i64 (v : Int)) ∧ W.cell? ⟨w.heap.size, 1, none⟩ = some u) ∧ (W.cell? ⟨w.heap.size + 1, 0, none⟩ = some (.int .i64 (m : Int)) ∧ W.cell? ⟨w.heap.size + 1, 1, none⟩ = some t) ∧ W.heap[w.heap.size + 2]? = some (.cells #[.int .i64 0, .slice none 0 0] 24 (0, 0))) := fun W h => by
    have e2 := des_box (m : Int) t (w.alloc (.cells #[.int .i64 (v : Int), u] 24)) W (Below.next (balloc _ _) h)
    have e3 := heap_alloc_new ((w.alloc (.cells #[.int .i64 (v : Int), u] 24)).alloc (.cells #[.int .i64 (m : Int), t] 24)) (.cells #[.int .i64 0, .slice none 0 0] 24)
    rw [World.size_alloc] at e2
    rw [World.size_alloc, World.size_alloc] at e3
    exact ⟨des_box (v : Int) u w W (Below.next (Below.next (balloc _ _) (balloc _ _)) h), e2, (h.block _ (by simp)).trans e3⟩
  have HB0 : Hid (Below w.heap.size w (((w.alloc (.cells #[.int .i64 (v : Int), u] 24)).alloc (.cells #[.int .i64 (m : Int), t] 24)).alloc (.cells #[.int .i64 0, .slice none 0 0] 24))) := Below.next (Below.next (balloc _ _) (balloc _ _)) (balloc _ _)
  obtain ⟨w0, Hw0⟩ : ∃ w0, Hid (w0 = ((w.alloc (.cells #[.int .i64 (v : Int), u] 24)).alloc (.cells #[.int .i64 (m : Int), t] 24)).alloc (.cells #[.int .i64 0, .slice none 0 0] 24)) := ⟨_, rfl⟩
  rw [← Hw0.out] at HC HB0
  obtain ⟨ua, uc, rfl⟩ := hu
  obtain ⟨ta, tc, rfl⟩ := ht
  obtain ⟨⟨x0, x1⟩, ⟨x2, x3⟩, xr⟩ := HC.out w0 (Below.refl _ _)
  rw [Hw0.out] at x0 x1 x2 x3 xr
  clear xr
  have hmu : (v : Int) * (m : Int) = (vm : Int) := by rw [← hvm]; simp
  have h16 : vm ≤ 40 * 40 := by rw [← hvm]; exact Nat.mul_le_mul hv hm
  have g1 : decide ((vm : Int) > 33) = true := by simp; omega
  have g1' : decide (33 < (vm : Int)) = true := by simp; omega
  have g2 : 33 < (vm : Int) := by omega
  clear hvm
  go_enter Try.func15, Try.ntmps15
  go_wp2_with (first
    | (go_at_call 13; refine (C2.out _ HB1.out).mono ?_; rintro e w2 ⟨rfl, hb⟩; clear C2; have HB2 : Hid (Below w.heap.size w w2) := Below.next HB1.out hb; obtain ⟨⟨l0, l1⟩, ⟨l2, l3⟩, hr⟩ := HC.out _ (Below.next HK1.out hb); have z0 := frozen_of_row _ _ 0 _ _ hr; have z1 := frozen_of_row _ _ 1 _ _ hr; have y0 := cell_of_row _ _ 0 _ _ _ hr; have y1 := cell_of_row _ _ 1 _ _ _ hr; have H7 : Hid (_ ∧ _) := res_none hr HB2.out (by omega); have H8 : Hid (_ ∧ Below w.heap.size w w2) := ⟨hr, HB2.out⟩; clear hr hb)
    | (go_at_call 13; rw [← Hw0.out]; refine (C.out _ HB0.out).mono ?_; rintro e w1 ⟨rfl, hb⟩; clear C; have HB1 : Hid (Below w.heap.size w w1) := Below.next HB0.out hb; have HK1 : Hid (Below w0.heap.size w0 w1) := hb; obtain ⟨⟨k0, k1⟩, ⟨k2, k3⟩, hr⟩ := HC.out _ hb; clear hr hb))
  first
    | exact post_d2 4 5 rfl rfl H8.out.1 rfl rfl ⟨rfl, H8.out.2⟩
    | exact post_d2 4 5 rfl rfl H7.out.1 rfl rfl ⟨rfl, H7.out.2⟩
set_option maxRecDepth 100000 in
set_option maxHeartbeats 4000000 in
theorem Product_good (v m vm : Nat) (_ : v ≤ 40) (_ : m ≤ 40) (hvm : v * m = vm) (h33 : vm ≤ 33) (M : List (List Nat)) (n k : Nat) (u t : Value) (w : World) (hu : ∃ a c, u = .slice a n c) (ht : ∃ a c, t = .slice a k c)
    (C : Hid (∀ W, Below w.heap.size w W → Calls Try.prog 13 #[.agg #[.int .i64 (v : Int), u]] W fun e w' => e = .returned (.int .i64 0) ∧ Below W.heap.size W w'))
    (C2 : Hid (∀ W, Below w.heap.size w W → Calls Try.prog 13 #[.agg #[.int .i64 (m : Int), t]] W fun e w' => e = .returned (.int .i64 0) ∧ Below W.heap.size W w'))
    (D : Hid (∀ W, Below w.heap.size w W → Calls Try.prog 35 #[.agg #[.int .i64 (v : Int), u], .agg #[.int .i64 (m : Int), t]] W fun e w' => ∃ x Z, e = .returned (.agg #[.int .i64 (vm : Int), x]) ∧ Srtd M Z ∧ OR w' (W.heap.size + 4) x Z ∧ Below W.heap.size W w'))
    : Calls Try.prog 15 #[.agg #[.int .i64 (v : Int), u], .agg #[.int .i64 (m : Int), t]] w fun e w' => ∃ x Z, e = .returned (.tuple #[.agg #[.int .i64 (vm : Int), x], .int .i64 0]) ∧ Srtd M Z ∧ Rw w' x (toZ Z) ∧ Below w.heap.size w w' := by
  have HC : Hid (∀ W, Below (((w.alloc (.cells #[.int .i64 (v : Int), u] 24)).alloc (.cells #[.int .i64 (m : Int), t] 24)).alloc (.cells #[.int .i64 0, .slice none 0 0] 24)).heap.size (((w.alloc (.cells #[.int .i64 (v : Int), u] 24)).alloc (.cells #[.int .i64 (m : Int), t] 24)).alloc (.cells #[.int .i64 0, .slice none 0 0] 24)) W → (W.cell? ⟨w.heap.size, 0, none⟩ = some (.int .i64 (v : Int)) ∧ W.cell? ⟨w.heap.size, 1, none⟩ = some u) ∧ (W.cell? ⟨w.heap.size + 1, 0, none⟩ = some (.int .i64 (m : Int)) ∧ W.cell? ⟨w.heap.size + 1, 1, none⟩ = some t) ∧ W.heap[w.heap.size + 2]? = some (.cells #[.int .i64 0, .slice none 0 0] 24 (0, 0))) := fun W h => by
    have e2 := des_box (m : Int) t (w.alloc (.cells #[.int .i64 (v : Int), u] 24)) W (Below.next (balloc _ _) h)
    have e3 := heap_alloc_new ((w.alloc (.cells #[.int .i64 (v : Int), u] 24)).alloc (.cells #[.int .i64 (m : Int), t] 24)) (.cells #[.int .i64 0, .slice none 0 0] 24)
    rw [World.size_alloc] at e2
    rw [World.size_alloc, World.size_alloc] at e3
    exact ⟨des_box (v : Int) u w W (Below.next (Below.next (balloc _ _) (balloc _ _)) h), e2, (h.block _ (by simp)).trans e3⟩
  have HB0 : Hid (Below w.heap.size w (((w.alloc (.cells #[.int .i64 (v : Int), u] 24)).alloc (.cells #[.int .i64 (m : Int), t] 24)).alloc (.cells #[.int .i64 0, .slice none 0 0] 24))) := Below.next (Below.next (balloc _ _) (balloc _ _)) (balloc _ _)
  obtain ⟨w0, Hw0⟩ : ∃ w0, Hid (w0 = ((w.alloc (.cells #[.int .i64 (v : Int), u] 24)).alloc (.cells #[.int .i64 (m : Int), t] 24)).alloc (.cells #[.int .i64 0, .slice none 0 0] 24)) := ⟨_, rfl⟩
  rw [← Hw0.out] at HC HB0
  obtain ⟨ua, uc, rfl⟩ := hu
  obtain ⟨ta, tc, rfl⟩ := ht
  obtain ⟨⟨x0, x1⟩, ⟨x2, x3⟩, xr⟩ := HC.out w0 (Below.refl _ _)
  rw [Hw0.out] at x0 x1 x2 x3 xr
  clear xr
  have hmu : (v : Int) * (m : Int) = (vm : Int) := by rw [← hvm]; simp
  have g1 : decide ((vm : Int) > 33) = false := by simp; omega
  have g1' : decide (33 < (vm : Int)) = false := by simp; omega
  have g2 : ¬ 33 < (vm : Int) := by omega
  clear hvm
  go_enter Try.func15, Try.ntmps15
  go_wp2_with (first
    | (go_at_call 13; refine (C2.out _ HB1.out).mono ?_; rintro e w2 ⟨rfl, hb⟩; clear C2; have HB2 : Hid (Below w.heap.size w w2) := Below.next HB1.out hb; obtain ⟨⟨l0, l1⟩, ⟨l2, l3⟩, hr⟩ := HC.out _ (Below.next HK1.out hb); have HR : Hid (w2.heap[w.heap.size + 2]? = _) := hr; clear hr hb)
    | (go_at_call 13; rw [← Hw0.out]; refine (C.out _ HB0.out).mono ?_; rintro e w1 ⟨rfl, hb⟩; clear C; have HB1 : Hid (Below w.heap.size w w1) := Below.next HB0.out hb; have HK1 : Hid (Below w0.heap.size w0 w1) := hb; obtain ⟨⟨k0, k1⟩, ⟨k2, k3⟩, hr⟩ := HC.out _ hb; clear hr hb)
    | (go_at_call 35; refine (D.out _ HB2.out).mono ?_; rintro e w3 ⟨x, Z, rfl, hS, hO, hb⟩; have hlt : w.heap.size + 2 < w2.heap.size := (Array.getElem?_eq_some_iff.1 HR.out).1; have hr : w3.heap[w.heap.size + 2]? = _ := (hb.block _ hlt).trans HR.out; obtain ⟨xa, xc, rfl⟩ := hO.cap; have hZl := hS.len; rw [hZl] at hO ⊢; have H7 : Hid (_ ∧ _ ∧ _) := res_put (p := (vm : Int)) hr (Below.next HB2.out hb) (by omega) (by omega) hO; have z0 := frozen_of_row _ _ 0 _ _ hr; have z1 := frozen_of_row _ _ 1 _ _ hr; have y0 := cell_of_row _ _ 0 _ _ _ hr; have y1 := cell_of_row _ _ 1 _ _ _ hr; clear hr hb hO hZl HR hlt D))
  exact post_d2 4 5 rfl rfl H7.out.1 rfl rfl ⟨_, Z, rfl, hS, H7.out.2.1, H7.out.2.2⟩

end Go.Proofs.Ytdeofjmgjhfkcaa
