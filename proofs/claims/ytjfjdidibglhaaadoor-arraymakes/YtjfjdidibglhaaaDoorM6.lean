/- ArrayMakes, the law. -/
import Derived.Test.YtjfjdidibglhaaaDoorM5
import Derived.Test.YtjfjdidibglhaaaDoorS3
import Derived.Test.YtjfjdidibglhaaaDoorDLi
import Derived.Test.YtjfjdidibglhaaaDoorYE5
namespace Go.Proofs.YtjfjdidibglhaaaDoor
open Go.RowKit
open Ar (SqL csF suR GoodQ rwQ roQ roQ_len)

/-- Rows that are not too long. -/
def LSh (ls : List (List Int)) : Prop := ls.length ≤ maxLen ∧ ∀ l ∈ ls, l.length ≤ maxLen
theorem LSh.nil : LSh [] := ⟨by unfold maxLen; simp, fun l h => by simp at h⟩
theorem suR_sh (qs : List (Int × List Int)) : LSh (suR qs) := by
  unfold suR
  split
  · rename_i h
    obtain ⟨k, hk⟩ := Ar.csF_good h
    have e : (qs.headD (0, [])).1.toNat = k := by
      cases qs with
      | nil => have := hk.l1; simp at this
      | cons x xs =>
        have := (hk.sq x (by simp)).1
        simp [this]
    rw [e]
    have h8 : k ≤ 8 := by
      cases qs with
      | nil => have := hk.l1; simp at this
      | cons x xs => exact (hk.sq x (by simp)).2.le
    have h6 := hk.l6
    have hkk : k * k ≤ 8 * 8 := Nat.mul_le_mul h8 h8
    refine ⟨?_, fun r hr => ?_⟩
    · unfold rwQ
      rw [List.length_map, List.length_range]
      unfold maxLen; omega
    · unfold rwQ at hr
      obtain ⟨j, _, rfl⟩ := List.mem_map.1 hr
      rw [roQ_len]
      unfold maxLen; omega
  · exact LSh.nil
theorem lnR_sh (q : Nat) (ad mu : Nat → Nat → Nat) {n : Nat} (hn : n ≤ 6) (S : List (List Nat)) : LSh (toZ (lnR q ad mu n S)) := by
  unfold lnR
  split
  · exact LSh.nil
  · rename_i h
    refine ⟨by rw [toZ_len]; unfold maxLen; omega, fun r hr => ?_⟩
    obtain ⟨s, hs, rfl⟩ := List.mem_map.1 hr
    unfold lnL liL at hs
    obtain ⟨c, _, rfl⟩ := List.mem_map.1 hs
    rw [List.length_map, opn_len]
    unfold maxLen; omega
theorem Lists_same {ls : List (List Int)} {x y : Value} {w : World} (hx : Rw w x ls) (hy : Rw w y ls) (h : LSh ls) : Calls Tryd.prog 9 #[x, y] w fun e w' => e = .returned (.bool true) ∧ Below w.heap.size w w' :=
  (Lists_any ls ls x y w hx hy h.1 h.1 h.2 h.2).mono fun e w' ⟨b, e1, hb, bb⟩ => ⟨by rw [e1, hb.2 rfl], bb⟩
theorem rw_sl {w : World} {x : Value} {ls : List (List Int)} (h : Rw w x ls) : ∃ a m c, x = .slice a m c := by
  obtain ⟨a, c, e, _⟩ := h
  exact ⟨a, _, c, e⟩
theorem Squares_any (qs : List (Int × List Int)) (v : Value) (w : World) (hv : SqL w v qs) (hl : qs.length ≤ maxLen) (hll : ∀ q ∈ qs, q.2.length ≤ maxLen) :
    Calls Tryd.prog 10 #[v] w fun e w' => (∃ y, e = .returned (.tuple #[y, .int .i64 (csF qs : Int)]) ∧ Rw w' y (suR qs)) ∧ Below w.heap.size w w' := by
  by_cases h0 : csF qs = 0
  · obtain ⟨k, hk⟩ := Ar.csF_good h0
    have e : (qs.headD (0, [])).1.toNat = k := by
      cases qs with
      | nil => have := hk.l1; simp at this
      | cons x xs =>
        have := (hk.sq x (by simp)).1
        simp [this]
    have hkb : 1 ≤ k ∧ k ≤ 8 := by
      cases qs with
      | nil => have := hk.l1; simp at this
      | cons x xs => exact ⟨(hk.sq x (by simp)).2.pos, (hk.sq x (by simp)).2.le⟩
    refine (Ar.Squares_ok k qs v w hv hk hkb.1 hkb.2).mono ?_
    rintro e' w' ⟨⟨y, rfl, hy⟩, b⟩
    refine ⟨⟨y, by rw [h0]; rfl, ?_⟩, b⟩
    unfold suR
    rw [if_pos h0, e]
    exact hy.rw
  · refine (Ar.Squares_bad qs v w hv hl hll h0).mono ?_
    rintro e' w' ⟨rfl, b⟩
    refine ⟨⟨_, rfl, ?_⟩, b⟩
    unfold suR
    rw [if_neg h0]
    exact Ar.rw_nilZ _
/-- What the second half asks. -/
structure SqC (w : World) (x : Value) (z : Nat) (S : List (List Int)) : Prop where
  form : ∃ a m c, x = .slice a m c
  sq : ∀ W, Below w.heap.size w W → Calls Tryd.prog 10 #[x] W fun e w' => (∃ y, e = .returned (.tuple #[y, .int .i64 (z : Int)]) ∧ Rw w' y S) ∧ Below W.heap.size W w'
  ru : ∀ W, Below w.heap.size w W → Calls Tryd.prog 11 #[x] W fun e w' => (∃ y, e = .returned (.tuple #[y, .int .i64 (z : Int)]) ∧ Rw w' y S) ∧ Below W.heap.size W w'
  sh : LSh S
theorem sqC {w : World} {x : Value} {qs : List (Int × List Int)} (hx : SqL w x qs) (hl : qs.length ≤ maxLen) (hll : ∀ q ∈ qs, q.2.length ≤ maxLen) : SqC w x (csF qs) (suR qs) where
  form := by obtain ⟨a, c, e, _⟩ := hx; exact ⟨a, _, c, e⟩
  sq := fun W b => Squares_any qs x W (hx.below b) hl hll
  ru := fun W b => Ar.SquaresRuns_any qs x W (hx.below b) hl hll
  sh := suR_sh qs
set_option maxRecDepth 100000 in
set_option maxHeartbeats 16000000 in
theorem law3_err (p k n z : Int) (v u x : Value) (z2 : Nat) (S2 : List (List Int)) (w : World) (hv : ∃ a m c, v = .slice a m c) (hu : ∃ a m c, u = .slice a m c) (hQ : SqC w x z2 S2) (h0 : z ≠ 0)
    (h4 : ∀ W, Below w.heap.size w W → Calls Tryd.prog 4 #[.agg #[.int .i64 p, .int .i64 k, v], .int .i64 n] W fun e w' => e = .returned (.int .i64 z) ∧ Below W.heap.size W w')
    (h8 : ∀ W, Below w.heap.size w W → Calls Tryd.prog 8 #[.agg #[.int .i64 p, .int .i64 k, v], .int .i64 n, u] W fun e w' => e = .returned (.tuple #[.slice none 0 0, .int .i64 z]) ∧ Below W.heap.size W w') :
    Calls Tryd.prog 3 #[.agg #[.int .i64 p, .int .i64 k, v], .int .i64 n, u, x] w fun e w' => e = .returned (.bool true) ∧ Below w.heap.size w w' := by
  obtain ⟨fa, fn, fc, rfl⟩ := hv
  obtain ⟨ua, um, uc, rfl⟩ := hu
  obtain ⟨xa, xm, xc, rfl⟩ := hQ.form
  have b1 := balloc w (.cells #[.int .i64 p, .int .i64 k, .slice fa fn fc] 24)
  have HX := fl_box p k (.slice fa fn fc) w
  obtain ⟨w0, Hw0⟩ : ∃ w0, Hid (w.alloc (.cells #[.int .i64 p, .int .i64 k, .slice fa fn fc] 24) = w0) := ⟨_, rfl⟩
  rw [Hw0.out] at b1 HX
  have HX2 : Hid (∀ W, Below w0.heap.size w0 W → (W.cell? ⟨w.heap.size, 0, none⟩ = some (.int .i64 p) ∧ W.cell? ⟨w.heap.size, 1, none⟩ = some (.int .i64 k) ∧ W.cell? ⟨w.heap.size, 2, none⟩ = some (.slice fa fn fc))) := HX
  have hzq : ((z2 : Int) == (z2 : Int)) = true := by simp
  obtain ⟨x0, x1, x2⟩ := HX2.out w0 (Below.refl _ _)
  rw [← Hw0.out] at x0 x1 x2
  clear HX
  have h00 : (z == 0) = false := by simpa using h0
  have hzz : (z != z) = false := by simp
  have C4 := h4 _ b1
  have HLS : Hid (LSh []) := LSh.nil
  clear h4
  go_enter Tryd.func3, Tryd.ntmps3
  go_wp2_with (first
    | (go_at_call 4; rw [Hw0.out]; refine C4.mono ?_; rintro e w1 ⟨rfl, b2⟩; clear C4 x0 x1 x2; obtain ⟨x0, x1, x2⟩ := HX2.out w1 b2; have hB2 := Below.next b1 b2; have C8 := h8 w1 hB2; clear h8)
    | (go_at_call 8; refine C8.mono ?_; rintro e w5 ⟨rfl, b5⟩; clear C8; have hB5 := Below.next hB2 b5; have hL : Rw w5 (.slice none 0 0) [] := Ar.rw_nilZ w5; have hW : Rw w5 (.slice none 0 0) [] := Ar.rw_nilZ w5)
    | (go_at_call 9; first
        | (have C9 := Lists_same hL hW HLS.out; refine C9.mono ?_; rintro e w6 ⟨rfl, b6⟩; clear C9 hL hW; have hB6 := Below.next hB5 b6; have C10 := hQ.sq w6 hB6)
        | (have C9 := Lists_same hL2 hW2 hQ.sh; refine C9.mono ?_; rintro e w9 ⟨rfl, b9⟩; clear C9))
    | (go_at_call 10; refine C10.mono ?_; rintro e w7 ⟨⟨y, rfl, hy⟩, b7⟩; clear C10; obtain ⟨ya, ym, yc, rfl⟩ := rw_sl hy; have hB7 := Below.next hB6 b7; have C11 := hQ.ru w7 hB7)
    | (go_at_call 11; refine C11.mono ?_; rintro e w8 ⟨⟨y2, rfl, hW2⟩, b8⟩; clear C11; obtain ⟨y2a, y2m, y2c, rfl⟩ := rw_sl hW2; have hB8 := Below.next hB7 b8; have hL2 := hy.below b8))
  go_ret
  exact ⟨rfl, Below.next hB8 b9⟩
set_option maxRecDepth 100000 in
set_option maxHeartbeats 16000000 in
theorem law3_rows (p k n z : Int) (v u x : Value) (z2 : Nat) (S2 : List (List Int)) (w : World) (hv : ∃ a m c, v = .slice a m c) (hu : ∃ a m c, u = .slice a m c) (hQ : SqC w x z2 S2) (h0 : z ≠ 0)
    (h4 : ∀ W, Below w.heap.size w W → Calls Tryd.prog 4 #[.agg #[.int .i64 p, .int .i64 k, v], .int .i64 n] W fun e w' => e = .returned (.int .i64 0) ∧ Below W.heap.size W w')
    (h5 : ∀ W, Below w.heap.size w W → Calls Tryd.prog 5 #[.agg #[.int .i64 p, .int .i64 k, v], .int .i64 n, u] W fun e w' => e = .returned (.int .i64 z) ∧ Below W.heap.size W w')
    (h8 : ∀ W, Below w.heap.size w W → Calls Tryd.prog 8 #[.agg #[.int .i64 p, .int .i64 k, v], .int .i64 n, u] W fun e w' => e = .returned (.tuple #[.slice none 0 0, .int .i64 z]) ∧ Below W.heap.size W w') :
    Calls Tryd.prog 3 #[.agg #[.int .i64 p, .int .i64 k, v], .int .i64 n, u, x] w fun e w' => e = .returned (.bool true) ∧ Below w.heap.size w w' := by
  obtain ⟨fa, fn, fc, rfl⟩ := hv
  obtain ⟨ua, um, uc, rfl⟩ := hu
  obtain ⟨xa, xm, xc, rfl⟩ := hQ.form
  have b1 := balloc w (.cells #[.int .i64 p, .int .i64 k, .slice fa fn fc] 24)
  have HX := fl_box p k (.slice fa fn fc) w
  obtain ⟨w0, Hw0⟩ : ∃ w0, Hid (w.alloc (.cells #[.int .i64 p, .int .i64 k, .slice fa fn fc] 24) = w0) := ⟨_, rfl⟩
  rw [Hw0.out] at b1 HX
  have HX2 : Hid (∀ W, Below w0.heap.size w0 W → (W.cell? ⟨w.heap.size, 0, none⟩ = some (.int .i64 p) ∧ W.cell? ⟨w.heap.size, 1, none⟩ = some (.int .i64 k) ∧ W.cell? ⟨w.heap.size, 2, none⟩ = some (.slice fa fn fc))) := HX
  have hzq : ((z2 : Int) == (z2 : Int)) = true := by simp
  obtain ⟨x0, x1, x2⟩ := HX2.out w0 (Below.refl _ _)
  rw [← Hw0.out] at x0 x1 x2
  clear HX
  have h00 : (z == 0) = false := by simpa using h0
  have hzz : (z != z) = false := by simp
  have C4 := h4 _ b1
  have HLS : Hid (LSh []) := LSh.nil
  clear h4
  go_enter Tryd.func3, Tryd.ntmps3
  go_wp2_with (first
    | (go_at_call 4; rw [Hw0.out]; refine C4.mono ?_; rintro e w1 ⟨rfl, b2⟩; clear C4 x0 x1 x2; obtain ⟨x0, x1, x2⟩ := HX2.out w1 b2; have hB2 := Below.next b1 b2; have C5 := h5 w1 hB2; clear h5)
    | (go_at_call 5; refine C5.mono ?_; rintro e w2 ⟨rfl, b3⟩; clear C5 x0 x1 x2; have b23 := Below.next b2 b3; obtain ⟨x0, x1, x2⟩ := HX2.out w2 b23; have hB3 := Below.next b1 b23; have C8 := h8 w2 hB3; clear h8)
    | (go_at_call 8; refine C8.mono ?_; rintro e w5 ⟨rfl, b5⟩; clear C8; have hB5 := Below.next hB3 b5; have hL : Rw w5 (.slice none 0 0) [] := Ar.rw_nilZ w5; have hW : Rw w5 (.slice none 0 0) [] := Ar.rw_nilZ w5)
    | (go_at_call 9; first
        | (have C9 := Lists_same hL hW HLS.out; refine C9.mono ?_; rintro e w6 ⟨rfl, b6⟩; clear C9 hL hW; have hB6 := Below.next hB5 b6; have C10 := hQ.sq w6 hB6)
        | (have C9 := Lists_same hL2 hW2 hQ.sh; refine C9.mono ?_; rintro e w9 ⟨rfl, b9⟩; clear C9))
    | (go_at_call 10; refine C10.mono ?_; rintro e w7 ⟨⟨y, rfl, hy⟩, b7⟩; clear C10; obtain ⟨ya, ym, yc, rfl⟩ := rw_sl hy; have hB7 := Below.next hB6 b7; have C11 := hQ.ru w7 hB7)
    | (go_at_call 11; refine C11.mono ?_; rintro e w8 ⟨⟨y2, rfl, hW2⟩, b8⟩; clear C11; obtain ⟨y2a, y2m, y2c, rfl⟩ := rw_sl hW2; have hB8 := Below.next hB7 b8; have hL2 := hy.below b8))
  go_ret
  exact ⟨rfl, Below.next hB8 b9⟩
set_option maxRecDepth 100000 in
set_option maxHeartbeats 16000000 in
theorem law3_ok (p k n : Int) (z : Nat) (v u x : Value) (z2 : Nat) (S2 : List (List Int)) (w : World) (hv : ∃ a m c, v = .slice a m c) (hu : ∃ a m c, u = .slice a m c) (hQ : SqC w x z2 S2) (Z : Value → World → Prop) (LS : List (List Int)) (hLS : LSh LS)
    (h4 : ∀ W, Below w.heap.size w W → Calls Tryd.prog 4 #[.agg #[.int .i64 p, .int .i64 k, v], .int .i64 n] W fun e w' => e = .returned (.int .i64 0) ∧ Below W.heap.size W w')
    (h5 : ∀ W, Below w.heap.size w W → Calls Tryd.prog 5 #[.agg #[.int .i64 p, .int .i64 k, v], .int .i64 n, u] W fun e w' => e = .returned (.int .i64 0) ∧ Below W.heap.size W w')
    (h6 : ∀ W, Below w.heap.size w W → Calls Tryd.prog 6 #[.agg #[.int .i64 p, .int .i64 k, v], .int .i64 n, u] W fun e w' => (∃ y, e = .returned y ∧ (∃ a m c, y = .slice a m c) ∧ Z y w') ∧ Below W.heap.size W w')
    (h7 : ∀ W y, Below w.heap.size w W → Z y W → Calls Tryd.prog 7 #[.agg #[.int .i64 p, .int .i64 k, v], .int .i64 n, y] W fun e w' => (∃ y, e = .returned (.tuple #[y, .int .i64 (z : Int)]) ∧ Rw w' y LS) ∧ Below W.heap.size W w')
    (h8 : ∀ W, Below w.heap.size w W → Calls Tryd.prog 8 #[.agg #[.int .i64 p, .int .i64 k, v], .int .i64 n, u] W fun e w' => (∃ y, e = .returned (.tuple #[y, .int .i64 (z : Int)]) ∧ Rw w' y LS) ∧ Below W.heap.size W w') :
    Calls Tryd.prog 3 #[.agg #[.int .i64 p, .int .i64 k, v], .int .i64 n, u, x] w fun e w' => e = .returned (.bool true) ∧ Below w.heap.size w w' := by
  obtain ⟨fa, fn, fc, rfl⟩ := hv
  obtain ⟨ua, um, uc, rfl⟩ := hu
  obtain ⟨xa, xm, xc, rfl⟩ := hQ.form
  have b1 := balloc w (.cells #[.int .i64 p, .int .i64 k, .slice fa fn fc] 24)
  have HX := fl_box p k (.slice fa fn fc) w
  obtain ⟨w0, Hw0⟩ : ∃ w0, Hid (w.alloc (.cells #[.int .i64 p, .int .i64 k, .slice fa fn fc] 24) = w0) := ⟨_, rfl⟩
  rw [Hw0.out] at b1 HX
  have HX2 : Hid (∀ W, Below w0.heap.size w0 W → (W.cell? ⟨w.heap.size, 0, none⟩ = some (.int .i64 p) ∧ W.cell? ⟨w.heap.size, 1, none⟩ = some (.int .i64 k) ∧ W.cell? ⟨w.heap.size, 2, none⟩ = some (.slice fa fn fc))) := HX
  have hzq : ((z2 : Int) == (z2 : Int)) = true := by simp
  obtain ⟨x0, x1, x2⟩ := HX2.out w0 (Below.refl _ _)
  rw [← Hw0.out] at x0 x1 x2
  clear HX
  have hzz : ((z : Int) != (z : Int)) = false := by simp
  have C4 := h4 _ b1
  have HLS : Hid (LSh LS) := hLS
  clear h4 hLS
  go_enter Tryd.func3, Tryd.ntmps3
  go_wp2_with (first
    | (go_at_call 4; rw [Hw0.out]; refine C4.mono ?_; rintro e w1 ⟨rfl, b2⟩; clear C4 x0 x1 x2; obtain ⟨x0, x1, x2⟩ := HX2.out w1 b2; have hB2 := Below.next b1 b2; have C5 := h5 w1 hB2; clear h5)
    | (go_at_call 5; refine C5.mono ?_; rintro e w2 ⟨rfl, b3⟩; clear C5 x0 x1 x2; have b23 := Below.next b2 b3; obtain ⟨x0, x1, x2⟩ := HX2.out w2 b23; have hB3 := Below.next b1 b23; have C6 := h6 w2 hB3; clear h6)
    | (go_at_call 6; refine C6.mono ?_; rintro e w3 ⟨⟨y6, rfl, ⟨y6a, y6m, y6c, rfl⟩, hZ⟩, b4⟩; clear C6 x0 x1 x2; have b24 := Below.next b23 b4; obtain ⟨x0, x1, x2⟩ := HX2.out w3 b24; have hB4 := Below.next b1 b24; have C7 := h7 w3 _ hB4 hZ; clear h7 hZ)
    | (go_at_call 7; refine C7.mono ?_; rintro e w4 ⟨⟨y7, rfl, hW7⟩, b5⟩; clear C7 x0 x1 x2; have b25 := Below.next b24 b5; obtain ⟨x0, x1, x2⟩ := HX2.out w4 b25; have hB45 := Below.next b1 b25; have C8 := h8 w4 hB45; clear h8; obtain ⟨y7a, y7m, y7c, rfl⟩ := rw_sl hW7)
    | (go_at_call 8; refine C8.mono ?_; rintro e w5 ⟨⟨y8, rfl, hL⟩, b5'⟩; clear C8; have hB5 := Below.next hB45 b5'; obtain ⟨y8a, y8m, y8c, rfl⟩ := rw_sl hL; have hW := hW7.below b5')
    | (go_at_call 9; first
        | (have C9 := Lists_same hL hW HLS.out; refine C9.mono ?_; rintro e w6 ⟨rfl, b6⟩; clear C9 hL hW; have hB6 := Below.next hB5 b6; have C10 := hQ.sq w6 hB6)
        | (have C9 := Lists_same hL2 hW2 hQ.sh; refine C9.mono ?_; rintro e w9 ⟨rfl, b9⟩; clear C9))
    | (go_at_call 10; refine C10.mono ?_; rintro e w7 ⟨⟨y, rfl, hy⟩, b7⟩; clear C10; obtain ⟨ya, ym, yc, rfl⟩ := rw_sl hy; have hB7 := Below.next hB6 b7; have C11 := hQ.ru w7 hB7)
    | (go_at_call 11; refine C11.mono ?_; rintro e w8 ⟨⟨y2, rfl, hW2⟩, b8⟩; clear C11; obtain ⟨y2a, y2m, y2c, rfl⟩ := rw_sl hW2; have hB8 := Below.next hB7 b8; have hL2 := hy.below b8))
  go_ret
  exact ⟨rfl, Below.next hB8 b9⟩
open Ar in
theorem Makes_law (p k n : Int) (l : List Int) (v u x : Value) (rs : List (List Int)) (qs : List (Int × List Int)) (w : World) (hT : Fd.Tab w) (hl : Fd.Sl w v l) (hll : l.length ≤ maxLen) (hu : RwC w u rs) (hx : SqL w x qs) (hq : qs.length ≤ maxLen) (hqq : ∀ q ∈ qs, q.2.length ≤ maxLen) :
    Calls Tryd.prog 3 #[.agg #[.int .i64 p, .int .i64 k, v], .int .i64 n, u, x] w fun e w' => e = .returned (.bool true) ∧ Below w.heap.size w w' := by
  have hQ := sqC hx hq hqq
  have hv : ∃ a m c, v = .slice a m c := by obtain ⟨a, c, e, _⟩ := hl; exact ⟨a, _, c, e⟩
  have hus : ∃ a m c, u = .slice a m c := by obtain ⟨a, m, c, e, _⟩ := hu.form; exact ⟨a, m, c, e⟩
  rcases room_cases p k l n with ⟨z, hz⟩ | ⟨P, K, N, hO⟩
  · refine law3_err p k n z v u x _ _ w hv hus hQ hz.ne (fun W b => RoomFault_err hz (hT.below b) (hl.below b) hll) fun W b => ?_
    refine Linear_err p k n z v u W hv hus hz.ne fun W' b' => ?_
    have bb := Below.next b b'
    exact (Basis_err p k n z v u rs (.int .i64 0) W' hv (hu.below bb) (hz.op (hT.below bb) (hl.below bb) hll [u] [rs] _) hz.ne).mono fun e w' ⟨h, b⟩ => ⟨⟨_, _, _, h⟩, b⟩
  · obtain ⟨rfl, rfl, rfl, hG, h1, h6, hf⟩ := hO
    have hF : Fld P K l v w := ⟨hT, hl, hll, hG⟩
    by_cases h0 : rsE (P ^ K) N rs = 0
    · obtain ⟨S, e, hR, hSl⟩ := rs_nat h0
      subst e
      refine law3_ok P K N (lnZ (P ^ K) (adF P K) (muF P K l) N S) v u x _ _ w hv hus hQ (fun y W => ∃ g V, y = .slice (some ⟨g, 0, none⟩) ((P ^ K) ^ N) ((P ^ K) ^ N) ∧ OwnB W g ((P ^ K) ^ N) V ∧ ∀ c, c < (P ^ K) ^ N → (V c = true ↔ Spn (P ^ K) (adF P K) (muF P K l) N S (opn (P ^ K) N c))) (toZ (lnR (P ^ K) (adF P K) (muF P K l) N S)) (lnR_sh _ _ _ h6 S) (fun W b => RoomFault_ok (hF.below b) h1 h6 hf) (fun W b => RowsFault_any P K N l (toZ S) v u W (hF.below b) (hu.below b) h6 0 h0) (fun W b => ?_) (fun W y b hZ => ?_) fun W b => ?_
      · refine (Span_any P K N l S v u W (hF.below b) (hu.rw.below b) hR h1 h6 hf (by omega)).mono ?_
        rintro e w' ⟨g, V, rfl, hV, hVS, b'⟩
        exact ⟨⟨_, rfl, ⟨_, _, _, rfl⟩, g, V, rfl, hV, hVS⟩, b'⟩
      · obtain ⟨g, V, rfl, hV, hVS⟩ := hZ
        refine (LinearOf_any P K N g l V S v W (hF.below b) h6 hf hV hVS).mono ?_
        rintro e w' ⟨y, rfl, hy, b'⟩
        exact ⟨⟨y, rfl, hy⟩, b'⟩
      · refine (Linear_ok P K N l v u S W (hF.below b) h1 h6 hf hus fun W' b' => ?_).mono ?_
        · have bb := Below.next b b'
          have h := Basis_ans (hF.below bb) h1 h6 hf (hu.below bb) (S := S) (fun _ => rfl)
          rw [h0] at h
          exact h
        · rintro e w' ⟨y, rfl, hy, b'⟩
          exact ⟨⟨y, rfl, hy⟩, b'⟩
    · have hne : ((rsE (P ^ K) N rs : Nat) : Int) ≠ 0 := by omega
      refine law3_rows P K N (rsE (P ^ K) N rs : Nat) v u x _ _ w hv hus hQ hne (fun W b => RoomFault_ok (hF.below b) h1 h6 hf) (fun W b => RowsFault_any P K N l rs v u W (hF.below b) (hu.below b) h6 _ rfl) fun W b => ?_
      refine Linear_err P K N _ v u W hv hus hne fun W' b' => ?_
      have bb := Below.next b b'
      refine (Basis_ans (hF.below bb) h1 h6 hf (hu.below bb) (S := []) (fun h => absurd h h0)).mono ?_
      rintro e w' ⟨⟨a, m, c, rfl, _⟩, b⟩
      exact ⟨⟨_, _, _, rfl⟩, b⟩
end Go.Proofs.YtjfjdidibglhaaaDoor
