/- The law PlaneDesargues, whole. -/
import Derived.Test.YtgpkhfpejopacaaDoorLP
/- The law PlaneDesargues: the walks. -/
namespace Go.Proofs.YtgpkhfpejopacaaDoor
open Go.RowKit

set_option maxRecDepth 100000 in
set_option maxHeartbeats 8000000 in
theorem LDes_bad (p k r : Int) (o : Int) (fv tv ov : Value) (w : World) (hr : r ≠ 0) (hv : ∃ a n c, fv = .slice a n c) (h0 : ∀ W, Below w.heap.size w W → Calls Tryd.prog 24 #[] W fun e w' => e = .returned (.bool true) ∧ Below W.heap.size W w')
    (h2 : ∀ W, Below w.heap.size w W → Calls Tryd.prog 10 #[.agg #[.int .i64 p, .int .i64 k, fv]] W fun e w' => e = .returned (.tuple #[.agg #[.int .i64 0, .slice none 0 0], .int .i64 r]) ∧ Below W.heap.size W w') :
    Calls Tryd.prog 8 #[.agg #[.int .i64 p, .int .i64 k, fv], .int .i64 o, tv, ov] w fun e w' => e = .returned (.bool true) ∧ Below w.heap.size w w' := by
  obtain ⟨fa, fn, fc, rfl⟩ := hv
  have b0 := balloc w (.cells #[.int .i64 p, .int .i64 k, .slice fa fn fc] 24)
  have HF : Hid (∀ W, Below (w.alloc (.cells #[.int .i64 p, .int .i64 k, .slice fa fn fc] 24)).heap.size (w.alloc (.cells #[.int .i64 p, .int .i64 k, .slice fa fn fc] 24)) W → W.cell? ⟨w.heap.size, 0, none⟩ = some (.int .i64 p) ∧ W.cell? ⟨w.heap.size, 1, none⟩ = some (.int .i64 k) ∧ W.cell? ⟨w.heap.size, 2, none⟩ = some (.slice fa fn fc)) := fBoxM _ _ _ w
  have C1 := h0 _ b0
  have H2 : Hid (∀ W, Below w.heap.size w W → Calls Tryd.prog 10 #[.agg #[.int .i64 p, .int .i64 k, .slice fa fn fc]] W fun e w' => e = .returned (.tuple #[.agg #[.int .i64 0, .slice none 0 0], .int .i64 r]) ∧ Below W.heap.size W w') := h2
  have hr1 : (r != 0) = true := by simpa using hr
  clear h0 h2
  go_enter Tryd.func8, Tryd.ntmps8
  go_wp2_with (first
    | (go_at_call 24; refine C1.mono ?_; rintro e w1 ⟨rfl, b1⟩; clear C1; obtain ⟨y0, y1, y2⟩ := HF.out _ b1; replace b1 := Below.next b0 b1; have C2 := H2.out _ b1)
    | (go_at_call 10; refine C2.mono ?_; rintro e w2 ⟨rfl, b2⟩; clear C2; have c2 := balloc w2 (.cells #[.int .i64 0, .slice none 0 0] 29); replace b2 := Below.next (Below.next b1 b2) c2))
  go_ret
  exact ⟨rfl, b2⟩
set_option maxRecDepth 100000 in
set_option maxHeartbeats 8000000 in
theorem LDes_out (p k o : Int) (v tn n : Nat) (BB : List (List Nat)) (fv tv ov : Value) (w : World) (hv : ∃ a n c, fv = .slice a n c) (ht : ∃ a c, tv = .slice a tn c) (ho : ∃ a c, ov = .slice a n c) (hout : tn < 3 ∨ n < 3 ∨ o < 0 ∨ (v : Int) ≤ o) (h0 : ∀ W, Below w.heap.size w W → Calls Tryd.prog 24 #[] W fun e w' => e = .returned (.bool true) ∧ Below W.heap.size W w')
    (h2 : ∀ W, Below w.heap.size w W → Calls Tryd.prog 10 #[.agg #[.int .i64 p, .int .i64 k, fv]] W fun e w' => ∃ xa xn xc, e = .returned (.tuple #[.agg #[.int .i64 (v : Int), .slice xa xn xc], .int .i64 0]) ∧ Hid (Rw w' (.slice xa xn xc) (toZ BB)) ∧ Below W.heap.size W w') :
    Calls Tryd.prog 8 #[.agg #[.int .i64 p, .int .i64 k, fv], .int .i64 o, tv, ov] w fun e w' => e = .returned (.bool true) ∧ Below w.heap.size w w' := by
  obtain ⟨fa, fn, fc, rfl⟩ := hv
  have b0 := balloc w (.cells #[.int .i64 p, .int .i64 k, .slice fa fn fc] 24)
  have HF : Hid (∀ W, Below (w.alloc (.cells #[.int .i64 p, .int .i64 k, .slice fa fn fc] 24)).heap.size (w.alloc (.cells #[.int .i64 p, .int .i64 k, .slice fa fn fc] 24)) W → W.cell? ⟨w.heap.size, 0, none⟩ = some (.int .i64 p) ∧ W.cell? ⟨w.heap.size, 1, none⟩ = some (.int .i64 k) ∧ W.cell? ⟨w.heap.size, 2, none⟩ = some (.slice fa fn fc)) := fBoxM _ _ _ w
  have C1 := h0 _ b0
  obtain ⟨ta, tc, rfl⟩ := ht
  obtain ⟨oa, oc, rfl⟩ := ho
  have H2 : Hid (∀ W, Below w.heap.size w W → Calls Tryd.prog 10 #[.agg #[.int .i64 p, .int .i64 k, .slice fa fn fc]] W fun e w' => ∃ xa xn xc, e = .returned (.tuple #[.agg #[.int .i64 (v : Int), .slice xa xn xc], .int .i64 0]) ∧ Hid (Rw w' (.slice xa xn xc) (toZ BB)) ∧ Below W.heap.size W w') := h2
  have HDB : Hid (∀ (W : World) (u : Value), (W.alloc (.cells #[.int .i64 (v : Int), u] 29)).cell? ⟨W.heap.size, 0, none⟩ = some (.int .i64 (v : Int)) ∧ (W.alloc (.cells #[.int .i64 (v : Int), u] 29)).cell? ⟨W.heap.size, 1, none⟩ = some u) := fun W u => des_box v _ W _ (Below.refl _ _)
  clear h0 h2
  by_cases a1 : tn < 3
  · have e1 : decide ((tn : Int) < 3) = true := by simp; omega
    have e1' : decide (tn < 3) = true := by simpa using a1
    go_enter Tryd.func8, Tryd.ntmps8
    go_wp2_with (first
      | (go_at_call 24; refine C1.mono ?_; rintro e w1 ⟨rfl, b1⟩; clear C1; obtain ⟨y0, y1, y2⟩ := HF.out _ b1; replace b1 := Below.next b0 b1; have C2 := H2.out _ b1)
      | (go_at_call 10; refine C2.mono ?_; rintro e w2 ⟨ua, un, uc, rfl, HR2, b2⟩; clear C2; have c2 := balloc w2 (.cells #[.int .i64 (v : Int), .slice ua un uc] 29); obtain ⟨d0, d1⟩ := HDB.out w2 (.slice ua un uc); replace b2 := Below.next (Below.next b1 b2) c2))
    go_ret
    exact ⟨rfl, b2⟩
  · have e1 : decide ((tn : Int) < 3) = false := by simp; omega
    have e1' : decide (tn < 3) = false := by simpa using a1
    by_cases a2 : n < 3
    · have e2 : decide ((n : Int) < 3) = true := by simp; omega
      have e2' : decide (n < 3) = true := by simpa using a2
      go_enter Tryd.func8, Tryd.ntmps8
      go_wp2_with (first
        | (go_at_call 24; refine C1.mono ?_; rintro e w1 ⟨rfl, b1⟩; clear C1; obtain ⟨y0, y1, y2⟩ := HF.out _ b1; replace b1 := Below.next b0 b1; have C2 := H2.out _ b1)
        | (go_at_call 10; refine C2.mono ?_; rintro e w2 ⟨ua, un, uc, rfl, HR2, b2⟩; clear C2; have c2 := balloc w2 (.cells #[.int .i64 (v : Int), .slice ua un uc] 29); obtain ⟨d0, d1⟩ := HDB.out w2 (.slice ua un uc); replace b2 := Below.next (Below.next b1 b2) c2))
      go_ret
      exact ⟨rfl, b2⟩
    · have e2 : decide ((n : Int) < 3) = false := by simp; omega
      have e2' : decide (n < 3) = false := by simpa using a2
      by_cases a3 : o < 0
      · have e3 : decide (o < 0) = true := decide_eq_true a3
        go_enter Tryd.func8, Tryd.ntmps8
        go_wp2_with (first
          | (go_at_call 24; refine C1.mono ?_; rintro e w1 ⟨rfl, b1⟩; clear C1; obtain ⟨y0, y1, y2⟩ := HF.out _ b1; replace b1 := Below.next b0 b1; have C2 := H2.out _ b1)
          | (go_at_call 10; refine C2.mono ?_; rintro e w2 ⟨ua, un, uc, rfl, HR2, b2⟩; clear C2; have c2 := balloc w2 (.cells #[.int .i64 (v : Int), .slice ua un uc] 29); obtain ⟨d0, d1⟩ := HDB.out w2 (.slice ua un uc); replace b2 := Below.next (Below.next b1 b2) c2))
        go_ret
        exact ⟨rfl, b2⟩
      · have e3 : decide (o < 0) = false := decide_eq_false a3
        have a4 : (v : Int) ≤ o := by omega
        have e4 : decide ((v : Int) ≤ o) = true := decide_eq_true a4
        go_enter Tryd.func8, Tryd.ntmps8
        go_wp2_with (first
          | (go_at_call 24; refine C1.mono ?_; rintro e w1 ⟨rfl, b1⟩; clear C1; obtain ⟨y0, y1, y2⟩ := HF.out _ b1; replace b1 := Below.next b0 b1; have C2 := H2.out _ b1)
          | (go_at_call 10; refine C2.mono ?_; rintro e w2 ⟨ua, un, uc, rfl, HR2, b2⟩; clear C2; have c2 := balloc w2 (.cells #[.int .i64 (v : Int), .slice ua un uc] 29); obtain ⟨d0, d1⟩ := HDB.out w2 (.slice ua un uc); replace b2 := Below.next (Below.next b1 b2) c2))
        go_ret
        exact ⟨rfl, b2⟩
/-- What has been picked so far on the lines through a point. -/
def DkI (v : Nat) (B : List (List Nat)) (o : Nat) (ts : List Int) (s : List Nat) : Prop := ∀ (j u : Nat), s[j]? = some u → ∃ t l : Nat, ts.getD j 0 = (t : Int) ∧ t < v ∧ l < B.length ∧ inc B o l = true ∧ inc B t l = true ∧ inc B u l = true ∧ t ≠ o ∧ u ≠ o ∧ u ≠ t
theorem DkI.more {v : Nat} {B : List (List Nat)} {o t l u : Nat} {ts : List Int} {s : List Nat} (h : DkI v B o ts s) (ht : ts.getD s.length 0 = (t : Int)) (tv : t < v) (hl : l < B.length) (h1 : inc B o l = true) (h2 : inc B t l = true) (h3 : inc B u l = true) (h4 : t ≠ o) (h5 : u ≠ o) (h6 : u ≠ t) : DkI v B o ts (s ++ [u]) := fun j z hz => by
  by_cases hj : j < s.length
  · rw [List.getElem?_append_left hj] at hz
    exact h j z hz
  · rw [List.getElem?_append_right (by omega)] at hz
    have hlt := (List.getElem?_eq_some_iff.1 hz).1
    simp at hlt
    obtain rfl : j = s.length := by omega
    obtain rfl : u = z := by simpa using hz
    exact ⟨t, l, ht, tv, hl, h1, h2, h3, h4, h5, h6⟩
/-- What is picked for Desargues. -/
structure Dk3 (B : List (List Nat)) (o t0 t1 t2 u0 u1 u2 l0 l1 l2 : Nat) : Prop where
  k0 : l0 < B.length
  k1 : l1 < B.length
  k2 : l2 < B.length
  o0 : inc B o l0 = true
  o1 : inc B o l1 = true
  o2 : inc B o l2 = true
  a0 : inc B t0 l0 = true
  a1 : inc B t1 l1 = true
  a2 : inc B t2 l2 = true
  c0 : inc B u0 l0 = true
  c1 : inc B u1 l1 = true
  c2 : inc B u2 l2 = true
  to0 : t0 ≠ o
  to1 : t1 ≠ o
  to2 : t2 ≠ o
  uo0 : u0 ≠ o
  uo1 : u1 ≠ o
  uo2 : u2 ≠ o
  ut0 : u0 ≠ t0
  ut1 : u1 ≠ t1
  ut2 : u2 ≠ t2
theorem DkI.three {v : Nat} {B : List (List Nat)} {o : Nat} {ts : List Int} {s : List Nat} (h : DkI v B o ts s) (h3 : s.length = 3) : ∃ t0 t1 t2 u0 u1 u2 l0 l1 l2, s = [u0, u1, u2] ∧ ts.getD 0 0 = ((t0 : Nat) : Int) ∧ ts.getD 1 0 = ((t1 : Nat) : Int) ∧ ts.getD 2 0 = ((t2 : Nat) : Int) ∧ Dk3 B o t0 t1 t2 u0 u1 u2 l0 l1 l2 := by
  match s, h3 with
  | [u0, u1, u2], _ =>
    obtain ⟨t0, l0, e0, _, a1, a2, a3, a4, a5, a6, a7⟩ := h 0 u0 rfl
    obtain ⟨t1, l1, e1, _, b1, b2, b3, b4, b5, b6, b7⟩ := h 1 u1 rfl
    obtain ⟨t2, l2, e2, _, c1, c2, c3, c4, c5, c6, c7⟩ := h 2 u2 rfl
    exact ⟨t0, t1, t2, u0, u1, u2, l0, l1, l2, rfl, e0, e1, e2, a1, b1, c1, a2, b2, c2, a3, b3, c3, a4, b4, c4, a5, b5, c5, a6, b6, c6, a7, b7, c7⟩
def dsT (v : Nat) (u : Value) : Value := .agg #[.int .i64 (v : Int), u]
set_option maxRecDepth 100000 in
set_option maxHeartbeats 64000000 in
theorem LDes_main (p k : Int) (o v tn n bn : Nat) (BB : List (List Nat)) (ts os : List Int) (fv tv ov : Value) (w : World) (hv : ∃ a n c, fv = .slice a n c) (ht : Sl w tv ts) (hts : ts.length = tn) (ho : Sl w ov os) (hos : os.length = n) (ht3 : ¬ tn < 3) (hn : ¬ n < 3) (hov : o < v)
    (hBn : ∀ b ∈ BB, b.length = bn) (hb0 : 0 < bn) (hb40 : bn ≤ 40) (h0 : ∀ W, Below w.heap.size w W → Calls Tryd.prog 24 #[] W fun e w' => e = .returned (.bool true) ∧ Below W.heap.size W w')
    (h2 : ∀ W, Below w.heap.size w W → Calls Tryd.prog 10 #[.agg #[.int .i64 p, .int .i64 k, fv]] W fun e w' => ∃ xa xn xc, e = .returned (.tuple #[.agg #[.int .i64 (v : Int), .slice xa xn xc], .int .i64 0]) ∧ Hid (Rw w' (.slice xa xn xc) (toZ BB)) ∧ Below W.heap.size W w')
    (h3 : ∀ x : Int, ∃ jl jz : Nat, (jz = 0 → ∃ t : Nat, x = t ∧ t < v ∧ t ≠ o ∧ jl < BB.length ∧ inc BB o jl = true ∧ inc BB t jl = true) ∧ ∀ (W : World) (u : Value), Below w.heap.size w W → Rw W u (toZ BB) → Calls Tryd.prog 18 #[.agg #[.int .i64 (v : Int), u], .int .i64 (o : Int), .int .i64 x] W fun e w' => e = .returned (.tuple #[.int .i64 (jl : Int), .int .i64 (jz : Int)]) ∧ Below W.heap.size W w')
    (h5 : ∀ (a b c : Nat) (W : World) (u : Value), Below w.heap.size w W → Rw W u (toZ BB) → Calls Tryd.prog 29 #[.agg #[.int .i64 (v : Int), u], .int .i64 (a : Int), .int .i64 (b : Int), .int .i64 (c : Int)] W fun e w' => e = .returned (.bool (il3 BB a b c)) ∧ Below W.heap.size W w')
    (h4 : ∀ t0 t1 t2 u0 u1 u2 l0 l1 l2, Dk3 BB o t0 t1 t2 u0 u1 u2 l0 l1 l2 → il3 BB o t0 t1 = false → il3 BB o t0 t2 = false → il3 BB o t1 t2 = false → ∃ a b c : Nat, il3 BB a b c = true ∧ ∀ (W : World) (u : Value), Below w.heap.size w W → Rw W u (toZ BB) →
      (Calls Tryd.prog 28 #[.agg #[.int .i64 (v : Int), u], .int .i64 (t0 : Int), .int .i64 (t1 : Int), .int .i64 (u0 : Int), .int .i64 (u1 : Int)] W fun e w' => e = .returned (.int .i64 (a : Int)) ∧ Below W.heap.size W w') ∧
      (Calls Tryd.prog 28 #[.agg #[.int .i64 (v : Int), u], .int .i64 (t0 : Int), .int .i64 (t2 : Int), .int .i64 (u0 : Int), .int .i64 (u2 : Int)] W fun e w' => e = .returned (.int .i64 (b : Int)) ∧ Below W.heap.size W w') ∧
      (Calls Tryd.prog 28 #[.agg #[.int .i64 (v : Int), u], .int .i64 (t1 : Int), .int .i64 (t2 : Int), .int .i64 (u1 : Int), .int .i64 (u2 : Int)] W fun e w' => e = .returned (.int .i64 (c : Int)) ∧ Below W.heap.size W w')) :
    Calls Tryd.prog 8 #[.agg #[.int .i64 p, .int .i64 k, fv], .int .i64 (o : Int), tv, ov] w fun e w' => e = .returned (.bool true) ∧ Below w.heap.size w w' := by
  obtain ⟨i3, hi3, hz0, hz1, hz2⟩ := info3
  have key : ∀ (xv : Value) (xs : List Int) (q : Nat), Sl w xv xs → xs.length = q → 0 < q → ∃ g o c, xv = .slice (some ⟨g, o, none⟩) q c ∧ ∀ j, j < q → ∀ W, Below w.heap.size w W → W.cell? ⟨g, o + j, none⟩ = some (.int .i64 (xs.getD j 0)) := fun xv xs q hx hq h0 => by
    obtain ⟨a', c', e, h⟩ := hx
    rw [hq] at h e
    obtain ⟨g, o, e1, _⟩ := h 0 h0
    refine ⟨g, o, c', by rw [e, e1], fun j hj W hW => ?_⟩
    obtain ⟨g2, o2, e2, h1⟩ := h j hj
    rw [e1] at e2
    simp only [Option.some.injEq, Addr.mk.injEq] at e2
    rw [e2.1, e2.2.1]
    exact (hW.cell (World.block_lt_of_cell? _ _ h1)).trans h1
  obtain ⟨og, oo, oc, rfl, hOC⟩ := key ov os n ho hos (by omega)
  obtain ⟨tg, tf, tc, rfl, hTC⟩ := key tv ts tn ht hts (by omega)
  have HOC : Hid (∀ j, j < n → ∀ W, Below w.heap.size w W → W.cell? ⟨og, oo + j, none⟩ = some (.int .i64 (os.getD j 0))) := hOC
  have HTC : Hid (∀ j, j < tn → ∀ W, Below w.heap.size w W → W.cell? ⟨tg, tf + j, none⟩ = some (.int .i64 (ts.getD j 0))) := hTC
  clear hOC hTC key ho ht
  obtain ⟨fa, fn, fc, rfl⟩ := hv
  have b0 := balloc w (.cells #[.int .i64 p, .int .i64 k, .slice fa fn fc] 24)
  have HF : Hid (∀ W, Below (w.alloc (.cells #[.int .i64 p, .int .i64 k, .slice fa fn fc] 24)).heap.size (w.alloc (.cells #[.int .i64 p, .int .i64 k, .slice fa fn fc] 24)) W → W.cell? ⟨w.heap.size, 0, none⟩ = some (.int .i64 p) ∧ W.cell? ⟨w.heap.size, 1, none⟩ = some (.int .i64 k) ∧ W.cell? ⟨w.heap.size, 2, none⟩ = some (.slice fa fn fc)) := fBoxM _ _ _ w
  have C1 := h0 _ b0
  have H2 : Hid (∀ W, Below w.heap.size w W → Calls Tryd.prog 10 #[.agg #[.int .i64 p, .int .i64 k, .slice fa fn fc]] W fun e w' => ∃ xa xn xc, e = .returned (.tuple #[.agg #[.int .i64 (v : Int), .slice xa xn xc], .int .i64 0]) ∧ Hid (Rw w' (.slice xa xn xc) (toZ BB)) ∧ Below W.heap.size W w') := h2
  have H3 : Hid (∀ x : Int, ∃ jl jz : Nat, (jz = 0 → ∃ t : Nat, x = t ∧ t < v ∧ t ≠ o ∧ jl < BB.length ∧ inc BB o jl = true ∧ inc BB t jl = true) ∧ ∀ (W : World) (u : Value), Below w.heap.size w W → Rw W u (toZ BB) → Calls Tryd.prog 18 #[.agg #[.int .i64 (v : Int), u], .int .i64 (o : Int), .int .i64 x] W fun e w' => e = .returned (.tuple #[.int .i64 (jl : Int), .int .i64 (jz : Int)]) ∧ Below W.heap.size W w') := h3
  have H4 : Hid (∀ t0 t1 t2 u0 u1 u2 l0 l1 l2, Dk3 BB o t0 t1 t2 u0 u1 u2 l0 l1 l2 → il3 BB o t0 t1 = false → il3 BB o t0 t2 = false → il3 BB o t1 t2 = false → ∃ a b c : Nat, il3 BB a b c = true ∧ ∀ (W : World) (u : Value), Below w.heap.size w W → Rw W u (toZ BB) →
      (Calls Tryd.prog 28 #[.agg #[.int .i64 (v : Int), u], .int .i64 (t0 : Int), .int .i64 (t1 : Int), .int .i64 (u0 : Int), .int .i64 (u1 : Int)] W fun e w' => e = .returned (.int .i64 (a : Int)) ∧ Below W.heap.size W w') ∧
      (Calls Tryd.prog 28 #[.agg #[.int .i64 (v : Int), u], .int .i64 (t0 : Int), .int .i64 (t2 : Int), .int .i64 (u0 : Int), .int .i64 (u2 : Int)] W fun e w' => e = .returned (.int .i64 (b : Int)) ∧ Below W.heap.size W w') ∧
      (Calls Tryd.prog 28 #[.agg #[.int .i64 (v : Int), u], .int .i64 (t1 : Int), .int .i64 (t2 : Int), .int .i64 (u1 : Int), .int .i64 (u2 : Int)] W fun e w' => e = .returned (.int .i64 (c : Int)) ∧ Below W.heap.size W w')) := h4
  have H5 : Hid (∀ (a b c : Nat) (W : World) (u : Value), Below w.heap.size w W → Rw W u (toZ BB) → Calls Tryd.prog 29 #[.agg #[.int .i64 (v : Int), u], .int .i64 (a : Int), .int .i64 (b : Int), .int .i64 (c : Int)] W fun e w' => e = .returned (.bool (il3 BB a b c)) ∧ Below W.heap.size W w') := h5
  have HDB : Hid (∀ (W W' : World) (u : Value), Below (W.alloc (.cells #[.int .i64 (v : Int), u] 29)).heap.size (W.alloc (.cells #[.int .i64 (v : Int), u] 29)) W' → W'.cell? ⟨W.heap.size, 0, none⟩ = some (.int .i64 (v : Int)) ∧ W'.cell? ⟨W.heap.size, 1, none⟩ = some u) := fun W W' u h => des_box v _ W W' h
  have e1 : decide ((tn : Int) < 3) = false := by simp; omega
  have e1' : decide (tn < 3) = false := by simpa using ht3
  have e2 : decide ((n : Int) < 3) = false := by simp; omega
  have e2' : decide (n < 3) = false := by simpa using hn
  have e3 : decide ((o : Int) < 0) = false := by simp
  have e4 : decide ((v : Int) ≤ (o : Int)) = false := by simp; omega
  have e4' : decide (v ≤ o) = false := by simp; omega
  have e4'' : ¬ v ≤ o := by omega
  clear h0 h2 h3 h4 h5
  go_enter Tryd.func8, Tryd.ntmps8
  go_wp2_with (first
    | (go_at_call 24; refine C1.mono ?_; rintro e w1 ⟨rfl, b1⟩; clear C1; obtain ⟨y0, y1, y2⟩ := HF.out _ b1; replace b1 := Below.next b0 b1; have C2 := H2.out _ b1)
    | (go_at_call 10; refine C2.mono ?_; rintro e w2 ⟨ua, un, uc, rfl, HR2, b2⟩; clear C2; have c2 := balloc w2 (.cells #[.int .i64 (v : Int), .slice ua un uc] 29); obtain ⟨d0, d1⟩ := HDB.out w2 (w2.alloc (.cells #[.int .i64 (v : Int), .slice ua un uc] 29)) (.slice ua un uc) (Below.refl _ _); replace b2 := Below.next (Below.next b1 b2) c2))
  obtain ⟨g, Hg⟩ : ∃ g, Hid (w2.heap.size = g) := ⟨_, rfl⟩
  obtain ⟨w3, Hw3⟩ : ∃ w3, Hid (w3 = w2.alloc (.cells #[.int .i64 (v : Int), .slice ua un uc] 29)) := ⟨_, rfl⟩
  rw [← Hw3.out] at b2 c2
  obtain ⟨C, HC⟩ : ∃ C, Hid (w3.heap.size = C) := ⟨_, rfl⟩
  have HBC : Hid (∀ W, Below C w3 W → Below w.heap.size w W) := fun W h => Below.next b2 (by rw [HC.out]; exact h)
  have HSC : Hid (∀ W, Below C w3 W → C ≤ W.heap.size) := fun W h => by rw [← HC.out]; exact h.size
  have HBX : Hid (∀ W, Below C w3 W → W.cell? ⟨g, 0, none⟩ = some (.int .i64 (v : Int)) ∧ W.cell? ⟨g, 1, none⟩ = some (.slice ua un uc)) := fun W h => by
    rw [← Hg.out]
    exact HDB.out w2 W _ (by rw [← Hw3.out, HC.out]; exact h)
  have hR3 : Rw w3 (.slice ua un uc) (toZ BB) := HR2.out.below c2
  have HRW : Hid (∀ W, Below C w3 W → Rw W (.slice ua un uc) (toZ BB)) := fun W h => hR3.below (by rw [HC.out]; exact h)
  obtain ⟨ua', uc', eu, hD⟩ := drow_of hR3
  have hun : un = BB.length := by simp only [Value.slice.injEq] at eu; exact eu.2.1
  have hua : ua = ua' := by simp only [Value.slice.injEq] at eu; exact eu.1
  subst hua
  have HLR : Hid (∀ j, j < un → ∃ (bb off : Nat) (L : List Nat) (la : Option Addr) (lc : Nat), ua = some ⟨bb, off, none⟩ ∧ BB[j]? = some L ∧ L.length = bn ∧ (∀ W, Below C w3 W → W.cell? ⟨bb, off + j, none⟩ = some (.slice la bn lc)) ∧ ∀ i, i < bn → ∃ lg lo, la = some ⟨lg, lo, none⟩ ∧ inc BB (L.getD i 0) j = true ∧ ∀ W, Below C w3 W → W.cell? ⟨lg, lo + i, none⟩ = some (.int .i64 ((L.getD i 0 : Nat) : Int))) := fun j hj => by
    obtain ⟨L, hL⟩ := at_of (show j < BB.length by omega)
    have hLn := hBn L (List.mem_of_getElem? hL)
    obtain ⟨bb, off, la, lc, eb, hrow⟩ := hD j L hL
    rw [hLn] at hrow
    refine ⟨bb, off, L, la, lc, eb, hL, hLn, fun W h => (hrow W (by rw [HC.out]; exact h)).1, fun i hi => ?_⟩
    obtain ⟨a', c', e, h⟩ := (hrow w3 (Below.refl _ _)).2
    rw [List.length_map] at h e
    obtain ⟨lg, lo, e1, h1⟩ := h i (by omega)
    rw [ofNat_at L (by omega)] at h1
    simp only [Value.slice.injEq] at e
    refine ⟨lg, lo, by rw [e.1, e1], ?_, fun W hW => (hW.cell (by rw [← HC.out]; exact World.block_lt_of_cell? _ _ h1)).trans h1⟩
    rw [inc_at hL, List.contains_iff_mem, List.getD_eq_getElem?_getD, List.getElem?_eq_getElem (by omega)]
    exact List.getElem_mem _
  have h0 : Below C w3 w3 := Below.refl _ _
  have hbn0 : ¬ (bn : Int) = 0 := by omega
  have hbn0' : ¬ bn = 0 := by omega
  have HUN : Hid (un = BB.length) := hun
  clear hR3 hD eu d0 d1 b2 b1 c2 HR2 y0 y1 y2 hBn hun
  rw [Hg.out]
  go_loopw [12, 13] (fun pv iv wr => ∃ (s : List Nat) (pa : Option Addr) (pn pc : Nat), iv = .int .i64 (pn : Int) ∧ pn ≤ 3 ∧ pv = .slice pa pn pc ∧ Hid (s.length = pn) ∧ Hid (ORow wr C (.slice pa pn pc) s) ∧ Hid (DkI v BB o ts s) ∧ Below C w3 wr) (fun _ iv _ => (3 - intOf iv).toNat)
  case atStart => exact ⟨[], none, 0, 0, rfl, by omega, rfl, (show ([] : List Nat).length = 0 from rfl), (show ORow _ _ _ [] from World.ownsRow_nil _ _ _ _), (show DkI v BB o ts [] from fun j u h => by simp at h), by rw [Hw3.out] at h0 ⊢; exact h0⟩
  case round =>
    clear h0
    obtain ⟨s, pa, pn, pc, rfl, hp3, rfl, HSL, HOR, HPK, hB⟩ := hrel
    obtain ⟨x0, x1⟩ := HBX.out _ hB
    by_cases hlt : pn < 3
    · have hdi : decide ((pn : Int) < 3) = true := by simp; omega
      have htc := HTC.out pn (by omega) _ (HBC.out _ hB)
      have hpt : (pn : Int) < (tn : Int) := by omega
      have hpni : (pn : Int) < (n : Int) := by omega
      obtain ⟨x, Hx⟩ : ∃ x, Hid (ts.getD pn 0 = x) := ⟨_, rfl⟩
      rw [Hx.out] at htc
      obtain ⟨jl, jz, hjz, hjc⟩ := H3.out x
      have HJZ : Hid (jz = 0 → ∃ t : Nat, x = t ∧ t < v ∧ t ≠ o ∧ jl < BB.length ∧ inc BB o jl = true ∧ inc BB t jl = true) := hjz
      have HJC : Hid (∀ W, Below wr.heap.size wr W → Calls Tryd.prog 18 #[.agg #[.int .i64 (v : Int), .slice ua un uc], .int .i64 (o : Int), .int .i64 x] W fun e w' => e = .returned (.tuple #[.int .i64 (jl : Int), .int .i64 (jz : Int)]) ∧ Below W.heap.size W w') := fun W hW => hjc W _ (Below.next (HBC.out _ hB) hW) (HRW.out _ (hB.trans (hW.mono (HSC.out _ hB))))
      have HBr : Hid (Below C w3 wr) := hB
      clear hjz hjc
      have hS : Hid (∀ W, Below wr.heap.size wr W → (fun W => W.cell? ⟨g, 0, none⟩ = some (.int .i64 (v : Int)) ∧ W.cell? ⟨g, 1, none⟩ = some (.slice ua un uc) ∧ W.cell? ⟨tg, tf + pn, none⟩ = some (.int .i64 x)) W) := fun W hW => ⟨(hW.cell (World.block_lt_of_cell? _ _ x0)).trans x0, (hW.cell (World.block_lt_of_cell? _ _ x1)).trans x1, (hW.cell (World.block_lt_of_cell? _ _ htc)).trans htc⟩
      have r0 : Below wr.heap.size wr wr := Below.refl _ _
      clear x0 x1 htc hB
      go_wp2
      refine wp_region_noPanic ?_
      refine wp_region_held_drew (S := fun W => W.cell? ⟨g, 0, none⟩ = some (.int .i64 (v : Int)) ∧ W.cell? ⟨g, 1, none⟩ = some (.slice ua un uc) ∧ W.cell? ⟨tg, tf + pn, none⟩ = some (.int .i64 x)) (by kernel_rfl) (hS.out _ r0.drew) (fun hSx => ?_)
      refine wpAnyH_take (i := 0) (v := .agg #[.int .i64 (v : Int), .slice ua un uc]) rfl (by kernel_rfl) (by kernel_rfl) (by kernel_rfl) (fun _ _ _ h => h) (Or.inl ⟨by rfl, fun w' hSw => by (try dsimp only at hSw); obtain ⟨hs0, hs1, hs2⟩ := hSw; go_simp⟩) hSx ?_
      try simp only [Act.put, List.setIfInBounds_toArray]
      refine wpAnyH_take (i := 1) (v := .int .i64 (o : Int)) rfl (by kernel_rfl) (by kernel_rfl) (by kernel_rfl) (fun _ _ _ h => h) (Or.inl ⟨by rfl, fun w' hSw => by (try dsimp only at hSw); obtain ⟨hs0, hs1, hs2⟩ := hSw; go_simp⟩) hSx ?_
      try simp only [Act.put]
      refine wpAnyH_take (i := 2) (v := .slice (some ⟨tg, tf, none⟩) tn tc) rfl (by kernel_rfl) (by kernel_rfl) (by kernel_rfl) (fun _ _ _ h => h) (Or.inl ⟨by rfl, fun w' hSw => by (try dsimp only at hSw); obtain ⟨hs0, hs1, hs2⟩ := hSw; go_simp⟩) hSx ?_
      try simp only [Act.put]
      refine wpAnyH_take (i := 3) (v := .int .i64 (pn : Int)) rfl (by kernel_rfl) (by kernel_rfl) (by kernel_rfl) (fun _ _ _ h => h) (Or.inl ⟨by rfl, fun w' hSw => by (try dsimp only at hSw); obtain ⟨hs0, hs1, hs2⟩ := hSw; go_simp⟩) hSx ?_
      try simp only [Act.put]
      refine wpAnyH_take (i := 4) (v := .pointer (some ⟨tg, tf + pn, none⟩)) rfl (by kernel_rfl) (by kernel_rfl) (by kernel_rfl) (fun _ _ _ h => h) (Or.inl ⟨by rfl, fun w' hSw => by (try dsimp only at hSw); obtain ⟨hs0, hs1, hs2⟩ := hSw; go_simp⟩) hSx ?_
      try simp only [Act.put]
      refine wpAnyH_take (i := 5) (v := .int .i64 x) rfl (by kernel_rfl) (by kernel_rfl) (by kernel_rfl) (fun _ _ _ h => h) (Or.inl ⟨by rfl, fun w' hSw => by (try dsimp only at hSw); obtain ⟨hs0, hs1, hs2⟩ := hSw; go_simp⟩) hSx ?_
      try simp only [Act.put]
      refine wpAnyH_ready (rs := [6]) (by kernel_rfl) (by simp) ?_
      refine (AllReadyH.cons rfl (fun J hJ => ?_) AllReadyH.nil)
      go_simp
      refine (HJC.out _ r0.drew).mono ?_
      rintro e v1 ⟨rfl, bv1⟩
      have r1 : Below wr.heap.size wr v1 := Below.next r0.drew bv1
      go_wp2_with fail
      refine hJ.out _ _ (hS.out _ r1) (fun hSx => ?_)
      clear hJ J
      try simp only [Act.put, List.setIfInBounds_toArray, List.set_cons_zero, List.set_cons_succ]
      refine wpAnyH_take (i := 7) (v := .tuple #[.int .i64 (jl : Int), .int .i64 (jz : Int)]) rfl (by kernel_rfl) (by kernel_rfl) (by kernel_rfl) (fun _ _ _ h => h) (Or.inl ⟨by rfl, fun w' hSw => by (try dsimp only at hSw); obtain ⟨hs0, hs1, hs2⟩ := hSw; go_simp⟩) hSx ?_
      try simp only [Act.put, List.setIfInBounds_toArray]
      refine wpAnyH_take (i := 8) (v := .int .i64 (jl : Int)) rfl (by kernel_rfl) (by kernel_rfl) (by kernel_rfl) (fun _ _ _ h => h) (Or.inl ⟨by rfl, fun w' hSw => by (try dsimp only at hSw); obtain ⟨hs0, hs1, hs2⟩ := hSw; go_simp⟩) hSx ?_
      try simp only [Act.put]
      refine wpAnyH_take (i := 9) (v := .int .i64 (jz : Int)) rfl (by kernel_rfl) (by kernel_rfl) (by kernel_rfl) (fun _ _ _ h => h) (Or.inl ⟨by rfl, fun w' hSw => by (try dsimp only at hSw); obtain ⟨hs0, hs1, hs2⟩ := hSw; go_simp⟩) hSx ?_
      try simp only [Act.put]
      refine wpAnyH_ready (rs := [10]) (by kernel_rfl) (by simp) ?_
      refine (AllReadyH.cons rfl (fun J hJ => ?_) AllReadyH.nil)
      go_simp
      refine hJ.out _ _ (hS.out _ r1) (fun hSx => ?_)
      clear hJ J
      try simp only [Act.put, List.setIfInBounds_toArray, List.set_cons_zero, List.set_cons_succ]
      refine wpAnyH_ready (rs := [11]) (by kernel_rfl) (by simp) ?_
      refine (AllReadyH.cons rfl (fun J hJ => ?_) AllReadyH.nil)
      go_simp
      refine hJ.out _ _ (hS.out _ r1) (fun hSx => ?_)
      clear hJ J
      try simp only [Act.put, List.setIfInBounds_toArray, List.set_cons_zero, List.set_cons_succ]
      refine wpAnyH_done (by kernel_rfl) ?_ _
      refine NoPanic.normal ?_
      clear hSx
      have HB1 : Hid (Below C w3 v1) := HBr.out.trans (r1.mono (HSC.out _ HBr.out))
      obtain ⟨z0, z1, z2⟩ := hS.out _ r1
      by_cases hz : jz = 0
      · obtain ⟨t, rfl, htv, hto, hjl, hoj, htj⟩ := HJZ.out hz
        subst hz
        obtain ⟨bb, off, L, la, lc, rfl, hLB, hLn, hlr, hle⟩ := HLR.out jl (by rw [HUN.out]; exact hjl)
        have hl1 := hlr _ HB1.out
        have hjlu : (jl : Int) < (un : Int) := by have := HUN.out; omega
        have hoc := HOC.out pn (by omega) _ (HBC.out _ HB1.out)
        obtain ⟨z, Hz⟩ : ∃ z, Hid (os.getD pn 0 = z) := ⟨_, rfl⟩
        rw [Hz.out] at hoc
        obtain ⟨r, kk, hmod, hkk, hrk⟩ := pick_mod z hb0
        have hkb : (kk : Int) < (bn : Int) := by omega
        obtain ⟨lg, lo, rfl, hin, hel0⟩ := hle kk hkk
        have hel := hel0 _ HB1.out
        obtain ⟨y, Hy⟩ : ∃ y, Hid (L.getD kk 0 = y) := ⟨_, rfl⟩
        rw [Hy.out] at hel hin
        have HOR1 : Hid (ORow v1 C (.slice pa pn pc) s) := HOR.out.below r1
        have hsz1 : C ≤ v1.heap.size := HSC.out _ HB1.out
        have HDK : Hid (y ≠ o → y ≠ t → DkI v BB o ts (s ++ [y])) := fun q1 q2 => HPK.out.more (by rw [HSL.out]; exact Hx.out) htv hjl hoj htj hin hto q1 q2
        clear hlr hle hel0 HOR HPK hS HJC HJZ
        rcases hrk with ⟨hneg, rfl⟩ | ⟨hneg, hlow, hsum⟩
        · have hd1 : decide ((kk : Int) < 0) = false := by simp
          by_cases hyo : y = o
          · subst hyo
            have f1 : ((y : Int) == (y : Int)) = true := by simp
            clear HOR1 HDK
            go_wp2
            go_quiet (fail)
            go_wp2
            go_ret
            exact ⟨rfl, bdrewN (HBC.out _ HB1.out) _⟩
          · have f1 : ((y : Int) == (o : Int)) = false := by
              have : ¬ (y : Int) = (o : Int) := by omega
              simpa using this
            have f1' : ¬ (y : Int) = (o : Int) := by omega
            by_cases hyt : y = t
            · subst hyt
              have f2 : ((y : Int) == (y : Int)) = true := by simp
              clear HOR1 HDK
              go_wp2
              go_quiet (fail)
              go_wp2
              go_ret
              exact ⟨rfl, bdrewN (HBC.out _ HB1.out) _⟩
            · have f2 : ((y : Int) == (t : Int)) = false := by
                have : ¬ (y : Int) = (t : Int) := by omega
                simpa using this
              have f2' : ¬ (y : Int) = (t : Int) := by omega
              have HP8 : Hid (DkI v BB o ts (s ++ [y])) := HDK.out hyo hyt
              have hown0 : v1.ownsRow C 3 1 (.slice pa pn pc) pn ((s.map Int.ofNat).map (Value.int .i64)) := by
                have h := HOR1.out
                unfold ORow at h
                rwa [HSL.out] at h
              clear HOR1 HDK
              go_wp2
              go_quiet (fail)
              have hown : (v1.drewN nq).ownsRow C 3 1 (.slice pa pn pc) pn ((s.map Int.ofNat).map (Value.int .i64)) := hown0
              clear hown0
              have el : (v1.drewN nq).cell? ⟨lg, lo + kk, none⟩ = some (.int .i64 (y : Int)) := hel
              go_wp2_with (first
                | (at_builtin; refine wpList_append_own _ rfl _ _ 22 rfl C 3 i3 (.int .i64 0) 1 8 und22 hi3 hz0 hz1 hz2 rfl (by decide) _ _ _ rfl (hown.alloc _) ⟨v1.heap.size, 0, none⟩ 1 1 [.int .i64 (y : Int)] rfl rfl (fun j u hj => World.news_of_block (heap_alloc_new (v1.drewN nq) (.cells #[.int .i64 (y : Int)] 3)) j u (by simpa using hj)) (fun u hu => by (simp at hu; subst hu; rfl)) (by (unfold maxLen; omega)) (by omega) (by (simp; omega)) ?_; intro v' w8 hown' hgrow _
                   have hb8 : Below C w3 w8 := ((bdrewN HB1.out nq).alloc hsz1 _).grown hgrow (by simp; omega) (fun k hk => (hown.lt k hk).1)
                   obtain ⟨va', vc', rfl⟩ := own_form2 hown'
                   have HO8 : Hid (ORow w8 C (.slice va' (pn + 1) vc') (s ++ [y])) := (show ORow w8 C (.slice va' (pn + 1) vc') (s ++ [y]) by unfold ORow; rw [List.length_append, HSL.out, List.map_append, List.map_append]; exact hown')
                   have HL8 : Hid ((s ++ [y]).length = pn + 1) := (show (s ++ [y]).length = pn + 1 by rw [List.length_append, HSL.out]; rfl)
                   clear hown hgrow hown')
                | go_in)
              go_roundw
              case rel => exact ⟨s ++ [y], va', pn + 1, vc', by go_num, by omega, rfl, HL8, HO8, HP8, hb8⟩
              case measure => simp [intOf]; omega
        · have hd1 : decide (r < 0) = true := decide_eq_true hneg
          by_cases hyo : y = o
          · subst hyo
            have f1 : ((y : Int) == (y : Int)) = true := by simp
            clear HOR1 HDK
            go_wp2
            go_quiet (fail)
            go_wp2
            go_ret
            exact ⟨rfl, bdrewN (HBC.out _ HB1.out) _⟩
          · have f1 : ((y : Int) == (o : Int)) = false := by
              have : ¬ (y : Int) = (o : Int) := by omega
              simpa using this
            have f1' : ¬ (y : Int) = (o : Int) := by omega
            by_cases hyt : y = t
            · subst hyt
              have f2 : ((y : Int) == (y : Int)) = true := by simp
              clear HOR1 HDK
              go_wp2
              go_quiet (fail)
              go_wp2
              go_ret
              exact ⟨rfl, bdrewN (HBC.out _ HB1.out) _⟩
            · have f2 : ((y : Int) == (t : Int)) = false := by
                have : ¬ (y : Int) = (t : Int) := by omega
                simpa using this
              have f2' : ¬ (y : Int) = (t : Int) := by omega
              have HP8 : Hid (DkI v BB o ts (s ++ [y])) := HDK.out hyo hyt
              have hown0 : v1.ownsRow C 3 1 (.slice pa pn pc) pn ((s.map Int.ofNat).map (Value.int .i64)) := by
                have h := HOR1.out
                unfold ORow at h
                rwa [HSL.out] at h
              clear HOR1 HDK
              go_wp2
              go_quiet (fail)
              have hown : (v1.drewN nq).ownsRow C 3 1 (.slice pa pn pc) pn ((s.map Int.ofNat).map (Value.int .i64)) := hown0
              clear hown0
              have el : (v1.drewN nq).cell? ⟨lg, lo + kk, none⟩ = some (.int .i64 (y : Int)) := hel
              go_wp2_with (first
                | (at_builtin; refine wpList_append_own _ rfl _ _ 22 rfl C 3 i3 (.int .i64 0) 1 8 und22 hi3 hz0 hz1 hz2 rfl (by decide) _ _ _ rfl (hown.alloc _) ⟨v1.heap.size, 0, none⟩ 1 1 [.int .i64 (y : Int)] rfl rfl (fun j u hj => World.news_of_block (heap_alloc_new (v1.drewN nq) (.cells #[.int .i64 (y : Int)] 3)) j u (by simpa using hj)) (fun u hu => by (simp at hu; subst hu; rfl)) (by (unfold maxLen; omega)) (by omega) (by (simp; omega)) ?_; intro v' w8 hown' hgrow _
                   have hb8 : Below C w3 w8 := ((bdrewN HB1.out nq).alloc hsz1 _).grown hgrow (by simp; omega) (fun k hk => (hown.lt k hk).1)
                   obtain ⟨va', vc', rfl⟩ := own_form2 hown'
                   have HO8 : Hid (ORow w8 C (.slice va' (pn + 1) vc') (s ++ [y])) := (show ORow w8 C (.slice va' (pn + 1) vc') (s ++ [y]) by unfold ORow; rw [List.length_append, HSL.out, List.map_append, List.map_append]; exact hown')
                   have HL8 : Hid ((s ++ [y]).length = pn + 1) := (show (s ++ [y]).length = pn + 1 by rw [List.length_append, HSL.out]; rfl)
                   clear hown hgrow hown')
                | go_in)
              go_roundw
              case rel => exact ⟨s ++ [y], va', pn + 1, vc', by go_num, by omega, rfl, HL8, HO8, HP8, hb8⟩
              case measure => simp [intOf]; omega
      · have hz3 : ¬ (jz : Int) = 0 := by omega
        have hz4 : ((jz : Int) != 0) = true := by simpa using hz3
        clear hS HJC HJZ HOR HPK
        go_wp2
        go_ret
        exact ⟨rfl, HBC.out _ HB1.out⟩
    · have hdi : decide ((pn : Int) < 3) = false := by simp; omega
      obtain rfl : pn = 3 := by omega
      obtain ⟨t0, t1, t2, u0, u1, u2, l0, l1, l2, rfl, et0, et1, et2, hP⟩ := HPK.out.three HSL.out
      have HALL := H4.out _ _ _ _ _ _ _ _ _ hP
      have HALL2 : Hid (il3 BB o t0 t1 = false → il3 BB o t0 t2 = false → il3 BB o t1 t2 = false → _) := HALL
      have HRR : Hid (∀ W, Below wr.heap.size wr W → Below w.heap.size w W ∧ Rw W (.slice ua un uc) (toZ BB)) := fun W hW => ⟨Below.next (HBC.out _ hB) hW, HRW.out _ (hB.trans (hW.mono (HSC.out _ hB)))⟩
      have HIN : Hid (∀ (a b c : Nat) (W : World), Below wr.heap.size wr W → Calls Tryd.prog 29 #[.agg #[.int .i64 (v : Int), .slice ua un uc], .int .i64 (a : Int), .int .i64 (b : Int), .int .i64 (c : Int)] W fun e w' => e = .returned (.bool (il3 BB a b c)) ∧ Below W.heap.size W w') := fun a b c W hW => H5.out a b c W _ (HRR.out W hW).1 (HRR.out W hW).2
      have q0 := HTC.out 0 (by omega) _ (HBC.out _ hB)
      have q1 := HTC.out 1 (by omega) _ (HBC.out _ hB)
      have q2 := HTC.out 2 (by omega) _ (HBC.out _ hB)
      rw [et0, Nat.add_zero] at q0
      rw [et1] at q1
      rw [et2] at q2
      obtain ⟨pa', pc', e, hpc⟩ := HOR.out.sl
      obtain ⟨pg, po, e5, c0⟩ := hpc 0 (by simp)
      obtain rfl : pa = some ⟨pg, po, none⟩ := by simp only [Value.slice.injEq] at e; rw [e.1, e5]
      have HPC : Hid (∀ j, j < 3 → wr.cell? ⟨pg, po + j, none⟩ = some (.int .i64 ((([u0, u1, u2] : List Nat).map Int.ofNat).getD j 0))) := fun j hj => by
        obtain ⟨pg', po', e2, c⟩ := hpc j (by simpa using hj)
        rw [e5] at e2
        simp only [Option.some.injEq, Addr.mk.injEq] at e2
        rw [e2.1, e2.2.1]; exact c
      have q3 : wr.cell? ⟨pg, po, none⟩ = some (.int .i64 (u0 : Int)) := HPC.out 0 (by decide)
      have q4 : wr.cell? ⟨pg, po + 1, none⟩ = some (.int .i64 (u1 : Int)) := HPC.out 1 (by decide)
      have q5 : wr.cell? ⟨pg, po + 2, none⟩ = some (.int .i64 (u2 : Int)) := HPC.out 2 (by decide)
      have htn0 : (0 : Int) < (tn : Int) := by omega
      have htn0' : ¬ tn = 0 := by omega
      have htn0'' : 0 < tn := by omega
      have htn1 : (1 : Int) < (tn : Int) := by omega
      have htn1' : 1 < tn := by omega
      have htn2 : (2 : Int) < (tn : Int) := by omega
      have htn2' : 2 < tn := by omega
      have hS : Hid (∀ W, Below wr.heap.size wr W → (fun W => W.cell? ⟨g, 0, none⟩ = some (.int .i64 (v : Int)) ∧ W.cell? ⟨g, 1, none⟩ = some (.slice ua un uc) ∧ W.cell? ⟨tg, tf, none⟩ = some (.int .i64 (t0 : Int)) ∧ W.cell? ⟨tg, tf + 1, none⟩ = some (.int .i64 (t1 : Int)) ∧ W.cell? ⟨tg, tf + 2, none⟩ = some (.int .i64 (t2 : Int)) ∧ W.cell? ⟨pg, po, none⟩ = some (.int .i64 (u0 : Int)) ∧ W.cell? ⟨pg, po + 1, none⟩ = some (.int .i64 (u1 : Int)) ∧ W.cell? ⟨pg, po + 2, none⟩ = some (.int .i64 (u2 : Int))) W) := fun W hW => ⟨(hW.cell (World.block_lt_of_cell? _ _ x0)).trans x0, (hW.cell (World.block_lt_of_cell? _ _ x1)).trans x1, (hW.cell (World.block_lt_of_cell? _ _ q0)).trans q0, (hW.cell (World.block_lt_of_cell? _ _ q1)).trans q1, (hW.cell (World.block_lt_of_cell? _ _ q2)).trans q2, (hW.cell (World.block_lt_of_cell? _ _ q3)).trans q3, (hW.cell (World.block_lt_of_cell? _ _ q4)).trans q4, (hW.cell (World.block_lt_of_cell? _ _ q5)).trans q5⟩
      have r0 : Below wr.heap.size wr wr := Below.refl _ _
      have HBW : Hid (Below w.heap.size w wr) := HBC.out _ hB
      clear x0 x1 q0 q1 q2 q3 q4 q5 HPC hpc c0 e e5 HOR HPK HSL hP HALL hB et0 et1 et2
      go_wp2
      refine wp_region_noPanic ?_
      refine wp_region_held_drew (S := fun W => W.cell? ⟨g, 0, none⟩ = some (.int .i64 (v : Int)) ∧ W.cell? ⟨g, 1, none⟩ = some (.slice ua un uc) ∧ W.cell? ⟨tg, tf, none⟩ = some (.int .i64 (t0 : Int)) ∧ W.cell? ⟨tg, tf + 1, none⟩ = some (.int .i64 (t1 : Int)) ∧ W.cell? ⟨tg, tf + 2, none⟩ = some (.int .i64 (t2 : Int)) ∧ W.cell? ⟨pg, po, none⟩ = some (.int .i64 (u0 : Int)) ∧ W.cell? ⟨pg, po + 1, none⟩ = some (.int .i64 (u1 : Int)) ∧ W.cell? ⟨pg, po + 2, none⟩ = some (.int .i64 (u2 : Int))) (by kernel_rfl) (hS.out _ r0.drew) (fun hSx => ?_)
      refine wpAnyH_take (i := 0) (v := .agg #[.int .i64 (v : Int), .slice ua un uc]) rfl (by kernel_rfl) (by kernel_rfl) (by kernel_rfl) (fun _ _ _ h => h) (Or.inl ⟨by rfl, fun w' hSw => by (try dsimp only at hSw); obtain ⟨hs0, hs1, hs2, hs3, hs4, hs5, hs6, hs7⟩ := hSw; go_simp⟩) hSx ?_
      try simp only [Act.put, List.setIfInBounds_toArray]
      refine wpAnyH_take (i := 1) (v := .int .i64 (o : Int)) rfl (by kernel_rfl) (by kernel_rfl) (by kernel_rfl) (fun _ _ _ h => h) (Or.inl ⟨by rfl, fun w' hSw => by (try dsimp only at hSw); obtain ⟨hs0, hs1, hs2, hs3, hs4, hs5, hs6, hs7⟩ := hSw; go_simp⟩) hSx ?_
      try simp only [Act.put]
      refine wpAnyH_take (i := 2) (v := .slice (some ⟨tg, tf, none⟩) tn tc) rfl (by kernel_rfl) (by kernel_rfl) (by kernel_rfl) (fun _ _ _ h => h) (Or.inl ⟨by rfl, fun w' hSw => by (try dsimp only at hSw); obtain ⟨hs0, hs1, hs2, hs3, hs4, hs5, hs6, hs7⟩ := hSw; go_simp⟩) hSx ?_
      try simp only [Act.put]
      refine wpAnyH_take (i := 3) (v := .pointer (some ⟨tg, tf, none⟩)) rfl (by kernel_rfl) (by kernel_rfl) (by kernel_rfl) (fun _ _ _ h => h) (Or.inl ⟨by rfl, fun w' hSw => by (try dsimp only at hSw); obtain ⟨hs0, hs1, hs2, hs3, hs4, hs5, hs6, hs7⟩ := hSw; go_simp⟩) hSx ?_
      try simp only [Act.put]
      refine wpAnyH_take (i := 4) (v := .int .i64 (t0 : Int)) rfl (by kernel_rfl) (by kernel_rfl) (by kernel_rfl) (fun _ _ _ h => h) (Or.inl ⟨by rfl, fun w' hSw => by (try dsimp only at hSw); obtain ⟨hs0, hs1, hs2, hs3, hs4, hs5, hs6, hs7⟩ := hSw; go_simp⟩) hSx ?_
      try simp only [Act.put]
      refine wpAnyH_take (i := 5) (v := .slice (some ⟨tg, tf, none⟩) tn tc) rfl (by kernel_rfl) (by kernel_rfl) (by kernel_rfl) (fun _ _ _ h => h) (Or.inl ⟨by rfl, fun w' hSw => by (try dsimp only at hSw); obtain ⟨hs0, hs1, hs2, hs3, hs4, hs5, hs6, hs7⟩ := hSw; go_simp⟩) hSx ?_
      try simp only [Act.put]
      refine wpAnyH_take (i := 6) (v := .pointer (some ⟨tg, tf + 1, none⟩)) rfl (by kernel_rfl) (by kernel_rfl) (by kernel_rfl) (fun _ _ _ h => h) (Or.inl ⟨by rfl, fun w' hSw => by (try dsimp only at hSw); obtain ⟨hs0, hs1, hs2, hs3, hs4, hs5, hs6, hs7⟩ := hSw; go_simp⟩) hSx ?_
      try simp only [Act.put]
      refine wpAnyH_take (i := 7) (v := .int .i64 (t1 : Int)) rfl (by kernel_rfl) (by kernel_rfl) (by kernel_rfl) (fun _ _ _ h => h) (Or.inl ⟨by rfl, fun w' hSw => by (try dsimp only at hSw); obtain ⟨hs0, hs1, hs2, hs3, hs4, hs5, hs6, hs7⟩ := hSw; go_simp⟩) hSx ?_
      try simp only [Act.put]
      refine wpAnyH_ready (rs := [8]) (by kernel_rfl) (by simp) ?_
      refine (AllReadyH.cons rfl (fun J hJ => ?_) AllReadyH.nil)
      go_simp
      refine (HIN.out o t0 t1 _ r0.drew).mono ?_
      rintro e v1 ⟨rfl, bv1⟩
      have r1 : Below wr.heap.size wr v1 := Below.next r0.drew bv1
      go_wp2_with fail
      refine hJ.out _ _ (hS.out _ r1) (fun hSx => ?_)
      clear hJ J
      try simp only [Act.put, List.setIfInBounds_toArray, List.set_cons_zero, List.set_cons_succ]
      refine wpAnyH_ready (rs := [9]) (by kernel_rfl) (by simp) ?_
      refine (AllReadyH.cons rfl (fun J hJ => ?_) AllReadyH.nil)
      go_simp
      refine hJ.out _ _ (hS.out _ r1) (fun hSx => ?_)
      clear hJ J
      try simp only [Act.put, List.setIfInBounds_toArray, List.set_cons_zero, List.set_cons_succ]
      refine wpAnyH_done (by kernel_rfl) ?_ _
      refine NoPanic.normal ?_
      clear hSx
      go_wp2
      refine wp_region_noPanic ?_
      refine wp_region_held_drew (S := fun W => W.cell? ⟨g, 0, none⟩ = some (.int .i64 (v : Int)) ∧ W.cell? ⟨g, 1, none⟩ = some (.slice ua un uc) ∧ W.cell? ⟨tg, tf, none⟩ = some (.int .i64 (t0 : Int)) ∧ W.cell? ⟨tg, tf + 1, none⟩ = some (.int .i64 (t1 : Int)) ∧ W.cell? ⟨tg, tf + 2, none⟩ = some (.int .i64 (t2 : Int)) ∧ W.cell? ⟨pg, po, none⟩ = some (.int .i64 (u0 : Int)) ∧ W.cell? ⟨pg, po + 1, none⟩ = some (.int .i64 (u1 : Int)) ∧ W.cell? ⟨pg, po + 2, none⟩ = some (.int .i64 (u2 : Int))) (by kernel_rfl) (hS.out _ r1.drew) (fun hSx => ?_)
      refine wpAnyH_take (i := 0) (v := .agg #[.int .i64 (v : Int), .slice ua un uc]) rfl (by kernel_rfl) (by kernel_rfl) (by kernel_rfl) (fun _ _ _ h => h) (Or.inl ⟨by rfl, fun w' hSw => by (try dsimp only at hSw); obtain ⟨hs0, hs1, hs2, hs3, hs4, hs5, hs6, hs7⟩ := hSw; go_simp⟩) hSx ?_
      try simp only [Act.put, List.setIfInBounds_toArray]
      refine wpAnyH_take (i := 1) (v := .int .i64 (o : Int)) rfl (by kernel_rfl) (by kernel_rfl) (by kernel_rfl) (fun _ _ _ h => h) (Or.inl ⟨by rfl, fun w' hSw => by (try dsimp only at hSw); obtain ⟨hs0, hs1, hs2, hs3, hs4, hs5, hs6, hs7⟩ := hSw; go_simp⟩) hSx ?_
      try simp only [Act.put]
      refine wpAnyH_take (i := 2) (v := .slice (some ⟨tg, tf, none⟩) tn tc) rfl (by kernel_rfl) (by kernel_rfl) (by kernel_rfl) (fun _ _ _ h => h) (Or.inl ⟨by rfl, fun w' hSw => by (try dsimp only at hSw); obtain ⟨hs0, hs1, hs2, hs3, hs4, hs5, hs6, hs7⟩ := hSw; go_simp⟩) hSx ?_
      try simp only [Act.put]
      refine wpAnyH_take (i := 3) (v := .pointer (some ⟨tg, tf, none⟩)) rfl (by kernel_rfl) (by kernel_rfl) (by kernel_rfl) (fun _ _ _ h => h) (Or.inl ⟨by rfl, fun w' hSw => by (try dsimp only at hSw); obtain ⟨hs0, hs1, hs2, hs3, hs4, hs5, hs6, hs7⟩ := hSw; go_simp⟩) hSx ?_
      try simp only [Act.put]
      refine wpAnyH_take (i := 4) (v := .int .i64 (t0 : Int)) rfl (by kernel_rfl) (by kernel_rfl) (by kernel_rfl) (fun _ _ _ h => h) (Or.inl ⟨by rfl, fun w' hSw => by (try dsimp only at hSw); obtain ⟨hs0, hs1, hs2, hs3, hs4, hs5, hs6, hs7⟩ := hSw; go_simp⟩) hSx ?_
      try simp only [Act.put]
      refine wpAnyH_take (i := 5) (v := .slice (some ⟨tg, tf, none⟩) tn tc) rfl (by kernel_rfl) (by kernel_rfl) (by kernel_rfl) (fun _ _ _ h => h) (Or.inl ⟨by rfl, fun w' hSw => by (try dsimp only at hSw); obtain ⟨hs0, hs1, hs2, hs3, hs4, hs5, hs6, hs7⟩ := hSw; go_simp⟩) hSx ?_
      try simp only [Act.put]
      refine wpAnyH_take (i := 6) (v := .pointer (some ⟨tg, tf + 2, none⟩)) rfl (by kernel_rfl) (by kernel_rfl) (by kernel_rfl) (fun _ _ _ h => h) (Or.inl ⟨by rfl, fun w' hSw => by (try dsimp only at hSw); obtain ⟨hs0, hs1, hs2, hs3, hs4, hs5, hs6, hs7⟩ := hSw; go_simp⟩) hSx ?_
      try simp only [Act.put]
      refine wpAnyH_take (i := 7) (v := .int .i64 (t2 : Int)) rfl (by kernel_rfl) (by kernel_rfl) (by kernel_rfl) (fun _ _ _ h => h) (Or.inl ⟨by rfl, fun w' hSw => by (try dsimp only at hSw); obtain ⟨hs0, hs1, hs2, hs3, hs4, hs5, hs6, hs7⟩ := hSw; go_simp⟩) hSx ?_
      try simp only [Act.put]
      refine wpAnyH_ready (rs := [8]) (by kernel_rfl) (by simp) ?_
      refine (AllReadyH.cons rfl (fun J hJ => ?_) AllReadyH.nil)
      go_simp
      refine (HIN.out o t0 t2 _ r1.drew).mono ?_
      rintro e v2 ⟨rfl, bv2⟩
      have r2 : Below wr.heap.size wr v2 := Below.next r1.drew bv2
      go_wp2_with fail
      refine hJ.out _ _ (hS.out _ r2) (fun hSx => ?_)
      clear hJ J
      try simp only [Act.put, List.setIfInBounds_toArray, List.set_cons_zero, List.set_cons_succ]
      refine wpAnyH_ready (rs := [9]) (by kernel_rfl) (by simp) ?_
      refine (AllReadyH.cons rfl (fun J hJ => ?_) AllReadyH.nil)
      go_simp
      refine hJ.out _ _ (hS.out _ r2) (fun hSx => ?_)
      clear hJ J
      try simp only [Act.put, List.setIfInBounds_toArray, List.set_cons_zero, List.set_cons_succ]
      refine wpAnyH_done (by kernel_rfl) ?_ _
      refine NoPanic.normal ?_
      clear hSx
      go_wp2
      refine wp_region_noPanic ?_
      refine wp_region_held_drew (S := fun W => W.cell? ⟨g, 0, none⟩ = some (.int .i64 (v : Int)) ∧ W.cell? ⟨g, 1, none⟩ = some (.slice ua un uc) ∧ W.cell? ⟨tg, tf, none⟩ = some (.int .i64 (t0 : Int)) ∧ W.cell? ⟨tg, tf + 1, none⟩ = some (.int .i64 (t1 : Int)) ∧ W.cell? ⟨tg, tf + 2, none⟩ = some (.int .i64 (t2 : Int)) ∧ W.cell? ⟨pg, po, none⟩ = some (.int .i64 (u0 : Int)) ∧ W.cell? ⟨pg, po + 1, none⟩ = some (.int .i64 (u1 : Int)) ∧ W.cell? ⟨pg, po + 2, none⟩ = some (.int .i64 (u2 : Int))) (by kernel_rfl) (hS.out _ r2.drew) (fun hSx => ?_)
      refine wpAnyH_take (i := 0) (v := .agg #[.int .i64 (v : Int), .slice ua un uc]) rfl (by kernel_rfl) (by kernel_rfl) (by kernel_rfl) (fun _ _ _ h => h) (Or.inl ⟨by rfl, fun w' hSw => by (try dsimp only at hSw); obtain ⟨hs0, hs1, hs2, hs3, hs4, hs5, hs6, hs7⟩ := hSw; go_simp⟩) hSx ?_
      try simp only [Act.put, List.setIfInBounds_toArray]
      refine wpAnyH_take (i := 1) (v := .int .i64 (o : Int)) rfl (by kernel_rfl) (by kernel_rfl) (by kernel_rfl) (fun _ _ _ h => h) (Or.inl ⟨by rfl, fun w' hSw => by (try dsimp only at hSw); obtain ⟨hs0, hs1, hs2, hs3, hs4, hs5, hs6, hs7⟩ := hSw; go_simp⟩) hSx ?_
      try simp only [Act.put]
      refine wpAnyH_take (i := 2) (v := .slice (some ⟨tg, tf, none⟩) tn tc) rfl (by kernel_rfl) (by kernel_rfl) (by kernel_rfl) (fun _ _ _ h => h) (Or.inl ⟨by rfl, fun w' hSw => by (try dsimp only at hSw); obtain ⟨hs0, hs1, hs2, hs3, hs4, hs5, hs6, hs7⟩ := hSw; go_simp⟩) hSx ?_
      try simp only [Act.put]
      refine wpAnyH_take (i := 3) (v := .pointer (some ⟨tg, tf + 1, none⟩)) rfl (by kernel_rfl) (by kernel_rfl) (by kernel_rfl) (fun _ _ _ h => h) (Or.inl ⟨by rfl, fun w' hSw => by (try dsimp only at hSw); obtain ⟨hs0, hs1, hs2, hs3, hs4, hs5, hs6, hs7⟩ := hSw; go_simp⟩) hSx ?_
      try simp only [Act.put]
      refine wpAnyH_take (i := 4) (v := .int .i64 (t1 : Int)) rfl (by kernel_rfl) (by kernel_rfl) (by kernel_rfl) (fun _ _ _ h => h) (Or.inl ⟨by rfl, fun w' hSw => by (try dsimp only at hSw); obtain ⟨hs0, hs1, hs2, hs3, hs4, hs5, hs6, hs7⟩ := hSw; go_simp⟩) hSx ?_
      try simp only [Act.put]
      refine wpAnyH_take (i := 5) (v := .slice (some ⟨tg, tf, none⟩) tn tc) rfl (by kernel_rfl) (by kernel_rfl) (by kernel_rfl) (fun _ _ _ h => h) (Or.inl ⟨by rfl, fun w' hSw => by (try dsimp only at hSw); obtain ⟨hs0, hs1, hs2, hs3, hs4, hs5, hs6, hs7⟩ := hSw; go_simp⟩) hSx ?_
      try simp only [Act.put]
      refine wpAnyH_take (i := 6) (v := .pointer (some ⟨tg, tf + 2, none⟩)) rfl (by kernel_rfl) (by kernel_rfl) (by kernel_rfl) (fun _ _ _ h => h) (Or.inl ⟨by rfl, fun w' hSw => by (try dsimp only at hSw); obtain ⟨hs0, hs1, hs2, hs3, hs4, hs5, hs6, hs7⟩ := hSw; go_simp⟩) hSx ?_
      try simp only [Act.put]
      refine wpAnyH_take (i := 7) (v := .int .i64 (t2 : Int)) rfl (by kernel_rfl) (by kernel_rfl) (by kernel_rfl) (fun _ _ _ h => h) (Or.inl ⟨by rfl, fun w' hSw => by (try dsimp only at hSw); obtain ⟨hs0, hs1, hs2, hs3, hs4, hs5, hs6, hs7⟩ := hSw; go_simp⟩) hSx ?_
      try simp only [Act.put]
      refine wpAnyH_ready (rs := [8]) (by kernel_rfl) (by simp) ?_
      refine (AllReadyH.cons rfl (fun J hJ => ?_) AllReadyH.nil)
      go_simp
      refine (HIN.out o t1 t2 _ r2.drew).mono ?_
      rintro e v3 ⟨rfl, bv3⟩
      have r3 : Below wr.heap.size wr v3 := Below.next r2.drew bv3
      go_wp2_with fail
      refine hJ.out _ _ (hS.out _ r3) (fun hSx => ?_)
      clear hJ J
      try simp only [Act.put, List.setIfInBounds_toArray, List.set_cons_zero, List.set_cons_succ]
      refine wpAnyH_ready (rs := [9]) (by kernel_rfl) (by simp) ?_
      refine (AllReadyH.cons rfl (fun J hJ => ?_) AllReadyH.nil)
      go_simp
      refine hJ.out _ _ (hS.out _ r3) (fun hSx => ?_)
      clear hJ J
      try simp only [Act.put, List.setIfInBounds_toArray, List.set_cons_zero, List.set_cons_succ]
      refine wpAnyH_done (by kernel_rfl) ?_ _
      refine NoPanic.normal ?_
      clear hSx
      go_wp2
      refine wp_region_noPanic ?_
      refine wp_region_held_drew (S := fun W => W.cell? ⟨g, 0, none⟩ = some (.int .i64 (v : Int)) ∧ W.cell? ⟨g, 1, none⟩ = some (.slice ua un uc) ∧ W.cell? ⟨tg, tf, none⟩ = some (.int .i64 (t0 : Int)) ∧ W.cell? ⟨tg, tf + 1, none⟩ = some (.int .i64 (t1 : Int)) ∧ W.cell? ⟨tg, tf + 2, none⟩ = some (.int .i64 (t2 : Int)) ∧ W.cell? ⟨pg, po, none⟩ = some (.int .i64 (u0 : Int)) ∧ W.cell? ⟨pg, po + 1, none⟩ = some (.int .i64 (u1 : Int)) ∧ W.cell? ⟨pg, po + 2, none⟩ = some (.int .i64 (u2 : Int))) (by kernel_rfl) (hS.out _ r3.drew) (fun hSx => ?_)
      refine wpAnyH_take (i := 0) (v := .agg #[.int .i64 (v : Int), .slice ua un uc]) rfl (by kernel_rfl) (by kernel_rfl) (by kernel_rfl) (fun _ _ _ h => h) (Or.inl ⟨by rfl, fun w' hSw => by (try dsimp only at hSw); obtain ⟨hs0, hs1, hs2, hs3, hs4, hs5, hs6, hs7⟩ := hSw; go_simp⟩) hSx ?_
      try simp only [Act.put, List.setIfInBounds_toArray]
      refine wpAnyH_take (i := 1) (v := .slice (some ⟨tg, tf, none⟩) tn tc) rfl (by kernel_rfl) (by kernel_rfl) (by kernel_rfl) (fun _ _ _ h => h) (Or.inl ⟨by rfl, fun w' hSw => by (try dsimp only at hSw); obtain ⟨hs0, hs1, hs2, hs3, hs4, hs5, hs6, hs7⟩ := hSw; go_simp⟩) hSx ?_
      try simp only [Act.put]
      refine wpAnyH_take (i := 2) (v := .pointer (some ⟨tg, tf, none⟩)) rfl (by kernel_rfl) (by kernel_rfl) (by kernel_rfl) (fun _ _ _ h => h) (Or.inl ⟨by rfl, fun w' hSw => by (try dsimp only at hSw); obtain ⟨hs0, hs1, hs2, hs3, hs4, hs5, hs6, hs7⟩ := hSw; go_simp⟩) hSx ?_
      try simp only [Act.put]
      refine wpAnyH_take (i := 3) (v := .int .i64 (t0 : Int)) rfl (by kernel_rfl) (by kernel_rfl) (by kernel_rfl) (fun _ _ _ h => h) (Or.inl ⟨by rfl, fun w' hSw => by (try dsimp only at hSw); obtain ⟨hs0, hs1, hs2, hs3, hs4, hs5, hs6, hs7⟩ := hSw; go_simp⟩) hSx ?_
      try simp only [Act.put]
      refine wpAnyH_take (i := 4) (v := .slice (some ⟨tg, tf, none⟩) tn tc) rfl (by kernel_rfl) (by kernel_rfl) (by kernel_rfl) (fun _ _ _ h => h) (Or.inl ⟨by rfl, fun w' hSw => by (try dsimp only at hSw); obtain ⟨hs0, hs1, hs2, hs3, hs4, hs5, hs6, hs7⟩ := hSw; go_simp⟩) hSx ?_
      try simp only [Act.put]
      refine wpAnyH_take (i := 5) (v := .pointer (some ⟨tg, tf + 1, none⟩)) rfl (by kernel_rfl) (by kernel_rfl) (by kernel_rfl) (fun _ _ _ h => h) (Or.inl ⟨by rfl, fun w' hSw => by (try dsimp only at hSw); obtain ⟨hs0, hs1, hs2, hs3, hs4, hs5, hs6, hs7⟩ := hSw; go_simp⟩) hSx ?_
      try simp only [Act.put]
      refine wpAnyH_take (i := 6) (v := .int .i64 (t1 : Int)) rfl (by kernel_rfl) (by kernel_rfl) (by kernel_rfl) (fun _ _ _ h => h) (Or.inl ⟨by rfl, fun w' hSw => by (try dsimp only at hSw); obtain ⟨hs0, hs1, hs2, hs3, hs4, hs5, hs6, hs7⟩ := hSw; go_simp⟩) hSx ?_
      try simp only [Act.put]
      refine wpAnyH_take (i := 7) (v := .slice (some ⟨tg, tf, none⟩) tn tc) rfl (by kernel_rfl) (by kernel_rfl) (by kernel_rfl) (fun _ _ _ h => h) (Or.inl ⟨by rfl, fun w' hSw => by (try dsimp only at hSw); obtain ⟨hs0, hs1, hs2, hs3, hs4, hs5, hs6, hs7⟩ := hSw; go_simp⟩) hSx ?_
      try simp only [Act.put]
      refine wpAnyH_take (i := 8) (v := .pointer (some ⟨tg, tf + 2, none⟩)) rfl (by kernel_rfl) (by kernel_rfl) (by kernel_rfl) (fun _ _ _ h => h) (Or.inl ⟨by rfl, fun w' hSw => by (try dsimp only at hSw); obtain ⟨hs0, hs1, hs2, hs3, hs4, hs5, hs6, hs7⟩ := hSw; go_simp⟩) hSx ?_
      try simp only [Act.put]
      refine wpAnyH_take (i := 9) (v := .int .i64 (t2 : Int)) rfl (by kernel_rfl) (by kernel_rfl) (by kernel_rfl) (fun _ _ _ h => h) (Or.inl ⟨by rfl, fun w' hSw => by (try dsimp only at hSw); obtain ⟨hs0, hs1, hs2, hs3, hs4, hs5, hs6, hs7⟩ := hSw; go_simp⟩) hSx ?_
      try simp only [Act.put]
      refine wpAnyH_ready (rs := [10]) (by kernel_rfl) (by simp) ?_
      refine (AllReadyH.cons rfl (fun J hJ => ?_) AllReadyH.nil)
      go_simp
      refine (HIN.out t0 t1 t2 _ r3.drew).mono ?_
      rintro e v4 ⟨rfl, bv4⟩
      have r4 : Below wr.heap.size wr v4 := Below.next r3.drew bv4
      go_wp2_with fail
      refine hJ.out _ _ (hS.out _ r4) (fun hSx => ?_)
      clear hJ J
      try simp only [Act.put, List.setIfInBounds_toArray, List.set_cons_zero, List.set_cons_succ]
      refine wpAnyH_ready (rs := [11]) (by kernel_rfl) (by simp) ?_
      refine (AllReadyH.cons rfl (fun J hJ => ?_) AllReadyH.nil)
      go_simp
      refine hJ.out _ _ (hS.out _ r4) (fun hSx => ?_)
      clear hJ J
      try simp only [Act.put, List.setIfInBounds_toArray, List.set_cons_zero, List.set_cons_succ]
      refine wpAnyH_done (by kernel_rfl) ?_ _
      refine NoPanic.normal ?_
      clear hSx
      go_wp2
      refine wp_region_noPanic ?_
      refine wp_region_held_drew (S := fun W => W.cell? ⟨g, 0, none⟩ = some (.int .i64 (v : Int)) ∧ W.cell? ⟨g, 1, none⟩ = some (.slice ua un uc) ∧ W.cell? ⟨tg, tf, none⟩ = some (.int .i64 (t0 : Int)) ∧ W.cell? ⟨tg, tf + 1, none⟩ = some (.int .i64 (t1 : Int)) ∧ W.cell? ⟨tg, tf + 2, none⟩ = some (.int .i64 (t2 : Int)) ∧ W.cell? ⟨pg, po, none⟩ = some (.int .i64 (u0 : Int)) ∧ W.cell? ⟨pg, po + 1, none⟩ = some (.int .i64 (u1 : Int)) ∧ W.cell? ⟨pg, po + 2, none⟩ = some (.int .i64 (u2 : Int))) (by kernel_rfl) (hS.out _ r4.drew) (fun hSx => ?_)
      refine wpAnyH_take (i := 0) (v := .agg #[.int .i64 (v : Int), .slice ua un uc]) rfl (by kernel_rfl) (by kernel_rfl) (by kernel_rfl) (fun _ _ _ h => h) (Or.inl ⟨by rfl, fun w' hSw => by (try dsimp only at hSw); obtain ⟨hs0, hs1, hs2, hs3, hs4, hs5, hs6, hs7⟩ := hSw; go_simp⟩) hSx ?_
      try simp only [Act.put, List.setIfInBounds_toArray]
      refine wpAnyH_take (i := 1) (v := .slice (some ⟨pg, po, none⟩) 3 pc) rfl (by kernel_rfl) (by kernel_rfl) (by kernel_rfl) (fun _ _ _ h => h) (Or.inl ⟨by rfl, fun w' hSw => by (try dsimp only at hSw); obtain ⟨hs0, hs1, hs2, hs3, hs4, hs5, hs6, hs7⟩ := hSw; go_simp⟩) hSx ?_
      try simp only [Act.put]
      refine wpAnyH_take (i := 2) (v := .pointer (some ⟨pg, po, none⟩)) rfl (by kernel_rfl) (by kernel_rfl) (by kernel_rfl) (fun _ _ _ h => h) (Or.inl ⟨by rfl, fun w' hSw => by (try dsimp only at hSw); obtain ⟨hs0, hs1, hs2, hs3, hs4, hs5, hs6, hs7⟩ := hSw; go_simp⟩) hSx ?_
      try simp only [Act.put]
      refine wpAnyH_take (i := 3) (v := .int .i64 (u0 : Int)) rfl (by kernel_rfl) (by kernel_rfl) (by kernel_rfl) (fun _ _ _ h => h) (Or.inl ⟨by rfl, fun w' hSw => by (try dsimp only at hSw); obtain ⟨hs0, hs1, hs2, hs3, hs4, hs5, hs6, hs7⟩ := hSw; go_simp⟩) hSx ?_
      try simp only [Act.put]
      refine wpAnyH_take (i := 4) (v := .slice (some ⟨pg, po, none⟩) 3 pc) rfl (by kernel_rfl) (by kernel_rfl) (by kernel_rfl) (fun _ _ _ h => h) (Or.inl ⟨by rfl, fun w' hSw => by (try dsimp only at hSw); obtain ⟨hs0, hs1, hs2, hs3, hs4, hs5, hs6, hs7⟩ := hSw; go_simp⟩) hSx ?_
      try simp only [Act.put]
      refine wpAnyH_take (i := 5) (v := .pointer (some ⟨pg, po + 1, none⟩)) rfl (by kernel_rfl) (by kernel_rfl) (by kernel_rfl) (fun _ _ _ h => h) (Or.inl ⟨by rfl, fun w' hSw => by (try dsimp only at hSw); obtain ⟨hs0, hs1, hs2, hs3, hs4, hs5, hs6, hs7⟩ := hSw; go_simp⟩) hSx ?_
      try simp only [Act.put]
      refine wpAnyH_take (i := 6) (v := .int .i64 (u1 : Int)) rfl (by kernel_rfl) (by kernel_rfl) (by kernel_rfl) (fun _ _ _ h => h) (Or.inl ⟨by rfl, fun w' hSw => by (try dsimp only at hSw); obtain ⟨hs0, hs1, hs2, hs3, hs4, hs5, hs6, hs7⟩ := hSw; go_simp⟩) hSx ?_
      try simp only [Act.put]
      refine wpAnyH_take (i := 7) (v := .slice (some ⟨pg, po, none⟩) 3 pc) rfl (by kernel_rfl) (by kernel_rfl) (by kernel_rfl) (fun _ _ _ h => h) (Or.inl ⟨by rfl, fun w' hSw => by (try dsimp only at hSw); obtain ⟨hs0, hs1, hs2, hs3, hs4, hs5, hs6, hs7⟩ := hSw; go_simp⟩) hSx ?_
      try simp only [Act.put]
      refine wpAnyH_take (i := 8) (v := .pointer (some ⟨pg, po + 2, none⟩)) rfl (by kernel_rfl) (by kernel_rfl) (by kernel_rfl) (fun _ _ _ h => h) (Or.inl ⟨by rfl, fun w' hSw => by (try dsimp only at hSw); obtain ⟨hs0, hs1, hs2, hs3, hs4, hs5, hs6, hs7⟩ := hSw; go_simp⟩) hSx ?_
      try simp only [Act.put]
      refine wpAnyH_take (i := 9) (v := .int .i64 (u2 : Int)) rfl (by kernel_rfl) (by kernel_rfl) (by kernel_rfl) (fun _ _ _ h => h) (Or.inl ⟨by rfl, fun w' hSw => by (try dsimp only at hSw); obtain ⟨hs0, hs1, hs2, hs3, hs4, hs5, hs6, hs7⟩ := hSw; go_simp⟩) hSx ?_
      try simp only [Act.put]
      refine wpAnyH_ready (rs := [10]) (by kernel_rfl) (by simp) ?_
      refine (AllReadyH.cons rfl (fun J hJ => ?_) AllReadyH.nil)
      go_simp
      refine (HIN.out u0 u1 u2 _ r4.drew).mono ?_
      rintro e v5 ⟨rfl, bv5⟩
      have r5 : Below wr.heap.size wr v5 := Below.next r4.drew bv5
      go_wp2_with fail
      refine hJ.out _ _ (hS.out _ r5) (fun hSx => ?_)
      clear hJ J
      try simp only [Act.put, List.setIfInBounds_toArray, List.set_cons_zero, List.set_cons_succ]
      refine wpAnyH_ready (rs := [11]) (by kernel_rfl) (by simp) ?_
      refine (AllReadyH.cons rfl (fun J hJ => ?_) AllReadyH.nil)
      go_simp
      refine hJ.out _ _ (hS.out _ r5) (fun hSx => ?_)
      clear hJ J
      try simp only [Act.put, List.setIfInBounds_toArray, List.set_cons_zero, List.set_cons_succ]
      refine wpAnyH_done (by kernel_rfl) ?_ _
      refine NoPanic.normal ?_
      clear hSx
      obtain ⟨n0, Hn0⟩ : ∃ q, Hid (il3 BB o t0 t1 = q) := ⟨_, rfl⟩
      obtain ⟨n1, Hn1⟩ : ∃ q, Hid (il3 BB o t0 t2 = q) := ⟨_, rfl⟩
      obtain ⟨n2, Hn2⟩ : ∃ q, Hid (il3 BB o t1 t2 = q) := ⟨_, rfl⟩
      obtain ⟨n3, Hn3⟩ : ∃ q, Hid (il3 BB t0 t1 t2 = q) := ⟨_, rfl⟩
      obtain ⟨n4, Hn4⟩ : ∃ q, Hid (il3 BB u0 u1 u2 = q) := ⟨_, rfl⟩
      rw [Hn0.out, Hn1.out, Hn2.out, Hn3.out, Hn4.out]
      cases n0
      rotate_left
      · go_wp2
        go_ret
        exact ⟨rfl, Below.next HBW.out r5⟩
      cases n1
      rotate_left
      · go_wp2
        go_ret
        exact ⟨rfl, Below.next HBW.out r5⟩
      cases n2
      rotate_left
      · go_wp2
        go_ret
        exact ⟨rfl, Below.next HBW.out r5⟩
      cases n3
      rotate_left
      · go_wp2
        go_ret
        exact ⟨rfl, Below.next HBW.out r5⟩
      cases n4
      rotate_left
      · go_wp2
        go_ret
        exact ⟨rfl, Below.next HBW.out r5⟩
      obtain ⟨a, b, c, hi3', hall⟩ := HALL2.out Hn0.out Hn1.out Hn2.out
      have HALL : Hid (∀ W, Below wr.heap.size wr W → _) := fun W hW => hall W (.slice ua un uc) (HRR.out W hW).1 (HRR.out W hW).2
      have HI3 : Hid (il3 BB a b c = true) := hi3'
      clear hall hi3' HALL2
      go_wp2
      refine wp_region_noPanic ?_
      refine wp_region_held_drew (S := fun W => W.cell? ⟨g, 0, none⟩ = some (.int .i64 (v : Int)) ∧ W.cell? ⟨g, 1, none⟩ = some (.slice ua un uc) ∧ W.cell? ⟨tg, tf, none⟩ = some (.int .i64 (t0 : Int)) ∧ W.cell? ⟨tg, tf + 1, none⟩ = some (.int .i64 (t1 : Int)) ∧ W.cell? ⟨tg, tf + 2, none⟩ = some (.int .i64 (t2 : Int)) ∧ W.cell? ⟨pg, po, none⟩ = some (.int .i64 (u0 : Int)) ∧ W.cell? ⟨pg, po + 1, none⟩ = some (.int .i64 (u1 : Int)) ∧ W.cell? ⟨pg, po + 2, none⟩ = some (.int .i64 (u2 : Int))) (by kernel_rfl) (hS.out _ r5.drew) (fun hSx => ?_)
      refine wpAnyH_take (i := 0) (v := .agg #[.int .i64 (v : Int), .slice ua un uc]) rfl (by kernel_rfl) (by kernel_rfl) (by kernel_rfl) (fun _ _ _ h => h) (Or.inl ⟨by rfl, fun w' hSw => by (try dsimp only at hSw); obtain ⟨hs0, hs1, hs2, hs3, hs4, hs5, hs6, hs7⟩ := hSw; go_simp⟩) hSx ?_
      try simp only [Act.put, List.setIfInBounds_toArray]
      refine wpAnyH_take (i := 1) (v := .slice (some ⟨tg, tf, none⟩) tn tc) rfl (by kernel_rfl) (by kernel_rfl) (by kernel_rfl) (fun _ _ _ h => h) (Or.inl ⟨by rfl, fun w' hSw => by (try dsimp only at hSw); obtain ⟨hs0, hs1, hs2, hs3, hs4, hs5, hs6, hs7⟩ := hSw; go_simp⟩) hSx ?_
      try simp only [Act.put]
      refine wpAnyH_take (i := 2) (v := .pointer (some ⟨tg, tf, none⟩)) rfl (by kernel_rfl) (by kernel_rfl) (by kernel_rfl) (fun _ _ _ h => h) (Or.inl ⟨by rfl, fun w' hSw => by (try dsimp only at hSw); obtain ⟨hs0, hs1, hs2, hs3, hs4, hs5, hs6, hs7⟩ := hSw; go_simp⟩) hSx ?_
      try simp only [Act.put]
      refine wpAnyH_take (i := 3) (v := .int .i64 (t0 : Int)) rfl (by kernel_rfl) (by kernel_rfl) (by kernel_rfl) (fun _ _ _ h => h) (Or.inl ⟨by rfl, fun w' hSw => by (try dsimp only at hSw); obtain ⟨hs0, hs1, hs2, hs3, hs4, hs5, hs6, hs7⟩ := hSw; go_simp⟩) hSx ?_
      try simp only [Act.put]
      refine wpAnyH_take (i := 4) (v := .slice (some ⟨tg, tf, none⟩) tn tc) rfl (by kernel_rfl) (by kernel_rfl) (by kernel_rfl) (fun _ _ _ h => h) (Or.inl ⟨by rfl, fun w' hSw => by (try dsimp only at hSw); obtain ⟨hs0, hs1, hs2, hs3, hs4, hs5, hs6, hs7⟩ := hSw; go_simp⟩) hSx ?_
      try simp only [Act.put]
      refine wpAnyH_take (i := 5) (v := .pointer (some ⟨tg, tf + 1, none⟩)) rfl (by kernel_rfl) (by kernel_rfl) (by kernel_rfl) (fun _ _ _ h => h) (Or.inl ⟨by rfl, fun w' hSw => by (try dsimp only at hSw); obtain ⟨hs0, hs1, hs2, hs3, hs4, hs5, hs6, hs7⟩ := hSw; go_simp⟩) hSx ?_
      try simp only [Act.put]
      refine wpAnyH_take (i := 6) (v := .int .i64 (t1 : Int)) rfl (by kernel_rfl) (by kernel_rfl) (by kernel_rfl) (fun _ _ _ h => h) (Or.inl ⟨by rfl, fun w' hSw => by (try dsimp only at hSw); obtain ⟨hs0, hs1, hs2, hs3, hs4, hs5, hs6, hs7⟩ := hSw; go_simp⟩) hSx ?_
      try simp only [Act.put]
      refine wpAnyH_take (i := 7) (v := .slice (some ⟨pg, po, none⟩) 3 pc) rfl (by kernel_rfl) (by kernel_rfl) (by kernel_rfl) (fun _ _ _ h => h) (Or.inl ⟨by rfl, fun w' hSw => by (try dsimp only at hSw); obtain ⟨hs0, hs1, hs2, hs3, hs4, hs5, hs6, hs7⟩ := hSw; go_simp⟩) hSx ?_
      try simp only [Act.put]
      refine wpAnyH_take (i := 8) (v := .pointer (some ⟨pg, po, none⟩)) rfl (by kernel_rfl) (by kernel_rfl) (by kernel_rfl) (fun _ _ _ h => h) (Or.inl ⟨by rfl, fun w' hSw => by (try dsimp only at hSw); obtain ⟨hs0, hs1, hs2, hs3, hs4, hs5, hs6, hs7⟩ := hSw; go_simp⟩) hSx ?_
      try simp only [Act.put]
      refine wpAnyH_take (i := 9) (v := .int .i64 (u0 : Int)) rfl (by kernel_rfl) (by kernel_rfl) (by kernel_rfl) (fun _ _ _ h => h) (Or.inl ⟨by rfl, fun w' hSw => by (try dsimp only at hSw); obtain ⟨hs0, hs1, hs2, hs3, hs4, hs5, hs6, hs7⟩ := hSw; go_simp⟩) hSx ?_
      try simp only [Act.put]
      refine wpAnyH_take (i := 10) (v := .slice (some ⟨pg, po, none⟩) 3 pc) rfl (by kernel_rfl) (by kernel_rfl) (by kernel_rfl) (fun _ _ _ h => h) (Or.inl ⟨by rfl, fun w' hSw => by (try dsimp only at hSw); obtain ⟨hs0, hs1, hs2, hs3, hs4, hs5, hs6, hs7⟩ := hSw; go_simp⟩) hSx ?_
      try simp only [Act.put]
      refine wpAnyH_take (i := 11) (v := .pointer (some ⟨pg, po + 1, none⟩)) rfl (by kernel_rfl) (by kernel_rfl) (by kernel_rfl) (fun _ _ _ h => h) (Or.inl ⟨by rfl, fun w' hSw => by (try dsimp only at hSw); obtain ⟨hs0, hs1, hs2, hs3, hs4, hs5, hs6, hs7⟩ := hSw; go_simp⟩) hSx ?_
      try simp only [Act.put]
      refine wpAnyH_take (i := 12) (v := .int .i64 (u1 : Int)) rfl (by kernel_rfl) (by kernel_rfl) (by kernel_rfl) (fun _ _ _ h => h) (Or.inl ⟨by rfl, fun w' hSw => by (try dsimp only at hSw); obtain ⟨hs0, hs1, hs2, hs3, hs4, hs5, hs6, hs7⟩ := hSw; go_simp⟩) hSx ?_
      try simp only [Act.put]
      refine wpAnyH_ready (rs := [13]) (by kernel_rfl) (by simp) ?_
      refine (AllReadyH.cons rfl (fun J hJ => ?_) AllReadyH.nil)
      go_simp
      refine ((HALL.out _ r5.drew).1).mono ?_
      rintro e v6 ⟨rfl, bv6⟩
      have r6 : Below wr.heap.size wr v6 := Below.next r5.drew bv6
      go_wp2_with fail
      refine hJ.out _ _ (hS.out _ r6) (fun hSx => ?_)
      clear hJ J
      try simp only [Act.put, List.setIfInBounds_toArray, List.set_cons_zero, List.set_cons_succ]
      refine wpAnyH_ready (rs := [14]) (by kernel_rfl) (by simp) ?_
      refine (AllReadyH.cons rfl (fun J hJ => ?_) AllReadyH.nil)
      go_simp
      refine hJ.out _ _ (hS.out _ r6) (fun hSx => ?_)
      clear hJ J
      try simp only [Act.put, List.setIfInBounds_toArray, List.set_cons_zero, List.set_cons_succ]
      refine wpAnyH_done (by kernel_rfl) ?_ _
      refine NoPanic.normal ?_
      clear hSx
      go_wp2
      refine wp_region_noPanic ?_
      refine wp_region_held_drew (S := fun W => W.cell? ⟨g, 0, none⟩ = some (.int .i64 (v : Int)) ∧ W.cell? ⟨g, 1, none⟩ = some (.slice ua un uc) ∧ W.cell? ⟨tg, tf, none⟩ = some (.int .i64 (t0 : Int)) ∧ W.cell? ⟨tg, tf + 1, none⟩ = some (.int .i64 (t1 : Int)) ∧ W.cell? ⟨tg, tf + 2, none⟩ = some (.int .i64 (t2 : Int)) ∧ W.cell? ⟨pg, po, none⟩ = some (.int .i64 (u0 : Int)) ∧ W.cell? ⟨pg, po + 1, none⟩ = some (.int .i64 (u1 : Int)) ∧ W.cell? ⟨pg, po + 2, none⟩ = some (.int .i64 (u2 : Int))) (by kernel_rfl) (hS.out _ r6.drew) (fun hSx => ?_)
      refine wpAnyH_take (i := 0) (v := .agg #[.int .i64 (v : Int), .slice ua un uc]) rfl (by kernel_rfl) (by kernel_rfl) (by kernel_rfl) (fun _ _ _ h => h) (Or.inl ⟨by rfl, fun w' hSw => by (try dsimp only at hSw); obtain ⟨hs0, hs1, hs2, hs3, hs4, hs5, hs6, hs7⟩ := hSw; go_simp⟩) hSx ?_
      try simp only [Act.put, List.setIfInBounds_toArray]
      refine wpAnyH_take (i := 1) (v := .slice (some ⟨tg, tf, none⟩) tn tc) rfl (by kernel_rfl) (by kernel_rfl) (by kernel_rfl) (fun _ _ _ h => h) (Or.inl ⟨by rfl, fun w' hSw => by (try dsimp only at hSw); obtain ⟨hs0, hs1, hs2, hs3, hs4, hs5, hs6, hs7⟩ := hSw; go_simp⟩) hSx ?_
      try simp only [Act.put]
      refine wpAnyH_take (i := 2) (v := .pointer (some ⟨tg, tf, none⟩)) rfl (by kernel_rfl) (by kernel_rfl) (by kernel_rfl) (fun _ _ _ h => h) (Or.inl ⟨by rfl, fun w' hSw => by (try dsimp only at hSw); obtain ⟨hs0, hs1, hs2, hs3, hs4, hs5, hs6, hs7⟩ := hSw; go_simp⟩) hSx ?_
      try simp only [Act.put]
      refine wpAnyH_take (i := 3) (v := .int .i64 (t0 : Int)) rfl (by kernel_rfl) (by kernel_rfl) (by kernel_rfl) (fun _ _ _ h => h) (Or.inl ⟨by rfl, fun w' hSw => by (try dsimp only at hSw); obtain ⟨hs0, hs1, hs2, hs3, hs4, hs5, hs6, hs7⟩ := hSw; go_simp⟩) hSx ?_
      try simp only [Act.put]
      refine wpAnyH_take (i := 4) (v := .slice (some ⟨tg, tf, none⟩) tn tc) rfl (by kernel_rfl) (by kernel_rfl) (by kernel_rfl) (fun _ _ _ h => h) (Or.inl ⟨by rfl, fun w' hSw => by (try dsimp only at hSw); obtain ⟨hs0, hs1, hs2, hs3, hs4, hs5, hs6, hs7⟩ := hSw; go_simp⟩) hSx ?_
      try simp only [Act.put]
      refine wpAnyH_take (i := 5) (v := .pointer (some ⟨tg, tf + 2, none⟩)) rfl (by kernel_rfl) (by kernel_rfl) (by kernel_rfl) (fun _ _ _ h => h) (Or.inl ⟨by rfl, fun w' hSw => by (try dsimp only at hSw); obtain ⟨hs0, hs1, hs2, hs3, hs4, hs5, hs6, hs7⟩ := hSw; go_simp⟩) hSx ?_
      try simp only [Act.put]
      refine wpAnyH_take (i := 6) (v := .int .i64 (t2 : Int)) rfl (by kernel_rfl) (by kernel_rfl) (by kernel_rfl) (fun _ _ _ h => h) (Or.inl ⟨by rfl, fun w' hSw => by (try dsimp only at hSw); obtain ⟨hs0, hs1, hs2, hs3, hs4, hs5, hs6, hs7⟩ := hSw; go_simp⟩) hSx ?_
      try simp only [Act.put]
      refine wpAnyH_take (i := 7) (v := .slice (some ⟨pg, po, none⟩) 3 pc) rfl (by kernel_rfl) (by kernel_rfl) (by kernel_rfl) (fun _ _ _ h => h) (Or.inl ⟨by rfl, fun w' hSw => by (try dsimp only at hSw); obtain ⟨hs0, hs1, hs2, hs3, hs4, hs5, hs6, hs7⟩ := hSw; go_simp⟩) hSx ?_
      try simp only [Act.put]
      refine wpAnyH_take (i := 8) (v := .pointer (some ⟨pg, po, none⟩)) rfl (by kernel_rfl) (by kernel_rfl) (by kernel_rfl) (fun _ _ _ h => h) (Or.inl ⟨by rfl, fun w' hSw => by (try dsimp only at hSw); obtain ⟨hs0, hs1, hs2, hs3, hs4, hs5, hs6, hs7⟩ := hSw; go_simp⟩) hSx ?_
      try simp only [Act.put]
      refine wpAnyH_take (i := 9) (v := .int .i64 (u0 : Int)) rfl (by kernel_rfl) (by kernel_rfl) (by kernel_rfl) (fun _ _ _ h => h) (Or.inl ⟨by rfl, fun w' hSw => by (try dsimp only at hSw); obtain ⟨hs0, hs1, hs2, hs3, hs4, hs5, hs6, hs7⟩ := hSw; go_simp⟩) hSx ?_
      try simp only [Act.put]
      refine wpAnyH_take (i := 10) (v := .slice (some ⟨pg, po, none⟩) 3 pc) rfl (by kernel_rfl) (by kernel_rfl) (by kernel_rfl) (fun _ _ _ h => h) (Or.inl ⟨by rfl, fun w' hSw => by (try dsimp only at hSw); obtain ⟨hs0, hs1, hs2, hs3, hs4, hs5, hs6, hs7⟩ := hSw; go_simp⟩) hSx ?_
      try simp only [Act.put]
      refine wpAnyH_take (i := 11) (v := .pointer (some ⟨pg, po + 2, none⟩)) rfl (by kernel_rfl) (by kernel_rfl) (by kernel_rfl) (fun _ _ _ h => h) (Or.inl ⟨by rfl, fun w' hSw => by (try dsimp only at hSw); obtain ⟨hs0, hs1, hs2, hs3, hs4, hs5, hs6, hs7⟩ := hSw; go_simp⟩) hSx ?_
      try simp only [Act.put]
      refine wpAnyH_take (i := 12) (v := .int .i64 (u2 : Int)) rfl (by kernel_rfl) (by kernel_rfl) (by kernel_rfl) (fun _ _ _ h => h) (Or.inl ⟨by rfl, fun w' hSw => by (try dsimp only at hSw); obtain ⟨hs0, hs1, hs2, hs3, hs4, hs5, hs6, hs7⟩ := hSw; go_simp⟩) hSx ?_
      try simp only [Act.put]
      refine wpAnyH_ready (rs := [13]) (by kernel_rfl) (by simp) ?_
      refine (AllReadyH.cons rfl (fun J hJ => ?_) AllReadyH.nil)
      go_simp
      refine ((HALL.out _ r6.drew).2.1).mono ?_
      rintro e v7 ⟨rfl, bv7⟩
      have r7 : Below wr.heap.size wr v7 := Below.next r6.drew bv7
      go_wp2_with fail
      refine hJ.out _ _ (hS.out _ r7) (fun hSx => ?_)
      clear hJ J
      try simp only [Act.put, List.setIfInBounds_toArray, List.set_cons_zero, List.set_cons_succ]
      refine wpAnyH_ready (rs := [14]) (by kernel_rfl) (by simp) ?_
      refine (AllReadyH.cons rfl (fun J hJ => ?_) AllReadyH.nil)
      go_simp
      refine hJ.out _ _ (hS.out _ r7) (fun hSx => ?_)
      clear hJ J
      try simp only [Act.put, List.setIfInBounds_toArray, List.set_cons_zero, List.set_cons_succ]
      refine wpAnyH_done (by kernel_rfl) ?_ _
      refine NoPanic.normal ?_
      clear hSx
      go_wp2
      refine wp_region_noPanic ?_
      refine wp_region_held_drew (S := fun W => W.cell? ⟨g, 0, none⟩ = some (.int .i64 (v : Int)) ∧ W.cell? ⟨g, 1, none⟩ = some (.slice ua un uc) ∧ W.cell? ⟨tg, tf, none⟩ = some (.int .i64 (t0 : Int)) ∧ W.cell? ⟨tg, tf + 1, none⟩ = some (.int .i64 (t1 : Int)) ∧ W.cell? ⟨tg, tf + 2, none⟩ = some (.int .i64 (t2 : Int)) ∧ W.cell? ⟨pg, po, none⟩ = some (.int .i64 (u0 : Int)) ∧ W.cell? ⟨pg, po + 1, none⟩ = some (.int .i64 (u1 : Int)) ∧ W.cell? ⟨pg, po + 2, none⟩ = some (.int .i64 (u2 : Int))) (by kernel_rfl) (hS.out _ r7.drew) (fun hSx => ?_)
      refine wpAnyH_take (i := 0) (v := .agg #[.int .i64 (v : Int), .slice ua un uc]) rfl (by kernel_rfl) (by kernel_rfl) (by kernel_rfl) (fun _ _ _ h => h) (Or.inl ⟨by rfl, fun w' hSw => by (try dsimp only at hSw); obtain ⟨hs0, hs1, hs2, hs3, hs4, hs5, hs6, hs7⟩ := hSw; go_simp⟩) hSx ?_
      try simp only [Act.put, List.setIfInBounds_toArray]
      refine wpAnyH_take (i := 1) (v := .slice (some ⟨tg, tf, none⟩) tn tc) rfl (by kernel_rfl) (by kernel_rfl) (by kernel_rfl) (fun _ _ _ h => h) (Or.inl ⟨by rfl, fun w' hSw => by (try dsimp only at hSw); obtain ⟨hs0, hs1, hs2, hs3, hs4, hs5, hs6, hs7⟩ := hSw; go_simp⟩) hSx ?_
      try simp only [Act.put]
      refine wpAnyH_take (i := 2) (v := .pointer (some ⟨tg, tf + 1, none⟩)) rfl (by kernel_rfl) (by kernel_rfl) (by kernel_rfl) (fun _ _ _ h => h) (Or.inl ⟨by rfl, fun w' hSw => by (try dsimp only at hSw); obtain ⟨hs0, hs1, hs2, hs3, hs4, hs5, hs6, hs7⟩ := hSw; go_simp⟩) hSx ?_
      try simp only [Act.put]
      refine wpAnyH_take (i := 3) (v := .int .i64 (t1 : Int)) rfl (by kernel_rfl) (by kernel_rfl) (by kernel_rfl) (fun _ _ _ h => h) (Or.inl ⟨by rfl, fun w' hSw => by (try dsimp only at hSw); obtain ⟨hs0, hs1, hs2, hs3, hs4, hs5, hs6, hs7⟩ := hSw; go_simp⟩) hSx ?_
      try simp only [Act.put]
      refine wpAnyH_take (i := 4) (v := .slice (some ⟨tg, tf, none⟩) tn tc) rfl (by kernel_rfl) (by kernel_rfl) (by kernel_rfl) (fun _ _ _ h => h) (Or.inl ⟨by rfl, fun w' hSw => by (try dsimp only at hSw); obtain ⟨hs0, hs1, hs2, hs3, hs4, hs5, hs6, hs7⟩ := hSw; go_simp⟩) hSx ?_
      try simp only [Act.put]
      refine wpAnyH_take (i := 5) (v := .pointer (some ⟨tg, tf + 2, none⟩)) rfl (by kernel_rfl) (by kernel_rfl) (by kernel_rfl) (fun _ _ _ h => h) (Or.inl ⟨by rfl, fun w' hSw => by (try dsimp only at hSw); obtain ⟨hs0, hs1, hs2, hs3, hs4, hs5, hs6, hs7⟩ := hSw; go_simp⟩) hSx ?_
      try simp only [Act.put]
      refine wpAnyH_take (i := 6) (v := .int .i64 (t2 : Int)) rfl (by kernel_rfl) (by kernel_rfl) (by kernel_rfl) (fun _ _ _ h => h) (Or.inl ⟨by rfl, fun w' hSw => by (try dsimp only at hSw); obtain ⟨hs0, hs1, hs2, hs3, hs4, hs5, hs6, hs7⟩ := hSw; go_simp⟩) hSx ?_
      try simp only [Act.put]
      refine wpAnyH_take (i := 7) (v := .slice (some ⟨pg, po, none⟩) 3 pc) rfl (by kernel_rfl) (by kernel_rfl) (by kernel_rfl) (fun _ _ _ h => h) (Or.inl ⟨by rfl, fun w' hSw => by (try dsimp only at hSw); obtain ⟨hs0, hs1, hs2, hs3, hs4, hs5, hs6, hs7⟩ := hSw; go_simp⟩) hSx ?_
      try simp only [Act.put]
      refine wpAnyH_take (i := 8) (v := .pointer (some ⟨pg, po + 1, none⟩)) rfl (by kernel_rfl) (by kernel_rfl) (by kernel_rfl) (fun _ _ _ h => h) (Or.inl ⟨by rfl, fun w' hSw => by (try dsimp only at hSw); obtain ⟨hs0, hs1, hs2, hs3, hs4, hs5, hs6, hs7⟩ := hSw; go_simp⟩) hSx ?_
      try simp only [Act.put]
      refine wpAnyH_take (i := 9) (v := .int .i64 (u1 : Int)) rfl (by kernel_rfl) (by kernel_rfl) (by kernel_rfl) (fun _ _ _ h => h) (Or.inl ⟨by rfl, fun w' hSw => by (try dsimp only at hSw); obtain ⟨hs0, hs1, hs2, hs3, hs4, hs5, hs6, hs7⟩ := hSw; go_simp⟩) hSx ?_
      try simp only [Act.put]
      refine wpAnyH_take (i := 10) (v := .slice (some ⟨pg, po, none⟩) 3 pc) rfl (by kernel_rfl) (by kernel_rfl) (by kernel_rfl) (fun _ _ _ h => h) (Or.inl ⟨by rfl, fun w' hSw => by (try dsimp only at hSw); obtain ⟨hs0, hs1, hs2, hs3, hs4, hs5, hs6, hs7⟩ := hSw; go_simp⟩) hSx ?_
      try simp only [Act.put]
      refine wpAnyH_take (i := 11) (v := .pointer (some ⟨pg, po + 2, none⟩)) rfl (by kernel_rfl) (by kernel_rfl) (by kernel_rfl) (fun _ _ _ h => h) (Or.inl ⟨by rfl, fun w' hSw => by (try dsimp only at hSw); obtain ⟨hs0, hs1, hs2, hs3, hs4, hs5, hs6, hs7⟩ := hSw; go_simp⟩) hSx ?_
      try simp only [Act.put]
      refine wpAnyH_take (i := 12) (v := .int .i64 (u2 : Int)) rfl (by kernel_rfl) (by kernel_rfl) (by kernel_rfl) (fun _ _ _ h => h) (Or.inl ⟨by rfl, fun w' hSw => by (try dsimp only at hSw); obtain ⟨hs0, hs1, hs2, hs3, hs4, hs5, hs6, hs7⟩ := hSw; go_simp⟩) hSx ?_
      try simp only [Act.put]
      refine wpAnyH_ready (rs := [13]) (by kernel_rfl) (by simp) ?_
      refine (AllReadyH.cons rfl (fun J hJ => ?_) AllReadyH.nil)
      go_simp
      refine ((HALL.out _ r7.drew).2.2).mono ?_
      rintro e v8 ⟨rfl, bv8⟩
      have r8 : Below wr.heap.size wr v8 := Below.next r7.drew bv8
      go_wp2_with fail
      refine hJ.out _ _ (hS.out _ r8) (fun hSx => ?_)
      clear hJ J
      try simp only [Act.put, List.setIfInBounds_toArray, List.set_cons_zero, List.set_cons_succ]
      refine wpAnyH_ready (rs := [14]) (by kernel_rfl) (by simp) ?_
      refine (AllReadyH.cons rfl (fun J hJ => ?_) AllReadyH.nil)
      go_simp
      refine hJ.out _ _ (hS.out _ r8) (fun hSx => ?_)
      clear hJ J
      try simp only [Act.put, List.setIfInBounds_toArray, List.set_cons_zero, List.set_cons_succ]
      refine wpAnyH_done (by kernel_rfl) ?_ _
      refine NoPanic.normal ?_
      clear hSx
      obtain ⟨z0, z1, -⟩ := hS.out _ r8
      have CI := HIN.out a b c _ r8
      rw [HI3.out] at CI
      have ga : decide ((a : Int) < 0) = false := by simp
      have gb : decide ((b : Int) < 0) = false := by simp
      have gc : decide ((c : Int) < 0) = false := by simp
      clear hS HALL
      go_wp2_with (go_at_call 29; refine CI.mono ?_; rintro e v9 ⟨rfl, bv9⟩; clear CI)
      go_ret
      exact ⟨rfl, Below.next HBW.out (Below.next r8 bv9)⟩

end Go.Proofs.YtgpkhfpejopacaaDoor

namespace Go.Proofs.YtgpkhfpejopacaaDoor
open Go.RowKit

theorem PlaneDesargues_law (p k a1 : Int) (l ts os : List Int) (v tv ov : Value) (w : World) (hT : Tab w) (hF : Fd.Tab w) (hl : Sl w v l) (hll : l.length ≤ maxLen) (ht : Sl w tv ts) (ho : Sl w ov os) :
    Calls Tryd.prog 8 #[.agg #[.int .i64 p, .int .i64 k, v], .int .i64 a1, tv, ov] w fun e w' => e = .returned (.bool true) ∧ Below w.heap.size w w' := by
  have hform : ∃ a n c, v = .slice a n c := by obtain ⟨a, c, e, _⟩ := hl; exact ⟨a, _, c, e⟩
  have hof : ∃ a c, ov = .slice a os.length c := by obtain ⟨a, c, e, _⟩ := ho; exact ⟨a, c, e⟩
  have htf : ∃ a c, tv = .slice a ts.length c := by obtain ⟨a, c, e, _⟩ := ht; exact ⟨a, c, e⟩
  have P0 := fun W (hW : Below w.heap.size w W) => planeFact_any W (hT.next hW) (hF.below hW)
  rcases field_two p k l with ⟨z, hz, hr⟩ | ⟨P, K, rfl, rfl, hG, h5, h0⟩
  · exact LDes_bad p k _ a1 v tv ov w hr hform P0 (fun W hW => Make_bad p k z l v W (hF.below hW) (hl.below hW) hll hz hr)
  · obtain ⟨hq, _⟩ := plane_five hG h5
    have PM : ∀ W, Below w.heap.size w W → Calls Tryd.prog 10 #[.agg #[.int .i64 (P : Int), .int .i64 (K : Int), v]] W fun e w' => ∃ xa xn xc, e = .returned (.tuple #[.agg #[.int .i64 (vq (P ^ K) : Int), .slice xa xn xc], .int .i64 0]) ∧ Hid (Rw w' (.slice xa xn xc) (toZ (bq (P ^ K)))) ∧ Below W.heap.size W w' := fun W hW => by
      refine (Make_good P K l v W (hF.below hW) (hl.below hW) hll hG h5).mono ?_
      rintro e w' ⟨xa, xn, xc, rfl, hO, b⟩
      exact ⟨xa, xn, xc, rfl, hO.rw, b⟩
    by_cases hout : ts.length < 3 ∨ os.length < 3 ∨ a1 < 0 ∨ ((vq (P ^ K) : Nat) : Int) ≤ a1
    · exact LDes_out P K a1 (vq (P ^ K)) ts.length os.length (bq (P ^ K)) v tv ov w hform htf hof hout P0 PM
    · obtain ⟨o, rfl⟩ : ∃ o : Nat, a1 = o := ⟨a1.toNat, by omega⟩
      have hov : o < vq (P ^ K) := by omega
      have hP := prp_q hq
      have hgd := good_q hq
      have hdf := dF_q hq
      have H := (plp_q hq).pln hgd.bls
      refine LDes_main P K o (vq (P ^ K)) ts.length os.length (P ^ K + 1) (bq (P ^ K)) ts os v tv ov w hform ht rfl ho rfl (by omega) (by omega) hov hP.size (by omega) (by omega) P0 PM (fun x => ?_) (fun a b c W u _ hu => inLine_any (vq (P ^ K)) a b c _ u W hgd hu) (fun t0 t1 t2 u0 u1 u2 l0 l1 l2 d n01 n02 n12 => ?_)
      · by_cases hc : c2F (vq (P ^ K)) o x = 0
        · obtain ⟨o', t, e1, rfl, ho', ht', hn⟩ := c2F_nat hc
          obtain rfl : o = o' := by omega
          obtain ⟨i, hi⟩ := H.jn ho' ht' hn
          obtain ⟨k1, k2, k3, _⟩ := jnO_some hi
          exact ⟨i, 0, fun _ => ⟨t, rfl, ht', fun e => hn e.symm, k1, k2, k3⟩, fun W u hW hu => Join_ok _ _ o t i _ u W (hT.next hW) hgd hdf hu hP hc hi⟩
        · exact ⟨0, c2F (vq (P ^ K)) o x, fun e => absurd e hc, fun W u hW hu => Join_wrong _ _ _ o x u W (hT.next hW) hgd hdf hu hP hc⟩
      · obtain ⟨g1, g2, y1, g3, g4, y2, g5, g6, y3, C1, C2, C3, hi⟩ := des_fig hq d.k0 d.k1 d.k2 d.o0 d.o1 d.o2 d.a0 d.a1 d.a2 d.c0 d.c1 d.c2 d.to0 d.to1 d.to2 d.uo0 d.uo1 d.uo2 d.ut0 d.ut1 d.ut2 n01 n02 n12
        exact ⟨y1, y2, y3, hi, fun W u hW hu => ⟨cross_any _ _ _ _ _ _ _ _ _ _ u W (hT.next hW) hgd hdf hu hP C1.z1 C1.j1 C1.z2 C1.j2 C1.z3 C1.j3, cross_any _ _ _ _ _ _ _ _ _ _ u W (hT.next hW) hgd hdf hu hP C2.z1 C2.j1 C2.z2 C2.j2 C2.z3 C2.j3, cross_any _ _ _ _ _ _ _ _ _ _ u W (hT.next hW) hgd hdf hu hP C3.z1 C3.j1 C3.z2 C3.j2 C3.z3 C3.j3⟩⟩

end Go.Proofs.YtgpkhfpejopacaaDoor
