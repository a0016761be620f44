/- The law DesignTurns. -/
import Derived.Test.YtnnopfdckillpaaDoorLT
import Derived.Test.YtnnopfdckillpaaDoorH2
namespace Go.Proofs.YtnnopfdckillpaaDoor
open Go.RowKit

theorem rng_rs {v : Nat} (q : Nat → Bool) : Rs v 0 ((List.range v).filter q) := rs_iff.2 ⟨List.Pairwise.filter _ List.pairwise_lt_range, fun _ hy => ⟨Nat.zero_le _, List.mem_range.1 (List.mem_filter.1 hy).1⟩⟩
theorem short_of {Z : List (List Nat)} {m : Nat} (h1 : Z.length ≤ 200) (hm : m ≤ 40) (h2 : ∀ l ∈ Z, Rs m 0 l) : ShortZ Z := ⟨by unfold maxLen; omega, fun l hl => by
  have h := rs_iff.1 (h2 l hl)
  have := (rise_pts h.1 fun x hx => (h.2 x hx).2).le
  unfold maxLen; omega⟩
theorem short_good {v : Nat} {Z : List (List Nat)} (G : GoodD v Z) : ShortZ Z := short_of G.few G.le G.rs
theorem short_nil : ShortZ [] := ⟨by simp [maxLen], fun l h => by simp at h⟩
theorem rw_nil (w : World) : Rw w (.slice none 0 0) (toZ []) := ⟨none, 0, rfl, fun i l h => by simp [toZ] at h⟩
theorem tup_of {w : World} {fn : Nat} {args : Array Value} {p : Int} {Z : List (List Nat)} (h : ∀ W, Below w.heap.size w W → Calls Tryd.prog fn args W fun e w' => ∃ y, e = .returned (.tuple #[.agg #[.int .i64 p, y], .int .i64 0]) ∧ Rw w' y (toZ Z) ∧ Below W.heap.size W w') : TuP w fn args p 0 Z := fun W hW => by
  refine (h W hW).mono ?_
  rintro e w' ⟨y, rfl, hy, hb⟩
  obtain ⟨a, c, ey⟩ := rw_form hy
  rw [toZ_len] at ey
  subst ey
  exact ⟨a, c, rfl, hy, hb⟩
theorem tup_err {w : World} {fn : Nat} {args : Array Value} {c : Int} (h : ∀ W, Below w.heap.size w W → Calls Tryd.prog fn args W fun e w' => e = .returned (.tuple #[.agg #[.int .i64 0, .slice none 0 0], .int .i64 c]) ∧ Below W.heap.size W w') : TuP w fn args 0 c [] := fun W hW => by
  refine (h W hW).mono ?_
  rintro e w' ⟨rfl, hb⟩
  exact ⟨none, 0, rfl, rw_nil _, hb⟩
theorem tud_of {w : World} {fn : Nat} {args : Array Value} {p : Int} {Z : List (List Nat)} (h : ∀ W, Below w.heap.size w W → Calls Tryd.prog fn args W fun e w' => ∃ y, e = .returned (.tuple #[.agg #[.int .i64 p, y], .int .i64 0]) ∧ (∃ base, W.heap.size ≤ base ∧ OR w' base y Z) ∧ Below W.heap.size W w') : TuD w fn args p 0 Z := fun W hW => by
  refine (h W hW).mono ?_
  rintro e w' ⟨y, rfl, hy, hb⟩
  obtain ⟨base, h1, h2⟩ := hy
  obtain ⟨a, c, ey⟩ := h2.cap
  subst ey
  exact ⟨a, c, rfl, ⟨base, h1, h2⟩, hb⟩
theorem tud_err {w : World} {fn : Nat} {args : Array Value} {c : Int} (h : ∀ W, Below w.heap.size w W → Calls Tryd.prog fn args W fun e w' => e = .returned (.tuple #[.agg #[.int .i64 0, .slice none 0 0], .int .i64 c]) ∧ Below W.heap.size W w') : TuD w fn args 0 c [] := fun W hW => by
  refine (h W hW).mono ?_
  rintro e w' ⟨rfl, hb⟩
  exact ⟨none, 0, rfl, ⟨_, Nat.le_refl _, OR.nil _ _⟩, hb⟩
theorem deriv_good {v p : Nat} {B : List (List Nat)} (G : GoodD v B) (hv : 2 ≤ v) : GoodD (v - 1) (deriv v p B) where
  pos := by omega
  le := by have := G.le; omega
  few := by unfold deriv; rw [List.length_map]; exact Nat.le_trans (List.length_filter_le _ _) G.few
  rs := fun b hb => by
    obtain ⟨x, _, rfl⟩ := List.mem_map.1 hb
    exact rng_rs _
theorem resid_good {v i : Nat} {B : List (List Nat)} (G : GoodD v B) (hne : oth v (B.getD i []) ≠ []) : GoodD (oth v (B.getD i [])).length (resid v i B) where
  pos := List.length_pos_iff.2 hne
  le := by
    have h1 : (oth v (B.getD i [])).length ≤ v := by unfold oth; exact Nat.le_trans (List.length_filter_le _ _) (by simp)
    have := G.le; omega
  few := by
    have := G.few
    unfold resid
    rw [List.length_map, List.length_append, List.length_take, List.length_drop]; omega
  rs := fun b hb => by
    obtain ⟨x, _, rfl⟩ := List.mem_map.1 hb
    exact rng_rs _
theorem turns_dual {v : Nat} {B : List (List Nat)} {u : Value} {w : World} (hT : Tab w) (G : GoodD v B) (hu : Rw w u (toZ B)) : ∃ p e Z, ShortZ Z ∧ TuP w 9 #[.agg #[.int .i64 (v : Int), u]] p e Z ∧ TuD w 14 #[.agg #[.int .i64 (v : Int), u]] p e Z := by
  have hf : ∃ a c, u = .slice a B.length c := by have := rw_form hu; rwa [toZ_len] at this
  by_cases h40 : 40 < B.length
  · exact ⟨0, 3, [], short_nil, tup_err fun W hW => Dual_full v B u W G (hu.below hW) h40, tud_err fun W _ => DualOf_full v B.length u W hf h40⟩
  · by_cases h0 : B.length = 0
    · exact ⟨0, 4, [], short_nil, tup_err fun W hW => Dual_none v B u W G (hu.below hW) h0, tud_err fun W _ => DualOf_none v B.length u W hf h0⟩
    · refine ⟨B.length, 0, dual v B, short_good (dual_good G (by omega) (by omega)), tup_of fun W hW => Dual_good v B u W (hT.next hW) G (hu.below hW) (by omega) (by omega), tud_of fun W hW => (DualOf_main v B u W G (hu.below hW) (fun e => h0 (by rw [e]; rfl)) (by omega)).mono ?_⟩
      rintro e w' ⟨x, rfl, h1, h2⟩
      exact ⟨x, rfl, ⟨_, by omega, h1⟩, h2⟩
theorem turns_deriv {v : Nat} {q : Int} {B : List (List Nat)} {u : Value} {w : World} (hT : Tab w) (G : GoodD v B) (hu : Rw w u (toZ B)) : ∃ p e Z, ShortZ Z ∧ TuP w 10 #[.agg #[.int .i64 (v : Int), u], .int .i64 q] p e Z ∧ TuD w 15 #[.agg #[.int .i64 (v : Int), u], .int .i64 q] p e Z := by
  have hf : ∃ a c, u = .slice a B.length c := by have := rw_form hu; rwa [toZ_len] at this
  have hp := G.pos
  by_cases h0 : q < 0
  · exact ⟨0, 1, [], short_nil, tup_err fun W hW => Derived_neg v q B u W G (hu.below hW) h0, tud_err fun W _ => DerivedOf_neg v B.length q u W hf h0⟩
  · by_cases h1 : (v : Int) ≤ q
    · exact ⟨0, 1, [], short_nil, tup_err fun W hW => Derived_far v q B u W G (hu.below hW) h1, tud_err fun W _ => DerivedOf_far v B.length q u W hf h1⟩
    · by_cases h2 : v = 1
      · exact ⟨0, 2, [], short_nil, tup_err fun W hW => Derived_one v q B u W G (hu.below hW) (by omega) h2, tud_err fun W _ => DerivedOf_one v B.length q u W hf (by omega) h2⟩
      · obtain ⟨p, rfl⟩ : ∃ p : Nat, q = p := ⟨q.toNat, by omega⟩
        refine ⟨((v - 1 : Nat) : Int), 0, deriv v p B, short_good (deriv_good G (by omega)), tup_of fun W hW => Derived_good v p B u W (hT.next hW) G (hu.below hW) (by omega) (by omega), tud_of fun W hW => (DerivedOf_main v p B u W G (hu.below hW) (by omega) (by omega)).mono ?_⟩
        rintro e w' ⟨x, rfl, h1, h2⟩
        exact ⟨x, rfl, ⟨_, by omega, h1⟩, h2⟩
theorem turns_resid {v : Nat} {q : Int} {B : List (List Nat)} {u : Value} {w : World} (hT : Tab w) (G : GoodD v B) (hu : Rw w u (toZ B)) : ∃ p e Z, ShortZ Z ∧ TuP w 11 #[.agg #[.int .i64 (v : Int), u], .int .i64 q] p e Z ∧ TuD w 16 #[.agg #[.int .i64 (v : Int), u], .int .i64 q] p e Z := by
  have hf : ∃ a c, u = .slice a B.length c := by have := rw_form hu; rwa [toZ_len] at this
  by_cases h0 : q < 0
  · exact ⟨0, 1, [], short_nil, tup_err fun W hW => Residual_neg v q B u W G (hu.below hW) h0, tud_err fun W _ => ResidualOf_neg v B.length q u W hf h0⟩
  · by_cases h1 : (B.length : Int) ≤ q
    · exact ⟨0, 1, [], short_nil, tup_err fun W hW => Residual_far v q B u W G (hu.below hW) h1, tud_err fun W _ => ResidualOf_far v B.length q u W hf h1⟩
    · obtain ⟨i, rfl⟩ : ∃ p : Nat, q = p := ⟨q.toNat, by omega⟩
      have hi : i < B.length := by omega
      by_cases h2 : oth v (B.getD i []) = []
      · refine ⟨0, 2, [], short_nil, tup_err fun W hW => Residual_shape v i B u W (hT.next hW) G (hu.below hW) hi h2, tud_err fun W hW => (ResidualOf_main v i B u W G (hu.below hW) hi).mono ?_⟩
        rintro e w' ⟨⟨_, h⟩ | ⟨h, _⟩, hb⟩
        · exact ⟨h, hb⟩
        · exact absurd h2 h
      · refine ⟨((oth v (B.getD i [])).length : Int), 0, resid v i B, short_good (resid_good G h2), tup_of fun W hW => Residual_good v i B u W (hT.next hW) G (hu.below hW) hi h2, tud_of fun W hW => (ResidualOf_main v i B u W G (hu.below hW) hi).mono ?_⟩
        rintro e w' ⟨⟨h, _⟩ | ⟨_, x, h, hO⟩, hb⟩
        · exact absurd h h2
        · exact ⟨x, h, hO, hb⟩
theorem short_oth {v : Nat} {B : List (List Nat)} (G : GoodD v B) : ShortZ (B.map (oth v)) := short_of (m := v) (by rw [List.length_map]; exact G.few) G.le fun l hl => by
  obtain ⟨b, _, rfl⟩ := List.mem_map.1 hl
  exact rng_rs _
theorem Turns_good (v : Nat) (q r : Int) (B : List (List Nat)) (u : Value) (w : World) (hT : Tab w) (G : GoodD v B) (hu : Rw w u (toZ B)) :
    Calls Tryd.prog 3 #[.agg #[.int .i64 (v : Int), u], .int .i64 q, .int .i64 r] w fun e w' => e = .returned (.bool true) ∧ Below w.heap.size w w' := by
  have hf : ∃ a c, u = .slice a B.length c := by have := rw_form hu; rwa [toZ_len] at this
  obtain ⟨hll, hlm⟩ := good_max G
  obtain ⟨pB, eB, ZB, sB, PB, DB⟩ := turns_dual hT G hu
  obtain ⟨pC, eC, ZC, sC, PC, DC⟩ := turns_deriv (q := q) hT G hu
  obtain ⟨pX, eX, ZX, sX, PX, DX⟩ := turns_resid (q := r) hT G hu
  refine Turns_core v B.length q r u w hf v pB pC pX eB eC eX (B.map (oth v)) ZB ZC ZX (short_oth G) sB sC sX (fun W hW => ?_) (tup_of fun W hW => Complement_good v B u W (hT.next hW) G (hu.below hW)) PB PC PX (fun W hW => ?_) DB DC DX
  · have := DesignFault_any v (toZ B) u W (hu.below hW) hlm hll
    rwa [good_dF G] at this
  · refine (ComplementOf_any v B u W G (hu.below hW)).mono ?_
    rintro e w' ⟨x, rfl, h1, h2⟩
    obtain ⟨a, c, ey⟩ := h1.cap
    subst ey
    exact ⟨a, c, rfl, h1.rw, h2⟩

set_option maxRecDepth 100000 in
set_option maxHeartbeats 8000000 in
theorem Turns_bad (p q r : Int) (z : Nat) (n : Nat) (u : Value) (w : World) (hu : ∃ a c, u = .slice a n c) (hz : z ≠ 0)
    (F : ∀ W, Below w.heap.size w W → Calls Tryd.prog 7 #[.agg #[.int .i64 p, u]] W fun e w' => e = .returned (.int .i64 (z : Int)) ∧ Below W.heap.size W w')
    (PA : TuP w 8 #[.agg #[.int .i64 p, u]] 0 z []) (PB : TuP w 9 #[.agg #[.int .i64 p, u]] 0 z []) (PC : TuP w 10 #[.agg #[.int .i64 p, u], .int .i64 q] 0 z []) (PX : TuP w 11 #[.agg #[.int .i64 p, u], .int .i64 r] 0 z []) :
    Calls Tryd.prog 3 #[.agg #[.int .i64 p, u], .int .i64 q, .int .i64 r] w fun e w' => e = .returned (.bool true) ∧ Below w.heap.size w w' := by
  have HC : Hid (∀ W, Below (w.alloc (.cells #[.int .i64 p, u] 24)).heap.size (w.alloc (.cells #[.int .i64 p, u] 24)) W → W.cell? ⟨w.heap.size, 0, none⟩ = some (.int .i64 p) ∧ W.cell? ⟨w.heap.size, 1, none⟩ = some u) := des_box p u w
  obtain ⟨w0, Hw0⟩ : ∃ w0, Hid (w0 = w.alloc (.cells #[.int .i64 p, u] 24)) := ⟨_, rfl⟩
  rw [← Hw0.out] at HC
  have hb0 : Below w.heap.size w w0 := by rw [Hw0.out]; exact balloc _ _
  have HB0 : Hid (Below w.heap.size w w0) := hb0
  have F1 := F w0 hb0
  have hd : ((z : Int) != 0) = true := by simp; omega
  have PA' : Hid (TuP w 8 #[.agg #[.int .i64 p, u]] 0 z []) := PA
  have PB' : Hid (TuP w 9 #[.agg #[.int .i64 p, u]] 0 z []) := PB
  have PC' : Hid (TuP w 10 #[.agg #[.int .i64 p, u], .int .i64 q] 0 z []) := PC
  have PX' : Hid (TuP w 11 #[.agg #[.int .i64 p, u], .int .i64 r] 0 z []) := PX
  have HDB : Hid (∀ (p : Int) (y : Value) (W0 W : World), Below (W0.alloc (.cells #[.int .i64 p, y] 24)).heap.size (W0.alloc (.cells #[.int .i64 p, y] 24)) W → W.cell? ⟨W0.heap.size, 0, none⟩ = some (.int .i64 p) ∧ W.cell? ⟨W0.heap.size, 1, none⟩ = some y) := fun p y W0 W h => des_box p y W0 W h
  obtain ⟨x0, x1⟩ := HC.out _ (Below.refl _ _)
  rw [Hw0.out] at x0 x1
  obtain ⟨ua, uc, rfl⟩ := hu
  clear F PA PB PC PX hb0 hz
  go_enter Tryd.func3, Tryd.ntmps3
  go_wp2_with (first
    | (go_at_call 7; rw [← Hw0.out]; refine F1.mono ?_; rintro e w1 ⟨rfl, hb1⟩; clear F1; obtain ⟨y0, y1⟩ := HC.out _ hb1; have HW1 : Hid (Below w.heap.size w w1) := Below.next HB0.out hb1; have HK1 : Hid (Below w0.heap.size w0 w1) := hb1; clear hb1)
    | (go_at_call 8; refine (PA'.out _ HW1.out).mono ?_; rintro e w2 ⟨aa, ac, rfl, hy, hb⟩; clear PA'; have bb := balloc w2 (.cells #[.int .i64 0, (.slice aa 0 ac)] 24); have hbl := Below.next hb bb; have HRa : Hid (Rw (w2.alloc (.cells #[.int .i64 0, (.slice aa 0 ac)] 24)) (.slice aa 0 ac) (toZ [])) := hy.below bb; have HW2 : Hid (Below w.heap.size w (w2.alloc (.cells #[.int .i64 0, (.slice aa 0 ac)] 24))) := Below.next HW1.out hbl; have HK2 : Hid (Below w0.heap.size w0 (w2.alloc (.cells #[.int .i64 0, (.slice aa 0 ac)] 24))) := Below.next HK1.out hbl; have HN2 : Hid (Below w1.heap.size w1 (w2.alloc (.cells #[.int .i64 0, (.slice aa 0 ac)] 24))) := hbl; clear hy hb bb hbl; obtain ⟨k20, k21⟩ := HC.out _ HK2.out)
    | (go_at_call 9; refine (PB'.out _ HW2.out).mono ?_; rintro e w3 ⟨ba, bc, rfl, hy, hb⟩; clear PB'; have bb := balloc w3 (.cells #[.int .i64 0, (.slice ba 0 bc)] 24); have hbl := Below.next hb bb; have HRb : Hid (Rw (w3.alloc (.cells #[.int .i64 0, (.slice ba 0 bc)] 24)) (.slice ba 0 bc) (toZ [])) := hy.below bb; have HW3 : Hid (Below w.heap.size w (w3.alloc (.cells #[.int .i64 0, (.slice ba 0 bc)] 24))) := Below.next HW2.out hbl; have HK3 : Hid (Below w0.heap.size w0 (w3.alloc (.cells #[.int .i64 0, (.slice ba 0 bc)] 24))) := Below.next HK2.out hbl; have HN3 : Hid (Below (w2.alloc (.cells #[.int .i64 0, (.slice aa 0 ac)] 24)).heap.size (w2.alloc (.cells #[.int .i64 0, (.slice aa 0 ac)] 24)) (w3.alloc (.cells #[.int .i64 0, (.slice ba 0 bc)] 24))) := hbl; clear hy hb bb hbl; obtain ⟨k30, k31⟩ := HC.out _ HK3.out)
    | (go_at_call 10; refine (PC'.out _ HW3.out).mono ?_; rintro e w4 ⟨ca, cc, rfl, hy, hb⟩; clear PC'; have bb := balloc w4 (.cells #[.int .i64 0, (.slice ca 0 cc)] 24); have hbl := Below.next hb bb; have HRc : Hid (Rw (w4.alloc (.cells #[.int .i64 0, (.slice ca 0 cc)] 24)) (.slice ca 0 cc) (toZ [])) := hy.below bb; have HW4 : Hid (Below w.heap.size w (w4.alloc (.cells #[.int .i64 0, (.slice ca 0 cc)] 24))) := Below.next HW3.out hbl; have HK4 : Hid (Below w0.heap.size w0 (w4.alloc (.cells #[.int .i64 0, (.slice ca 0 cc)] 24))) := Below.next HK3.out hbl; have HN4 : Hid (Below (w3.alloc (.cells #[.int .i64 0, (.slice ba 0 bc)] 24)).heap.size (w3.alloc (.cells #[.int .i64 0, (.slice ba 0 bc)] 24)) (w4.alloc (.cells #[.int .i64 0, (.slice ca 0 cc)] 24))) := hbl; clear hy hb bb hbl; obtain ⟨k40, k41⟩ := HC.out _ HK4.out)
    | (go_at_call 11; refine (PX'.out _ HW4.out).mono ?_; rintro e w5 ⟨xa, xc, rfl, hy, hb⟩; clear PX'; have bb := balloc w5 (.cells #[.int .i64 0, (.slice xa 0 xc)] 24); have hbl := Below.next hb bb; have HRx : Hid (Rw (w5.alloc (.cells #[.int .i64 0, (.slice xa 0 xc)] 24)) (.slice xa 0 xc) (toZ [])) := hy.below bb; have HW5 : Hid (Below w.heap.size w (w5.alloc (.cells #[.int .i64 0, (.slice xa 0 xc)] 24))) := Below.next HW4.out hbl; have HK5 : Hid (Below w0.heap.size w0 (w5.alloc (.cells #[.int .i64 0, (.slice xa 0 xc)] 24))) := Below.next HK4.out hbl; have HN5 : Hid (Below (w4.alloc (.cells #[.int .i64 0, (.slice ca 0 cc)] 24)).heap.size (w4.alloc (.cells #[.int .i64 0, (.slice ca 0 cc)] 24)) (w5.alloc (.cells #[.int .i64 0, (.slice xa 0 xc)] 24))) := hbl; clear hy hb bb hbl; obtain ⟨k50, k51⟩ := HC.out _ HK5.out; have HKS : Hid (∀ W, Below ((w5.alloc (.cells #[.int .i64 0, (.slice xa 0 xc)] 24)).alloc (.cells #[.int .i64 0, .slice none 0 0] 24)).heap.size ((w5.alloc (.cells #[.int .i64 0, (.slice xa 0 xc)] 24)).alloc (.cells #[.int .i64 0, .slice none 0 0] 24)) W → (W.cell? ⟨w2.heap.size, 0, none⟩ = some (.int .i64 0) ∧ W.cell? ⟨w2.heap.size, 1, none⟩ = some (.slice aa 0 ac)) ∧ (W.cell? ⟨w3.heap.size, 0, none⟩ = some (.int .i64 0) ∧ W.cell? ⟨w3.heap.size, 1, none⟩ = some (.slice ba 0 bc)) ∧ (W.cell? ⟨w4.heap.size, 0, none⟩ = some (.int .i64 0) ∧ W.cell? ⟨w4.heap.size, 1, none⟩ = some (.slice ca 0 cc)) ∧ (W.cell? ⟨w5.heap.size, 0, none⟩ = some (.int .i64 0) ∧ W.cell? ⟨w5.heap.size, 1, none⟩ = some (.slice xa 0 xc)) ∧ (W.cell? ⟨w5.heap.size + 1, 0, none⟩ = some (.int .i64 0) ∧ W.cell? ⟨w5.heap.size + 1, 1, none⟩ = some (.slice none 0 0)) ∧ Rw W (.slice aa 0 ac) (toZ []) ∧ Rw W (.slice ba 0 bc) (toZ []) ∧ Rw W (.slice ca 0 cc) (toZ []) ∧ Rw W (.slice xa 0 xc) (toZ [])) := fun W hW => (have h5 := Below.next (balloc (w5.alloc (.cells #[.int .i64 0, (.slice xa 0 xc)] 24)) (.cells #[.int .i64 0, .slice none 0 0] 24)) hW; have h4 := Below.next HN5.out h5; have h3 := Below.next HN4.out h4; have h2 := Below.next HN3.out h3; ⟨HDB.out _ _ w2 W h2, HDB.out _ _ w3 W h3, HDB.out _ _ w4 W h4, HDB.out _ _ w5 W h5, (by have := HDB.out 0 (.slice none 0 0) (w5.alloc (.cells #[.int .i64 0, (.slice xa 0 xc)] 24)) W hW; rw [World.size_alloc] at this; exact this), HRa.out.below h2, HRb.out.below h3, HRc.out.below h4, HRx.out.below h5⟩); obtain ⟨⟨m2, m3⟩, ⟨m4, m5⟩, ⟨m6, m7⟩, ⟨m8, m9⟩, ⟨n0, n1⟩, mA, mB, mC, mX⟩ := HKS.out _ (Below.refl _ _); have HMA : Hid (Rw ((w5.alloc (.cells #[.int .i64 0, (.slice xa 0 xc)] 24)).alloc (.cells #[.int .i64 0, .slice none 0 0] 24)) (.slice aa 0 ac) (toZ [])) := mA; clear mA mB mC mX; have HW6 : Hid (Below w.heap.size w ((w5.alloc (.cells #[.int .i64 0, (.slice xa 0 xc)] 24)).alloc (.cells #[.int .i64 0, .slice none 0 0] 24))) := Below.next HW5.out (balloc (w5.alloc (.cells #[.int .i64 0, (.slice xa 0 xc)] 24)) (.cells #[.int .i64 0, .slice none 0 0] 24)))
    | (go_at_call 12; refine (same_design _ [] _ _ _ short_nil HMX.out (rw_nil _)).mono ?_; rintro e w10 ⟨rfl, hb⟩; clear HMX; have HB10 : Hid (Below ((w5.alloc (.cells #[.int .i64 0, (.slice xa 0 xc)] 24)).alloc (.cells #[.int .i64 0, .slice none 0 0] 24)).heap.size ((w5.alloc (.cells #[.int .i64 0, (.slice xa 0 xc)] 24)).alloc (.cells #[.int .i64 0, .slice none 0 0] 24)) w10) := Below.next HB9.out hb; clear hb)
    | (go_at_call 12; refine (same_design _ [] _ _ _ short_nil HMC.out (rw_nil _)).mono ?_; rintro e w9 ⟨rfl, hb⟩; clear HMC; have HB9 : Hid (Below ((w5.alloc (.cells #[.int .i64 0, (.slice xa 0 xc)] 24)).alloc (.cells #[.int .i64 0, .slice none 0 0] 24)).heap.size ((w5.alloc (.cells #[.int .i64 0, (.slice xa 0 xc)] 24)).alloc (.cells #[.int .i64 0, .slice none 0 0] 24)) w9) := Below.next HB8.out hb; clear hb; obtain ⟨⟨m2, m3⟩, ⟨m4, m5⟩, ⟨m6, m7⟩, ⟨m8, m9⟩, ⟨n0, n1⟩, mA, mB, mC, mX⟩ := HKS.out _ HB9.out; have HMX : Hid (Rw w9 (.slice xa 0 xc) (toZ [])) := mX; clear mA mB mC mX)
    | (go_at_call 12; refine (same_design _ [] _ _ _ short_nil HMB.out (rw_nil _)).mono ?_; rintro e w8 ⟨rfl, hb⟩; clear HMB; have HB8 : Hid (Below ((w5.alloc (.cells #[.int .i64 0, (.slice xa 0 xc)] 24)).alloc (.cells #[.int .i64 0, .slice none 0 0] 24)).heap.size ((w5.alloc (.cells #[.int .i64 0, (.slice xa 0 xc)] 24)).alloc (.cells #[.int .i64 0, .slice none 0 0] 24)) w8) := Below.next HB7.out hb; clear hb; obtain ⟨⟨m2, m3⟩, ⟨m4, m5⟩, ⟨m6, m7⟩, ⟨m8, m9⟩, ⟨n0, n1⟩, mA, mB, mC, mX⟩ := HKS.out _ HB8.out; have HMC : Hid (Rw w8 (.slice ca 0 cc) (toZ [])) := mC; clear mA mB mC mX)
    | (go_at_call 12; refine (same_design _ [] _ _ _ short_nil HMA.out (rw_nil _)).mono ?_; rintro e w7 ⟨rfl, hb⟩; clear HMA; have HB7 : Hid (Below ((w5.alloc (.cells #[.int .i64 0, (.slice xa 0 xc)] 24)).alloc (.cells #[.int .i64 0, .slice none 0 0] 24)).heap.size ((w5.alloc (.cells #[.int .i64 0, (.slice xa 0 xc)] 24)).alloc (.cells #[.int .i64 0, .slice none 0 0] 24)) w7) := hb; clear hb; obtain ⟨⟨m2, m3⟩, ⟨m4, m5⟩, ⟨m6, m7⟩, ⟨m8, m9⟩, ⟨n0, n1⟩, mA, mB, mC, mX⟩ := HKS.out _ HB7.out; have HMB : Hid (Rw w7 (.slice ba 0 bc) (toZ [])) := mB; clear mA mB mC mX))
  go_ret
  exact ⟨rfl, Below.next HW6.out HB10.out⟩

theorem DesignTurns_law (p q r : Int) (ls : List (List Int)) (u : Value) (w : World) (hT : Tab w) (_hq : (Lit.int .i64 q).wf = true) (_hr : (Lit.int .i64 r).wf = true) (hu : Rw w u ls) (hll : ∀ l ∈ ls, l.length ≤ maxLen) (hlm : ls.length ≤ maxLen) :
    Calls Tryd.prog 3 #[.agg #[.int .i64 p, u], .int .i64 q, .int .i64 r] w fun e w' => e = .returned (.bool true) ∧ Below w.heap.size w w' := by
  by_cases hz : dF p ls = 0
  · obtain ⟨v, B, rfl, rfl, G⟩ := dF_ok hz
    exact Turns_good v q r B u w hT G hu
  · exact Turns_bad p q r (dF p ls) _ u w (rw_form hu) hz (fun W hW => DesignFault_any p ls u W (hu.below hW) hlm hll) (tup_err fun W hW => Complement_bad p ls u W (hu.below hW) hlm hll hz) (tup_err fun W hW => Dual_bad p ls u W (hu.below hW) hlm hll hz) (tup_err fun W hW => Derived_bad p q ls u W (hu.below hW) hlm hll hz) (tup_err fun W hW => Residual_bad p r ls u W (hu.below hW) hlm hll hz)

end Go.Proofs.YtnnopfdckillpaaDoor
