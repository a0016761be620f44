/- The laws RoundAll and RoundKotzig. -/
import Derived.Test.YtpeplnojmogkfaaQPr
namespace Go.Proofs.Ytpeplnojmogkfaa
open Go.RowKit

theorem crL_good {n : Nat} (h : Evn n) : GoodR n (crL n) := by
  have e : 2 ≤ n ∧ n ≤ 16 ∧ n % 2 = 0 := by rcases h with h | h | h | h | h | h | h | h <;> omega
  exact ⟨e.1, e.2.1, e.2.2, by rw [crL_len]; omega, crL_rds h⟩
theorem dv_good {v : Nat} {ps : List (Nat × Nat)} (h : St v ps) : GoodR (v + 1) (dvR v ps) := by
  have h1 := h.v3; have h2 := h.v15; have h3 := h.odd
  exact ⟨by omega, by omega, by omega, by rw [dvR_len]; omega, h.rds⟩
theorem rw_c {w : World} {y : Value} {ls : List (List Int)} (h : Rw w y ls) (h1 : ls.length ≤ maxLen ∧ ∀ l ∈ ls, l.length ≤ maxLen) : RwC w y ls := ⟨h, h1.1, h1.2⟩
/-- The circle at any number: what it is where it is. -/
theorem cr_case (n : Int) : (ceZ n ≠ 0) ∨ ∃ N : Nat, n = N ∧ Evn N ∧ ceZ n = 0 ∧ crZ n = toZ (crL N) := by
  by_cases h : n < 2 ∨ 16 < n ∨ n % 2 = 1
  · left
    unfold ceZ
    rw [if_pos h]
    decide
  · right
    obtain ⟨N, rfl⟩ : ∃ N : Nat, n = N := ⟨n.toNat, by omega⟩
    refine ⟨N, rfl, by unfold Evn; omega, by unfold ceZ; rw [if_neg h], by unfold crZ; rw [if_neg h, Int.toNat_natCast]⟩
set_option maxRecDepth 100000 in
set_option maxHeartbeats 16000000 in
theorem roundFact_any (FC : FCircle) (FK : FCheck) (w : World) : Calls Try.prog 23 #[] w fun e w' => e = .returned (.bool true) ∧ Below w.heap.size w w' := by
  have D14 := FC 4 w
  have e4 : ceZ 4 = 0 := by decide
  have ez : crZ 4 = toZ (crL 4) := by decide
  have e0 : rF 4 (toZ (crL 4)) = 0 := (crL_good (n := 4) (by simp [Evn])).rF
  have H9 : Hid (∀ W y, Rw W y (toZ (crL 4)) → Calls Try.prog 9 #[.int .i64 4, y] W fun e w' => e = .returned (.int .i64 0) ∧ Below W.heap.size W w') := fun W y h => by
    have := FK 4 _ y W (rw_c h (by rw [← ez]; exact crZ_small 4))
    rw [e0] at this
    exact this
  have HL : Hid ((toZ (crL 4)).length = 3) := by show _ = _; decide
  rw [e4, ez] at D14
  clear FC FK e4 ez e0
  go_enter Try.func23, Try.ntmps23
  go_wp2_with (first
    | (go_at_call 14; refine D14.mono ?_; rintro e w1 ⟨⟨y1, rfl, hy1⟩, b1⟩; clear D14; have D9 := H9.out w1 y1 hy1; obtain ⟨a1, m1, c1, rfl, Hm⟩ := rw_form hy1; obtain rfl : m1 = 3 := Hm.out.symm.trans HL.out; clear hy1 Hm)
    | (go_at_call 9; refine D9.mono ?_; rintro e w2 ⟨rfl, b2⟩; clear D9))
  go_ret
  exact ⟨rfl, Below.next b1 b2⟩
set_option maxRecDepth 100000 in
set_option maxHeartbeats 16000000 in
theorem All_law (FC : FCircle) (FK : FCheck) (FD : FDevelop) (n v : Int) (ps : List (List Int)) (u : Value) (w : World) (hu : RwC w u ps) :
    Calls Try.prog 5 #[.int .i64 n, .int .i64 v, u] w fun e w' => e = .returned (.bool true) ∧ Below w.heap.size w w' := by
  have D23 := roundFact_any FC FK w
  have HU : Hid (∀ W, Below w.heap.size w W → RwC W u ps) := fun W b => hu.below b
  obtain ⟨ua, um, uc, rfl⟩ := hu.form
  have H14 : Hid (∀ W, Calls Try.prog 14 #[.int .i64 n] W fun e w' => (∃ y, e = .returned (.tuple #[y, .int .i64 (ceZ n : Int)]) ∧ Rw w' y (crZ n)) ∧ Below W.heap.size W w') := fun W => FC n W
  have H20 : Hid (∀ W, Below w.heap.size w W → Calls Try.prog 20 #[.int .i64 v, .slice ua um uc] W fun e w' => (∃ y, e = .returned (.tuple #[y, .int .i64 (sF v ps : Int)]) ∧ Rw w' y (dvZ v ps)) ∧ Below W.heap.size W w') := fun W b => FD v ps _ W (HU.out W b)
  have H9d : Hid (sF v ps = 0 → ∃ V : Nat, v = V ∧ V ≤ 15 ∧ (dvZ v ps).length = V ∧ ∀ W y, Rw W y (dvZ v ps) → Calls Try.prog 9 #[.int .i64 ((V : Int) + 1), y] W fun e w' => e = .returned (.int .i64 0) ∧ Below W.heap.size W w') := fun h => by
    obtain ⟨V, qs, rfl, rfl, hS⟩ := sF_ok h
    refine ⟨V, rfl, hS.v15, by rw [dvZ_good hS, toZ_len, dvR_len], fun W y hy => ?_⟩
    have hG := (dv_good hS).rF
    have := FK ((V : Int) + 1) _ y W (rw_c hy (dvZ_small _ _))
    rw [dvZ_good hS, show ((V : Int) + 1) = ((V + 1 : Nat) : Int) by omega, show (toZ (dvR V qs)) = (dvR V qs).map (fun s => s.map Int.ofNat) from rfl, hG] at this
    exact this
  have H9c : Hid (∀ N : Nat, n = N → Evn N → crZ n = toZ (crL N) → ∀ W y, Rw W y (crZ n) → Calls Try.prog 9 #[.int .i64 (N : Int), y] W fun e w' => e = .returned (.int .i64 0) ∧ Below W.heap.size W w') := fun N e hE he W y hy => by
    have hG := (crL_good hE).rF
    have := FK (N : Int) _ y W (rw_c hy (crZ_small n))
    rw [he, show (toZ (crL N)) = (crL N).map (fun s => s.map Int.ofNat) from rfl, hG] at this
    exact this
  have HCL : Hid (∀ N : Nat, crZ n = toZ (crL N) → (crZ n).length = N - 1) := fun N h => by rw [h, toZ_len, crL_len]
  obtain ⟨z, Hz⟩ : ∃ z, Hid (sF v ps = z) := ⟨_, rfl⟩
  rw [Hz.out] at H20 H9d
  have hc := cr_case n
  clear FC FK FD hu HU
  rcases hc with hc | ⟨N, rfl, hE, hc, hcz⟩
  · obtain ⟨c, Hc⟩ : ∃ c, Hid (ceZ n = c) := ⟨_, rfl⟩
    rw [Hc.out] at hc H14
    have hne : ((c : Int) == 0) = false := by simp; omega
    clear hc H9c HCL
    go_enter Try.func5, Try.ntmps5
    go_wp2_with (first
      | (go_at_call 23; refine D23.mono ?_; rintro e w1 ⟨rfl, b1⟩; clear D23; have D14 := H14.out w1; clear H14)
      | (go_at_call 14; refine D14.mono ?_; rintro e w2 ⟨⟨y1, rfl, hy1⟩, b2⟩; clear D14; obtain ⟨a1, m1, c1, rfl, _⟩ := rw_form hy1; clear hy1; replace b2 := Below.next b1 b2; clear b1; have D20 := H20.out w2 b2; clear H20))
    refine D20.mono ?_
    rintro e w3 ⟨⟨y2, rfl, hy2⟩, b3⟩
    clear D20
    replace b3 := Below.next b2 b3
    clear b2
    by_cases hz : z = 0
    · obtain ⟨V, rfl, hV15, hlen, h9⟩ := H9d.out hz
      subst hz
      have D9 := h9 w3 y2 hy2
      obtain ⟨a2, m2, c2, rfl, Hm2⟩ := rw_form hy2
      obtain rfl : m2 = V := Hm2.out.symm.trans hlen
      clear H9d h9 hlen hy2 Hm2
      go_wp2_with (go_at_call 9; refine D9.mono ?_; rintro e w4 ⟨rfl, b4⟩; clear D9)
      go_ret
      exact ⟨by first | rfl | simp, Below.next b3 b4⟩
    · have hne2 : ((z : Int) != 0) = true := by simp; omega
      clear H9d hy2 hz
      go_wp2
      go_ret
      exact ⟨rfl, b3⟩
  · have D9c := H9c.out N rfl hE hcz
    have hcl := HCL.out N hcz
    have hN2 : 2 ≤ N ∧ N ≤ 16 := by rcases hE with h | h | h | h | h | h | h | h <;> omega
    rw [hc] at H14
    have H9c' : Hid (∀ W y, Rw W y (crZ (N : Int)) → Calls Try.prog 9 #[.int .i64 (N : Int), y] W fun e w' => e = .returned (.int .i64 0) ∧ Below W.heap.size W w') := D9c
    obtain ⟨m1, Hm1⟩ : ∃ m1, Hid (N - 1 = m1) := ⟨_, rfl⟩
    have hmn : (N : Int) - 1 = (m1 : Int) := by rw [← Hm1.out]; omega
    have HC1 : Hid ((crZ (N : Int)).length = m1) := by show _ = _; rw [hcl, Hm1.out]
    clear H9c HCL D9c hcl hc hcz hE
    go_enter Try.func5, Try.ntmps5
    go_wp2_with (first
      | (go_at_call 23; refine D23.mono ?_; rintro e w1 ⟨rfl, b1⟩; clear D23; have D14 := H14.out w1; clear H14)
      | (go_at_call 14; refine D14.mono ?_; rintro e w2 ⟨⟨y1, rfl, hy1⟩, b2⟩; clear D14; have D9 := H9c'.out w2 y1 hy1; clear H9c'; obtain ⟨a1, k1, c1, rfl, Hk1⟩ := rw_form hy1; obtain rfl : k1 = m1 := Hk1.out.symm.trans HC1.out; clear hy1 Hk1; replace b2 := Below.next b1 b2; clear b1)
      | (go_at_call 9; refine D9.mono ?_; rintro e w2' ⟨rfl, b2'⟩; clear D9; replace b2 := Below.next b2 b2'; clear b2'; have D20 := H20.out w2' b2; clear H20))
    refine D20.mono ?_
    rintro e w3 ⟨⟨y2, rfl, hy2⟩, b3⟩
    clear D20
    replace b3 := Below.next b2 b3
    clear b2
    by_cases hz : z = 0
    · obtain ⟨V, rfl, hV15, hlen, h9⟩ := H9d.out hz
      subst hz
      have D9 := h9 w3 y2 hy2
      obtain ⟨a2, m2, c2, rfl, Hm2⟩ := rw_form hy2
      obtain rfl : m2 = V := Hm2.out.symm.trans hlen
      clear H9d h9 hlen hy2 Hm2
      go_wp2_with (go_at_call 9; refine D9.mono ?_; rintro e w4 ⟨rfl, b4⟩; clear D9)
      go_ret
      exact ⟨by first | rfl | simp, Below.next b3 b4⟩
    · have hne2 : ((z : Int) != 0) = true := by simp; omega
      clear H9d hy2 hz
      go_wp2
      go_ret
      exact ⟨rfl, b3⟩
set_option maxRecDepth 100000 in
set_option maxHeartbeats 16000000 in
theorem Kotzig_law (FC : FCircle) (FK : FCheck) (FP : FPerfect) (n : Int) (w : World) :
    Calls Try.prog 6 #[.int .i64 n] w fun e w' => e = .returned (.bool true) ∧ Below w.heap.size w w' := by
  have D23 := roundFact_any FC FK w
  have H14 : Hid (∀ W, Calls Try.prog 14 #[.int .i64 n] W fun e w' => (∃ y, e = .returned (.tuple #[y, .int .i64 (ceZ n : Int)]) ∧ Rw w' y (crZ n)) ∧ Below W.heap.size W w') := fun W => FC n W
  rcases cr_case n with hc | ⟨N, rfl, hE, hc, hcz⟩
  · obtain ⟨c, Hc⟩ : ∃ c, Hid (ceZ n = c) := ⟨_, rfl⟩
    rw [Hc.out] at hc H14
    have hne : ((c : Int) != 0) = true := by simp; omega
    clear hc FC FK FP
    go_enter Try.func6, Try.ntmps6
    go_wp2_with (first
      | (go_at_call 23; refine D23.mono ?_; rintro e w1 ⟨rfl, b1⟩; clear D23; have D14 := H14.out w1; clear H14)
      | (go_at_call 14; refine D14.mono ?_; rintro e w2 ⟨⟨y1, rfl, hy1⟩, b2⟩; clear D14; obtain ⟨a1, m1, c1, rfl, _⟩ := rw_form hy1; clear hy1))
    go_ret
    exact ⟨rfl, Below.next b1 b2⟩
  · have hN2 : 2 ≤ N ∧ N ≤ 16 := by rcases hE with h | h | h | h | h | h | h | h <;> omega
    have hG := crL_good hE
    have H10 : Hid (∀ W y, Rw W y (crZ (N : Int)) → Calls Try.prog 10 #[.int .i64 (N : Int), y] W fun e w' => (∃ b : Bool, e = .returned (.tuple #[.bool b, .int .i64 0]) ∧ (b = true ↔ Pfc N (crL N))) ∧ Below W.heap.size W w') := fun W y hy => by
      have h0 := hG.rF
      have := FP (N : Int) _ y W (rw_c hy (crZ_small _))
      rw [hcz, pfcZ_good hG, show (toZ (crL N)) = (crL N).map (fun s => s.map Int.ofNat) from rfl, h0] at this
      exact this
    have H24 : Hid (∀ W, Calls Try.prog 24 #[.int .i64 ((N : Int) - 1)] W fun e w' => PrX ((N : Int) - 1) e ∧ w' = W) := fun W => IsPrimeX_any _ W (by omega)
    have HK : Hid (∀ b q : Bool, (b = true ↔ Pfc N (crL N)) → (q = true ↔ ∃ p : Nat, (N : Int) - 1 = p ∧ PrN p) → b = true ∨ (q = false ∧ (2 : Int) < N)) := fun b q hb hq => by
      by_cases h : N = 2 ∨ N = 4 ∨ N = 6 ∨ N = 8 ∨ N = 12 ∨ N = 14
      · exact .inl (hb.2 (kotzig h))
      · right
        have h2 : N = 10 ∨ N = 16 := by rcases hE with h | h | h | h | h | h | h | h <;> omega
        refine ⟨Bool.eq_false_iff.2 fun hq1 => ?_, by omega⟩
        obtain ⟨p, e, hp⟩ := hq.1 hq1
        rcases h2 with rfl | rfl
        · obtain rfl : p = 9 := by omega
          exact not_nine hp
        · obtain rfl : p = 15 := by omega
          exact not_fifteen hp
    rw [hc] at H14
    clear FC FK FP hG hE hc hcz
    go_enter Try.func6, Try.ntmps6
    go_wp2_with (first
      | (go_at_call 23; refine D23.mono ?_; rintro e w1 ⟨rfl, b1⟩; clear D23; have D14 := H14.out w1; clear H14)
      | (go_at_call 14; refine D14.mono ?_; rintro e w2 ⟨⟨y1, rfl, hy1⟩, b2⟩; clear D14; have D10 := H10.out w2 y1 hy1; clear H10; obtain ⟨a1, k1, c1, rfl, _⟩ := rw_form hy1; clear hy1; replace b2 := Below.next b1 b2; clear b1)
      | (go_at_call 10; refine D10.mono ?_; rintro e w3 ⟨⟨b, rfl, hb⟩, b3⟩; clear D10; replace b3 := Below.next b2 b3; clear b2; have D24 := H24.out w3; clear H24))
    refine D24.mono ?_
    rintro e w4 ⟨⟨q, rfl, hq⟩, hw⟩
    replace hw := hw.symm
    subst hw
    have hk := HK.out b q hb hq
    clear D24 HK hb hq
    cases b with
    | true =>
      go_wp2
      go_ret
      exact ⟨rfl, b3⟩
    | false =>
      obtain ⟨rfl, h2⟩ : q = false ∧ (2 : Int) < N := hk.resolve_left (by simp)
      have hd : decide ((2 : Int) < (N : Int)) = true := by simpa using h2
      clear hk
      go_wp2
      go_ret
      exact ⟨by first | rfl | simp, b3⟩
end Go.Proofs.Ytpeplnojmogkfaa
