/- The law RoundMakes. -/
import Derived.Test.YtpeplnojmogkfaaLA
namespace Go.Proofs.Ytpeplnojmogkfaa
open Go.RowKit

set_option maxRecDepth 100000 in
set_option maxHeartbeats 16000000 in
theorem Makes_law (FC : FCircle) (FS : FStarter) (FG : FStrong) (FD : FDevelop) (n v : Int) (ps : List (List Int)) (u : Value) (w : World) (hu : RwC w u ps) :
    Calls Try.prog 4 #[.int .i64 n, .int .i64 v, u] w fun e w' => e = .returned (.bool true) ∧ Below w.heap.size w w' := by
  have HU : Hid (∀ W, Below w.heap.size w W → RwC W u ps) := fun W b => hu.below b
  obtain ⟨ua, um, uc, rfl⟩ := hu.form
  have D14 := FC n w
  have H15 : Hid (∀ W, Calls Try.prog 15 #[.int .i64 n] W fun e w' => (∃ y, e = .returned (.tuple #[y, .int .i64 (ceZ n : Int)]) ∧ Rw w' y (crZ n)) ∧ Below W.heap.size W w') := fun W => CircleOf_any n W
  have H16 : Hid (∀ W x y, Rw W x (crZ n) → Rw W y (crZ n) → Calls Try.prog 16 #[x, y] W fun e w' => e = .returned (.bool true) ∧ Below W.heap.size W w') := fun W x y hx hy => (Lists_any _ _ x y W hx hy (crZ_small n).1 (crZ_small n).1 (crZ_small n).2 (crZ_small n).2).mono fun e w' ⟨b, h1, h2, h3⟩ => ⟨by rw [h1, h2.2 rfl], h3⟩
  have H17 : Hid (∀ W, Below w.heap.size w W → Calls Try.prog 17 #[.int .i64 v, .slice ua um uc] W fun e w' => e = .returned (.int .i64 (sF v ps : Int)) ∧ Below W.heap.size W w') := fun W b => StarterFault_any v ps _ W (HU.out W b).rw (HU.out W b).all
  have H18 : Hid (∀ W, Below w.heap.size w W → Calls Try.prog 18 #[.int .i64 v, .slice ua um uc] W fun e w' => e = .returned (.int .i64 (sF v ps : Int)) ∧ Below W.heap.size W w') := fun W b => FS v ps _ W (HU.out W b)
  have H19 : Hid (∀ W, Below w.heap.size w W → Calls Try.prog 19 #[.int .i64 v, .slice ua um uc] W fun e w' => (∃ b : Bool, e = .returned (.tuple #[.bool b, .int .i64 (sF v ps : Int)]) ∧ (b = true ↔ StgZ v ps)) ∧ Below W.heap.size W w') := fun W b => FG v ps _ W (HU.out W b)
  have H20 : Hid (∀ W, Below w.heap.size w W → Calls Try.prog 20 #[.int .i64 v, .slice ua um uc] W fun e w' => (∃ y, e = .returned (.tuple #[y, .int .i64 (sF v ps : Int)]) ∧ Rw w' y (dvZ v ps)) ∧ Below W.heap.size W w') := fun W b => FD v ps _ W (HU.out W b)
  have H16b : Hid (∀ W x y, Rw W x (dvZ v ps) → Rw W y (dvZ v ps) → Calls Try.prog 16 #[x, y] W fun e w' => e = .returned (.bool true) ∧ Below W.heap.size W w') := fun W x y hx hy => (Lists_any _ _ x y W hx hy (dvZ_small v ps).1 (dvZ_small v ps).1 (dvZ_small v ps).2 (dvZ_small v ps).2).mono fun e w' ⟨b, h1, h2, h3⟩ => ⟨by rw [h1, h2.2 rfl], h3⟩
  have H21 : Hid (sF v ps = 0 → ∀ W, Below w.heap.size w W → Calls Try.prog 21 #[.int .i64 v, .slice ua um uc] W fun e w' => (∃ b : Bool, e = .returned (.bool b) ∧ (b = true ↔ StgZ v ps)) ∧ Below W.heap.size W w') := fun h W b => by
    have hr := (HU.out W b).rw
    obtain ⟨V, qs, rfl, rfl, hS⟩ := sF_ok h
    rw [stgZ_good hS]
    exact StrongOf_any V qs _ W hr hS
  have H22 : Hid (sF v ps = 0 → ∀ W, Below w.heap.size w W → Calls Try.prog 22 #[.int .i64 v, .slice ua um uc] W fun e w' => (∃ y, e = .returned y ∧ Rw w' y (dvZ v ps)) ∧ Below W.heap.size W w') := fun h W b => by
    have hr := (HU.out W b).rw
    obtain ⟨V, qs, rfl, rfl, hS⟩ := sF_ok h
    rw [dvZ_good hS]
    exact (RoundsOf_any V qs _ W hr hS).mono fun e w' ⟨⟨y, h1, h2⟩, h3⟩ => ⟨⟨y, h1, h2.rw⟩, h3⟩
  have HN : Hid (sF v ps ≠ 0 → ¬ StgZ v ps ∧ dvZ v ps = []) := fun h => ⟨stgZ_bad h, by unfold dvZ; rw [if_neg h]⟩
  obtain ⟨z, Hz⟩ : ∃ z, Hid (sF v ps = z) := ⟨_, rfl⟩
  obtain ⟨c, Hc⟩ : ∃ c, Hid (ceZ n = c) := ⟨_, rfl⟩
  rw [Hz.out] at H17 H18 H19 H20 H21 H22 HN
  rw [Hc.out] at D14 H15
  clear FC FS FG FD hu HU
  go_enter Try.func4, Try.ntmps4
  go_wp2_with (first
    | (go_at_call 14; refine D14.mono ?_; rintro e w1 ⟨⟨y1, rfl, hy1⟩, b1⟩; clear D14; obtain ⟨a1, m1, c1, rfl, _⟩ := rw_form hy1; have D15 := H15.out w1; clear H15)
    | (go_at_call 15; refine D15.mono ?_; rintro e w2 ⟨⟨y2, rfl, hy2⟩, b2⟩; clear D15; obtain ⟨a2, m2, c2, rfl, _⟩ := rw_form hy2; have D16 := H16.out w2 _ _ (hy1.below b2) hy2; clear H16 hy1 hy2; replace b2 := Below.next b1 b2; clear b1)
    | (go_at_call 16; refine D16.mono ?_; rintro e w3 ⟨rfl, b3⟩; clear D16; replace b3 := Below.next b2 b3; clear b2; have D17 := H17.out w3 b3; clear H17)
    | (go_at_call 17; refine D17.mono ?_; rintro e w4 ⟨rfl, b4⟩; clear D17; replace b4 := Below.next b3 b4; clear b3; have D18 := H18.out w4 b4; clear H18)
    | (go_at_call 18; refine D18.mono ?_; rintro e w5 ⟨rfl, b5⟩; clear D18; replace b5 := Below.next b4 b5; clear b4; have D19 := H19.out w5 b5; clear H19)
    | (go_at_call 19; refine D19.mono ?_; rintro e w6 ⟨⟨p, rfl, hp⟩, b6⟩; clear D19; replace b6 := Below.next b5 b6; clear b5; have D20 := H20.out w6 b6; clear H20))
  refine D20.mono ?_
  rintro e w7 ⟨⟨y3, rfl, hy3⟩, b7⟩
  clear D20
  replace b7 := Below.next b6 b7
  clear b6
  obtain ⟨a3, m3, c3, rfl, Hm3⟩ := rw_form hy3
  by_cases hz : z = 0
  · have D21 := H21.out hz w7 b7
    have H22' : Hid (∀ W, Below w.heap.size w W → Calls Try.prog 22 #[.int .i64 v, .slice ua um uc] W fun e w' => (∃ y, e = .returned y ∧ Rw w' y (dvZ v ps)) ∧ Below W.heap.size W w') := H22.out hz
    subst hz
    clear H21 H22 HN
    go_wp2_with (first
      | (go_at_call 21; refine D21.mono ?_; rintro e w8 ⟨⟨p', rfl, hp'⟩, b8⟩; clear D21; obtain rfl : p = p' := Bool.eq_iff_iff.2 (hp.trans hp'.symm); clear hp hp'; have hy8 := hy3.below b8; clear hy3; replace b8 := Below.next b7 b8; clear b7; have D22 := H22'.out w8 b8; clear H22')
      | (go_at_call 22; refine D22.mono ?_; rintro e w9 ⟨⟨y4, rfl, hy4⟩, b9⟩; clear D22; obtain ⟨a4, m4, c4, rfl, _⟩ := rw_form hy4; have D16b := H16b.out w9 _ _ (hy8.below b9) hy4; clear hy8 hy4 H16b; replace b9 := Below.next b8 b9; clear b8)
      | (go_at_call 16; refine D16b.mono ?_; rintro e w10 ⟨rfl, b10⟩; clear D16b; replace b10 := Below.next b9 b10; clear b9))
    go_ret
    exact ⟨by cases p <;> rfl, b10⟩
  · obtain ⟨k1, k2⟩ := HN.out hz
    obtain rfl : p = false := Bool.eq_false_iff.2 fun h => k1 (hp.1 h)
    obtain rfl : m3 = 0 := by rw [← Hm3.out, k2]; rfl
    have hne : ((z : Int) != 0) = true := by simp; omega
    clear H21 H22 HN k1 k2 hp hz H16b hy3 Hm3
    go_wp2
    go_ret
    exact ⟨by first | rfl | simp, b7⟩
end Go.Proofs.Ytpeplnojmogkfaa
