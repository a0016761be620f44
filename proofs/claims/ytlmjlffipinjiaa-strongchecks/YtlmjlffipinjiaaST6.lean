/- The law StrongChecks over what the faces tell. -/
import Derived.Test.YtlmjlffipinjiaaST5
namespace Go.Proofs.Ytlmjlffipinjiaa
open Go.RowKit

set_option maxRecDepth 100000 in
set_option maxHeartbeats 16000000 in
theorem Checks_bad (hC : FChk) (hN : FNum) (hO : FOth) (hF : FFri) (s : Int) (L : List Int) (v : Value) (w : World) (hv : Sl w v L) (hl : L.length ≤ maxLen) (hz : gF s L ≠ 0) :
    Calls Try.prog 3 #[.agg #[.int .i64 s, v]] w fun e w' => e = .returned (.bool true) ∧ Below w.heap.size w w' := by
  have b0 := balloc w (.cells #[.int .i64 s, v] 24)
  have C0 := GraphFault_any s L v _ (hv.below b0) hl
  have HC1 : Hid (∀ W, Below w.heap.size w W → Calls Try.prog 8 #[.agg #[.int .i64 s, v]] W fun e w' => e = .returned (.int .i64 (gF s L : Int)) ∧ Below W.heap.size W w') := fun W b => hC s L v W (hv.below b) hl
  have HC2 : Hid (∀ W, Below w.heap.size w W → Calls Try.prog 9 #[.agg #[.int .i64 s, v]] W fun e w' => e = .returned (.tuple #[.agg #[.int .i64 0, .int .i64 0, .int .i64 0, .int .i64 0], .int .i64 (gF s L : Int)]) ∧ Below W.heap.size W w') := fun W b => (hN s L v W (hv.below b) hl).mono fun e w' ⟨⟨P, D, N, F, u, he, hr⟩, hb⟩ => by
    rcases hr with ⟨_, rfl, rfl, rfl, rfl, rfl⟩ | ⟨n, rfl, G, _⟩
    · exact ⟨he, hb⟩
    · exact absurd (gF_good G) hz
  have e1 : otS s L = 0 := if_neg hz
  have e2 : otL s L = [] := if_neg hz
  have HC3 : Hid (∀ W, Below w.heap.size w W → Calls Try.prog 10 #[.agg #[.int .i64 s, v]] W fun e w' => (∃ y, e = .returned (.tuple #[.agg #[.int .i64 (otS s L), y], .int .i64 (gF s L : Int)]) ∧ OwnS w' y (otL s L)) ∧ Below W.heap.size W w') := fun W b => hO s L v W (hv.below b) hl
  rw [e1, e2] at HC3
  have HC4 : Hid (∀ W, Below w.heap.size w W → Calls Try.prog 11 #[.agg #[.int .i64 s, v]] W fun e w' => e = .returned (.tuple #[.int .i64 0, .int .i64 (gF s L : Int)]) ∧ Below W.heap.size W w') := fun W b => (hF s L v W (hv.below b) hl).mono fun e w' ⟨⟨x, u, he, hr⟩, hb⟩ => by
    rcases hr with ⟨_, rfl, rfl⟩ | ⟨n, rfl, G, _⟩
    · exact ⟨he, hb⟩
    · exact absurd (gF_good G) hz
  have HC5 : Hid (∀ y W, Sl W y [] → Calls Try.prog 12 #[.agg #[.int .i64 0, y], .agg #[.int .i64 0, .slice none 0 0]] W fun e w' => e = .returned (.bool true) ∧ Below W.heap.size W w') := fun y W h => Squares_same 0 [] y (.slice none 0 0) W h (Sl.nil W) (by simp)
  obtain ⟨u, Hu⟩ : ∃ u, Hid (gF s L = u) := ⟨_, rfl⟩
  rw [Hu.out] at C0 HC1 HC2 HC3 HC4 hz
  have hne : ((u : Int) != 0) = true := by simp; omega
  have huu : ((u : Int) != (u : Int)) = false := by simp
  have huu2 : ((u : Int) == (u : Int)) = true := by simp
  have hbox := heap_alloc_new w (.cells #[.int .i64 s, v] 24)
  obtain ⟨va, vc, rfl⟩ := sl_len hv
  generalize L.length = z at *
  clear hv e1 e2 hz
  go_enter Try.func3, Try.ntmps3
  go_wp2_with (first
    | (go_at_call 7; refine C0.mono ?_; rintro e w1 ⟨rfl, b1⟩; clear C0; have hbox1 := (b1.block _ (by simp)).trans hbox; obtain ⟨x0, x1, _, _⟩ := row2 hbox1; have B1 := Below.next b0 b1; have C1 := HC1.out _ B1; clear HC1)
    | (go_at_call 8; refine C1.mono ?_; rintro e w2 ⟨rfl, b2⟩; clear C1 x0 x1; have hbox2 := (b2.block _ (Array.getElem?_eq_some_iff.1 hbox1).1).trans hbox1; obtain ⟨x0, x1, _, _⟩ := row2 hbox2; have B2 := Below.next B1 b2; have C2 := HC2.out _ B2; clear HC2)
    | (go_at_call 9; refine C2.mono ?_; rintro e w3 ⟨rfl, b3⟩; clear C2 x0 x1; have b3' := Below.next b3 (balloc w3 (.cells #[.int .i64 0, .int .i64 0, .int .i64 0, .int .i64 0] 28)); have hnb := heap_alloc_new w3 (.cells #[.int .i64 0, .int .i64 0, .int .i64 0, .int .i64 0] 28); obtain ⟨nb, hnbe⟩ : ∃ q, w3.heap.size = q := ⟨_, rfl⟩; rw [hnbe] at hnb; have hbox3 := (b3'.block _ (Array.getElem?_eq_some_iff.1 hbox2).1).trans hbox2; obtain ⟨x0, x1, _, _⟩ := row2 hbox3; have B3 := Below.next B2 b3'; have C3 := HC3.out _ B3; clear HC3)
    | (go_at_call 10; refine C3.mono ?_; rintro e w4 ⟨⟨y, rfl, hy⟩, b4⟩; clear C3 x0 x1; obtain ⟨ya, yc, ey⟩ := hy.len; rw [List.length_nil] at ey; subst ey; have b4' := Below.next b4 (balloc w4 (.cells #[.int .i64 0, .slice ya 0 yc] 24)); have hob := heap_alloc_new w4 (.cells #[.int .i64 0, .slice ya 0 yc] 24); obtain ⟨ob, hobe⟩ : ∃ q, w4.heap.size = q := ⟨_, rfl⟩; rw [hobe] at hob; have hbox4 := (b4'.block _ (Array.getElem?_eq_some_iff.1 hbox3).1).trans hbox3; have hnb4 := (b4'.block _ (Array.getElem?_eq_some_iff.1 hnb).1).trans hnb; have hy4 := hy.sl.below (balloc w4 (.cells #[.int .i64 0, .slice ya 0 yc] 24)); obtain ⟨x0, x1, _, _⟩ := row2 hbox4; have B4 := Below.next B3 b4'; have C4 := HC4.out _ B4; clear HC4)
    | (go_at_call 11; refine C4.mono ?_; rintro e w5 ⟨rfl, b5⟩; clear C4 x0 x1; have hob5 := (b5.block _ (Array.getElem?_eq_some_iff.1 hob).1).trans hob; have hnb5 := (b5.block _ (Array.getElem?_eq_some_iff.1 hnb4).1).trans hnb4; have hy5 := hy4.below b5; have B5 := Below.next B4 b5; obtain ⟨o0, o1, _, _⟩ := row2 hob5; have C5 := HC5.out _ _ hy5; clear HC5)
    | (go_at_call 12; refine C5.mono ?_; rintro e w6 ⟨rfl, b6⟩; clear C5; have hnb6 := (b6.block _ (Array.getElem?_eq_some_iff.1 hnb5).1).trans hnb5; have B6 := Below.next B5 b6; obtain ⟨n0, n1, n2, n3⟩ := row4c hnb6))
  go_ret
  exact ⟨rfl, B6⟩
set_option maxRecDepth 100000 in
set_option maxHeartbeats 16000000 in
theorem Checks_ok (hC : FChk) (hN : FNum) (hO : FOth) (hF : FFri) (n : Nat) (L : List Int) (v : Value) (w : World) (hv : Sl w v L) (G : GoodG n L) :
    Calls Try.prog 3 #[.agg #[.int .i64 (n : Int), v]] w fun e w' => e = .returned (.bool true) ∧ Below w.heap.size w w' := by
  have hl : L.length ≤ maxLen := by rw [G.len]; have := sq576 G.le; unfold maxLen; omega
  have hlo : (otC n L).length = n * n := by simp [otC]
  have hml : (otC n L).length ≤ maxLen := by rw [hlo]; have := sq576 G.le; unfold maxLen; omega
  have b0 := balloc w (.cells #[.int .i64 (n : Int), v] 24)
  have C0 := GraphFault_any n L v _ (hv.below b0) hl
  have HC1 : Hid (∀ W, Below w.heap.size w W → Calls Try.prog 8 #[.agg #[.int .i64 (n : Int), v]] W fun e w' => e = .returned (.int .i64 (gF n L : Int)) ∧ Below W.heap.size W w') := fun W b => hC n L v W (hv.below b) hl
  rw [gF_good G] at C0 HC1
  have HC2 : Hid (∀ W, Below w.heap.size w W → Calls Try.prog 9 #[.agg #[.int .i64 (n : Int), v]] W fun e w' => (∃ (P D N F : Int) (u : Nat), e = .returned (.tuple #[.agg #[.int .i64 P, .int .i64 D, .int .i64 N, .int .i64 F], .int .i64 (u : Int)]) ∧ NmT n (gx n L) P D N F u) ∧ Below W.heap.size W w') := fun W b => (hN n L v W (hv.below b) hl).mono fun e w' ⟨⟨P, D, N, F, u, he, hr⟩, hb⟩ => ⟨⟨P, D, N, F, u, he, by
    rcases hr with ⟨h0, _⟩ | ⟨n', e', _, h⟩
    · exact absurd (gF_good G) h0
    · obtain rfl : n = n' := by omega
      exact h⟩, hb⟩
  have HC3 : Hid (∀ W, Below w.heap.size w W → Calls Try.prog 10 #[.agg #[.int .i64 (n : Int), v]] W fun e w' => (∃ y', e = .returned (.tuple #[.agg #[.int .i64 (n : Int), y'], .int .i64 0]) ∧ OwnS w' y' (otC n L)) ∧ Below W.heap.size W w') := fun W b => by
    have k := hO n L v W (hv.below b) hl
    have e1 : otS n L = n := if_pos (gF_good G)
    have e2 : otL n L = otC n L := if_pos (gF_good G)
    rw [e1, e2, gF_good G] at k
    exact k
  have HC4 : Hid (∀ W, Below w.heap.size w W → Calls Try.prog 11 #[.agg #[.int .i64 (n : Int), v]] W fun e w' => (∃ (x u : Nat), e = .returned (.tuple #[.int .i64 (x : Int), .int .i64 (u : Int)]) ∧ FrT n (gx n L) x u) ∧ Below W.heap.size W w') := fun W b => (hF n L v W (hv.below b) hl).mono fun e w' ⟨⟨x, u, he, hr⟩, hb⟩ => ⟨⟨x, u, he, by
    rcases hr with ⟨h0, _⟩ | ⟨n', e', _, h⟩
    · exact absurd (gF_good G) h0
    · obtain rfl : n = n' := by omega
      exact h⟩, hb⟩
  have HC5 : Hid (∀ (P D N F : Int) (u : Nat), NmT n (gx n L) P D N F u → ∀ W, Below w.heap.size w W → Calls Try.prog 13 #[.agg #[.int .i64 (n : Int), v]] W fun e w' => e = .returned (.tuple #[.agg #[.int .i64 P, .int .i64 D, .int .i64 N, .int .i64 F], .int .i64 (u : Int)]) ∧ Below W.heap.size W w') := fun P D N F u h W b => (NumbersOf_any n L G v W (hv.below b)).mono fun e w' ⟨⟨P', D', N', F', u', he, hr⟩, hb⟩ => by
    obtain ⟨rfl, rfl, rfl, rfl, rfl⟩ := h.one hr G.pos
    exact ⟨he, hb⟩
  have HC6 : Hid (∀ W, Below w.heap.size w W → Calls Try.prog 14 #[.agg #[.int .i64 (n : Int), v]] W fun e w' => (∃ y, e = .returned (.agg #[.int .i64 (n : Int), y]) ∧ OwnS w' y (otC n L)) ∧ Below W.heap.size W w') := fun W b => (OtherOf_any n L G v W (hv.below b)).mono fun e w' ⟨⟨y, he, hr⟩, hb⟩ => ⟨⟨y, he, OwnS.of (base := W.heap.size) (by rw [hlo]; exact hr)⟩, hb⟩
  have HC7 : Hid (∀ (x u : Nat), FrT n (gx n L) x u → ∀ W, Below w.heap.size w W → Calls Try.prog 15 #[.agg #[.int .i64 (n : Int), v]] W fun e w' => e = .returned (.tuple #[.int .i64 (x : Int), .int .i64 (u : Int)]) ∧ Below W.heap.size W w') := fun x u h W b => (FriendOf_any n L G v W (hv.below b)).mono fun e w' ⟨⟨x', u', he, hr⟩, hb⟩ => by
    obtain ⟨rfl, rfl⟩ := h.one hr
    exact ⟨he, hb⟩
  have HC8 : Hid (∀ y y' W, Sl W y (otC n L) → Sl W y' (otC n L) → Calls Try.prog 12 #[.agg #[.int .i64 (n : Int), y], .agg #[.int .i64 (n : Int), y']] W fun e w' => e = .returned (.bool true) ∧ Below W.heap.size W w') := fun y y' W h h' => Squares_same n (otC n L) y y' W h h' hml
  obtain ⟨z, hz⟩ : ∃ z, n * n = z := ⟨_, rfl⟩
  have hLl : L.length = z := by rw [← hz]; exact G.len
  rw [hz] at hlo
  have hbox := heap_alloc_new w (.cells #[.int .i64 (n : Int), v] 24)
  obtain ⟨va, vc, rfl⟩ := sl_len hv
  rw [hLl] at C0 b0 hbox HC1 HC2 HC3 HC4 HC5 HC6 HC7 ⊢
  generalize otC n L = M at *
  generalize gx n L = t at *
  clear hv hml hz G hl hLl
  go_enter Try.func3, Try.ntmps3
  go_wp2_with (first
    | (go_at_call 7; refine C0.mono ?_; rintro e w1 ⟨rfl, b1⟩; clear C0; have hbox1 := (b1.block _ (by simp)).trans hbox; obtain ⟨x0, x1, _, _⟩ := row2 hbox1; have B1 := Below.next b0 b1; have C1 := HC1.out _ B1; clear HC1)
    | (go_at_call 8; refine C1.mono ?_; rintro e w2 ⟨rfl, b2⟩; clear C1 x0 x1; have hbox2 := (b2.block _ (Array.getElem?_eq_some_iff.1 hbox1).1).trans hbox1; obtain ⟨x0, x1, _, _⟩ := row2 hbox2; have B2 := Below.next B1 b2; have C2 := HC2.out _ B2; clear HC2 hbox1 hbox)
    | (go_at_call 9; refine C2.mono ?_; rintro e w3 ⟨⟨P, D, N, F, u, rfl, hnm⟩, b3⟩; clear C2 x0 x1; have b3' := Below.next b3 (balloc w3 (.cells #[.int .i64 P, .int .i64 D, .int .i64 N, .int .i64 F] 28)); have hnb := heap_alloc_new w3 (.cells #[.int .i64 P, .int .i64 D, .int .i64 N, .int .i64 F] 28); obtain ⟨nb, hnbe⟩ : ∃ q, w3.heap.size = q := ⟨_, rfl⟩; rw [hnbe] at hnb; have hbox3 := (b3'.block _ (Array.getElem?_eq_some_iff.1 hbox2).1).trans hbox2; obtain ⟨x0, x1, _, _⟩ := row2 hbox3; have B3 := Below.next B2 b3'; have C3 := HC3.out _ B3; have HC5' : Hid (∀ W, Below w.heap.size w W → Calls Try.prog 13 #[.agg #[.int .i64 (n : Int), .slice va z vc]] W fun e w' => e = .returned (.tuple #[.agg #[.int .i64 P, .int .i64 D, .int .i64 N, .int .i64 F], .int .i64 (u : Int)]) ∧ Below W.heap.size W w') := HC5.out P D N F u hnm; clear HC3 HC5 hnm hbox2)
    | (go_at_call 10; refine C3.mono ?_; rintro e w4 ⟨⟨y, rfl, hy⟩, b4⟩; clear C3 x0 x1; obtain ⟨ya, yc, ey⟩ := hy.len; rw [hlo] at ey; subst ey; have b4' := Below.next b4 (balloc w4 (.cells #[.int .i64 (n : Int), .slice ya z yc] 24)); have hob := heap_alloc_new w4 (.cells #[.int .i64 (n : Int), .slice ya z yc] 24); obtain ⟨ob, hobe⟩ : ∃ q, w4.heap.size = q := ⟨_, rfl⟩; rw [hobe] at hob; have hbox4 := (b4'.block _ (Array.getElem?_eq_some_iff.1 hbox3).1).trans hbox3; have hnb4 := (b4'.block _ (Array.getElem?_eq_some_iff.1 hnb).1).trans hnb; have hy4 := hy.sl.below (balloc w4 (.cells #[.int .i64 (n : Int), .slice ya z yc] 24)); obtain ⟨x0, x1, _, _⟩ := row2 hbox4; have B4 := Below.next B3 b4'; have C4 := HC4.out _ B4; clear HC4 hbox3 hnb)
    | (go_at_call 11; refine C4.mono ?_; rintro e w5 ⟨⟨fx, fu, rfl, hfr⟩, b5⟩; clear C4 x0 x1; have hbox5 := (b5.block _ (Array.getElem?_eq_some_iff.1 hbox4).1).trans hbox4; have hob5 := (b5.block _ (Array.getElem?_eq_some_iff.1 hob).1).trans hob; have hnb5 := (b5.block _ (Array.getElem?_eq_some_iff.1 hnb4).1).trans hnb4; have hy5 := hy4.below b5; have B5 := Below.next B4 b5; obtain ⟨x0, x1, _, _⟩ := row2 hbox5; have C5 := HC5'.out _ B5; have HC7' : Hid (∀ W, Below w.heap.size w W → Calls Try.prog 15 #[.agg #[.int .i64 (n : Int), .slice va z vc]] W fun e w' => e = .returned (.tuple #[.int .i64 (fx : Int), .int .i64 (fu : Int)]) ∧ Below W.heap.size W w') := HC7.out fx fu hfr; clear HC5' HC7 hfr hbox4 hob hnb4)
    | (go_at_call 13; refine C5.mono ?_; rintro e w6 ⟨rfl, b6⟩; clear C5 x0 x1; have b6' := Below.next b6 (balloc w6 (.cells #[.int .i64 P, .int .i64 D, .int .i64 N, .int .i64 F] 28)); have hmb := heap_alloc_new w6 (.cells #[.int .i64 P, .int .i64 D, .int .i64 N, .int .i64 F] 28); obtain ⟨mb, hmbe⟩ : ∃ q, w6.heap.size = q := ⟨_, rfl⟩; rw [hmbe] at hmb; have hbox6 := (b6'.block _ (Array.getElem?_eq_some_iff.1 hbox5).1).trans hbox5; have hob6 := (b6'.block _ (Array.getElem?_eq_some_iff.1 hob5).1).trans hob5; have hnb6 := (b6'.block _ (Array.getElem?_eq_some_iff.1 hnb5).1).trans hnb5; have hy6 := hy5.below b6'; have B6 := Below.next B5 b6'; obtain ⟨x0, x1, _, _⟩ := row2 hbox6; have C6 := HC6.out _ B6; clear HC6 hbox5 hob5 hnb5)
    | (go_at_call 14; refine C6.mono ?_; rintro e w7 ⟨⟨y', rfl, hy'⟩, b7⟩; clear C6 x0 x1; obtain ⟨za, zc, ez⟩ := hy'.len; rw [hlo] at ez; subst ez; have b7' := Below.next b7 (balloc w7 (.cells #[.int .i64 (n : Int), .slice za z zc] 24)); have hwb := heap_alloc_new w7 (.cells #[.int .i64 (n : Int), .slice za z zc] 24); obtain ⟨wb, hwbe⟩ : ∃ q, w7.heap.size = q := ⟨_, rfl⟩; rw [hwbe] at hwb; have hbox7 := (b7'.block _ (Array.getElem?_eq_some_iff.1 hbox6).1).trans hbox6; have hob7 := (b7'.block _ (Array.getElem?_eq_some_iff.1 hob6).1).trans hob6; have hnb7 := (b7'.block _ (Array.getElem?_eq_some_iff.1 hnb6).1).trans hnb6; have hmb7 := (b7'.block _ (Array.getElem?_eq_some_iff.1 hmb).1).trans hmb; have hy7 := hy6.below b7'; have hz7 := hy'.sl.below (balloc w7 (.cells #[.int .i64 (n : Int), .slice za z zc] 24)); have B7 := Below.next B6 b7'; obtain ⟨x0, x1, _, _⟩ := row2 hbox7; have C7 := HC7'.out _ B7; clear HC7' hbox6 hob6 hnb6 hmb)
    | (go_at_call 15; refine C7.mono ?_; rintro e w8 ⟨rfl, b8⟩; clear C7 x0 x1; have hob8 := (b8.block _ (Array.getElem?_eq_some_iff.1 hob7).1).trans hob7; have hnb8 := (b8.block _ (Array.getElem?_eq_some_iff.1 hnb7).1).trans hnb7; have hmb8 := (b8.block _ (Array.getElem?_eq_some_iff.1 hmb7).1).trans hmb7; have hwb8 := (b8.block _ (Array.getElem?_eq_some_iff.1 hwb).1).trans hwb; have hy8 := hy7.below b8; have hz8 := hz7.below b8; have B8 := Below.next B7 b8; obtain ⟨o0, o1, _, _⟩ := row2 hob8; obtain ⟨v0, v1, _, _⟩ := row2 hwb8; have C8 := HC8.out _ _ _ hy8 hz8; clear HC8 hbox7 hob7 hnb7 hmb7 hwb)
    | (go_at_call 12; refine C8.mono ?_; rintro e w9 ⟨rfl, b9⟩; clear C8 o0 o1 v0 v1; have hnb9 := (b9.block _ (Array.getElem?_eq_some_iff.1 hnb8).1).trans hnb8; have hmb9 := (b9.block _ (Array.getElem?_eq_some_iff.1 hmb8).1).trans hmb8; have B9 := Below.next B8 b9; obtain ⟨n0, n1, n2, n3⟩ := row4c hnb9; obtain ⟨m0, m1, m2, m3⟩ := row4c hmb9; have u1 : ((u : Int) == (u : Int)) = true := (by simp); have u2 : ((fu : Int) == (fu : Int)) = true := (by simp); have u3 : ((fx : Int) == (fx : Int)) = true := (by simp); have u4 : (P == P) = true := (by simp); have u5 : (D == D) = true := (by simp); have u6 : (N == N) = true := (by simp); have u7 : (F == F) = true := (by simp)))
  go_ret
  exact ⟨rfl, B9⟩
theorem Checks_law (hC : FChk) (hN : FNum) (hO : FOth) (hF : FFri) (s : Int) (L : List Int) (v : Value) (w : World) (hv : Sl w v L) (hl : L.length ≤ maxLen) :
    Calls Try.prog 3 #[.agg #[.int .i64 s, v]] w fun e w' => e = .returned (.bool true) ∧ Below w.heap.size w w' := by
  by_cases hz : gF s L = 0
  · obtain ⟨n, rfl, G⟩ := gF_ok hz
    exact Checks_ok hC hN hO hF n L v w hv G
  · exact Checks_bad hC hN hO hF s L v w hv hl hz
end Go.Proofs.Ytlmjlffipinjiaa
