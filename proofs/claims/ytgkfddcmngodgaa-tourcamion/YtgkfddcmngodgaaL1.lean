/- The law TourAsks over the contracts. -/
import Derived.Test.YtgkfddcmngodgaaTA
namespace Go.Proofs.Ytgkfddcmngodgaa
open Go.RowKit

theorem sl_len {w : World} {y : Value} {l : List Int} (h : Sl w y l) {m : Nat} (e : l.length = m) : ∃ a c, y = .slice a m c := by
  obtain ⟨a, c, rfl, _⟩ := h
  exact ⟨a, c, by rw [e]⟩
theorem sl_form {w : World} {y : Value} {l : List Int} (h : Sl w y l) : ∃ a m c, y = .slice a m c := by
  obtain ⟨a, c, e, _⟩ := h
  exact ⟨a, _, c, e⟩
theorem rw_form {w : World} {y : Value} {l : List (List Int)} (h : Rw w y l) : ∃ a m c, y = .slice a m c := by
  obtain ⟨a, c, e, _⟩ := h
  exact ⟨a, _, c, e⟩
theorem rw_len {w : World} {y : Value} {l : List (List Int)} (h : Rw w y l) {m : Nat} (e : l.length = m) : ∃ a c, y = .slice a m c := by
  obtain ⟨a, c, rfl, _⟩ := h
  exact ⟨a, c, by rw [e]⟩
set_option maxRecDepth 100000 in
set_option maxHeartbeats 16000000 in
theorem Asks_law (FK : FCheck) (FS : FScores) (FG : FKings) (FR : FRings) (FP : FParts) (s : Int) (l : List Int) (v : Value) (w : World) (h : SqC w v l) :
    Calls Try.prog 3 #[.agg #[.int .i64 s, v]] w fun e w' => e = .returned (.bool true) ∧ Below w.heap.size w w' := by
  have b1 := balloc w (.cells #[.int .i64 s, v] 24)
  have HX := sq_cells s v w
  obtain ⟨w0, Hw0⟩ : ∃ w0, Hid (w.alloc (.cells #[.int .i64 s, v] 24) = w0) := ⟨_, rfl⟩
  rw [Hw0.out] at b1 HX
  have HX2 : Hid (∀ W, Below w0.heap.size w0 W → W.cell? ⟨w.heap.size, 0, none⟩ = some (.int .i64 s) ∧ W.cell? ⟨w.heap.size, 1, none⟩ = some v) := HX
  have HB0 : Hid (∀ W, Below w0.heap.size w0 W → Below w.heap.size w W) := fun W b => Below.next b1 b
  have HQ : Hid (∀ W, Below w0.heap.size w0 W → SqC W v l) := fun W b => h.below (HB0.out W b)
  obtain ⟨z, Hz⟩ : ∃ z, Hid (tF s l = z) := ⟨_, rfl⟩
  have H9 : Hid (∀ W, Below w0.heap.size w0 W → Calls Try.prog 9 #[.agg #[.int .i64 s, v]] W fun e w' => e = .returned (.int .i64 (z : Int)) ∧ Below W.heap.size W w') := fun W b => by rw [← Hz.out]; exact TourFault_any s l v W (HQ.out W b).sl
  have H10 : Hid (∀ W, Below w0.heap.size w0 W → Calls Try.prog 10 #[.agg #[.int .i64 s, v]] W fun e w' => e = .returned (.int .i64 (z : Int)) ∧ Below W.heap.size W w') := fun W b => by rw [← Hz.out]; exact FK s l v W (HQ.out W b)
  have H11 : Hid (∀ W, Below w0.heap.size w0 W → Calls Try.prog 11 #[.agg #[.int .i64 s, v]] W fun e w' => (∃ y, e = .returned (.tuple #[y, .int .i64 (z : Int)]) ∧ Sl w' y (scZ s l)) ∧ Below W.heap.size W w') := fun W b => by rw [← Hz.out]; exact FS s l v W (HQ.out W b)
  have H12 : Hid (∀ W, Below w0.heap.size w0 W → Calls Try.prog 12 #[.agg #[.int .i64 s, v]] W fun e w' => (∃ y, e = .returned (.tuple #[y, .int .i64 (z : Int)]) ∧ Sl w' y (kgZ s l)) ∧ Below W.heap.size W w') := fun W b => by rw [← Hz.out]; exact FG s l v W (HQ.out W b)
  have H13 : Hid (∀ W, Below w0.heap.size w0 W → Calls Try.prog 13 #[.agg #[.int .i64 s, v]] W fun e w' => e = .returned (.tuple #[.int .i64 (rgZ s l : Int), .int .i64 (z : Int)]) ∧ Below W.heap.size W w') := fun W b => by rw [← Hz.out]; exact FR s l v W (HQ.out W b)
  have H14 : Hid (∀ W, Below w0.heap.size w0 W → Calls Try.prog 14 #[.agg #[.int .i64 s, v]] W fun e w' => (∃ y, e = .returned (.tuple #[y, .int .i64 (z : Int)]) ∧ Rw w' y (ptZ s l)) ∧ Below W.heap.size W w') := fun W b => by rw [← Hz.out]; exact FP s l v W (HQ.out W b)
  obtain ⟨sc, Hsc⟩ : ∃ x, Hid (scZ s l = x) := ⟨_, rfl⟩
  obtain ⟨kg, Hkg⟩ : ∃ x, Hid (kgZ s l = x) := ⟨_, rfl⟩
  obtain ⟨rg, Hrg⟩ : ∃ x, Hid (rgZ s l = x) := ⟨_, rfl⟩
  obtain ⟨pt, Hpt⟩ : ∃ x, Hid (ptZ s l = x) := ⟨_, rfl⟩
  rw [Hsc.out] at H11
  rw [Hkg.out] at H12
  rw [Hrg.out] at H13
  rw [Hpt.out] at H14
  have D9 := H9.out w0 (Below.refl _ _)
  obtain ⟨x0, x1⟩ := HX2.out w0 (Below.refl _ _)
  have hB : Below w0.heap.size w0 w0 := Below.refl _ _
  rw [← Hw0.out] at x0 x1 D9
  have hzz : ((z : Int) != (z : Int)) = false := by simp
  clear HX b1 h
  by_cases hz : z = 0
  · obtain ⟨n, hsn, hg⟩ := tF_ok (by rw [Hz.out]; exact hz)
    subst hsn
    have hzb : ((z : Int) != 0) = false := by simp [hz]
    have h0 : tF (n : Int) l = 0 := by rw [Hz.out]; exact hz
    have hn9 := hg.le
    have k1 : (scT (tB n l) n).map Int.ofNat = sc := by rw [← Hsc.out]; exact (scZ_ok h0).symm
    have k2 : (kgL n (tB n l) n).map Int.ofNat = kg := by rw [← Hkg.out]; exact (kgZ_ok h0).symm
    have k3 : rA n (tB n l) n = rg := by rw [← Hrg.out]; exact (rgZ_ok h0).symm
    have k4 : toZ (ptL n (reB n (tB n l))) = pt := by rw [← Hpt.out]; exact (ptZ_ok h0).symm
    have m1 : sc.length ≤ maxLen := by rw [← k1, List.length_map, scT_len]; unfold maxLen; omega
    have m2 : kg.length ≤ maxLen := by rw [← k2, List.length_map]; have := kgL_small n (tB n l); unfold maxLen; omega
    have m3 : pt.length ≤ maxLen := by
      rw [← k4]
      have h1 := psF_len n (reB n (tB n l)) n
      have h2 : n * n ≤ 9 * 9 := Nat.mul_le_mul hn9 hn9
      have h3 : (toZ (ptL n (reB n (tB n l)))).length = (psF n (reB n (tB n l)) n).length := by unfold toZ ptL; rw [List.length_map]
      rw [h3]
      unfold maxLen
      omega
    have m4 : ∀ q ∈ pt, q.length ≤ maxLen := by
      rw [← k4]
      intro q hq
      obtain ⟨q', hq', rfl⟩ := List.mem_map.1 hq
      unfold ptL psF at hq'
      obtain ⟨i, _, hq'⟩ := List.mem_flatMap.1 hq'
      unfold ptA at hq'
      obtain ⟨a, _, hq'⟩ := List.mem_flatMap.1 hq'
      split at hq'
      · rw [List.mem_singleton] at hq'
        subst hq'
        rw [List.length_map]
        have := ptF_le n (reB n (tB n l)) a n
        unfold maxLen
        omega
      · simp at hq'
    have H15 : Hid (∀ W, Below w0.heap.size w0 W → Calls Try.prog 15 #[.agg #[.int .i64 (n : Int), v]] W fun e w' => (∃ y, e = .returned y ∧ Sl w' y sc) ∧ Below W.heap.size W w') := fun W b => (ScoresOf_any hg v W (HQ.out W b).sl).mono fun e w' ⟨⟨y, h1, h2⟩, h3⟩ => ⟨⟨y, h1, by rw [← k1]; exact h2.sl⟩, h3⟩
    have H16 : Hid (∀ W, Below w0.heap.size w0 W → Calls Try.prog 16 #[.agg #[.int .i64 (n : Int), v]] W fun e w' => (∃ y, e = .returned y ∧ Sl w' y kg) ∧ Below W.heap.size W w') := fun W b => (KingsOf_any hg v W (HQ.out W b).sl).mono fun e w' ⟨⟨y, h1, h2⟩, h3⟩ => ⟨⟨y, h1, by rw [← k2]; exact h2.sl⟩, h3⟩
    have H17 : Hid (∀ W, Below w0.heap.size w0 W → Calls Try.prog 17 #[.agg #[.int .i64 (n : Int), v]] W fun e w' => e = .returned (.int .i64 (rg : Int)) ∧ Below W.heap.size W w') := fun W b => by rw [← k3]; exact RingsOf_any hg v W (HQ.out W b).sl
    have H18 : Hid (∀ W, Below w0.heap.size w0 W → Calls Try.prog 18 #[.agg #[.int .i64 (n : Int), v]] W fun e w' => (∃ y, e = .returned y ∧ Rw w' y pt) ∧ Below W.heap.size W w') := fun W b => by rw [← k4]; exact PartsOf_any hg v W (HQ.out W b).sl
    have H19a : Hid (∀ W x y, Sl W x sc → Sl W y sc → Calls Try.prog 19 #[x, y] W fun e w' => e = .returned (.bool true) ∧ Below W.heap.size W w') := fun W x y hx hy => (ints_any sc sc x y W hx hy m1 m1).mono fun e w' ⟨b, h1, h2, h3⟩ => ⟨by rw [h1, h2.2 rfl], h3⟩
    have H19b : Hid (∀ W x y, Sl W x kg → Sl W y kg → Calls Try.prog 19 #[x, y] W fun e w' => e = .returned (.bool true) ∧ Below W.heap.size W w') := fun W x y hx hy => (ints_any kg kg x y W hx hy m2 m2).mono fun e w' ⟨b, h1, h2, h3⟩ => ⟨by rw [h1, h2.2 rfl], h3⟩
    have H20 : Hid (∀ W x y, Rw W x pt → Rw W y pt → Calls Try.prog 20 #[x, y] W fun e w' => e = .returned (.bool true) ∧ Below W.heap.size W w') := fun W x y hx hy => (Lists_any pt pt x y W hx hy m3 m3 m4 m4).mono fun e w' ⟨b, h1, h2, h3⟩ => ⟨by rw [h1, h2.2 rfl], h3⟩
    have hrr : ((rg : Int) == (rg : Int)) = true := by simp
    clear h0 hg k1 k2 k3 k4 m1 m2 m3 m4 hz
    go_enter Try.func3, Try.ntmps3
    go_wp2_with (first
      | (go_at_call 9; refine D9.mono ?_; rintro e wa ⟨rfl, ba⟩; clear D9; rw [Hw0.out] at ba; clear x0 x1; replace hB := hB.trans (ba.mono hB.size); obtain ⟨x0, x1⟩ := HX2.out wa hB; have D10 := H10.out wa hB)
      | (go_at_call 10; refine D10.mono ?_; rintro e w10 ⟨rfl, bb⟩; clear D10 x0 x1; replace hB := hB.trans (bb.mono hB.size); obtain ⟨x0, x1⟩ := HX2.out w10 hB; have D11 := H11.out w10 hB)
      | (go_at_call 11; refine D11.mono ?_; rintro e w11 ⟨⟨ys, rfl, ysh⟩, bb⟩; clear D11 x0 x1; replace hB := hB.trans (bb.mono hB.size); obtain ⟨x0, x1⟩ := HX2.out w11 hB; obtain ⟨ysa, ysm, ysc, rfl⟩ := sl_form ysh; have D12 := H12.out w11 hB)
      | (go_at_call 12; refine D12.mono ?_; rintro e w12 ⟨⟨yk, rfl, ykh⟩, bb⟩; clear D12 x0 x1; replace hB := hB.trans (bb.mono hB.size); obtain ⟨x0, x1⟩ := HX2.out w12 hB; replace ysh := ysh.below bb; obtain ⟨yka, ykm, ykc, rfl⟩ := sl_form ykh; have D13 := H13.out w12 hB)
      | (go_at_call 13; refine D13.mono ?_; rintro e w13 ⟨rfl, bb⟩; clear D13 x0 x1; replace hB := hB.trans (bb.mono hB.size); obtain ⟨x0, x1⟩ := HX2.out w13 hB; replace ysh := ysh.below bb; replace ykh := ykh.below bb; have D14 := H14.out w13 hB)
      | (go_at_call 14; refine D14.mono ?_; rintro e w14 ⟨⟨yp, rfl, yph⟩, bb⟩; clear D14 x0 x1; replace hB := hB.trans (bb.mono hB.size); obtain ⟨x0, x1⟩ := HX2.out w14 hB; replace ysh := ysh.below bb; replace ykh := ykh.below bb; obtain ⟨ypa, ypm, ypc, rfl⟩ := rw_form yph; have D15 := H15.out w14 hB)
      | (go_at_call 15; refine D15.mono ?_; rintro e w15 ⟨⟨yu, rfl, yuh⟩, bb⟩; clear D15 x0 x1; replace hB := hB.trans (bb.mono hB.size); obtain ⟨x0, x1⟩ := HX2.out w15 hB; replace ysh := ysh.below bb; replace ykh := ykh.below bb; replace yph := yph.below bb; obtain ⟨yua, yum, yuc, rfl⟩ := sl_form yuh; have D16 := H16.out w15 hB)
      | (go_at_call 16; refine D16.mono ?_; rintro e w16 ⟨⟨yv, rfl, yvh⟩, bb⟩; clear D16 x0 x1; replace hB := hB.trans (bb.mono hB.size); obtain ⟨x0, x1⟩ := HX2.out w16 hB; replace ysh := ysh.below bb; replace ykh := ykh.below bb; replace yph := yph.below bb; replace yuh := yuh.below bb; obtain ⟨yva, yvm, yvc, rfl⟩ := sl_form yvh; have D17 := H17.out w16 hB)
      | (go_at_call 17; refine D17.mono ?_; rintro e w17 ⟨rfl, bb⟩; clear D17 x0 x1; replace hB := hB.trans (bb.mono hB.size); obtain ⟨x0, x1⟩ := HX2.out w17 hB; replace ysh := ysh.below bb; replace ykh := ykh.below bb; replace yph := yph.below bb; replace yuh := yuh.below bb; replace yvh := yvh.below bb; have D18 := H18.out w17 hB)
      | (go_at_call 18; refine D18.mono ?_; rintro e w18 ⟨⟨yx, rfl, yxh⟩, bb⟩; clear D18 x0 x1; replace hB := hB.trans (bb.mono hB.size); obtain ⟨x0, x1⟩ := HX2.out w18 hB; replace ysh := ysh.below bb; replace ykh := ykh.below bb; replace yph := yph.below bb; replace yuh := yuh.below bb; replace yvh := yvh.below bb; obtain ⟨yxa, yxm, yxc, rfl⟩ := rw_form yxh; have D19a := H19a.out w18 _ _ ysh yuh)
      | (go_at_call 19; refine D19a.mono ?_; rintro e w19 ⟨rfl, bb⟩; clear D19a x0 x1; replace hB := hB.trans (bb.mono hB.size); obtain ⟨x0, x1⟩ := HX2.out w19 hB; replace ysh := ysh.below bb; replace ykh := ykh.below bb; replace yph := yph.below bb; replace yuh := yuh.below bb; replace yvh := yvh.below bb; replace yxh := yxh.below bb; have D19b := H19b.out w19 _ _ ykh yvh)
      | (go_at_call 19; refine D19b.mono ?_; rintro e w20 ⟨rfl, bb⟩; clear D19b x0 x1; replace hB := hB.trans (bb.mono hB.size); obtain ⟨x0, x1⟩ := HX2.out w20 hB; replace ysh := ysh.below bb; replace ykh := ykh.below bb; replace yph := yph.below bb; replace yuh := yuh.below bb; replace yvh := yvh.below bb; replace yxh := yxh.below bb; have D20 := H20.out w20 _ _ yph yxh)
      | (go_at_call 20; refine D20.mono ?_; rintro e w21 ⟨rfl, bb⟩; clear D20 x0 x1; replace hB := hB.trans (bb.mono hB.size); clear ysh ykh yph yuh yvh yxh))
    go_ret
    exact ⟨rfl, HB0.out _ hB⟩
  · have hzb : ((z : Int) != 0) = true := by simp [hz]
    have hne : tF s l ≠ 0 := by rw [Hz.out]; exact hz
    have k1 : sc = [] := by rw [← Hsc.out]; exact scZ_bad hne
    have k2 : kg = [] := by rw [← Hkg.out]; exact kgZ_bad hne
    have k3 : rg = 0 := by rw [← Hrg.out]; exact rgZ_bad hne
    have k4 : pt = [] := by rw [← Hpt.out]; exact ptZ_bad hne
    subst k1 k2 k3 k4
    clear hne hz
    go_enter Try.func3, Try.ntmps3
    go_wp2_with (first
      | (go_at_call 9; refine D9.mono ?_; rintro e wa ⟨rfl, ba⟩; clear D9; rw [Hw0.out] at ba; clear x0 x1; replace hB := hB.trans (ba.mono hB.size); obtain ⟨x0, x1⟩ := HX2.out wa hB; have D10 := H10.out wa hB)
      | (go_at_call 10; refine D10.mono ?_; rintro e w10 ⟨rfl, bb⟩; clear D10 x0 x1; replace hB := hB.trans (bb.mono hB.size); obtain ⟨x0, x1⟩ := HX2.out w10 hB; have D11 := H11.out w10 hB)
      | (go_at_call 11; refine D11.mono ?_; rintro e w11 ⟨⟨ys, rfl, ysh⟩, bb⟩; clear D11 x0 x1; replace hB := hB.trans (bb.mono hB.size); obtain ⟨x0, x1⟩ := HX2.out w11 hB; obtain ⟨sa, sb, rfl⟩ := sl_len ysh (m := 0) rfl; clear ysh; have D12 := H12.out w11 hB)
      | (go_at_call 12; refine D12.mono ?_; rintro e w12 ⟨⟨yk, rfl, ykh⟩, bb⟩; clear D12 x0 x1; replace hB := hB.trans (bb.mono hB.size); obtain ⟨x0, x1⟩ := HX2.out w12 hB; obtain ⟨ka, kb, rfl⟩ := sl_len ykh (m := 0) rfl; clear ykh; have D13 := H13.out w12 hB)
      | (go_at_call 13; refine D13.mono ?_; rintro e w13 ⟨rfl, bb⟩; clear D13 x0 x1; replace hB := hB.trans (bb.mono hB.size); obtain ⟨x0, x1⟩ := HX2.out w13 hB; have D14 := H14.out w13 hB)
      | (go_at_call 14; refine D14.mono ?_; rintro e w14 ⟨⟨yp, rfl, yph⟩, bb⟩; clear D14 x0 x1; replace hB := hB.trans (bb.mono hB.size); obtain ⟨pa, pb, rfl⟩ := rw_len yph (m := 0) rfl; clear yph))
    go_ret
    exact ⟨rfl, HB0.out _ hB⟩
end Go.Proofs.Ytgkfddcmngodgaa
