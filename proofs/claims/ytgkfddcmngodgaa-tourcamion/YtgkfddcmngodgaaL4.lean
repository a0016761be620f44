/- tourFact and the law TourRedei over the contracts. -/
import Derived.Test.YtgkfddcmngodgaaL1
/- The law TourPaths over the contracts. -/
namespace Go.Proofs.Ytgkfddcmngodgaa
open Go.RowKit

set_option maxRecDepth 100000 in
set_option maxHeartbeats 16000000 in
theorem Paths_law (FA : FPath) (FN : FPaths) (FY : FCycle) (s : Int) (l : List Int) (v : Value) (w : World) (h : SqC w v l) :
    Calls Try.prog 4 #[.agg #[.int .i64 s, v]] w fun e w' => e = .returned (.bool true) ∧ Below w.heap.size w w' := by
  have b1 := balloc w (.cells #[.int .i64 s, v] 24)
  have HX := sq_cells s v w
  obtain ⟨w0, Hw0⟩ : ∃ w0, Hid (w.alloc (.cells #[.int .i64 s, v] 24) = w0) := ⟨_, rfl⟩
  rw [Hw0.out] at b1 HX
  have HX2 : Hid (∀ W, Below w0.heap.size w0 W → W.cell? ⟨w.heap.size, 0, none⟩ = some (.int .i64 s) ∧ W.cell? ⟨w.heap.size, 1, none⟩ = some v) := HX
  have HB0 : Hid (∀ W, Below w0.heap.size w0 W → Below w.heap.size w W) := fun W b => Below.next b1 b
  have HQ : Hid (∀ W, Below w0.heap.size w0 W → SqC W v l) := fun W b => h.below (HB0.out W b)
  obtain ⟨z, Hz⟩ : ∃ z, Hid (tF s l = z) := ⟨_, rfl⟩
  obtain ⟨pl, Hpl⟩ : ∃ x, Hid (plZ s l = x) := ⟨_, rfl⟩
  obtain ⟨pn, Hpn⟩ : ∃ x, Hid (pnZ s l = x) := ⟨_, rfl⟩
  obtain ⟨cy, Hcy⟩ : ∃ x, Hid (cyZ s l = x) := ⟨_, rfl⟩
  obtain ⟨ce, Hce⟩ : ∃ x, Hid (ceT s l = x) := ⟨_, rfl⟩
  have H9 : Hid (∀ W, Below w0.heap.size w0 W → Calls Try.prog 9 #[.agg #[.int .i64 s, v]] W fun e w' => e = .returned (.int .i64 (z : Int)) ∧ Below W.heap.size W w') := fun W b => by rw [← Hz.out]; exact TourFault_any s l v W (HQ.out W b).sl
  have H21 : Hid (∀ W, Below w0.heap.size w0 W → Calls Try.prog 21 #[.agg #[.int .i64 s, v]] W fun e w' => (∃ y, e = .returned (.tuple #[y, .int .i64 (z : Int)]) ∧ Sl w' y pl) ∧ Below W.heap.size W w') := fun W b => by rw [← Hz.out, ← Hpl.out]; exact FA s l v W (HQ.out W b)
  have H22 : Hid (∀ W, Below w0.heap.size w0 W → Calls Try.prog 22 #[.agg #[.int .i64 s, v]] W fun e w' => e = .returned (.tuple #[.int .i64 (pn : Int), .int .i64 (z : Int)]) ∧ Below W.heap.size W w') := fun W b => by rw [← Hz.out, ← Hpn.out]; exact FN s l v W (HQ.out W b)
  have H23 : Hid (∀ W, Below w0.heap.size w0 W → Calls Try.prog 23 #[.agg #[.int .i64 s, v]] W fun e w' => (∃ y, e = .returned (.tuple #[y, .int .i64 (ce : Int)]) ∧ Sl w' y cy) ∧ Below W.heap.size W w') := fun W b => by rw [← Hce.out, ← Hcy.out]; exact FY s l v W (HQ.out W b)
  have D9 := H9.out w0 (Below.refl _ _)
  obtain ⟨x0, x1⟩ := HX2.out w0 (Below.refl _ _)
  have hB : Below w0.heap.size w0 w0 := Below.refl _ _
  rw [← Hw0.out] at x0 x1 D9
  have hzz : ((z : Int) != (z : Int)) = false := by simp
  clear HX b1 h
  by_cases hz : z = 0
  · obtain ⟨n, hsn, hg⟩ := tF_ok (by rw [Hz.out]; exact hz)
    subst hsn
    have hzb : ((z : Int) != 0) = false := by simp [hz]
    have h0 : tF (n : Int) l = 0 := by rw [Hz.out]; exact hz
    have hn1 := hg.one
    have hn9 := hg.le
    have k1 : (paL n (tB n l)).map Int.ofNat = pl := by rw [← Hpl.out]; exact (plZ_ok h0).symm
    have k2 : paN n (tB n l) = pn := by rw [← Hpn.out]; exact (pnZ_ok h0).symm
    have k3 : (if cyN n (tB n l) = 0 then [] else cyL n (tB n l)).map Int.ofNat = cy := by rw [← Hcy.out]; exact (cyZ_ok h0).symm
    have k4 : (if cyN n (tB n l) = 0 then 4 else 0) = ce := by rw [← Hce.out]; exact (ceT_ok h0).symm
    have m1 : pl.length ≤ maxLen := by rw [← k1, List.length_map, (paL_mem hn1 hg.trn).1]; unfold maxLen; omega
    have m2 : cy.length ≤ maxLen := by
      rw [← k3, List.length_map]
      by_cases hc : cyN n (tB n l) = 0
      · rw [if_pos hc]; simp
      · rw [if_neg hc]
        obtain ⟨R, e, hl, _⟩ := (mem_cyA hn1).1 (cyL_mem hc)
        rw [hl]
        unfold maxLen
        omega
    have H24 : Hid (∀ W, Below w0.heap.size w0 W → Calls Try.prog 24 #[.agg #[.int .i64 (n : Int), v]] W fun e w' => (∃ y, e = .returned (.tuple #[.int .i64 (pn : Int), y]) ∧ Sl w' y pl) ∧ Below W.heap.size W w') := fun W b => by rw [← k1, ← k2]; exact PathsOf_any hg v W (HQ.out W b).sl
    have H25 : Hid (∀ W, Below w0.heap.size w0 W → Calls Try.prog 25 #[.agg #[.int .i64 (n : Int), v]] W fun e w' => (∃ y, e = .returned (.tuple #[y, .int .i64 (ce : Int)]) ∧ Sl w' y cy) ∧ Below W.heap.size W w') := fun W b => by
      have h := CycleOf_any hg v W (HQ.out W b).sl
      rw [← k3, ← k4]
      have e : ((if cyN n (tB n l) = 0 then 4 else 0 : Nat) : Int) = if cyN n (tB n l) = 0 then 4 else 0 := by split <;> rfl
      rw [e]
      exact h
    have H19a : Hid (∀ W x y, Sl W x pl → Sl W y pl → Calls Try.prog 19 #[x, y] W fun e w' => e = .returned (.bool true) ∧ Below W.heap.size W w') := fun W x y hx hy => (ints_any pl pl x y W hx hy m1 m1).mono fun e w' ⟨b, h1, h2, h3⟩ => ⟨by rw [h1, h2.2 rfl], h3⟩
    have H19b : Hid (∀ W x y, Sl W x cy → Sl W y cy → Calls Try.prog 19 #[x, y] W fun e w' => e = .returned (.bool true) ∧ Below W.heap.size W w') := fun W x y hx hy => (ints_any cy cy x y W hx hy m2 m2).mono fun e w' ⟨b, h1, h2, h3⟩ => ⟨by rw [h1, h2.2 rfl], h3⟩
    have hnn : ((pn : Int) == (pn : Int)) = true := by simp
    have hee : ((ce : Int) == (ce : Int)) = true := by simp
    clear h0 hg k1 k2 k3 k4 m1 m2 hz hn1 hn9
    go_enter Try.func4, Try.ntmps4
    go_wp2_with (first
      | (go_at_call 9; refine D9.mono ?_; rintro e wa ⟨rfl, ba⟩; clear D9; rw [Hw0.out] at ba; clear x0 x1; replace hB := hB.trans (ba.mono hB.size); obtain ⟨x0, x1⟩ := HX2.out wa hB; have D21 := H21.out wa hB)
      | (go_at_call 21; refine D21.mono ?_; rintro e w21 ⟨⟨yp, rfl, yph⟩, bb⟩; clear D21 x0 x1; replace hB := hB.trans (bb.mono hB.size); obtain ⟨x0, x1⟩ := HX2.out w21 hB; obtain ⟨ypa, ypm, ypc, rfl⟩ := sl_form yph; have D22 := H22.out w21 hB)
      | (go_at_call 22; refine D22.mono ?_; rintro e w22 ⟨rfl, bb⟩; clear D22 x0 x1; replace hB := hB.trans (bb.mono hB.size); obtain ⟨x0, x1⟩ := HX2.out w22 hB; replace yph := yph.below bb; have D23 := H23.out w22 hB)
      | (go_at_call 23; refine D23.mono ?_; rintro e w23 ⟨⟨yc, rfl, ych⟩, bb⟩; clear D23 x0 x1; replace hB := hB.trans (bb.mono hB.size); obtain ⟨x0, x1⟩ := HX2.out w23 hB; replace yph := yph.below bb; obtain ⟨yca, ycm, ycc, rfl⟩ := sl_form ych; have D24 := H24.out w23 hB)
      | (go_at_call 24; refine D24.mono ?_; rintro e w24 ⟨⟨yq, rfl, yqh⟩, bb⟩; clear D24 x0 x1; replace hB := hB.trans (bb.mono hB.size); obtain ⟨x0, x1⟩ := HX2.out w24 hB; replace yph := yph.below bb; replace ych := ych.below bb; obtain ⟨yqa, yqm, yqc, rfl⟩ := sl_form yqh; have D25 := H25.out w24 hB)
      | (go_at_call 25; refine D25.mono ?_; rintro e w25 ⟨⟨yd, rfl, ydh⟩, bb⟩; clear D25 x0 x1; replace hB := hB.trans (bb.mono hB.size); obtain ⟨x0, x1⟩ := HX2.out w25 hB; replace yph := yph.below bb; replace ych := ych.below bb; replace yqh := yqh.below bb; obtain ⟨yda, ydm, ydc, rfl⟩ := sl_form ydh; have D19a := H19a.out w25 _ _ yph yqh)
      | (go_at_call 19; refine D19a.mono ?_; rintro e w19 ⟨rfl, bb⟩; clear D19a x0 x1; replace hB := hB.trans (bb.mono hB.size); obtain ⟨x0, x1⟩ := HX2.out w19 hB; replace yph := yph.below bb; replace ych := ych.below bb; replace yqh := yqh.below bb; replace ydh := ydh.below bb; have D19b := H19b.out w19 _ _ ych ydh)
      | (go_at_call 19; refine D19b.mono ?_; rintro e w20 ⟨rfl, bb⟩; clear D19b x0 x1; replace hB := hB.trans (bb.mono hB.size); clear yph ych yqh ydh))
    go_ret
    exact ⟨rfl, HB0.out _ hB⟩
  · have hzb : ((z : Int) != 0) = true := by simp [hz]
    have hne : tF s l ≠ 0 := by rw [Hz.out]; exact hz
    have k1 : pl = [] := by rw [← Hpl.out]; exact plZ_bad hne
    have k2 : pn = 0 := by rw [← Hpn.out]; exact pnZ_bad hne
    have k3 : cy = [] := by rw [← Hcy.out]; exact cyZ_bad hne
    have k4 : ce = z := by rw [← Hce.out, ceT_bad hne, Hz.out]
    subst k1 k2 k3 k4
    have hee : ((ce : Int) == (ce : Int)) = true := by simp
    clear hne hz
    go_enter Try.func4, Try.ntmps4
    go_wp2_with (first
      | (go_at_call 9; refine D9.mono ?_; rintro e wa ⟨rfl, ba⟩; clear D9; rw [Hw0.out] at ba; clear x0 x1; replace hB := hB.trans (ba.mono hB.size); obtain ⟨x0, x1⟩ := HX2.out wa hB; have D21 := H21.out wa hB)
      | (go_at_call 21; refine D21.mono ?_; rintro e w21 ⟨⟨yp, rfl, yph⟩, bb⟩; clear D21 x0 x1; replace hB := hB.trans (bb.mono hB.size); obtain ⟨x0, x1⟩ := HX2.out w21 hB; obtain ⟨pa, pb, rfl⟩ := sl_len yph (m := 0) rfl; clear yph; have D22 := H22.out w21 hB)
      | (go_at_call 22; refine D22.mono ?_; rintro e w22 ⟨rfl, bb⟩; clear D22 x0 x1; replace hB := hB.trans (bb.mono hB.size); obtain ⟨x0, x1⟩ := HX2.out w22 hB; have D23 := H23.out w22 hB)
      | (go_at_call 23; refine D23.mono ?_; rintro e w23 ⟨⟨yc, rfl, ych⟩, bb⟩; clear D23 x0 x1; replace hB := hB.trans (bb.mono hB.size); obtain ⟨ca, cb, rfl⟩ := sl_len ych (m := 0) rfl; clear ych))
    go_ret
    exact ⟨rfl, HB0.out _ hB⟩
end Go.Proofs.Ytgkfddcmngodgaa

namespace Go.Proofs.Ytgkfddcmngodgaa
open Go.RowKit

theorem t3_f : tF 3 [0, 1, 0, 0, 0, 1, 1, 0, 0] = 0 := by decide +kernel
theorem t3_n : pnZ 3 [0, 1, 0, 0, 0, 1, 1, 0, 0] = 3 := by decide +kernel
theorem t3_r : rgZ 3 [0, 1, 0, 0, 0, 1, 1, 0, 0] = 1 := by decide +kernel
set_option maxRecDepth 100000 in
set_option maxHeartbeats 8000000 in
theorem tourFact_any (FN : FPaths) (FR : FRings) (w : World) : Calls Try.prog 28 #[] w fun e w' => e = .returned (.bool true) ∧ Below w.heap.size w w' := by
  have D31 := ring3_any w
  have H22 : Hid (∀ W y, Sl W y [0, 1, 0, 0, 0, 1, 1, 0, 0] → Calls Try.prog 22 #[.agg #[.int .i64 3, y]] W fun e w' => e = .returned (.tuple #[.int .i64 3, .int .i64 0]) ∧ Below W.heap.size W w') := fun W y hy => by
    have h := FN 3 _ y W ⟨hy, by simp [maxLen]⟩
    rw [t3_f, t3_n] at h
    exact h
  have H13 : Hid (∀ W y, Sl W y [0, 1, 0, 0, 0, 1, 1, 0, 0] → Calls Try.prog 13 #[.agg #[.int .i64 3, y]] W fun e w' => e = .returned (.tuple #[.int .i64 1, .int .i64 0]) ∧ Below W.heap.size W w') := fun W y hy => by
    have h := FR 3 _ y W ⟨hy, by simp [maxLen]⟩
    rw [t3_f, t3_r] at h
    exact h
  go_enter Try.func28, Try.ntmps28
  go_wp2_with (first
    | (go_at_call 39; refine D31.mono ?_; rintro e w1 ⟨⟨y, rfl, hy⟩, b1⟩; clear D31; obtain ⟨ya, ym, yc, rfl⟩ := sl_form hy
       have b2 := balloc w1 (.cells #[.int .i64 3, .slice ya ym yc] 24)
       have HX := sq_cells 3 (.slice ya ym yc) w1
       obtain ⟨x0, x1⟩ := HX _ (Below.refl _ _)
       have hy2 := hy.below b2
       have D22 := H22.out _ _ hy2
       have hB := b1.trans (b2.mono b1.size))
    | (go_at_call 22; refine D22.mono ?_; rintro e w2 ⟨rfl, b3⟩; clear D22 x0 x1
       obtain ⟨x0, x1⟩ := HX w2 b3
       have D13 := H13.out _ _ (hy2.below b3)
       replace hB := hB.trans (b3.mono hB.size))
    | (go_at_call 13; refine D13.mono ?_; rintro e w3 ⟨rfl, b4⟩; clear D13 x0 x1; replace hB := hB.trans (b4.mono hB.size)))
  go_ret
  exact ⟨rfl, hB⟩
set_option maxRecDepth 100000 in
set_option maxHeartbeats 16000000 in
theorem Redei_law (FA : FPath) (FN : FPaths) (FR : FRings) (s : Int) (l : List Int) (v : Value) (w : World) (h : SqC w v l) :
    Calls Try.prog 6 #[.agg #[.int .i64 s, v]] w fun e w' => e = .returned (.bool true) ∧ Below w.heap.size w w' := by
  have b1 := balloc w (.cells #[.int .i64 s, v] 24)
  have HX := sq_cells s v w
  obtain ⟨w0, Hw0⟩ : ∃ w0, Hid (w.alloc (.cells #[.int .i64 s, v] 24) = w0) := ⟨_, rfl⟩
  rw [Hw0.out] at b1 HX
  have HX2 : Hid (∀ W, Below w0.heap.size w0 W → W.cell? ⟨w.heap.size, 0, none⟩ = some (.int .i64 s) ∧ W.cell? ⟨w.heap.size, 1, none⟩ = some v) := HX
  have HB0 : Hid (∀ W, Below w0.heap.size w0 W → Below w.heap.size w W) := fun W b => Below.next b1 b
  have HQ : Hid (∀ W, Below w0.heap.size w0 W → SqC W v l) := fun W b => h.below (HB0.out W b)
  obtain ⟨z, Hz⟩ : ∃ z, Hid (tF s l = z) := ⟨_, rfl⟩
  obtain ⟨pl, Hpl⟩ : ∃ x, Hid (plZ s l = x) := ⟨_, rfl⟩
  obtain ⟨pn, Hpn⟩ : ∃ x, Hid (pnZ s l = x) := ⟨_, rfl⟩
  have H21 : Hid (∀ W, Below w0.heap.size w0 W → Calls Try.prog 21 #[.agg #[.int .i64 s, v]] W fun e w' => (∃ y, e = .returned (.tuple #[y, .int .i64 (z : Int)]) ∧ Sl w' y pl) ∧ Below W.heap.size W w') := fun W b => by rw [← Hz.out, ← Hpl.out]; exact FA s l v W (HQ.out W b)
  have H22 : Hid (∀ W, Below w0.heap.size w0 W → Calls Try.prog 22 #[.agg #[.int .i64 s, v]] W fun e w' => e = .returned (.tuple #[.int .i64 (pn : Int), .int .i64 (z : Int)]) ∧ Below W.heap.size W w') := fun W b => by rw [← Hz.out, ← Hpn.out]; exact FN s l v W (HQ.out W b)
  have D28 := tourFact_any FN FR w0
  have hB : Below w0.heap.size w0 w0 := Below.refl _ _
  rw [← Hw0.out] at D28
  clear HX b1 h
  by_cases hz : z = 0
  · obtain ⟨n, hsn, hg⟩ := tF_ok (by rw [Hz.out]; exact hz)
    subst hsn
    have h0 : tF (n : Int) l = 0 := by rw [Hz.out]; exact hz
    have hn1 := hg.one
    have hn9 := hg.le
    obtain ⟨hPl, hPw⟩ := paL_mem hn1 hg.trn
    have hodd := paN_odd hn1 hg.trn
    have kp : paL n (tB n l) = paL n (tB n l) := rfl
    obtain ⟨M, HM⟩ : ∃ M, Hid (paL n (tB n l) = M) := ⟨_, rfl⟩
    have k1 : M.map Int.ofNat = pl := by rw [← Hpl.out, plZ_ok h0, HM.out]
    have k2 : paN n (tB n l) = pn := by rw [← Hpn.out]; exact (pnZ_ok h0).symm
    rw [k2] at hodd
    rw [HM.out] at hPl hPw
    subst hz
    subst k1
    have hrem : ((pn : Int).tmod 2 != 1) = false := by rw [Int.tmod_eq_emod_of_nonneg (by omega)]; simp; omega
    have hrem2 : ((pn : Int) % 2 != 1) = false := by simp; omega
    have HCH : Hid (∀ i, 1 ≤ i → i < n → M.getD (i - 1) 0 < n ∧ M.getD i 0 < n ∧ tB n l (M.getD (i - 1) 0) (M.getD i 0) = true) := fun i h1 hi => by
      have lt : ∀ j, j < n → M.getD j 0 < n := fun j hj => by
        rw [List.getD_eq_getElem?_getD, List.getElem?_eq_getElem (by omega)]
        exact hPw.lt _ (List.getElem_mem _)
      refine ⟨lt _ (by omega), lt _ hi, ?_⟩
      have := chn_at (i := i - 1) hPw.ch (by omega)
      rwa [show i - 1 + 1 = i by omega] at this
    have HBE : Hid (∀ W, Below w0.heap.size w0 W → ∀ a b, a < n → b < n → Calls Try.prog 29 #[.agg #[.int .i64 (n : Int), v], .int .i64 (a : Int), .int .i64 (b : Int)] W fun e w' => e = .returned (.bool (tB n l a b)) ∧ Below W.heap.size W w') := fun W bW a b ha hb => Beats_any hg v W (HQ.out W bW).sl ha hb
    have HML : Hid (M.length = n) := hPl
    clear h0 hg k2 hodd hPl hPw kp
    go_enter Try.func6, Try.ntmps6
    go_wp2_with (first
      | (go_at_call 28; refine D28.mono ?_; rintro e wa ⟨rfl, ba⟩; clear D28; rw [Hw0.out] at ba; replace hB := hB.trans (ba.mono hB.size); obtain ⟨x0, x1⟩ := HX2.out wa hB; have D22 := H22.out wa hB)
      | (go_at_call 22; refine D22.mono ?_; rintro e wb ⟨rfl, bb⟩; clear D22 x0 x1; replace hB := hB.trans (bb.mono hB.size); obtain ⟨x0, x1⟩ := HX2.out wb hB; have D21 := H21.out wb hB)
      | (go_at_call 21; refine D21.mono ?_; rintro e wc ⟨⟨y, rfl, hy⟩, bb⟩; clear D21 x0 x1; replace hB := hB.trans (bb.mono hB.size); obtain ⟨x0, x1⟩ := HX2.out wc hB
         obtain ⟨pb, po, pc, rfl, hC⟩ := li_cells hy (by rw [HML.out]; omega)
         have HC : Hid (∀ W, Below wc.heap.size wc W → ∀ j, j < M.length → W.cell? ⟨pb, po + j, none⟩ = some (.int .i64 ((M.getD j 0 : Nat) : Int))) := hC
         have HBC : Hid (Below w0.heap.size w0 wc) := hB
         rw [HML.out] at HC ⊢
         clear hC hy))
    go_loopw [7] (fun iv wr => ∃ i : Nat, iv = .int .i64 (i : Int) ∧ 1 ≤ i ∧ i ≤ n ∧ Below wc.heap.size wc wr) (fun iv _ => (n - intOf iv).toNat)
    case atStart => exact ⟨1, rfl, Nat.le_refl _, hn1, Below.refl _ _⟩
    case round =>
      clear x0 x1
      obtain ⟨i, rfl, hi1, hin, hBr⟩ := hrel
      have hBW : Below w0.heap.size w0 wr := HBC.out.trans (hBr.mono HBC.out.size)
      obtain ⟨x0, x1⟩ := HX2.out wr hBW
      by_cases hli : i < n
      · have hdi : decide ((i : Int) < (n : Int)) = true := by simp; omega
        have hii : (i : Int) < (n : Int) := by omega
        obtain ⟨c1, c2, c3⟩ := HCH.out i hi1 hli
        obtain ⟨m, Hm⟩ : ∃ m, Hid (i - 1 = m) := ⟨_, rfl⟩
        have hmi : (i : Int) - 1 = (m : Int) := by rw [← Hm.out]; omega
        have hmn : m < n := by rw [← Hm.out]; omega
        have hmni : (m : Int) < (n : Int) := by omega
        have hwm : IntKind.i64.wrap (m : Int) = (m : Int) := by rw [IntKind.wrap_i64]; omega
        have e1 := HC.out wr hBr m hmn
        have e2 := HC.out wr hBr i hli
        rw [Hm.out] at c1 c3
        obtain ⟨p, Hp⟩ : ∃ p, Hid (M.getD m 0 = p) := ⟨_, rfl⟩
        obtain ⟨q, Hq⟩ : ∃ q, Hid (M.getD i 0 = q) := ⟨_, rfl⟩
        rw [Hp.out] at c1 c3 e1
        rw [Hq.out] at c2 c3 e2
        have C := HBE.out wr.drew hBW.drew p q c1 c2
        rw [c3] at C
        have hSA : wr.drew.cell? ⟨w.heap.size, 0, none⟩ = some (.int .i64 (n : Int)) ∧ wr.drew.cell? ⟨w.heap.size, 1, none⟩ = some v ∧ wr.drew.cell? ⟨pb, po + m, none⟩ = some (.int .i64 (p : Int)) ∧ wr.drew.cell? ⟨pb, po + i, none⟩ = some (.int .i64 (q : Int)) := ⟨x0, x1, e1, e2⟩
        have HK5 : Hid (∀ w5, Below wr.drew.heap.size wr.drew w5 → w5.cell? ⟨w.heap.size, 0, none⟩ = some (.int .i64 (n : Int)) ∧ w5.cell? ⟨w.heap.size, 1, none⟩ = some v ∧ w5.cell? ⟨pb, po + m, none⟩ = some (.int .i64 (p : Int)) ∧ w5.cell? ⟨pb, po + i, none⟩ = some (.int .i64 (q : Int))) := fun w5 b5 => ⟨(b5.cell (World.block_lt_of_cell? _ _ hSA.1)).trans hSA.1, (b5.cell (World.block_lt_of_cell? _ _ hSA.2.1)).trans hSA.2.1, (b5.cell (World.block_lt_of_cell? _ _ hSA.2.2.1)).trans hSA.2.2.1, (b5.cell (World.block_lt_of_cell? _ _ hSA.2.2.2)).trans hSA.2.2.2⟩
        have HBD : Hid (Below wc.heap.size wc wr.drew) := hBr.drew
        clear x0 x1 e1 e2 c1 c2 c3 hBr hBW
        go_wp2_with fail
        go_region_held3 (fun W : World => W.cell? ⟨w.heap.size, 0, none⟩ = some (.int .i64 (n : Int)) ∧ W.cell? ⟨w.heap.size, 1, none⟩ = some v ∧ W.cell? ⟨pb, po + m, none⟩ = some (.int .i64 (p : Int)) ∧ W.cell? ⟨pb, po + i, none⟩ = some (.int .i64 (q : Int))) (first | assumption) (first | (go_at_call 29; refine C.mono ?_; rintro e w5 ⟨rfl, b5⟩; have hS5 := HK5.out w5 b5; have hB5 := HBD.out.trans (b5.mono HBD.out.size); clear C))
        go_wp2
        go_roundw
        case rel => exact ⟨i + 1, by go_num, by omega, by omega, hB5⟩
        case measure => simp [intOf]; omega
      · have hdi : decide ((i : Int) < (n : Int)) = false := by simp; omega
        have hdin : decide (i < n) = false := by simp; omega
        go_wp2
        go_ret
        exact ⟨rfl, HB0.out _ hBW⟩
  · have hzb : ((z : Int) != 0) = true := by simp [hz]
    clear hz
    go_enter Try.func6, Try.ntmps6
    go_wp2_with (first
      | (go_at_call 28; refine D28.mono ?_; rintro e wa ⟨rfl, ba⟩; clear D28; rw [Hw0.out] at ba; replace hB := hB.trans (ba.mono hB.size); obtain ⟨x0, x1⟩ := HX2.out wa hB; have D22 := H22.out wa hB)
      | (go_at_call 22; refine D22.mono ?_; rintro e wb ⟨rfl, bb⟩; clear D22 x0 x1; replace hB := hB.trans (bb.mono hB.size)))
    go_ret
    exact ⟨rfl, HB0.out _ hB⟩
end Go.Proofs.Ytgkfddcmngodgaa
