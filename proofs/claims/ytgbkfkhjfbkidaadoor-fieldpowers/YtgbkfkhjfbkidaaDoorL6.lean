/- The law FieldPowers, walked: inverse, powers, logarithm and trace of any element. -/
import Derived.Test.YtgbkfkhjfbkidaaDoorW26
import Derived.Test.YtgbkfkhjfbkidaaDoorW28
namespace Go.Proofs.YtgbkfkhjfbkidaaDoor
open Go.RowKit

theorem inL_one (q a : Int) : inL q [a] ↔ inB q a = true := by
  rw [inB_iff]
  constructor
  · intro h
    exact h 0 (by simp)
  · intro h j hj
    have : j = 0 := by simp at hj; omega
    subst this
    exact h

set_option maxRecDepth 100000 in
set_option maxHeartbeats 4000000 in
theorem law6_any (p k a n : Int) (l : List Int) (v : Value) (w : World) (hT : Tab w) (hl : Sl w v l) (hll : l.length ≤ maxLen) (hn' : n ≤ 9223372036854775807) :
    Calls Tryd.prog 6 #[.agg #[.int .i64 p, .int .i64 k, v], .int .i64 a, .int .i64 n] w fun e w' => e = .returned (.bool true) ∧ Below w.heap.size w w' := by
  obtain ⟨A, ca, rfl, _⟩ := id hl
  have hF0 := FB.made w p k (.slice A l.length ca)
  have hB0 : Below w.heap.size w (w.alloc (.cells #[.int .i64 p, .int .i64 k, .slice A l.length ca] 24)) := (Below.refl _ _).alloc (Nat.le_refl _) _
  go_enter Tryd.func6, Tryd.ntmps6
  go_wp2_with fail
  refine (fault_any p k l _ _ (hl.below hB0)).mono ?_
  rintro e w1 ⟨ze, rfl, hze, hb1⟩
  have hF1 := hF0.below hb1
  have hB1 : Below w.heap.size w w1 := hB0.trans (hb1.mono hB0.size)
  have hc1 := hF1.cells
  have HZ : Hid (FaultIs p k l ze) := hze
  clear hze hF0 hB0 hb1
  by_cases h0 : ze = 0
  · subst h0
    by_cases hin : inB (ordZ p k) a = true
    · obtain ⟨P, K, rfl, rfl, hG⟩ := good_of HZ.out
      have hq := hG.ord
      have hR := hG.field.toRing1
      have ha0 := (inB_iff _ _).1 hin
      rw [hq] at ha0
      obtain ⟨b, rfl⟩ := Int.eq_ofNat_of_zero_le ha0.1
      have hb : b < P ^ K := by omega
      clear ha0
      by_cases hn : n < 0
      · have hnb : decide (n < 0) = true := by simp; omega
        by_cases hz : b = 0
        · subst hz
          go_wp2_with fail
          refine (Inv_zero P K l _ _ (hT.below hB1) (hl.below hB1) hll hG).mono ?_
          rintro e w2 ⟨rfl, hb2⟩
          have hF2 := hF1.below hb2
          have hB2 : Below w.heap.size w w2 := hB1.trans (hb2.mono hB1.size)
          have hc2 := hF2.cells
          clear hF1 hc1 hb2
          go_wp2_with fail
          refine (Pow_neg P K 0 n l _ _ (hT.below hB2) (hl.below hB2) hll hG hb hn).mono ?_
          rintro e w3 ⟨rfl, hb3⟩
          have hF3 := hF2.below hb3
          have hB3 : Below w.heap.size w w3 := hB2.trans (hb3.mono hB2.size)
          have hc3 := hF3.cells
          clear hF2 hc2 hb3
          go_wp2_with fail
          refine (Log_zero P K l _ _ (hT.below hB3) (hl.below hB3) hll hG).mono ?_
          rintro e w4 ⟨rfl, hb4⟩
          have hF4 := hF3.below hb4
          have hB4 : Below w.heap.size w w4 := hB3.trans (hb4.mono hB3.size)
          have hc4 := hF4.cells
          clear hF3 hc3 hb4
          go_wp2_with fail
          refine (TraceG P K 0 l _ _ (hT.below hB4) (hl.below hB4) hll hG hb).mono ?_
          rintro e w5 ⟨t, rfl, Ht, hb5⟩
          have hF5 := hF4.below hb5
          have hB5 : Below w.heap.size w w5 := hB4.trans (hb5.mono hB4.size)
          have hc5 := hF5.cells
          clear hF4 hc4 hb5
          go_wp2_with fail
          refine (in_any P K ((0 : Nat) : Int) A l.length ca _).mono ?_
          rintro e w6 ⟨rfl, hb6⟩
          have hF6 := hF5.below hb6
          have hB6 : Below w.heap.size w w6 := hB5.trans (hb6.mono hB5.size)
          have hc6 := hF6.cells
          clear hF5 hc5 hb6
          rw [hin]
          go_wp2_with fail
          refine (traceOf_any P K 0 l _ _ (hl.below hB6) hG hb).mono ?_
          rintro e w7 ⟨t', rfl, Ht', hb7⟩
          have hF7 := hF6.below hb7
          have hB7 : Below w.heap.size w w7 := hB6.trans (hb7.mono hB6.size)
          have hc7 := hF7.cells
          clear hF6 hc6 hb7
          obtain rfl : t' = t := by rw [Ht.out, Ht'.out]
          have htt : ((t' : Int) != (t' : Int)) = false := by simp
          clear Ht Ht'
          go_wp2
          go_ret
          exact ⟨ret_bool rfl, hB7⟩
        · have hb1 : 1 ≤ b := by omega
          obtain ⟨i, Hi⟩ : ∃ i, Hid (i = powQ P K (monL l) b (P ^ K - 2)) := ⟨_, rfl⟩
          have hbb : ((b : Int) == 0) = false := by simp; omega
          go_wp2_with fail
          refine (InvG P K b l _ _ (hT.below hB1) (hl.below hB1) hll hG hb hb1 i Hi).mono ?_
          rintro e w2 ⟨rfl, hb2⟩
          have hF2 := hF1.below hb2
          have hB2 : Below w.heap.size w w2 := hB1.trans (hb2.mono hB1.size)
          have hc2 := hF2.cells
          clear hF1 hc1 hb2
          go_wp2_with fail
          refine (Pow_neg P K b n l _ _ (hT.below hB2) (hl.below hB2) hll hG hb hn).mono ?_
          rintro e w3 ⟨rfl, hb3⟩
          have hF3 := hF2.below hb3
          have hB3 : Below w.heap.size w w3 := hB2.trans (hb3.mono hB2.size)
          have hc3 := hF3.cells
          clear hF2 hc2 hb3
          go_wp2_with fail
          refine (LogG P K b l _ _ (hT.below hB3) (hl.below hB3) hll hG hb hb1).mono ?_
          rintro e w4 ⟨r, g, rfl, hrt, hlg, hb4⟩
          have hF4 := hF3.below hb4
          have hB4 : Below w.heap.size w w4 := hB3.trans (hb4.mono hB3.size)
          have hc4 := hF4.cells
          clear hF3 hc3 hb4
          have HRT : Hid (RootIs P K (monL l) r) := hrt
          have HLG : Hid (LogIs P K (monL l) r b g) := hlg
          clear hrt hlg
          go_wp2_with fail
          refine (TraceG P K b l _ _ (hT.below hB4) (hl.below hB4) hll hG hb).mono ?_
          rintro e w5 ⟨t, rfl, Ht, hb5⟩
          have hF5 := hF4.below hb5
          have hB5 : Below w.heap.size w w5 := hB4.trans (hb5.mono hB4.size)
          have hc5 := hF5.cells
          clear hF4 hc4 hb5
          go_wp2_with fail
          refine (in_any P K ((b : Nat) : Int) A l.length ca _).mono ?_
          rintro e w6 ⟨rfl, hb6⟩
          have hF6 := hF5.below hb6
          have hB6 : Below w.heap.size w w6 := hB5.trans (hb6.mono hB5.size)
          have hc6 := hF6.cells
          clear hF5 hc5 hb6
          rw [hin]
          go_wp2_with fail
          refine (traceOf_any P K b l _ _ (hl.below hB6) hG hb).mono ?_
          rintro e w7 ⟨t', rfl, Ht', hb7⟩
          have hF7 := hF6.below hb7
          have hB7 : Below w.heap.size w w7 := hB6.trans (hb7.mono hB6.size)
          have hc7 := hF7.cells
          clear hF6 hc6 hb7
          obtain rfl : t' = t := by rw [Ht.out, Ht'.out]
          have htt : ((t' : Int) != (t' : Int)) = false := by simp
          clear Ht Ht'
          go_wp2_with fail
          refine (inverse_any P K b l _ _ (hl.below hB7) hG hb1 hb i Hi).mono ?_
          rintro e w8 ⟨rfl, hb8⟩
          have hF8 := hF7.below hb8
          have hB8 : Below w.heap.size w w8 := hB7.trans (hb8.mono hB7.size)
          have hc8 := hF8.cells
          clear hF7 hc7 hb8
          have hii : ((i : Int) == (i : Int)) = true := by simp
          go_wp2_with fail
          refine (logOf_any P K b l _ _ (hl.below hB8) hG hb1 hb).mono ?_
          rintro e w9 ⟨r', g', rfl, hrt', hlg', hb9⟩
          have hF9 := hF8.below hb9
          have hB9 : Below w.heap.size w w9 := hB8.trans (hb9.mono hB8.size)
          have hc9 := hF9.cells
          clear hF8 hc8 hb9
          obtain rfl : r' = r := hrt'.one HRT.out
          obtain rfl : g' = g := hlg'.one HLG.out
          have hgg : ((g' : Int) == (g' : Int)) = true := by simp
          clear hrt' hlg'
          go_wp2
          go_ret
          exact ⟨ret_bool rfl, hB9⟩
      · have hnb : decide (n < 0) = false := by simp; omega
        by_cases hz : b = 0
        · subst hz
          obtain ⟨y, Hy⟩ : ∃ y, Hid (y = powQ P K (monL l) 0 n.toNat) := ⟨_, rfl⟩
          go_wp2_with fail
          refine (Inv_zero P K l _ _ (hT.below hB1) (hl.below hB1) hll hG).mono ?_
          rintro e w2 ⟨rfl, hb2⟩
          have hF2 := hF1.below hb2
          have hB2 : Below w.heap.size w w2 := hB1.trans (hb2.mono hB1.size)
          have hc2 := hF2.cells
          clear hF1 hc1 hb2
          go_wp2_with fail
          refine (PowG P K 0 n l _ _ (hT.below hB2) (hl.below hB2) hll hG hb (by omega) hn' y Hy).mono ?_
          rintro e w3 ⟨rfl, hb3⟩
          have hF3 := hF2.below hb3
          have hB3 : Below w.heap.size w w3 := hB2.trans (hb3.mono hB2.size)
          have hc3 := hF3.cells
          clear hF2 hc2 hb3
          go_wp2_with fail
          refine (Log_zero P K l _ _ (hT.below hB3) (hl.below hB3) hll hG).mono ?_
          rintro e w4 ⟨rfl, hb4⟩
          have hF4 := hF3.below hb4
          have hB4 : Below w.heap.size w w4 := hB3.trans (hb4.mono hB3.size)
          have hc4 := hF4.cells
          clear hF3 hc3 hb4
          go_wp2_with fail
          refine (TraceG P K 0 l _ _ (hT.below hB4) (hl.below hB4) hll hG hb).mono ?_
          rintro e w5 ⟨t, rfl, Ht, hb5⟩
          have hF5 := hF4.below hb5
          have hB5 : Below w.heap.size w w5 := hB4.trans (hb5.mono hB4.size)
          have hc5 := hF5.cells
          clear hF4 hc4 hb5
          go_wp2_with fail
          refine (in_any P K ((0 : Nat) : Int) A l.length ca _).mono ?_
          rintro e w6 ⟨rfl, hb6⟩
          have hF6 := hF5.below hb6
          have hB6 : Below w.heap.size w w6 := hB5.trans (hb6.mono hB5.size)
          have hc6 := hF6.cells
          clear hF5 hc5 hb6
          rw [hin]
          go_wp2_with fail
          refine (traceOf_any P K 0 l _ _ (hl.below hB6) hG hb).mono ?_
          rintro e w7 ⟨t', rfl, Ht', hb7⟩
          have hF7 := hF6.below hb7
          have hB7 : Below w.heap.size w w7 := hB6.trans (hb7.mono hB6.size)
          have hc7 := hF7.cells
          clear hF6 hc6 hb7
          obtain rfl : t' = t := by rw [Ht.out, Ht'.out]
          have htt : ((t' : Int) != (t' : Int)) = false := by simp
          clear Ht Ht'
          go_wp2_with fail
          refine (power_any P K 0 n l _ _ (hl.below hB7) hG hb (by omega) hn' y Hy).mono ?_
          rintro e w8 ⟨rfl, hb8⟩
          have hF8 := hF7.below hb8
          have hB8 : Below w.heap.size w w8 := hB7.trans (hb8.mono hB7.size)
          have hc8 := hF8.cells
          clear hF7 hc7 hb8
          have hyy : ((y : Int) != (y : Int)) = false := by simp
          go_wp2
          go_ret
          exact ⟨ret_bool rfl, hB8⟩
        · have hb1 : 1 ≤ b := by omega
          obtain ⟨y, Hy⟩ : ∃ y, Hid (y = powQ P K (monL l) b n.toNat) := ⟨_, rfl⟩
          obtain ⟨i, Hi⟩ : ∃ i, Hid (i = powQ P K (monL l) b (P ^ K - 2)) := ⟨_, rfl⟩
          have hbb : ((b : Int) == 0) = false := by simp; omega
          go_wp2_with fail
          refine (InvG P K b l _ _ (hT.below hB1) (hl.below hB1) hll hG hb hb1 i Hi).mono ?_
          rintro e w2 ⟨rfl, hb2⟩
          have hF2 := hF1.below hb2
          have hB2 : Below w.heap.size w w2 := hB1.trans (hb2.mono hB1.size)
          have hc2 := hF2.cells
          clear hF1 hc1 hb2
          go_wp2_with fail
          refine (PowG P K b n l _ _ (hT.below hB2) (hl.below hB2) hll hG hb (by omega) hn' y Hy).mono ?_
          rintro e w3 ⟨rfl, hb3⟩
          have hF3 := hF2.below hb3
          have hB3 : Below w.heap.size w w3 := hB2.trans (hb3.mono hB2.size)
          have hc3 := hF3.cells
          clear hF2 hc2 hb3
          go_wp2_with fail
          refine (LogG P K b l _ _ (hT.below hB3) (hl.below hB3) hll hG hb hb1).mono ?_
          rintro e w4 ⟨r, g, rfl, hrt, hlg, hb4⟩
          have hF4 := hF3.below hb4
          have hB4 : Below w.heap.size w w4 := hB3.trans (hb4.mono hB3.size)
          have hc4 := hF4.cells
          clear hF3 hc3 hb4
          have HRT : Hid (RootIs P K (monL l) r) := hrt
          have HLG : Hid (LogIs P K (monL l) r b g) := hlg
          clear hrt hlg
          go_wp2_with fail
          refine (TraceG P K b l _ _ (hT.below hB4) (hl.below hB4) hll hG hb).mono ?_
          rintro e w5 ⟨t, rfl, Ht, hb5⟩
          have hF5 := hF4.below hb5
          have hB5 : Below w.heap.size w w5 := hB4.trans (hb5.mono hB4.size)
          have hc5 := hF5.cells
          clear hF4 hc4 hb5
          go_wp2_with fail
          refine (in_any P K ((b : Nat) : Int) A l.length ca _).mono ?_
          rintro e w6 ⟨rfl, hb6⟩
          have hF6 := hF5.below hb6
          have hB6 : Below w.heap.size w w6 := hB5.trans (hb6.mono hB5.size)
          have hc6 := hF6.cells
          clear hF5 hc5 hb6
          rw [hin]
          go_wp2_with fail
          refine (traceOf_any P K b l _ _ (hl.below hB6) hG hb).mono ?_
          rintro e w7 ⟨t', rfl, Ht', hb7⟩
          have hF7 := hF6.below hb7
          have hB7 : Below w.heap.size w w7 := hB6.trans (hb7.mono hB6.size)
          have hc7 := hF7.cells
          clear hF6 hc6 hb7
          obtain rfl : t' = t := by rw [Ht.out, Ht'.out]
          have htt : ((t' : Int) != (t' : Int)) = false := by simp
          clear Ht Ht'
          go_wp2_with fail
          refine (power_any P K b n l _ _ (hl.below hB7) hG hb (by omega) hn' y Hy).mono ?_
          rintro e w8 ⟨rfl, hb8⟩
          have hF8 := hF7.below hb8
          have hB8 : Below w.heap.size w w8 := hB7.trans (hb8.mono hB7.size)
          have hc8 := hF8.cells
          clear hF7 hc7 hb8
          have hyy : ((y : Int) != (y : Int)) = false := by simp
          go_wp2_with fail
          refine (inverse_any P K b l _ _ (hl.below hB8) hG hb1 hb i Hi).mono ?_
          rintro e w9 ⟨rfl, hb9⟩
          have hF9 := hF8.below hb9
          have hB9 : Below w.heap.size w w9 := hB8.trans (hb9.mono hB8.size)
          have hc9 := hF9.cells
          clear hF8 hc8 hb9
          have hii : ((i : Int) == (i : Int)) = true := by simp
          go_wp2_with fail
          refine (logOf_any P K b l _ _ (hl.below hB9) hG hb1 hb).mono ?_
          rintro e w10 ⟨r', g', rfl, hrt', hlg', hb10⟩
          have hF10 := hF9.below hb10
          have hB10 : Below w.heap.size w w10 := hB9.trans (hb10.mono hB9.size)
          have hc10 := hF10.cells
          clear hF9 hc9 hb10
          obtain rfl : r' = r := hrt'.one HRT.out
          obtain rfl : g' = g := hlg'.one HLG.out
          have hgg : ((g' : Int) == (g' : Int)) = true := by simp
          clear hrt' hlg'
          go_wp2
          go_ret
          exact ⟨ret_bool rfl, hB10⟩
    · have hinb : inB (ordZ p k) a = false := by simpa using hin
      have HO : Hid (OpenIs p k l [a] 1) := .inr (.inl ⟨HZ.out, fun h => hin ((inL_one _ _).1 h), rfl⟩)
      go_wp2_with fail
      refine (Inv_bad p k a l _ _ (hT.below hB1) (hl.below hB1) hll 1 HO.out (by decide)).mono ?_
      rintro e w2 ⟨rfl, hb2⟩
      have hF2 := hF1.below hb2
      have hB2 : Below w.heap.size w w2 := hB1.trans (hb2.mono hB1.size)
      have hc2 := hF2.cells
      clear hF1 hc1 hb2
      go_wp2_with fail
      refine (Pow_bad p k a n l _ _ (hT.below hB2) (hl.below hB2) hll 1 HO.out (by decide)).mono ?_
      rintro e w3 ⟨rfl, hb3⟩
      have hF3 := hF2.below hb3
      have hB3 : Below w.heap.size w w3 := hB2.trans (hb3.mono hB2.size)
      have hc3 := hF3.cells
      clear hF2 hc2 hb3
      go_wp2_with fail
      refine (Log_bad p k a l _ _ (hT.below hB3) (hl.below hB3) hll 1 HO.out (by decide)).mono ?_
      rintro e w4 ⟨rfl, hb4⟩
      have hF4 := hF3.below hb4
      have hB4 : Below w.heap.size w w4 := hB3.trans (hb4.mono hB3.size)
      have hc4 := hF4.cells
      clear hF3 hc3 hb4
      go_wp2_with fail
      refine (Trace_bad p k a l _ _ (hT.below hB4) (hl.below hB4) hll 1 HO.out (by decide)).mono ?_
      rintro e w5 ⟨rfl, hb5⟩
      have hF5 := hF4.below hb5
      have hB5 : Below w.heap.size w w5 := hB4.trans (hb5.mono hB4.size)
      have hc5 := hF5.cells
      clear hF4 hc4 hb5
      go_wp2_with fail
      refine (in_any p k a A l.length ca _).mono ?_
      rintro e w6 ⟨rfl, hb6⟩
      have hF6 := hF5.below hb6
      have hB6 : Below w.heap.size w w6 := hB5.trans (hb6.mono hB5.size)
      have hc6 := hF6.cells
      clear hF5 hc5 hb6
      rw [hinb]
      go_wp2
      go_ret
      exact ⟨ret_bool rfl, hB6⟩
  · have HO : Hid (OpenIs p k l [a] ze) := .inl ⟨h0, HZ.out⟩
    have hzb : (ze == 0) = false := by simpa using h0
    have hzb2 : (ze != 0) = true := by simpa using h0
    have hzz : (ze == ze) = true := by simp
    go_wp2_with fail
    refine (Inv_bad p k a l _ _ (hT.below hB1) (hl.below hB1) hll ze HO.out h0).mono ?_
    rintro e w2 ⟨rfl, hb2⟩
    have hF2 := hF1.below hb2
    have hB2 : Below w.heap.size w w2 := hB1.trans (hb2.mono hB1.size)
    have hc2 := hF2.cells
    clear hF1 hc1 hb2
    go_wp2_with fail
    refine (Pow_bad p k a n l _ _ (hT.below hB2) (hl.below hB2) hll ze HO.out h0).mono ?_
    rintro e w3 ⟨rfl, hb3⟩
    have hF3 := hF2.below hb3
    have hB3 : Below w.heap.size w w3 := hB2.trans (hb3.mono hB2.size)
    have hc3 := hF3.cells
    clear hF2 hc2 hb3
    go_wp2_with fail
    refine (Log_bad p k a l _ _ (hT.below hB3) (hl.below hB3) hll ze HO.out h0).mono ?_
    rintro e w4 ⟨rfl, hb4⟩
    have hF4 := hF3.below hb4
    have hB4 : Below w.heap.size w w4 := hB3.trans (hb4.mono hB3.size)
    have hc4 := hF4.cells
    clear hF3 hc3 hb4
    go_wp2_with fail
    refine (Trace_bad p k a l _ _ (hT.below hB4) (hl.below hB4) hll ze HO.out h0).mono ?_
    rintro e w5 ⟨rfl, hb5⟩
    have hF5 := hF4.below hb5
    have hB5 : Below w.heap.size w w5 := hB4.trans (hb5.mono hB4.size)
    have hc5 := hF5.cells
    clear hF4 hc4 hb5
    go_wp2
    go_ret
    exact ⟨ret_bool rfl, hB5⟩

end Go.Proofs.YtgbkfkhjfbkidaaDoor
