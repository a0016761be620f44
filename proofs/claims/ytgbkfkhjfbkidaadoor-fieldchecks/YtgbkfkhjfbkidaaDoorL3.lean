/- The law FieldChecks, walked: what is wrong with any field, its root and its squares. -/
import Derived.Test.YtgbkfkhjfbkidaaDoorW10
import Derived.Test.YtgbkfkhjfbkidaaDoorW15
namespace Go.Proofs.YtgbkfkhjfbkidaaDoor
open Go.RowKit

set_option maxRecDepth 100000 in
set_option maxHeartbeats 2000000 in
theorem law3_any (p k : Int) (l : List Int) (v : Value) (w : World) (hT : Tab w) (hl : Sl w v l) (hll : l.length ≤ maxLen) :
    Calls Tryd.prog 3 #[.agg #[.int .i64 p, .int .i64 k, v]] w fun e w' => e = .returned (.bool true) ∧ Below w.heap.size w w' := by
  obtain ⟨A, ca, rfl, _⟩ := id hl
  have hF0 := FB.made w p k (.slice A l.length ca)
  have hB0 : Below w.heap.size w (w.alloc (.cells #[.int .i64 p, .int .i64 k, .slice A l.length ca] 24)) := (Below.refl _ _).alloc (Nat.le_refl _) _
  go_enter Tryd.func3, Tryd.ntmps3
  go_wp2_with fail
  refine (fault_any p k l _ _ (hl.below hB0)).mono ?_
  rintro e w1 ⟨ze, rfl, hze, hb1⟩
  have hF1 := hF0.below hb1
  have hB1 : Below w.heap.size w w1 := hB0.trans (hb1.mono hB0.size)
  have hc1 := hF1.cells
  have HZ : Hid (FaultIs p k l ze) := hze
  clear hze
  go_wp2_with fail
  refine (Check_any p k l _ _ (hT.below hB1) (hl.below hB1) hll).mono ?_
  rintro e w2 ⟨z2, rfl, hz2, hb2⟩
  obtain rfl : z2 = ze := hz2.one HZ.out
  have hF2 := hF1.below hb2
  have hB2 : Below w.heap.size w w2 := hB1.trans (hb2.mono hB1.size)
  have hc2 := hF2.cells
  clear hz2
  go_wp2_with fail
  refine (Root_any p k l _ _ (hT.below hB2) (hl.below hB2) hll).mono ?_
  rintro e w3 ⟨r, z3, rfl, hz3, HR0, HR1, hb3⟩
  obtain rfl : z3 = z2 := hz3.one HZ.out
  have hF3 := hF2.below hb3
  have hB3 : Below w.heap.size w w3 := hB2.trans (hb3.mono hB2.size)
  have hc3 := hF3.cells
  clear hz3
  go_wp2_with fail
  refine (Squares_any p k l _ _ (hT.below hB3) (hl.below hB3) hll).mono ?_
  rintro e w4 ⟨u, s, z4, rfl, hsu, hz4, HS0, HS1, hb4⟩
  obtain rfl : z4 = z3 := hz4.one HZ.out
  have hF4 := hF3.below hb4
  have hB4 : Below w.heap.size w w4 := hB3.trans (hb4.mono hB3.size)
  have hc4 := hF4.cells
  clear hz4
  obtain ⟨U, cu, rfl, _⟩ := id hsu
  have hzz : (z4 != z4) = false := by simp
  by_cases h0 : z4 = 0
  · subst h0
    obtain ⟨P, K, rfl, rfl, hG⟩ := good_of HZ.out
    obtain ⟨R, rfl, hRt⟩ := HR1.out rfl
    have hs := HS1.out rfl
    rw [Int.toNat_natCast, Int.toNat_natCast] at hRt hs
    have HRT : Hid (RootIs P K (monL l) R) := hRt
    have HSS : Hid (s = sqTo P K (monL l) (P ^ K)) := hs
    have hsl : s.length ≤ maxLen := by
      rw [hs]
      have h1 := sqTo_len (P := P) (K := K) (m := monL l) (P ^ K)
      have h2 := hG.le64
      unfold maxLen; omega
    have hsl2 : (sqTo P K (monL l) (P ^ K)).length ≤ maxLen := by rw [← hs]; exact hsl
    clear HR0 HR1 HS0 HS1 hRt hs
    go_wp2_with fail
    refine (rootOf_any P K l _ _ (hl.below hB4) hG).mono ?_
    rintro e w5 ⟨R', rfl, hR', hb5⟩
    obtain rfl : R' = R := hR'.one HRT.out
    have hF5 := hF4.below hb5
    have hB5 : Below w.heap.size w w5 := hB4.trans (hb5.mono hB4.size)
    have hc5 := hF5.cells
    have hsu5 := hsu.below hb5
    clear hR'
    go_wp2_with fail
    refine (squaresOf_any P K l _ _ (hl.below hB5) hG).mono ?_
    rintro e w6 ⟨u6', rfl, hsu6, hb6⟩
    have hB6 : Below w.heap.size w w6 := hB5.trans (hb6.mono hB5.size)
    have hsu6' := hsu5.below hb6
    go_wp2_with fail
    refine (ints_any s (sqTo P K (monL l) (P ^ K)) _ _ _ hsu6' hsu6 hsl hsl2).mono ?_
    rintro e w7 ⟨t, rfl, ht, hb7⟩
    obtain rfl : t = true := ht.2 HSS.out
    have hB7 : Below w.heap.size w w7 := hB6.trans (hb7.mono hB6.size)
    have hrr : ((R' : Int) == (R' : Int)) = true := by simp
    go_wp2
    go_ret
    exact ⟨ret_bool rfl, hB7⟩
  · have hr : r = 0 := HR0.out h0
    have hs : s = [] := HS0.out h0
    subst hr hs
    have hzb : (z4 != 0) = true := by simpa using h0
    go_wp2
    go_ret
    exact ⟨ret_bool rfl, hB4⟩

end Go.Proofs.YtgbkfkhjfbkidaaDoor
