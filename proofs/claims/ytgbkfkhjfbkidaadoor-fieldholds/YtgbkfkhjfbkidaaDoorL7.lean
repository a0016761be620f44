/- The law FieldHolds, walked: a field is a field. -/
import Derived.Test.YtgbkfkhjfbkidaaDoorW24
namespace Go.Proofs.YtgbkfkhjfbkidaaDoor
open Go.RowKit

theorem one_le_q {P K : Nat} {l : List Int} (hG : GoodF P K l) : 1 < P ^ K := one_lt hG.field.toRing1

set_option maxRecDepth 100000 in
set_option maxHeartbeats 4000000 in
theorem law7_any (p k a b c : Int) (l : List Int) (v : Value) (w : World) (hT : Tab w) (hl : Sl w v l) (hll : l.length ≤ maxLen) :
    Calls Tryd.prog 7 #[.agg #[.int .i64 p, .int .i64 k, v], .int .i64 a, .int .i64 b, .int .i64 c] w fun e w' => e = .returned (.bool true) ∧ Below w.heap.size w w' := by
  obtain ⟨A, ca, rfl, _⟩ := id hl
  have hF0 := FB.made w p k (.slice A l.length ca)
  have hB0 : Below w.heap.size w (w.alloc (.cells #[.int .i64 p, .int .i64 k, .slice A l.length ca] 24)) := (Below.refl _ _).alloc (Nat.le_refl _) _
  go_enter Tryd.func7, Tryd.ntmps7
  go_wp2_with fail
  refine (fact_any _ (hT.below hB0)).mono ?_
  rintro e w1 ⟨rfl, hb1⟩
  have hF1 := hF0.below hb1
  have hB1 : Below w.heap.size w w1 := hB0.trans (hb1.mono hB0.size)
  have hc1 := hF1.cells
  go_wp2_with fail
  refine (Add_any p k a b l _ _ (hT.below hB1) (hl.below hB1) hll).mono ?_
  rintro e w2 ⟨s1, z1, rfl, hO1, _, HS1, hb2⟩
  have hF2 := hF1.below hb2
  have hB2 : Below w.heap.size w w2 := hB1.trans (hb2.mono hB1.size)
  have hc2 := hF2.cells
  have HO1 : Hid (OpenIs p k l [a, b] z1) := hO1
  clear hO1 hc1 hF1 hF0 hB0
  go_wp2_with fail
  refine (Add_any p k b c l _ _ (hT.below hB2) (hl.below hB2) hll).mono ?_
  rintro e w3 ⟨s2, z2, rfl, hO2, _, HS2, hb3⟩
  have hF3 := hF2.below hb3
  have hB3 : Below w.heap.size w w3 := hB2.trans (hb3.mono hB2.size)
  have hc3 := hF3.cells
  have HO2 : Hid (OpenIs p k l [b, c] z2) := hO2
  clear hO2 hc2 hF2 hb1 hb2 hb3
  by_cases h1 : z1 = 0
  · by_cases h2 : z2 = 0
    · subst h1 h2
      obtain ⟨hFa, hin1⟩ := open_ok HO1.out
      obtain ⟨_, hin2⟩ := open_ok HO2.out
      obtain ⟨P, K, rfl, rfl, hG⟩ := good_of hFa
      obtain ⟨hia, hib⟩ := (inL_pair _ _ _).1 hin1
      obtain ⟨_, hic⟩ := (inL_pair _ _ _).1 hin2
      have ha := (inB_iff _ _).1 hia
      have hb := (inB_iff _ _).1 hib
      have hc := (inB_iff _ _).1 hic
      rw [hG.ord] at ha hb hc
      obtain ⟨a, rfl⟩ := Int.eq_ofNat_of_zero_le ha.1
      obtain ⟨b, rfl⟩ := Int.eq_ofNat_of_zero_le hb.1
      obtain ⟨c, rfl⟩ := Int.eq_ofNat_of_zero_le hc.1
      have ha' : a < P ^ K := by omega
      have hb' : b < P ^ K := by omega
      have hc' : c < P ^ K := by omega
      have hR := hG.field.toRing1
      obtain ⟨ab, Hab⟩ : ∃ x, Hid (x = addQ P K a b) := ⟨_, rfl⟩
      obtain ⟨bc, Hbc⟩ : ∃ x, Hid (x = addQ P K b c) := ⟨_, rfl⟩
      obtain ⟨abc, Habc⟩ : ∃ x, Hid (x = addQ P K ab c) := ⟨_, rfl⟩
      obtain ⟨xy, Hxy⟩ : ∃ x, Hid (x = mulQ P K (monL l) a b) := ⟨_, rfl⟩
      obtain ⟨yz, Hyz⟩ : ∃ x, Hid (x = mulQ P K (monL l) b c) := ⟨_, rfl⟩
      obtain ⟨xyz, Hxyz⟩ : ∃ x, Hid (x = mulQ P K (monL l) xy c) := ⟨_, rfl⟩
      obtain ⟨xz, Hxz⟩ : ∃ x, Hid (x = mulQ P K (monL l) a c) := ⟨_, rfl⟩
      obtain ⟨t, Ht⟩ : ∃ x, Hid (x = mulQ P K (monL l) a bc) := ⟨_, rfl⟩
      have hab : ab < P ^ K := by rw [Hab.out]; exact addQ_lt hR a b
      have hbc : bc < P ^ K := by rw [Hbc.out]; exact addQ_lt hR b c
      have hxy : xy < P ^ K := by rw [Hxy.out]; exact mulQ_lt hR a b
      have hyz : yz < P ^ K := by rw [Hyz.out]; exact mulQ_lt hR b c
      have hxz : xz < P ^ K := by rw [Hxz.out]; exact mulQ_lt hR a c
      have Hba : Hid (ab = addQ P K b a) := Hab.out.trans (addQ_comm hR a b)
      have Habc2 : Hid (abc = addQ P K a bc) := by
        show abc = addQ P K a bc
        rw [Habc.out, Hab.out, Hbc.out]; exact addQ_assoc hR a b c
      have Hyx : Hid (xy = mulQ P K (monL l) b a) := Hxy.out.trans (mulQ_comm hR a b)
      have Hxyz2 : Hid (xyz = mulQ P K (monL l) a yz) := by
        show xyz = mulQ P K (monL l) a yz
        rw [Hxyz.out, Hxy.out, Hyz.out]; exact mulQ_assoc hR a b c
      have Ht2 : Hid (t = addQ P K xy xz) := by
        show t = addQ P K xy xz
        rw [Ht.out, Hxy.out, Hxz.out, Hbc.out]; exact mulQ_add hR a b c
      have Hone : Hid (a = mulQ P K (monL l) a 1) := (mulQ_one hR ha').symm
      have Hzero : Hid (a = addQ P K a 0) := (addQ_zero hR ha').symm
      have hq1 := one_le_q hG
      have e1 : s1 = (ab : Int) := by
        have h := HS1.out rfl
        unfold sumZ at h
        simp only [Int.toNat_natCast] at h
        rw [← addQ_cast hR.two, ← Hab.out] at h
        exact h
      have e2 : s2 = (bc : Int) := by
        have h := HS2.out rfl
        unfold sumZ at h
        simp only [Int.toNat_natCast] at h
        rw [← addQ_cast hR.two, ← Hbc.out] at h
        exact h
      subst e1 e2
      clear HS1 HS2 HO1 HO2 hFa hin1 hin2 hia hib hic ha hb hc
      go_wp2_with fail
      refine (AddG P K b a l _ _ (hT.below hB3) (hl.below hB3) hll hG hb' ha' ab Hba).mono ?_
      rintro e w4 ⟨rfl, hb4⟩
      have hF4 := hF3.below hb4
      have hB4 : Below w.heap.size w w4 := hB3.trans (hb4.mono hB3.size)
      have hc4 := hF4.cells
      clear hc3 hF3 hb4
      go_wp2_with fail
      refine (AddG P K ab c l _ _ (hT.below hB4) (hl.below hB4) hll hG hab hc' abc Habc).mono ?_
      rintro e w5 ⟨rfl, hb5⟩
      have hF5 := hF4.below hb5
      have hB5 : Below w.heap.size w w5 := hB4.trans (hb5.mono hB4.size)
      have hc5 := hF5.cells
      clear hc4 hF4 hb5
      go_wp2_with fail
      refine (AddG P K a bc l _ _ (hT.below hB5) (hl.below hB5) hll hG ha' hbc abc Habc2).mono ?_
      rintro e w6 ⟨rfl, hb6⟩
      have hF6 := hF5.below hb6
      have hB6 : Below w.heap.size w w6 := hB5.trans (hb6.mono hB5.size)
      have hc6 := hF6.cells
      clear hc5 hF5 hb6
      go_wp2_with fail
      refine (MulG P K a b l _ _ (hT.below hB6) (hl.below hB6) hll hG ha' hb' xy Hxy).mono ?_
      rintro e w7 ⟨rfl, hb7⟩
      have hF7 := hF6.below hb7
      have hB7 : Below w.heap.size w w7 := hB6.trans (hb7.mono hB6.size)
      have hc7 := hF7.cells
      clear hc6 hF6 hb7
      go_wp2_with fail
      refine (MulG P K b a l _ _ (hT.below hB7) (hl.below hB7) hll hG hb' ha' xy Hyx).mono ?_
      rintro e w8 ⟨rfl, hb8⟩
      have hF8 := hF7.below hb8
      have hB8 : Below w.heap.size w w8 := hB7.trans (hb8.mono hB7.size)
      have hc8 := hF8.cells
      clear hc7 hF7 hb8
      go_wp2_with fail
      refine (MulG P K b c l _ _ (hT.below hB8) (hl.below hB8) hll hG hb' hc' yz Hyz).mono ?_
      rintro e w9 ⟨rfl, hb9⟩
      have hF9 := hF8.below hb9
      have hB9 : Below w.heap.size w w9 := hB8.trans (hb9.mono hB8.size)
      have hc9 := hF9.cells
      clear hc8 hF8 hb9
      go_wp2_with fail
      refine (MulG P K xy c l _ _ (hT.below hB9) (hl.below hB9) hll hG hxy hc' xyz Hxyz).mono ?_
      rintro e w10 ⟨rfl, hb10⟩
      have hF10 := hF9.below hb10
      have hB10 : Below w.heap.size w w10 := hB9.trans (hb10.mono hB9.size)
      have hc10 := hF10.cells
      clear hc9 hF9 hb10
      go_wp2_with fail
      refine (MulG P K a yz l _ _ (hT.below hB10) (hl.below hB10) hll hG ha' hyz xyz Hxyz2).mono ?_
      rintro e w11 ⟨rfl, hb11⟩
      have hF11 := hF10.below hb11
      have hB11 : Below w.heap.size w w11 := hB10.trans (hb11.mono hB10.size)
      have hc11 := hF11.cells
      clear hc10 hF10 hb11
      go_wp2_with fail
      refine (MulG P K a c l _ _ (hT.below hB11) (hl.below hB11) hll hG ha' hc' xz Hxz).mono ?_
      rintro e w12 ⟨rfl, hb12⟩
      have hF12 := hF11.below hb12
      have hB12 : Below w.heap.size w w12 := hB11.trans (hb12.mono hB11.size)
      have hc12 := hF12.cells
      clear hc11 hF11 hb12
      go_wp2_with fail
      refine (MulG P K a bc l _ _ (hT.below hB12) (hl.below hB12) hll hG ha' hbc t Ht).mono ?_
      rintro e w13 ⟨rfl, hb13⟩
      have hF13 := hF12.below hb13
      have hB13 : Below w.heap.size w w13 := hB12.trans (hb13.mono hB12.size)
      have hc13 := hF13.cells
      clear hc12 hF12 hb13
      go_wp2_with fail
      refine (AddG P K xy xz l _ _ (hT.below hB13) (hl.below hB13) hll hG hxy hxz t Ht2).mono ?_
      rintro e w14 ⟨rfl, hb14⟩
      have hF14 := hF13.below hb14
      have hB14 : Below w.heap.size w w14 := hB13.trans (hb14.mono hB13.size)
      have hc14 := hF14.cells
      clear hc13 hF13 hb14
      go_wp2_with fail
      refine (MulG P K a 1 l _ _ (hT.below hB14) (hl.below hB14) hll hG ha' hq1 a Hone).mono ?_
      rintro e w15 ⟨rfl, hb15⟩
      have hF15 := hF14.below hb15
      have hB15 : Below w.heap.size w w15 := hB14.trans (hb15.mono hB14.size)
      have hc15 := hF15.cells
      clear hc14 hF14 hb15
      go_wp2_with fail
      refine (AddG P K a 0 l _ _ (hT.below hB15) (hl.below hB15) hll hG ha' (by omega) a Hzero).mono ?_
      rintro e w16 ⟨rfl, hb16⟩
      have hF16 := hF15.below hb16
      have hB16 : Below w.heap.size w w16 := hB15.trans (hb16.mono hB15.size)
      have hc16 := hF16.cells
      clear hc15 hF15 hb16
      by_cases h0 : a = 0
      · subst h0
        go_wp2
        go_ret
        exact ⟨ret_bool rfl, hB16⟩
      · have hab0 : ((a : Int) == 0) = false := by simp; omega
        obtain ⟨i, Hi⟩ : ∃ x, Hid (x = powQ P K (monL l) a (P ^ K - 2)) := ⟨_, rfl⟩
        have hi : i < P ^ K := by rw [Hi.out]; exact powQ_lt hR a _
        have Hu : Hid (1 = mulQ P K (monL l) a i) := by
          show 1 = mulQ P K (monL l) a i
          rw [Hi.out]; exact (inv_ok hG.field (by omega) ha').symm
        go_wp2_with fail
        refine (InvG P K a l _ _ (hT.below hB16) (hl.below hB16) hll hG ha' (by omega) i Hi).mono ?_
        rintro e w17 ⟨rfl, hb17⟩
        have hF17 := hF16.below hb17
        have hB17 : Below w.heap.size w w17 := hB16.trans (hb17.mono hB16.size)
        have hc17 := hF17.cells
        clear hc16 hF16
        go_wp2_with fail
        refine (MulG P K a i l _ _ (hT.below hB17) (hl.below hB17) hll hG ha' hi 1 Hu).mono ?_
        rintro e w18 ⟨rfl, hb18⟩
        have hB18 : Below w.heap.size w w18 := hB17.trans (hb18.mono hB17.size)
        go_wp2
        go_ret
        exact ⟨ret_bool rfl, hB18⟩
    · subst h1
      have hz2 : (z2 != 0) = true := by simpa using h2
      go_wp2
      go_ret
      exact ⟨ret_bool rfl, hB3⟩
  · have hz1 : (z1 != 0) = true := by simpa using h1
    go_wp2
    go_ret
    exact ⟨ret_bool rfl, hB3⟩

end Go.Proofs.YtgbkfkhjfbkidaaDoor
