/- The walk of Pow on a true field. -/
import Derived.Test.YtgbkfkhjfbkidaaDoorW24
import Derived.Test.YtgbkfkhjfbkidaaDoorAlgG
namespace Go.Proofs.YtgbkfkhjfbkidaaDoor
open Go.RowKit

set_option maxHeartbeats 1000000 in
theorem PowG (P K a : Nat) (n : Int) (l : List Int) (v : Value) (w : World) (hT : Tab w) (hl : Sl w v l) (hll : l.length ≤ maxLen) (hG : GoodF P K l) (ha : a < P ^ K) (hn : 0 ≤ n) (hn' : n ≤ 9223372036854775807) (s : Nat) (hs : Hid (s = powQ P K (monL l) a n.toNat)) :
    Calls Tryd.prog 25 #[.agg #[.int .i64 P, .int .i64 K, v], .int .i64 a, .int .i64 n] w fun e w' => e = .returned (.tuple #[.int .i64 s, .int .i64 0]) ∧ Below w.heap.size w w' := by
  obtain ⟨A, ca, rfl, _⟩ := id hl
  have hbx : Below w.heap.size w ((w.alloc (.cells #[.int .i64 P, .int .i64 K, .slice A l.length ca] 24)).alloc (.cells #[.int .i64 a] 3)) := ((Below.refl _ _).alloc (Nat.le_refl _) _).alloc (by simp) _
  have hpair := sl_one (w.alloc (.cells #[.int .i64 P, .int .i64 K, .slice A l.length ca] 24)) a
  simp only [World.size_alloc] at hpair
  obtain ⟨fs, hu⟩ := und53
  go_enter Tryd.func25, Tryd.ntmps25
  go_wp2_with fail
  refine (open_any P K l [(a : Int)] _ _ _ (hT.below hbx) (hl.below hbx) hpair hll (by simp [maxLen])).mono ?_
  rintro e w1 ⟨z, x, y, c, f, rfl, hO, HZ, hb1⟩
  have hB1 : Below w.heap.size w w1 := hbx.trans (hb1.mono hbx.size)
  obtain rfl := open_in hG.fault (in_one hG ha) hO
  obtain ⟨rfl, rfl, rfl, rfl⟩ := HZ.out rfl
  have hnew : RB (w1.alloc (.cells #[.int .i64 0, .int .i64 0, .int .i64 0, .int .i64 0, .int .i64 0, .int .i64 0, .int .i64 0, .int .i64 0, .int .i64 0, .int .i64 0, .int .i64 0, .int .i64 0, .int .i64 0, .int .i64 0] 53)) w1.heap.size 0 0 0 (fun _ => 0) := RB.made w1 0 0 0 (fun _ => 0)
  have hRB := hnew.whole P K (ordZ (P : Int) K) (monL l)
  have hBA : Below w.heap.size w ((w1.alloc (.cells #[.int .i64 0, .int .i64 0, .int .i64 0, .int .i64 0, .int .i64 0, .int .i64 0, .int .i64 0, .int .i64 0, .int .i64 0, .int .i64 0, .int .i64 0, .int .i64 0, .int .i64 0, .int .i64 0] 53)).setRow w1.heap.size (ringRow P K (ordZ (P : Int) K) (monL l))) := bsetRow (hB1.alloc hB1.size _) hB1.size _
  clear hpair hO HZ
  go_wp2_with (first
    | (refine wpList_store_row rfl 53 _ _ rfl w1.heap.size _ rfl rfl 53 _ hnew (inf53 _ _ _ _) rfl (ringRow_one _ _ _ _) ?_)
    | (refine wpList_load_row rfl 53 _ rfl w1.heap.size rfl 53 _ (0, 0) _ hRB hu rfl (inf53 _ _ _ _) ?_))
  refine (pow_any P K a n _ (monL l) _ hG.field.toRing1 (by have := hG.le61; omega) hG.le6 hG.le64 ha hn hn' s hs).mono ?_
  rintro e w2 ⟨rfl, hb2⟩
  go_wp2
  go_ret2
  exact ⟨rfl, hBA.trans (hb2.mono hBA.size)⟩

theorem good_frob {P K : Nat} {l : List Int} (hG : GoodF P K l) {a b : Nat} (ha : a < P ^ K) (hb : b < P ^ K) : powQ P K (monL l) (addQ P K a b) P = addQ P K (powQ P K (monL l) a P) (powQ P K (monL l) b P) := by
  obtain ⟨h0, h1, h2, h3⟩ := hG.fault.ok
  rw [Int.toNat_natCast, Int.toNat_natCast] at h3
  exact frobenius (ord_parts h0).1 hG.field.one hG.le64 hG.len h2 h3 hG.field.toRing1 ha hb

set_option maxRecDepth 100000 in
set_option maxHeartbeats 2000000 in
theorem law8_any (p k a b : Int) (l : List Int) (v : Value) (w : World) (hT : Tab w) (hl : Sl w v l) (hll : l.length ≤ maxLen) :
    Calls Tryd.prog 8 #[.agg #[.int .i64 p, .int .i64 k, v], .int .i64 a, .int .i64 b] w fun e w' => e = .returned (.bool true) ∧ Below w.heap.size w w' := by
  obtain ⟨A, ca, rfl, _⟩ := id hl
  have hF0 := FB.made w p k (.slice A l.length ca)
  have hB0 : Below w.heap.size w (w.alloc (.cells #[.int .i64 p, .int .i64 k, .slice A l.length ca] 24)) := (Below.refl _ _).alloc (Nat.le_refl _) _
  go_enter Tryd.func8, Tryd.ntmps8
  go_wp2_with fail
  refine (fact_any _ (hT.below hB0)).mono ?_
  rintro e w1 ⟨rfl, hb1⟩
  have hF1 := hF0.below hb1
  have hB1 : Below w.heap.size w w1 := hB0.trans (hb1.mono hB0.size)
  have hc1 := hF1.cells
  go_wp2_with fail
  refine (Add_any p k a b l _ _ (hT.below hB1) (hl.below hB1) hll).mono ?_
  rintro e w2 ⟨s1, z1, rfl, hO1, _, HS1, hb2⟩
  have hF2 := hF1.below hb2
  have hB2 : Below w.heap.size w w2 := hB1.trans (hb2.mono hB1.size)
  have hc2 := hF2.cells
  have HO1 : Hid (OpenIs p k l [a, b] z1) := hO1
  clear hO1 hc1 hF1 hF0 hB0
  by_cases h1 : z1 = 0
  · subst h1
    obtain ⟨hFa, hin1⟩ := open_ok HO1.out
    obtain ⟨P, K, rfl, rfl, hG⟩ := good_of hFa
    obtain ⟨hia, hib⟩ := (inL_pair _ _ _).1 hin1
    have ha := (inB_iff _ _).1 hia
    have hb := (inB_iff _ _).1 hib
    rw [hG.ord] at ha hb
    obtain ⟨a, rfl⟩ := Int.eq_ofNat_of_zero_le ha.1
    obtain ⟨b, rfl⟩ := Int.eq_ofNat_of_zero_le hb.1
    have ha' : a < P ^ K := by omega
    have hb' : b < P ^ K := by omega
    have hR := hG.field.toRing1
    have hP2 := hR.two
    have hP61 := hG.le61
    have hK6 := hG.le6
    have hK1 := hR.one
    obtain ⟨ab, Hab⟩ : ∃ x, Hid (x = addQ P K a b) := ⟨_, rfl⟩
    have hab : ab < P ^ K := by rw [Hab.out]; exact addQ_lt hR a b
    obtain ⟨u, Hu⟩ : ∃ x, Hid (x = powQ P K (monL l) a ((P : Int)).toNat) := ⟨_, rfl⟩
    obtain ⟨y, Hy⟩ : ∃ x, Hid (x = powQ P K (monL l) b ((P : Int)).toNat) := ⟨_, rfl⟩
    obtain ⟨r, Hr⟩ : ∃ x, Hid (x = powQ P K (monL l) ab ((P : Int)).toNat) := ⟨_, rfl⟩
    have hu : u < P ^ K := by rw [Hu.out]; exact powQ_lt hR a _
    have hy : y < P ^ K := by rw [Hy.out]; exact powQ_lt hR b _
    have Hr2 : Hid (r = addQ P K u y) := by
      show r = addQ P K u y
      rw [Hr.out, Hu.out, Hy.out, Hab.out, Int.toNat_natCast]; exact good_frob hG ha' hb'
    have e1 : s1 = (ab : Int) := by
      have h := HS1.out rfl
      unfold sumZ at h
      simp only [Int.toNat_natCast] at h
      rw [← addQ_cast hR.two, ← Hab.out] at h
      exact h
    subst e1
    obtain ⟨Q, HQ⟩ : ∃ x, Hid (x = P ^ K) := ⟨_, rfl⟩
    have hQ64 : Q ≤ 64 := by rw [HQ.out]; exact hG.le64
    have Ha : Hid (a = powQ P K (monL l) a ((Q : Int)).toNat) := by
      show a = powQ P K (monL l) a ((Q : Int)).toNat
      rw [Int.toNat_natCast, HQ.out]; exact (fermat_all hG.field ha').symm
    clear HS1 HO1 hFa hin1 hia hib ha hb
    go_wp2
    go_loop [10, 11] (fun q i => ∃ j c : Nat, i = .int .i64 j ∧ q = .int .i64 c ∧ j ≤ K ∧ Hid (c = P ^ j)) (fun _ i => (K - intOf i).toNat)
    case atStart => exact ⟨0, 1, rfl, rfl, by omega, (show 1 = P ^ 0 by simp)⟩
    case round =>
      obtain ⟨j, c, rfl, rfl, hj, HC⟩ := hrel
      have hc64 : c ≤ 64 := by rw [HC.out]; exact pow_le_of hP2 hj hG.le64
      by_cases hlt : j < K
      · have hm0 : 0 ≤ (c : Int) * P := Int.mul_nonneg (by omega) (by omega)
        have hm1 : (c : Int) * P ≤ 64 * 61 := Int.mul_le_mul (by omega) (by omega) (by omega) (by omega)
        go_wp2
        go_round
        case rel =>
          refine ⟨j + 1, c * P, by go_num, by simp, by omega, ?_⟩
          show c * P = P ^ (j + 1)
          rw [Nat.pow_succ, ← HC.out]
        case measure => simp [intOf]; omega
      · obtain rfl : c = Q := by rw [HC.out, HQ.out, show j = K by omega]
        go_wp2_with fail
        refine (PowG P K a _ l _ _ (hT.below hB2) (hl.below hB2) hll hG ha' (by omega) (by omega) a Ha).mono ?_
        rintro e w3 ⟨rfl, hb3⟩
        have hF3 := hF2.below hb3
        have hB3 : Below w.heap.size w w3 := hB2.trans (hb3.mono hB2.size)
        have hc3 := hF3.cells
        go_wp2_with fail
        refine (PowG P K ab _ l _ _ (hT.below hB3) (hl.below hB3) hll hG hab (by omega) (by omega) r Hr).mono ?_
        rintro e w4 ⟨rfl, hb4⟩
        have hF4 := hF3.below hb4
        have hB4 : Below w.heap.size w w4 := hB3.trans (hb4.mono hB3.size)
        have hc4 := hF4.cells
        go_wp2_with fail
        refine (PowG P K a _ l _ _ (hT.below hB4) (hl.below hB4) hll hG ha' (by omega) (by omega) u Hu).mono ?_
        rintro e w5 ⟨rfl, hb5⟩
        have hF5 := hF4.below hb5
        have hB5 : Below w.heap.size w w5 := hB4.trans (hb5.mono hB4.size)
        have hc5 := hF5.cells
        go_wp2_with fail
        refine (PowG P K b _ l _ _ (hT.below hB5) (hl.below hB5) hll hG hb' (by omega) (by omega) y Hy).mono ?_
        rintro e w6 ⟨rfl, hb6⟩
        have hF6 := hF5.below hb6
        have hB6 : Below w.heap.size w w6 := hB5.trans (hb6.mono hB5.size)
        have hc6 := hF6.cells
        go_wp2_with fail
        refine (AddG P K u y l _ _ (hT.below hB6) (hl.below hB6) hll hG hu hy r Hr2).mono ?_
        rintro e w7 ⟨rfl, hb7⟩
        have hB7 : Below w.heap.size w w7 := hB6.trans (hb7.mono hB6.size)
        have hrr : (r : Int) == (r : Int) := by simp
        go_wp2
        go_ret
        exact ⟨ret_bool rfl, hB7⟩
  · have hz1 : (z1 != 0) = true := by simpa using h1
    go_wp2
    go_ret
    exact ⟨ret_bool rfl, hB2⟩

end Go.Proofs.YtgbkfkhjfbkidaaDoor
