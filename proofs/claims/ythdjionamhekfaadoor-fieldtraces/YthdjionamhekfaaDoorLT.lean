/- The law FieldTraces, walked: traces add, are below the prime, and are taken as often each. -/
import Derived.Test.YthdjionamhekfaaDoorW26
import Derived.Test.YthdjionamhekfaaDoorAlgI
namespace Go.Proofs.YthdjionamhekfaaDoor
open Go.RowKit

theorem cntTo_le (T : List Nat) (u : Nat) : ∀ n, cntTo T u n ≤ n
  | 0 => Nat.le_refl _
  | n + 1 => by
    have := cntTo_le T u n
    show cntTo T u n + (if T.getD n 0 = u then 1 else 0) ≤ n + 1
    split <;> omega

set_option maxRecDepth 100000 in
set_option maxHeartbeats 4000000 in
theorem lawT_any (p k a b : Int) (l : List Int) (v : Value) (w : World) (hT : Tab w) (hl : Sl w v l) (hll : l.length ≤ maxLen) :
    Calls Tryd.prog 3 #[.agg #[.int .i64 p, .int .i64 k, v], .int .i64 a, .int .i64 b] w fun e w' => e = .returned (.bool true) ∧ Below w.heap.size w w' := by
  obtain ⟨A, ca, rfl, _⟩ := id hl
  have hF0 := FB.made w p k (.slice A l.length ca)
  have hB0 : Below w.heap.size w (w.alloc (.cells #[.int .i64 p, .int .i64 k, .slice A l.length ca] 24)) := (Below.refl _ _).alloc (Nat.le_refl _) _
  go_enter Tryd.func3, Tryd.ntmps3
  go_wp2_with fail
  refine (fact_any _ (hT.below hB0)).mono ?_
  rintro e w1 ⟨rfl, hb1⟩
  have hF1 := hF0.below hb1
  have hB1 : Below w.heap.size w w1 := hB0.trans (hb1.mono hB0.size)
  have hc1 := hF1.cells
  go_wp2_with fail
  refine (Add_any p k a b l _ _ (hT.below hB1) (hl.below hB1) hll).mono ?_
  rintro e w2 ⟨s1, z1, rfl, hO1, _, HS1, hb2⟩
  have hF2 := hF1.below hb2
  have hB2 : Below w.heap.size w w2 := hB1.trans (hb2.mono hB1.size)
  have hc2 := hF2.cells
  have HO1 : Hid (OpenIs p k l [a, b] z1) := hO1
  clear hO1 hc1 hF1 hF0 hB0
  by_cases h1 : z1 = 0
  · subst h1
    obtain ⟨hFa, hin1⟩ := open_ok HO1.out
    obtain ⟨P, K, rfl, rfl, hG⟩ := good_of hFa
    obtain ⟨hia, hib⟩ := (inL_pair _ _ _).1 hin1
    have ha := (inB_iff _ _).1 hia
    have hb := (inB_iff _ _).1 hib
    rw [hG.ord] at ha hb
    obtain ⟨a, rfl⟩ := Int.eq_ofNat_of_zero_le ha.1
    obtain ⟨b, rfl⟩ := Int.eq_ofNat_of_zero_le hb.1
    have ha' : a < P ^ K := by omega
    have hb' : b < P ^ K := by omega
    have hR := hG.field.toRing1
    have hP2 := hR.two
    have hP61 := hG.le61
    obtain ⟨s, Hs⟩ : ∃ x, Hid (x = addQ P K a b) := ⟨_, rfl⟩
    have hs1 : s1 = (s : Int) := by
      have h := HS1.out rfl
      unfold sumZ at h
      simp only [Int.toNat_natCast] at h
      rw [← addQ_cast hG.field.two, ← Hs.out] at h
      exact h
    subst hs1
    have hs : s < P ^ K := by rw [Hs.out]; exact addQ_lt hR a b
    obtain ⟨T, hT1, hT2, hT3, hT4⟩ := good_tr hG
    obtain ⟨f, Hf⟩ : ∃ f : Nat → Nat, Hid (f = fun x => T.getD x 0) := ⟨_, rfl⟩
    have C : ∀ B x, Below w.heap.size w B → x < P ^ K → Calls Tryd.prog 7 #[.agg #[.int .i64 P, .int .i64 K, .slice A l.length ca], .int .i64 (x : Int)] B fun e D => e = .returned (.tuple #[.int .i64 (f x : Nat), .int .i64 0]) ∧ Below B.heap.size B D := by
      intro B x hB hx
      refine (TraceG P K x l _ B (hT.below hB) (hl.below hB) hll hG hx).mono ?_
      rintro e D ⟨t, rfl, ht, hb⟩
      refine ⟨?_, hb⟩
      rw [ht.out, hT1 x hx, Hf.out]
    have hf : ∀ x, f x < P := fun x => by rw [Hf.out]; exact hT2 x
    have hfs : (((f a : Nat) : Int) + (f b : Nat)) % (P : Int) = (f s : Nat) := by
      have h := hT3 a b ha' hb'
      rw [← Hs.out] at h
      rw [Hf.out]
      show (((T.getD a 0 : Nat) : Int) + (T.getD b 0 : Nat)) % (P : Int) = (T.getD s 0 : Nat)
      rw [h, Int.natCast_emod, Int.natCast_add]
    have hcnt : ∀ u, u < P → cntTo T u (P ^ K) * P = P ^ K := hT4
    have Hcnt : Hid (cntTo T (f a) (P ^ K) * P = P ^ K) := hcnt _ (hf a)
    obtain ⟨fa, Hfa⟩ : ∃ x, Hid (x = f a) := ⟨_, rfl⟩
    obtain ⟨fb, Hfb⟩ : ∃ x, Hid (x = f b) := ⟨_, rfl⟩
    obtain ⟨fs, Hfs⟩ : ∃ x, Hid (x = f s) := ⟨_, rfl⟩
    have Ca : ∀ B, Below w.heap.size w B → Calls Tryd.prog 7 #[.agg #[.int .i64 P, .int .i64 K, .slice A l.length ca], .int .i64 (a : Int)] B fun e D => e = .returned (.tuple #[.int .i64 (fa : Int), .int .i64 0]) ∧ Below B.heap.size B D := fun B hB => by rw [Hfa.out]; exact C B a hB ha'
    have Cb : ∀ B, Below w.heap.size w B → Calls Tryd.prog 7 #[.agg #[.int .i64 P, .int .i64 K, .slice A l.length ca], .int .i64 (b : Int)] B fun e D => e = .returned (.tuple #[.int .i64 (fb : Int), .int .i64 0]) ∧ Below B.heap.size B D := fun B hB => by rw [Hfb.out]; exact C B b hB hb'
    have Cs : ∀ B, Below w.heap.size w B → Calls Tryd.prog 7 #[.agg #[.int .i64 P, .int .i64 K, .slice A l.length ca], .int .i64 (s : Int)] B fun e D => e = .returned (.tuple #[.int .i64 (fs : Int), .int .i64 0]) ∧ Below B.heap.size B D := fun B hB => by rw [Hfs.out]; exact C B s hB hs
    have hla := hf a
    have hlb := hf b
    rw [← Hfa.out] at hla hfs Hcnt
    rw [← Hfb.out] at hlb hfs
    rw [← Hfs.out] at hfs
    have hmod : ((fa : Int) + (fb : Int)) % (P : Int) = (fs : Int) := hfs
    have hne : ((fs : Int) != (fs : Int)) = false := by simp
    have Hin : Hid (∀ x, f x = T.getD x 0) := fun x => by rw [Hf.out]
    obtain ⟨q, HQ⟩ : ∃ q : Nat, Hid (q = P ^ K) := ⟨_, rfl⟩
    have hq64 : q ≤ 64 := by rw [HQ.out]; exact hG.le64
    have hK6 := hG.le6
    rw [← HQ.out] at Hcnt
    have CX : ∀ B x, Below w.heap.size w B → x < q → Calls Tryd.prog 7 #[.agg #[.int .i64 P, .int .i64 K, .slice A l.length ca], .int .i64 (x : Int)] B fun e D => e = .returned (.tuple #[.int .i64 (f x : Nat), .int .i64 0]) ∧ Below B.heap.size B D := fun B x hB hx => C B x hB (by rw [← HQ.out]; exact hx)
    have HG : Hid (GoodF P K l) := hG
    clear HO1 HS1 hFa hin1 hia hib ha hb ha' hb' hs hT1 hT2 hT3 hT4 hcnt C hfs hb1 hb2 hG hR
    go_wp2_with fail
    refine (Cs _ hB2).mono ?_
    rintro e w3 ⟨rfl, hb3⟩
    have hF3 := hF2.below hb3
    have hB3 : Below w.heap.size w w3 := hB2.trans (hb3.mono hB2.size)
    have hc3 := hF3.cells
    clear hc2 hF2 hB2 hb3
    go_wp2_with fail
    refine (Ca _ hB3).mono ?_
    rintro e w4 ⟨rfl, hb4⟩
    have hF4 := hF3.below hb4
    have hB4 : Below w.heap.size w w4 := hB3.trans (hb4.mono hB3.size)
    have hc4 := hF4.cells
    clear hc3 hF3 hB3 hb4
    go_wp2_with fail
    refine (Cb _ hB4).mono ?_
    rintro e w5 ⟨rfl, hb5⟩
    have hF5 := hF4.below hb5
    have hB5 : Below w.heap.size w w5 := hB4.trans (hb5.mono hB4.size)
    have hc5 := hF5.cells
    clear hc4 hF4 hB4 hb5 Ca Cb Cs
    go_wp2_with fail
    go_loop [17, 18] (fun y i => ∃ (j : Nat) (z : Nat), i = .int .i64 j ∧ y = .int .i64 z ∧ j ≤ K ∧ Hid (z = P ^ j)) (fun _ i => (K - intOf i).toNat)
    case atStart => exact ⟨0, 1, rfl, rfl, by omega, (by show 1 = P ^ 0; simp)⟩
    case round =>
      obtain ⟨j, z, rfl, rfl, hj, HZ⟩ := hrel
      by_cases hlt : j < K
      · have hji : (j : Int) < K := by omega
        have hz64 : z * P ≤ 64 := by
          rw [HZ.out, ← Nat.pow_succ]
          exact Nat.le_trans (Nat.pow_le_pow_right (by omega) (by omega)) HG.out.le64
        have hzp : (z : Int) * (P : Int) ≤ 64 := by exact_mod_cast hz64
        have hzp0 : 0 ≤ (z : Int) * (P : Int) := Int.mul_nonneg (by omega) (by omega)
        go_wp2_with fail
        go_round
        case rel => exact ⟨j + 1, z * P, by go_num, by rw [Int.natCast_mul], by omega, (by show z * P = P ^ (j + 1); rw [Nat.pow_succ, HZ.out])⟩
        case measure => simp [intOf]; omega
      · obtain rfl : j = K := by omega
        obtain rfl : z = q := by rw [HZ.out, HQ.out]
        go_wp2_with fail
        go_loopw [16, 19] (fun n x wr => ∃ (t c : Nat), x = .int .i64 t ∧ n = .int .i64 c ∧ t ≤ z ∧ Hid (c = cntTo T fa t) ∧ c ≤ t ∧ FB wr w.heap.size P j (.slice A l.length ca) ∧ Below w.heap.size w wr) (fun _ x _ => (z - intOf x).toNat)
        case atStart => exact ⟨0, 0, rfl, rfl, by omega, rfl, by omega, hF5, hB5⟩
        case round =>
          obtain ⟨t, c, rfl, rfl, ht, HC, hct, hFr, hBr⟩ := hrel
          have hcr := hFr.cells
          by_cases hlt2 : t < z
          · have hti : (t : Int) < z := by omega
            go_wp2_with fail
            refine (CX _ t hBr hlt2).mono ?_
            rintro e w6 ⟨rfl, hb6⟩
            have hF6 := hFr.below hb6
            have hB6 : Below w.heap.size w w6 := hBr.trans (hb6.mono hBr.size)
            by_cases hfe : f t = fa
            · have hd : (((f t : Nat) : Int) == (fa : Int)) = true := by simp; omega
              go_wp2_with fail
              go_roundw
              case rel =>
                refine ⟨t + 1, c + 1, by go_num, by go_num, by omega, ?_, by omega, hF6, hB6⟩
                show c + 1 = cntTo T fa t + (if T.getD t 0 = fa then 1 else 0)
                rw [if_pos (by rw [← Hin.out]; exact hfe), HC.out]
              case measure => simp [intOf]; omega
            · have hd : (((f t : Nat) : Int) == (fa : Int)) = false := by simp; omega
              go_wp2_with fail
              go_roundw
              case rel =>
                refine ⟨t + 1, c, by go_num, rfl, by omega, ?_, by omega, hF6, hB6⟩
                show c = cntTo T fa t + (if T.getD t 0 = fa then 1 else 0)
                rw [if_neg (by rw [← Hin.out]; exact hfe), HC.out, Nat.add_zero]
              case measure => simp [intOf]; omega
          · obtain rfl : t = z := by omega
            have hcp : c * P = t := by rw [HC.out]; exact Hcnt.out
            have hdiv : (t : Int) / (P : Int) = (c : Int) := by
              rw [← hcp, Int.natCast_mul]; exact Int.mul_ediv_cancel _ (by omega)
            have hcc : ((c : Int) == (c : Int)) = true := by simp
            clear hcp
            go_wp2_with fail
            go_ret
            exact ⟨rfl, hBr⟩
  · have hd : (z1 != 0) = true := by simpa using h1
    go_wp2_with fail
    go_ret
    exact ⟨rfl, hB2⟩

end Go.Proofs.YthdjionamhekfaaDoor
