/- The law FieldSums, walked: sums and products of any two are the document's, errors and all. -/
import Derived.Test.YtgdkfbgehbdkjaaDoorW46
import Derived.Test.YtgdkfbgehbdkjaaDoorW34
import Derived.Test.YtgdkfbgehbdkjaaDoorW19
import Derived.Deep.QuietTactic
import Derived.BigQuiet
/- The walks of Sum and Times of the document's answer. -/
namespace Go.Proofs.YtgdkfbgehbdkjaaDoor.Fd
open Go.RowKit

theorem digL_all {n p k : Nat} (hn : n < p ^ k) (hp : 2 ≤ p) (t : Nat) : (digL n p k).getD t 0 = digF n p t := by
  by_cases h : t < k
  · exact digL_at _ _ _ _ h
  · rw [digF_small hn hp t (by omega)]
    simp [digL, h]
theorem Own.of_dig {w : World} {base n p k : Nat} {v : Value} (h : w.ownsRow base 3 1 v k ((digL n p k).map (Value.int .i64))) (hk : 1 ≤ k) (hn : n < p ^ k) (hp : 2 ≤ p) :
    ∃ g cap, v = .slice (some ⟨g, 0, none⟩) k cap ∧ base ≤ g ∧ Own w g k (digF n p) := by
  obtain ⟨g, cap, e, hb, hO⟩ := Own.of h (by omega)
  exact ⟨g, cap, e, hb, hO.congr (fun t _ => digL_all hn hp t)⟩

set_option maxRecDepth 100000 in
set_option maxHeartbeats 1000000 in
theorem sum_any (P K a b : Nat) (A : Option Addr) (n c : Nat) (w : World) (hP : 2 ≤ P) (hP' : P ≤ 64) (hK : 1 ≤ K) (hK' : K ≤ 6) (hPK : P ^ K ≤ 64) (ha : a < P ^ K) (hb : b < P ^ K) :
    Calls Tryd.prog 36 #[.agg #[.int .i64 P, .int .i64 K, .slice A n c], .int .i64 a, .int .i64 b] w fun e w' => e = .returned (.int .i64 (hor (plusF (digF a P) (digF b P) P) P K K)) ∧ Below w.heap.size w w' := by
  have hF0 := FB.made w P K (.slice A n c)
  have hB0 : Below w.heap.size w (w.alloc (.cells #[.int .i64 P, .int .i64 K, .slice A n c] 24)) := (Below.refl _ _).alloc (Nat.le_refl _) _
  go_enter Tryd.func36, Tryd.ntmps36
  go_wp2_with fail
  refine (digits_any a P K _ (by omega) hP hP' (by omega)).mono ?_
  rintro e w1 ⟨v1, rfl, hown1, hb1⟩
  obtain ⟨g, cap, rfl, hg, hO1⟩ := Own.of_dig hown1 hK ha hP
  have hF1 := hF0.below hb1
  have hB1 : Below w.heap.size w w1 := hB0.trans (hb1.mono hB0.size)
  have hc1 := hF1.cells
  clear hown1
  go_wp2_with fail
  refine (digits_any b P K _ (by omega) hP hP' (by omega)).mono ?_
  rintro e w2 ⟨v2, rfl, hown2, hb2⟩
  obtain ⟨g2, cap2, rfl, hg2, hO2⟩ := Own.of_dig hown2 hK hb hP
  have hF2 := hF1.below hb2
  have hO12 := hO1.below hb2
  have hB2 : Below w.heap.size w w2 := hB1.trans (hb2.mono hB1.size)
  have hgl := hO1.lt
  have hgw : w.heap.size < g := by simp at hg; omega
  have hne : g ≠ g2 := by omega
  clear hown2 hO1
  go_wp2
  go_loopw [9] (fun i wr => ∃ j : Nat, i = .int .i64 j ∧ j ≤ K ∧ Own wr g K (plusTo (digF a P) (digF b P) P j) ∧ Own wr g2 K (digF b P) ∧ FB wr w.heap.size P K (.slice A n c) ∧ Below w.heap.size w wr) (fun i _ => (K - intOf i).toNat)
  case atStart => exact ⟨0, rfl, by omega, hO12.congr (fun t _ => by simp [plusTo]), hO2, hF2, hB2⟩
  case round =>
    clear hO12 hO2 hF2 hB2 hF1 hF0 hc1
    obtain ⟨j, rfl, hj, hO1, hO2, hF, hB⟩ := hrel
    have hFc := hF.cells
    by_cases hlt : j < K
    · obtain ⟨x, Hx⟩ : ∃ a' : Int, Hid (a' = digF a P j) := ⟨_, rfl⟩
      obtain ⟨y, Hy⟩ : ∃ c' : Int, Hid (c' = digF b P j) := ⟨_, rfl⟩
      have hx0 := digF_in a P (by omega) j
      rw [← Hx.out] at hx0
      have hy0 := digF_in b P (by omega) j
      rw [← Hy.out] at hy0
      have hcx := hO1.cell j hlt
      rw [show plusTo (digF a P) (digF b P) P j j = digF a P j by simp [plusTo], ← Hx.out] at hcx
      have hcf := hO1.frozen j
      have hcy := hO2.cell j hlt
      rw [← Hy.out] at hcy
      have hji : (j : Int) < K := by omega
      have hdec : decide ((j : Int) < K) = true := by simp; omega
      go_wp2
      go_region
      all_goals
        go_wp2
        go_roundw
        case rel =>
          refine ⟨j + 1, by go_num, by omega, (hO1.set j _).congr (fun t _ => ?_), hO2.other _ _ (by simpa using Ne.symm hne), (heap_setCell_other _ _ _ _ (by simp; omega)).trans hF, (hB.setCell (by simp; omega) _).drew⟩
          rw [Hx.out, Hy.out]; exact plusTo_succ _ _ _ j t
        case measure => simp [intOf]; omega
    · go_wp2_with fail
      refine (numberRef_any (plusF (digF a P) (digF b P) P) P K g 0 cap _ ?_ hP hP' hK hK' hPK (plusF_in _ _ _ (by omega))).mono ?_
      · intro t ht
        rw [Nat.zero_add, hO1.cell t ht]
        simp [plusTo, plusF, show t < j by omega]
      rintro e w' ⟨rfl, rfl⟩
      go_wp2
      go_ret
      exact ⟨rfl, hB⟩

end Go.Proofs.YtgdkfbgehbdkjaaDoor.Fd

/- The walk of Times of the document's answer; the two products are one. -/
namespace Go.Proofs.YtgdkfbgehbdkjaaDoor.Fd
open Go.RowKit

theorem prod_same {P K a b : Nat} {m : Nat → Int} (hP : 2 ≤ P) (hK : 1 ≤ K) (hK' : K ≤ 6) (ha : a < P ^ K) (hb : b < P ^ K) :
    redN m K P (11 - K) (mulN (digF a P) (digF b P) P 6 6) = redN m K P K (mulN (digF a P) (digF b P) P K K) := by
  have hp : (0 : Int) < P := by omega
  have e1 : mulN (digF a P) (digF b P) P 6 6 = mulN (digF a P) (digF b P) P K K := by
    rw [show (6 : Nat) = K + (6 - K) by omega, mulN_few hp (fun t ht => digF_small ha hP t ht), ← show (6 : Nat) = K + (6 - K) by omega, mulN_short hp (fun t ht => digF_small hb hP t ht) hK']
  rw [e1]
  have hin := mulN_in (a := digF a P) (b := digF b P) (j := K) hp K
  by_cases h1 : K = 1
  · subst h1
    have h := redN_more (m := m) (d := 1) 1 hin (fun t ht => mulN_over 1 t (by omega)) (Nat.le_refl _) 9
    exact h
  · have h0 : ∀ t, 2 * K - 2 < t → mulN (digF a P) (digF b P) P K K t = 0 := fun t ht => mulN_over K t (by omega)
    have h2 := redN_more (m := m) (d := K) (2 * K - 2) hin h0 (by omega) (12 - 2 * K)
    have h3 := redN_more (m := m) (d := K) (2 * K - 2) hin h0 (by omega) 1
    rw [show 2 * K - 2 + 1 - K + (12 - 2 * K) = 11 - K by omega] at h2
    rw [show 2 * K - 2 + 1 - K + 1 = K by omega] at h3
    rw [h2, h3]

set_option maxRecDepth 100000 in
set_option maxHeartbeats 2000000 in
theorem timesRef_any (P K a b : Nat) (l : List Int) (v : Value) (w : World) (hl : Sl w v l) (hlK : l.length = K) (hP : 2 ≤ P) (hP' : P ≤ 64) (hK : 1 ≤ K) (hK' : K ≤ 6) (hPK : P ^ K ≤ 64) (ha : a < P ^ K) (hb : b < P ^ K) (hm : inP P (monL l)) (hmK : Hid (monL l K = 1)) :
    Calls Tryd.prog 31 #[.agg #[.int .i64 P, .int .i64 K, v], .int .i64 a, .int .i64 b] w fun e w' => e = .returned (.int .i64 (hor (redN (monL l) K P K (mulN (digF a P) (digF b P) P K K)) P K K)) ∧ Below w.heap.size w w' := by
  obtain ⟨bl, ol, cl, rfl, hbl, hlc⟩ := hl.form hlK (by omega)
  have HLC : Hid (∀ j, j < K → w.cell? ⟨bl, ol + j, none⟩ = some (.int .i64 (l.getD j 0))) := hlc
  have hF0 := FB.made w P K (.slice (some ⟨bl, ol, none⟩) K cl)
  have hB0 : Below w.heap.size w (w.alloc (.cells #[.int .i64 P, .int .i64 K, .slice (some ⟨bl, ol, none⟩) K cl] 24)) := (Below.refl _ _).alloc (Nat.le_refl _) _
  clear hlc
  go_enter Tryd.func31, Tryd.ntmps31
  go_wp2_with fail
  refine (digits_any a P K _ (by omega) hP hP' (by omega)).mono ?_
  rintro e w1 ⟨v1, rfl, hown1, hb1⟩
  obtain ⟨g, cap, rfl, hg, hO1⟩ := Own.of_dig hown1 hK ha hP
  have hF1 := hF0.below hb1
  have hB1 : Below w.heap.size w w1 := hB0.trans (hb1.mono hB0.size)
  have hc1 := hF1.cells
  clear hown1
  go_wp2_with fail
  refine (digits_any b P K _ (by omega) hP hP' (by omega)).mono ?_
  rintro e w2 ⟨v2, rfl, hown2, hb2⟩
  obtain ⟨g2, cap2, rfl, hg2, hO2⟩ := Own.of_dig hown2 hK hb hP
  have hF2 := hF1.below hb2
  have hO12 := hO1.below hb2
  have hB2 : Below w.heap.size w w2 := hB1.trans (hb2.mono hB1.size)
  have hc2 := hF2.cells
  clear hown2
  go_wp2_with fail
  refine (product_any (digF a P) (digF b P) P K g 0 cap g2 0 cap2 _ (fun j hj => by rw [Nat.zero_add]; exact hO12.cell j hj) (fun j hj => by rw [Nat.zero_add]; exact hO2.cell j hj) hP hP' hK hK' (digF_in a P (by omega)) (digF_in b P (by omega))).mono ?_
  rintro e w3 ⟨G, rfl, hGw, hOz, hb3⟩
  have hF3 := hF2.below hb3
  have hB3 : Below w.heap.size w w3 := hB2.trans (hb3.mono hB2.size)
  have hGl : w.heap.size < G := by have := hF2.lt; omega
  have hmi := mulN_in (a := digF a P) (b := digF b P) (j := K) (show (0 : Int) < P by omega) K
  clear hF0 hF1 hF2 hO1 hO2 hO12 hc1 hc2
  go_wp2
  go_loopw [10] (fun i wr => ∃ x : Int, i = .int .i64 x ∧ (K : Int) ≤ x + 1 ∧ x + 1 ≤ K + K ∧ ∃ f, Own wr G (K + K) f ∧ inP P f ∧ Hid (redN (monL l) K P (x + 1 - K).toNat f = redN (monL l) K P K (mulN (digF a P) (digF b P) P K K)) ∧ FB wr w.heap.size P K (.slice (some ⟨bl, ol, none⟩) K cl) ∧ Below w.heap.size w wr) (fun i _ => (intOf i + 1).toNat)
  case atStart =>
    refine ⟨(K : Int) + K - 1, rfl, by omega, by omega, _, hOz, hmi, ?_, hF3, hB3⟩
    show redN _ _ _ ((K : Int) + K - 1 + 1 - K).toNat _ = _
    rw [show ((K : Int) + K - 1 + 1 - K).toNat = K by omega]
  case round =>
    clear hOz hF3 hB3
    obtain ⟨x, rfl, hx1, hx2, f, hO, hf, HR, hF, hB⟩ := hrel
    have hFc := hF.cells
    by_cases hlt : (K : Int) ≤ x
    · obtain ⟨i0, rfl⟩ := Int.eq_ofNat_of_zero_le (show 0 ≤ x by omega)
      have hdec : decide ((K : Int) ≤ i0) = true := by simp; omega
      obtain ⟨y, Hy⟩ : ∃ y : Int, Hid (y = f i0) := ⟨_, rfl⟩
      have hy0 := hf i0
      rw [← Hy.out] at hy0
      have hcy := hO.cell i0 (by omega)
      rw [← Hy.out] at hcy
      have hcfz := hO.frozen i0
      have hik : (i0 : Int) < K + K := by omega
      have hFo : w.heap.size ≠ G := by omega
      go_wp2
      go_loopw [12] (fun j wr => ∃ m : Nat, j = .int .i64 m ∧ m ≤ K ∧ Own wr G (K + K) (stTo f (monL l) K P i0 m) ∧ FB wr w.heap.size P K (.slice (some ⟨bl, ol, none⟩) K cl) ∧ Below w.heap.size w wr) (fun j _ => (K - intOf j).toNat)
      case atStart => exact ⟨0, rfl, by omega, (hO.set i0 0).congr (fun t _ => stTo_zero f (monL l) K P i0 t), (heap_setCell_other _ _ _ _ hFo).trans hF, hB.setCell (by simp; omega) _⟩
      case round =>
        clear hFc hF hB
        obtain ⟨m, rfl, hm', hO', hF, hB⟩ := hrel
        have hFc := hF.cells
        by_cases hle : m < K
        · obtain ⟨z, Hz⟩ : ∃ z : Int, Hid (z = f (i0 - K + m)) := ⟨_, rfl⟩
          obtain ⟨c, Hc⟩ : ∃ c : Int, Hid (c = l.getD m 0) := ⟨_, rfl⟩
          have hz0 := hf (i0 - K + m)
          rw [← Hz.out] at hz0
          have hc0 := hm m
          rw [monL_low l m (by omega), ← Hc.out] at hc0
          have hi0 : (0 : Int) ≤ (i0 : Int) - K + m := by omega
          have hi1 : (i0 : Int) - K + m < K + K := by omega
          have hi2 : (m : Int) < K := by omega
          have hcz := hO'.cell (i0 - K + m) (by omega)
          rw [stTo_at _ _ _ _ _ _ (by omega) hle, ← Hz.out] at hcz
          have hcf := hO'.frozen (i0 - K + m)
          have hcc := (hB.cell (p := ⟨bl, ol + m, none⟩) hbl).trans (HLC.out m hle)
          rw [← Hc.out] at hcc
          have hm0 : 0 ≤ y * c := Int.mul_nonneg (by omega) (by omega)
          have hm1 : y * c ≤ 64 * 64 := Int.mul_le_mul (by omega) (by omega) (by omega) (by omega)
          have ht := tmod_bd (z - y * c) P (by omega)
          have ht2 : 0 ≤ (z - y * c).tmod P + P := by omega
          have hdec2 : decide ((m : Int) < K) = true := by simp; omega
          go_wp2
          go_region
          all_goals
            go_wp2
            go_roundw
            case rel =>
              refine ⟨m + 1, by go_num, by omega, (hO'.set (i0 - K + m) _).congr (fun t _ => stTo_succ f (monL l) K P i0 m _ (by omega) hle ?_ t), (heap_setCell_other _ _ _ _ hFo).trans hF, (hB.setCell (by simp; omega) _).drew⟩
              rw [tmod_emod, ← Hz.out, ← Hy.out, monL_low l m (by omega), ← Hc.out]
            case measure => simp [intOf]; omega
        · go_wp2
          go_roundw
          case rel =>
            refine ⟨(i0 : Int) - 1, rfl, by omega, by omega, rd f (monL l) K P i0, hO'.congr (fun t _ => ?_), rd_in (by omega) hf, ?_, hF, hB⟩
            · rw [show m = K by omega]; exact stTo_full f (monL l) K P i0 (by omega) hmK.out t
            · show redN (monL l) K P ((i0 : Int) - 1 + 1 - K).toNat (rd f (monL l) K P i0) = _
              rw [← HR.out]
              rw [show ((i0 : Int) + 1 - K).toNat = (i0 - K) + 1 by omega, show ((i0 : Int) - 1 + 1 - K).toNat = i0 - K by omega]
              show _ = redN (monL l) K P (i0 - K) (rd f (monL l) K P (K + (i0 - K)))
              rw [show K + (i0 - K) = i0 by omega]
          case measure => simp [intOf]
    · have e : (x + 1 - (K : Int)).toNat = 0 := by omega
      have HR' := HR.out
      rw [e] at HR'
      have HFR : Hid (f = redN (monL l) K P K (mulN (digF a P) (digF b P) P K K)) := HR'
      clear HR HR'
      have hki : (K : Int) ≤ (K : Int) + K := by omega
      have hfin : Hid (inP P f) := hf
      go_wp2
      go_quiet ((go_at_call 55; exact Calls.quiet_of_same (numberRef_any f P K G 0 _ _ (fun t ht => by rw [Nat.zero_add]; exact hO.cell t (by omega)) hP hP' hK hK' hPK hfin.out)))
      go_wp2
      go_ret
      exact ⟨ret_int (by rw [← HFR.out]), bdrewN hB _⟩

end Go.Proofs.YtgdkfbgehbdkjaaDoor.Fd

namespace Go.Proofs.YtgdkfbgehbdkjaaDoor.Fd
open Go.RowKit

theorem open_err {p k : Int} {l es : List Int} {z ze : Int} (hF : FaultIs p k l ze) (h0 : ze ≠ 0) (h : OpenIs p k l es z) : z = ze := by
  rcases h with ⟨_, h⟩ | ⟨h, _, _⟩ | ⟨h, _, _⟩
  · exact h.one hF
  · exact absurd (hF.one h) h0
  · exact absurd (hF.one h) h0
theorem open_in {p k : Int} {l es : List Int} {z : Int} (hF : FaultIs p k l 0) (hi : inL (ordZ p k) es) (h : OpenIs p k l es z) : z = 0 := by
  rcases h with ⟨h0, h⟩ | ⟨_, h, _⟩ | ⟨_, _, h⟩
  · exact absurd (h.one hF) h0
  · exact absurd hi h
  · exact h
theorem open_out {p k : Int} {l es : List Int} {z : Int} (hF : FaultIs p k l 0) (hi : ¬ inL (ordZ p k) es) (h : OpenIs p k l es z) : z = 1 := by
  rcases h with ⟨h0, h⟩ | ⟨_, _, h⟩ | ⟨_, h, _⟩
  · exact absurd (h.one hF) h0
  · exact h
  · exact absurd h hi
theorem inB_iff (q a : Int) : inB q a = true ↔ 0 ≤ a ∧ a < q := by simp [inB]
theorem inL_pair (q a b : Int) : inL q [a, b] ↔ inB q a = true ∧ inB q b = true := by
  rw [inB_iff, inB_iff]
  constructor
  · intro h
    exact ⟨h 0 (by simp), h 1 (by simp)⟩
  · rintro ⟨h1, h2⟩ j hj
    have : j = 0 ∨ j = 1 := by simp at hj; omega
    rcases this with rfl | rfl
    · exact h1
    · exact h2

end Go.Proofs.YtgdkfbgehbdkjaaDoor.Fd
