/- The law RecurFound, walked: what taps make, Least finds no longer than these taps; what it tells makes the row. -/
import Derived.Test.YtglomemadcdagabR33
import Derived.Test.YtglomemadcdagabR21
namespace Go.Proofs.Ytglomemadcdagab
open Go.RowKit

theorem rowL_bel {p : Int} {l m : List Int} (hp : 0 < p) (hm : belB p m = true) (n : Nat) : belB p (rowL p l m n) = true := by
  rw [belB_iff]
  intro j hj
  rw [rowL_len] at hj
  rw [rowL_at _ _ _ hj]
  exact rowN_bd hp hm j
theorem row_makes {p : Int} {l m : List Int} (hl : m.length = l.length) (n : Nat) : Makes p l (fun j => (rowL p l m n).getD j 0) n := by
  intro j h1 h2
  show p ∣ (rowL p l m n).getD j 0 - dot l (fun j => (rowL p l m n).getD j 0) j
  rw [rowL_at _ _ _ h2, rowN_on (by omega) h1]
  have e : dot l (fun j => (rowL p l m n).getD j 0) j = sumTo (fun a => l.getD a 0 * rowN p l m (j - 1 - a)) l.length := by
    unfold dot
    exact sumTo_congr (fun a ha => by show l.getD a 0 * (rowL p l m n).getD (j - 1 - a) 0 = _; rw [rowL_at _ _ _ (by omega)])
  rw [e]
  exact emod_dvd p _
/-- Taps that make a row make it out of its first numbers. -/
theorem made_again {p : Int} {S T : List Int} (hp : 0 < p) (hS : belB p S = true) (hk : T.length ≤ S.length) (hM : Makes p T (fun j => S.getD j 0) S.length) : rowL p T (S.take T.length) S.length = S := by
  have hrow : ∀ i, i < S.length → rowN p T (S.take T.length) i = S.getD i 0 := by
    intro i
    induction i using Nat.strongRecOn with
    | _ i ih =>
      intro hi
      by_cases h : i < T.length
      · rw [rowN_seed (by rw [List.length_take]; omega), List.getD_eq_getElem?_getD, List.getElem?_take, if_pos h, ← List.getD_eq_getElem?_getD]
      · rw [rowN_on (by rw [List.length_take]; omega) (by omega)]
        rw [sumTo_congr (g := fun a => T.getD a 0 * S.getD (i - 1 - a) 0) (fun a ha => by rw [ih (i - 1 - a) (by omega) (by omega)])]
        have h1 := hM i (by omega) hi
        have h2 := belB_iff.1 hS i hi
        have h3 : p ∣ S.getD i 0 - sumTo (fun a => T.getD a 0 * S.getD (i - 1 - a) 0) T.length := h1
        have h4 := Int.dvd_add h3 (Int.dvd_sub (Int.dvd_zero p) (emod_dvd p (sumTo (fun a => T.getD a 0 * S.getD (i - 1 - a) 0) T.length)))
        have b1 := Int.emod_nonneg (sumTo (fun a => T.getD a 0 * S.getD (i - 1 - a) 0) T.length) (show p ≠ 0 by omega)
        have b2 := Int.emod_lt_of_pos (sumTo (fun a => T.getD a 0 * S.getD (i - 1 - a) 0) T.length) hp
        generalize sumTo (fun a => T.getD a 0 * S.getD (i - 1 - a) 0) T.length = X at h4 b1 b2 ⊢
        rw [show S.getD i 0 - X + (0 - (X % p - X)) = S.getD i 0 - X % p by omega] at h4
        obtain ⟨c, hc⟩ := h4
        have : c = 0 := by
          apply Classical.byContradiction
          intro hne
          rcases Int.lt_or_gt_of_ne hne with h | h
          · have : p * c ≤ p * (-1) := Int.mul_le_mul_of_nonneg_left (by omega) (by omega)
            omega
          · have : p * 1 ≤ p * c := Int.mul_le_mul_of_nonneg_left (by omega) (by omega)
            omega
        subst this
        omega
  apply List.ext_getElem
  · rw [rowL_len]
  · intro i h1 h2
    rw [rowL_len] at h1
    have e := hrow i h1
    rw [← rowL_at p T (S.take T.length) h1] at e
    simpa [h1, h2] using e

set_option maxHeartbeats 4000000 in
theorem lawF_any (p n : Int) (l m : List Int) (v u : Value) (w : World) (hl : Sl w v l) (hll : l.length ≤ maxLen) (hm : Sl w u m) (hml : m.length ≤ maxLen) :
    Calls Try.prog 3 #[.int .i64 p, v, u, .int .i64 n] w fun e w' => e = .returned (.bool true) ∧ Below w.heap.size w w' := by
  have C0 := runs_any w
  obtain ⟨z, Hz⟩ : ∃ z : Int, Hid (z = runZ p l m n) := ⟨_, rfl⟩
  by_cases h0 : z = 0
  · subst h0
    obtain ⟨e1, e2, e3⟩ := runZ_ok Hz.out.symm
    obtain ⟨f1, f2, f3⟩ := runF_ok e1
    obtain ⟨t1, t2, t3, t4⟩ := tapsF_ok f1
    have hpb := smB_bd t1
    obtain ⟨P, rfl⟩ := Int.eq_ofNat_of_zero_le (show 0 ≤ p by omega)
    obtain ⟨N, rfl⟩ := Int.eq_ofNat_of_zero_le e2
    have hN : N ≤ 5000 := by omega
    have C1 : ∀ A, Below w.heap.size w A → Calls Try.prog 5 #[.int .i64 (P : Int), v, u, .int .i64 (N : Int)] A fun e B => ∃ r, e = .returned (.tuple #[r, .int .i64 0]) ∧ B.ownsRow A.heap.size 3 1 r N ((rowL P l m N).map (Value.int .i64)) ∧ Below A.heap.size A B :=
      fun A hA => Run_ok P N l m v u A (hl.below hA) hll (hm.below hA) hml e1 hN
    by_cases hgt : 60 < N
    · have hd : decide ((60 : Int) < (N : Int)) = true := by simp; omega
      clear hpb e2 e3
      go_enter Try.func3, Try.ntmps3
      go_wp2_with (first
        | (go_at_call 4; refine C0.mono ?_; rintro e w0 ⟨rfl, hb0⟩)
        | (go_at_call 5; refine (C1 _ hb0).mono ?_; rintro e w1 ⟨r, rfl, ho1, hb1⟩))
      go_ret
      exact ⟨rfl, hb0.trans (hb1.mono hb0.size)⟩
    · have hd : decide ((60 : Int) < (N : Int)) = false := by simp; omega
      obtain ⟨S, HS⟩ : ∃ S : List Int, Hid (S = rowL P l m N) := ⟨_, rfl⟩
      have hSl : S.length = N := by rw [HS.out, rowL_len]
      have hSb : belB P S = true := by rw [HS.out]; exact rowL_bel (by omega) f3 N
      have hSm : Makes P l (fun j => S.getD j 0) N := by rw [HS.out]; exact row_makes f2 N
      have HSm : Hid (Makes P l (fun j => S.getD j 0) N ∧ S.length = N) := ⟨hSm, hSl⟩
      obtain ⟨q, Hq⟩ : ∃ q : Nat, Hid (l.length = q) := ⟨_, rfl⟩
      have hq : 1 ≤ q ∧ q ≤ 8 := by rw [← Hq.out]; exact ⟨t2, t3⟩
      have hP : 2 ≤ P ∧ P ≤ 7 := by omega
      have hN60 : N ≤ 60 := by omega
      obtain ⟨a, ca, rfl, _⟩ := id hl
      rw [Hq.out] at C1 ⊢
      clear hpb e2 e3 t2 t3 hSm f2 hgt
      go_enter Try.func3, Try.ntmps3
      go_wp2_with (first
        | (go_at_call 4; refine C0.mono ?_; rintro e w0 ⟨rfl, hb0⟩)
        | (go_at_call 5; refine (C1 _ hb0).mono ?_; rintro e w1 ⟨r, rfl, ho1, hb1⟩))
      have hB1 := hb0.trans (hb1.mono hb0.size)
      have hr1 : Sl w1 r S := by rw [HS.out]; exact slRow ho1
      refine (Least_ok P S r w1 t1 hr1 hSb (by rw [HSm.out.2]; exact hN60)).mono ?_
      rintro e w2 ⟨v2, T, R, rfl, hR, hL, hR1, hR2, hb2⟩
      have HL : Hid (LeastTaps P S T) := hL
      obtain ⟨k, Hk⟩ : ∃ k : Nat, Hid (T.length = k) := ⟨_, rfl⟩
      have hkq : k ≤ q := by
        rw [← Hk.out, ← Hq.out]
        exact hL.2.2.2 l (by rw [HSm.out.2]; exact HSm.out.1)
      have hkN : k ≤ N := by rw [← Hk.out, ← HSm.out.2]; exact hL.2.1
      have hB2 := hB1.trans (hb2.mono hB1.size)
      rw [Hk.out, HSm.out.2] at hR1 hR2
      clear hL C0 C1
      have hkq' : decide ((q : Int) < (k : Int)) = false := by simp; omega
      have hkN' : decide ((N : Int) < (k : Int)) = false := by simp; omega
      rw [Hk.out]
      obtain ⟨va, vc, rfl, _⟩ := id hR
      obtain ⟨rl, Hrl⟩ : ∃ rl : Nat, Hid (R.length = rl) := ⟨_, rfl⟩
      rw [Hrl.out]
      by_cases hrl : rl = 0
      · subst hrl
        go_wp2
        go_ret
        exact ⟨rfl, hB2⟩
      · have hTR : R = T := by
          by_cases hc : 2 * k ≤ N
          · exact hR1 hc
          · exact absurd (by rw [← Hrl.out, hR2 (by omega)]; rfl) hrl
        subst hTR
        obtain rfl : rl = k := by rw [← Hrl.out, Hk.out]
        have hrd : ((rl : Int) == 0) = false := by simp; omega
        obtain ⟨g, cg, rfl, hgb, hcg1, hcg2, hOr⟩ := own_of_row ho1 (by omega)
        have hS3 : Sl w2 (.slice (some ⟨g, 0, none⟩) rl cg) (S.take rl) := by
          have hO2 := hOr.below hb2
          refine ⟨_, cg, by rw [List.length_take, HSm.out.2, Nat.min_eq_left hkN], fun j hj => ⟨g, 0, rfl, ?_⟩⟩
          rw [List.length_take] at hj
          rw [Nat.zero_add, hO2.cell j (by omega), ← HS.out, List.getD_eq_getElem?_getD, List.getD_eq_getElem?_getD, List.getElem?_take, if_pos (by omega)]
        have hrun : runF P R (S.take rl) = 0 := by
          refine runF_mk (tapsF_mk t1 (by rw [Hk.out]; omega) (by rw [Hk.out]; omega) HL.out.1) (by rw [List.length_take, HSm.out.2, Hk.out]; omega) ?_
          rw [belB_iff]
          intro j hj
          rw [List.length_take] at hj
          have h := belB_iff.1 hSb j (by omega)
          rw [List.getD_eq_getElem?_getD, List.getElem?_take, if_pos (by omega), ← List.getD_eq_getElem?_getD]; exact h
        have hag : rowL P R (S.take rl) N = S := by
          have h := made_again (p := (P : Int)) (by omega) hSb HL.out.2.1 HL.out.2.2.1
          rw [Hk.out, HSm.out.2] at h; exact h
        have hR' := hR
        rw [Hk.out] at hR'
        have C2 := Run_ok P N R (S.take rl) _ _ w2 hR' (by rw [Hk.out]; unfold maxLen; omega) hS3 (by rw [List.length_take]; unfold maxLen; omega) hrun (by omega)
        rw [hag] at C2
        have hr2 := hr1.below hb2
        clear hR1 hR2 ho1 hOr hrun hag hS3 hR hrl
        unfold maxLen at hcg2
        have hrr : ((rl : Int) == (rl : Int)) = true := by simp
        go_wp2_with fail
        refine C2.mono ?_
        rintro e w3 ⟨r3, rfl, ho3, hb3⟩
        have hr3 : Sl w3 r3 S := Sl.owned (base := w2.heap.size) (by rw [HSm.out.2]; exact ho3)
        have C3 := ints_any S S r3 _ w3 hr3 (hr2.below hb3) (by rw [HSm.out.2]; unfold maxLen; omega) (by rw [HSm.out.2]; unfold maxLen; omega)
        go_wp2_with (first
          | (go_at_call 7; refine C3.mono ?_; rintro e w4 ⟨bb, rfl, hbb, hb4⟩; obtain rfl : bb = true := (by first | exact hbb.2 rfl | simpa using hbb)))
        go_ret
        exact ⟨rfl, (hB2.trans (hb3.mono hB2.size)).trans (hb4.mono (by have h1 := hB2.size; have h2 := hb3.size; omega))⟩
  · have C1 : ∀ A, Below w.heap.size w A → Calls Try.prog 5 #[.int .i64 p, v, u, .int .i64 n] A fun e B => ∃ r, e = .returned (.tuple #[r, .int .i64 z]) ∧ Below A.heap.size A B := by
      intro A hA
      refine (Run_gen p n l m v u A (hl.below hA) hll (hm.below hA) hml).mono ?_
      rintro e B ⟨r, z', rfl, hz, hb⟩
      exact ⟨r, by rw [hz, Hz.out], hb⟩
    have hd : (z != 0) = true := by simpa using h0
    go_enter Try.func3, Try.ntmps3
    go_wp2_with (first
      | (go_at_call 4; refine C0.mono ?_; rintro e w0 ⟨rfl, hb0⟩)
      | (go_at_call 5; refine (C1 _ hb0).mono ?_; rintro e w1 ⟨r, rfl, hb1⟩))
    go_ret
    exact ⟨rfl, hb0.trans (hb1.mono hb0.size)⟩

end Go.Proofs.Ytglomemadcdagab
