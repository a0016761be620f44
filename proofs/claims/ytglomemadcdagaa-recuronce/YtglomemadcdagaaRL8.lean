/- The law RecurOnce, walked: in one period of a full row each window but that of noughts stands once. -/
import Derived.Test.YtglomemadcdagaaRL6
import Derived.Test.YtglomemadcdagaaR21
namespace Go.Proofs.Ytglomemadcdagaa
open Go.RowKit

theorem und4 : Try.prog.underlying 4 = some .bool := by kernel_rfl
theorem und42 : Try.prog.underlying 42 = some (.slice 4) := by kernel_rfl
theorem info4 : ∃ i, Try.prog.info? 4 = some i ∧ i.zero = some (.bool false) ∧ i.size = 1 ∧ i.bytes = 1 := by
  have h1 : (Try.prog.info? 4).map (·.zero) = some (some (.bool false)) := by kernel_rfl
  have h2 : (Try.prog.info? 4).map (·.size) = some 1 := by kernel_rfl
  have h3 : (Try.prog.info? 4).map (·.bytes) = some 1 := by kernel_rfl
  cases h : Try.prog.info? 4 with
  | none => rw [h] at h1; cases h1
  | some i =>
    rw [h] at h1 h2 h3
    exact ⟨i, rfl, Option.some.inj h1, Option.some.inj h2, Option.some.inj h3⟩
/-- Block g is a row of truths of the call's own. -/
def OwnB (w : World) (g n : Nat) (f : Nat → Bool) : Prop := ∃ cur, w.heap[g]? = some (.cells cur 4 (0, 0)) ∧ ∀ j, j < n → cur[j]? = some (.bool (f j))
theorem OwnB.lt {w : World} {g n : Nat} {f : Nat → Bool} (h : OwnB w g n f) : g < w.heap.size := by
  obtain ⟨cur, h, _⟩ := h
  exact (Array.getElem?_eq_some_iff.1 h).1
theorem OwnB.cell {w : World} {g n : Nat} {f : Nat → Bool} (h : OwnB w g n f) (j : Nat) (hj : j < n) : w.cell? ⟨g, j, none⟩ = some (.bool (f j)) := by
  obtain ⟨cur, h, hc⟩ := h
  rw [cell_of_row w g j _ _ _ h, hc j hj]
theorem OwnB.frozen {w : World} {g n : Nat} {f : Nat → Bool} (h : OwnB w g n f) (j : Nat) : w.frozen? ⟨g, j, none⟩ = false := by
  obtain ⟨cur, h, _⟩ := h
  exact frozen_of_row w g j _ _ h
theorem OwnB.set {w : World} {g n : Nat} {f : Nat → Bool} (h : OwnB w g n f) (i : Nat) : OwnB (w.setCell ⟨g, i, none⟩ (.bool true)) g n (fun j => f j || j == i) := by
  obtain ⟨cur, h, hc⟩ := h
  refine ⟨_, heap_setCell_same w g i _ _ _ h, fun j hj => ?_⟩
  have hcj := hc j hj
  have hlt : j < cur.size := (Array.getElem?_eq_some_iff.1 hcj).1
  rw [Array.getElem?_setIfInBounds]
  by_cases e : i = j
  · subst e; rw [if_pos rfl, if_pos hlt]; simp
  · rw [if_neg e, hcj]; simp [Ne.symm e]
theorem ownB_made {w : World} {base g n : Nat} (h : w.ownsRow base 4 1 (.slice (some ⟨g, 0, none⟩) n n) n (madeCells #[Value.bool false] n).toList) : OwnB w g n (fun _ => false) := by
  obtain ⟨_, ⟨h1, _⟩ | ⟨g', cap, cur, e, hb, hg, h2, h3, h4, ht⟩⟩ := h
  · cases h1
  · cases e
    refine ⟨cur, hg, fun j hj => ?_⟩
    have e2 : (cur.toList.take (n * 1))[j]? = ((madeCells #[Value.bool false] n).toList)[j]? := by rw [ht]
    rw [List.getElem?_take, if_pos (by omega)] at e2
    rw [← Array.getElem?_toList, e2]
    simp [madeCells, hj, Nat.mod_one]
def seenF (z : Nat → Int) (t : Nat) : Nat → Bool := fun x => (List.range t).any fun j => (z j).toNat == x
theorem seenF_succ (z : Nat → Int) (t x : Nat) : seenF z (t + 1) x = (seenF z t x || x == (z t).toNat) := by
  unfold seenF
  rw [List.range_succ, List.any_append, List.any_cons, List.any_nil, Bool.or_false]
  congr 1
  rw [Bool.eq_iff_iff, beq_iff_eq, beq_iff_eq]
  exact ⟨Eq.symm, Eq.symm⟩
theorem seenF_new {z : Nat → Int} {t n : Nat} (h : Apart z n) (hz : ∀ j, 0 ≤ z j) (ht : t < n) : seenF z t (z t).toNat = false := by
  unfold seenF
  rw [Bool.eq_false_iff]
  intro e
  obtain ⟨j, hj, e2⟩ := List.any_eq_true.1 e
  have e3 : (z j).toNat = (z t).toNat := by simpa using e2
  have h1 := hz j
  have h2 := hz t
  exact h j t (by simpa using hj) ht (by omega)

set_option maxHeartbeats 4000000 in
theorem law8_any (p k : Int) (w : World) :
    Calls Try.prog 8 #[.int .i64 p, .int .i64 k] w fun e w' => e = .returned (.bool true) ∧ Below w.heap.size w w' := by
  have C0 := runs_any w
  obtain ⟨z, Hz⟩ : ∃ z : Int, Hid (z = fullZ p k) := ⟨_, rfl⟩
  by_cases h0 : z = 0
  · subst h0
    obtain ⟨h1, h2, h3, h4⟩ := fullZ_ok Hz.out.symm
    have hpb := smB_bd h1
    obtain ⟨P, rfl⟩ := Int.eq_ofNat_of_zero_le (show 0 ≤ p by omega)
    obtain ⟨K, rfl⟩ := Int.eq_ofNat_of_zero_le (show 0 ≤ k by omega)
    rw [Int.toNat_natCast, Int.toNat_natCast] at h4
    obtain ⟨Q, HQ⟩ : ∃ Q : Nat, Hid (Q = P ^ K) := ⟨_, rfl⟩
    rw [← HQ.out] at h4
    have C1 := fun A => Full_ok P K Q A h1 (by omega) (by omega) HQ h4
    have hK8 : K ≤ 8 := by omega
    have hK1 : 1 ≤ K := by omega
    have hp : 2 ≤ P := by omega
    have hp' : P ≤ 7 := by omega
    have hQ2 : 2 ≤ Q := by
      rw [HQ.out]
      exact Nat.le_trans (by rw [Nat.pow_one]; exact hp) (Nat.pow_le_pow_right (by omega) hK1)
    clear h2 h3 hpb Hz
    go_enter Try.func8, Try.ntmps8
    go_wp2_with fail
    refine C0.mono ?_
    rintro e w0 ⟨rfl, hb0⟩
    go_wp2_with fail
    refine (C1 w0).mono ?_
    rintro e w1 ⟨u, s, z, rfl, hs1, hF1, hb1⟩
    have hB1 := hb0.trans (hb1.mono hb0.size)
    clear C0 C1
    rcases hF1 with ⟨n, hn, hfull, _, rfl, rfl⟩ | ⟨_, rfl, rfl⟩
    · obtain ⟨i3, hi, hz0, hz1, hz2⟩ := info3
      obtain ⟨i4, gi, gz0, gz1, gz2⟩ := info4
      obtain ⟨zz, Hzz⟩ : ∃ f : Nat → Int, Hid (f = winN P (dgL n P K) (seedL K)) := ⟨_, rfl⟩
      have HPER : Hid (PerIs zz 0 (Q - 1)) := by show PerIs zz 0 (Q - 1); rw [Hzz.out]; exact hfull
      have hap : Apart zz (Q - 1) := fun a b h1 h2 => HPER.out.2.2 a b h1 (by omega)
      have hpos : ∀ i, i < Q - 1 → zz i ≠ 0 := by
        rw [Hzz.out]
        exact full_pos (by omega) hK1 (dgL_len n P K) hfull (seedL_bel hp)
      have hzb : ∀ j, 0 ≤ zz j ∧ zz j < (Q : Int) := fun j => by
        have h := winN_bd (taps := dgL n P K) (seed := seedL K) (p := (P : Int)) (by omega) (seedL_bel hp) j
        rw [dgL_len, show (P : Int) ^ K = (Q : Int) by rw [HQ.out, Int.natCast_pow]] at h
        rw [Hzz.out]; exact h
      have hrf : runF P (dgL n P K) (seedL K) = 0 := runF_mk (tapsF_mk h1 (by rw [dgL_len]; exact hK1) (by rw [dgL_len]; exact hK8) (dgL_bel hp)) (by rw [seedL_len, dgL_len]) (seedL_bel hp)
      obtain ⟨N, HN⟩ : ∃ N : Nat, Hid (N = Q + K - 2) := ⟨_, rfl⟩
      have hN1 : (Q : Int) + (K : Int) - 2 = (N : Int) := by rw [HN.out]; omega
      have hNb : N ≤ 5000 ∧ 1 ≤ N ∧ N + 2 = Q + K := by rw [HN.out]; omega
      have C2 : ∀ A, Calls Try.prog 22 #[.int .i64 (P : Int), .int .i64 (K : Int), .int .i64 2000] A fun e B => e = .returned (.int .i64 (Q : Int)) ∧ B = A := by
        intro A
        have C := states_ref P K 2000 A hp hp' (by omega) (by omega) (by omega)
        rw [show statZ P K 2000 = Q by unfold statZ; rw [← HQ.out, if_pos h4]] at C; exact C
      have C3 : ∀ A v, Below w1.heap.size w1 A → Sl A v (seedL K) → Calls Try.prog 12 #[.int .i64 (P : Int), u, v, .int .i64 (N : Int)] A fun e B => ∃ r, e = .returned (.tuple #[r, .int .i64 0]) ∧ B.ownsRow A.heap.size 3 1 r N ((rowL P (dgL n P K) (seedL K) N).map (Value.int .i64)) ∧ Below A.heap.size A B :=
        fun A v hA hv => Run_ok P N (dgL n P K) (seedL K) u v A (hs1.below hA) (by rw [dgL_len]; unfold maxLen; omega) hv (by rw [seedL_len]; unfold maxLen; omega) hrf hNb.1
      have CN : ∀ A t s, Sl A s (winL P (dgL n P K) (seedL K) t) → Calls Try.prog 23 #[s, .int .i64 P] A fun e B => e = .returned (.int .i64 (zz t)) ∧ B = A := by
        intro A t s hs
        have h := numberRef_any P (winL P (dgL n P K) (seedL K) t) s A hs hp hp' (by rw [winL_len, dgL_len]; exact hK8) (winL_bel (by omega) (seedL_bel hp) t)
        rw [winL_num, ← Hzz.out] at h; exact h
      obtain ⟨km, Hkm⟩ : ∃ x : Nat, Hid (x = K - 1) := ⟨_, rfl⟩
      have hkm : (K : Int) - 1 = (km : Int) := by rw [Hkm.out]; omega
      have hkl : km < K := by rw [Hkm.out]; omega
      have hNN : ((N : Int) != (N : Int)) = false := by simp
      clear hfull hrf
      obtain ⟨ua, uc, rfl, _⟩ := id hs1
      go_wp2_with (first
        | (at_make; refine wpList_make_full _ rfl _ _ 22 rfl w1.heap.size 3 i3 (.int .i64 0) 1 und22 hi hz0 hz1 .i64 .i64 (K : Int) (K : Int) K rfl rfl rfl rfl ?c1 ?c2 (Nat.le_refl _) ?_))
      case c1 => rw [hz2]; omega
      case c2 => unfold maxLen; omega
      intro w2 how2 hgr2
      have hO2 := own_made' how2
      have hb2 : Below w1.heap.size w1 w2 := ⟨hgr2.os, hgr2.tape, hgr2.output, hgr2.size, fun k hk => hgr2.block k hk (by simp)⟩
      clear how2 hgr2
      have hc2 := hO2.cell km hkl
      have hf2 := hO2.frozen km
      have hS3 : Sl (w2.setCell ⟨w1.heap.size, km, none⟩ (.int .i64 1)) (.slice (some ⟨w1.heap.size, 0, none⟩) K K) (seedL K) :=
        ((hO2.set km 1).congr (f' := fun j => if j = K - 1 then 1 else 0) (fun j _ => by unfold upd; rw [Hkm.out])).sl K
      have hb3 : Below w1.heap.size w1 (w2.setCell ⟨w1.heap.size, km, none⟩ (.int .i64 1)) := hb2.setCell (p := ⟨w1.heap.size, km, none⟩) (Nat.le_refl _) _
      obtain ⟨w3, Hw3⟩ : ∃ w3, Hid (w3 = w2.setCell ⟨w1.heap.size, km, none⟩ (.int .i64 1)) := ⟨_, rfl⟩
      rw [← Hw3.out] at hS3 hb3
      have R3 := C3 w3 _ hb3 hS3
      have hB3 := hB1.trans (hb3.mono hB1.size)
      clear C3
      go_wp2_with (first
        | (go_at_call 22; refine (C2 _).mono ?_; rintro e w' ⟨rfl, hw⟩; replace hw := hw.symm; subst hw)
        | (go_at_call 12; rw [← Hw3.out]; refine R3.mono ?_; rintro e w4 ⟨r, rfl, ho4, hb4⟩
           obtain ⟨g, cg, rfl, hgb, hcg1, hcg2, hOr4⟩ := own_of_row ho4 (by omega)
           have hB4 := hB3.trans (hb4.mono hB3.size))
        | (at_make; refine wpList_make_full _ rfl _ _ 42 rfl w4.heap.size 4 i4 (.bool false) 1 und42 gi gz0 gz1 .i64 .i64 (Q : Int) (Q : Int) Q rfl rfl rfl rfl ?d1 ?d2 (Nat.le_refl _) ?_))
      case d1 => rw [gz2]; omega
      case d2 => unfold maxLen; omega
      intro w5 how5 hgr5
      have hO5 := ownB_made how5
      have hb5 : Below w4.heap.size w4 w5 := ⟨hgr5.os, hgr5.tape, hgr5.output, hgr5.size, fun k hk => hgr5.block k hk (by simp)⟩
      have hOr5 := hOr4.below hb5
      have hgl := hOr4.lt
      have hB5 := hB4.trans (hb5.mono hB4.size)
      obtain ⟨G, HG⟩ : ∃ G, Hid (G = w4.heap.size) := ⟨_, rfl⟩
      rw [← HG.out] at hO5 ⊢
      have hgG : g < G := by rw [HG.out]; exact hgl
      have hwG : w.heap.size ≤ G := by rw [HG.out]; have := hB4.size; omega
      clear how5 hgr5 ho4 hOr4 hb5 R3 hS3 hb3 hc2 hf2 hO2 hb2 C2
      unfold maxLen at hcg2
      go_wp2
      go_loopw [12] (fun i wr => ∃ t : Nat, i = .int .i64 t ∧ t ≤ Q - 1 ∧ OwnB wr G Q (seenF zz t) ∧ Own wr g N (fun j => (rowL P (dgL n P K) (seedL K) N).getD j 0) ∧ Below w.heap.size w wr) (fun i _ => (Q - intOf i).toNat)
      case atStart => exact ⟨0, rfl, by omega, hO5, hOr5, hB5⟩
      case round =>
        obtain ⟨t, rfl, htQ, hO, hOr, hB⟩ := hrel
        by_cases hlt : t < Q - 1
        · have hle : (t : Int) + (K : Int) ≤ (N : Int) := by omega
          have hSW : Sl wr (.slice (some ⟨g, t, none⟩) K (cg - t)) (winL P (dgL n P K) (seedL K) t) := by
            refine ⟨_, cg - t, by rw [winL_len, dgL_len], fun j hj => ⟨g, t, rfl, ?_⟩⟩
            rw [winL_len, dgL_len] at hj
            rw [hOr.cell (t + j) (by omega), winL_at _ _ _ _ (by rw [dgL_len]; exact hj), rowL_at _ _ _ (by omega)]
          obtain ⟨xw, Hxw⟩ : ∃ xw : Nat, Hid (xw = (zz t).toNat) := ⟨_, rfl⟩
          have hzi : zz t = (xw : Int) := by have := hzb t; rw [Hxw.out]; omega
          have hxQ : xw < Q := by have := (hzb t).2; omega
          have hx0 : 0 < xw := by have := hpos t hlt; omega
          have CN' : Calls Try.prog 23 #[.slice (some ⟨g, t, none⟩) K (cg - t), .int .i64 P] wr fun e B => e = .returned (.int .i64 (xw : Int)) ∧ B = wr := by
            have h := CN wr t _ hSW
            rw [hzi] at h; exact h
          have hcell := hO.cell xw hxQ
          have hnew : seenF zz t xw = false := by rw [Hxw.out]; exact seenF_new hap (fun j => (hzb j).1) hlt
          rw [hnew] at hcell
          have hfr := hO.frozen xw
          have q1 : decide ((xw : Int) ≤ 0) = false := by simp; omega
          have q2 : decide ((Q : Int) ≤ (xw : Int)) = false := by simp; omega
          go_wp2_with (first
            | (go_at_call 23; refine CN'.mono ?_; rintro e w6 ⟨rfl, hw⟩; replace hw := hw.symm; subst hw))
          go_roundw
          case rel =>
            refine ⟨t + 1, by go_num, by omega, ?_, hOr.other ⟨G, xw, none⟩ _ (by simp; omega), hB.setCell (p := ⟨G, xw, none⟩) (by simp; omega) _⟩
            rw [show seenF zz (t + 1) = fun j => seenF zz t j || j == xw from funext fun j => by rw [seenF_succ, Hxw.out]]
            exact hO.set xw
          case measure => simp [intOf]; omega
        · obtain rfl : t = Q - 1 := by omega
          have hgt : ¬ ((Q - 1 : Nat) : Int) + (K : Int) ≤ (N : Int) := by omega
          have hgt' : decide (((Q - 1 : Nat) : Int) + (K : Int) ≤ (N : Int)) = false := by simp; omega
          go_wp2
          go_ret
          exact ⟨rfl, hB⟩
    · obtain ⟨ua, uc, rfl, _⟩ := id hs1
      go_wp2
      go_ret
      exact ⟨rfl, hB1⟩
  · have C1 := fun A => Full_bad p k A z Hz.out.symm h0
    have hd : (z != 0) = true := by simpa using h0
    go_enter Try.func8, Try.ntmps8
    go_wp2_with (first
      | (go_at_call 21; refine C0.mono ?_; rintro e w0 ⟨rfl, hb0⟩)
      | (go_at_call 19; refine (C1 _).mono ?_; rintro e w1 ⟨rfl, hw⟩; replace hw := hw.symm; subst hw))
    go_ret
    exact ⟨rfl, hb0⟩

end Go.Proofs.Ytglomemadcdagaa
