/- The walk of Fault: what is wrong with a field. -/
import Derived.Test.YtjfjdidibglhaaaDoorBaseB
import Derived.Test.YtjfjdidibglhaaaDoorW51
import Derived.Test.YtjfjdidibglhaaaDoorW34
import Derived.Test.YtjfjdidibglhaaaDoorW35
import Derived.Deep.QuietTactic
import Derived.BigQuiet
namespace Go.Proofs.YtjfjdidibglhaaaDoor.Fd
open Go.RowKit

set_option maxRecDepth 100000 in
set_option maxHeartbeats 1000000 in
theorem fault_any (p k : Int) (l : List Int) (v : Value) (w : World) (hl : Sl w v l) :
    Calls Tryd.prog 12 #[.agg #[.int .i64 p, .int .i64 k, v]] w fun e w' => ∃ z : Int, e = .returned (.int .i64 z) ∧ FaultIs p k l z ∧ Below w.heap.size w w' := by
  by_cases h0 : ordZ p k = 0
  · obtain ⟨a, cap, rfl, _⟩ := hl
    have HO : Hid (ordZ p k = 0) := h0
    have hbb : (ordZ p k == 0) = true := by simp [h0]
    clear h0
    go_enter Tryd.func12, Tryd.ntmps12
    go_wp2_with (go_at_call 24; refine (orderOf_any p k _).mono ?_; rintro e w' ⟨rfl, rfl⟩)
    go_ret
    exact ⟨1, rfl, .inl ⟨HO.out, rfl⟩, (Below.refl _ _).alloc (Nat.le_refl _) _⟩
  · have hbb : (ordZ p k == 0) = false := by simpa using h0
    by_cases h1 : (l.length : Int) = k
    · obtain ⟨P, K, rfl, rfl, hP, hP', hK, hK', hPK, HQ⟩ := ord_nat h0
      have hlK : l.length = K := by omega
      obtain ⟨b, off, cap, rfl, hbw, hlc⟩ := hl.form hlK (by omega)
      have HN0 : Hid (ordZ (P : Int) K ≠ 0) := h0
      clear h0 HQ
      have hne : ((K : Int) != K) = false := by simp
      go_enter Tryd.func12, Tryd.ntmps12
      go_wp2_with (go_at_call 24; refine (orderOf_any P K _).mono ?_; rintro e w' ⟨rfl, rfl⟩)
      go_loopw [4] (fun i wr => ∃ j : Nat, i = .int .i64 j ∧ j ≤ K ∧ Hid (∀ t, t < j → 0 ≤ l.getD t 0 ∧ l.getD t 0 < (P : Int)) ∧ FB wr w.heap.size P K (.slice (some ⟨b, off, none⟩) K cap) ∧ Below w.heap.size w wr) (fun i _ => (K - intOf i).toNat)
      case atStart => exact ⟨0, rfl, by omega, (fun t ht => by omega : ∀ t, t < 0 → _), FB.made w _ _ _, (Below.refl _ _).alloc (Nat.le_refl _) _⟩
      case round =>
        obtain ⟨j, rfl, hj, HALL, hF, hb⟩ := hrel
        have hFc := hF.cells
        by_cases hlt : j < K
        · obtain ⟨z, Hz⟩ : ∃ z : Int, Hid (z = l.getD j 0) := ⟨_, rfl⟩
          have hcz := (hb.cell (p := ⟨b, off + j, none⟩) hbw).trans (hlc j hlt)
          rw [← Hz.out] at hcz
          have hji : (j : Int) < K := by omega
          have hdec : decide ((j : Int) < K) = true := by simp; omega
          by_cases hz0 : z < 0
          · have hd : decide (z < 0) = true := by simpa using hz0
            go_wp2
            go_quiet (fail)
            go_wp2
            go_ret
            refine ⟨1, rfl, .inr (.inr (.inl ⟨HN0.out, by omega, fun h => ?_, rfl⟩)), bdrewN hb _⟩
            have := h j (by omega)
            rw [← Hz.out] at this
            omega
          · have hd : decide (z < 0) = false := by simpa using hz0
            by_cases hzp : (P : Int) ≤ z
            · go_wp2
              go_quiet (fail)
              go_wp2
              go_ret
              refine ⟨1, rfl, .inr (.inr (.inl ⟨HN0.out, by omega, fun h => ?_, rfl⟩)), bdrewN hb _⟩
              have := h j (by omega)
              rw [← Hz.out] at this
              omega
            · have hd2 : decide ((P : Int) ≤ z) = false := by simpa using hzp
              go_wp2
              go_quiet (fail)
              go_wp2
              go_roundw
              case rel =>
                refine ⟨j + 1, by go_num, by omega, (fun t ht => ?_ : ∀ t, t < j + 1 → _), hF, bdrewN hb _⟩
                by_cases e : t = j
                · subst e; rw [← Hz.out]; omega
                · exact HALL.out t (by omega)
              case measure => simp [intOf]; omega
        · have HIN : Hid (inL (P : Int) l) := (fun t ht => HALL.out t (by omega) : inL (P : Int) l)
          have hdec : decide ((j : Int) < K) = false := by simp; omega
          go_wp2
          have hSl : Sl w (.slice (some ⟨b, off, none⟩) K cap) l := hl
          have hmin := monL_in (l := l) (p := (P : Int)) (by omega) HIN.out
          go_loopw [5, 6] (fun q i wr => ∃ n c : Nat, i = .int .i64 n ∧ q = .int .i64 c ∧ 1 ≤ n ∧ 2 * n ≤ K + 2 ∧ Hid (c * P = P ^ n) ∧ Hid (irrTo (monL l) P n 0) ∧ FB wr w.heap.size P K (.slice (some ⟨b, off, none⟩) K cap) ∧ Below w.heap.size w wr) (fun _ i _ => (K + 2 - 2 * intOf i).toNat)
          case atStart => exact ⟨1, 1, rfl, rfl, by omega, by omega, (show 1 * P = P ^ 1 by simp), (⟨fun e h1 h2 => by omega, fun b hb => by omega⟩ : irrTo (monL l) P 1 0), hF, hb⟩
          case round =>
            clear hF hFc hb
            obtain ⟨n, c, rfl, rfl, hn, h2n, HC, HI, hF, hb⟩ := hrel
            have hFc := hF.cells
            by_cases hle : 2 * n ≤ K
            · have hdec2 : decide (2 * (n : Int) ≤ K) = true := by simp; omega
              obtain ⟨q, Hq⟩ : ∃ q : Nat, Hid (q = P ^ n) := ⟨_, rfl⟩
              have hqc : (c : Int) * P = (q : Int) := by rw [Hq.out, ← HC.out, Int.natCast_mul]
              have hq64 : q ≤ 64 := by rw [Hq.out]; exact pow_le_of hP (by omega) hPK
              go_wp2
              go_loopw [7] (fun i wr => ∃ m : Nat, i = .int .i64 m ∧ m ≤ q ∧ Hid (irrTo (monL l) P n m) ∧ FB wr w.heap.size P K (.slice (some ⟨b, off, none⟩) K cap) ∧ Below w.heap.size w wr) (fun i _ => (q - intOf i).toNat)
              case atStart => exact ⟨0, rfl, by omega, HI, hF, hb⟩
              case round =>
                clear hF hFc hb
                obtain ⟨m, rfl, hm, HI', hF, hb⟩ := hrel
                have hFc := hF.cells
                by_cases hlt2 : m < q
                · have hdec3 : decide ((m : Int) < q) = true := by simp; omega
                  go_wp2_with fail
                  refine (digits_any m P n _ (by omega) hP (by omega) (by omega)).mono ?_
                  rintro e w1 ⟨v1, rfl, hown1, hb1⟩
                  have hF1 := hF.below hb1
                  have hb1' : Below w.heap.size w w1 := hb.trans (hb1.mono hb.size)
                  have hFc1 := hF1.cells
                  go_wp2_with fail
                  refine (divides_any (digL m P n) l n K P v1 _ _ (digL_length m P n) hlK ?_ ?_ hn (by omega) (by omega) hP (by omega) ?_ ?_).mono ?_
                  · refine Sl.owned (base := wr.heap.size) ?_
                    rw [digL_length]; exact hown1
                  · exact hSl.below hb1'
                  · intro t ht
                    rw [digL_at _ _ _ _ ht]; exact digF_in m P (by omega) t
                  · intro t ht; exact HIN.out t (by omega)
                  rintro e w2 ⟨r, rfl, hr, hb2⟩
                  have hF2 := hF1.below hb2
                  have hb2' : Below w.heap.size w w2 := hb1'.trans (hb2.mono hb1'.size)
                  have HR : Hid (r = true ↔ isZ (redN (digF (P ^ n + m) P) n P (11 - n) (monL l))) := hr.trans (div_same hP hlK hmin (by omega) (by omega) (by rw [← Hq.out]; exact hlt2))
                  clear hr
                  cases r
                  · go_wp2
                    go_roundw
                    case rel =>
                      exact ⟨m + 1, by go_num, by omega, irrTo_succ HI'.out (fun h => absurd (HR.out.2 h) Bool.false_ne_true), hF2, hb2'⟩
                    case measure => simp [intOf]; omega
                  · go_wp2
                    go_ret
                    exact ⟨4, rfl, .inr (.inr (.inr (.inl ⟨HN0.out, by omega, HIN.out, irr_not (d := n) (b := m) hn (by simpa using hle) (by rw [Int.toNat_natCast, ← Hq.out]; exact hlt2) (by rw [Int.toNat_natCast]; exact HR.out.1 (by trivial)), rfl⟩))), hb2'⟩
                · go_wp2
                  go_roundw
                  case rel =>
                    refine ⟨n + 1, q, by go_num, rfl, by omega, by omega, ?_, ?_, hF, hb⟩
                    · show q * P = P ^ (n + 1)
                      rw [Nat.pow_succ, ← Hq.out]
                    · refine irrTo_next ?_
                      rw [← Hq.out, show q = m by omega]
                      exact HI'.out
                  case measure => simp [intOf]; omega
            · go_wp2
              go_ret
              exact ⟨0, rfl, .inr (.inr (.inr (.inr ⟨HN0.out, by omega, HIN.out, irr_done HI.out (by simp; omega), rfl⟩))), hb⟩
    · have HO : Hid (ordZ p k ≠ 0) := h0
      have hl1 : Hid ((l.length : Int) ≠ k) := h1
      obtain ⟨a, cap, rfl, _⟩ := hl
      have hne : ((l.length : Int) != k) = true := by simpa using h1
      clear h0
      go_enter Tryd.func12, Tryd.ntmps12
      go_wp2_with (go_at_call 24; refine (orderOf_any p k _).mono ?_; rintro e w' ⟨rfl, rfl⟩)
      go_ret
      exact ⟨2, rfl, .inr (.inl ⟨HO.out, hl1.out, rfl⟩), (Below.refl _ _).alloc (Nat.le_refl _) _⟩

end Go.Proofs.YtjfjdidibglhaaaDoor.Fd
