/- The walk of modulo: what is left of a row, divided by a monic one. -/
import Derived.Test.YtamdpcajfgbagaaDoorBase
import Derived.BigRegion
namespace Go.Proofs.YtamdpcajfgbagaaDoor.Fd
open Go.RowKit

set_option maxRecDepth 100000 in
set_option maxHeartbeats 1000000 in
theorem modulo_any (f m : Nat → Int) (d p : Nat) (w : World) (hp : 2 ≤ p) (hp' : p ≤ 64) (hd : 1 ≤ d) (hd6 : d ≤ 6) (hf : inP p f) (hm : inP p m) :
    Calls Tryd.prog 43 #[.agg (prow f), .agg (prow m), .int .i64 d, .int .i64 p] w fun e w' => e = .returned (.agg (prow (redN m d p (11 - d) f))) ∧ Below w.heap.size w w' := by
  go_enter Tryd.func43, Tryd.ntmps43
  go_wp2
  go_loopw [9] (fun i wr => ∃ x : Int, i = .int .i64 x ∧ (d : Int) ≤ x + 1 ∧ x ≤ 10 ∧ ∃ g, Row wr w.heap.size g ∧ Row wr (w.heap.size + 1) m ∧ Row wr (w.heap.size + 1 + 1) (fun _ => 0) ∧ inP p g ∧ Hid (redN m d p (x + 1 - d).toNat g = redN m d p (11 - d) f) ∧ Below w.heap.size w wr) (fun i _ => (intOf i + 1).toNat)
  case atStart =>
    refine ⟨10, rfl, by omega, by omega, f, ((Row.made w f).alloc _).alloc _, ?_, ?_, hf, ?_, (((Below.refl _ _).alloc (Nat.le_refl _) _).alloc (by simp) _).alloc (by simp; omega) _⟩
    · have h := (Row.made (w.alloc (.cells (prow f) 61)) m).alloc (.cells (prow fun _ => 0) 61)
      rw [← prow_zero]; simpa using h
    · have h := Row.made ((w.alloc (.cells (prow f) 61)).alloc (.cells (prow m) 61)) (fun _ => 0)
      rw [← prow_zero]; simpa using h
    · show redN m d p (10 + 1 - (d : Int)).toNat f = redN m d p (11 - d) f
      rw [show (10 + 1 - (d : Int)).toNat = 11 - d by omega]
  case round =>
    obtain ⟨x, rfl, hx1, hx2, g, hr, hrm, hz, hg, HR, hb⟩ := hrel
    by_cases hlt : (d : Int) ≤ x
    · obtain ⟨i0, rfl⟩ := Int.eq_ofNat_of_zero_le (show 0 ≤ x by omega)
      obtain ⟨b, Hb⟩ : ∃ b : Int, Hid (b = g i0) := ⟨_, rfl⟩
      have hb0 := hg i0
      rw [← Hb.out] at hb0
      have hcb := hr.cell i0 (by omega)
      rw [← Hb.out] at hcb
      go_wp2
      go_loopw [11] (fun j wr' => ∃ n : Nat, j = .int .i64 n ∧ n ≤ d + 1 ∧ Row wr' w.heap.size (rdTo g m d p i0 n) ∧ Row wr' (w.heap.size + 1) m ∧ Row wr' (w.heap.size + 1 + 1) (fun _ => 0) ∧ Below w.heap.size w wr') (fun j _ => (d + 1 - intOf j).toNat)
      case atStart => exact ⟨0, rfl, by omega, hr.congr (fun j _ => (rdTo_zero g m d p i0 j).symm), hrm, hz, hb⟩
      case round =>
        obtain ⟨n, rfl, hn, hr', hrm', hz', hb'⟩ := hrel
        by_cases hle : n ≤ d
        · obtain ⟨a, Ha⟩ : ∃ a : Int, Hid (a = g (i0 - d + n)) := ⟨_, rfl⟩
          obtain ⟨c, Hc⟩ : ∃ c : Int, Hid (c = m n) := ⟨_, rfl⟩
          have ha0 := hg (i0 - d + n)
          rw [← Ha.out] at ha0
          have hc0 := hm n
          rw [← Hc.out] at hc0
          have hi0 : (0 : Int) ≤ (i0 : Int) - d + n := by omega
          have hi1 : (i0 : Int) - d + n < 11 := by omega
          have hca := hr'.cell (i0 - d + n) (by omega)
          rw [rdTo_at, ← Ha.out] at hca
          have hcf := hr'.frozen (i0 - d + n)
          have hcc := hrm'.cell n (by omega)
          rw [← Hc.out] at hcc
          have hm0 : 0 ≤ ((p : Int) - b) * c := Int.mul_nonneg (by omega) (by omega)
          have hm1 : ((p : Int) - b) * c ≤ 64 * 64 := Int.mul_le_mul (by omega) (by omega) (by omega) (by omega)
          go_wp2
          go_region
          all_goals
            go_wp2
            go_roundw
            case rel =>
              refine ⟨n + 1, by go_num, by omega, (hr'.set (i0 - d + n) _).congr (fun t _ => rdTo_succ g m d p i0 n _ ?_ t), hrm'.other _ _ (by simp), hz'.other _ _ (by simp; omega), (hb'.setCell (Nat.le_refl _) _).drew⟩
              rw [← Ha.out, ← Hb.out, ← Hc.out]; exact sub_mod a b c p
            case measure => simp [intOf]; omega
        · go_wp2
          go_roundw
          case rel =>
            refine ⟨(i0 : Int) - 1, rfl, by omega, by omega, rd g m d p i0, hr'.congr (fun t _ => ?_), hrm', hz', rd_in (by omega) hg, ?_, hb'⟩
            · rw [show n = d + 1 by omega]; exact rdTo_full g m d p i0 (by omega) t
            · show redN m d p ((i0 : Int) - 1 + 1 - d).toNat (rd g m d p i0) = _
              rw [← HR.out]
              rw [show ((i0 : Int) + 1 - d).toNat = (i0 - d) + 1 by omega, show ((i0 : Int) - 1 + 1 - d).toNat = i0 - d by omega]
              show _ = redN m d p (i0 - d) (rd g m d p (d + (i0 - d)))
              rw [show d + (i0 - d) = i0 by omega]
          case measure => simp [intOf]
    · go_wp2_with (first | (refine wpList_load_row rfl 61 _ rfl w.heap.size rfl 61 _ (0, 0) _ hr und51 rfl (inf51 _) ?_) | (refine wpList_store_row rfl 61 _ _ rfl (w.heap.size + 1 + 1) _ rfl rfl 61 _ hz (inf51 _) (by simp) (prow_one _) ?_))
      have e : (x + 1 - (d : Int)).toNat = 0 := by omega
      have HR' := HR.out
      rw [e] at HR'
      refine post_row 8 rfl rfl (hz.whole _) rfl ⟨?_, bsetRow hb (by omega) _⟩
      rw [← HR']; rfl

end Go.Proofs.YtamdpcajfgbagaaDoor.Fd
