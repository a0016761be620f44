/- The walk of times. -/
import Derived.Test.YtagpbkcnjogbgabDoorW57
namespace Go.Proofs.YtagpbkcnjogbgabDoor.Fd
open Go.RowKit

theorem four_rows (w : World) (f g : Nat → Int) : ∃ W, W = ((((w.alloc (.cells (prow f) 57)).alloc (.cells (prow g) 57)).alloc (.cells #[.int .i64 0, .int .i64 0, .int .i64 0, .int .i64 0, .int .i64 0, .int .i64 0, .int .i64 0, .int .i64 0, .int .i64 0, .int .i64 0, .int .i64 0] 57)).alloc (.cells #[.int .i64 0, .int .i64 0, .int .i64 0, .int .i64 0, .int .i64 0, .int .i64 0, .int .i64 0, .int .i64 0, .int .i64 0, .int .i64 0, .int .i64 0] 57)) ∧ Row W w.heap.size f ∧ Row W (w.heap.size + 1) g ∧ Row W (w.heap.size + 1 + 1) (fun _ => 0) ∧ Row W (w.heap.size + 1 + 1 + 1) (fun _ => 0) ∧ Below w.heap.size w W := by
  obtain ⟨h1, h2, h3, h4⟩ := three_rows w f g
  refine ⟨_, rfl, h1.alloc _, h2.alloc _, h3.alloc _, ?_, h4.alloc h4.size _⟩
  have h := Row.made0 (((w.alloc (.cells (prow f) 57)).alloc (.cells (prow g) 57)).alloc (.cells #[.int .i64 0, .int .i64 0, .int .i64 0, .int .i64 0, .int .i64 0, .int .i64 0, .int .i64 0, .int .i64 0, .int .i64 0, .int .i64 0, .int .i64 0] 57))
  simpa using h

set_option maxHeartbeats 1000000 in
theorem times_any (f g : Nat → Int) (p : Nat) (w : World) (hp : 2 ≤ p) (hp' : p ≤ 64) (hf : inP p f) (hg : inP p g) :
    Calls Tryd.prog 38 #[.agg (prow f), .agg (prow g), .int .i64 p] w fun e w' => e = .returned (.agg (prow (mulN f g p 6 6))) ∧ Below w.heap.size w w' := by
  go_enter Tryd.func38, Tryd.ntmps38
  go_wp2
  go_loopw [10] (fun i wr => ∃ n : Nat, i = .int .i64 n ∧ n ≤ 6 ∧ Row wr w.heap.size f ∧ Row wr (w.heap.size + 1) g ∧ Row wr (w.heap.size + 1 + 1) (fun _ => 0) ∧ Row wr (w.heap.size + 1 + 1 + 1) (mulN f g p 6 n) ∧ Below w.heap.size w wr) (fun i _ => (6 - intOf i).toNat)
  case atStart =>
    obtain ⟨W, e, h1, h2, h3, h4, h5⟩ := four_rows w f g
    rw [← e]
    exact ⟨0, rfl, by omega, h1, h2, h3, h4, h5⟩
  case round =>
    obtain ⟨n, rfl, hn, hr, hrg, hz, hrc, hb⟩ := hrel
    by_cases hlt : n < 6
    · have hdec : decide ((n : Int) < 6) = true := by simp; omega
      go_wp2
      go_loopw [13] (fun i wr => ∃ m : Nat, i = .int .i64 m ∧ m ≤ 6 ∧ Row wr w.heap.size f ∧ Row wr (w.heap.size + 1) g ∧ Row wr (w.heap.size + 1 + 1) (fun _ => 0) ∧ Row wr (w.heap.size + 1 + 1 + 1) (mulRow (mulN f g p 6 n) (f n) g p n m) ∧ Below w.heap.size w wr) (fun i _ => (6 - intOf i).toNat)
      case atStart => exact ⟨0, rfl, by omega, hr, hrg, hz, hrc.congr (fun t _ => (mulRow_zero _ _ _ _ _ t).symm), hb⟩
      case round =>
        clear hr hrg hz hrc hb
        obtain ⟨m, rfl, hm, hr, hrg, hz, hrc, hb⟩ := hrel
        by_cases hlt2 : m < 6
        · obtain ⟨x, Hx⟩ : ∃ a : Int, Hid (a = mulN f g p 6 n (n + m)) := ⟨_, rfl⟩
          obtain ⟨a, Ha⟩ : ∃ a : Int, Hid (a = f n) := ⟨_, rfl⟩
          obtain ⟨c, Hc⟩ : ∃ c : Int, Hid (c = g m) := ⟨_, rfl⟩
          have hx0 := mulN_in (a := f) (b := g) (j := 6) (show (0 : Int) < p by omega) n (n + m)
          rw [← Hx.out] at hx0
          have ha0 := hf n
          rw [← Ha.out] at ha0
          have hc0 := hg m
          rw [← Hc.out] at hc0
          have hcx := hrc.cell (n + m) (by omega)
          rw [mulRow_at, ← Hx.out] at hcx
          have hcf := hrc.frozen (n + m)
          have hca := hr.cell n (by omega)
          rw [← Ha.out] at hca
          have hcc := hrg.cell m (by omega)
          rw [← Hc.out] at hcc
          have hm0 : 0 ≤ a * c := Int.mul_nonneg (by omega) (by omega)
          have hm1 : a * c ≤ 64 * 64 := Int.mul_le_mul (by omega) (by omega) (by omega) (by omega)
          have hdec2 : decide ((m : Int) < 6) = true := by simp; omega
          have hi1 : (n : Int) + m < 11 := by omega
          go_wp2
          go_region
          all_goals
            go_wp2
            go_roundw
            case rel =>
              refine ⟨m + 1, by go_num, by omega, hr.other _ _ (by simp <;> omega), hrg.other _ _ (by simp <;> omega), hz.other _ _ (by simp), (hrc.set (n + m) _).congr (fun t _ => ?_), (hb.setCell (by simp <;> omega) _).drew⟩
              rw [Hx.out, Ha.out, Hc.out]; exact mulRow_succ _ _ _ _ n m t
            case measure => simp [intOf]; omega
        · go_wp2
          go_roundw
          case rel =>
            refine ⟨n + 1, by go_num, by omega, hr, hrg, hz, hrc.congr (fun t _ => ?_), hb⟩
            rw [show m = 6 by omega]; rfl
          case measure => simp [intOf]; omega
    · go_wp2_with (first | (refine wpList_load_row rfl 57 _ rfl (w.heap.size + 1 + 1 + 1) rfl 57 _ (0, 0) _ hrc und51 rfl (inf51 _) ?_) | (refine wpList_store_row rfl 57 _ _ rfl (w.heap.size + 1 + 1) _ rfl rfl 57 _ hz (inf51 _) (by simp) (prow_one _) ?_))
      refine post_row 6 rfl rfl (hz.whole _) rfl ⟨?_, bsetRow hb (by omega) _⟩
      rw [show n = 6 by omega]

end Go.Proofs.YtagpbkcnjogbgabDoor.Fd
