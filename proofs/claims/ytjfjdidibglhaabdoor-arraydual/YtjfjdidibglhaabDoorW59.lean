/- The walk of times. -/
import Derived.Test.YtjfjdidibglhaabDoorBaseB
import Derived.Test.YtjfjdidibglhaabDoorPureE
import Derived.BigRegion
/- The walks of plus, number and times. -/
namespace Go.Proofs.YtjfjdidibglhaabDoor.Fd
open Go.RowKit

theorem three_rows (w : World) (f g : Nat → Int) : Row (((w.alloc (.cells (prow f) 93)).alloc (.cells (prow g) 93)).alloc (.cells #[.int .i64 0, .int .i64 0, .int .i64 0, .int .i64 0, .int .i64 0, .int .i64 0, .int .i64 0, .int .i64 0, .int .i64 0, .int .i64 0, .int .i64 0] 93)) w.heap.size f ∧
    Row (((w.alloc (.cells (prow f) 93)).alloc (.cells (prow g) 93)).alloc (.cells #[.int .i64 0, .int .i64 0, .int .i64 0, .int .i64 0, .int .i64 0, .int .i64 0, .int .i64 0, .int .i64 0, .int .i64 0, .int .i64 0, .int .i64 0] 93)) (w.heap.size + 1) g ∧
    Row (((w.alloc (.cells (prow f) 93)).alloc (.cells (prow g) 93)).alloc (.cells #[.int .i64 0, .int .i64 0, .int .i64 0, .int .i64 0, .int .i64 0, .int .i64 0, .int .i64 0, .int .i64 0, .int .i64 0, .int .i64 0, .int .i64 0] 93)) (w.heap.size + 1 + 1) (fun _ => 0) ∧
    Below w.heap.size w (((w.alloc (.cells (prow f) 93)).alloc (.cells (prow g) 93)).alloc (.cells #[.int .i64 0, .int .i64 0, .int .i64 0, .int .i64 0, .int .i64 0, .int .i64 0, .int .i64 0, .int .i64 0, .int .i64 0, .int .i64 0, .int .i64 0] 93)) := by
  refine ⟨((Row.made w f).alloc _).alloc _, ?_, ?_, (((Below.refl _ _).alloc (Nat.le_refl _) _).alloc (by simp) _).alloc (by simp; omega) _⟩
  · have h := (Row.made (w.alloc (.cells (prow f) 93)) g).alloc (.cells (prow fun _ => 0) 93)
    rw [← prow_zero]; simpa using h
  · have h := Row.made ((w.alloc (.cells (prow f) 93)).alloc (.cells (prow g) 93)) (fun _ => 0)
    rw [← prow_zero]; simpa using h

set_option maxRecDepth 100000 in
set_option maxHeartbeats 1000000 in
theorem plus_any (f g : Nat → Int) (p : Nat) (w : World) (hp : 2 ≤ p) (hp' : p ≤ 64) (hf : inP p f) (hg : inP p g) :
    Calls Tryd.prog 119 #[.agg (prow f), .agg (prow g), .int .i64 p] w fun e w' => e = .returned (.agg (prow (plusF f g p))) ∧ Below w.heap.size w w' := by
  go_enter Tryd.func119, Tryd.ntmps119
  go_wp2
  go_loopw [8] (fun i wr => ∃ j : Nat, i = .int .i64 j ∧ j ≤ 11 ∧ Row wr w.heap.size (plusTo f g p j) ∧ Row wr (w.heap.size + 1) g ∧ Row wr (w.heap.size + 1 + 1) (fun _ => 0) ∧ Below w.heap.size w wr) (fun i _ => (11 - intOf i).toNat)
  case atStart =>
    obtain ⟨h1, h2, h3, h4⟩ := three_rows w f g
    exact ⟨0, rfl, by omega, h1.congr (fun t _ => by simp [plusTo]), h2, h3, h4⟩
  case round =>
    obtain ⟨j, rfl, hj, hr, hrg, hz, hb⟩ := hrel
    by_cases hlt : j < 11
    · obtain ⟨a, Ha⟩ : ∃ a : Int, Hid (a = f j) := ⟨_, rfl⟩
      obtain ⟨c, Hc⟩ : ∃ c : Int, Hid (c = g j) := ⟨_, rfl⟩
      have ha0 := hf j
      rw [← Ha.out] at ha0
      have hc0 := hg j
      rw [← Hc.out] at hc0
      have hca := hr.cell j hlt
      rw [show plusTo f g p j j = f j by simp [plusTo], ← Ha.out] at hca
      have hcf := hr.frozen j
      have hcc := hrg.cell j hlt
      rw [← Hc.out] at hcc
      have hji : (j : Int) < 11 := by omega
      have hdec : decide ((j : Int) < 11) = true := by simp; omega
      go_wp2
      go_region
      all_goals
        go_wp2
        go_roundw
        case rel =>
          refine ⟨j + 1, by go_num, by omega, (hr.set j _).congr (fun t _ => ?_), hrg.other _ _ (by simp), hz.other _ _ (by simp; omega), (hb.setCell (Nat.le_refl _) _).drew⟩
          rw [Ha.out, Hc.out]; exact plusTo_succ f g p j t
        case measure => simp [intOf]; omega
    · go_wp2_with (first | (refine wpList_load_row rfl 93 _ rfl w.heap.size rfl 93 _ (0, 0) _ hr und51 rfl (inf51 _) ?_) | (refine wpList_store_row rfl 93 _ _ rfl (w.heap.size + 1 + 1) _ rfl rfl 93 _ hz (inf51 _) (by simp) (prow_one _) ?_))
      refine post_row 6 rfl rfl (hz.whole _) rfl ⟨?_, bsetRow hb (by omega) _⟩
      congr 2
      apply prow_congr
      intro t ht
      simp [plusTo, plusF, show t < j by omega]

set_option maxRecDepth 100000 in
set_option maxHeartbeats 1000000 in
theorem number_any (f : Nat → Int) (p k : Nat) (w : World) (hp : 2 ≤ p) (hp' : p ≤ 64) (hk1 : 1 ≤ k) (hk : k ≤ 6) (hpk : p ^ k ≤ 64) (hf : inP p f) (h0 : ∀ t, k ≤ t → t < 11 → f t = 0) :
    Calls Tryd.prog 103 #[.agg (prow f), .int .i64 p] w fun e w' => e = .returned (.int .i64 (hor f p k k)) ∧ Below w.heap.size w w' := by
  go_enter Tryd.func103, Tryd.ntmps103
  go_wp2
  go_loopw [5, 6] (fun n i wr => ∃ (x y : Int), i = .int .i64 x ∧ n = .int .i64 y ∧ -1 ≤ x ∧ x ≤ 10 ∧ Hid (y = hor f p k (k - 1 - x).toNat) ∧ Row wr w.heap.size f ∧ Below w.heap.size w wr) (fun _ i _ => (intOf i + 1).toNat)
  case atStart =>
    refine ⟨10, 0, rfl, rfl, by omega, by omega, ?_, Row.made w f, (Below.refl _ _).alloc (Nat.le_refl _) _⟩
    show 0 = hor f p k ((k : Int) - 1 - 10).toNat
    rw [show ((k : Int) - 1 - 10).toNat = 0 by omega]; rfl
  case round =>
    obtain ⟨x, y, rfl, rfl, hx1, hx2, HY, hr, hb⟩ := hrel
    have hbd := hor_bd (k := k) (show (2 : Int) ≤ p by omega) hf (k - 1 - x).toNat
    rw [← HY.out] at hbd
    by_cases hlt : 0 ≤ x
    · obtain ⟨i, rfl⟩ := Int.eq_ofNat_of_zero_le hlt
      have hpn : ((p : Int) ^ ((k : Int) - 1 - (i : Int)).toNat) ≤ 64 := by
        have h1 := pow_le_of (d := ((k : Int) - 1 - (i : Int)).toNat) hp (by omega) hpk
        have h2 : ((p ^ ((k : Int) - 1 - (i : Int)).toNat : Nat) : Int) ≤ 64 := by omega
        rwa [Int.natCast_pow] at h2
      have hy64 : y ≤ 64 := by omega
      have hy0 : 0 ≤ y := hbd.1
      clear hbd hpn
      obtain ⟨a, Ha⟩ : ∃ a : Int, Hid (a = f i) := ⟨_, rfl⟩
      have ha0 := hf i
      rw [← Ha.out] at ha0
      have hca := hr.cell i (by omega)
      rw [← Ha.out] at hca
      have hm0 : 0 ≤ y * p := Int.mul_nonneg hy0 (by omega)
      have hm1 : y * p ≤ 64 * 64 := Int.mul_le_mul hy64 (by omega) (by omega) (by omega)
      go_wp2
      go_roundw
      case rel =>
        refine ⟨(i : Int) - 1, y * p + a, rfl, rfl, by omega, by omega, ?_, hr, hb⟩
        show y * p + a = hor f p k ((k : Int) - 1 - ((i : Int) - 1)).toNat
        by_cases hik : i < k
        · rw [show ((k : Int) - 1 - ((i : Int) - 1)).toNat = ((k : Int) - 1 - (i : Int)).toNat + 1 by omega]
          show _ = hor f p k ((k : Int) - 1 - (i : Int)).toNat * p + f (k - 1 - ((k : Int) - 1 - (i : Int)).toNat)
          rw [← HY.out, Ha.out, show k - 1 - ((k : Int) - 1 - (i : Int)).toNat = i by omega]
        · have hy : y = 0 := by rw [HY.out, show ((k : Int) - 1 - (i : Int)).toNat = 0 by omega]; rfl
          rw [hy, Ha.out, h0 i (by omega) (by omega), show ((k : Int) - 1 - ((i : Int) - 1)).toNat = 0 by omega]
          simp [hor]
      case measure => simp [intOf]
    · go_wp2
      go_ret
      refine ⟨ret_int ?_, hb⟩
      rw [HY.out, show ((k : Int) - 1 - x).toNat = k by omega]

end Go.Proofs.YtjfjdidibglhaabDoor.Fd

namespace Go.Proofs.YtjfjdidibglhaabDoor.Fd
open Go.RowKit

theorem four_rows (w : World) (f g : Nat → Int) : ∃ W, W = ((((w.alloc (.cells (prow f) 93)).alloc (.cells (prow g) 93)).alloc (.cells #[.int .i64 0, .int .i64 0, .int .i64 0, .int .i64 0, .int .i64 0, .int .i64 0, .int .i64 0, .int .i64 0, .int .i64 0, .int .i64 0, .int .i64 0] 93)).alloc (.cells #[.int .i64 0, .int .i64 0, .int .i64 0, .int .i64 0, .int .i64 0, .int .i64 0, .int .i64 0, .int .i64 0, .int .i64 0, .int .i64 0, .int .i64 0] 93)) ∧ Row W w.heap.size f ∧ Row W (w.heap.size + 1) g ∧ Row W (w.heap.size + 1 + 1) (fun _ => 0) ∧ Row W (w.heap.size + 1 + 1 + 1) (fun _ => 0) ∧ Below w.heap.size w W := by
  obtain ⟨h1, h2, h3, h4⟩ := three_rows w f g
  refine ⟨_, rfl, h1.alloc _, h2.alloc _, h3.alloc _, ?_, h4.alloc h4.size _⟩
  have h := Row.made0 (((w.alloc (.cells (prow f) 93)).alloc (.cells (prow g) 93)).alloc (.cells #[.int .i64 0, .int .i64 0, .int .i64 0, .int .i64 0, .int .i64 0, .int .i64 0, .int .i64 0, .int .i64 0, .int .i64 0, .int .i64 0, .int .i64 0] 93))
  simpa using h

set_option maxRecDepth 100000 in
set_option maxHeartbeats 1000000 in
theorem times_any (f g : Nat → Int) (p : Nat) (w : World) (hp : 2 ≤ p) (hp' : p ≤ 64) (hf : inP p f) (hg : inP p g) :
    Calls Tryd.prog 102 #[.agg (prow f), .agg (prow g), .int .i64 p] w fun e w' => e = .returned (.agg (prow (mulN f g p 6 6))) ∧ Below w.heap.size w w' := by
  go_enter Tryd.func102, Tryd.ntmps102
  go_wp2
  go_loopw [10] (fun i wr => ∃ n : Nat, i = .int .i64 n ∧ n ≤ 6 ∧ Row wr w.heap.size f ∧ Row wr (w.heap.size + 1) g ∧ Row wr (w.heap.size + 1 + 1) (fun _ => 0) ∧ Row wr (w.heap.size + 1 + 1 + 1) (mulN f g p 6 n) ∧ Below w.heap.size w wr) (fun i _ => (6 - intOf i).toNat)
  case atStart =>
    obtain ⟨W, e, h1, h2, h3, h4, h5⟩ := four_rows w f g
    rw [← e]
    exact ⟨0, rfl, by omega, h1, h2, h3, h4, h5⟩
  case round =>
    obtain ⟨n, rfl, hn, hr, hrg, hz, hrc, hb⟩ := hrel
    by_cases hlt : n < 6
    · have hdec : decide ((n : Int) < 6) = true := by simp; omega
      go_wp2
      go_loopw [13] (fun i wr => ∃ m : Nat, i = .int .i64 m ∧ m ≤ 6 ∧ Row wr w.heap.size f ∧ Row wr (w.heap.size + 1) g ∧ Row wr (w.heap.size + 1 + 1) (fun _ => 0) ∧ Row wr (w.heap.size + 1 + 1 + 1) (mulRow (mulN f g p 6 n) (f n) g p n m) ∧ Below w.heap.size w wr) (fun i _ => (6 - intOf i).toNat)
      case atStart => exact ⟨0, rfl, by omega, hr, hrg, hz, hrc.congr (fun t _ => (mulRow_zero _ _ _ _ _ t).symm), hb⟩
      case round =>
        clear hr hrg hz hrc hb
        obtain ⟨m, rfl, hm, hr, hrg, hz, hrc, hb⟩ := hrel
        by_cases hlt2 : m < 6
        · obtain ⟨x, Hx⟩ : ∃ a : Int, Hid (a = mulN f g p 6 n (n + m)) := ⟨_, rfl⟩
          obtain ⟨a, Ha⟩ : ∃ a : Int, Hid (a = f n) := ⟨_, rfl⟩
          obtain ⟨c, Hc⟩ : ∃ c : Int, Hid (c = g m) := ⟨_, rfl⟩
          have hx0 := mulN_in (a := f) (b := g) (j := 6) (show (0 : Int) < p by omega) n (n + m)
          rw [← Hx.out] at hx0
          have ha0 := hf n
          rw [← Ha.out] at ha0
          have hc0 := hg m
          rw [← Hc.out] at hc0
          have hcx := hrc.cell (n + m) (by omega)
          rw [mulRow_at, ← Hx.out] at hcx
          have hcf := hrc.frozen (n + m)
          have hca := hr.cell n (by omega)
          rw [← Ha.out] at hca
          have hcc := hrg.cell m (by omega)
          rw [← Hc.out] at hcc
          have hm0 : 0 ≤ a * c := Int.mul_nonneg (by omega) (by omega)
          have hm1 : a * c ≤ 64 * 64 := Int.mul_le_mul (by omega) (by omega) (by omega) (by omega)
          have hdec2 : decide ((m : Int) < 6) = true := by simp; omega
          have hi1 : (n : Int) + m < 11 := by omega
          go_wp2
          go_region
          all_goals
            go_wp2
            go_roundw
            case rel =>
              refine ⟨m + 1, by go_num, by omega, hr.other _ _ (by simp <;> omega), hrg.other _ _ (by simp <;> omega), hz.other _ _ (by simp), (hrc.set (n + m) _).congr (fun t _ => ?_), (hb.setCell (by simp <;> omega) _).drew⟩
              rw [Hx.out, Ha.out, Hc.out]; exact mulRow_succ _ _ _ _ n m t
            case measure => simp [intOf]; omega
        · go_wp2
          go_roundw
          case rel =>
            refine ⟨n + 1, by go_num, by omega, hr, hrg, hz, hrc.congr (fun t _ => ?_), hb⟩
            rw [show m = 6 by omega]; rfl
          case measure => simp [intOf]; omega
    · go_wp2_with (first | (refine wpList_load_row rfl 93 _ rfl (w.heap.size + 1 + 1 + 1) rfl 93 _ (0, 0) _ hrc und51 rfl (inf51 _) ?_) | (refine wpList_store_row rfl 93 _ _ rfl (w.heap.size + 1 + 1) _ rfl rfl 93 _ hz (inf51 _) (by simp) (prow_one _) ?_))
      refine post_row 6 rfl rfl (hz.whole _) rfl ⟨?_, bsetRow hb (by omega) _⟩
      rw [show n = 6 by omega]

end Go.Proofs.YtjfjdidibglhaabDoor.Fd
