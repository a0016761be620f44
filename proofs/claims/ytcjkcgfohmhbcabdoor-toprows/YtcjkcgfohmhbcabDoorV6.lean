/- The walk of Singer. -/
import Derived.Test.YtcjkcgfohmhbcabDoorBaseB
import Derived.Test.YtcjkcgfohmhbcabDoorPureE
import Derived.BigRegion
import Derived.Test.YtcjkcgfohmhbcabDoorBase
import Derived.Deep.RegionWith
import Derived.ChangeKeysEq
import Derived.Test.YtcjkcgfohmhbcabDoorW51
import Derived.Laws.CopyOwn
import Derived.Deep.QuietTactic
import Derived.BigQuiet
import Derived.Test.YtcjkcgfohmhbcabDoorPureB
import Derived.Test.YtcjkcgfohmhbcabDoorW34
import Derived.Test.YtcjkcgfohmhbcabDoorW40
import Derived.Test.YtcjkcgfohmhbcabDoorPureD
import Derived.Test.YtcjkcgfohmhbcabDoorW52
import Derived.Deep.RegionHeld3
import Derived.Test.YtcjkcgfohmhbcabDoorPureF
import Derived.Deep.DeepCutAuto
import Derived.Test.YtcjkcgfohmhbcabDoorAlgE
import Derived.Test.YtcjkcgfohmhbcabDoorAlgG
import Derived.Test.YtcjkcgfohmhbcabDoorS5
/- The walk of times. -/
/- The walks of plus, number and times. -/
namespace Go.Proofs.YtcjkcgfohmhbcabDoor.Fd
open Go.RowKit

theorem three_rows (w : World) (f g : Nat → Int) : Row (((w.alloc (.cells (prow f) 62)).alloc (.cells (prow g) 62)).alloc (.cells #[.int .i64 0, .int .i64 0, .int .i64 0, .int .i64 0, .int .i64 0, .int .i64 0, .int .i64 0, .int .i64 0, .int .i64 0, .int .i64 0, .int .i64 0] 62)) w.heap.size f ∧
    Row (((w.alloc (.cells (prow f) 62)).alloc (.cells (prow g) 62)).alloc (.cells #[.int .i64 0, .int .i64 0, .int .i64 0, .int .i64 0, .int .i64 0, .int .i64 0, .int .i64 0, .int .i64 0, .int .i64 0, .int .i64 0, .int .i64 0] 62)) (w.heap.size + 1) g ∧
    Row (((w.alloc (.cells (prow f) 62)).alloc (.cells (prow g) 62)).alloc (.cells #[.int .i64 0, .int .i64 0, .int .i64 0, .int .i64 0, .int .i64 0, .int .i64 0, .int .i64 0, .int .i64 0, .int .i64 0, .int .i64 0, .int .i64 0] 62)) (w.heap.size + 1 + 1) (fun _ => 0) ∧
    Below w.heap.size w (((w.alloc (.cells (prow f) 62)).alloc (.cells (prow g) 62)).alloc (.cells #[.int .i64 0, .int .i64 0, .int .i64 0, .int .i64 0, .int .i64 0, .int .i64 0, .int .i64 0, .int .i64 0, .int .i64 0, .int .i64 0, .int .i64 0] 62)) := by
  refine ⟨((Row.made w f).alloc _).alloc _, ?_, ?_, (((Below.refl _ _).alloc (Nat.le_refl _) _).alloc (by simp) _).alloc (by simp; omega) _⟩
  · have h := (Row.made (w.alloc (.cells (prow f) 62)) g).alloc (.cells (prow fun _ => 0) 62)
    rw [← prow_zero]; simpa using h
  · have h := Row.made ((w.alloc (.cells (prow f) 62)).alloc (.cells (prow g) 62)) (fun _ => 0)
    rw [← prow_zero]; simpa using h

set_option maxRecDepth 100000 in
set_option maxHeartbeats 1000000 in
theorem plus_any (f g : Nat → Int) (p : Nat) (w : World) (hp : 2 ≤ p) (hp' : p ≤ 64) (hf : inP p f) (hg : inP p g) :
    Calls Tryd.prog 80 #[.agg (prow f), .agg (prow g), .int .i64 p] w fun e w' => e = .returned (.agg (prow (plusF f g p))) ∧ Below w.heap.size w w' := by
  go_enter Tryd.func80, Tryd.ntmps80
  go_wp2
  go_loopw [8] (fun i wr => ∃ j : Nat, i = .int .i64 j ∧ j ≤ 11 ∧ Row wr w.heap.size (plusTo f g p j) ∧ Row wr (w.heap.size + 1) g ∧ Row wr (w.heap.size + 1 + 1) (fun _ => 0) ∧ Below w.heap.size w wr) (fun i _ => (11 - intOf i).toNat)
  case atStart =>
    obtain ⟨h1, h2, h3, h4⟩ := three_rows w f g
    exact ⟨0, rfl, by omega, h1.congr (fun t _ => by simp [plusTo]), h2, h3, h4⟩
  case round =>
    obtain ⟨j, rfl, hj, hr, hrg, hz, hb⟩ := hrel
    by_cases hlt : j < 11
    · obtain ⟨a, Ha⟩ : ∃ a : Int, Hid (a = f j) := ⟨_, rfl⟩
      obtain ⟨c, Hc⟩ : ∃ c : Int, Hid (c = g j) := ⟨_, rfl⟩
      have ha0 := hf j
      rw [← Ha.out] at ha0
      have hc0 := hg j
      rw [← Hc.out] at hc0
      have hca := hr.cell j hlt
      rw [show plusTo f g p j j = f j by simp [plusTo], ← Ha.out] at hca
      have hcf := hr.frozen j
      have hcc := hrg.cell j hlt
      rw [← Hc.out] at hcc
      have hji : (j : Int) < 11 := by omega
      have hdec : decide ((j : Int) < 11) = true := by simp; omega
      go_wp2
      go_region
      all_goals
        go_wp2
        go_roundw
        case rel =>
          refine ⟨j + 1, by go_num, by omega, (hr.set j _).congr (fun t _ => ?_), hrg.other _ _ (by simp), hz.other _ _ (by simp; omega), (hb.setCell (Nat.le_refl _) _).drew⟩
          rw [Ha.out, Hc.out]; exact plusTo_succ f g p j t
        case measure => simp [intOf]; omega
    · go_wp2_with (first | (refine wpList_load_row rfl 62 _ rfl w.heap.size rfl 62 _ (0, 0) _ hr und51 rfl (inf51 _) ?_) | (refine wpList_store_row rfl 62 _ _ rfl (w.heap.size + 1 + 1) _ rfl rfl 62 _ hz (inf51 _) (by simp) (prow_one _) ?_))
      refine post_row 6 rfl rfl (hz.whole _) rfl ⟨?_, bsetRow hb (by omega) _⟩
      congr 2
      apply prow_congr
      intro t ht
      simp [plusTo, plusF, show t < j by omega]

set_option maxRecDepth 100000 in
set_option maxHeartbeats 1000000 in
theorem number_any (f : Nat → Int) (p k : Nat) (w : World) (hp : 2 ≤ p) (hp' : p ≤ 64) (hk1 : 1 ≤ k) (hk : k ≤ 6) (hpk : p ^ k ≤ 64) (hf : inP p f) (h0 : ∀ t, k ≤ t → t < 11 → f t = 0) :
    Calls Tryd.prog 79 #[.agg (prow f), .int .i64 p] w fun e w' => e = .returned (.int .i64 (hor f p k k)) ∧ Below w.heap.size w w' := by
  go_enter Tryd.func79, Tryd.ntmps79
  go_wp2
  go_loopw [5, 6] (fun n i wr => ∃ (x y : Int), i = .int .i64 x ∧ n = .int .i64 y ∧ -1 ≤ x ∧ x ≤ 10 ∧ Hid (y = hor f p k (k - 1 - x).toNat) ∧ Row wr w.heap.size f ∧ Below w.heap.size w wr) (fun _ i _ => (intOf i + 1).toNat)
  case atStart =>
    refine ⟨10, 0, rfl, rfl, by omega, by omega, ?_, Row.made w f, (Below.refl _ _).alloc (Nat.le_refl _) _⟩
    show 0 = hor f p k ((k : Int) - 1 - 10).toNat
    rw [show ((k : Int) - 1 - 10).toNat = 0 by omega]; rfl
  case round =>
    obtain ⟨x, y, rfl, rfl, hx1, hx2, HY, hr, hb⟩ := hrel
    have hbd := hor_bd (k := k) (show (2 : Int) ≤ p by omega) hf (k - 1 - x).toNat
    rw [← HY.out] at hbd
    by_cases hlt : 0 ≤ x
    · obtain ⟨i, rfl⟩ := Int.eq_ofNat_of_zero_le hlt
      have hpn : ((p : Int) ^ ((k : Int) - 1 - (i : Int)).toNat) ≤ 64 := by
        have h1 := pow_le_of (d := ((k : Int) - 1 - (i : Int)).toNat) hp (by omega) hpk
        have h2 : ((p ^ ((k : Int) - 1 - (i : Int)).toNat : Nat) : Int) ≤ 64 := by omega
        rwa [Int.natCast_pow] at h2
      have hy64 : y ≤ 64 := by omega
      have hy0 : 0 ≤ y := hbd.1
      clear hbd hpn
      obtain ⟨a, Ha⟩ : ∃ a : Int, Hid (a = f i) := ⟨_, rfl⟩
      have ha0 := hf i
      rw [← Ha.out] at ha0
      have hca := hr.cell i (by omega)
      rw [← Ha.out] at hca
      have hm0 : 0 ≤ y * p := Int.mul_nonneg hy0 (by omega)
      have hm1 : y * p ≤ 64 * 64 := Int.mul_le_mul hy64 (by omega) (by omega) (by omega)
      go_wp2
      go_roundw
      case rel =>
        refine ⟨(i : Int) - 1, y * p + a, rfl, rfl, by omega, by omega, ?_, hr, hb⟩
        show y * p + a = hor f p k ((k : Int) - 1 - ((i : Int) - 1)).toNat
        by_cases hik : i < k
        · rw [show ((k : Int) - 1 - ((i : Int) - 1)).toNat = ((k : Int) - 1 - (i : Int)).toNat + 1 by omega]
          show _ = hor f p k ((k : Int) - 1 - (i : Int)).toNat * p + f (k - 1 - ((k : Int) - 1 - (i : Int)).toNat)
          rw [← HY.out, Ha.out, show k - 1 - ((k : Int) - 1 - (i : Int)).toNat = i by omega]
        · have hy : y = 0 := by rw [HY.out, show ((k : Int) - 1 - (i : Int)).toNat = 0 by omega]; rfl
          rw [hy, Ha.out, h0 i (by omega) (by omega), show ((k : Int) - 1 - ((i : Int) - 1)).toNat = 0 by omega]
          simp [hor]
      case measure => simp [intOf]
    · go_wp2
      go_ret
      refine ⟨ret_int ?_, hb⟩
      rw [HY.out, show ((k : Int) - 1 - x).toNat = k by omega]

end Go.Proofs.YtcjkcgfohmhbcabDoor.Fd

namespace Go.Proofs.YtcjkcgfohmhbcabDoor.Fd
open Go.RowKit

theorem four_rows (w : World) (f g : Nat → Int) : ∃ W, W = ((((w.alloc (.cells (prow f) 62)).alloc (.cells (prow g) 62)).alloc (.cells #[.int .i64 0, .int .i64 0, .int .i64 0, .int .i64 0, .int .i64 0, .int .i64 0, .int .i64 0, .int .i64 0, .int .i64 0, .int .i64 0, .int .i64 0] 62)).alloc (.cells #[.int .i64 0, .int .i64 0, .int .i64 0, .int .i64 0, .int .i64 0, .int .i64 0, .int .i64 0, .int .i64 0, .int .i64 0, .int .i64 0, .int .i64 0] 62)) ∧ Row W w.heap.size f ∧ Row W (w.heap.size + 1) g ∧ Row W (w.heap.size + 1 + 1) (fun _ => 0) ∧ Row W (w.heap.size + 1 + 1 + 1) (fun _ => 0) ∧ Below w.heap.size w W := by
  obtain ⟨h1, h2, h3, h4⟩ := three_rows w f g
  refine ⟨_, rfl, h1.alloc _, h2.alloc _, h3.alloc _, ?_, h4.alloc h4.size _⟩
  have h := Row.made0 (((w.alloc (.cells (prow f) 62)).alloc (.cells (prow g) 62)).alloc (.cells #[.int .i64 0, .int .i64 0, .int .i64 0, .int .i64 0, .int .i64 0, .int .i64 0, .int .i64 0, .int .i64 0, .int .i64 0, .int .i64 0, .int .i64 0] 62))
  simpa using h

set_option maxRecDepth 100000 in
set_option maxHeartbeats 1000000 in
theorem times_any (f g : Nat → Int) (p : Nat) (w : World) (hp : 2 ≤ p) (hp' : p ≤ 64) (hf : inP p f) (hg : inP p g) :
    Calls Tryd.prog 78 #[.agg (prow f), .agg (prow g), .int .i64 p] w fun e w' => e = .returned (.agg (prow (mulN f g p 6 6))) ∧ Below w.heap.size w w' := by
  go_enter Tryd.func78, Tryd.ntmps78
  go_wp2
  go_loopw [10] (fun i wr => ∃ n : Nat, i = .int .i64 n ∧ n ≤ 6 ∧ Row wr w.heap.size f ∧ Row wr (w.heap.size + 1) g ∧ Row wr (w.heap.size + 1 + 1) (fun _ => 0) ∧ Row wr (w.heap.size + 1 + 1 + 1) (mulN f g p 6 n) ∧ Below w.heap.size w wr) (fun i _ => (6 - intOf i).toNat)
  case atStart =>
    obtain ⟨W, e, h1, h2, h3, h4, h5⟩ := four_rows w f g
    rw [← e]
    exact ⟨0, rfl, by omega, h1, h2, h3, h4, h5⟩
  case round =>
    obtain ⟨n, rfl, hn, hr, hrg, hz, hrc, hb⟩ := hrel
    by_cases hlt : n < 6
    · have hdec : decide ((n : Int) < 6) = true := by simp; omega
      go_wp2
      go_loopw [13] (fun i wr => ∃ m : Nat, i = .int .i64 m ∧ m ≤ 6 ∧ Row wr w.heap.size f ∧ Row wr (w.heap.size + 1) g ∧ Row wr (w.heap.size + 1 + 1) (fun _ => 0) ∧ Row wr (w.heap.size + 1 + 1 + 1) (mulRow (mulN f g p 6 n) (f n) g p n m) ∧ Below w.heap.size w wr) (fun i _ => (6 - intOf i).toNat)
      case atStart => exact ⟨0, rfl, by omega, hr, hrg, hz, hrc.congr (fun t _ => (mulRow_zero _ _ _ _ _ t).symm), hb⟩
      case round =>
        clear hr hrg hz hrc hb
        obtain ⟨m, rfl, hm, hr, hrg, hz, hrc, hb⟩ := hrel
        by_cases hlt2 : m < 6
        · obtain ⟨x, Hx⟩ : ∃ a : Int, Hid (a = mulN f g p 6 n (n + m)) := ⟨_, rfl⟩
          obtain ⟨a, Ha⟩ : ∃ a : Int, Hid (a = f n) := ⟨_, rfl⟩
          obtain ⟨c, Hc⟩ : ∃ c : Int, Hid (c = g m) := ⟨_, rfl⟩
          have hx0 := mulN_in (a := f) (b := g) (j := 6) (show (0 : Int) < p by omega) n (n + m)
          rw [← Hx.out] at hx0
          have ha0 := hf n
          rw [← Ha.out] at ha0
          have hc0 := hg m
          rw [← Hc.out] at hc0
          have hcx := hrc.cell (n + m) (by omega)
          rw [mulRow_at, ← Hx.out] at hcx
          have hcf := hrc.frozen (n + m)
          have hca := hr.cell n (by omega)
          rw [← Ha.out] at hca
          have hcc := hrg.cell m (by omega)
          rw [← Hc.out] at hcc
          have hm0 : 0 ≤ a * c := Int.mul_nonneg (by omega) (by omega)
          have hm1 : a * c ≤ 64 * 64 := Int.mul_le_mul (by omega) (by omega) (by omega) (by omega)
          have hdec2 : decide ((m : Int) < 6) = true := by simp; omega
          have hi1 : (n : Int) + m < 11 := by omega
          go_wp2
          go_region
          all_goals
            go_wp2
            go_roundw
            case rel =>
              refine ⟨m + 1, by go_num, by omega, hr.other _ _ (by simp <;> omega), hrg.other _ _ (by simp <;> omega), hz.other _ _ (by simp), (hrc.set (n + m) _).congr (fun t _ => ?_), (hb.setCell (by simp <;> omega) _).drew⟩
              rw [Hx.out, Ha.out, Hc.out]; exact mulRow_succ _ _ _ _ n m t
            case measure => simp [intOf]; omega
        · go_wp2
          go_roundw
          case rel =>
            refine ⟨n + 1, by go_num, by omega, hr, hrg, hz, hrc.congr (fun t _ => ?_), hb⟩
            rw [show m = 6 by omega]; rfl
          case measure => simp [intOf]; omega
    · go_wp2_with (first | (refine wpList_load_row rfl 62 _ rfl (w.heap.size + 1 + 1 + 1) rfl 62 _ (0, 0) _ hrc und51 rfl (inf51 _) ?_) | (refine wpList_store_row rfl 62 _ _ rfl (w.heap.size + 1 + 1) _ rfl rfl 62 _ hz (inf51 _) (by simp) (prow_one _) ?_))
      refine post_row 6 rfl rfl (hz.whole _) rfl ⟨?_, bsetRow hb (by omega) _⟩
      rw [show n = 6 by omega]

end Go.Proofs.YtcjkcgfohmhbcabDoor.Fd

/- The walk of irreducible. -/
/- The walk of polyOf: the digits of a number, as a row of eleven. -/
namespace Go.Proofs.YtcjkcgfohmhbcabDoor.Fd
open Go.RowKit

set_option maxRecDepth 100000 in
set_option maxHeartbeats 400000 in
theorem polyOf_any (n p : Nat) (w : World) (hn : n < 2048) (hp : 2 ≤ p) (hp' : p ≤ 64) :
    Calls Tryd.prog 28 #[.int .i64 n, .int .i64 p] w fun e w' => e = .returned (.agg (prow (digF n p))) ∧ Below w.heap.size w w' := by
  go_enter Tryd.func28, Tryd.ntmps28
  go_wp2
  go_loopw [0, 6] (fun m i wr => ∃ k c : Nat, i = .int .i64 k ∧ k ≤ 11 ∧ m = .int .i64 c ∧ Hid (c = n / p ^ k) ∧ Row wr (w.heap.size + 1) (digTo n p k) ∧ Row wr w.heap.size (fun _ => 0) ∧ Below w.heap.size w wr) (fun m _ _ => (intOf m).toNat)
  case atStart =>
    refine ⟨0, n, rfl, by omega, by simp, (show n = n / p ^ 0 by simp), ?_, (Row.made0 w).alloc _, ((Below.refl _ _).alloc (Nat.le_refl _) _).alloc (by simp) _⟩
    have h := Row.made0 (w.alloc (.cells #[.int .i64 0, .int .i64 0, .int .i64 0, .int .i64 0, .int .i64 0, .int .i64 0, .int .i64 0, .int .i64 0, .int .i64 0, .int .i64 0, .int .i64 0] 62))
    simp only [World.size_alloc] at h
    exact h.congr (fun j _ => by simp [digTo])
  case round =>
    obtain ⟨k, c, rfl, hk, rfl, HC, hr, hz, hb⟩ := hrel
    have hnn : c ≤ n := by rw [HC.out]; exact Nat.div_le_self _ _
    by_cases hlt : 0 < c
    · have hk10 := div_small n p k hn hp (by rw [← HC.out]; exact hlt)
      have hc := hr.cell k (by omega)
      have hf := hr.frozen k
      have hcp : c / p < c := Nat.div_lt_self hlt hp
      have HE : Hid (((c / p : Nat) : Int) = (c : Int) / (p : Int)) := Int.natCast_ediv c p
      have hq0 : 0 ≤ (c : Int) / (p : Int) := by rw [← HE.out]; exact Int.natCast_nonneg _
      have hq1 : (c : Int) / (p : Int) ≤ 2048 := by rw [← HE.out]; omega
      go_wp2
      go_roundw
      case rel =>
        refine ⟨k + 1, c / p, by go_num, by omega, by go_num, ?_, ?_, hz.other _ _ (by simp), hb.setCell (by simp) _⟩
        · show c / p = n / p ^ (k + 1)
          rw [div_succ, ← HC.out]
        · refine (hr.set k _).congr (fun j _ => ?_)
          have e : ((c : Int) % (p : Int)) = digF n p k := by rw [HC.out]; simp [digF]
          rw [e]; exact digTo_succ n p k j
      case measure => simp [intOf]; rw [← HE.out]; omega
    · go_wp2_with (first | (refine wpList_load_row rfl 62 _ rfl (w.heap.size + 1) rfl 62 _ (0, 0) _ hr und51 rfl (inf51 _) ?_) | (refine wpList_store_row rfl 62 _ _ rfl w.heap.size _ rfl rfl 62 _ hz (inf51 _) (by simp) (prow_one _) ?_))
      refine post_row 4 rfl rfl (hz.whole _) rfl ⟨?_, bsetRow hb (Nat.le_refl _) _⟩
      rw [prow_congr (fun j _ => digTo_full n p k (by rw [← HC.out]; omega) j)]

end Go.Proofs.YtcjkcgfohmhbcabDoor.Fd

/- The walk of modulo: what is left of a row, divided by a monic one. -/
namespace Go.Proofs.YtcjkcgfohmhbcabDoor.Fd
open Go.RowKit

set_option maxRecDepth 100000 in
set_option maxHeartbeats 1000000 in
theorem modulo_any (f m : Nat → Int) (d p : Nat) (w : World) (hp : 2 ≤ p) (hp' : p ≤ 64) (hd : 1 ≤ d) (hd6 : d ≤ 6) (hf : inP p f) (hm : inP p m) :
    Calls Tryd.prog 46 #[.agg (prow f), .agg (prow m), .int .i64 d, .int .i64 p] w fun e w' => e = .returned (.agg (prow (redN m d p (11 - d) f))) ∧ Below w.heap.size w w' := by
  go_enter Tryd.func46, Tryd.ntmps46
  go_wp2
  go_loopw [9] (fun i wr => ∃ x : Int, i = .int .i64 x ∧ (d : Int) ≤ x + 1 ∧ x ≤ 10 ∧ ∃ g, Row wr w.heap.size g ∧ Row wr (w.heap.size + 1) m ∧ Row wr (w.heap.size + 1 + 1) (fun _ => 0) ∧ inP p g ∧ Hid (redN m d p (x + 1 - d).toNat g = redN m d p (11 - d) f) ∧ Below w.heap.size w wr) (fun i _ => (intOf i + 1).toNat)
  case atStart =>
    refine ⟨10, rfl, by omega, by omega, f, ((Row.made w f).alloc _).alloc _, ?_, ?_, hf, ?_, (((Below.refl _ _).alloc (Nat.le_refl _) _).alloc (by simp) _).alloc (by simp; omega) _⟩
    · have h := (Row.made (w.alloc (.cells (prow f) 62)) m).alloc (.cells (prow fun _ => 0) 62)
      rw [← prow_zero]; simpa using h
    · have h := Row.made ((w.alloc (.cells (prow f) 62)).alloc (.cells (prow m) 62)) (fun _ => 0)
      rw [← prow_zero]; simpa using h
    · show redN m d p (10 + 1 - (d : Int)).toNat f = redN m d p (11 - d) f
      rw [show (10 + 1 - (d : Int)).toNat = 11 - d by omega]
  case round =>
    obtain ⟨x, rfl, hx1, hx2, g, hr, hrm, hz, hg, HR, hb⟩ := hrel
    by_cases hlt : (d : Int) ≤ x
    · obtain ⟨i0, rfl⟩ := Int.eq_ofNat_of_zero_le (show 0 ≤ x by omega)
      obtain ⟨b, Hb⟩ : ∃ b : Int, Hid (b = g i0) := ⟨_, rfl⟩
      have hb0 := hg i0
      rw [← Hb.out] at hb0
      have hcb := hr.cell i0 (by omega)
      rw [← Hb.out] at hcb
      go_wp2
      go_loopw [11] (fun j wr' => ∃ n : Nat, j = .int .i64 n ∧ n ≤ d + 1 ∧ Row wr' w.heap.size (rdTo g m d p i0 n) ∧ Row wr' (w.heap.size + 1) m ∧ Row wr' (w.heap.size + 1 + 1) (fun _ => 0) ∧ Below w.heap.size w wr') (fun j _ => (d + 1 - intOf j).toNat)
      case atStart => exact ⟨0, rfl, by omega, hr.congr (fun j _ => (rdTo_zero g m d p i0 j).symm), hrm, hz, hb⟩
      case round =>
        obtain ⟨n, rfl, hn, hr', hrm', hz', hb'⟩ := hrel
        by_cases hle : n ≤ d
        · obtain ⟨a, Ha⟩ : ∃ a : Int, Hid (a = g (i0 - d + n)) := ⟨_, rfl⟩
          obtain ⟨c, Hc⟩ : ∃ c : Int, Hid (c = m n) := ⟨_, rfl⟩
          have ha0 := hg (i0 - d + n)
          rw [← Ha.out] at ha0
          have hc0 := hm n
          rw [← Hc.out] at hc0
          have hi0 : (0 : Int) ≤ (i0 : Int) - d + n := by omega
          have hi1 : (i0 : Int) - d + n < 11 := by omega
          have hca := hr'.cell (i0 - d + n) (by omega)
          rw [rdTo_at, ← Ha.out] at hca
          have hcf := hr'.frozen (i0 - d + n)
          have hcc := hrm'.cell n (by omega)
          rw [← Hc.out] at hcc
          have hm0 : 0 ≤ ((p : Int) - b) * c := Int.mul_nonneg (by omega) (by omega)
          have hm1 : ((p : Int) - b) * c ≤ 64 * 64 := Int.mul_le_mul (by omega) (by omega) (by omega) (by omega)
          go_wp2
          go_region
          all_goals
            go_wp2
            go_roundw
            case rel =>
              refine ⟨n + 1, by go_num, by omega, (hr'.set (i0 - d + n) _).congr (fun t _ => rdTo_succ g m d p i0 n _ ?_ t), hrm'.other _ _ (by simp), hz'.other _ _ (by simp; omega), (hb'.setCell (Nat.le_refl _) _).drew⟩
              rw [← Ha.out, ← Hb.out, ← Hc.out]; exact sub_mod a b c p
            case measure => simp [intOf]; omega
        · go_wp2
          go_roundw
          case rel =>
            refine ⟨(i0 : Int) - 1, rfl, by omega, by omega, rd g m d p i0, hr'.congr (fun t _ => ?_), hrm', hz', rd_in (by omega) hg, ?_, hb'⟩
            · rw [show n = d + 1 by omega]; exact rdTo_full g m d p i0 (by omega) t
            · show redN m d p ((i0 : Int) - 1 + 1 - d).toNat (rd g m d p i0) = _
              rw [← HR.out]
              rw [show ((i0 : Int) + 1 - d).toNat = (i0 - d) + 1 by omega, show ((i0 : Int) - 1 + 1 - d).toNat = i0 - d by omega]
              show _ = redN m d p (i0 - d) (rd g m d p (d + (i0 - d)))
              rw [show d + (i0 - d) = i0 by omega]
          case measure => simp [intOf]
    · go_wp2_with (first | (refine wpList_load_row rfl 62 _ rfl w.heap.size rfl 62 _ (0, 0) _ hr und51 rfl (inf51 _) ?_) | (refine wpList_store_row rfl 62 _ _ rfl (w.heap.size + 1 + 1) _ rfl rfl 62 _ hz (inf51 _) (by simp) (prow_one _) ?_))
      have e : (x + 1 - (d : Int)).toNat = 0 := by omega
      have HR' := HR.out
      rw [e] at HR'
      refine post_row 8 rfl rfl (hz.whole _) rfl ⟨?_, bsetRow hb (by omega) _⟩
      rw [← HR']; rfl

end Go.Proofs.YtcjkcgfohmhbcabDoor.Fd

namespace Go.Proofs.YtcjkcgfohmhbcabDoor.Fd
open Go.RowKit

set_option maxRecDepth 100000 in
theorem part_prow (f : Nat → Int) (j : Nat) (h : j < 11) (w : World) : (part 3 (prow f) (j * Tryd.prog.cellsOf 3)).run Tryd.prog w = .ok (.int .i64 (f j)) w := by
  have : j = 0 ∨ j = 1 ∨ j = 2 ∨ j = 3 ∨ j = 4 ∨ j = 5 ∨ j = 6 ∨ j = 7 ∨ j = 8 ∨ j = 9 ∨ j = 10 := by omega
  rcases this with rfl | rfl | rfl | rfl | rfl | rfl | rfl | rfl | rfl | rfl | rfl <;> (change _ = _; kernel_rfl)
set_option maxRecDepth 100000 in
theorem eqItems_prow (f g : Nat → Int) (w : World) : ∀ js : List Nat, (∀ j ∈ js, j < 11) → (Op.eqItems 9999 3 (Tryd.prog.cellsOf 3) (prow f) (prow g) js).run Tryd.prog w = .ok (js.all fun j => f j == g j) w
  | [], _ => by simp [Op.eqItems]
  | j :: js, h => by
    have hj := h j (by simp)
    have ih := eqItems_prow f g w js (fun i hi => h i (by simp [hi]))
    simp only [Op.eqItems, Sem.run_bind, part_prow f j hj, part_prow g j hj, Result.andThen_ok, run_equalIn_int w 9998 3 .i64 .i64 (f j) (g j) und3]
    cases he : (f j == g j)
    · simp [he]
    · simp [he, ih]
def zB (g : Nat → Int) : Bool := (List.range 11).all fun j => g j == 0
theorem zB_iff (g : Nat → Int) : zB g = true ↔ isZ g := by
  unfold zB isZ
  rw [List.all_eq_true]
  simp
set_option maxRecDepth 100000 in
theorem eq51 (g : Nat → Int) (w : World) : (Op.equalIn 10000 62 (.agg (prow g)) (.agg #[.int .i64 0, .int .i64 0, .int .i64 0, .int .i64 0, .int .i64 0, .int .i64 0, .int .i64 0, .int .i64 0, .int .i64 0, .int .i64 0, .int .i64 0])).run Tryd.prog w = .ok (zB g) w := by
  rw [← prow_zero]
  have hs : (Tryd.prog.info? 3).isSome = true := by kernel_rfl
  obtain ⟨i, hi⟩ := Option.isSome_iff_exists.1 hs
  rw [run_equalIn_array w 9999 (prow g) (prow fun _ => 0) und51 hi]
  exact eqItems_prow g (fun _ => 0) w (List.range 11) (fun j hj => by simpa using hj)

set_option maxRecDepth 100000 in
set_option maxHeartbeats 1000000 in
theorem irreducible_any (f : Nat → Int) (k p : Nat) (w : World) (hp : 2 ≤ p) (hp' : p ≤ 64) (hk : 1 ≤ k) (hpk : p ^ k ≤ 64) (hf : inP p f) :
    Calls Tryd.prog 29 #[.agg (prow f), .int .i64 k, .int .i64 p] w fun e w' => ∃ b : Bool, e = .returned (.bool b) ∧ (b = true ↔ irrP f k p) ∧ Below w.heap.size w w' := by
  go_enter Tryd.func29, Tryd.ntmps29
  go_wp2
  go_loopw [7, 8] (fun q i wr => ∃ d c : Nat, i = .int .i64 d ∧ q = .int .i64 c ∧ 1 ≤ d ∧ Hid (c = p ^ d) ∧ Row wr w.heap.size f ∧ irrTo f p d 0 ∧ Below w.heap.size w wr ∧ 2 * d ≤ k + 2) (fun _ i _ => (k + 2 - 2 * intOf i).toNat)
  case atStart => exact ⟨1, p, rfl, rfl, by omega, (show p = p ^ 1 by simp), Row.made w f, ⟨fun e h1 h2 => by omega, fun b hb => by omega⟩, (Below.refl _ _).alloc (Nat.le_refl _) _, by omega⟩
  case round =>
    obtain ⟨d, c, rfl, rfl, hd, HC, hr, hi, hb, h2d⟩ := hrel
    have hk6 := deg_le hp hpk
    have hd6 : 2 * d ≤ k → d ≤ 6 := fun h => by omega
    have hc : c ≤ 64 := by rw [HC.out]; exact pow_le_of hp (by omega) hpk
    have hc0 : 0 < c := by rw [HC.out]; exact Nat.pow_pos (by omega)
    have HI : Hid (irrTo f p d 0) := hi
    clear hi
    by_cases hle : 2 * d ≤ k
    · have hdec : decide (2 * (d : Int) ≤ k) = true := by simp; omega
      go_wp2
      go_loopw [9] (fun j wr' => ∃ n : Nat, j = .int .i64 n ∧ c ≤ n ∧ n ≤ 2 * c ∧ Row wr' w.heap.size f ∧ irrTo f p d (n - c) ∧ Below w.heap.size w wr') (fun j _ => (2 * c - intOf j).toNat)
      case atStart => exact ⟨c, rfl, by omega, by omega, hr, by rw [Nat.sub_self]; exact HI.out, hb⟩
      case round =>
        obtain ⟨n, rfl, hn1, hn2, hr', hi', hb'⟩ := hrel
        by_cases hlt : n < 2 * c
        · have hlt' := hr'.lt
          have c0 := hr'.cells
          have hdec2 : decide ((n : Int) < 2 * c) = true := by simp; omega
          have HN : Hid (n = p ^ d + (n - c)) := by
            show n = p ^ d + (n - c)
            rw [← HC.out]; omega
          cases hzz : zB (redN (digF n p) d p (11 - d) f)
          · have heq : ∀ w, (Op.equalIn 10000 62 (.agg (prow (redN (digF n p) d p (11 - d) f))) (.agg #[.int .i64 0, .int .i64 0, .int .i64 0, .int .i64 0, .int .i64 0, .int .i64 0, .int .i64 0, .int .i64 0, .int .i64 0, .int .i64 0, .int .i64 0])).run Tryd.prog w = .ok false w := fun w => by rw [eq51, hzz]
            go_wp2
            go_region_with (first | (go_at_call 28; refine (polyOf_any n p _ (by omega) hp hp').mono ?_; rintro e w1 ⟨rfl, hb1⟩; have c1 := (hr'.drew.below hb1).cells) | (go_at_call 46; refine (modulo_any f (digF n p) d p _ hp hp' hd (hd6 hle) hf (digF_in n p (by omega))).mono ?_; rintro e w2 ⟨rfl, hb2⟩))
            all_goals
              go_wp2
              go_roundw
              case rel =>
                have hirr : irrTo f p d (n + 1 - c) := by
                  rw [show n + 1 - c = (n - c) + 1 by omega]
                  refine irrTo_succ hi' ?_
                  rw [← HN.out, ← zB_iff, hzz]
                  decide
                have hbb := (hb'.drew.trans (hb1.mono hb'.size)).trans (hb2.mono ((hb'.drew.trans (hb1.mono hb'.size)).size))
                have hrr := (hr'.drew.below hb1).below hb2
                first
                  | exact ⟨n + 1, by go_num, by omega, by omega, hrr, hirr, hbb⟩
                  | ((repeat apply Exists.intro); exact ⟨⟨n + 1, by go_num, by omega, by omega, hrr, hirr, hbb⟩, rfl⟩)
              case measure => simp [intOf]; omega
          · have heq : ∀ w, (Op.equalIn 10000 62 (.agg (prow (redN (digF n p) d p (11 - d) f))) (.agg #[.int .i64 0, .int .i64 0, .int .i64 0, .int .i64 0, .int .i64 0, .int .i64 0, .int .i64 0, .int .i64 0, .int .i64 0, .int .i64 0, .int .i64 0])).run Tryd.prog w = .ok true w := fun w => by rw [eq51, hzz]
            go_wp2
            go_region_with (first | (go_at_call 28; refine (polyOf_any n p _ (by omega) hp hp').mono ?_; rintro e w1 ⟨rfl, hb1⟩; have c1 := (hr'.drew.below hb1).cells) | (go_at_call 46; refine (modulo_any f (digF n p) d p _ hp hp' hd (hd6 hle) hf (digF_in n p (by omega))).mono ?_; rintro e w2 ⟨rfl, hb2⟩))
            all_goals
              go_wp2
              go_ret
              refine ⟨false, ret_bool rfl, ⟨fun h => absurd h Bool.false_ne_true, fun h => absurd h (irr_not (b := n - c) hd hle (by rw [← HC.out]; omega) ?_)⟩, (hb'.drew.trans (hb1.mono hb'.size)).trans (hb2.mono ((hb'.drew.trans (hb1.mono hb'.size)).size))⟩
              rw [← HN.out, ← zB_iff, hzz]
        · have hpc : p * c ≤ 64 * 64 := Nat.mul_le_mul hp' hc
          have hpc' : (c : Int) * p ≤ 64 * 64 := by
            have : ((p * c : Nat) : Int) ≤ 64 * 64 := by omega
            rw [Int.natCast_mul, Int.mul_comm] at this
            exact this
          have hpc0 : 0 ≤ (c : Int) * p := Int.mul_nonneg (by omega) (by omega)
          go_wp2
          go_roundw
          case rel =>
            refine ⟨d + 1, c * p, by go_num, by simp, by omega, ?_, hr', ?_, hb', by omega⟩
            · show c * p = p ^ (d + 1)
              rw [Nat.pow_succ, ← HC.out]
            · refine irrTo_next ?_
              rw [← HC.out, show c = n - c by omega]
              exact hi'
          case measure => simp [intOf]; omega
    · go_wp2
      go_ret
      exact ⟨true, ret_bool rfl, ⟨fun _ => irr_done HI.out (by omega), fun _ => rfl⟩, hb⟩

end Go.Proofs.YtcjkcgfohmhbcabDoor.Fd

/- The walks of Number, Size, In and Product of the document's answer. -/
namespace Go.Proofs.YtcjkcgfohmhbcabDoor.Fd
open Go.RowKit

end Go.Proofs.YtcjkcgfohmhbcabDoor.Fd

/- The walk of Pow on a true field. -/
/- The walks of Least and of LeastField: the first field of an order. -/
/- The walks of low and of Fields. -/
/- The walks of Ints and Fields: are two lists, two fields the same? -/
namespace Go.Proofs.YtcjkcgfohmhbcabDoor.Fd
open Go.RowKit

end Go.Proofs.YtcjkcgfohmhbcabDoor.Fd

namespace Go.Proofs.YtcjkcgfohmhbcabDoor.Fd
open Go.RowKit

set_option maxRecDepth 100000 in
set_option maxHeartbeats 400000 in
theorem low_any (f : Nat → Int) (k : Nat) (w : World) (hk : 1 ≤ k) (hk' : k ≤ 11) :
    Calls Tryd.prog 30 #[.agg (prow f), .int .i64 k] w fun e w' => ∃ g cap, e = .returned (.slice (some ⟨g, 0, none⟩) k cap) ∧ w.heap.size ≤ g ∧ Own w' g k f ∧ Below w.heap.size w w' := by
  obtain ⟨i3, hi, hz0, hz1, hz2⟩ := info3
  have hmk : ∀ w : World, (Instr.makeSlice 23 (.int .i64 (k : Int)) (.int .i64 (k : Int))).run Tryd.prog w = .ok (.slice (some ⟨w.heap.size, 0, none⟩) k k) (w.alloc (.cells (madeCells #[.int .i64 0] k) 3)) := fun w => by
    have h := run_make (P := Tryd.prog) w 23 3 i3 (.int .i64 0) und22 hi hz0 .i64 .i64 k k (by omega) (by omega) (by rw [hz2]; omega) (by omega)
    rw [hz1] at h
    simpa [Value.cells] using h
  have hsz : (Tryd.prog.info? 3).map (·.size) = some 1 := by kernel_rfl
  have hrow := (Row.made w f).alloc (.cells (madeCells #[.int .i64 0] k) 3)
  have hnew : ((w.alloc (.cells (prow f) 62)).alloc (.cells (madeCells #[.int .i64 0] k) 3)).heap[w.heap.size + 1]? = some (.cells (madeCells #[.int .i64 0] k) 3 (0, 0)) := heap_alloc2_new w _ _
  clear hi
  go_enter Tryd.func30, Tryd.ntmps30
  go_wp2_with (first
    | (refine wpList_copy_own rfl _ _ 23 23 rfl 3 und22 hsz (w.heap.size + 1) 0 k k ⟨w.heap.size, 0, none⟩ 11 11 rfl rfl (madeCells #[.int .i64 0] k) 3 hnew ((List.range k).map fun j => Value.int .i64 (f j)) ?c1 ?c2 ?c3 ?c4 ?_)
    | go_in)
  case c1 => show _ = min 11 k; simp; omega
  case c2 =>
    intro j v hj
    simp only [List.getElem?_map, Option.map_eq_some_iff] at hj
    obtain ⟨z, hz, rfl⟩ := hj
    have hjk : j < k := by
      have := (List.getElem?_eq_some_iff.1 hz).1
      simpa using this
    have hzj : z = j := by
      have h := (List.getElem?_eq_some_iff.1 hz).2
      simpa using h.symm
    subst hzj
    have hx := hrow.cell z (by omega)
    by_cases e : z = 0
    · subst e; simpa [Addr.add] using hx
    · simpa [Addr.add, e] using hx
  case c3 => simp [size_madeCells]
  case c4 => intro v hv; simp at hv; obtain ⟨z, _, rfl⟩ := hv; rfl
  go_wp2
  go_ret
  refine ⟨w.heap.size + 1, k, rfl, by omega, ⟨_, setRow_heap _ _ _ _ _ _ hnew, fun j hj => ?_⟩, bsetRow (((Below.refl _ _).alloc (Nat.le_refl _) _).alloc (by simp) _) (by omega) _⟩
  simp [hj, List.getElem?_append]

end Go.Proofs.YtcjkcgfohmhbcabDoor.Fd

/- The walk of Fault: what is wrong with a field. -/
/- The walk of divides. -/
namespace Go.Proofs.YtcjkcgfohmhbcabDoor.Fd
open Go.RowKit

end Go.Proofs.YtcjkcgfohmhbcabDoor.Fd

namespace Go.Proofs.YtcjkcgfohmhbcabDoor.Fd
open Go.RowKit

end Go.Proofs.YtcjkcgfohmhbcabDoor.Fd

namespace Go.Proofs.YtcjkcgfohmhbcabDoor.Fd
open Go.RowKit

theorem one3 (p k : Int) (v : Value) (h : v.oneCell' = true) : (#[.int .i64 p, .int .i64 k, v] : Array Value).all (·.oneCell') = true := by
  have h1 : ∀ z : Int, (Value.int .i64 z).oneCell' = true := fun _ => rfl
  simp [h, h1]

set_option maxRecDepth 100000 in
set_option maxHeartbeats 1000000 in
theorem least_any (p k : Int) (w : World) (hT : Tab w) :
    Calls Tryd.prog 11 #[.int .i64 p, .int .i64 k] w fun e w' => ∃ (q d : Int) (v : Value) (l : List Int) (z : Int), e = .returned (.tuple #[.agg #[.int .i64 q, .int .i64 d, v], .int .i64 z]) ∧ Sl w' v l ∧ LeastIs p k q d l z ∧ Below w.heap.size w w' := by
  by_cases h0 : ordZ p k = 0
  · have HO : Hid (ordZ p k = 0) := h0
    have hbb : (ordZ p k == 0) = true := by simp [h0]
    clear h0
    go_enter Tryd.func11, Tryd.ntmps11
    go_wp2_with (go_at_call 27; refine (order_any p k _ (hT.alloc _)).mono ?_; rintro e w' ⟨rfl, rfl⟩)
    exact bodyPost_ret (v := .tuple #[.agg #[.int .i64 0, .int .i64 0, .slice none 0 0], .int .i64 1]) (by simp [results, Tryd.results11, go_sem]) rfl ⟨0, 0, _, [], 1, rfl, Sl.nil _, .inl ⟨HO.out, rfl, rfl, rfl, rfl⟩, (Below.refl _ _).alloc (Nat.le_refl _) _⟩
  · obtain ⟨P, K, rfl, rfl, hP, hP', hK, hK', hPK, hq⟩ := ord_nat h0
    have HN0 : Hid (ordZ (P : Int) K ≠ 0) := h0
    obtain ⟨Q, HQ⟩ : ∃ Q : Nat, Hid (Q = P ^ K) := ⟨_, rfl⟩
    rw [← HQ.out] at hq
    have hQ64 : Q ≤ 64 := by rw [HQ.out]; exact hPK
    have hQ0 : 0 < Q := by rw [HQ.out]; exact Nat.pow_pos (by omega)
    have hbb : ((Q : Int) == 0) = false := by simp; omega
    clear h0
    go_enter Tryd.func11, Tryd.ntmps11
    go_wp2_with (go_at_call 27; refine (order_any P K _ (hT.alloc _)).mono ?_; rintro e w' ⟨rfl, rfl⟩)
    go_loopw [7] (fun i wr => ∃ n : Nat, i = .int .i64 n ∧ Q ≤ n ∧ n ≤ 2 * Q ∧ Hid (∀ m, m < n - Q → ¬ goodAt P K m) ∧ FB wr w.heap.size 0 0 (.slice none 0 0) ∧ Below w.heap.size w wr) (fun i _ => (2 * Q - intOf i).toNat)
    case atStart => exact ⟨Q, rfl, by omega, by omega, (fun m hm => by omega : ∀ m, m < Q - Q → _), FB.made w 0 0 (.slice none 0 0), (Below.refl _ _).alloc (Nat.le_refl _) _⟩
    case round =>
      obtain ⟨n, rfl, hn1, hn2, HG, hF, hb⟩ := hrel
      by_cases hlt : n < 2 * Q
      · have hdec : decide ((n : Int) < 2 * Q) = true := by simp; omega
        go_wp2_with fail
        refine (polyOf_any n P _ (by omega) hP (by omega)).mono ?_
        rintro e w1 ⟨rfl, hb1⟩
        have hF1 := hF.below hb1
        have hb1' : Below w.heap.size w w1 := hb.trans (hb1.mono hb.size)
        have hFl := hF1.lt
        have hnew := Row.made0 w1
        go_wp2_with (first
          | (refine wpList_store_row rfl 62 _ _ rfl w1.heap.size (prow (digF n P)) rfl rfl 62 _ hnew (inf51 _) (by simp) (prow_one _) ?_)
          | (refine wpList_load_row rfl 62 _ rfl w1.heap.size rfl 62 _ (0, 0) _ (hnew.whole (digF n P)) und51 rfl (inf51 _) ?_))
        refine (irreducible_any (digF n P) K P _ hP (by omega) hK hPK (digF_in n P (by omega))).mono ?_
        rintro e w2 ⟨r, rfl, hr, hb2⟩
        have hbA : Below w1.heap.size w1 ((w1.alloc (.cells #[.int .i64 0, .int .i64 0, .int .i64 0, .int .i64 0, .int .i64 0, .int .i64 0, .int .i64 0, .int .i64 0, .int .i64 0, .int .i64 0, .int .i64 0] 62)).setRow w1.heap.size (prow (digF n P))) := bsetRow ((Below.refl _ _).alloc (Nat.le_refl _) _) (Nat.le_refl _) _
        have hF2 := (hF1.below hbA).below hb2
        have hR2 := (hnew.whole (digF n P)).below hb2
        have hb12 : Below w.heap.size w w2 := (hb1'.trans (hbA.mono hb1'.size)).trans (hb2.mono (hb1'.trans (hbA.mono hb1'.size)).size)
        have HE : Hid (n = P ^ K + (n - Q)) := by
          show n = P ^ K + (n - Q)
          rw [← HQ.out]; omega
        have HR : Hid (r = true ↔ goodAt P K (n - Q)) := by
          show r = true ↔ irrP (digF (P ^ K + (n - Q)) P) K P
          rw [← HE.out]; exact hr
        clear hr hnew
        cases r
        · go_wp2
          go_roundw
          case rel =>
            refine ⟨n + 1, by go_num, by omega, by omega, (fun m hm => ?_ : ∀ m, m < n + 1 - Q → _), hF2, hb12⟩
            by_cases e : m = n - Q
            · subst e; exact fun h => absurd (HR.out.2 h) Bool.false_ne_true
            · exact HG.out m (by omega)
          case measure => simp [intOf]; omega
        · go_wp2_with (refine wpList_load_row rfl 62 _ rfl w1.heap.size rfl 62 _ (0, 0) _ hR2 und51 rfl (inf51 _) ?_)
          refine (low_any (digF n P) K _ hK (by omega)).mono ?_
          rintro e w3 ⟨g, cap, rfl, hgw, hO, hb3⟩
          have hF3 := hF2.below hb3
          have hb13 : Below w.heap.size w w3 := hb12.trans (hb3.mono hb12.size)
          have hFc := (hF3.whole P K (.slice (some ⟨g, 0, none⟩) K cap)).cells
          have hlt2 := hF2.lt
          go_wp2_with (refine wpList_store_row rfl 36 _ _ rfl w.heap.size #[.int .i64 P, .int .i64 K, .slice (some ⟨g, 0, none⟩) K cap] rfl rfl 36 _ hF3 inf24 rfl (one3 _ _ _ rfl) ?_)
          refine bodyPost_ret (v := .tuple #[.agg #[.int .i64 P, .int .i64 K, .slice (some ⟨g, 0, none⟩) K cap], .int .i64 0]) (by simp [results, Tryd.results11, go_sem, hFc]) rfl ⟨P, K, _, digL (n - Q) P K, 0, rfl, ?_, .inr ⟨P, K, rfl, rfl, HN0.out, .inl ⟨n - Q, by rw [← HQ.out]; omega, HR.out.1 (by trivial), HG.out, rfl, rfl, rfl, rfl⟩⟩, bsetRow hb13 (Nat.le_refl _) _⟩
          have hs := (hO.rowOther w.heap.size #[.int .i64 P, .int .i64 K, .slice (some ⟨g, 0, none⟩) K cap] (by omega)).sl cap
          have e : (List.range K).map (digF n P) = digL (n - Q) P K := by
            unfold digL
            apply List.map_congr_left
            intro t ht
            conv => lhs; rw [HE.out]
            exact digF_low (n - Q) P K t hP (by simpa using ht)
          rw [e] at hs
          exact hs
      · have hFc := (hF.whole 0 0 (.slice none 0 0)).cells
        go_wp2_with (refine wpList_store_row rfl 36 _ _ rfl w.heap.size #[.int .i64 0, .int .i64 0, .slice none 0 0] rfl rfl 36 _ hF inf24 rfl (one3 _ _ _ rfl) ?_)
        refine bodyPost_ret (v := .tuple #[.agg #[.int .i64 0, .int .i64 0, .slice none 0 0], .int .i64 4]) (by simp [results, Tryd.results11, go_sem, hFc]) rfl ⟨0, 0, _, [], 4, rfl, Sl.nil _, .inr ⟨P, K, rfl, rfl, HN0.out, .inr ⟨fun m hm => HG.out m (by rw [← HQ.out] at hm; omega), rfl, rfl, rfl, rfl⟩⟩, bsetRow hb (Nat.le_refl _) _⟩

end Go.Proofs.YtcjkcgfohmhbcabDoor.Fd

/- The walk of LeastField: the first field of an order, as the document's answer has it. -/
namespace Go.Proofs.YtcjkcgfohmhbcabDoor.Fd
open Go.RowKit

end Go.Proofs.YtcjkcgfohmhbcabDoor.Fd

/- The walks of add and mul. -/
/- The walk of open: a field is looked at, and elements of it. -/
namespace Go.Proofs.YtcjkcgfohmhbcabDoor.Fd
open Go.RowKit

/-- The cells of a field that has been looked at. -/
def ringRow (p k q : Int) (f : Nat → Int) : Array Value := #[.int .i64 p, .int .i64 k, .int .i64 q, .int .i64 (f 0), .int .i64 (f 1), .int .i64 (f 2), .int .i64 (f 3), .int .i64 (f 4), .int .i64 (f 5), .int .i64 (f 6), .int .i64 (f 7), .int .i64 (f 8), .int .i64 (f 9), .int .i64 (f 10)]
def RB (w : World) (g : Nat) (p k q : Int) (f : Nat → Int) : Prop := w.heap[g]? = some (.cells (ringRow p k q f) 89 (0, 0))
theorem RB.lt {w : World} {g : Nat} {p k q : Int} {f : Nat → Int} (h : RB w g p k q f) : g < w.heap.size := (Array.getElem?_eq_some_iff.1 h).1
theorem RB.below {w w' : World} {g : Nat} {p k q : Int} {f : Nat → Int} (h : RB w g p k q f) (hb : Below w.heap.size w w') : RB w' g p k q f := (hb.block g h.lt).trans h
theorem RB.drew {w : World} {g : Nat} {p k q : Int} {f : Nat → Int} (h : RB w g p k q f) : RB w.drew g p k q f := h
theorem RB.made (w : World) (p k q : Int) (f : Nat → Int) : RB (w.alloc (.cells (ringRow p k q f) 89)) w.heap.size p k q f := heap_alloc_new w _
theorem RB.whole {w : World} {g : Nat} {p k q : Int} {f : Nat → Int} (h : RB w g p k q f) (p' k' q' : Int) (f' : Nat → Int) : RB (w.setRow g (ringRow p' k' q' f')) g p' k' q' f' := setRow_heap w g _ _ _ _ h
set_option maxRecDepth 100000 in
theorem inf53 (p k q : Int) (f : Nat → Int) : (Tryd.prog.info? 89).map (·.size) = some (ringRow p k q f).size := by kernel_rfl
theorem ringRow_one (p k q : Int) (f : Nat → Int) : (ringRow p k q f).all (·.oneCell') = true := by
  have h1 : ∀ z : Int, (Value.int .i64 z).oneCell' = true := fun _ => rfl
  simp [ringRow, h1]
set_option maxRecDepth 100000 in
theorem und53 : ∃ fs, Tryd.prog.underlying 89 = some (.struct fs) := by
  have h : (match Tryd.prog.underlying 89 with | some (.struct _) => true | _ => false) = true := by kernel_rfl
  split at h
  · exact ⟨_, by assumption⟩
  · cases h
set_option maxRecDepth 100000 in
theorem post_ring {fn : Func} {R : Ending → World → Prop} {a : Act} {w : World} {g : Nat} {p k q : Int} {f : Nat → Int} {z : Int} (hres : fn.results = #[.cell 4 89, .tmp 5])
    (hp : a.tmps.getD 4 undef = .pointer (some ⟨g, 0, none⟩)) (hz : a.tmps.getD 5 undef = .int .i64 z) (hr : RB w g p k q f) (hd : a.defers = []) (hR : R (.returned (.tuple #[.agg (ringRow p k q f), .int .i64 z])) w) : bodyPost Tryd.prog fn R .ret a w := by
  obtain ⟨fs, hu⟩ := und53
  refine bodyPost_ret ?_ hd hR
  have hp' : a.tmps[4]?.getD undef = .pointer (some ⟨g, 0, none⟩) := by simpa using hp
  have hz' : a.tmps[5]?.getD undef = .int .i64 z := by simpa using hz
  simp [results, hres, hp', hz', asAddr, run_loadVar_row w g 89 89 (ringRow p k q f) (0, 0) _ hr hu rfl (inf53 p k q f)]

/-- What open is to tell of a field and elements. -/
def OpenIs (p k : Int) (l es : List Int) (z : Int) : Prop :=
  (z ≠ 0 ∧ FaultIs p k l z) ∨ (FaultIs p k l 0 ∧ ¬ inL (ordZ p k) es ∧ z = 1) ∨ (FaultIs p k l 0 ∧ inL (ordZ p k) es ∧ z = 0)

set_option maxRecDepth 100000 in
set_option maxHeartbeats 1000000 in
theorem open_any (p k : Int) (l es : List Int) (v u : Value) (w : World) (hT : Tab w) (hl : Sl w v l) (he : Sl w u es) (hll : l.length ≤ maxLen) (hel : es.length ≤ maxLen) :
    Calls Tryd.prog 47 #[.agg #[.int .i64 p, .int .i64 k, v], u] w fun e w' => ∃ (z a b c : Int) (f : Nat → Int), e = .returned (.tuple #[.agg (ringRow a b c f), .int .i64 z]) ∧ OpenIs p k l es z ∧ Hid (z = 0 → a = p ∧ b = k ∧ c = ordZ p k ∧ f = monL l) ∧ Below w.heap.size w w' := by
  obtain ⟨A, ca, rfl, _⟩ := id hl
  have hF0 : FB ((w.alloc (.cells #[.int .i64 p, .int .i64 k, .slice A l.length ca] 36)).alloc (.cells #[.int .i64 0, .int .i64 0, .int .i64 0, .int .i64 0, .int .i64 0, .int .i64 0, .int .i64 0, .int .i64 0, .int .i64 0, .int .i64 0, .int .i64 0, .int .i64 0, .int .i64 0, .int .i64 0] 89)) w.heap.size p k (.slice A l.length ca) := (FB.made w p k _).below ((Below.refl _ _).alloc (Nat.le_refl _) _)
  have hR0 : RB ((w.alloc (.cells #[.int .i64 p, .int .i64 k, .slice A l.length ca] 36)).alloc (.cells #[.int .i64 0, .int .i64 0, .int .i64 0, .int .i64 0, .int .i64 0, .int .i64 0, .int .i64 0, .int .i64 0, .int .i64 0, .int .i64 0, .int .i64 0, .int .i64 0, .int .i64 0, .int .i64 0] 89)) (w.heap.size + 1) 0 0 0 (fun _ => 0) := by
    have h := RB.made (w.alloc (.cells #[.int .i64 p, .int .i64 k, .slice A l.length ca] 36)) 0 0 0 (fun _ => 0)
    simpa [ringRow] using h
  have hB0 : Below w.heap.size w ((w.alloc (.cells #[.int .i64 p, .int .i64 k, .slice A l.length ca] 36)).alloc (.cells #[.int .i64 0, .int .i64 0, .int .i64 0, .int .i64 0, .int .i64 0, .int .i64 0, .int .i64 0, .int .i64 0, .int .i64 0, .int .i64 0, .int .i64 0, .int .i64 0, .int .i64 0, .int .i64 0] 89)) := ((Below.refl _ _).alloc (Nat.le_refl _) _).alloc (by simp) _
  by_cases h0 : ordZ p k = 0
  · have HO : Hid (ordZ p k = 0) := h0
    have hbb : (ordZ p k == 0) = true := by simp [h0]
    clear h0
    go_enter Tryd.func47, Tryd.ntmps47
    go_wp2_with (go_at_call 27; refine (order_any p k _ ((hT.alloc _).alloc _)).mono ?_; rintro e w' ⟨rfl, rfl⟩)
    exact post_ring rfl rfl rfl hR0 rfl ⟨1, 0, 0, 0, fun _ => 0, rfl, .inl ⟨by decide, .inl ⟨HO.out, rfl⟩⟩, (fun h => absurd h (by decide) : (1 : Int) = 0 → _), hB0⟩
  · obtain ⟨P, K, rfl, rfl, hP, hP', hK, hK', hPK, hq⟩ := ord_nat h0
    have HN0 : Hid (ordZ (P : Int) K ≠ 0) := h0
    obtain ⟨Q, HQ⟩ : ∃ Q : Nat, Hid (Q = P ^ K) := ⟨_, rfl⟩
    rw [← HQ.out] at hq
    have hQ64 : Q ≤ 64 := by rw [HQ.out]; exact hPK
    have hQ0 : 0 < Q := by rw [HQ.out]; exact Nat.pow_pos (by omega)
    have hbb : ((Q : Int) == 0) = false := by simp; omega
    have HQZ : Hid (ordZ (P : Int) K = Q) := hq
    clear h0
    by_cases h1 : (l.length : Int) = K
    · have hlK : l.length = K := by omega
      rw [hlK] at hl hF0 hR0 hB0
      rw [hlK]
      have hsl0 := hl.below hB0
      have hel0 := he.below hB0
      have hne : ((K : Int) != K) = false := by simp
      cases hin : inLB (P : Int) l
      · have HIN : Hid (¬ inL (P : Int) l) := fun h => by rw [(inLB_iff _ _).2 h] at hin; cases hin
        go_enter Tryd.func47, Tryd.ntmps47
        go_wp2_with (go_at_call 27; refine (order_any P K _ ((hT.alloc _).alloc _)).mono ?_; rintro e w' ⟨rfl, rfl⟩)
        refine (allBelow_any l _ P _ hsl0 hll).mono ?_
        rintro e w' ⟨rfl, rfl⟩
        go_wp2
        exact post_ring rfl rfl rfl hR0 rfl ⟨1, 0, 0, 0, fun _ => 0, rfl, .inl ⟨by decide, .inr (.inr (.inl ⟨HN0.out, by omega, HIN.out, rfl⟩))⟩, (fun h => absurd h (by decide) : (1 : Int) = 0 → _), hB0⟩
      · have HIN : Hid (inL (P : Int) l) := (inLB_iff _ _).1 hin
        have hmin := monL_in (l := l) (p := (P : Int)) (by omega) HIN.out
        go_enter Tryd.func47, Tryd.ntmps47
        go_wp2_with (go_at_call 27; refine (order_any P K _ ((hT.alloc _).alloc _)).mono ?_; rintro e w' ⟨rfl, rfl⟩)
        refine (allBelow_any l _ P _ hsl0 hll).mono ?_
        rintro e w' ⟨rfl, rfl⟩
        go_wp2_with fail
        refine (monic_any l K _ _ hsl0 hlK hK (by omega)).mono ?_
        rintro e w1 ⟨rfl, hb1⟩
        have hF1 := hF0.below hb1
        have hR1 := hR0.below hb1
        have hel1 := hel0.below hb1
        have hB1 : Below w.heap.size w w1 := hB0.trans (hb1.mono hB0.size)
        have hFc1 := hF1.cells
        have hFl := hR1.lt
        have hnew := Row.made0 w1
        have hbA : Below w1.heap.size w1 ((w1.alloc (.cells #[.int .i64 0, .int .i64 0, .int .i64 0, .int .i64 0, .int .i64 0, .int .i64 0, .int .i64 0, .int .i64 0, .int .i64 0, .int .i64 0, .int .i64 0] 62)).setRow w1.heap.size (prow (monL l))) := bsetRow ((Below.refl _ _).alloc (Nat.le_refl _) _) (Nat.le_refl _) _
        have hFcA := (hF1.below hbA).cells
        go_wp2_with (first
          | (refine wpList_store_row rfl 62 _ _ rfl w1.heap.size (prow (monL l)) rfl rfl 62 _ hnew (inf51 _) (by simp) (prow_one _) ?_)
          | (refine wpList_load_row rfl 62 _ rfl w1.heap.size rfl 62 _ (0, 0) _ (hnew.whole (monL l)) und51 rfl (inf51 _) ?_))
        refine (irreducible_any (monL l) K P _ hP (by omega) hK hPK hmin).mono ?_
        rintro e w2 ⟨r, rfl, hr, hb2⟩
        have hF2 := (hF1.below hbA).below hb2
        have hR2 := (hR1.below hbA).below hb2
        have hM2 := (hnew.whole (monL l)).below hb2
        have hel2 := (hel1.below hbA).below hb2
        have hBA : Below w.heap.size w ((w1.alloc (.cells #[.int .i64 0, .int .i64 0, .int .i64 0, .int .i64 0, .int .i64 0, .int .i64 0, .int .i64 0, .int .i64 0, .int .i64 0, .int .i64 0, .int .i64 0] 62)).setRow w1.heap.size (prow (monL l))) := hB1.trans (hbA.mono hB1.size)
        have hB2 : Below w.heap.size w w2 := hBA.trans (hb2.mono hBA.size)
        have hFc2 := hF2.cells
        have HR : Hid (r = true ↔ irrP (monL l) K P) := hr
        clear hr hnew hbA hBA hFcA hFc1 hF0 hR0 hF1 hR1 hel0 hel1 hB0 hb1 hb2 hsl0 hin
        cases r
        · go_wp2_with (first
            | (refine wpList_store_row rfl 89 _ _ rfl (w.heap.size + 1) (ringRow 0 0 0 fun _ => 0) rfl rfl 89 _ hR2 (inf53 _ _ _ _) rfl (ringRow_one _ _ _ _) ?_))
          refine post_ring rfl rfl rfl (hR2.whole 0 0 0 fun _ => 0) rfl ⟨4, 0, 0, 0, fun _ => 0, rfl, .inl ⟨by decide, .inr (.inr (.inr (.inl ⟨HN0.out, by omega, HIN.out, fun h => ?_, rfl⟩)))⟩, (fun h => absurd h (by decide) : (4 : Int) = 0 → _), bsetRow hB2 (by omega) _⟩
          rw [Int.toNat_natCast, Int.toNat_natCast] at h
          exact absurd (HR.out.2 h) Bool.false_ne_true
        · have hirr : irrP (monL l) K P := HR.out.1 rfl
          have HF : Hid (FaultIs (P : Int) K l 0) := .inr (.inr (.inr (.inr ⟨HN0.out, by omega, HIN.out, by rw [Int.toNat_natCast, Int.toNat_natCast]; exact hirr, rfl⟩)))
          clear hirr
          go_wp2_with fail
          refine (allBelow_any es u Q _ hel2 hel).mono ?_
          rintro e w' ⟨rfl, rfl⟩
          cases hes : inLB (Q : Int) es
          · go_wp2_with (first
              | (refine wpList_store_row rfl 89 _ _ rfl (w.heap.size + 1) (ringRow 0 0 0 fun _ => 0) rfl rfl 89 _ hR2 (inf53 _ _ _ _) rfl (ringRow_one _ _ _ _) ?_))
            refine post_ring rfl rfl rfl (hR2.whole 0 0 0 fun _ => 0) rfl ⟨1, 0, 0, 0, fun _ => 0, rfl, .inr (.inl ⟨HF.out, fun h => ?_, rfl⟩), (fun h => absurd h (by decide) : (1 : Int) = 0 → _), bsetRow hB2 (by omega) _⟩
            rw [HQZ.out] at h
            rw [(inLB_iff _ _).2 h] at hes
            cases hes
          · go_wp2_with (first
              | (refine wpList_load_row rfl 62 _ rfl w1.heap.size rfl 62 #[.int .i64 (monL l 0), .int .i64 (monL l 1), .int .i64 (monL l 2), .int .i64 (monL l 3), .int .i64 (monL l 4), .int .i64 (monL l 5), .int .i64 (monL l 6), .int .i64 (monL l 7), .int .i64 (monL l 8), .int .i64 (monL l 9), .int .i64 (monL l 10)] (0, 0) _ hM2 und51 rfl (inf51 (monL l)) ?_)
              | (refine wpList_store_row rfl 89 _ _ rfl (w.heap.size + 1) (ringRow P K Q (monL l)) rfl rfl 89 _ hR2 (inf53 _ _ _ _) rfl (ringRow_one _ _ _ _) ?_))
            refine post_ring rfl rfl rfl (hR2.whole P K Q (monL l)) rfl ⟨0, P, K, Q, monL l, rfl, .inr (.inr ⟨HF.out, ?_, rfl⟩), (fun _ => ⟨rfl, rfl, HQZ.out.symm, rfl⟩ : (0 : Int) = 0 → _), bsetRow hB2 (by omega) _⟩
            rw [HQZ.out]; exact (inLB_iff _ _).1 hes
    · have hl1 : Hid ((l.length : Int) ≠ K) := h1
      have hne : ((l.length : Int) != (K : Int)) = true := by simpa using h1
      clear h1
      go_enter Tryd.func47, Tryd.ntmps47
      go_wp2_with (go_at_call 27; refine (order_any P K _ ((hT.alloc _).alloc _)).mono ?_; rintro e w' ⟨rfl, rfl⟩)
      exact post_ring rfl rfl rfl hR0 rfl ⟨2, 0, 0, 0, fun _ => 0, rfl, .inl ⟨by decide, .inr (.inl ⟨HN0.out, hl1.out, rfl⟩)⟩, (fun h => absurd h (by decide) : (2 : Int) = 0 → _), hB0⟩

end Go.Proofs.YtcjkcgfohmhbcabDoor.Fd

namespace Go.Proofs.YtcjkcgfohmhbcabDoor.Fd
open Go.RowKit

theorem keepS {w W W1 : World} {g : Nat} {x : Value} (h : W.cell? ⟨g, 0, none⟩ = some x ∧ Below w.heap.size w W) (hb : Below W.heap.size W W1) : W1.cell? ⟨g, 0, none⟩ = some x ∧ Below w.heap.size w W1 :=
  ⟨(hb.cell (p := ⟨g, 0, none⟩) (block_lt_of_cell h.1)).trans h.1, h.2.trans (hb.mono h.2.size)⟩

set_option maxRecDepth 100000 in
set_option maxHeartbeats 1000000 in
theorem add_any (P K a b : Nat) (Q : Int) (f : Nat → Int) (w : World) (hP : 2 ≤ P) (hP' : P ≤ 64) (hK : 1 ≤ K) (hK' : K ≤ 6) (hPK : P ^ K ≤ 64) (ha : a < P ^ K) (hb : b < P ^ K) :
    Calls Tryd.prog 71 #[.agg (ringRow P K Q f), .int .i64 a, .int .i64 b] w fun e w' => e = .returned (.int .i64 (hor (plusF (digF a P) (digF b P) P) P K K)) ∧ Below w.heap.size w w' := by
  have hSt : ((w.alloc (.cells (ringRow P K Q f) 89)).drew).cell? ⟨w.heap.size, 0, none⟩ = some (.int .i64 P) ∧ Below w.heap.size w ((w.alloc (.cells (ringRow P K Q f) 89)).drew) :=
    ⟨(cell_of_row (w.alloc (.cells (ringRow P K Q f) 89)) w.heap.size 0 _ _ _ (RB.made w P K Q f)), ((Below.refl _ _).alloc (Nat.le_refl _) _).drew⟩
  go_enter Tryd.func71, Tryd.ntmps71
  go_wp2
  go_region_held3 (fun w' => w'.cell? ⟨w.heap.size, 0, none⟩ = some (.int .i64 P) ∧ Below w.heap.size w w') (first | assumption | go_keep)
    (first
      | (go_at_call_of 28 (Value.int .i64 (a : Int)); refine (polyOf_any a P _ (by omega) hP hP').mono ?_; rintro e w1 ⟨rfl, hb1⟩; have hS1 := keepS (by assumption) hb1)
      | (go_at_call_of 28 (Value.int .i64 (b : Int)); refine (polyOf_any b P _ (by omega) hP hP').mono ?_; rintro e w2 ⟨rfl, hb2⟩; have hS2 := keepS (by assumption) hb2)
      | (go_at_call 80; refine (plus_any _ _ P _ hP hP' (digF_in a P (by omega)) (digF_in b P (by omega))).mono ?_; rintro e w3 ⟨rfl, hb3⟩; have hS3 := keepS (by assumption) hb3)
      | (go_at_call 79; refine (number_any _ P K _ hP hP' hK hK' hPK (plusF_in _ _ P (by omega)) ?_).mono ?_; exact fun t ht _ => plus_small ha hb hP t ht; rintro e w4 ⟨rfl, hb4⟩; have hS4 := keepS (by assumption) hb4))
  all_goals (go_wp2; go_ret; exact ⟨rfl, hS4.2⟩)

end Go.Proofs.YtcjkcgfohmhbcabDoor.Fd

/- The walk of Times of the document's answer; the two products are one. -/
/- The walk of mul. -/
namespace Go.Proofs.YtcjkcgfohmhbcabDoor.Fd
open Go.RowKit

def rowL (f : Nat → Int) : List Value := (List.range 11).map fun j => Value.int .i64 (f j)
theorem rowL_length (f : Nat → Int) : (rowL f).length = 11 := by simp [rowL]
theorem rowL_one (f : Nat → Int) : ∀ v ∈ rowL f, v.oneCell' = true := by
  intro v hv
  simp only [rowL, List.mem_map] at hv
  obtain ⟨j, _, rfl⟩ := hv
  rfl
set_option maxRecDepth 100000 in
theorem rowL_size (f : Nat → Int) : (Tryd.prog.info? 62).map (·.size) = some (rowL f).length := by rw [rowL_length]; kernel_rfl
theorem rangeAt_below {W W1 : World} {g o : Nat} {cs : List Value} (h : W.rangeAt g o cs) (hb : Below W.heap.size W W1) : W1.rangeAt g o cs :=
  fun j v hv => (hb.cell (p := ⟨g, o + j, none⟩) (block_lt_of_cell (h j v hv))).trans (h j v hv)
theorem there_below {W W1 : World} {g o n : Nat} (h : W.there g o n) (hb : Below W.heap.size W W1) : W1.there g o n := fun j hj => by
  obtain ⟨h1, h2⟩ := h j hj
  obtain ⟨v, hv⟩ := Option.isSome_iff_exists.1 h1
  have hl := block_lt_of_cell hv
  exact ⟨by rw [hb.cell (p := ⟨g, o + j, none⟩) hl]; exact h1, by rw [hb.frozen (p := ⟨g, o + j, none⟩) hl]; exact h2⟩
theorem bsetCells {B : Nat} {w0 : World} (g : Nat) (hg : B ≤ g) : ∀ (vs : List Value) (o : Nat) (w : World), Below B w0 w → Below B w0 (w.setCells g o vs)
  | [], _, _, h => h
  | v :: r, o, _, h => bsetCells g hg r (o + 1) _ (h.setCell hg v)
theorem RS.below {w W W1 : World} {P K : Int} {M : List Value} (h : W.cell? ⟨w.heap.size, 0, none⟩ = some (.int .i64 P) ∧ W.cell? ⟨w.heap.size, 1, none⟩ = some (.int .i64 K) ∧ W.rangeAt w.heap.size 3 M ∧ Below w.heap.size w W) (hb : Below W.heap.size W W1) : W1.cell? ⟨w.heap.size, 0, none⟩ = some (.int .i64 P) ∧ W1.cell? ⟨w.heap.size, 1, none⟩ = some (.int .i64 K) ∧ W1.rangeAt w.heap.size 3 M ∧ Below w.heap.size w W1 :=
  ⟨(hb.cell (p := ⟨w.heap.size, 0, none⟩) (block_lt_of_cell h.1)).trans h.1, (hb.cell (p := ⟨w.heap.size, 1, none⟩) (block_lt_of_cell h.2.1)).trans h.2.1, rangeAt_below h.2.2.1 hb, h.2.2.2.trans (hb.mono h.2.2.2.size)⟩
theorem RS.stored {w W : World} {P K : Int} {M : List Value} {g n : Nat} {vs : List Value} (h : W.cell? ⟨w.heap.size, 0, none⟩ = some (.int .i64 P) ∧ W.cell? ⟨w.heap.size, 1, none⟩ = some (.int .i64 K) ∧ W.rangeAt w.heap.size 3 M ∧ Below w.heap.size w W) (hg : w.heap.size < g ∧ W.there g 0 n) :
    (W.setCells g 0 vs).cell? ⟨w.heap.size, 0, none⟩ = some (.int .i64 P) ∧ (W.setCells g 0 vs).cell? ⟨w.heap.size, 1, none⟩ = some (.int .i64 K) ∧ (W.setCells g 0 vs).rangeAt w.heap.size 3 M ∧ Below w.heap.size w (W.setCells g 0 vs) := by
  have hne : w.heap.size ≠ g := by omega
  exact ⟨(World.cell?_setCells_out g vs 0 W _ (fun e _ => absurd e hne)).trans h.1, (World.cell?_setCells_out g vs 0 W _ (fun e _ => absurd e hne)).trans h.2.1, World.rangeAt_setCells_apart h.2.2.1 g 0 vs (.inl hne), bsetCells g (by omega) vs 0 W h.2.2.2⟩
theorem madeThere {w W : World} {P K : Int} {M : List Value} (h : W.cell? ⟨w.heap.size, 0, none⟩ = some (.int .i64 P) ∧ W.cell? ⟨w.heap.size, 1, none⟩ = some (.int .i64 K) ∧ W.rangeAt w.heap.size 3 M ∧ Below w.heap.size w W) : w.heap.size < W.heap.size ∧ (W.alloc (.cells #[.int .i64 0, .int .i64 0, .int .i64 0, .int .i64 0, .int .i64 0, .int .i64 0, .int .i64 0, .int .i64 0, .int .i64 0, .int .i64 0, .int .i64 0] 62)).there W.heap.size 0 11 := by
  refine ⟨by simpa using block_lt_of_cell h.1, fun j hj => ?_⟩
  have hr := Row.made0 W
  rw [Nat.zero_add]
  exact ⟨by rw [hr.cell j hj]; rfl, hr.frozen j⟩
theorem RS2 {w W W1 : World} {P K : Int} {L M : List Value} {g : Nat} (h : W.rangeAt g 0 L ∧ W.cell? ⟨w.heap.size, 0, none⟩ = some (.int .i64 P) ∧ W.cell? ⟨w.heap.size, 1, none⟩ = some (.int .i64 K) ∧ W.rangeAt w.heap.size 3 M ∧ Below w.heap.size w W) (hb : Below W.heap.size W W1) : W1.rangeAt g 0 L ∧ W1.cell? ⟨w.heap.size, 0, none⟩ = some (.int .i64 P) ∧ W1.cell? ⟨w.heap.size, 1, none⟩ = some (.int .i64 K) ∧ W1.rangeAt w.heap.size 3 M ∧ Below w.heap.size w W1 :=
  ⟨rangeAt_below h.1 hb, RS.below h.2 hb⟩
theorem rangeOf {w W : World} {g : Nat} {L : List Value} (hl : L.length = 11) (h : w.heap.size < g ∧ W.there g 0 11) : (W.setCells g 0 L).rangeAt g 0 L := World.rangeAt_setCells_same W g 0 L (by rw [hl]; exact h.2)
theorem thereB {w W W1 : World} {g n : Nat} (h : w.heap.size < g ∧ W.there g 0 n) (hb : Below W.heap.size W W1) : w.heap.size < g ∧ W1.there g 0 n := ⟨h.1, there_below h.2 hb⟩
theorem times_L (f g : Nat → Int) (p : Nat) (L : List Value) (hL : Hid (L = rowL (mulN f g p 6 6))) (w : World) (hp : 2 ≤ p) (hp' : p ≤ 64) (hf : inP p f) (hg : inP p g) :
    Calls Tryd.prog 78 #[.agg (prow f), .agg (prow g), .int .i64 p] w fun e w' => e = .returned (.agg L.toArray) ∧ Below w.heap.size w w' := by
  rw [hL.out]; exact times_any f g p w hp hp' hf hg
theorem modulo_L (f m : Nat → Int) (d p : Nat) (L M : List Value) (hL : Hid (L = rowL f)) (hM : Hid (M = rowL m)) (w : World) (hp : 2 ≤ p) (hp' : p ≤ 64) (hd : 1 ≤ d) (hd6 : d ≤ 6) (hf : inP p f) (hm : inP p m) :
    Calls Tryd.prog 46 #[.agg L.toArray, .agg M.toArray, .int .i64 d, .int .i64 p] w fun e w' => e = .returned (.agg (prow (redN m d p (11 - d) f))) ∧ Below w.heap.size w w' := by
  rw [hL.out, hM.out]; exact modulo_any f m d p w hp hp' hd hd6 hf hm

set_option linter.unusedSimpArgs false in
set_option maxRecDepth 100000 in
set_option maxHeartbeats 2000000 in
theorem mul_any (P K a b : Nat) (Q : Int) (f : Nat → Int) (w : World) (hP : 2 ≤ P) (hP' : P ≤ 64) (hK : 1 ≤ K) (hK' : K ≤ 6) (hPK : P ^ K ≤ 64) (ha : a < P ^ K) (hb : b < P ^ K) (hf : inP P f) (hfK : Hid (f K = 1)) :
    Calls Tryd.prog 70 #[.agg (ringRow P K Q f), .int .i64 a, .int .i64 b] w fun e w' => e = .returned (.int .i64 (hor (redN f K P (11 - K) (mulN (digF a P) (digF b P) P 6 6)) P K K)) ∧ Below w.heap.size w w' := by
  obtain ⟨L, HL⟩ : ∃ L, Hid (L = rowL (mulN (digF a P) (digF b P) P 6 6)) := ⟨_, rfl⟩
  obtain ⟨M, HM⟩ : ∃ M, Hid (M = rowL f) := ⟨_, rfl⟩
  have hRB := RB.made w P K Q f
  have hSt : ((w.alloc (.cells (ringRow P K Q f) 89)).drew).cell? ⟨w.heap.size, 0, none⟩ = some (.int .i64 P) ∧ ((w.alloc (.cells (ringRow P K Q f) 89)).drew).cell? ⟨w.heap.size, 1, none⟩ = some (.int .i64 K) ∧ ((w.alloc (.cells (ringRow P K Q f) 89)).drew).rangeAt w.heap.size 3 M ∧ Below w.heap.size w ((w.alloc (.cells (ringRow P K Q f) 89)).drew) := by
    rw [HM.out]
    refine ⟨(cell_of_row (w.alloc (.cells (ringRow P K Q f) 89)) w.heap.size 0 _ _ _ hRB), (cell_of_row (w.alloc (.cells (ringRow P K Q f) 89)) w.heap.size 1 _ _ _ hRB), fun j v hv => ?_, ((Below.refl _ _).alloc (Nat.le_refl _) _).drew⟩
    have h := cell_of_row (w.alloc (.cells (ringRow P K Q f) 89)) w.heap.size (3 + j) _ _ _ hRB
    have hj : j < 11 := by
      have := (List.getElem?_eq_some_iff.1 hv).1
      rwa [rowL_length] at this
    have e : (ringRow P K Q f)[3 + j]? = (rowL f)[j]? := by
      have : j = 0 ∨ j = 1 ∨ j = 2 ∨ j = 3 ∨ j = 4 ∨ j = 5 ∨ j = 6 ∨ j = 7 ∨ j = 8 ∨ j = 9 ∨ j = 10 := by omega
      rcases this with rfl | rfl | rfl | rfl | rfl | rfl | rfl | rfl | rfl | rfl | rfl <;> rfl
    exact h.trans (e.trans hv)
  have hlen : L.length = 11 := by rw [HL.out]; exact rowL_length _
  have hone : ∀ v ∈ L, v.oneCell' = true := by rw [HL.out]; exact rowL_one _
  have hsz : (Tryd.prog.info? 62).map (·.size) = some L.length := by rw [HL.out]; exact rowL_size _
  clear hRB
  go_enter Tryd.func70, Tryd.ntmps70
  go_upto_region 1 with fail
  go_cut [7] (fun s W => ∃ g, s = .pointer (some ⟨g, 0, none⟩) ∧ W.rangeAt g 0 L ∧ W.cell? ⟨w.heap.size, 0, none⟩ = some (.int .i64 P) ∧ W.cell? ⟨w.heap.size, 1, none⟩ = some (.int .i64 K) ∧ W.rangeAt w.heap.size 3 M ∧ Below w.heap.size w W)
  case first =>
    have hM0 : w.heap.size < w.heap.size + 1 ∧ (((w.alloc (.cells (ringRow P K Q f) 89)).alloc (.cells #[.int .i64 0, .int .i64 0, .int .i64 0, .int .i64 0, .int .i64 0, .int .i64 0, .int .i64 0, .int .i64 0, .int .i64 0, .int .i64 0, .int .i64 0] 62)).drew).there (w.heap.size + 1) 0 11 := by
      refine ⟨by omega, ?_⟩
      have h := (madeThere hSt).2
      have e : ((w.alloc (.cells (ringRow P K Q f) 89)).drew).heap.size = w.heap.size + 1 := by simp
      rw [e] at h
      exact h
    go_region_held3 (fun w' => w'.cell? ⟨w.heap.size, 0, none⟩ = some (.int .i64 P) ∧ w'.cell? ⟨w.heap.size, 1, none⟩ = some (.int .i64 K) ∧ w'.rangeAt w.heap.size 3 M ∧ Below w.heap.size w w') (first | exact RS.stored (by assumption) (by assumption) | exact RS.below (by assumption) ((Below.refl _ _).alloc (Nat.le_refl _) _) | assumption)
      (first
        | (go_at_call_of 28 (Value.int .i64 (a : Int)); refine (polyOf_any a P _ (by omega) hP hP').mono ?_; rintro e w1 ⟨rfl, hb1⟩; have hS1 := RS.below (by assumption) hb1; have hM1 := madeThere hS1; try (have ht1 := thereB (w := w) (by assumption) hb1))
        | (go_at_call_of 28 (Value.int .i64 (b : Int)); refine (polyOf_any b P _ (by omega) hP hP').mono ?_; rintro e w2 ⟨rfl, hb2⟩; have hS2 := RS.below (by assumption) hb2; have hM2 := madeThere hS2; try (have ht2 := thereB (w := w) (by assumption) hb2))
        | (go_at_call 78; refine (times_L _ _ P L HL _ hP hP' (digF_in a P (by omega)) (digF_in b P (by omega))).mono ?_; rintro e w3 ⟨rfl, hb3⟩; have hS3 := RS.below (by assumption) hb3; have hM3 := madeThere hS3; try (have ht3 := thereB (w := w) (by assumption) hb3)))
    all_goals
      go_wp2_with fail
      go_meet
      case rel =>
        refine ⟨_, rfl, rangeOf hlen (by assumption), ?_⟩
        first
          | exact RS.stored (by assumption) (by assumption)
          | exact RS.stored (RS.below (by assumption) ((Below.refl _ _).alloc (Nat.le_refl _) _)) (by assumption)
  case rest =>
    obtain ⟨g, rfl, hS⟩ := hcut
    have hS' : wc.drew.rangeAt g 0 L ∧ wc.drew.cell? ⟨w.heap.size, 0, none⟩ = some (.int .i64 P) ∧ wc.drew.cell? ⟨w.heap.size, 1, none⟩ = some (.int .i64 K) ∧ wc.drew.rangeAt w.heap.size 3 M ∧ Below w.heap.size w wc.drew := ⟨hS.1, hS.2.1, hS.2.2.1, hS.2.2.2.1, hS.2.2.2.2.drew⟩
    have hu51 := und51
    have hszM : (Tryd.prog.info? 62).map (·.size) = some M.length := by rw [HM.out]; exact rowL_size _
    have hF := mulN_in (a := digF a P) (b := digF b P) (j := 6) (show (0 : Int) < P by omega) 6
    have hR := redN_in (m := f) (d := K) (show (0 : Int) < P by omega) (11 - K) _ hF
    go_wp2_with fail
    refine wp_region_noPanic ?_
    refine wp_region_held_drew (S := fun w' => w'.rangeAt g 0 L ∧ w'.cell? ⟨w.heap.size, 0, none⟩ = some (.int .i64 P) ∧ w'.cell? ⟨w.heap.size, 1, none⟩ = some (.int .i64 K) ∧ w'.rangeAt w.heap.size 3 M ∧ Below w.heap.size w w') (by kernel_rfl) hS' (fun hSx => ?_)
    refine wpAnyH_take (i := 0) (v := .agg L.toArray) rfl (by kernel_rfl) (by kernel_rfl) (by kernel_rfl) (fun _ _ _ h => h) (yieldsIf_load_mid (by rfl) 62 _ rfl g 0 rfl L _ (fun _ h => h.1) und51 rfl hsz) hSx ?_
    try simp only [Act.put, List.setIfInBounds_toArray, List.set_cons_zero, List.set_cons_succ]
    refine wpAnyH_take (i := 1) (v := .pointer (some ⟨w.heap.size, 3, none⟩)) rfl (by kernel_rfl) (by kernel_rfl) (by kernel_rfl) (fun _ _ _ h => h) (Or.inl ⟨by rfl, fun w' hSw => by (try dsimp only at hSw); go_simp⟩) hSx ?_
    try simp only [Act.put, List.setIfInBounds_toArray, List.set_cons_zero, List.set_cons_succ]
    refine wpAnyH_take (i := 2) (v := .agg M.toArray) rfl (by kernel_rfl) (by kernel_rfl) (by kernel_rfl) (fun _ _ _ h => h) (yieldsIf_load_mid (by rfl) 62 _ rfl w.heap.size 3 rfl M _ (fun _ h => h.2.2.2.1) und51 rfl hszM) hSx ?_
    try simp only [Act.put, List.setIfInBounds_toArray, List.set_cons_zero, List.set_cons_succ]
    refine wpAnyH_take (i := 3) (v := .pointer (some ⟨w.heap.size, 1, none⟩)) rfl (by kernel_rfl) (by kernel_rfl) (by kernel_rfl) (fun _ _ _ h => h) (Or.inl ⟨by rfl, fun w' hSw => by (try dsimp only at hSw); go_simp⟩) hSx ?_
    try simp only [Act.put, List.setIfInBounds_toArray, List.set_cons_zero, List.set_cons_succ]
    refine wpAnyH_take (i := 4) (v := .int .i64 K) rfl (by kernel_rfl) (by kernel_rfl) (by kernel_rfl) (fun _ _ _ h => h) (Or.inl ⟨by rfl, fun w' hSw => by (try dsimp only at hSw); go_simp⟩) hSx ?_
    try simp only [Act.put, List.setIfInBounds_toArray, List.set_cons_zero, List.set_cons_succ]
    refine wpAnyH_take (i := 5) (v := .pointer (some ⟨w.heap.size, 0, none⟩)) rfl (by kernel_rfl) (by kernel_rfl) (by kernel_rfl) (fun _ _ _ h => h) (Or.inl ⟨by rfl, fun w' hSw => by (try dsimp only at hSw); go_simp⟩) hSx ?_
    try simp only [Act.put, List.setIfInBounds_toArray, List.set_cons_zero, List.set_cons_succ]
    refine wpAnyH_take (i := 6) (v := .int .i64 P) rfl (by kernel_rfl) (by kernel_rfl) (by kernel_rfl) (fun _ _ _ h => h) (Or.inl ⟨by rfl, fun w' hSw => by (try dsimp only at hSw); go_simp⟩) hSx ?_
    try simp only [Act.put, List.setIfInBounds_toArray, List.set_cons_zero, List.set_cons_succ]
    refine wpAnyH_take (i := 8) (v := .pointer (some ⟨w.heap.size, 0, none⟩)) rfl (by kernel_rfl) (by kernel_rfl) (by kernel_rfl) (fun _ _ _ h => h) (Or.inl ⟨by rfl, fun w' hSw => by (try dsimp only at hSw); go_simp⟩) hSx ?_
    try simp only [Act.put, List.setIfInBounds_toArray, List.set_cons_zero, List.set_cons_succ]
    refine wpAnyH_take (i := 9) (v := .int .i64 P) rfl (by kernel_rfl) (by kernel_rfl) (by kernel_rfl) (fun _ _ _ h => h) (Or.inl ⟨by rfl, fun w' hSw => by (try dsimp only at hSw); go_simp⟩) hSx ?_
    try simp only [Act.put, List.setIfInBounds_toArray, List.set_cons_zero, List.set_cons_succ]
    refine wpAnyH_ready (rs := [7]) (by kernel_rfl) (by simp) ?_
    refine AllReadyH.cons rfl (fun J hJ => ?_) AllReadyH.nil
    go_simp
    refine (modulo_L _ f K P L M HL HM _ hP hP' hK hK' hF hf).mono ?_
    rintro e w1 ⟨rfl, hb1⟩
    have hS1 := RS2 hSx hb1
    go_wp2_with fail
    refine hJ.out _ _ hS1 (fun hSy => ?_)
    clear hJ J
    try simp only [Act.put, List.setIfInBounds_toArray, List.set_cons_zero, List.set_cons_succ]
    refine wpAnyH_ready (rs := [10]) (by kernel_rfl) (by simp) ?_
    refine AllReadyH.cons rfl (fun J hJ => ?_) AllReadyH.nil
    go_simp
    refine (number_any _ P K _ hP hP' hK hK' hPK hR (fun t h1 h2 => redN_zero hfK.out _ _ t h1 (by omega))).mono ?_
    rintro e w2 ⟨rfl, hb2⟩
    have hS2 := RS2 hSy hb2
    go_wp2_with fail
    refine hJ.out _ _ hS2 (fun hSz => ?_)
    clear hJ J
    try simp only [Act.put, List.setIfInBounds_toArray, List.set_cons_zero, List.set_cons_succ]
    refine wpAnyH_ready (rs := [11]) (by kernel_rfl) (by simp) ?_
    refine AllReadyH.cons rfl (fun J hJ => ?_) AllReadyH.nil
    go_simp
    refine hJ.out _ _ hSz (fun _ => ?_)
    clear hJ J
    refine wpAnyH_done (by kernel_rfl) ?_ _
    refine NoPanic.normal ?_
    go_wp2
    go_ret
    exact ⟨rfl, hS2.2.2.2.2⟩

end Go.Proofs.YtcjkcgfohmhbcabDoor.Fd

/- The walks of Add and Mul. -/
namespace Go.Proofs.YtcjkcgfohmhbcabDoor.Fd
open Go.RowKit

theorem open_ok {p k : Int} {l es : List Int} (h : OpenIs p k l es 0) : FaultIs p k l 0 ∧ inL (ordZ p k) es := by
  rcases h with ⟨h, _⟩ | ⟨_, _, h⟩ | ⟨h1, h2, _⟩
  · exact absurd rfl h
  · exact absurd h (by decide)
  · exact ⟨h1, h2⟩
/-- What a field that is one, and elements of it, are as natural numbers. -/
theorem good_parts {p k : Int} {l : List Int} (h : FaultIs p k l 0) : ∃ P K : Nat, p = P ∧ k = K ∧ 2 ≤ P ∧ P ≤ 61 ∧ 1 ≤ K ∧ K ≤ 6 ∧ P ^ K ≤ 64 ∧ ordZ p k = ((P ^ K : Nat) : Int) ∧ l.length = K ∧ inP p (monL l) ∧ monL l K = 1 ∧ isPrimeB p = true := by
  obtain ⟨h0, h1, h2, h3⟩ := h.ok
  obtain ⟨P, K, rfl, rfl, hP, hP', hK, hK', hPK, hq⟩ := ord_nat h0
  have hl : l.length = K := by omega
  refine ⟨P, K, rfl, rfl, hP, hP', hK, hK', hPK, hq, hl, monL_in (by omega) h2, ?_, (ord_parts h0).1⟩
  have := monL_top l
  rwa [hl] at this

end Go.Proofs.YtcjkcgfohmhbcabDoor.Fd

/- The walks of Sum and Times of the document's answer. -/
namespace Go.Proofs.YtcjkcgfohmhbcabDoor.Fd
open Go.RowKit

end Go.Proofs.YtcjkcgfohmhbcabDoor.Fd

namespace Go.Proofs.YtcjkcgfohmhbcabDoor.Fd
open Go.RowKit

theorem prod_same {P K a b : Nat} {m : Nat → Int} (hP : 2 ≤ P) (hK : 1 ≤ K) (hK' : K ≤ 6) (ha : a < P ^ K) (hb : b < P ^ K) :
    redN m K P (11 - K) (mulN (digF a P) (digF b P) P 6 6) = redN m K P K (mulN (digF a P) (digF b P) P K K) := by
  have hp : (0 : Int) < P := by omega
  have e1 : mulN (digF a P) (digF b P) P 6 6 = mulN (digF a P) (digF b P) P K K := by
    rw [show (6 : Nat) = K + (6 - K) by omega, mulN_few hp (fun t ht => digF_small ha hP t ht), ← show (6 : Nat) = K + (6 - K) by omega, mulN_short hp (fun t ht => digF_small hb hP t ht) hK']
  rw [e1]
  have hin := mulN_in (a := digF a P) (b := digF b P) (j := K) hp K
  by_cases h1 : K = 1
  · subst h1
    have h := redN_more (m := m) (d := 1) 1 hin (fun t ht => mulN_over 1 t (by omega)) (Nat.le_refl _) 9
    exact h
  · have h0 : ∀ t, 2 * K - 2 < t → mulN (digF a P) (digF b P) P K K t = 0 := fun t ht => mulN_over K t (by omega)
    have h2 := redN_more (m := m) (d := K) (2 * K - 2) hin h0 (by omega) (12 - 2 * K)
    have h3 := redN_more (m := m) (d := K) (2 * K - 2) hin h0 (by omega) 1
    rw [show 2 * K - 2 + 1 - K + (12 - 2 * K) = 11 - K by omega] at h2
    rw [show 2 * K - 2 + 1 - K + 1 = K by omega] at h3
    rw [h2, h3]

end Go.Proofs.YtcjkcgfohmhbcabDoor.Fd

/- The walks of pow, Inv and Pow; sums and products of a true field's elements. -/
/- The law FieldSums, walked: sums and products of any two are the document's, errors and all. -/
namespace Go.Proofs.YtcjkcgfohmhbcabDoor.Fd
open Go.RowKit

theorem open_in {p k : Int} {l es : List Int} {z : Int} (hF : FaultIs p k l 0) (hi : inL (ordZ p k) es) (h : OpenIs p k l es z) : z = 0 := by
  rcases h with ⟨h0, h⟩ | ⟨_, h, _⟩ | ⟨_, _, h⟩
  · exact absurd (h.one hF) h0
  · exact absurd hi h
  · exact h
theorem open_out {p k : Int} {l es : List Int} {z : Int} (hF : FaultIs p k l 0) (hi : ¬ inL (ordZ p k) es) (h : OpenIs p k l es z) : z = 1 := by
  rcases h with ⟨h0, h⟩ | ⟨_, _, h⟩ | ⟨_, h, _⟩
  · exact absurd (h.one hF) h0
  · exact h
  · exact absurd h hi
end Go.Proofs.YtcjkcgfohmhbcabDoor.Fd

namespace Go.Proofs.YtcjkcgfohmhbcabDoor.Fd
open Go.RowKit

theorem mulQ_cast {P K : Nat} {m : Nat → Int} (hR : Ring1 P K m) (a b : Nat) : ((mulQ P K m a b : Nat) : Int) = hor (redN m K P K (mulN (digF a P) (digF b P) P K K)) P K K := by
  unfold mulQ
  exact Int.toNat_of_nonneg (hor_bd (k := K) (show (2 : Int) ≤ P by have := hR.two; omega) (mulQ_in hR a b) K).1
theorem addQ_cast {P K : Nat} (hP : 2 ≤ P) (a b : Nat) : ((addQ P K a b : Nat) : Int) = hor (plusF (digF a P) (digF b P) P) P K K := by
  unfold addQ
  exact Int.toNat_of_nonneg (hor_bd (k := K) (show (2 : Int) ≤ P by omega) (plusF_in _ _ _ (by omega)) K).1
theorem mul_Q (P K a b : Nat) (Q : Int) (m : Nat → Int) (w : World) (hR : Ring1 P K m) (hP' : P ≤ 64) (hK' : K ≤ 6) (hPK : P ^ K ≤ 64) (ha : a < P ^ K) (hb : b < P ^ K) (s : Nat) (hs : Hid (s = mulQ P K m a b)) :
    Calls Tryd.prog 70 #[.agg (ringRow P K Q m), .int .i64 a, .int .i64 b] w fun e w' => e = .returned (.int .i64 s) ∧ Below w.heap.size w w' := by
  have h := mul_any P K a b Q m w hR.two hP' hR.one hK' hPK ha hb hR.low hR.top
  rw [prod_same hR.two hR.one hK' ha hb, ← mulQ_cast hR, ← hs.out] at h
  exact h

set_option maxRecDepth 100000 in
set_option maxHeartbeats 1000000 in
theorem pow_any (P K a : Nat) (n Q : Int) (m : Nat → Int) (w : World) (hR : Ring1 P K m) (hP' : P ≤ 64) (hK' : K ≤ 6) (hPK : P ^ K ≤ 64) (ha : a < P ^ K) (hn : 0 ≤ n) (hn' : n ≤ 9223372036854775807) (s : Nat) (hs : Hid (s = powQ P K m a n.toNat)) :
    Calls Tryd.prog 62 #[.agg (ringRow P K Q m), .int .i64 a, .int .i64 n] w fun e w' => e = .returned (.int .i64 s) ∧ Below w.heap.size w w' := by
  obtain ⟨fs, hu⟩ := und53
  have hone := one_lt hR
  go_enter Tryd.func62, Tryd.ntmps62
  go_wp2
  go_loopw [1, 2, 7] (fun x y o wr => ∃ (b c : Nat) (j : Int), x = .int .i64 b ∧ y = .int .i64 j ∧ o = .int .i64 c ∧ 0 ≤ j ∧ j ≤ 9223372036854775807 ∧ b < P ^ K ∧ c < P ^ K ∧ Hid (mulQ P K m c (powQ P K m b j.toNat) = s) ∧ RB wr w.heap.size P K Q m ∧ Below w.heap.size w wr) (fun _ y _ _ => (intOf y).toNat)
  case atStart =>
    refine ⟨a, 1, n, rfl, rfl, rfl, hn, hn', ha, hone, ?_, RB.made w P K Q m, (Below.refl _ _).alloc (Nat.le_refl _) _⟩
    show mulQ P K m 1 (powQ P K m a n.toNat) = s
    rw [one_mulQ hR (powQ_lt hR a _), hs.out]
  case round =>
    obtain ⟨b, c, j, rfl, rfl, rfl, hj, hj', hb, hc, HI, hRB, hB⟩ := hrel
    by_cases hlt : 0 < j
    · have hq0 : 0 ≤ j / 2 := by omega
      have hq1 : j / 2 < j := by omega
      have hw : wrap64 (j.tdiv 2) = j / 2 := by rw [Int.tdiv_eq_ediv_of_nonneg hj]; unfold wrap64; omega
      obtain ⟨bb, Hbb⟩ : ∃ x, Hid (x = mulQ P K m b b) := ⟨_, rfl⟩
      have hbb : bb < P ^ K := by rw [Hbb.out]; exact mulQ_lt hR b b
      have HSQ : Hid (∀ k, powQ P K m bb k = powQ P K m b (2 * k)) := by
        intro k
        have e : bb = powQ P K m b 2 := by
          rw [Hbb.out]
          show _ = mulQ P K m b (powQ P K m b 1)
          rw [powQ_first hR hb]
        rw [e, powQ_mul hR]
      by_cases hodd : j % 2 = 1
      · have hb1 : (j % 2 == 1) = true := by simpa using hodd
        obtain ⟨cb, Hcb⟩ : ∃ x, Hid (x = mulQ P K m c b) := ⟨_, rfl⟩
        have hcb : cb < P ^ K := by rw [Hcb.out]; exact mulQ_lt hR c b
        have HN : Hid (mulQ P K m cb (powQ P K m bb (j / 2).toNat) = s) := by
          show mulQ P K m cb (powQ P K m bb (j / 2).toNat) = s
          rw [HSQ.out, Hcb.out, mulQ_assoc hR, ← HI.out]
          rw [show j.toNat = 2 * (j / 2).toNat + 1 by omega]
          rfl
        clear hodd
        go_wp2_with (first
          | (refine wpList_load_row rfl 89 _ rfl w.heap.size rfl 89 _ (0, 0) _ hRB hu rfl (inf53 _ _ _ _) ?_))
        refine (mul_Q P K c b Q m _ hR hP' hK' hPK hc hb cb Hcb).mono ?_
        rintro e w1 ⟨rfl, hb1⟩
        have hRB1 := hRB.below hb1
        have hB1 : Below w.heap.size w w1 := hB.trans (hb1.mono hB.size)
        go_wp2_with (first
          | (refine wpList_load_row rfl 89 _ rfl w.heap.size rfl 89 _ (0, 0) _ hRB1 hu rfl (inf53 _ _ _ _) ?_))
        refine (mul_Q P K b b Q m _ hR hP' hK' hPK hb hb bb Hbb).mono ?_
        rintro e w2 ⟨rfl, hb2⟩
        have hRB2 := hRB1.below hb2
        have hB2 : Below w.heap.size w w2 := hB1.trans (hb2.mono hB1.size)
        go_wp2
        go_roundw
        case rel => exact ⟨bb, cb, j / 2, rfl, rfl, rfl, hq0, by omega, hbb, hcb, HN, hRB2, hB2⟩
        case measure => simp [intOf]; omega
      · have hb1 : (j % 2 == 1) = false := by simpa using hodd
        have HN : Hid (mulQ P K m c (powQ P K m bb (j / 2).toNat) = s) := by
          show mulQ P K m c (powQ P K m bb (j / 2).toNat) = s
          rw [HSQ.out, ← HI.out, show 2 * (j / 2).toNat = j.toNat by omega]
        clear hodd
        go_wp2_with (first
          | (refine wpList_load_row rfl 89 _ rfl w.heap.size rfl 89 _ (0, 0) _ hRB hu rfl (inf53 _ _ _ _) ?_))
        refine (mul_Q P K b b Q m _ hR hP' hK' hPK hb hb bb Hbb).mono ?_
        rintro e w2 ⟨rfl, hb2⟩
        have hRB2 := hRB.below hb2
        have hB2 : Below w.heap.size w w2 := hB.trans (hb2.mono hB.size)
        go_wp2
        go_roundw
        case rel => exact ⟨bb, c, j / 2, rfl, rfl, rfl, hq0, by omega, hbb, hc, HN, hRB2, hB2⟩
        case measure => simp [intOf]; omega
    · have hc' : c = s := by
        have h := HI.out
        rw [show j.toNat = 0 by omega] at h
        show c = s
        rw [← h]
        exact (mulQ_one hR hc).symm
      subst hc'
      go_wp2
      go_ret
      exact ⟨rfl, hB⟩

end Go.Proofs.YtcjkcgfohmhbcabDoor.Fd

/- The walk of Inv; Add, Mul and Inv on a true field; the closed fact. -/
namespace Go.Proofs.YtcjkcgfohmhbcabDoor.Fd
open Go.RowKit

theorem sl_one (w : World) (a : Int) : Sl (w.alloc (.cells #[.int .i64 a] 3)) (.slice (some ⟨w.heap.size, 0, none⟩) 1 1) [a] := by
  refine ⟨_, 1, rfl, fun j hj => ⟨w.heap.size, 0, rfl, ?_⟩⟩
  have h := cell_of_row (w.alloc (.cells #[.int .i64 a] 3)) w.heap.size (0 + j) _ _ _ (heap_alloc_new w _)
  rw [h]
  have : j = 0 := by simp at hj; omega
  subst this; rfl
/-- A field that is one, in natural numbers. -/
structure GoodF (P K : Nat) (l : List Int) : Prop where
  fault : FaultIs (P : Int) K l 0
  field : FieldQ P K (monL l)
  le61 : P ≤ 61
  le6 : K ≤ 6
  le64 : P ^ K ≤ 64
  ord : ordZ (P : Int) K = ((P ^ K : Nat) : Int)
  len : l.length = K
theorem good_of {p k : Int} {l : List Int} (h : FaultIs p k l 0) : ∃ P K : Nat, p = P ∧ k = K ∧ GoodF P K l := by
  obtain ⟨h0, h1, h2, h3⟩ := h.ok
  obtain ⟨P, K, rfl, rfl, hP, hP', hK, hK', hPK, hq, hlen, hmi, hmK, hpr⟩ := good_parts h
  rw [Int.toNat_natCast, Int.toNat_natCast] at h3
  exact ⟨P, K, rfl, rfl, h, field_of_irr hpr hK hPK hlen h2 h3, hP', hK', hPK, hq, hlen⟩
theorem in_one {P K : Nat} {l : List Int} (hG : GoodF P K l) {a : Nat} (ha : a < P ^ K) : inL (ordZ (P : Int) K) [(a : Int)] := by
  intro j hj
  have : j = 0 := by simp at hj; omega
  subst this
  rw [hG.ord]
  show 0 ≤ (a : Int) ∧ (a : Int) < _
  omega

def zBk (f : Nat → Int) : Bool := (List.range 11).all fun t => f t == 0
theorem zBk_iff (f : Nat → Int) : zBk f = true ↔ isZ f := by
  unfold zBk isZ
  rw [List.all_eq_true]
  simp
theorem fact_no : ∀ n, n < 3 → ¬ goodAt 2 3 n := by
  intro n hn h
  have h0 : zBk (redN (digF (2 ^ 1 + 0) 2) 1 (2 : Nat) (11 - 1) (digF (2 ^ 3 + 0) 2)) = true := by decide +kernel
  have h1 : zBk (redN (digF (2 ^ 1 + 1) 2) 1 (2 : Nat) (11 - 1) (digF (2 ^ 3 + 1) 2)) = true := by decide +kernel
  have h2 : zBk (redN (digF (2 ^ 1 + 0) 2) 1 (2 : Nat) (11 - 1) (digF (2 ^ 3 + 2) 2)) = true := by decide +kernel
  have : n = 0 ∨ n = 1 ∨ n = 2 := by omega
  rcases this with rfl | rfl | rfl
  · exact h 1 (by omega) (by omega) 0 (by decide) ((zBk_iff _).1 h0)
  · exact h 1 (by omega) (by omega) 1 (by decide) ((zBk_iff _).1 h1)
  · exact h 1 (by omega) (by omega) 0 (by decide) ((zBk_iff _).1 h2)
theorem fact_yes : goodAt 2 3 3 := by
  intro e h1 h2 b hb hz
  have he : e = 1 := by omega
  subst he
  have h0 : zBk (redN (digF (2 ^ 1 + 0) 2) 1 (2 : Nat) (11 - 1) (digF (2 ^ 3 + 3) 2)) = false := by decide +kernel
  have h1 : zBk (redN (digF (2 ^ 1 + 1) 2) 1 (2 : Nat) (11 - 1) (digF (2 ^ 3 + 3) 2)) = false := by decide +kernel
  have : b = 0 ∨ b = 1 := by simp at hb; omega
  rcases this with rfl | rfl
  · rw [(zBk_iff _).2 hz] at h0; cases h0
  · rw [(zBk_iff _).2 hz] at h1; cases h1
theorem fact_ord : ordZ 2 3 = 8 := by decide +kernel
theorem fact_least {q d : Int} {l : List Int} {z : Int} (h : LeastIs 2 3 q d l z) : q = 2 ∧ d = 3 ∧ l = digL 3 2 3 ∧ z = 0 :=
  h.one (.inr ⟨2, 3, rfl, rfl, by rw [fact_ord]; decide, .inl ⟨3, by decide, fact_yes, fact_no, rfl, rfl, rfl, rfl⟩⟩)
theorem fact_good : GoodF 2 3 (digL 3 2 3) := by
  have hin : inL (2 : Int) (digL 3 2 3) := fun j hj => by
    rw [digL_length] at hj
    rw [digL_at _ _ _ _ hj]; exact digF_in 3 2 (by omega) j
  have hirr : irrP (monL (digL 3 2 3)) 3 2 := by rw [monL_dig 3 2 3 (by decide) (by decide)]; exact fact_yes
  have hF : FaultIs ((2 : Nat) : Int) ((3 : Nat) : Int) (digL 3 2 3) 0 := .inr (.inr (.inr (.inr ⟨by rw [show ((2 : Nat) : Int) = 2 from rfl, show ((3 : Nat) : Int) = 3 from rfl, fact_ord]; decide, by rw [digL_length], hin, hirr, rfl⟩)))
  obtain ⟨P, K, e1, e2, hG⟩ := good_of hF
  obtain rfl : 2 = P := by omega
  obtain rfl : 3 = K := by omega
  exact hG
end Go.Proofs.YtcjkcgfohmhbcabDoor.Fd

namespace Go.Proofs.YtcjkcgfohmhbcabDoor.Fd
open Go.RowKit

set_option maxRecDepth 100000 in
set_option maxHeartbeats 1000000 in
theorem PowG (P K a : Nat) (n : Int) (l : List Int) (v : Value) (w : World) (hT : Tab w) (hl : Sl w v l) (hll : l.length ≤ maxLen) (hG : GoodF P K l) (ha : a < P ^ K) (hn : 0 ≤ n) (hn' : n ≤ 9223372036854775807) (s : Nat) (hs : Hid (s = powQ P K (monL l) a n.toNat)) :
    Calls Tryd.prog 49 #[.agg #[.int .i64 P, .int .i64 K, v], .int .i64 a, .int .i64 n] w fun e w' => e = .returned (.tuple #[.int .i64 s, .int .i64 0]) ∧ Below w.heap.size w w' := by
  obtain ⟨A, ca, rfl, _⟩ := id hl
  have hbx : Below w.heap.size w ((w.alloc (.cells #[.int .i64 P, .int .i64 K, .slice A l.length ca] 36)).alloc (.cells #[.int .i64 a] 3)) := ((Below.refl _ _).alloc (Nat.le_refl _) _).alloc (by simp) _
  have hpair := sl_one (w.alloc (.cells #[.int .i64 P, .int .i64 K, .slice A l.length ca] 36)) a
  simp only [World.size_alloc] at hpair
  obtain ⟨fs, hu⟩ := und53
  go_enter Tryd.func49, Tryd.ntmps49
  go_wp2_with fail
  refine (open_any P K l [(a : Int)] _ _ _ (hT.below hbx) (hl.below hbx) hpair hll (by simp [maxLen])).mono ?_
  rintro e w1 ⟨z, x, y, c, f, rfl, hO, HZ, hb1⟩
  have hB1 : Below w.heap.size w w1 := hbx.trans (hb1.mono hbx.size)
  obtain rfl := open_in hG.fault (in_one hG ha) hO
  obtain ⟨rfl, rfl, rfl, rfl⟩ := HZ.out rfl
  have hnew : RB (w1.alloc (.cells #[.int .i64 0, .int .i64 0, .int .i64 0, .int .i64 0, .int .i64 0, .int .i64 0, .int .i64 0, .int .i64 0, .int .i64 0, .int .i64 0, .int .i64 0, .int .i64 0, .int .i64 0, .int .i64 0] 89)) w1.heap.size 0 0 0 (fun _ => 0) := RB.made w1 0 0 0 (fun _ => 0)
  have hRB := hnew.whole P K (ordZ (P : Int) K) (monL l)
  have hBA : Below w.heap.size w ((w1.alloc (.cells #[.int .i64 0, .int .i64 0, .int .i64 0, .int .i64 0, .int .i64 0, .int .i64 0, .int .i64 0, .int .i64 0, .int .i64 0, .int .i64 0, .int .i64 0, .int .i64 0, .int .i64 0, .int .i64 0] 89)).setRow w1.heap.size (ringRow P K (ordZ (P : Int) K) (monL l))) := bsetRow (hB1.alloc hB1.size _) hB1.size _
  clear hpair hO HZ
  go_wp2_with (first
    | (refine wpList_store_row rfl 89 _ _ rfl w1.heap.size _ rfl rfl 89 _ hnew (inf53 _ _ _ _) rfl (ringRow_one _ _ _ _) ?_)
    | (refine wpList_load_row rfl 89 _ rfl w1.heap.size rfl 89 _ (0, 0) _ hRB hu rfl (inf53 _ _ _ _) ?_))
  refine (pow_any P K a n _ (monL l) _ hG.field.toRing1 (by have := hG.le61; omega) hG.le6 hG.le64 ha hn hn' s hs).mono ?_
  rintro e w2 ⟨rfl, hb2⟩
  go_wp2
  go_ret2
  exact ⟨rfl, hBA.trans (hb2.mono hBA.size)⟩

end Go.Proofs.YtcjkcgfohmhbcabDoor.Fd

/- The walks of turns, root and RootOf: the least element whose powers are all. -/
namespace Go.Proofs.YtcjkcgfohmhbcabDoor.Fd
open Go.RowKit

/-- n is the least number of factors a, one or more, whose product is 1. -/
def IsOrd (P K : Nat) (m : Nat → Int) (a n : Nat) : Prop := 1 ≤ n ∧ powQ P K m a n = 1 ∧ ∀ j, 1 ≤ j → j < n → powQ P K m a j ≠ 1
theorem IsOrd.one {P K : Nat} {m : Nat → Int} {a n n' : Nat} (h : IsOrd P K m a n) (h' : IsOrd P K m a n') : n = n' := by
  apply Classical.byContradiction
  intro e
  by_cases hlt : n < n'
  · exact h'.2.2 n h.1 hlt h.2.1
  · exact h.2.2 n' h'.1 (by omega) h'.2.1
/-- r is the least element whose powers are all but 0, or 0 where there is none. -/
def RootIs (P K : Nat) (m : Nat → Int) (r : Nat) : Prop :=
  (1 ≤ r ∧ r < P ^ K ∧ IsOrd P K m r (P ^ K - 1) ∧ ∀ a, 1 ≤ a → a < r → ¬ IsOrd P K m a (P ^ K - 1)) ∨ (r = 0 ∧ ∀ a, 1 ≤ a → a < P ^ K → ¬ IsOrd P K m a (P ^ K - 1))
theorem RootIs.one {P K : Nat} {m : Nat → Int} {r r' : Nat} (h : RootIs P K m r) (h' : RootIs P K m r') : r = r' := by
  rcases h with ⟨h1, h2, h3, h4⟩ | ⟨rfl, h⟩
  · rcases h' with ⟨h1', h2', h3', h4'⟩ | ⟨rfl, h'⟩
    · apply Classical.byContradiction
      intro e
      by_cases hlt : r < r'
      · exact h4' r h1 hlt h3
      · exact h4 r' h1' (by omega) h3'
    · exact absurd h3 (h' r h1 h2)
  · rcases h' with ⟨h1', h2', h3', h4'⟩ | ⟨rfl, h'⟩
    · exact absurd h3' (h r' h1' h2')
    · rfl
theorem RB.cell2 {w : World} {g : Nat} {p k q : Int} {f : Nat → Int} (h : RB w g p k q f) : w.cell? ⟨g, 2, none⟩ = some (.int .i64 q) := cell_of_row w g 2 _ _ _ h

set_option maxRecDepth 100000 in
set_option maxHeartbeats 1000000 in
theorem turns_any (P K a : Nat) (Q : Int) (m : Nat → Int) (w : World) (hF : FieldQ P K m) (hP' : P ≤ 64) (hK' : K ≤ 6) (hPK : P ^ K ≤ 64) (ha1 : 1 ≤ a) (ha : a < P ^ K) :
    Calls Tryd.prog 69 #[.agg (ringRow P K Q m), .int .i64 a] w fun e w' => ∃ n : Nat, e = .returned (.int .i64 n) ∧ IsOrd P K m a n ∧ n ≤ P ^ K - 1 ∧ Below w.heap.size w w' := by
  obtain ⟨fs, hu⟩ := und53
  have hR := hF.toRing1
  have hfer := fermat hF ha1 ha
  have HFER : Hid (powQ P K m a (P ^ K - 1) = 1) := hfer
  have h1q := one_lt hR
  clear hfer
  go_enter Tryd.func69, Tryd.ntmps69
  go_wp2
  go_loopw [5, 6] (fun n x wr => ∃ j y : Nat, n = .int .i64 j ∧ x = .int .i64 y ∧ 1 ≤ j ∧ j ≤ P ^ K - 1 ∧ Hid (y = powQ P K m a j) ∧ Hid (∀ i, 1 ≤ i → i < j → powQ P K m a i ≠ 1) ∧ RB wr w.heap.size P K Q m ∧ Below w.heap.size w wr) (fun n _ _ => (P ^ K - 1 - (intOf n).toNat))
  case atStart => exact ⟨1, a, rfl, rfl, by omega, by omega, (powQ_first hR ha).symm, (fun i h1 h2 => by omega : ∀ i, 1 ≤ i → i < 1 → _), RB.made w P K Q m, (Below.refl _ _).alloc (Nat.le_refl _) _⟩
  case round =>
    obtain ⟨j, y, rfl, rfl, hj1, hj2, HY, HN, hRB, hB⟩ := hrel
    have hy : y < P ^ K := by rw [HY.out]; exact powQ_lt hR a j
    by_cases h1 : y = 1
    · subst h1
      go_wp2
      go_ret
      exact ⟨j, rfl, ⟨hj1, HY.out.symm, HN.out⟩, hj2, hB⟩
    · have hb1 : ((y : Int) != 1) = true := by simp; omega
      have hlt : j < P ^ K - 1 := by
        apply Classical.byContradiction
        intro h
        have e : j = P ^ K - 1 := by omega
        apply h1
        rw [HY.out, e]; exact HFER.out
      obtain ⟨s, Hs⟩ : ∃ s, Hid (s = mulQ P K m y a) := ⟨_, rfl⟩
      go_wp2_with (first
        | (refine wpList_load_row rfl 89 _ rfl w.heap.size rfl 89 _ (0, 0) _ hRB hu rfl (inf53 _ _ _ _) ?_))
      refine (mul_Q P K y a Q m _ hR hP' hK' hPK hy ha s Hs).mono ?_
      rintro e w1 ⟨rfl, hb2⟩
      have hRB1 := hRB.below hb2
      have hB1 : Below w.heap.size w w1 := hB.trans (hb2.mono hB.size)
      go_wp2
      go_roundw
      case rel =>
        refine ⟨j + 1, s, by go_num, rfl, by omega, by omega, ?_, (fun i h2 h3 => ?_ : ∀ i, 1 ≤ i → i < j + 1 → _), hRB1, hB1⟩
        · show s = mulQ P K m a (powQ P K m a j)
          rw [Hs.out, HY.out, mulQ_comm hR]
        · by_cases e : i = j
          · subst e; rw [← HY.out]; exact h1
          · exact HN.out i h2 (by omega)
      case measure => simp [intOf]; omega

end Go.Proofs.YtcjkcgfohmhbcabDoor.Fd

/- The walk of root. -/
namespace Go.Proofs.YtcjkcgfohmhbcabDoor.Fd
open Go.RowKit

theorem RB.all {w W : World} {P K Q : Int} {m : Nat → Int} (h : RB W w.heap.size P K Q m) (hB : Below w.heap.size w W) : W.cell? ⟨w.heap.size, 0, none⟩ = some (.int .i64 P) ∧ W.cell? ⟨w.heap.size, 1, none⟩ = some (.int .i64 K) ∧ W.cell? ⟨w.heap.size, 2, none⟩ = some (.int .i64 Q) ∧ W.cell? ⟨w.heap.size, 3, none⟩ = some (.int .i64 (m 0)) ∧ W.cell? ⟨w.heap.size, 4, none⟩ = some (.int .i64 (m 1)) ∧ W.cell? ⟨w.heap.size, 5, none⟩ = some (.int .i64 (m 2)) ∧ W.cell? ⟨w.heap.size, 6, none⟩ = some (.int .i64 (m 3)) ∧ W.cell? ⟨w.heap.size, 7, none⟩ = some (.int .i64 (m 4)) ∧ W.cell? ⟨w.heap.size, 8, none⟩ = some (.int .i64 (m 5)) ∧ W.cell? ⟨w.heap.size, 9, none⟩ = some (.int .i64 (m 6)) ∧ W.cell? ⟨w.heap.size, 10, none⟩ = some (.int .i64 (m 7)) ∧ W.cell? ⟨w.heap.size, 11, none⟩ = some (.int .i64 (m 8)) ∧ W.cell? ⟨w.heap.size, 12, none⟩ = some (.int .i64 (m 9)) ∧ W.cell? ⟨w.heap.size, 13, none⟩ = some (.int .i64 (m 10)) ∧ Below w.heap.size w W :=
  ⟨(cell_of_row W w.heap.size 0 _ _ _ h), (cell_of_row W w.heap.size 1 _ _ _ h), (cell_of_row W w.heap.size 2 _ _ _ h), (cell_of_row W w.heap.size 3 _ _ _ h), (cell_of_row W w.heap.size 4 _ _ _ h), (cell_of_row W w.heap.size 5 _ _ _ h), (cell_of_row W w.heap.size 6 _ _ _ h), (cell_of_row W w.heap.size 7 _ _ _ h), (cell_of_row W w.heap.size 8 _ _ _ h), (cell_of_row W w.heap.size 9 _ _ _ h), (cell_of_row W w.heap.size 10 _ _ _ h), (cell_of_row W w.heap.size 11 _ _ _ h), (cell_of_row W w.heap.size 12 _ _ _ h), (cell_of_row W w.heap.size 13 _ _ _ h), hB⟩

set_option maxRecDepth 100000 in
set_option maxHeartbeats 1000000 in
theorem root_any (P K q : Nat) (m : Nat → Int) (w : World) (hF : FieldQ P K m) (hP' : P ≤ 64) (hK' : K ≤ 6) (hPK : P ^ K ≤ 64) (HQ : Hid (q = P ^ K)) :
    Calls Tryd.prog 61 #[.agg (ringRow P K q m)] w fun e w' => ∃ r : Nat, e = .returned (.int .i64 r) ∧ RootIs P K m r ∧ Below w.heap.size w w' := by
  have hR := hF.toRing1
  have hq1 : 1 < q := by rw [HQ.out]; exact one_lt hR
  have hq64 : q ≤ 64 := by rw [HQ.out]; exact hPK
  go_enter Tryd.func61, Tryd.ntmps61
  go_wp2
  go_loopw [3] (fun i wr => ∃ a : Nat, i = .int .i64 a ∧ 1 ≤ a ∧ a ≤ q ∧ Hid (∀ b, 1 ≤ b → b < a → ¬ IsOrd P K m b (P ^ K - 1)) ∧ RB wr w.heap.size P K q m ∧ Below w.heap.size w wr) (fun i _ => (q - intOf i).toNat)
  case atStart => exact ⟨1, rfl, by omega, by omega, (fun b h1 h2 => by omega : ∀ b, 1 ≤ b → b < 1 → _), RB.made w P K q m, (Below.refl _ _).alloc (Nat.le_refl _) _⟩
  case round =>
    obtain ⟨a, rfl, ha1, haq, HA, hRB, hB⟩ := hrel
    have hc2 := hRB.cell2
    by_cases hlt : a < q
    · have ha : a < P ^ K := by rw [← HQ.out]; exact hlt
      have hdec : decide ((a : Int) < q) = true := by simp; omega
      have hwr : IntKind.i64.wrap ((q : Int) - 1) = (q : Int) - 1 := by rw [IntKind.wrap_i64]; omega
      have hSt := RB.all hRB.drew hB.drew
      go_wp2
      go_region_held3 (fun w' => w'.cell? ⟨w.heap.size, 0, none⟩ = some (.int .i64 P) ∧ w'.cell? ⟨w.heap.size, 1, none⟩ = some (.int .i64 K) ∧ w'.cell? ⟨w.heap.size, 2, none⟩ = some (.int .i64 q) ∧ w'.cell? ⟨w.heap.size, 3, none⟩ = some (.int .i64 (m 0)) ∧ w'.cell? ⟨w.heap.size, 4, none⟩ = some (.int .i64 (m 1)) ∧ w'.cell? ⟨w.heap.size, 5, none⟩ = some (.int .i64 (m 2)) ∧ w'.cell? ⟨w.heap.size, 6, none⟩ = some (.int .i64 (m 3)) ∧ w'.cell? ⟨w.heap.size, 7, none⟩ = some (.int .i64 (m 4)) ∧ w'.cell? ⟨w.heap.size, 8, none⟩ = some (.int .i64 (m 5)) ∧ w'.cell? ⟨w.heap.size, 9, none⟩ = some (.int .i64 (m 6)) ∧ w'.cell? ⟨w.heap.size, 10, none⟩ = some (.int .i64 (m 7)) ∧ w'.cell? ⟨w.heap.size, 11, none⟩ = some (.int .i64 (m 8)) ∧ w'.cell? ⟨w.heap.size, 12, none⟩ = some (.int .i64 (m 9)) ∧ w'.cell? ⟨w.heap.size, 13, none⟩ = some (.int .i64 (m 10)) ∧ Below w.heap.size w w') (assumption)
        (first
          | (go_at_call 69; refine (turns_any P K a q m _ hF hP' hK' hPK ha1 ha).mono ?_; rintro e w1 ⟨n, rfl, hord, hnq, hb1⟩; have hRB1 := hRB.drew.below hb1; have hB1 : Below w.heap.size w w1 := hB.drew.trans (hb1.mono hB.drew.size); have hS1 := RB.all hRB1 hB1))
      all_goals
        by_cases hn : n = q - 1
        · have hbn : ((n : Int) == (q : Int) - 1) = true := by simp; omega
          have HRES : Hid (RootIs P K m a) := .inl ⟨ha1, ha, by rw [← HQ.out, ← hn]; exact hord, HA.out⟩
          go_wp2
          go_ret
          exact ⟨a, rfl, HRES.out, hB1⟩
        · have hbn : ((n : Int) == (q : Int) - 1) = false := by simp; omega
          have HNO : Hid (¬ IsOrd P K m a (P ^ K - 1)) := fun h => hn (by rw [HQ.out]; exact hord.one h)
          go_wp2
          go_roundw
          case rel =>
            have hfin : ∃ a' : Nat, Value.int .i64 ((a : Int) + 1) = .int .i64 a' ∧ 1 ≤ a' ∧ a' ≤ q ∧ Hid (∀ b, 1 ≤ b → b < a' → ¬ IsOrd P K m b (P ^ K - 1)) ∧ RB w1 w.heap.size P K q m ∧ Below w.heap.size w w1 := by
              refine ⟨a + 1, by go_num, by omega, by omega, (fun b h1 h2 => ?_ : ∀ b, 1 ≤ b → b < a + 1 → _), hRB1, hB1⟩
              by_cases e : b = a
              · subst e; exact HNO.out
              · exact HA.out b h1 (by omega)
            first
              | exact hfin
              | ((repeat apply Exists.intro); exact ⟨hfin, rfl⟩)
          case measure => simp [intOf]; omega
    · go_wp2
      go_ret
      exact ⟨0, rfl, .inr ⟨rfl, fun b h1 h2 => HA.out b h1 (by rw [← HQ.out] at h2; omega)⟩, hB⟩

end Go.Proofs.YtcjkcgfohmhbcabDoor.Fd

/- Logarithms, traces, powers and inverses: the program's inner functions and the document's. -/
namespace Go.Proofs.YtcjkcgfohmhbcabDoor.Fd
open Go.RowKit

section
variable {P K : Nat} {m : Nat → Int}
def LogIs (P K : Nat) (m : Nat → Int) (r a n : Nat) : Prop := powQ P K m r n = a ∧ ∀ j, j < n → powQ P K m r j ≠ a
theorem LogIs.one {r a n n' : Nat} (h : LogIs P K m r a n) (h' : LogIs P K m r a n') : n = n' := by
  apply Classical.byContradiction
  intro e
  by_cases hlt : n < n'
  · exact h'.2 n hlt h.1
  · exact h.2 n' (by omega) h'.1
/-- The sum of a, a to the power of P, .. (n of them), and s. -/
def trQ (P K : Nat) (m : Nat → Int) : Nat → Nat → Nat → Nat
  | 0, s, _ => s
  | n + 1, s, a => trQ P K m n (addQ P K s a) (powQ P K m a P)
theorem root_pos (hg : ∃ g, 1 ≤ g ∧ g < P ^ K ∧ IsOrd P K m g (P ^ K - 1)) {r : Nat} (h : RootIs P K m r) : 1 ≤ r ∧ r < P ^ K ∧ IsOrd P K m r (P ^ K - 1) := by
  rcases h with ⟨h1, h2, h3, _⟩ | ⟨_, h⟩
  · exact ⟨h1, h2, h3⟩
  · obtain ⟨g, hg1, hg, ho⟩ := hg
    exact absurd ho (h g hg1 hg)
end

theorem tab_ord : genTab.all (fun r => (List.range (r.1 ^ r.2.1 - 1)).all fun j => j == 0 || r.2.2.2.2.2.getD j 0 != 1) = true := by decide +kernel
theorem good_ord {P K : Nat} {l : List Int} (hG : GoodF P K l) : ∃ g, 1 ≤ g ∧ g < P ^ K ∧ IsOrd P K (monL l) g (P ^ K - 1) := by
  obtain ⟨h0, h1, h2, h3⟩ := hG.fault.ok
  rw [Int.toNat_natCast, Int.toNat_natCast] at h3
  have hR := hG.field.toRing1
  have h1q := one_lt hR
  obtain ⟨n, s, c, L, hmem, hm⟩ := row_of_irr (ord_parts h0).1 hR.one hG.le64 hG.len h2 h3
  have hT := tab_of_row hR hm (List.all_eq_true.1 gen_ok _ hmem)
  have ho := List.all_eq_true.1 tab_ord _ hmem
  simp only [List.all_eq_true, List.mem_range, Bool.or_eq_true, beq_iff_eq, bne_iff_ne] at ho
  obtain ⟨g, hg, hpow, hone⟩ := hT.pows
  refine ⟨g, ?_, hg, by omega, hone, fun j hj1 hj2 e => ?_⟩
  · apply Classical.byContradiction
    intro h
    rw [show g = 0 by omega, powQ_zero_pos hR _ (by omega)] at hone
    omega
  · rcases ho j hj2 with h | h
    · omega
    · exact h (by rw [hpow j hj2]; exact e)
theorem add_Q (P K a b : Nat) (Q : Int) (m : Nat → Int) (w : World) (hP : 2 ≤ P) (hP' : P ≤ 64) (hK : 1 ≤ K) (hK' : K ≤ 6) (hPK : P ^ K ≤ 64) (ha : a < P ^ K) (hb : b < P ^ K) (s : Nat) (hs : Hid (s = addQ P K a b)) :
    Calls Tryd.prog 71 #[.agg (ringRow P K Q m), .int .i64 a, .int .i64 b] w fun e w' => e = .returned (.int .i64 s) ∧ Below w.heap.size w w' := by
  have h := add_any P K a b Q m w hP hP' hK hK' hPK ha hb
  rw [← addQ_cast hP, ← hs.out] at h
  exact h

set_option maxRecDepth 100000 in
set_option maxHeartbeats 1000000 in
theorem trace_any (P K a : Nat) (Q : Int) (m : Nat → Int) (w : World) (hR : Ring1 P K m) (hP' : P ≤ 64) (hK' : K ≤ 6) (hPK : P ^ K ≤ 64) (ha : a < P ^ K) :
    Calls Tryd.prog 63 #[.agg (ringRow P K Q m), .int .i64 a] w fun e w' => ∃ t : Nat, e = .returned (.int .i64 t) ∧ Hid (t = trQ P K m K 0 a) ∧ Below w.heap.size w w' := by
  obtain ⟨fs, hu⟩ := und53
  have hRB0 := RB.made w P K Q m
  have h1q := one_lt hR
  have hP2 := hR.two
  have hc1 : (w.alloc (.cells (ringRow P K Q m) 89)).cell? ⟨w.heap.size, 1, none⟩ = some (.int .i64 K) := cell_of_row _ _ _ _ _ _ hRB0
  go_enter Tryd.func63, Tryd.ntmps63
  go_wp2
  go_loopw [1, 5, 8] (fun x s i wr => ∃ j b c : Nat, i = .int .i64 j ∧ x = .int .i64 b ∧ s = .int .i64 c ∧ j ≤ K ∧ b < P ^ K ∧ c < P ^ K ∧ Hid (trQ P K m (K - j) c b = trQ P K m K 0 a) ∧ RB wr w.heap.size P K Q m ∧ Below w.heap.size w wr) (fun _ _ i _ => (K - intOf i).toNat)
  case atStart => exact ⟨0, a, 0, rfl, rfl, rfl, by omega, ha, by omega, (rfl : trQ P K m (K - 0) 0 a = trQ P K m K 0 a), hRB0, (Below.refl _ _).alloc (Nat.le_refl _) _⟩
  case round =>
    clear hRB0
    obtain ⟨j, b, c, rfl, rfl, rfl, hj, hb, hc, HI, hRB, hB⟩ := hrel
    by_cases hlt : j < K
    · obtain ⟨s, Hs⟩ : ∃ s, Hid (s = addQ P K c b) := ⟨_, rfl⟩
      obtain ⟨y, Hy⟩ : ∃ y, Hid (y = powQ P K m b ((P : Int)).toNat) := ⟨_, rfl⟩
      have hs : s < P ^ K := by rw [Hs.out]; exact addQ_lt hR c b
      have hy : y < P ^ K := by rw [Hy.out]; exact powQ_lt hR b _
      have hdec : decide ((j : Int) < K) = true := by simp; omega
      have HN : Hid (trQ P K m (K - (j + 1)) s y = trQ P K m K 0 a) := by
        show trQ P K m (K - (j + 1)) s y = trQ P K m K 0 a
        rw [← HI.out, show K - j = (K - (j + 1)) + 1 by omega, Hs.out, Hy.out, Int.toNat_natCast]
        rfl
      go_wp2_with (first
        | (refine wpList_load_row rfl 89 _ rfl w.heap.size rfl 89 _ (0, 0) _ hRB hu rfl (inf53 _ _ _ _) ?_))
      refine (add_Q P K c b Q m _ hR.two hP' hR.one hK' hPK hc hb s Hs).mono ?_
      rintro e w1 ⟨rfl, hb1⟩
      have hRB1 := hRB.below hb1
      have hB1 : Below w.heap.size w w1 := hB.trans (hb1.mono hB.size)
      have hc0 : w1.cell? ⟨w.heap.size, 0, none⟩ = some (.int .i64 P) := cell_of_row _ _ _ _ _ _ hRB1
      go_wp2_with (first
        | (refine wpList_load_row rfl 89 _ rfl w.heap.size rfl 89 _ (0, 0) _ hRB1 hu rfl (inf53 _ _ _ _) ?_))
      refine (pow_any P K b _ Q m _ hR hP' hK' hPK hb (by omega) (by omega) y Hy).mono ?_
      rintro e w2 ⟨rfl, hb2⟩
      have hRB2 := hRB1.below hb2
      have hB2 : Below w.heap.size w w2 := hB1.trans (hb2.mono hB1.size)
      go_wp2
      go_roundw
      case rel => exact ⟨j + 1, y, s, by go_num, rfl, rfl, by omega, hy, hs, HN, hRB2, hB2⟩
      case measure => simp [intOf]; omega
    · go_wp2
      go_ret
      have h := HI.out
      rw [show K - j = 0 by omega] at h
      exact ⟨c, rfl, h, hB⟩

end Go.Proofs.YtcjkcgfohmhbcabDoor.Fd

/- The walks of Check, Root and Squares. -/
namespace Go.Proofs.YtcjkcgfohmhbcabDoor.Fd
open Go.RowKit

theorem open_nil {p k : Int} {l : List Int} {z : Int} (h : OpenIs p k l [] z) : FaultIs p k l z := by
  rcases h with ⟨_, h⟩ | ⟨_, h, _⟩ | ⟨h, _, rfl⟩
  · exact h
  · exact absurd (fun j hj => by simp at hj) h
  · exact h

set_option maxRecDepth 100000 in
set_option maxHeartbeats 1000000 in
theorem Check_any (p k : Int) (l : List Int) (v : Value) (w : World) (hT : Tab w) (hl : Sl w v l) (hll : l.length ≤ maxLen) :
    Calls Tryd.prog 31 #[.agg #[.int .i64 p, .int .i64 k, v]] w fun e w' => ∃ z : Int, e = .returned (.int .i64 z) ∧ FaultIs p k l z ∧ Below w.heap.size w w' := by
  obtain ⟨A, ca, rfl, _⟩ := id hl
  have hbx : Below w.heap.size w (w.alloc (.cells #[.int .i64 p, .int .i64 k, .slice A l.length ca] 36)) := (Below.refl _ _).alloc (Nat.le_refl _) _
  go_enter Tryd.func31, Tryd.ntmps31
  go_wp2_with fail
  refine (open_any p k l [] _ _ _ (hT.below hbx) (hl.below hbx) (Sl.nil _) hll (by simp)).mono ?_
  rintro e w1 ⟨z, x, y, c, f, rfl, hO, HZ, hb1⟩
  have hB1 : Below w.heap.size w w1 := hbx.trans (hb1.mono hbx.size)
  have HO : Hid (FaultIs p k l z) := open_nil hO
  have hnew : RB (w1.alloc (.cells #[.int .i64 0, .int .i64 0, .int .i64 0, .int .i64 0, .int .i64 0, .int .i64 0, .int .i64 0, .int .i64 0, .int .i64 0, .int .i64 0, .int .i64 0, .int .i64 0, .int .i64 0, .int .i64 0] 89)) w1.heap.size 0 0 0 (fun _ => 0) := RB.made w1 0 0 0 (fun _ => 0)
  have hBA : Below w.heap.size w ((w1.alloc (.cells #[.int .i64 0, .int .i64 0, .int .i64 0, .int .i64 0, .int .i64 0, .int .i64 0, .int .i64 0, .int .i64 0, .int .i64 0, .int .i64 0, .int .i64 0, .int .i64 0, .int .i64 0, .int .i64 0] 89)).setRow w1.heap.size (ringRow x y c f)) := bsetRow (hB1.alloc hB1.size _) hB1.size _
  clear hO HZ
  go_wp2_with (first
    | (refine wpList_store_row rfl 89 _ _ rfl w1.heap.size _ rfl rfl 89 _ hnew (inf53 _ _ _ _) rfl (ringRow_one _ _ _ _) ?_))
  go_ret
  exact ⟨z, rfl, HO.out, hBA⟩

set_option maxRecDepth 100000 in
set_option maxHeartbeats 1000000 in
theorem Root_any (p k : Int) (l : List Int) (v : Value) (w : World) (hT : Tab w) (hl : Sl w v l) (hll : l.length ≤ maxLen) :
    Calls Tryd.prog 48 #[.agg #[.int .i64 p, .int .i64 k, v]] w fun e w' => ∃ r z : Int, e = .returned (.tuple #[.int .i64 r, .int .i64 z]) ∧ FaultIs p k l z ∧ Hid (z ≠ 0 → r = 0) ∧ Hid (z = 0 → ∃ R : Nat, r = R ∧ RootIs p.toNat k.toNat (monL l) R) ∧ Below w.heap.size w w' := by
  obtain ⟨A, ca, rfl, _⟩ := id hl
  have hbx : Below w.heap.size w (w.alloc (.cells #[.int .i64 p, .int .i64 k, .slice A l.length ca] 36)) := (Below.refl _ _).alloc (Nat.le_refl _) _
  obtain ⟨fs, hu⟩ := und53
  go_enter Tryd.func48, Tryd.ntmps48
  go_wp2_with fail
  refine (open_any p k l [] _ _ _ (hT.below hbx) (hl.below hbx) (Sl.nil _) hll (by simp)).mono ?_
  rintro e w1 ⟨z, x, y, c, f, rfl, hO, HZ, hb1⟩
  have hB1 : Below w.heap.size w w1 := hbx.trans (hb1.mono hbx.size)
  have HO : Hid (FaultIs p k l z) := open_nil hO
  have hnew : RB (w1.alloc (.cells #[.int .i64 0, .int .i64 0, .int .i64 0, .int .i64 0, .int .i64 0, .int .i64 0, .int .i64 0, .int .i64 0, .int .i64 0, .int .i64 0, .int .i64 0, .int .i64 0, .int .i64 0, .int .i64 0] 89)) w1.heap.size 0 0 0 (fun _ => 0) := RB.made w1 0 0 0 (fun _ => 0)
  have hBA : Below w.heap.size w ((w1.alloc (.cells #[.int .i64 0, .int .i64 0, .int .i64 0, .int .i64 0, .int .i64 0, .int .i64 0, .int .i64 0, .int .i64 0, .int .i64 0, .int .i64 0, .int .i64 0, .int .i64 0, .int .i64 0, .int .i64 0] 89)).setRow w1.heap.size (ringRow x y c f)) := bsetRow (hB1.alloc hB1.size _) hB1.size _
  clear hO
  by_cases hz : z = 0
  · subst hz
    obtain ⟨rfl, rfl, rfl, rfl⟩ := HZ.out rfl
    obtain ⟨P, K, rfl, rfl, hG⟩ := good_of HO.out
    obtain ⟨q, HQ⟩ : ∃ q : Nat, Hid (q = P ^ K) := ⟨_, rfl⟩
    have HO2 : Hid (ordZ (P : Int) K = (q : Int)) := by
      show ordZ (P : Int) K = (q : Int)
      rw [hG.ord, HQ.out]
    rw [HO2.out] at hBA
    clear HZ
    rw [HO2.out]
    go_wp2_with (first
      | (refine wpList_store_row rfl 89 _ _ rfl w1.heap.size _ rfl rfl 89 _ hnew (inf53 _ _ _ _) rfl (ringRow_one _ _ _ _) ?_)
      | (refine wpList_load_row rfl 89 _ rfl w1.heap.size rfl 89 _ (0, 0) _ (hnew.whole _ _ _ _) hu rfl (inf53 _ _ _ _) ?_))
    refine (root_any P K q (monL l) _ hG.field (by have := hG.le61; omega) hG.le6 hG.le64 HQ).mono ?_
    rintro e w2 ⟨R, rfl, hRt, hb2⟩
    have HRt : Hid (RootIs P K (monL l) R) := hRt
    clear hRt
    go_wp2
    go_ret2
    exact ⟨_, _, rfl, HO.out, (fun h => absurd rfl h : (0 : Int) ≠ 0 → _), (fun _ => ⟨R, rfl, by rw [Int.toNat_natCast, Int.toNat_natCast]; exact HRt.out⟩ : (0 : Int) = 0 → _), hBA.trans (hb2.mono hBA.size)⟩
  · have hzb : (z != 0) = true := by simpa using hz
    go_wp2_with (first
      | (refine wpList_store_row rfl 89 _ _ rfl w1.heap.size _ rfl rfl 89 _ hnew (inf53 _ _ _ _) rfl (ringRow_one _ _ _ _) ?_))
    go_ret2
    exact ⟨0, z, rfl, HO.out, (fun _ => rfl : z ≠ 0 → _), (fun h => absurd h hz : z = 0 → _), hBA⟩

end Go.Proofs.YtcjkcgfohmhbcabDoor.Fd

/- The walks of Inv, Pow, Log and Trace: wrong fields and elements, 0 and numbers below 0; Log and Trace on a true field. -/
namespace Go.Proofs.YtcjkcgfohmhbcabDoor.Fd
open Go.RowKit

theorem OpenIs.one {p k : Int} {l es : List Int} {z z' : Int} (h : OpenIs p k l es z) (h' : OpenIs p k l es z') : z = z' := by
  rcases h with ⟨h0, h⟩ | ⟨h, hi, rfl⟩ | ⟨h, hi, rfl⟩
  · rcases h' with ⟨_, h'⟩ | ⟨h', _, _⟩ | ⟨h', _, _⟩
    · exact h.one h'
    · exact absurd (h.one h') h0
    · exact absurd (h.one h') h0
  · exact (open_out h hi h').symm
  · exact (open_in h hi h').symm

set_option maxRecDepth 100000 in
set_option maxHeartbeats 1000000 in
theorem TraceG (P K a : Nat) (l : List Int) (v : Value) (w : World) (hT : Tab w) (hl : Sl w v l) (hll : l.length ≤ maxLen) (hG : GoodF P K l) (ha : a < P ^ K) :
    Calls Tryd.prog 50 #[.agg #[.int .i64 P, .int .i64 K, v], .int .i64 a] w fun e w' => ∃ t : Nat, e = .returned (.tuple #[.int .i64 t, .int .i64 0]) ∧ Hid (t = trQ P K (monL l) K 0 a) ∧ Below w.heap.size w w' := by
  obtain ⟨A, ca, rfl, _⟩ := id hl
  have hbx : Below w.heap.size w ((w.alloc (.cells #[.int .i64 P, .int .i64 K, .slice A l.length ca] 36)).alloc (.cells #[.int .i64 a] 3)) := ((Below.refl _ _).alloc (Nat.le_refl _) _).alloc (by simp) _
  have hpair := sl_one (w.alloc (.cells #[.int .i64 P, .int .i64 K, .slice A l.length ca] 36)) a
  simp only [World.size_alloc] at hpair
  obtain ⟨fs, hu⟩ := und53
  go_enter Tryd.func50, Tryd.ntmps50
  go_wp2_with fail
  refine (open_any P K l [(a : Int)] _ _ _ (hT.below hbx) (hl.below hbx) hpair hll (by simp [maxLen])).mono ?_
  rintro e w1 ⟨z, x, y, c, f, rfl, hO, HZ, hb1⟩
  have hB1 : Below w.heap.size w w1 := hbx.trans (hb1.mono hbx.size)
  obtain rfl := open_in hG.fault (in_one hG ha) hO
  obtain ⟨rfl, rfl, rfl, rfl⟩ := HZ.out rfl
  have hnew : RB (w1.alloc (.cells #[.int .i64 0, .int .i64 0, .int .i64 0, .int .i64 0, .int .i64 0, .int .i64 0, .int .i64 0, .int .i64 0, .int .i64 0, .int .i64 0, .int .i64 0, .int .i64 0, .int .i64 0, .int .i64 0] 89)) w1.heap.size 0 0 0 (fun _ => 0) := RB.made w1 0 0 0 (fun _ => 0)
  have hRB := hnew.whole P K (ordZ (P : Int) K) (monL l)
  have hBA : Below w.heap.size w ((w1.alloc (.cells #[.int .i64 0, .int .i64 0, .int .i64 0, .int .i64 0, .int .i64 0, .int .i64 0, .int .i64 0, .int .i64 0, .int .i64 0, .int .i64 0, .int .i64 0, .int .i64 0, .int .i64 0, .int .i64 0] 89)).setRow w1.heap.size (ringRow P K (ordZ (P : Int) K) (monL l))) := bsetRow (hB1.alloc hB1.size _) hB1.size _
  clear hpair hO HZ
  go_wp2_with (first
    | (refine wpList_store_row rfl 89 _ _ rfl w1.heap.size _ rfl rfl 89 _ hnew (inf53 _ _ _ _) rfl (ringRow_one _ _ _ _) ?_)
    | (refine wpList_load_row rfl 89 _ rfl w1.heap.size rfl 89 _ (0, 0) _ hRB hu rfl (inf53 _ _ _ _) ?_))
  refine (trace_any P K a _ (monL l) _ hG.field.toRing1 (by have := hG.le61; omega) hG.le6 hG.le64 ha).mono ?_
  rintro e w2 ⟨t, rfl, ht, hb2⟩
  go_wp2
  go_ret2
  exact ⟨t, rfl, ht, hBA.trans (hb2.mono hBA.size)⟩

end Go.Proofs.YtcjkcgfohmhbcabDoor.Fd

/- The walks of the document's Inverse, Power, LogOf and TraceOf on a true field. -/
namespace Go.Proofs.YtcjkcgfohmhbcabDoor.Fd
open Go.RowKit

theorem pow_succ {P K : Nat} {m : Nat → Int} (hR : Ring1 P K m) (a j : Nat) : mulQ P K m (powQ P K m a j) a = powQ P K m a (j + 1) := mulQ_comm hR _ _

end Go.Proofs.YtcjkcgfohmhbcabDoor.Fd

/- Singer's sets; the walks of directions and traceless. -/
namespace Go.Proofs.YtcjkcgfohmhbcabDoor
open Go.RowKit

/-- 1 + p + p p + .. -/
def rep (P : Nat) : Nat → Nat
  | 0 => 0
  | n + 1 => rep P n * P + 1
theorem rep_pow {P : Nat} (hP : 1 ≤ P) : ∀ n, (P - 1) * rep P n + 1 = P ^ n
  | 0 => by simp [rep]
  | n + 1 => by
    have h := rep_pow hP n
    obtain ⟨q, hq⟩ : ∃ q, P = q + 1 := ⟨P - 1, by omega⟩
    rw [rep, Nat.pow_succ, ← h, hq, Nat.add_sub_cancel, Nat.mul_add, Nat.mul_one, Nat.add_mul, Nat.one_mul, ← Nat.mul_assoc]
    omega
theorem rep_le {P n : Nat} (hP : 2 ≤ P) (h : P ^ n ≤ 64) : rep P n ≤ 63 := by
  have h1 := rep_pow (P := P) (by omega) n
  have h2 : 1 * rep P n ≤ (P - 1) * rep P n := Nat.mul_le_mul_right _ (by omega)
  omega
theorem rep_mono {P i n : Nat} (hP : 1 ≤ P) (h : i ≤ n) : rep P i ≤ rep P n := by
  induction n with
  | zero => obtain rfl : i = 0 := by omega
            exact Nat.le_refl _
  | succ n ih =>
    by_cases e : i = n + 1
    · rw [e]; exact Nat.le_refl _
    · refine Nat.le_trans (ih (by omega)) ?_
      rw [rep]
      have := Nat.mul_le_mul_left (rep P n) hP
      omega
/-- The numbers to whose powers the root has no trace. -/
def sgL (P K : Nat) (m : Nat → Int) (R v : Nat) : List Nat := (List.range v).filter fun i => Fd.trQ P K m K 0 (Fd.powQ P K m R i) == 0
theorem good_root {P K R : Nat} {l : List Int} (hG : Fd.GoodF P K l) (h : Fd.RootIs P K (Fd.monL l) R) : R < P ^ K := (Fd.root_pos (Fd.good_ord hG) h).2.1
theorem RootG (P K : Nat) (l : List Int) (v : Value) (w : World) (hT : Fd.Tab w) (hl : Sl w v l) (hG : Fd.GoodF P K l) :
    Calls Tryd.prog 48 #[.agg #[.int .i64 (P : Int), .int .i64 (K : Int), v]] w fun e w' => ∃ R : Nat, e = .returned (.tuple #[.int .i64 (R : Int), .int .i64 0]) ∧ Fd.RootIs P K (Fd.monL l) R ∧ Below w.heap.size w w' := by
  refine (Fd.Root_any (P : Int) K l v w hT hl (by rw [hG.len]; have := hG.le6; unfold maxLen; omega)).mono ?_
  rintro e w' ⟨r, z, rfl, hF, _, h0, hb⟩
  obtain rfl := hF.one hG.fault
  obtain ⟨R, rfl, hR⟩ := h0.out rfl
  rw [Int.toNat_natCast, Int.toNat_natCast] at hR
  exact ⟨R, rfl, hR, hb⟩
set_option maxRecDepth 100000 in
set_option maxHeartbeats 4000000 in
theorem directions_any (P K : Nat) (v : Value) (w : World) (hP : 2 ≤ P) (hP' : P ≤ 61) (hK : K ≤ 6) (h64 : P ^ K ≤ 64) (hv : ∃ a n c, v = .slice a n c) :
    Calls Tryd.prog 32 #[.agg #[.int .i64 (P : Int), .int .i64 (K : Int), v]] w fun e w' => e = .returned (.int .i64 (rep P K : Int)) ∧ Below w.heap.size w w' := by
  obtain ⟨a, n, c, rfl⟩ := hv
  have HM : Hid (∀ i, i ≤ K → rep P i ≤ 63) := fun i hi => Nat.le_trans (rep_mono (by omega) hi) (rep_le hP h64)
  have HU : Hid (∀ i, rep P (i + 1) = rep P i * P + 1) := fun _ => rfl
  have H0 : Hid (rep P 0 = 0) := rfl
  have hF := Fd.FB.made w (P : Int) (K : Int) (.slice a n c)
  obtain ⟨f0, f1, _⟩ := hF.cells
  have hb := balloc w (.cells #[.int .i64 (P : Int), .int .i64 (K : Int), .slice a n c] 36)
  have HBB : Hid (Below w.heap.size w (w.alloc (.cells #[.int .i64 (P : Int), .int .i64 (K : Int), .slice a n c] 36))) := hb
  obtain ⟨r, Hr⟩ : ∃ r : Nat → Nat, Hid (∀ i, rep P i = r i) := ⟨fun i => rep P i, fun _ => rfl⟩
  have HM2 : Hid (∀ i, i ≤ K → r i ≤ 63) := fun i hi => by rw [← Hr.out]; exact HM.out i hi
  have HU2 : Hid (∀ i, r (i + 1) = r i * P + 1) := fun i => by rw [← Hr.out, ← Hr.out]; exact HU.out i
  have H02 : Hid (r 0 = 0) := by show _ = _; rw [← Hr.out]; exact H0.out
  rw [Hr.out]
  clear HM HU H0 Hr h64 hb hF
  go_enter Tryd.func32, Tryd.ntmps32
  go_wp2
  go_loopw [3, 6] (fun ov iv wr => ∃ i : Nat, iv = .int .i64 (i : Int) ∧ i ≤ K ∧ ov = .int .i64 (r i : Int) ∧ wr = w.alloc (.cells #[.int .i64 (P : Int), .int .i64 (K : Int), .slice a n c] 36)) (fun _ iv _ => (K - intOf iv).toNat)
  case atStart => exact ⟨0, rfl, by omega, by rw [H02.out]; rfl, rfl⟩
  case round =>
    obtain ⟨i, rfl, hi, rfl, rfl⟩ := hrel
    by_cases hlt : i < K
    · have hii : (i : Int) < K := by omega
      have hdec : decide ((i : Int) < K) = true := by simp; omega
      have h1 := HM2.out (i + 1) (by omega)
      have h2 := HM2.out i hi
      have hU := HU2.out i
      obtain ⟨x, Hx⟩ : ∃ x, Hid (r i = x) := ⟨_, rfl⟩
      obtain ⟨y, Hy⟩ : ∃ y, Hid (r (i + 1) = y) := ⟨_, rfl⟩
      rw [Hx.out] at hU h2 ⊢
      rw [Hy.out] at hU h1
      obtain ⟨m, hm⟩ : ∃ m, x * P = m := ⟨_, rfl⟩
      have hmi : (x : Int) * (P : Int) = (m : Int) := by rw [← hm]; simp
      rw [hm] at hU
      have hmb : m ≤ 63 := by omega
      have HYY : Hid ((m : Int) + 1 = (y : Int)) := by show _ = _; omega
      clear hm hU HM2 HU2 H02
      go_wp2
      go_roundw
      case rel => exact ⟨i + 1, by go_num, by omega, by rw [Hy.out, ← HYY.out], by first | rfl | trivial⟩
      case measure => simp [intOf]; omega
    · have hdec : decide ((i : Int) < K) = false := by simp; omega
      obtain rfl : i = K := by omega
      go_wp2
      go_ret
      exact ⟨rfl, HBB.out⟩

end Go.Proofs.YtcjkcgfohmhbcabDoor

/- The walk of traceless. -/
namespace Go.Proofs.YtcjkcgfohmhbcabDoor
open Go.RowKit

set_option maxRecDepth 100000 in
set_option maxHeartbeats 8000000 in
theorem traceless_any (P K n : Nat) (l : List Int) (v : Value) (w : World) (hT : Fd.Tab w) (hl : Sl w v l) (hG : Fd.GoodF P K l) (hn : n ≤ 60) :
    Calls Tryd.prog 33 #[.agg #[.int .i64 (P : Int), .int .i64 (K : Int), v], .int .i64 (n : Int)] w fun e w' => ∃ (R : Nat) (x : Value), e = .returned x ∧ Fd.RootIs P K (Fd.monL l) R ∧ ORow w' w.heap.size x (sgL P K (Fd.monL l) R n) ∧ Below w.heap.size w w' := by
  have hll : l.length ≤ maxLen := by rw [hG.len]; have := hG.le6; unfold maxLen; omega
  have HR : Hid (∀ W, Below w.heap.size w W → Calls Tryd.prog 48 #[.agg #[.int .i64 (P : Int), .int .i64 (K : Int), v]] W fun e w' => ∃ R : Nat, e = .returned (.tuple #[.int .i64 (R : Int), .int .i64 0]) ∧ Fd.RootIs P K (Fd.monL l) R ∧ Below W.heap.size W w') := fun W b => RootG P K l v W (hT.below b) (hl.below b) hG
  have HP : Hid (∀ (R i : Nat) (W : World), Fd.RootIs P K (Fd.monL l) R → i ≤ 60 → Below w.heap.size w W → Calls Tryd.prog 49 #[.agg #[.int .i64 (P : Int), .int .i64 (K : Int), v], .int .i64 (R : Int), .int .i64 (i : Int)] W fun e w' => e = .returned (.tuple #[.int .i64 (Fd.powQ P K (Fd.monL l) R i : Int), .int .i64 0]) ∧ Below W.heap.size W w') := fun R i W hR hi b =>
    Fd.PowG P K R (i : Int) l v W (hT.below b) (hl.below b) hll hG (good_root hG hR) (by omega) (by omega) _ (by show _ = _; rw [Int.toNat_natCast])
  have HTr : Hid (∀ (R i : Nat) (W : World), Below w.heap.size w W → Calls Tryd.prog 50 #[.agg #[.int .i64 (P : Int), .int .i64 (K : Int), v], .int .i64 (Fd.powQ P K (Fd.monL l) R i : Int)] W fun e w' => e = .returned (.tuple #[.int .i64 (Fd.trQ P K (Fd.monL l) K 0 (Fd.powQ P K (Fd.monL l) R i) : Int), .int .i64 0]) ∧ Below W.heap.size W w') := fun R i W b => by
    refine (Fd.TraceG P K (Fd.powQ P K (Fd.monL l) R i) l v W (hT.below b) (hl.below b) hll hG (Fd.powQ_lt hG.field.toRing1 R i)).mono ?_
    rintro e w' ⟨t, rfl, ht, hb⟩
    rw [ht.out]
    exact ⟨rfl, hb⟩
  obtain ⟨A, HA⟩ : ∃ A : Nat → Nat → Nat, Hid (∀ R i, Fd.powQ P K (Fd.monL l) R i = A R i) := ⟨fun R i => Fd.powQ P K (Fd.monL l) R i, fun _ _ => rfl⟩
  obtain ⟨B, HB⟩ : ∃ B : Nat → Nat → Nat, Hid (∀ R i, Fd.trQ P K (Fd.monL l) K 0 (Fd.powQ P K (Fd.monL l) R i) = B R i) := ⟨fun R i => Fd.trQ P K (Fd.monL l) K 0 (Fd.powQ P K (Fd.monL l) R i), fun _ _ => rfl⟩
  have HP2 : Hid (∀ (R i : Nat) (W : World), Fd.RootIs P K (Fd.monL l) R → i ≤ 60 → Below w.heap.size w W → Calls Tryd.prog 49 #[.agg #[.int .i64 (P : Int), .int .i64 (K : Int), v], .int .i64 (R : Int), .int .i64 (i : Int)] W fun e w' => e = .returned (.tuple #[.int .i64 (A R i : Int), .int .i64 0]) ∧ Below W.heap.size W w') := fun R i W hR hi b => by rw [← HA.out]; exact HP.out R i W hR hi b
  have HT2 : Hid (∀ (R i : Nat) (W : World), Below w.heap.size w W → Calls Tryd.prog 50 #[.agg #[.int .i64 (P : Int), .int .i64 (K : Int), v], .int .i64 (A R i : Int)] W fun e w' => e = .returned (.tuple #[.int .i64 (B R i : Int), .int .i64 0]) ∧ Below W.heap.size W w') := fun R i W b => by rw [← HA.out, ← HB.out]; exact HTr.out R i W b
  obtain ⟨F, HF⟩ : ∃ F : Nat → Nat → List Nat, Hid (∀ R k, sgL P K (Fd.monL l) R k = F R k) := ⟨fun R k => sgL P K (Fd.monL l) R k, fun _ _ => rfl⟩
  have HU : Hid (∀ R k, F R (k + 1) = F R k ++ if (B R k == 0) = true then [k] else []) := fun R k => by rw [← HF.out, ← HF.out, ← HB.out]; exact ran_up _ k
  have HLn : Hid (∀ R k, (F R k).length ≤ k) := fun R k => by rw [← HF.out]; exact Nat.le_trans (List.length_filter_le _ _) (by simp)
  have HF0 : Hid (∀ R, F R 0 = []) := fun R => by rw [← HF.out]; rfl
  have HFin : Hid (∀ R, F R n = sgL P K (Fd.monL l) R n) := fun R => by rw [HF.out]
  obtain ⟨a, c, rfl, _⟩ := id hl
  obtain ⟨i3, hi3, hz0, hz1, hz2⟩ := info3
  have hF0 := Fd.FB.made w (P : Int) (K : Int) (.slice a l.length c)
  have hb0 := balloc w (.cells #[.int .i64 (P : Int), .int .i64 (K : Int), .slice a l.length c] 36)
  obtain ⟨W0, HW0⟩ : ∃ W0, Hid (w.alloc (.cells #[.int .i64 (P : Int), .int .i64 (K : Int), .slice a l.length c] 36) = W0) := ⟨_, rfl⟩
  obtain ⟨s1, Hs1⟩ : ∃ s1, Hid (w.heap.size + 1 = s1) := ⟨_, rfl⟩
  have hsz : W0.heap.size = s1 := by rw [← HW0.out, ← Hs1.out]; simp
  have hFc := hF0.cells
  have HFB : Hid (∀ W, Below s1 W0 W → Fd.FB W w.heap.size P K (.slice a l.length c)) := fun W b => by rw [HW0.out] at hF0; exact hF0.below (by rw [hsz]; exact b)
  have HBW : Hid (∀ W, Below s1 W0 W → Below w.heap.size w W) := fun W b => by rw [HW0.out] at hb0; exact hb0.trans (b.mono (by have := Hs1.out; omega))
  generalize l.length = ln at *
  have hsl : w.heap.size ≤ s1 := by have := Hs1.out; omega
  clear hF0 hb0 hG hT hl hll HP HTr HA HB HF
  go_enter Tryd.func33, Tryd.ntmps33
  go_wp2_with fail
  rw [HW0.out]
  refine (HR.out W0 (HBW.out _ (Below.refl _ _))).mono ?_
  rintro e w1 ⟨R, rfl, hRt, hb1⟩
  have hB1 : Below s1 W0 w1 := by rw [hsz] at hb1; exact hb1
  have HRt : Hid (Fd.RootIs P K (Fd.monL l) R) := hRt
  clear HR hFc hb1 hRt
  go_wp2
  go_loopw [7, 19] (fun ov iv wr => ∃ i : Nat, iv = .int .i64 (i : Int) ∧ i ≤ n ∧ ORow wr s1 ov (F R i) ∧ Below s1 W0 wr) (fun _ iv _ => (n - intOf iv).toNat)
  case atStart => exact ⟨0, rfl, by omega, by rw [HF0.out]; exact World.ownsRow_nil _ _ _ _, hB1⟩
  case round =>
    clear hB1 HF0
    obtain ⟨i, rfl, hi, hown, hB⟩ := hrel
    have hgs : s1 ≤ wr.heap.size := by rw [← hsz]; exact hB.size
    by_cases hlt : i < n
    · have hii : (i : Int) < n := by omega
      have hdec : decide ((i : Int) < n) = true := by simp; omega
      have C2 := HP2.out R i wr HRt.out (by omega) (HBW.out _ hB)
      have HT3 : Hid (∀ W, Below w.heap.size w W → Calls Tryd.prog 50 #[.agg #[.int .i64 (P : Int), .int .i64 (K : Int), .slice a ln c], .int .i64 (A R i : Int)] W fun e w' => e = .returned (.tuple #[.int .i64 (B R i : Int), .int .i64 0]) ∧ Below W.heap.size W w') := HT2.out R i
      have hU := HU.out R i
      have hL := HLn.out R i
      have hFc := (HFB.out _ hB).cells
      obtain ⟨ar, Har⟩ : ∃ ar, Hid (A R i = ar) := ⟨_, rfl⟩
      obtain ⟨br, Hbr⟩ : ∃ br, Hid (B R i = br) := ⟨_, rfl⟩
      obtain ⟨ll, Hll⟩ : ∃ ll, Hid (F R i = ll) := ⟨_, rfl⟩
      rw [Har.out] at C2 HT3
      rw [Hbr.out] at HT3 hU
      rw [Hll.out] at hU hL hown
      unfold ORow at hown
      obtain ⟨oa, oc, rfl⟩ := own_form hown
      have HUU : Hid (F R (i + 1) = ll ++ if (br == 0) = true then [i] else []) := hU
      clear hU HP2 HT2 HU HLn HFin
      go_wp2_with fail
      refine C2.mono ?_
      rintro e w2 ⟨rfl, hb2⟩
      have hB2 : Below s1 W0 w2 := hB.trans (hb2.mono hgs)
      have hown2 := own_keep hown fun b _ hb => hb2.block b hb
      have C3 := HT3.out _ (HBW.out _ hB2)
      have hgs2 : s1 ≤ w2.heap.size := by rw [← hsz]; exact hB2.size
      clear C2 HT3 hFc hb2 hown hB
      have hFc := (HFB.out _ hB2).cells
      go_wp2_with fail
      refine C3.mono ?_
      rintro e w3 ⟨rfl, hb3⟩
      have hB3 : Below s1 W0 w3 := hB2.trans (hb3.mono hgs2)
      have hown3 := own_keep hown2 fun b _ hb => hb3.block b hb
      have hgs3 : s1 ≤ w3.heap.size := by rw [← hsz]; exact hB3.size
      clear C3 hFc hb3 hown2 hB2
      by_cases hbr : br = 0
      · subst hbr
        have HU1 : Hid (F R (i + 1) = ll ++ [i]) := by show _ = _; rw [HUU.out]; simp
        clear HUU
        go_wp2_with (first
          | (at_builtin; refine wpList_append_own _ rfl _ _ 23 rfl s1 3 i3 (.int .i64 0) 1 8 und22 hi3 hz0 hz1 hz2 rfl (by decide) _ _ _ rfl (hown3.alloc _) ⟨w3.heap.size, 0, none⟩ 1 1 [.int .i64 (i : Int)] rfl rfl (fun j u hj => by (match j, hj with | 0, hj => simp at hj; subst hj; simp [Addr.add])) (fun u hu => by (simp at hu; subst hu; rfl)) (by (unfold maxLen; omega)) (by omega) (by (simp; omega)) ?_; intro v' w4 hown' hgrow _)
          | go_in)
        have hb4 : Below s1 W0 w4 := (hB3.alloc (by omega) _).grown hgrow (by simp; omega) (fun k hk => (hown3.lt k hk).1)
        have hown4 : w4.ownsRow s1 3 1 v' (ll.length + 1) (((ll ++ [i]).map Int.ofNat).map (Value.int .i64)) := by simpa using hown'
        have hown5 : ORow w4 s1 v' (F R (i + 1)) := by
          rw [HU1.out]
          unfold ORow
          rw [List.length_append]
          exact hown4
        clear hown' hown4 hgrow hown3 hB3
        go_roundw
        case rel => exact ⟨i + 1, by go_num, by omega, hown5, hb4⟩
        case measure => simp [intOf]; omega
      · have e1 : ¬ (br : Int) = 0 := by omega
        have e2 : ((br : Int) == 0) = false := by simpa using e1
        have HU1 : Hid (F R (i + 1) = ll) := by show _ = _; rw [HUU.out]; simp [hbr]
        clear HUU
        go_wp2
        go_roundw
        case rel => exact ⟨i + 1, by go_num, by omega, by rw [HU1.out]; exact hown3, hB3⟩
        case measure => simp [intOf]; omega
    · have hdec : decide ((i : Int) < n) = false := by simp; omega
      obtain rfl : i = n := by omega
      rw [HFin.out] at hown
      go_wp2
      go_ret
      exact ⟨R, _, rfl, HRt.out, own_low hown hsl, HBW.out _ hB⟩

end Go.Proofs.YtcjkcgfohmhbcabDoor

namespace Go.Proofs.YtcjkcgfohmhbcabDoor
open Go.RowKit

theorem CheckF (p k z : Int) (l : List Int) (v : Value) (w : World) (hT : Fd.Tab w) (hl : Sl w v l) (hll : l.length ≤ maxLen) (hF : Fd.FaultIs p k l z) :
    Calls Tryd.prog 31 #[.agg #[.int .i64 p, .int .i64 k, v]] w fun e w' => e = .returned (.int .i64 z) ∧ Below w.heap.size w w' := by
  refine (Fd.Check_any p k l v w hT hl hll).mono ?_
  rintro e w' ⟨z', rfl, h, hb⟩
  rw [h.one hF]
  exact ⟨rfl, hb⟩
set_option maxRecDepth 100000 in
set_option maxHeartbeats 4000000 in
theorem Singer_ok (P K : Nat) (l : List Int) (v : Value) (w : World) (hT : Fd.Tab w) (hl : Sl w v l) (hll : l.length ≤ maxLen) (hG : Fd.GoodF P K l) (hK : 3 ≤ K) (hr : rep P K ≤ 60) :
    Calls Tryd.prog 12 #[.agg #[.int .i64 (P : Int), .int .i64 (K : Int), v]] w fun e w' => ∃ (R : Nat) (x : Value), e = .returned (.tuple #[.int .i64 (rep P K : Int), x, .int .i64 0]) ∧ Fd.RootIs P K (Fd.monL l) R ∧ ORow w' 0 x (sgL P K (Fd.monL l) R (rep P K)) ∧ Below w.heap.size w w' := by
  obtain ⟨a, c, rfl, _⟩ := id hl
  have hb0 := balloc w (.cells #[.int .i64 (P : Int), .int .i64 (K : Int), .slice a l.length c] 36)
  have C := CheckF P K 0 l _ _ (hT.below hb0) (hl.below hb0) hll hG.fault
  have HD : Hid (∀ W, Calls Tryd.prog 32 #[.agg #[.int .i64 (P : Int), .int .i64 (K : Int), .slice a l.length c]] W fun e w' => e = .returned (.int .i64 (rep P K : Int)) ∧ Below W.heap.size W w') := fun W => directions_any P K _ W hG.field.two hG.le61 hG.le6 hG.le64 ⟨_, _, _, rfl⟩
  have HL : Hid (∀ W, Below w.heap.size w W → Calls Tryd.prog 33 #[.agg #[.int .i64 (P : Int), .int .i64 (K : Int), .slice a l.length c], .int .i64 (rep P K : Int)] W fun e w' => ∃ (R : Nat) (x : Value), e = .returned x ∧ Fd.RootIs P K (Fd.monL l) R ∧ ORow w' W.heap.size x (sgL P K (Fd.monL l) R (rep P K)) ∧ Below W.heap.size W w') := fun W b => traceless_any P K (rep P K) l _ W (hT.below b) (hl.below b) hG hr
  have hF0 := Fd.FB.made w (P : Int) (K : Int) (.slice a l.length c)
  have hFc := hF0.cells
  generalize l.length = ln at *
  obtain ⟨r, Hr⟩ : ∃ r, Hid (rep P K = r) := ⟨_, rfl⟩
  rw [Hr.out] at HD HL hr ⊢
  have d1 : decide ((K : Int) < 3) = false := by simp; omega
  have d2 : ¬ (K : Int) < 3 := by omega
  have d3 : decide (60 < (r : Int)) = false := by simp; omega
  have d4 : ¬ 60 < (r : Int) := by omega
  clear hT hl hll hG
  go_enter Tryd.func12, Tryd.ntmps12
  go_wp2_with (first
    | (go_at_call 31; refine C.mono ?_; rintro e w1 ⟨rfl, hb⟩; clear C; have HB : Hid (Below w.heap.size w w1) := Below.next hb0 hb; clear hFc; have hF1 := hF0.below hb; have hFc := hF1.cells; clear hb hb0 hF0)
    | (go_at_call 32; refine (HD.out _).mono ?_; rintro e w2 ⟨rfl, hb⟩; clear HD; have HB2 : Hid (Below w.heap.size w w2) := Below.next HB.out hb; clear hFc; have hF2 := hF1.below hb; have hFc := hF2.cells; clear hb hF1)
    | (go_at_call 33; refine (HL.out _ HB2.out).mono ?_; rintro e w3 ⟨R, x, rfl, hR, hx, hb⟩; clear HL; have HB3 : Hid (Below w.heap.size w w3) := Below.next HB2.out hb; have HX : Hid (Fd.RootIs P K (Fd.monL l) R ∧ ORow w3 0 x (sgL P K (Fd.monL l) R r)) := ⟨hR, own_low hx (Nat.zero_le _)⟩; clear hb hFc hF2 hR hx)
    | go_in)
  go_ret3
  exact ⟨R, x, rfl, HX.out.1, HX.out.2, HB3.out⟩

end Go.Proofs.YtcjkcgfohmhbcabDoor
