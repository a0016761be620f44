/- The walk of irreducible. -/
import Derived.Test.YtjfjdidibglhaabDoorBase
import Derived.BigRegion
import Derived.Deep.RegionWith
import Derived.ChangeKeysEq
/- The walk of polyOf: the digits of a number, as a row of eleven. -/
namespace Go.Proofs.YtjfjdidibglhaabDoor.Fd
open Go.RowKit

set_option maxRecDepth 100000 in
set_option maxHeartbeats 400000 in
theorem polyOf_any (n p : Nat) (w : World) (hn : n < 2048) (hp : 2 ≤ p) (hp' : p ≤ 64) :
    Calls Tryd.prog 58 #[.int .i64 n, .int .i64 p] w fun e w' => e = .returned (.agg (prow (digF n p))) ∧ Below w.heap.size w w' := by
  go_enter Tryd.func58, Tryd.ntmps58
  go_wp2
  go_loopw [0, 6] (fun m i wr => ∃ k c : Nat, i = .int .i64 k ∧ k ≤ 11 ∧ m = .int .i64 c ∧ Hid (c = n / p ^ k) ∧ Row wr (w.heap.size + 1) (digTo n p k) ∧ Row wr w.heap.size (fun _ => 0) ∧ Below w.heap.size w wr) (fun m _ _ => (intOf m).toNat)
  case atStart =>
    refine ⟨0, n, rfl, by omega, by simp, (show n = n / p ^ 0 by simp), ?_, (Row.made0 w).alloc _, ((Below.refl _ _).alloc (Nat.le_refl _) _).alloc (by simp) _⟩
    have h := Row.made0 (w.alloc (.cells #[.int .i64 0, .int .i64 0, .int .i64 0, .int .i64 0, .int .i64 0, .int .i64 0, .int .i64 0, .int .i64 0, .int .i64 0, .int .i64 0, .int .i64 0] 93))
    simp only [World.size_alloc] at h
    exact h.congr (fun j _ => by simp [digTo])
  case round =>
    obtain ⟨k, c, rfl, hk, rfl, HC, hr, hz, hb⟩ := hrel
    have hnn : c ≤ n := by rw [HC.out]; exact Nat.div_le_self _ _
    by_cases hlt : 0 < c
    · have hk10 := div_small n p k hn hp (by rw [← HC.out]; exact hlt)
      have hc := hr.cell k (by omega)
      have hf := hr.frozen k
      have hcp : c / p < c := Nat.div_lt_self hlt hp
      have HE : Hid (((c / p : Nat) : Int) = (c : Int) / (p : Int)) := Int.natCast_ediv c p
      have hq0 : 0 ≤ (c : Int) / (p : Int) := by rw [← HE.out]; exact Int.natCast_nonneg _
      have hq1 : (c : Int) / (p : Int) ≤ 2048 := by rw [← HE.out]; omega
      go_wp2
      go_roundw
      case rel =>
        refine ⟨k + 1, c / p, by go_num, by omega, by go_num, ?_, ?_, hz.other _ _ (by simp), hb.setCell (by simp) _⟩
        · show c / p = n / p ^ (k + 1)
          rw [div_succ, ← HC.out]
        · refine (hr.set k _).congr (fun j _ => ?_)
          have e : ((c : Int) % (p : Int)) = digF n p k := by rw [HC.out]; simp [digF]
          rw [e]; exact digTo_succ n p k j
      case measure => simp [intOf]; rw [← HE.out]; omega
    · go_wp2_with (first | (refine wpList_load_row rfl 93 _ rfl (w.heap.size + 1) rfl 93 _ (0, 0) _ hr und51 rfl (inf51 _) ?_) | (refine wpList_store_row rfl 93 _ _ rfl w.heap.size _ rfl rfl 93 _ hz (inf51 _) (by simp) (prow_one _) ?_))
      refine post_row 4 rfl rfl (hz.whole _) rfl ⟨?_, bsetRow hb (Nat.le_refl _) _⟩
      rw [prow_congr (fun j _ => digTo_full n p k (by rw [← HC.out]; omega) j)]

end Go.Proofs.YtjfjdidibglhaabDoor.Fd

/- The walk of modulo: what is left of a row, divided by a monic one. -/
namespace Go.Proofs.YtjfjdidibglhaabDoor.Fd
open Go.RowKit

set_option maxRecDepth 100000 in
set_option maxHeartbeats 1000000 in
theorem modulo_any (f m : Nat → Int) (d p : Nat) (w : World) (hp : 2 ≤ p) (hp' : p ≤ 64) (hd : 1 ≤ d) (hd6 : d ≤ 6) (hf : inP p f) (hm : inP p m) :
    Calls Tryd.prog 93 #[.agg (prow f), .agg (prow m), .int .i64 d, .int .i64 p] w fun e w' => e = .returned (.agg (prow (redN m d p (11 - d) f))) ∧ Below w.heap.size w w' := by
  go_enter Tryd.func93, Tryd.ntmps93
  go_wp2
  go_loopw [9] (fun i wr => ∃ x : Int, i = .int .i64 x ∧ (d : Int) ≤ x + 1 ∧ x ≤ 10 ∧ ∃ g, Row wr w.heap.size g ∧ Row wr (w.heap.size + 1) m ∧ Row wr (w.heap.size + 1 + 1) (fun _ => 0) ∧ inP p g ∧ Hid (redN m d p (x + 1 - d).toNat g = redN m d p (11 - d) f) ∧ Below w.heap.size w wr) (fun i _ => (intOf i + 1).toNat)
  case atStart =>
    refine ⟨10, rfl, by omega, by omega, f, ((Row.made w f).alloc _).alloc _, ?_, ?_, hf, ?_, (((Below.refl _ _).alloc (Nat.le_refl _) _).alloc (by simp) _).alloc (by simp; omega) _⟩
    · have h := (Row.made (w.alloc (.cells (prow f) 93)) m).alloc (.cells (prow fun _ => 0) 93)
      rw [← prow_zero]; simpa using h
    · have h := Row.made ((w.alloc (.cells (prow f) 93)).alloc (.cells (prow m) 93)) (fun _ => 0)
      rw [← prow_zero]; simpa using h
    · show redN m d p (10 + 1 - (d : Int)).toNat f = redN m d p (11 - d) f
      rw [show (10 + 1 - (d : Int)).toNat = 11 - d by omega]
  case round =>
    obtain ⟨x, rfl, hx1, hx2, g, hr, hrm, hz, hg, HR, hb⟩ := hrel
    by_cases hlt : (d : Int) ≤ x
    · obtain ⟨i0, rfl⟩ := Int.eq_ofNat_of_zero_le (show 0 ≤ x by omega)
      obtain ⟨b, Hb⟩ : ∃ b : Int, Hid (b = g i0) := ⟨_, rfl⟩
      have hb0 := hg i0
      rw [← Hb.out] at hb0
      have hcb := hr.cell i0 (by omega)
      rw [← Hb.out] at hcb
      go_wp2
      go_loopw [11] (fun j wr' => ∃ n : Nat, j = .int .i64 n ∧ n ≤ d + 1 ∧ Row wr' w.heap.size (rdTo g m d p i0 n) ∧ Row wr' (w.heap.size + 1) m ∧ Row wr' (w.heap.size + 1 + 1) (fun _ => 0) ∧ Below w.heap.size w wr') (fun j _ => (d + 1 - intOf j).toNat)
      case atStart => exact ⟨0, rfl, by omega, hr.congr (fun j _ => (rdTo_zero g m d p i0 j).symm), hrm, hz, hb⟩
      case round =>
        obtain ⟨n, rfl, hn, hr', hrm', hz', hb'⟩ := hrel
        by_cases hle : n ≤ d
        · obtain ⟨a, Ha⟩ : ∃ a : Int, Hid (a = g (i0 - d + n)) := ⟨_, rfl⟩
          obtain ⟨c, Hc⟩ : ∃ c : Int, Hid (c = m n) := ⟨_, rfl⟩
          have ha0 := hg (i0 - d + n)
          rw [← Ha.out] at ha0
          have hc0 := hm n
          rw [← Hc.out] at hc0
          have hi0 : (0 : Int) ≤ (i0 : Int) - d + n := by omega
          have hi1 : (i0 : Int) - d + n < 11 := by omega
          have hca := hr'.cell (i0 - d + n) (by omega)
          rw [rdTo_at, ← Ha.out] at hca
          have hcf := hr'.frozen (i0 - d + n)
          have hcc := hrm'.cell n (by omega)
          rw [← Hc.out] at hcc
          have hm0 : 0 ≤ ((p : Int) - b) * c := Int.mul_nonneg (by omega) (by omega)
          have hm1 : ((p : Int) - b) * c ≤ 64 * 64 := Int.mul_le_mul (by omega) (by omega) (by omega) (by omega)
          go_wp2
          go_region
          all_goals
            go_wp2
            go_roundw
            case rel =>
              refine ⟨n + 1, by go_num, by omega, (hr'.set (i0 - d + n) _).congr (fun t _ => rdTo_succ g m d p i0 n _ ?_ t), hrm'.other _ _ (by simp), hz'.other _ _ (by simp; omega), (hb'.setCell (Nat.le_refl _) _).drew⟩
              rw [← Ha.out, ← Hb.out, ← Hc.out]; exact sub_mod a b c p
            case measure => simp [intOf]; omega
        · go_wp2
          go_roundw
          case rel =>
            refine ⟨(i0 : Int) - 1, rfl, by omega, by omega, rd g m d p i0, hr'.congr (fun t _ => ?_), hrm', hz', rd_in (by omega) hg, ?_, hb'⟩
            · rw [show n = d + 1 by omega]; exact rdTo_full g m d p i0 (by omega) t
            · show redN m d p ((i0 : Int) - 1 + 1 - d).toNat (rd g m d p i0) = _
              rw [← HR.out]
              rw [show ((i0 : Int) + 1 - d).toNat = (i0 - d) + 1 by omega, show ((i0 : Int) - 1 + 1 - d).toNat = i0 - d by omega]
              show _ = redN m d p (i0 - d) (rd g m d p (d + (i0 - d)))
              rw [show d + (i0 - d) = i0 by omega]
          case measure => simp [intOf]
    · go_wp2_with (first | (refine wpList_load_row rfl 93 _ rfl w.heap.size rfl 93 _ (0, 0) _ hr und51 rfl (inf51 _) ?_) | (refine wpList_store_row rfl 93 _ _ rfl (w.heap.size + 1 + 1) _ rfl rfl 93 _ hz (inf51 _) (by simp) (prow_one _) ?_))
      have e : (x + 1 - (d : Int)).toNat = 0 := by omega
      have HR' := HR.out
      rw [e] at HR'
      refine post_row 8 rfl rfl (hz.whole _) rfl ⟨?_, bsetRow hb (by omega) _⟩
      rw [← HR']; rfl

end Go.Proofs.YtjfjdidibglhaabDoor.Fd

namespace Go.Proofs.YtjfjdidibglhaabDoor.Fd
open Go.RowKit

set_option maxRecDepth 100000 in
theorem part_prow (f : Nat → Int) (j : Nat) (h : j < 11) (w : World) : (part 3 (prow f) (j * Tryd.prog.cellsOf 3)).run Tryd.prog w = .ok (.int .i64 (f j)) w := by
  have : j = 0 ∨ j = 1 ∨ j = 2 ∨ j = 3 ∨ j = 4 ∨ j = 5 ∨ j = 6 ∨ j = 7 ∨ j = 8 ∨ j = 9 ∨ j = 10 := by omega
  rcases this with rfl | rfl | rfl | rfl | rfl | rfl | rfl | rfl | rfl | rfl | rfl <;> (change _ = _; kernel_rfl)
set_option maxRecDepth 100000 in
theorem eqItems_prow (f g : Nat → Int) (w : World) : ∀ js : List Nat, (∀ j ∈ js, j < 11) → (Op.eqItems 9999 3 (Tryd.prog.cellsOf 3) (prow f) (prow g) js).run Tryd.prog w = .ok (js.all fun j => f j == g j) w
  | [], _ => by simp [Op.eqItems]
  | j :: js, h => by
    have hj := h j (by simp)
    have ih := eqItems_prow f g w js (fun i hi => h i (by simp [hi]))
    simp only [Op.eqItems, Sem.run_bind, part_prow f j hj, part_prow g j hj, Result.andThen_ok, run_equalIn_int w 9998 3 .i64 .i64 (f j) (g j) und3]
    cases he : (f j == g j)
    · simp [he]
    · simp [he, ih]
def zB (g : Nat → Int) : Bool := (List.range 11).all fun j => g j == 0
theorem zB_iff (g : Nat → Int) : zB g = true ↔ isZ g := by
  unfold zB isZ
  rw [List.all_eq_true]
  simp
set_option maxRecDepth 100000 in
theorem eq51 (g : Nat → Int) (w : World) : (Op.equalIn 10000 93 (.agg (prow g)) (.agg #[.int .i64 0, .int .i64 0, .int .i64 0, .int .i64 0, .int .i64 0, .int .i64 0, .int .i64 0, .int .i64 0, .int .i64 0, .int .i64 0, .int .i64 0])).run Tryd.prog w = .ok (zB g) w := by
  rw [← prow_zero]
  have hs : (Tryd.prog.info? 3).isSome = true := by kernel_rfl
  obtain ⟨i, hi⟩ := Option.isSome_iff_exists.1 hs
  rw [run_equalIn_array w 9999 (prow g) (prow fun _ => 0) und51 hi]
  exact eqItems_prow g (fun _ => 0) w (List.range 11) (fun j hj => by simpa using hj)

set_option maxRecDepth 100000 in
set_option maxHeartbeats 1000000 in
theorem irreducible_any (f : Nat → Int) (k p : Nat) (w : World) (hp : 2 ≤ p) (hp' : p ≤ 64) (hk : 1 ≤ k) (hpk : p ^ k ≤ 64) (hf : inP p f) :
    Calls Tryd.prog 59 #[.agg (prow f), .int .i64 k, .int .i64 p] w fun e w' => ∃ b : Bool, e = .returned (.bool b) ∧ (b = true ↔ irrP f k p) ∧ Below w.heap.size w w' := by
  go_enter Tryd.func59, Tryd.ntmps59
  go_wp2
  go_loopw [7, 8] (fun q i wr => ∃ d c : Nat, i = .int .i64 d ∧ q = .int .i64 c ∧ 1 ≤ d ∧ Hid (c = p ^ d) ∧ Row wr w.heap.size f ∧ irrTo f p d 0 ∧ Below w.heap.size w wr ∧ 2 * d ≤ k + 2) (fun _ i _ => (k + 2 - 2 * intOf i).toNat)
  case atStart => exact ⟨1, p, rfl, rfl, by omega, (show p = p ^ 1 by simp), Row.made w f, ⟨fun e h1 h2 => by omega, fun b hb => by omega⟩, (Below.refl _ _).alloc (Nat.le_refl _) _, by omega⟩
  case round =>
    obtain ⟨d, c, rfl, rfl, hd, HC, hr, hi, hb, h2d⟩ := hrel
    have hk6 := deg_le hp hpk
    have hd6 : 2 * d ≤ k → d ≤ 6 := fun h => by omega
    have hc : c ≤ 64 := by rw [HC.out]; exact pow_le_of hp (by omega) hpk
    have hc0 : 0 < c := by rw [HC.out]; exact Nat.pow_pos (by omega)
    have HI : Hid (irrTo f p d 0) := hi
    clear hi
    by_cases hle : 2 * d ≤ k
    · have hdec : decide (2 * (d : Int) ≤ k) = true := by simp; omega
      go_wp2
      go_loopw [9] (fun j wr' => ∃ n : Nat, j = .int .i64 n ∧ c ≤ n ∧ n ≤ 2 * c ∧ Row wr' w.heap.size f ∧ irrTo f p d (n - c) ∧ Below w.heap.size w wr') (fun j _ => (2 * c - intOf j).toNat)
      case atStart => exact ⟨c, rfl, by omega, by omega, hr, by rw [Nat.sub_self]; exact HI.out, hb⟩
      case round =>
        obtain ⟨n, rfl, hn1, hn2, hr', hi', hb'⟩ := hrel
        by_cases hlt : n < 2 * c
        · have hlt' := hr'.lt
          have c0 := hr'.cells
          have hdec2 : decide ((n : Int) < 2 * c) = true := by simp; omega
          have HN : Hid (n = p ^ d + (n - c)) := by
            show n = p ^ d + (n - c)
            rw [← HC.out]; omega
          cases hzz : zB (redN (digF n p) d p (11 - d) f)
          · have heq : ∀ w, (Op.equalIn 10000 93 (.agg (prow (redN (digF n p) d p (11 - d) f))) (.agg #[.int .i64 0, .int .i64 0, .int .i64 0, .int .i64 0, .int .i64 0, .int .i64 0, .int .i64 0, .int .i64 0, .int .i64 0, .int .i64 0, .int .i64 0])).run Tryd.prog w = .ok false w := fun w => by rw [eq51, hzz]
            go_wp2
            go_region_with (first | (go_at_call 58; refine (polyOf_any n p _ (by omega) hp hp').mono ?_; rintro e w1 ⟨rfl, hb1⟩; have c1 := (hr'.drew.below hb1).cells) | (go_at_call 93; refine (modulo_any f (digF n p) d p _ hp hp' hd (hd6 hle) hf (digF_in n p (by omega))).mono ?_; rintro e w2 ⟨rfl, hb2⟩))
            all_goals
              go_wp2
              go_roundw
              case rel =>
                have hirr : irrTo f p d (n + 1 - c) := by
                  rw [show n + 1 - c = (n - c) + 1 by omega]
                  refine irrTo_succ hi' ?_
                  rw [← HN.out, ← zB_iff, hzz]
                  decide
                have hbb := (hb'.drew.trans (hb1.mono hb'.size)).trans (hb2.mono ((hb'.drew.trans (hb1.mono hb'.size)).size))
                have hrr := (hr'.drew.below hb1).below hb2
                first
                  | exact ⟨n + 1, by go_num, by omega, by omega, hrr, hirr, hbb⟩
                  | ((repeat apply Exists.intro); exact ⟨⟨n + 1, by go_num, by omega, by omega, hrr, hirr, hbb⟩, rfl⟩)
              case measure => simp [intOf]; omega
          · have heq : ∀ w, (Op.equalIn 10000 93 (.agg (prow (redN (digF n p) d p (11 - d) f))) (.agg #[.int .i64 0, .int .i64 0, .int .i64 0, .int .i64 0, .int .i64 0, .int .i64 0, .int .i64 0, .int .i64 0, .int .i64 0, .int .i64 0, .int .i64 0])).run Tryd.prog w = .ok true w := fun w => by rw [eq51, hzz]
            go_wp2
            go_region_with (first | (go_at_call 58; refine (polyOf_any n p _ (by omega) hp hp').mono ?_; rintro e w1 ⟨rfl, hb1⟩; have c1 := (hr'.drew.below hb1).cells) | (go_at_call 93; refine (modulo_any f (digF n p) d p _ hp hp' hd (hd6 hle) hf (digF_in n p (by omega))).mono ?_; rintro e w2 ⟨rfl, hb2⟩))
            all_goals
              go_wp2
              go_ret
              refine ⟨false, ret_bool rfl, ⟨fun h => absurd h Bool.false_ne_true, fun h => absurd h (irr_not (b := n - c) hd hle (by rw [← HC.out]; omega) ?_)⟩, (hb'.drew.trans (hb1.mono hb'.size)).trans (hb2.mono ((hb'.drew.trans (hb1.mono hb'.size)).size))⟩
              rw [← HN.out, ← zB_iff, hzz]
        · have hpc : p * c ≤ 64 * 64 := Nat.mul_le_mul hp' hc
          have hpc' : (c : Int) * p ≤ 64 * 64 := by
            have : ((p * c : Nat) : Int) ≤ 64 * 64 := by omega
            rw [Int.natCast_mul, Int.mul_comm] at this
            exact this
          have hpc0 : 0 ≤ (c : Int) * p := Int.mul_nonneg (by omega) (by omega)
          go_wp2
          go_roundw
          case rel =>
            refine ⟨d + 1, c * p, by go_num, by simp, by omega, ?_, hr', ?_, hb', by omega⟩
            · show c * p = p ^ (d + 1)
              rw [Nat.pow_succ, ← HC.out]
            · refine irrTo_next ?_
              rw [← HC.out, show c = n - c by omega]
              exact hi'
          case measure => simp [intOf]; omega
    · go_wp2
      go_ret
      exact ⟨true, ret_bool rfl, ⟨fun _ => irr_done HI.out (by omega), fun _ => rfl⟩, hb⟩

end Go.Proofs.YtjfjdidibglhaabDoor.Fd
