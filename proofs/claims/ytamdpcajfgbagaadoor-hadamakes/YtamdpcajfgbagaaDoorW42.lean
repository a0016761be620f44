/- The walk of irreducible. -/
import Derived.Test.YtamdpcajfgbagaaDoorW41
import Derived.Test.YtamdpcajfgbagaaDoorW56
import Derived.Deep.RegionWith
import Derived.ChangeKeysEq
namespace Go.Proofs.YtamdpcajfgbagaaDoor.Fd
open Go.RowKit

set_option maxRecDepth 100000 in
theorem part_prow (f : Nat → Int) (j : Nat) (h : j < 11) (w : World) : (part 3 (prow f) (j * Tryd.prog.cellsOf 3)).run Tryd.prog w = .ok (.int .i64 (f j)) w := by
  have : j = 0 ∨ j = 1 ∨ j = 2 ∨ j = 3 ∨ j = 4 ∨ j = 5 ∨ j = 6 ∨ j = 7 ∨ j = 8 ∨ j = 9 ∨ j = 10 := by omega
  rcases this with rfl | rfl | rfl | rfl | rfl | rfl | rfl | rfl | rfl | rfl | rfl <;> (change _ = _; kernel_rfl)
set_option maxRecDepth 100000 in
theorem eqItems_prow (f g : Nat → Int) (w : World) : ∀ js : List Nat, (∀ j ∈ js, j < 11) → (Op.eqItems 9999 3 (Tryd.prog.cellsOf 3) (prow f) (prow g) js).run Tryd.prog w = .ok (js.all fun j => f j == g j) w
  | [], _ => by simp [Op.eqItems]
  | j :: js, h => by
    have hj := h j (by simp)
    have ih := eqItems_prow f g w js (fun i hi => h i (by simp [hi]))
    simp only [Op.eqItems, Sem.run_bind, part_prow f j hj, part_prow g j hj, Result.andThen_ok, run_equalIn_int w 9998 3 .i64 .i64 (f j) (g j) und3]
    cases he : (f j == g j)
    · simp [he]
    · simp [he, ih]
def zB (g : Nat → Int) : Bool := (List.range 11).all fun j => g j == 0
theorem zB_iff (g : Nat → Int) : zB g = true ↔ isZ g := by
  unfold zB isZ
  rw [List.all_eq_true]
  simp
set_option maxRecDepth 100000 in
theorem eq51 (g : Nat → Int) (w : World) : (Op.equalIn 10000 61 (.agg (prow g)) (.agg #[.int .i64 0, .int .i64 0, .int .i64 0, .int .i64 0, .int .i64 0, .int .i64 0, .int .i64 0, .int .i64 0, .int .i64 0, .int .i64 0, .int .i64 0])).run Tryd.prog w = .ok (zB g) w := by
  rw [← prow_zero]
  have hs : (Tryd.prog.info? 3).isSome = true := by kernel_rfl
  obtain ⟨i, hi⟩ := Option.isSome_iff_exists.1 hs
  rw [run_equalIn_array w 9999 (prow g) (prow fun _ => 0) und51 hi]
  exact eqItems_prow g (fun _ => 0) w (List.range 11) (fun j hj => by simpa using hj)

set_option maxRecDepth 100000 in
set_option maxHeartbeats 1000000 in
theorem irreducible_any (f : Nat → Int) (k p : Nat) (w : World) (hp : 2 ≤ p) (hp' : p ≤ 64) (hk : 1 ≤ k) (hpk : p ^ k ≤ 64) (hf : inP p f) :
    Calls Tryd.prog 37 #[.agg (prow f), .int .i64 k, .int .i64 p] w fun e w' => ∃ b : Bool, e = .returned (.bool b) ∧ (b = true ↔ irrP f k p) ∧ Below w.heap.size w w' := by
  go_enter Tryd.func37, Tryd.ntmps37
  go_wp2
  go_loopw [7, 8] (fun q i wr => ∃ d c : Nat, i = .int .i64 d ∧ q = .int .i64 c ∧ 1 ≤ d ∧ Hid (c = p ^ d) ∧ Row wr w.heap.size f ∧ irrTo f p d 0 ∧ Below w.heap.size w wr ∧ 2 * d ≤ k + 2) (fun _ i _ => (k + 2 - 2 * intOf i).toNat)
  case atStart => exact ⟨1, p, rfl, rfl, by omega, (show p = p ^ 1 by simp), Row.made w f, ⟨fun e h1 h2 => by omega, fun b hb => by omega⟩, (Below.refl _ _).alloc (Nat.le_refl _) _, by omega⟩
  case round =>
    obtain ⟨d, c, rfl, rfl, hd, HC, hr, hi, hb, h2d⟩ := hrel
    have hk6 := deg_le hp hpk
    have hd6 : 2 * d ≤ k → d ≤ 6 := fun h => by omega
    have hc : c ≤ 64 := by rw [HC.out]; exact pow_le_of hp (by omega) hpk
    have hc0 : 0 < c := by rw [HC.out]; exact Nat.pow_pos (by omega)
    have HI : Hid (irrTo f p d 0) := hi
    clear hi
    by_cases hle : 2 * d ≤ k
    · have hdec : decide (2 * (d : Int) ≤ k) = true := by simp; omega
      go_wp2
      go_loopw [9] (fun j wr' => ∃ n : Nat, j = .int .i64 n ∧ c ≤ n ∧ n ≤ 2 * c ∧ Row wr' w.heap.size f ∧ irrTo f p d (n - c) ∧ Below w.heap.size w wr') (fun j _ => (2 * c - intOf j).toNat)
      case atStart => exact ⟨c, rfl, by omega, by omega, hr, by rw [Nat.sub_self]; exact HI.out, hb⟩
      case round =>
        obtain ⟨n, rfl, hn1, hn2, hr', hi', hb'⟩ := hrel
        by_cases hlt : n < 2 * c
        · have hlt' := hr'.lt
          have c0 := hr'.cells
          have hdec2 : decide ((n : Int) < 2 * c) = true := by simp; omega
          have HN : Hid (n = p ^ d + (n - c)) := by
            show n = p ^ d + (n - c)
            rw [← HC.out]; omega
          cases hzz : zB (redN (digF n p) d p (11 - d) f)
          · have heq : ∀ w, (Op.equalIn 10000 61 (.agg (prow (redN (digF n p) d p (11 - d) f))) (.agg #[.int .i64 0, .int .i64 0, .int .i64 0, .int .i64 0, .int .i64 0, .int .i64 0, .int .i64 0, .int .i64 0, .int .i64 0, .int .i64 0, .int .i64 0])).run Tryd.prog w = .ok false w := fun w => by rw [eq51, hzz]
            go_wp2
            go_region_with (first | (go_at_call 36; refine (polyOf_any n p _ (by omega) hp hp').mono ?_; rintro e w1 ⟨rfl, hb1⟩; have c1 := (hr'.drew.below hb1).cells) | (go_at_call 43; refine (modulo_any f (digF n p) d p _ hp hp' hd (hd6 hle) hf (digF_in n p (by omega))).mono ?_; rintro e w2 ⟨rfl, hb2⟩))
            all_goals
              go_wp2
              go_roundw
              case rel =>
                have hirr : irrTo f p d (n + 1 - c) := by
                  rw [show n + 1 - c = (n - c) + 1 by omega]
                  refine irrTo_succ hi' ?_
                  rw [← HN.out, ← zB_iff, hzz]
                  decide
                have hbb := (hb'.drew.trans (hb1.mono hb'.size)).trans (hb2.mono ((hb'.drew.trans (hb1.mono hb'.size)).size))
                have hrr := (hr'.drew.below hb1).below hb2
                first
                  | exact ⟨n + 1, by go_num, by omega, by omega, hrr, hirr, hbb⟩
                  | ((repeat apply Exists.intro); exact ⟨⟨n + 1, by go_num, by omega, by omega, hrr, hirr, hbb⟩, rfl⟩)
              case measure => simp [intOf]; omega
          · have heq : ∀ w, (Op.equalIn 10000 61 (.agg (prow (redN (digF n p) d p (11 - d) f))) (.agg #[.int .i64 0, .int .i64 0, .int .i64 0, .int .i64 0, .int .i64 0, .int .i64 0, .int .i64 0, .int .i64 0, .int .i64 0, .int .i64 0, .int .i64 0])).run Tryd.prog w = .ok true w := fun w => by rw [eq51, hzz]
            go_wp2
            go_region_with (first | (go_at_call 36; refine (polyOf_any n p _ (by omega) hp hp').mono ?_; rintro e w1 ⟨rfl, hb1⟩; have c1 := (hr'.drew.below hb1).cells) | (go_at_call 43; refine (modulo_any f (digF n p) d p _ hp hp' hd (hd6 hle) hf (digF_in n p (by omega))).mono ?_; rintro e w2 ⟨rfl, hb2⟩))
            all_goals
              go_wp2
              go_ret
              refine ⟨false, ret_bool rfl, ⟨fun h => absurd h Bool.false_ne_true, fun h => absurd h (irr_not (b := n - c) hd hle (by rw [← HC.out]; omega) ?_)⟩, (hb'.drew.trans (hb1.mono hb'.size)).trans (hb2.mono ((hb'.drew.trans (hb1.mono hb'.size)).size))⟩
              rw [← HN.out, ← zB_iff, hzz]
        · have hpc : p * c ≤ 64 * 64 := Nat.mul_le_mul hp' hc
          have hpc' : (c : Int) * p ≤ 64 * 64 := by
            have : ((p * c : Nat) : Int) ≤ 64 * 64 := by omega
            rw [Int.natCast_mul, Int.mul_comm] at this
            exact this
          have hpc0 : 0 ≤ (c : Int) * p := Int.mul_nonneg (by omega) (by omega)
          go_wp2
          go_roundw
          case rel =>
            refine ⟨d + 1, c * p, by go_num, by simp, by omega, ?_, hr', ?_, hb', by omega⟩
            · show c * p = p ^ (d + 1)
              rw [Nat.pow_succ, ← HC.out]
            · refine irrTo_next ?_
              rw [← HC.out, show c = n - c by omega]
              exact hi'
          case measure => simp [intOf]; omega
    · go_wp2
      go_ret
      exact ⟨true, ret_bool rfl, ⟨fun _ => irr_done HI.out (by omega), fun _ => rfl⟩, hb⟩

end Go.Proofs.YtamdpcajfgbagaaDoor.Fd
