/- The walks of Number and States of the document's answer. -/
import Derived.Test.YtglomemadcdagaaR26
namespace Go.Proofs.Ytglomemadcdagaa
open Go.RowKit

set_option maxHeartbeats 1000000 in
theorem numberRef_any (p : Nat) (l : List Int) (v : Value) (w : World) (hl : Sl w v l) (hp : 2 ≤ p) (hp' : p ≤ 7) (hk : l.length ≤ 8) (hb : belB p l = true) :
    Calls Try.prog 23 #[v, .int .i64 p] w fun e w' => e = .returned (.int .i64 (numL p l)) ∧ w' = w := by
  obtain ⟨k, Hk⟩ : ∃ k : Nat, Hid (l.length = k) := ⟨_, rfl⟩
  have hk8 : k ≤ 8 := by have := Hk.out; omega
  obtain ⟨a, cap, rfl, hc⟩ := hl
  obtain ⟨f, Hf⟩ : ∃ f : Nat → Int, Hid (f = fun j => l.getD j 0) := ⟨_, rfl⟩
  have HN : Hid (numL p l = numP p f k) := by show numL p l = _; rw [Hf.out, ← Hk.out]; rfl
  have hd : digs p f := by
    intro j
    rw [Hf.out]
    show 0 ≤ l.getD j 0 ∧ l.getD j 0 < p
    by_cases h : j < l.length
    · exact belB_iff.1 hb j h
    · rw [List.getD_eq_getElem?_getD, List.getElem?_eq_none (by omega)]
      show (0 : Int) ≤ 0 ∧ (0 : Int) < p
      omega
  have HC : Hid (∀ j, j < k → ∃ b off, a = some ⟨b, off, none⟩ ∧ w.cell? ⟨b, off + j, none⟩ = some (.int .i64 (f j))) := by
    intro j hj
    obtain ⟨b, off, e, h⟩ := hc j (by have := Hk.out; omega)
    exact ⟨b, off, e, by rw [h, Hf.out]⟩
  rw [Hk.out]
  clear hc hk hb
  go_enter Try.func23, Try.ntmps23
  go_wp2
  go_loop [5, 6] (fun n i => ∃ (x y : Int), i = .int .i64 x ∧ n = .int .i64 y ∧ -1 ≤ x ∧ x < k ∧ Hid (y = numP p (fun j => f ((x + 1).toNat + j)) (k - 1 - x).toNat)) (fun _ i => (intOf i + 1).toNat)
  case atStart =>
    refine ⟨(k : Int) - 1, 0, by go_num, rfl, by omega, by omega, ?_⟩
    show 0 = numP p _ ((k : Int) - 1 - ((k : Int) - 1)).toNat
    rw [show ((k : Int) - 1 - ((k : Int) - 1)).toNat = 0 by omega]; rfl
  case round =>
    obtain ⟨x, y, rfl, rfl, hx1, hx2, HY⟩ := hrel
    have hbd := numP_bd (p := (p : Int)) (by omega) (hd.shift (x + 1).toNat) (k - 1 - x).toNat
    have hpw := pow_bd (p := (p : Int)) (k := (k - 1 - x).toNat) (by omega) (by omega) (by omega)
    rw [← HY.out] at hbd
    by_cases hlt : 0 ≤ x
    · obtain ⟨i, rfl⟩ := Int.eq_ofNat_of_zero_le hlt
      have hy0 : 0 ≤ y := hbd.1
      have hy1 : y < 5764801 := by omega
      clear hbd hpw
      obtain ⟨z, Hz⟩ : ∃ z : Int, Hid (z = f i) := ⟨_, rfl⟩
      have hz0 := hd i
      rw [← Hz.out] at hz0
      obtain ⟨b, off, rfl, hca⟩ := HC.out i (by omega)
      rw [← Hz.out] at hca
      have hm0 : 0 ≤ y * p := Int.mul_nonneg hy0 (by omega)
      have hm1 : y * p ≤ 5764801 * 7 := Int.mul_le_mul (by omega) (by omega) (by omega) (by omega)
      go_wp2
      go_round
      case rel =>
        refine ⟨(i : Int) - 1, y * p + z, by go_num, by go_num, by omega, by omega, ?_⟩
        show y * p + z = numP p (fun j => f (((i : Int) - 1 + 1).toNat + j)) ((k : Int) - 1 - ((i : Int) - 1)).toNat
        rw [show ((k : Int) - 1 - ((i : Int) - 1)).toNat = ((k : Int) - 1 - (i : Int)).toNat + 1 by omega, numP_front, show ((i : Int) - 1 + 1).toNat = i by omega, Nat.add_zero, ← Hz.out]
        rw [numP_congr (g := fun j => f (((i : Int) + 1).toNat + j)) (fun j _ => by rw [show i + (j + 1) = ((i : Int) + 1).toNat + j by omega]), ← HY.out, Int.mul_comm]
        omega
      case measure => simp [intOf]
    · go_wp2
      go_ret
      obtain rfl : x = -1 := by omega
      refine ⟨ret_int ?_, rfl⟩
      rw [HN.out, HY.out, show ((k : Int) - 1 - (-1)).toNat = k by omega]
      exact numP_congr (fun j _ => by rw [show ((-1 : Int) + 1).toNat + j = j by omega])


/-- p to the power of k, or 0 above most. -/
def statZ (P k most : Nat) : Nat := if P ^ k ≤ most then P ^ k else 0
theorem pow_grow {P : Nat} (hp : 2 ≤ P) {i k : Nat} (h : i ≤ k) : P ^ i ≤ P ^ k := Nat.pow_le_pow_right (by omega) h

set_option maxHeartbeats 1000000 in
theorem states_ref (P k most : Nat) (w : World) (hp : 2 ≤ P) (hp' : P ≤ 7) (hm : 1 ≤ most) (hm' : most ≤ 20000) (hk : k ≤ 9223372036854775807) :
    Calls Try.prog 22 #[.int .i64 P, .int .i64 k, .int .i64 most] w fun e w' => e = .returned (.int .i64 (statZ P k most : Nat)) ∧ w' = w := by
  go_enter Try.func22, Try.ntmps22
  go_wp2
  go_loop [7, 8] (fun n i => ∃ (j y : Nat), i = .int .i64 j ∧ n = .int .i64 y ∧ j ≤ k ∧ y ≤ most ∧ Hid (y = P ^ j)) (fun _ i => (k - intOf i).toNat)
  case atStart => exact ⟨0, 1, rfl, rfl, by omega, hm, (by show 1 = P ^ 0; simp)⟩
  case round =>
    obtain ⟨j, y, rfl, rfl, hj, hy, HY⟩ := hrel
    by_cases hlt : j < k
    · have hji : (j : Int) < k := by omega
      have h1 : (y : Int) * (P : Int) ≤ 20000 * 7 := Int.mul_le_mul (by omega) (by omega) (by omega) (by omega)
      have h0 : 0 ≤ (y : Int) * (P : Int) := Int.mul_nonneg (by omega) (by omega)
      obtain ⟨x, Hx⟩ : ∃ x : Nat, Hid (x = y * P) := ⟨_, rfl⟩
      have hx : (y : Int) * (P : Int) = (x : Int) := by rw [Hx.out, Int.natCast_mul]
      have HX : Hid (x = P ^ (j + 1)) := by show x = P ^ (j + 1); rw [Hx.out, HY.out, Nat.pow_succ]
      rw [hx] at h1 h0
      by_cases hgt : most < x
      · have hd : decide ((most : Int) < (x : Int)) = true := by simp; omega
        have HR : Hid (statZ P k most = 0) := by
          show statZ P k most = 0
          unfold statZ
          rw [if_neg]
          have h2 := pow_grow hp (show j + 1 ≤ k by omega)
          rw [← HX.out] at h2
          omega
        go_wp2
        go_ret
        exact ⟨ret_int (by rw [HR.out]; rfl), rfl⟩
      · have hd : decide ((most : Int) < (x : Int)) = false := by simp; omega
        go_wp2
        go_round
        case rel => exact ⟨j + 1, x, by go_num, rfl, by omega, by omega, HX⟩
        case measure => simp [intOf]; omega
    · go_wp2
      go_ret
      obtain rfl : j = k := by omega
      refine ⟨ret_int ?_, rfl⟩
      unfold statZ
      rw [if_pos (by rw [← HY.out]; exact hy), HY.out]

end Go.Proofs.Ytglomemadcdagaa
