/- Singer's sets; the walks of directions and traceless. -/
import Derived.Test.YtgdkfbgehbdkjabDoorW10
import Derived.Test.YtgdkfbgehbdkjabDoorW26
import Derived.Test.YtgdkfbgehbdkjabDoorW28
import Derived.Test.YtgdkfbgehbdkjabDoorS5
namespace Go.Proofs.YtgdkfbgehbdkjabDoor
open Go.RowKit

/-- 1 + p + p p + .. -/
def rep (P : Nat) : Nat → Nat
  | 0 => 0
  | n + 1 => rep P n * P + 1
theorem rep_pow {P : Nat} (hP : 1 ≤ P) : ∀ n, (P - 1) * rep P n + 1 = P ^ n
  | 0 => by simp [rep]
  | n + 1 => by
    have h := rep_pow hP n
    obtain ⟨q, hq⟩ : ∃ q, P = q + 1 := ⟨P - 1, by omega⟩
    rw [rep, Nat.pow_succ, ← h, hq, Nat.add_sub_cancel, Nat.mul_add, Nat.mul_one, Nat.add_mul, Nat.one_mul, ← Nat.mul_assoc]
    omega
theorem rep_div {P n : Nat} (hP : 2 ≤ P) : (P ^ n - 1) / (P - 1) = rep P n := by
  have h := rep_pow (P := P) (by omega) n
  rw [show P ^ n - 1 = (P - 1) * rep P n by omega]
  exact Nat.mul_div_cancel_left _ (by omega)
theorem rep_le {P n : Nat} (hP : 2 ≤ P) (h : P ^ n ≤ 64) : rep P n ≤ 63 := by
  have h1 := rep_pow (P := P) (by omega) n
  have h2 : 1 * rep P n ≤ (P - 1) * rep P n := Nat.mul_le_mul_right _ (by omega)
  omega
theorem rep_mono {P i n : Nat} (hP : 1 ≤ P) (h : i ≤ n) : rep P i ≤ rep P n := by
  induction n with
  | zero => obtain rfl : i = 0 := by omega
            exact Nat.le_refl _
  | succ n ih =>
    by_cases e : i = n + 1
    · rw [e]; exact Nat.le_refl _
    · refine Nat.le_trans (ih (by omega)) ?_
      rw [rep]
      have := Nat.mul_le_mul_left (rep P n) hP
      omega
/-- The numbers to whose powers the root has no trace. -/
def sgL (P K : Nat) (m : Nat → Int) (R v : Nat) : List Nat := (List.range v).filter fun i => Fd.trQ P K m K 0 (Fd.powQ P K m R i) == 0
theorem sg_good {P K R v : Nat} {m : Nat → Int} (h1 : 1 ≤ v) (h : v ≤ 60) : GoodS v (sgL P K m R v) := ⟨h1, h, List.pairwise_lt_range.sublist List.filter_sublist, fun _ hx => List.mem_range.1 (List.mem_filter.1 hx).1⟩
theorem good_root {P K R : Nat} {l : List Int} (hG : Fd.GoodF P K l) (h : Fd.RootIs P K (Fd.monL l) R) : R < P ^ K := (Fd.root_pos (Fd.good_ord hG) h).2.1
theorem RootG (P K : Nat) (l : List Int) (v : Value) (w : World) (hT : Fd.Tab w) (hl : Sl w v l) (hG : Fd.GoodF P K l) :
    Calls Tryd.prog 38 #[.agg #[.int .i64 (P : Int), .int .i64 (K : Int), v]] w fun e w' => ∃ R : Nat, e = .returned (.tuple #[.int .i64 (R : Int), .int .i64 0]) ∧ Fd.RootIs P K (Fd.monL l) R ∧ Below w.heap.size w w' := by
  refine (Fd.Root_any (P : Int) K l v w hT hl (by rw [hG.len]; have := hG.le6; unfold maxLen; omega)).mono ?_
  rintro e w' ⟨r, z, rfl, hF, _, h0, hb⟩
  obtain rfl := hF.one hG.fault
  obtain ⟨R, rfl, hR⟩ := h0.out rfl
  rw [Int.toNat_natCast, Int.toNat_natCast] at hR
  exact ⟨R, rfl, hR, hb⟩
set_option maxRecDepth 100000 in
set_option maxHeartbeats 4000000 in
theorem directions_any (P K : Nat) (v : Value) (w : World) (hP : 2 ≤ P) (hP' : P ≤ 61) (hK : K ≤ 6) (h64 : P ^ K ≤ 64) (hv : ∃ a n c, v = .slice a n c) :
    Calls Tryd.prog 17 #[.agg #[.int .i64 (P : Int), .int .i64 (K : Int), v]] w fun e w' => e = .returned (.int .i64 (rep P K : Int)) ∧ Below w.heap.size w w' := by
  obtain ⟨a, n, c, rfl⟩ := hv
  have HM : Hid (∀ i, i ≤ K → rep P i ≤ 63) := fun i hi => Nat.le_trans (rep_mono (by omega) hi) (rep_le hP h64)
  have HU : Hid (∀ i, rep P (i + 1) = rep P i * P + 1) := fun _ => rfl
  have H0 : Hid (rep P 0 = 0) := rfl
  have hF := Fd.FB.made w (P : Int) (K : Int) (.slice a n c)
  obtain ⟨f0, f1, _⟩ := hF.cells
  have hb := balloc w (.cells #[.int .i64 (P : Int), .int .i64 (K : Int), .slice a n c] 24)
  have HBB : Hid (Below w.heap.size w (w.alloc (.cells #[.int .i64 (P : Int), .int .i64 (K : Int), .slice a n c] 24))) := hb
  obtain ⟨r, Hr⟩ : ∃ r : Nat → Nat, Hid (∀ i, rep P i = r i) := ⟨fun i => rep P i, fun _ => rfl⟩
  have HM2 : Hid (∀ i, i ≤ K → r i ≤ 63) := fun i hi => by rw [← Hr.out]; exact HM.out i hi
  have HU2 : Hid (∀ i, r (i + 1) = r i * P + 1) := fun i => by rw [← Hr.out, ← Hr.out]; exact HU.out i
  have H02 : Hid (r 0 = 0) := by show _ = _; rw [← Hr.out]; exact H0.out
  rw [Hr.out]
  clear HM HU H0 Hr h64 hb hF
  go_enter Tryd.func17, Tryd.ntmps17
  go_wp2
  go_loopw [3, 6] (fun ov iv wr => ∃ i : Nat, iv = .int .i64 (i : Int) ∧ i ≤ K ∧ ov = .int .i64 (r i : Int) ∧ wr = w.alloc (.cells #[.int .i64 (P : Int), .int .i64 (K : Int), .slice a n c] 24)) (fun _ iv _ => (K - intOf iv).toNat)
  case atStart => exact ⟨0, rfl, by omega, by rw [H02.out]; rfl, rfl⟩
  case round =>
    obtain ⟨i, rfl, hi, rfl, rfl⟩ := hrel
    by_cases hlt : i < K
    · have hii : (i : Int) < K := by omega
      have hdec : decide ((i : Int) < K) = true := by simp; omega
      have h1 := HM2.out (i + 1) (by omega)
      have h2 := HM2.out i hi
      have hU := HU2.out i
      obtain ⟨x, Hx⟩ : ∃ x, Hid (r i = x) := ⟨_, rfl⟩
      obtain ⟨y, Hy⟩ : ∃ y, Hid (r (i + 1) = y) := ⟨_, rfl⟩
      rw [Hx.out] at hU h2 ⊢
      rw [Hy.out] at hU h1
      obtain ⟨m, hm⟩ : ∃ m, x * P = m := ⟨_, rfl⟩
      have hmi : (x : Int) * (P : Int) = (m : Int) := by rw [← hm]; simp
      rw [hm] at hU
      have hmb : m ≤ 63 := by omega
      have HYY : Hid ((m : Int) + 1 = (y : Int)) := by show _ = _; omega
      clear hm hU HM2 HU2 H02
      go_wp2
      go_roundw
      case rel => exact ⟨i + 1, by go_num, by omega, by rw [Hy.out, ← HYY.out], by first | rfl | trivial⟩
      case measure => simp [intOf]; omega
    · have hdec : decide ((i : Int) < K) = false := by simp; omega
      obtain rfl : i = K := by omega
      go_wp2
      go_ret
      exact ⟨rfl, HBB.out⟩

end Go.Proofs.YtgdkfbgehbdkjabDoor
