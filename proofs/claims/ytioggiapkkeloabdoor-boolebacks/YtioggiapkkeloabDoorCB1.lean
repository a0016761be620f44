/- The walks of the document's Weight, BitsOf, TableFault. -/
import Derived.Test.YtioggiapkkeloabDoorPBase
import Derived.Test.YtioggiapkkeloabDoorBoR
namespace Go.Proofs.YtioggiapkkeloabDoor
open Go.RowKit

def vi (l : List Int) : List Value := l.map (Value.int .i64)
set_option maxHeartbeats 4000000 in
theorem Weight_any (x : Nat) (w : World) (hx : x < 999 - 743) : Calls Tryd.prog 13 #[.int .i64 (x : Int)] w fun e w' => e = .returned (.int .i64 (wt x : Int)) ∧ w' = w := by
  obtain ⟨z, Hz⟩ : ∃ z, Hid (wt x = z) := ⟨_, rfl⟩
  rw [Hz.out]
  go_enter Tryd.func13, Tryd.ntmps13
  go_wp2
  go_loopw [0, 3] (fun xv nv wr => ∃ (y n : Nat), xv = .int .i64 (y : Int) ∧ nv = .int .i64 (n : Int) ∧ y ≤ x ∧ n ≤ 8 ∧ Hid (n + wt y = z) ∧ wr = w) (fun xv _ _ => (intOf xv).toNat)
  case atStart => exact ⟨x, 0, rfl, rfl, by omega, by omega, (by rw [Hz.out]; omega : 0 + wt x = z), rfl⟩
  case round =>
    obtain ⟨y, n, rfl, rfl, hy, hn, HN, hw⟩ := hrel
    replace hw := hw.symm
    subst hw
    by_cases h0 : 0 < y
    · have d0 : decide (0 < (y : Int)) = true := by simp; omega
      have d0' : decide (0 < y) = true := by simp; omega
      have hh := wt_half (x := y) (by omega)
      have hl := wt_le y
      obtain ⟨q, Hq⟩ : ∃ q, Hid (y / 2 = q) := ⟨_, rfl⟩
      obtain ⟨r, Hr⟩ : ∃ r, Hid (y % 2 = r) := ⟨_, rfl⟩
      have q1 : (y : Int) / 2 = (q : Int) := by rw [← Hq.out]; simp
      have q2 : (y : Int).tdiv 2 = (q : Int) := by rw [Int.tdiv_eq_ediv_of_nonneg (by omega)]; exact q1
      have r1 : (y : Int) % 2 = (r : Int) := by rw [← Hr.out]; simp
      have r2 : (y : Int).tmod 2 = (r : Int) := by rw [Int.tmod_eq_emod_of_nonneg (by omega)]; exact r1
      rw [Hq.out, Hr.out] at hh
      have HN2 : Hid (n + r + wt q = z) := by show _ = _; have := HN.out; omega
      have hzl : z ≤ 8 := by rw [← Hz.out]; exact wt_le _
      have hnr : n + r ≤ 8 := by have := HN2.out; omega
      have hqy : q < y := by rw [← Hq.out]; omega
      clear hh hl HN
      go_wp2
      go_roundw
      case rel => exact ⟨q, n + r, by go_num, by go_num, by omega, hnr, HN2, trivial⟩
      case measure => simp [intOf]; omega
    · have d0 : decide (0 < (y : Int)) = false := by simp; omega
      have d0' : decide (0 < y) = false := by simp; omega
      obtain rfl : n = z := by have := HN.out; rw [show y = 0 by omega, wt_nil] at this; omega
      go_wp2
      go_ret
      exact ⟨rfl, rfl⟩
/-- What BitsOf tells. -/
def btZ (l : Nat) : Int := if btN l = 9 then -1 else (btN l : Int)
theorem btZ_is {l n : Nat} (hn : n ≤ 8) (h : 2 ^ n = l) : btZ l = n := by
  have e : btN l = n := by rw [← h]; exact bt_pow ⟨n, by omega⟩
  unfold btZ
  rw [e, if_neg (by omega)]
theorem btZ_no {l : Nat} (h : ∀ n, n ≤ 8 → 2 ^ n ≠ l) : btZ l = -1 := by unfold btZ; rw [bt_none h, if_pos rfl]
set_option maxHeartbeats 4000000 in
theorem BitsOf_any (l : Nat) (w : World) (_hl : l ≤ maxLen) : Calls Tryd.prog 12 #[.int .i64 (l : Int)] w fun e w' => e = .returned (.int .i64 (btZ l)) ∧ w' = w := by
  have HY : Hid (∀ n : Nat, n ≤ 8 → 2 ^ n = l → btZ l = n) := fun n hn h => btZ_is hn h
  have HNo : Hid ((∀ n : Nat, n ≤ 8 → 2 ^ n ≠ l) → btZ l = -1) := btZ_no
  obtain ⟨z, hz⟩ : ∃ z, btZ l = z := ⟨_, rfl⟩
  rw [hz] at HY HNo ⊢
  clear hz
  go_enter Tryd.func12, Tryd.ntmps12
  go_wp2
  go_loopw [3, 4] (fun pv nv wr => ∃ (n p : Nat), pv = .int .i64 (p : Int) ∧ nv = .int .i64 (n : Int) ∧ n ≤ 9 ∧ Hid (p = 2 ^ n) ∧ Hid (∀ k, k < n → 2 ^ k ≠ l) ∧ wr = w) (fun _ nv _ => (9 - intOf nv).toNat)
  case atStart => exact ⟨0, 1, rfl, rfl, by omega, rfl, (fun k h => by omega : ∀ k, k < 0 → 2 ^ k ≠ l), rfl⟩
  case round =>
    obtain ⟨n, p, rfl, rfl, hn, HP, HK, hw⟩ := hrel
    replace hw := hw.symm
    subst hw
    by_cases hlt : n ≤ 8
    · have dn : decide ((n : Int) ≤ 8) = true := by simp; omega
      have dn' : decide (n ≤ 8) = true := by simp; omega
      have hp : p ≤ 999 := by rw [HP.out]; exact Nat.le_trans (pow256 hlt).2 (by decide)
      by_cases e : l = p
      · have eq : ((l : Int) == (p : Int)) = true := by simp [e]
        have hzn := HY.out n hlt (by rw [e]; exact HP.out.symm)
        subst hzn
        clear e
        go_wp2
        go_ret
        exact ⟨rfl, rfl⟩
      · have eq : ((l : Int) == (p : Int)) = false := by simp; omega
        have HP2 : Hid (2 * p = 2 ^ (n + 1)) := by show _ = _; rw [HP.out, Nat.pow_succ, Nat.mul_comm]
        have HK2 : Hid (∀ k, k < n + 1 → 2 ^ k ≠ l) := fun k hk => by
          by_cases ek : k = n
          · subst ek; rw [← HP.out]; exact fun x => e x.symm
          · exact HK.out k (by omega)
        clear e HK
        go_wp2
        go_roundw
        case rel => exact ⟨n + 1, 2 * p, by go_num, by go_num, by omega, HP2, HK2, trivial⟩
        case measure => simp [intOf]; omega
    · have dn : decide ((n : Int) ≤ 8) = false := by simp; omega
      have dn' : decide (n ≤ 8) = false := by simp; omega
      have hzn := HNo.out fun k hk => HK.out k (by omega)
      subst hzn
      go_wp2
      go_ret
      exact ⟨rfl, rfl⟩
end Go.Proofs.YtioggiapkkeloabDoor
