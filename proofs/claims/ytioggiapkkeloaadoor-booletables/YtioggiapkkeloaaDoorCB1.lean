/- The walks of the document's Weight, BitsOf, TableFault. -/
import Derived.Test.YtioggiapkkeloaaDoorPBase
import Derived.Test.YtioggiapkkeloaaDoorBoR
namespace Go.Proofs.YtioggiapkkeloaaDoor
open Go.RowKit

def vi (l : List Int) : List Value := l.map (Value.int .i64)
set_option maxHeartbeats 4000000 in
theorem Weight_any (x : Nat) (w : World) (hx : x < 999 - 743) : Calls Tryd.prog 32 #[.int .i64 (x : Int)] w fun e w' => e = .returned (.int .i64 (wt x : Int)) ∧ w' = w := by
  obtain ⟨z, Hz⟩ : ∃ z, Hid (wt x = z) := ⟨_, rfl⟩
  rw [Hz.out]
  go_enter Tryd.func32, Tryd.ntmps32
  go_wp2
  go_loopw [0, 3] (fun xv nv wr => ∃ (y n : Nat), xv = .int .i64 (y : Int) ∧ nv = .int .i64 (n : Int) ∧ y ≤ x ∧ n ≤ 8 ∧ Hid (n + wt y = z) ∧ wr = w) (fun xv _ _ => (intOf xv).toNat)
  case atStart => exact ⟨x, 0, rfl, rfl, by omega, by omega, (by rw [Hz.out]; omega : 0 + wt x = z), rfl⟩
  case round =>
    obtain ⟨y, n, rfl, rfl, hy, hn, HN, hw⟩ := hrel
    replace hw := hw.symm
    subst hw
    by_cases h0 : 0 < y
    · have d0 : decide (0 < (y : Int)) = true := by simp; omega
      have d0' : decide (0 < y) = true := by simp; omega
      have hh := wt_half (x := y) (by omega)
      have hl := wt_le y
      obtain ⟨q, Hq⟩ : ∃ q, Hid (y / 2 = q) := ⟨_, rfl⟩
      obtain ⟨r, Hr⟩ : ∃ r, Hid (y % 2 = r) := ⟨_, rfl⟩
      have q1 : (y : Int) / 2 = (q : Int) := by rw [← Hq.out]; simp
      have q2 : (y : Int).tdiv 2 = (q : Int) := by rw [Int.tdiv_eq_ediv_of_nonneg (by omega)]; exact q1
      have r1 : (y : Int) % 2 = (r : Int) := by rw [← Hr.out]; simp
      have r2 : (y : Int).tmod 2 = (r : Int) := by rw [Int.tmod_eq_emod_of_nonneg (by omega)]; exact r1
      rw [Hq.out, Hr.out] at hh
      have HN2 : Hid (n + r + wt q = z) := by show _ = _; have := HN.out; omega
      have hzl : z ≤ 8 := by rw [← Hz.out]; exact wt_le _
      have hnr : n + r ≤ 8 := by have := HN2.out; omega
      have hqy : q < y := by rw [← Hq.out]; omega
      clear hh hl HN
      go_wp2
      go_roundw
      case rel => exact ⟨q, n + r, by go_num, by go_num, by omega, hnr, HN2, trivial⟩
      case measure => simp [intOf]; omega
    · have d0 : decide (0 < (y : Int)) = false := by simp; omega
      have d0' : decide (0 < y) = false := by simp; omega
      obtain rfl : n = z := by have := HN.out; rw [show y = 0 by omega, wt_nil] at this; omega
      go_wp2
      go_ret
      exact ⟨rfl, rfl⟩
/-- What BitsOf tells. -/
def btZ (l : Nat) : Int := if btN l = 9 then -1 else (btN l : Int)
theorem btZ_is {l n : Nat} (hn : n ≤ 8) (h : 2 ^ n = l) : btZ l = n := by
  have e : btN l = n := by rw [← h]; exact bt_pow ⟨n, by omega⟩
  unfold btZ
  rw [e, if_neg (by omega)]
theorem btZ_no {l : Nat} (h : ∀ n, n ≤ 8 → 2 ^ n ≠ l) : btZ l = -1 := by unfold btZ; rw [bt_none h, if_pos rfl]
set_option maxHeartbeats 4000000 in
theorem BitsOf_any (l : Nat) (w : World) (_hl : l ≤ maxLen) : Calls Tryd.prog 14 #[.int .i64 (l : Int)] w fun e w' => e = .returned (.int .i64 (btZ l)) ∧ w' = w := by
  have HY : Hid (∀ n : Nat, n ≤ 8 → 2 ^ n = l → btZ l = n) := fun n hn h => btZ_is hn h
  have HNo : Hid ((∀ n : Nat, n ≤ 8 → 2 ^ n ≠ l) → btZ l = -1) := btZ_no
  obtain ⟨z, hz⟩ : ∃ z, btZ l = z := ⟨_, rfl⟩
  rw [hz] at HY HNo ⊢
  clear hz
  go_enter Tryd.func14, Tryd.ntmps14
  go_wp2
  go_loopw [3, 4] (fun pv nv wr => ∃ (n p : Nat), pv = .int .i64 (p : Int) ∧ nv = .int .i64 (n : Int) ∧ n ≤ 9 ∧ Hid (p = 2 ^ n) ∧ Hid (∀ k, k < n → 2 ^ k ≠ l) ∧ wr = w) (fun _ nv _ => (9 - intOf nv).toNat)
  case atStart => exact ⟨0, 1, rfl, rfl, by omega, rfl, (fun k h => by omega : ∀ k, k < 0 → 2 ^ k ≠ l), rfl⟩
  case round =>
    obtain ⟨n, p, rfl, rfl, hn, HP, HK, hw⟩ := hrel
    replace hw := hw.symm
    subst hw
    by_cases hlt : n ≤ 8
    · have dn : decide ((n : Int) ≤ 8) = true := by simp; omega
      have dn' : decide (n ≤ 8) = true := by simp; omega
      have hp : p ≤ 999 := by rw [HP.out]; exact Nat.le_trans (pow256 hlt).2 (by decide)
      by_cases e : l = p
      · have eq : ((l : Int) == (p : Int)) = true := by simp [e]
        have hzn := HY.out n hlt (by rw [e]; exact HP.out.symm)
        subst hzn
        clear e
        go_wp2
        go_ret
        exact ⟨rfl, rfl⟩
      · have eq : ((l : Int) == (p : Int)) = false := by simp; omega
        have HP2 : Hid (2 * p = 2 ^ (n + 1)) := by show _ = _; rw [HP.out, Nat.pow_succ, Nat.mul_comm]
        have HK2 : Hid (∀ k, k < n + 1 → 2 ^ k ≠ l) := fun k hk => by
          by_cases ek : k = n
          · subst ek; rw [← HP.out]; exact fun x => e x.symm
          · exact HK.out k (by omega)
        clear e HK
        go_wp2
        go_roundw
        case rel => exact ⟨n + 1, 2 * p, by go_num, by go_num, by omega, HP2, HK2, trivial⟩
        case measure => simp [intOf]; omega
    · have dn : decide ((n : Int) ≤ 8) = false := by simp; omega
      have dn' : decide (n ≤ 8) = false := by simp; omega
      have hzn := HNo.out fun k hk => HK.out k (by omega)
      subst hzn
      go_wp2
      go_ret
      exact ⟨rfl, rfl⟩
set_option maxHeartbeats 8000000 in
theorem TableFault_any (l : List Int) (v : Value) (w : World) (hv : Sl w v l) (hl : l.length ≤ maxLen) : Calls Tryd.prog 9 #[v] w fun e w' => e = .returned (.int .i64 (tF l : Int)) ∧ w' = w := by
  have C := BitsOf_any l.length w hl
  by_cases h9 : btN l.length = 9
  · rw [tF_shape h9]
    have e : btZ l.length = -1 := by unfold btZ; rw [if_pos h9]
    rw [e] at C
    obtain ⟨a, cap, rfl, _⟩ := hv
    clear h9 e
    generalize l.length = q at *
    go_enter Tryd.func9, Tryd.ntmps9
    go_wp2_with (go_at_call 14; refine C.mono ?_; rintro e w1 ⟨rfl, hw⟩; replace hw := hw.symm; subst hw; clear C)
    go_ret
    exact ⟨rfl, rfl⟩
  · have h8 : btN l.length ≤ 8 := by have := bt_le l.length; omega
    have e : btZ l.length = (btN l.length : Int) := by unfold btZ; rw [if_neg h9]
    rw [e] at C
    have hlen := bt_some h8
    have hpos : 0 < l.length := by rw [hlen]; exact Nat.two_pow_pos _
    have h256 : l.length ≤ 999 := by rw [hlen]; exact Nat.le_trans (pow256 h8).2 (by decide)
    obtain ⟨a, off, cap, rfl, ha, hcell⟩ := hv.form rfl hpos
    have HR : Hid (∀ j, j < l.length → ¬ (l.getD j 0 = 0 ∨ l.getD j 0 = 1) → tF l = 1) := fun j hj hb => tF_range h8 hj hb
    have HG : Hid ((∀ j, j < l.length → l.getD j 0 = 0 ∨ l.getD j 0 = 1) → tF l = 0) := fun h => tF_good ⟨h8, hlen, fun j hj => h j (by rw [hlen]; exact hj)⟩
    have HC : Hid (∀ j, j < l.length → w.cell? ⟨a, off + j, none⟩ = some (.int .i64 (l.getD j 0))) := hcell
    obtain ⟨u, hu⟩ : ∃ u, tF l = u := ⟨_, rfl⟩
    rw [hu] at HR HG ⊢
    obtain ⟨nb, Hnb⟩ : ∃ q, Hid (btN l.length = q) := ⟨_, rfl⟩
    rw [Hnb.out] at C h8
    have dneg : decide ((nb : Int) < 0) = false := by simp
    clear hu hcell hv hlen h9 e
    generalize l.length = z at *
    go_enter Tryd.func9, Tryd.ntmps9
    go_wp2_with (go_at_call 14; refine C.mono ?_; rintro e w1 ⟨rfl, hw⟩; replace hw := hw.symm; subst hw; clear C)
    go_loopw [4] (fun iv wr => ∃ (j : Nat), iv = .int .i64 (j : Int) ∧ j ≤ z ∧ Hid (∀ q, q < j → l.getD q 0 = 0 ∨ l.getD q 0 = 1) ∧ wr = w) (fun iv _ => (z - intOf iv).toNat)
    case atStart => exact ⟨0, rfl, by omega, (fun q h => by omega : ∀ q, q < 0 → _), rfl⟩
    case round =>
      obtain ⟨j, rfl, hj, HJ, hw⟩ := hrel
      replace hw := hw.symm
      subst hw
      by_cases hlt : j < z
      · have hdj : decide ((j : Int) < (z : Int)) = true := by simp; omega
        have hji : (j : Int) < z := by omega
        have hj0 : (0 : Int) ≤ (j : Int) := by omega
        have hcj := HC.out j hlt
        obtain ⟨x, hx⟩ : ∃ x, x = l.getD j 0 := ⟨_, rfl⟩
        rw [← hx] at hcj
        have HJ2 : Hid ((x = 0 ∨ x = 1) → ∀ q, q < j + 1 → l.getD q 0 = 0 ∨ l.getD q 0 = 1) := fun h q hq => by
          by_cases e : q = j
          · subst e; rw [← hx]; exact h
          · exact HJ.out q (by omega)
        have HN : Hid (¬ (x = 0 ∨ x = 1) → u = 1) := fun h => HR.out j hlt (by rw [← hx]; exact h)
        clear hx HJ
        by_cases x0 : x = 0
        · have HJ3 : Hid (∀ q, q < j + 1 → l.getD q 0 = 0 ∨ l.getD q 0 = 1) := HJ2.out (.inl x0)
          have hxn : (x != 0) = false := by simp [x0]
          clear x0 HN HJ2
          go_wp2
          go_roundw
          case rel => exact ⟨j + 1, by go_num, by omega, HJ3, trivial⟩
          case measure => simp [intOf]; omega
        · have hxn : (x != 0) = true := by simp [x0]
          by_cases x1 : x = 1
          · have HJ3 : Hid (∀ q, q < j + 1 → l.getD q 0 = 0 ∨ l.getD q 0 = 1) := HJ2.out (.inr x1)
            have hxm : (x != 1) = false := by simp [x1]
            clear x1 x0 HN HJ2
            go_wp2
            go_roundw
            case rel => exact ⟨j + 1, by go_num, by omega, HJ3, trivial⟩
            case measure => simp [intOf]; omega
          · have hxm : (x != 1) = true := by simp [x1]
            obtain rfl : u = 1 := HN.out (fun h => by rcases h with h | h; exact x0 h; exact x1 h)
            clear x1 x0 HN HJ2
            go_wp2
            go_ret
            exact ⟨rfl, rfl⟩
      · have hdj : decide ((j : Int) < (z : Int)) = false := by simp; omega
        obtain rfl : u = 0 := HG.out fun q hq => HJ.out q (by omega)
        go_wp2
        go_ret
        exact ⟨rfl, rfl⟩
end Go.Proofs.YtioggiapkkeloaaDoor
