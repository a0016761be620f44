/- The walk of sizes. -/
import Derived.Test.YtioggiapkkeloaaDoorK5
import Derived.Test.YtioggiapkkeloaaDoorBoS
namespace Go.Proofs.YtioggiapkkeloaaDoor
open Go.RowKit

set_option maxHeartbeats 4000000 in
theorem sizes_any (z g : Nat) (S : Nat → Int) (w : World) (hz : z ≤ 256) (hO : OwV 3 (fun b => .int .i64 b) w g z S) (hS : ∀ a, a < z → (S a).natAbs ≤ z) :
    Calls Tryd.prog 33 #[.slice (some ⟨g, 0, none⟩) z z] w fun e w' => e = .returned (.tuple #[.int .i64 (lsT z S z : Int), .int .i64 (grT S z : Int)]) ∧ w' = w := by
  have HL : Hid (∀ k, lsT z S (k + 1) = min (lsT z S k) (S k).natAbs) := fun _ => rfl
  have HG : Hid (∀ k, grT S (k + 1) = max (grT S k) (S k).natAbs) := fun _ => rfl
  have HL0 : Hid (lsT z S 0 = z) := rfl
  have HG0 : Hid (grT S 0 = 0) := rfl
  have HLl : Hid (∀ k, lsT z S k ≤ z) := lsT_le z S
  have HGl : Hid (∀ k, k ≤ z → grT S k ≤ z) := fun k hk => grT_le hS hk
  have HS : Hid (∀ a, a < z → (S a).natAbs ≤ z) := hS
  generalize lsT z S = L at *
  generalize grT S = M at *
  clear hS
  go_enter Tryd.func33, Tryd.ntmps33
  go_wp2
  go_loopw [4, 5, 13] (fun lv mv iv wr => ∃ (j a b : Nat), iv = .int .i64 (j : Int) ∧ j ≤ z ∧ lv = .int .i64 (a : Int) ∧ mv = .int .i64 (b : Int) ∧ Hid (a = L j) ∧ Hid (b = M j) ∧ wr = w) (fun _ _ iv _ => (z - intOf iv).toNat)
  case atStart => exact ⟨0, z, 0, rfl, by omega, rfl, rfl, HL0.out.symm, HG0.out.symm, rfl⟩
  case round =>
    obtain ⟨j, a, b, rfl, hj, rfl, rfl, Ha, Hb, hw⟩ := hrel
    replace hw := hw.symm
    subst hw
    by_cases hlt : j < z
    · have hdj : decide ((j : Int) < (z : Int)) = true := by simp; omega
      have hji : (j : Int) < z := by omega
      have cj := hO.cell j hlt
      have hs := HS.out j hlt
      have HA : Hid (min a (S j).natAbs = L (j + 1)) := by show _ = _; rw [HL.out, ← Ha.out]
      have HB : Hid (max b (S j).natAbs = M (j + 1)) := by show _ = _; rw [HG.out, ← Hb.out]
      have ha : a ≤ z := by rw [Ha.out]; exact HLl.out j
      have hb : b ≤ z := by rw [Hb.out]; exact HGl.out j hj
      generalize S j = x at cj hs HA HB
      clear Ha Hb
      go_wp2
      go_roundw
      case rel => exact ⟨j + 1, min a x.natAbs, max b x.natAbs, by go_num, by omega, by go_num, by go_num, HA, HB, trivial⟩
      case measure => simp [intOf]; omega
    · have hdj : decide ((j : Int) < (z : Int)) = false := by simp; omega
      obtain rfl : j = z := by omega
      obtain rfl := Ha.out
      obtain rfl := Hb.out
      go_wp2
      go_ret2
      exact ⟨rfl, rfl⟩
end Go.Proofs.YtioggiapkkeloaaDoor
