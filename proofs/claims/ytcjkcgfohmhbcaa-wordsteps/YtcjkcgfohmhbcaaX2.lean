/- The landed Gray and Place, walked. -/
import Derived.Test.YtcjkcgfohmhbcaaWA
import Derived.Test.YtcjkcgfohmhbcaaWdG
import Derived.Test.YtcjkcgfohmhbcaaX1
namespace Go.Proofs.Ytcjkcgfohmhbcaa
open Go.RowKit

theorem xorG {a b : Nat} (ha : a < 4096) (hb : b < 4096) : bits .xor .i64 (a : Int) (b : Int) = ((a ^^^ b : Nat) : Int) := by
  have hx : a ^^^ b < 2 ^ 12 := Nat.xor_lt_two_pow (by omega) (by omega)
  have h1 : (BitVec.ofInt (8 * 8) (a : Int)).toNat = a := by
    rw [BitVec.ofInt_natCast, BitVec.toNat_ofNat]; exact Nat.mod_eq_of_lt (by omega)
  have h2 : (BitVec.ofInt (8 * 8) (b : Int)).toNat = b := by
    rw [BitVec.ofInt_natCast, BitVec.toNat_ofNat]; exact Nat.mod_eq_of_lt (by omega)
  show IntKind.i64.wrap ((BitVec.ofInt (8 * 8) (a : Int) ^^^ BitVec.ofInt (8 * 8) (b : Int)).toNat : Int) = _
  rw [BitVec.toNat_xor, h1, h2, IntKind.wrap_i64]
  omega
set_option maxRecDepth 100000 in
set_option maxHeartbeats 4000000 in
theorem place_any (x : Nat) (w : World) (hx : x < 2 ^ 12) :
    Calls Try.prog 29 #[.int .i64 (x : Int)] w fun e w' => e = .returned (.int .i64 ((plF 12 x : Nat) : Int)) ∧ w' = w := by
  obtain ⟨z, Hz⟩ : ∃ z, Hid (plF 12 x = z) := ⟨_, rfl⟩
  have H0 : Hid (0 ^^^ plF 12 x = z) := by show _ = _; rw [Nat.zero_xor]; exact Hz.out
  rw [Hz.out]
  clear Hz
  go_enter Try.func29, Try.ntmps29
  go_wp2
  go_loopw [0, 3] (fun xv iv wr => ∃ (f y i : Nat), xv = .int .i64 (y : Int) ∧ iv = .int .i64 (i : Int) ∧ f ≤ 12 ∧ y < 2 ^ f ∧ y < 4096 ∧ i < 4096 ∧ Hid (i ^^^ plF f y = z) ∧ wr = w) (fun xv _ _ => (intOf xv).toNat)
  case atStart => exact ⟨12, x, 0, rfl, rfl, by omega, hx, hx, by omega, H0, rfl⟩
  case round =>
    obtain ⟨f, y, i, rfl, rfl, hf, hy, hy2, hi, HI, e1⟩ := hrel
    subst e1
    by_cases h0 : 0 < y
    · have hd : decide (0 < y) = true := by simpa using h0
      obtain ⟨g, rfl⟩ : ∃ g, f = g + 1 := by
        cases f with
        | zero => rw [Nat.pow_zero] at hy; omega
        | succ g => exact ⟨g, rfl⟩
      obtain ⟨u, Hu⟩ : ∃ u, Hid (i ^^^ y = u) := ⟨_, rfl⟩
      have eu : bits .xor .i64 (i : Int) (y : Int) = (u : Int) := by rw [xorG hi hy2, Hu.out]
      have hu : u < 4096 := by rw [← Hu.out]; exact Nat.xor_lt_two_pow (n := 12) hi hy2
      have HI2 : Hid (u ^^^ plF g (y / 2) = z) := by
        show _ = _
        rw [← Hu.out, Nat.xor_assoc]
        exact HI.out
      go_wp2
      go_roundw
      case rel => exact ⟨g, y / 2, u, by rw [Int.natCast_ediv]; rfl, rfl, by omega, by rw [Nat.pow_succ] at hy; omega, by omega, hu, HI2, trivial⟩
      case measure => simp [intOf]; omega
    · have hd : decide (0 < y) = false := by simpa using h0
      have HZ : Hid (i = z) := by
        show _ = _
        rw [← HI.out, show y = 0 by omega, plF_zero, Nat.xor_zero]
      go_wp2
      go_ret
      exact ⟨by rw [HZ.out]; rfl, rfl⟩
theorem pl_is {n : Nat} {x : Nat} (hn : n ≤ 12) (hx : x < 2 ^ n) : (grL n).idxOf x = plF 12 x := by
  rw [gr_at hn, place_is hx, show 12 = n + (12 - n) by omega, plF_more hx]
set_option maxRecDepth 100000 in
set_option maxHeartbeats 4000000 in
theorem Place_any : FPlace := by
  intro nn xx w
  by_cases h1 : nn < 0
  · have hg0 : grE nn = 1 := by unfold grE; rw [if_pos (by omega)]
    have e1 : plE nn xx = 1 := by unfold plE; rw [if_neg (fun h => by rw [hg0] at h; exact absurd h.1 (by decide))]
    have e2 : plZ nn xx = 0 := by unfold plZ; rw [e1]; rfl
    have hd1 : decide (nn < 0) = true := by simpa using h1
    rw [e1, e2]
    clear h1
    go_enter Try.func12, Try.ntmps12
    go_wp2
    go_ret2
    exact ⟨rfl, Below.refl _ _⟩
  have hd1 : decide (nn < 0) = false := by simpa using h1
  by_cases h2 : 12 < nn
  · have hg0 : grE nn = 1 := by unfold grE; rw [if_pos (by omega)]
    have e1 : plE nn xx = 1 := by unfold plE; rw [if_neg (fun h => by rw [hg0] at h; exact absurd h.1 (by decide))]
    have e2 : plZ nn xx = 0 := by unfold plZ; rw [e1]; rfl
    have hd2 : decide (12 < nn) = true := by simpa using h2
    rw [e1, e2]
    clear h1 h2
    go_enter Try.func12, Try.ntmps12
    go_wp2
    go_ret2
    exact ⟨rfl, Below.refl _ _⟩
  have hd2 : decide (12 < nn) = false := by simpa using h2
  obtain ⟨n, rfl⟩ : ∃ n : Nat, nn = n := ⟨nn.toNat, by omega⟩
  have hn : n ≤ 12 := by omega
  have hg : grE n = 0 := by unfold grE; rw [if_neg (by omega)]
  have hgz : grZ n = grL n := by unfold grZ; rw [if_neg (by omega), Int.toNat_natCast]
  have hgl : ((grZ n).length : Int) = ((2 ^ n : Nat) : Int) := by rw [hgz, grL_len]
  by_cases h3 : xx < 0
  · have e1 : plE n xx = 1 := by unfold plE; rw [if_neg (fun h => by omega)]
    have e2 : plZ n xx = 0 := by unfold plZ; rw [e1]; rfl
    have hd3 : decide (xx < 0) = true := by simpa using h3
    rw [e1, e2]
    clear h1 h2 h3
    go_enter Try.func12, Try.ntmps12
    go_wp2
    go_ret2
    exact ⟨rfl, Below.refl _ _⟩
  have hd3 : decide (xx < 0) = false := by simpa using h3
  obtain ⟨x, rfl⟩ : ∃ x : Nat, xx = x := ⟨xx.toNat, by omega⟩
  obtain ⟨A, HA⟩ : ∃ A, Hid ((2 ^ n : Nat) = A) := ⟨_, rfl⟩
  have eA : (1 : Int) * 2 ^ n = (A : Int) := by rw [Int.one_mul, ← HA.out]; simp
  have hA : A ≤ 4096 := by rw [← HA.out]; exact (Nat.pow_le_pow_right (by decide) hn : 2 ^ n ≤ 2 ^ 12)
  have hAw : IntKind.i64.wrap (A : Int) = (A : Int) := IntWalk.i64_in _ (by omega)
  rw [HA.out] at hgl
  by_cases h4 : A ≤ x
  · have e1 : plE n x = 1 := by unfold plE; rw [if_neg (fun h => by omega)]
    have e2 : plZ n x = 0 := by unfold plZ; rw [e1]; rfl
    have hd4 : decide (A ≤ x) = true := by simpa using h4
    rw [e1, e2]
    clear h1 h2 h3
    go_enter Try.func12, Try.ntmps12
    go_wp2
    go_ret2
    exact ⟨rfl, Below.refl _ _⟩
  · have e1 : plE n x = 0 := by unfold plE; rw [if_pos ⟨hg, by omega, by omega⟩]
    have e2 : plZ n x = plF 12 x := by unfold plZ; rw [if_pos e1, hgz, Int.toNat_natCast, pl_is hn (by rw [HA.out]; omega)]
    have C := place_any x w (by omega)
    have hd4 : decide (A ≤ x) = false := by simpa using h4
    rw [e1, e2]
    clear h1 h2 h3
    go_enter Try.func12, Try.ntmps12
    go_wp2_with (go_at_call 29; refine C.mono ?_; rintro e w' ⟨rfl, rfl⟩; clear C)
    go_ret2
    exact ⟨rfl, Below.refl _ _⟩
end Go.Proofs.Ytcjkcgfohmhbcaa
