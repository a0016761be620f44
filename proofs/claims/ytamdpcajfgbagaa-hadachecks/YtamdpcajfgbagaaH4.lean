/- The walks of sign, OnesCount, sylvester, Sylvester, Excess, hadaFact. -/
import Derived.Test.YtamdpcajfgbagaaH3
import Derived.Test.YtamdpcajfgbagaaE1
namespace Go.Proofs.Ytamdpcajfgbagaa
open Go.RowKit

def sgn (b : Bool) : Int := if b then 1 else -1
theorem sign_any (b : Bool) (w : World) : Calls Try.prog 39 #[.bool b] w fun e w' => e = .returned (.int .i64 (sgn b)) ∧ w' = w := by
  cases b
  · go_enter Try.func39, Try.ntmps39
    go_wp2
    go_ret
    exact ⟨rfl, rfl⟩
  · go_enter Try.func39, Try.ntmps39
    go_wp2
    go_ret
    exact ⟨rfl, rfl⟩
theorem OnesCount_any (x : Nat) (hx : x < 2 ^ 64) (w : World) :
    Calls Try.prog 40 #[.int .u64 (x : Int)] w fun e w' => e = .returned (.int .i64 (pc x : Int)) ∧ w' = w := by
  go_enter Try.func40, Try.ntmps40
  go_wp2_with (go_at_call 42; refine (ones_any x hx w).mono ?_; rintro e w' ⟨rfl, rfl⟩)
  go_ret
  exact ⟨rfl, rfl⟩
theorem and16 : ∀ r c : Fin 16, bits .and .i64 ((r.val : Nat) : Int) ((c.val : Nat) : Int) = ((r.val &&& c.val : Nat) : Int) ∧ r.val &&& c.val < 16 := by decide +kernel
theorem e32 : ∀ args w, (callFunc 32 args).run Try.prog w = .ok (.enter 32 args) w := enters_of Try.func32 (by kernel_rfl) rfl
set_option maxHeartbeats 1000000 in
theorem sylvester_any (r c : Nat) (w : World) (hr : r < 16) (hc : c < 16) : Calls Try.prog 32 #[.int .i64 (r : Int), .int .i64 (c : Int)] w fun e w' => e = .returned (.int .i64 (syF r c)) ∧ Below w.heap.size w w' := by
  obtain ⟨ha, hk⟩ := and16 ⟨r, hr⟩ ⟨c, hc⟩
  dsimp only at ha hk
  have hs : syF r c = sgn (pc (r &&& c) % 2 == 0) := by unfold syF sgn; simp
  rw [hs]
  obtain ⟨k, hkk⟩ : ∃ k, k = r &&& c := ⟨_, rfl⟩
  rw [← hkk] at ha hk ⊢
  have C1 := OnesCount_any k (by omega) w
  have hw : IntKind.u64.wrap (k : Int) = (k : Int) := wrapN (by omega)
  have hp := pc_le k
  obtain ⟨p, Hp⟩ : ∃ p, Hid (pc k = p) := ⟨_, rfl⟩
  rw [Hp.out] at C1 hp ⊢
  obtain ⟨m, Hm⟩ : ∃ m, Hid (p % 2 = m) := ⟨_, rfl⟩
  have m1 : (p : Int) % 2 = (m : Int) := by rw [← Hm.out]; simp
  have m2 : (p : Int).tmod 2 = (m : Int) := by rw [Int.tmod_eq_emod_of_nonneg (by omega)]; exact m1
  rw [Hm.out]
  have hb : ((m : Int) == 0) = (m == 0) := by rw [Bool.eq_iff_iff]; simp
  have hm2 : m < 2 := by rw [← Hm.out]; omega
  have C2 := sign_any (m == 0) w
  generalize (m == 0) = b at *
  clear hs hkk
  go_enter Try.func32, Try.ntmps32
  go_wp2_with (first
    | (go_at_call 40; refine C1.mono ?_; rintro e w1 ⟨rfl, h1⟩; replace h1 := h1.symm; subst h1; clear C1)
    | (go_at_call 39; refine C2.mono ?_; rintro e w2 ⟨rfl, h2⟩; replace h2 := h2.symm; subst h2; clear C2))
  go_ret
  exact ⟨rfl, Below.refl _ _⟩
end Go.Proofs.Ytamdpcajfgbagaa
