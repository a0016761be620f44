/- The walk of what Idempotent asks. -/
import Derived.Test.YtncnaaohihmjnaaQ4
namespace Go.Proofs.Ytncnaaohihmjnaa
open Go.RowKit

theorem e36i : ∀ args w, (callFunc 36 args).run Try.prog w = .ok (.enter 36 args) w := enters_of Try.func36 (by kernel_rfl) rfl
set_option maxHeartbeats 4000000 in
theorem idem1_any (n i x : Nat) (t : Nat → Nat → Nat) (v : Value) (w W : World) (hT : Teller v n n t w) (hB : Below w.heap.size w W) (hi : Bx W i v) (hx : x < n) :
    Calls Try.prog 36 #[.int .i64 (x : Int), .pointer (some ⟨i, 0, none⟩)] W fun e w' => e = .returned (.bool (t x x == x)) ∧ Below W.heap.size W w' := by
  obtain ⟨g, lb, rfl, eg, hT⟩ := hT
  have C1 := hT W hB x x hx hx
  have h1 := hi.2
  rw [← nat_beq (t x x)]
  obtain ⟨X, hX⟩ : ∃ X : Int, X = ((t x x : Nat) : Int) := ⟨_, rfl⟩
  rw [← hX] at C1 ⊢
  obtain ⟨p, hp⟩ : ∃ p, (X == (x : Int)) = p := ⟨_, rfl⟩
  rw [hp]
  clear hT hi hX
  go_enter Try.func36, Try.ntmps36
  go_wp2_with (go_at_fn g; refine C1.mono ?_; rintro e w1 ⟨rfl, b1⟩)
  go_ret
  exact ⟨rfl, b1⟩
end Go.Proofs.Ytncnaaohihmjnaa
