/- The walks of isOne, addLow, sign, itself, plusAndMinus, products, spectrum. -/
import Derived.Test.YtioggiapkkeloabDoorK3
namespace Go.Proofs.YtioggiapkkeloabDoor
open Go.RowKit

theorem e35 : ∀ args w, (callFunc 10 args).run Tryd.prog w = .ok (.enter 10 args) w := enters_of Tryd.func10 (by kernel_rfl) rfl
theorem e36 : ∀ args w, (callFunc 11 args).run Tryd.prog w = .ok (.enter 11 args) w := enters_of Tryd.func11 (by kernel_rfl) rfl
theorem itself_any (x : Int) (w : World) : Calls Tryd.prog 10 #[.int .i64 x] w fun e w' => e = .returned (.int .i64 x) ∧ w' = w := by
  go_enter Tryd.func10, Tryd.ntmps10
  go_wp2
  go_ret
  exact ⟨rfl, rfl⟩
theorem plus_any (a b : Int) (w : World) (h1 : -99999 ≤ a) (h2 : a ≤ 99999) (h3 : -99999 ≤ b) (h4 : b ≤ 99999) : Calls Tryd.prog 11 #[.int .i64 a, .int .i64 b] w fun e w' => e = .returned (.tuple #[.int .i64 (a + b), .int .i64 (a - b)]) ∧ w' = w := by
  go_enter Tryd.func11, Tryd.ntmps11
  go_wp2
  go_ret2
  exact ⟨rfl, rfl⟩
theorem pow8 {k : Nat} (h : k < 8) : (2 : Int) ^ k ≤ 128 := by
  have := Nat.pow_le_pow_right (n := 2) (by decide) (show k ≤ 7 by omega)
  have e : ((2 ^ k : Nat) : Int) = 2 ^ k := by simp
  omega
/-- Numbers of a bound, folded. -/
theorem foldP_any (n gb : Nat) (c : Int) (l : List Int) (F : Nat → Int) (v : Value) (w : World) (hn : n ≤ 8) (hl : l.length = 2 ^ n) (hv : Sl w v l) (hc0 : 0 ≤ c) (hc : c ≤ 256) (hF : ∀ x, -c ≤ F x ∧ F x ≤ c)
    (eb : ∀ args w, (callFunc gb args).run Tryd.prog w = .ok (.enter gb args) w)
    (cb : ∀ x W, x < 2 ^ n → Calls Tryd.prog gb #[.int .i64 (tf l x)] W fun e w' => e = .returned (.int .i64 (F x)) ∧ w' = W) :
    Calls Tryd.prog 9 #[v, .func (.func gb) #[] #[], .func (.func 11) #[] #[]] w fun e w' => (e = .returned (.slice (some ⟨w.heap.size, 0, none⟩) (2 ^ n) (2 ^ n)) ∧ OwV 3 (fun b => .int .i64 b) w' w.heap.size (2 ^ n) (Wh n F)) ∧ Below w.heap.size w w' := by
  refine (foldI_any n gb 11 l F (· + ·) (· - ·) v w hn hl hv eb e36 cb fun k x W hk => ?_).mono fun e w' h => ⟨⟨h.1.1, h.1.2.congr fun j hj => fS_Wh n F j hj⟩, h.2⟩
  have hp := pow8 (show k < 8 by omega)
  have hq : (2 : Int) ^ k * c ≤ 128 * 256 := Int.mul_le_mul hp hc hc0 (by decide)
  have a1 := fS_abs (F := F) (c := c) k hF x
  have a2 := fS_abs (F := F) (c := c) k hF (x + 2 ^ k)
  exact plus_any _ _ W (by omega) (by omega) (by omega) (by omega)
end Go.Proofs.YtioggiapkkeloabDoor
