/- The walks of isOne, addLow, sign, itself, plusAndMinus, products, spectrum. -/
import Derived.Test.YtioggiapkkeloaaDoorK3
import Derived.Test.YtioggiapkkeloaaDoorK4
namespace Go.Proofs.YtioggiapkkeloaaDoor
open Go.RowKit

theorem e35 : ∀ args w, (callFunc 35 args).run Tryd.prog w = .ok (.enter 35 args) w := enters_of Tryd.func35 (by kernel_rfl) rfl
theorem e36 : ∀ args w, (callFunc 36 args).run Tryd.prog w = .ok (.enter 36 args) w := enters_of Tryd.func36 (by kernel_rfl) rfl
theorem e40 : ∀ args w, (callFunc 40 args).run Tryd.prog w = .ok (.enter 40 args) w := enters_of Tryd.func40 (by kernel_rfl) rfl
theorem e41 : ∀ args w, (callFunc 41 args).run Tryd.prog w = .ok (.enter 41 args) w := enters_of Tryd.func41 (by kernel_rfl) rfl
theorem e42 : ∀ args w, (callFunc 42 args).run Tryd.prog w = .ok (.enter 42 args) w := enters_of Tryd.func42 (by kernel_rfl) rfl
theorem itself_any (x : Int) (w : World) : Calls Tryd.prog 35 #[.int .i64 x] w fun e w' => e = .returned (.int .i64 x) ∧ w' = w := by
  go_enter Tryd.func35, Tryd.ntmps35
  go_wp2
  go_ret
  exact ⟨rfl, rfl⟩
theorem isOne_any (x : Int) (w : World) : Calls Tryd.prog 40 #[.int .i64 x] w fun e w' => e = .returned (.bool (x == 1)) ∧ w' = w := by
  go_enter Tryd.func40, Tryd.ntmps40
  go_wp2
  go_ret
  exact ⟨rfl, rfl⟩
theorem sign_any (x : Int) (w : World) (h0 : 0 ≤ x) (h1 : x ≤ 1) : Calls Tryd.prog 42 #[.int .i64 x] w fun e w' => e = .returned (.int .i64 (1 - 2 * x)) ∧ w' = w := by
  go_enter Tryd.func42, Tryd.ntmps42
  go_wp2
  go_ret
  exact ⟨rfl, rfl⟩
theorem addLow_any (a b : Bool) (w : World) : Calls Tryd.prog 41 #[.bool a, .bool b] w fun e w' => e = .returned (.tuple #[.bool a, .bool (a != b)]) ∧ w' = w := by
  go_enter Tryd.func41, Tryd.ntmps41
  go_wp2
  go_ret2
  exact ⟨rfl, rfl⟩
theorem plus_any (a b : Int) (w : World) (h1 : -99999 ≤ a) (h2 : a ≤ 99999) (h3 : -99999 ≤ b) (h4 : b ≤ 99999) : Calls Tryd.prog 36 #[.int .i64 a, .int .i64 b] w fun e w' => e = .returned (.tuple #[.int .i64 (a + b), .int .i64 (a - b)]) ∧ w' = w := by
  go_enter Tryd.func36, Tryd.ntmps36
  go_wp2
  go_ret2
  exact ⟨rfl, rfl⟩
theorem pow8 {k : Nat} (h : k < 8) : (2 : Int) ^ k ≤ 128 := by
  have := Nat.pow_le_pow_right (n := 2) (by decide) (show k ≤ 7 by omega)
  have e : ((2 ^ k : Nat) : Int) = 2 ^ k := by simp
  omega
/-- Numbers of a bound, folded. -/
theorem foldP_any (n gb : Nat) (c : Int) (l : List Int) (F : Nat → Int) (v : Value) (w : World) (hn : n ≤ 8) (hl : l.length = 2 ^ n) (hv : Sl w v l) (hc0 : 0 ≤ c) (hc : c ≤ 256) (hF : ∀ x, -c ≤ F x ∧ F x ≤ c)
    (eb : ∀ args w, (callFunc gb args).run Tryd.prog w = .ok (.enter gb args) w)
    (cb : ∀ x W, x < 2 ^ n → Calls Tryd.prog gb #[.int .i64 (tf l x)] W fun e w' => e = .returned (.int .i64 (F x)) ∧ w' = W) :
    Calls Tryd.prog 34 #[v, .func (.func gb) #[] #[], .func (.func 36) #[] #[]] w fun e w' => (e = .returned (.slice (some ⟨w.heap.size, 0, none⟩) (2 ^ n) (2 ^ n)) ∧ OwV 3 (fun b => .int .i64 b) w' w.heap.size (2 ^ n) (Wh n F)) ∧ Below w.heap.size w w' := by
  refine (foldI_any n gb 36 l F (· + ·) (· - ·) v w hn hl hv eb e36 cb fun k x W hk => ?_).mono fun e w' h => ⟨⟨h.1.1, h.1.2.congr fun j hj => fS_Wh n F j hj⟩, h.2⟩
  have hp := pow8 (show k < 8 by omega)
  have hq : (2 : Int) ^ k * c ≤ 128 * 256 := Int.mul_le_mul hp hc hc0 (by decide)
  have a1 := fS_abs (F := F) (c := c) k hF x
  have a2 := fS_abs (F := F) (c := c) k hF (x + 2 ^ k)
  exact plus_any _ _ W (by omega) (by omega) (by omega) (by omega)
theorem spectrum_any (n : Nat) (l : List Int) (v : Value) (w : World) (hv : Sl w v l) (G : GoodT n l) :
    Calls Tryd.prog 31 #[v] w fun e w' => (e = .returned (.slice (some ⟨w.heap.size, 0, none⟩) (2 ^ n) (2 ^ n)) ∧ OwV 3 (fun b => .int .i64 b) w' w.heap.size (2 ^ n) (spF n l)) ∧ Below w.heap.size w w' := by
  have hb : ∀ x, 0 ≤ tf l x ∧ tf l x ≤ 1 := fun x => by
    by_cases hx : x < 2 ^ n
    · have := G.bit x hx
      unfold tf
      omega
    · have : tf l x = 0 := by
        unfold tf
        rw [List.getD_eq_getElem?_getD, List.getElem?_eq_none (by rw [G.len]; omega)]; rfl
      omega
  have C := foldP_any n 42 1 l (tg (tf l)) v w G.le G.len hv (by decide) (by decide) (fun x => by have := hb x; unfold tg; omega) e42 (fun x W hx => sign_any (tf l x) W (hb x).1 (hb x).2)
  change Calls _ _ _ _ fun e w' => (_ ∧ OwV 3 _ w' w.heap.size (2 ^ n) (spF n l)) ∧ _ at C
  obtain ⟨z, Hz⟩ : ∃ z : Nat, Hid (2 ^ n = z) := ⟨_, rfl⟩
  rw [Hz.out] at C ⊢
  generalize spF n l = S at *
  clear hb
  go_enter Tryd.func31, Tryd.ntmps31
  go_wp2_with (go_at_call 34; refine C.mono ?_; rintro e w1 ⟨⟨rfl, ho⟩, hB⟩; clear C)
  go_ret
  exact ⟨⟨rfl, ho⟩, hB⟩
theorem products_any (n : Nat) (l : List Int) (v : Value) (w : World) (hv : Sl w v l) (G : GoodT n l) :
    Calls Tryd.prog 29 #[v] w fun e w' => (e = .returned (.slice (some ⟨w.heap.size, 0, none⟩) (2 ^ n) (2 ^ n)) ∧ OwV 4 (fun b => .bool b) w' w.heap.size (2 ^ n) (fun u => anF n (tf l) u == 1)) ∧ Below w.heap.size w w' := by
  have C := (foldB_any n 40 41 l (fun x => tf l x == 1) (fun a _ => a) (fun a b => a != b) v w G.le G.len hv e40 e41 (fun x W _ => isOne_any (tf l x) W) (fun k x W _ => addLow_any _ _ W)).mono
    (R' := fun e w' => (e = .returned (.slice (some ⟨w.heap.size, 0, none⟩) (2 ^ n) (2 ^ n)) ∧ OwV 4 (fun b => .bool b) w' w.heap.size (2 ^ n) (fun u => anF n (tf l) u == 1)) ∧ Below w.heap.size w w') fun e w' h => ⟨⟨h.1.1, h.1.2.congr fun u hu => by
    have e := fS_anF G hu
    rw [← e]
    cases fS (fun a _ => a) (fun a b => a != b) (fun x => tf l x == 1) n u <;> rfl⟩, h.2⟩
  obtain ⟨z, Hz⟩ : ∃ z : Nat, Hid (2 ^ n = z) := ⟨_, rfl⟩
  rw [Hz.out] at C ⊢
  generalize anF n (tf l) = S at *
  go_enter Tryd.func29, Tryd.ntmps29
  go_wp2_with (go_at_call 39; refine C.mono ?_; rintro e w1 ⟨⟨rfl, ho⟩, hB⟩; clear C)
  go_ret
  exact ⟨⟨rfl, ho⟩, hB⟩
end Go.Proofs.YtioggiapkkeloaaDoor
