/- The walks of unit, commutes, associates and of what Idempotent asks. -/
import Derived.Test.YtncnaaohihmjnaaDoorQ3
namespace Go.Proofs.YtncnaaohihmjnaaDoor
open Go.RowKit

theorem size_one (w : World) (o : Obj) : (w.alloc o).heap.size = w.heap.size + 1 := by simp
theorem bx_two (w : World) (x y : Value) (t u : TypeId) : Bx ((w.alloc (.cells #[x] t)).alloc (.cells #[y] u)) w.heap.size x ∧ Bx ((w.alloc (.cells #[x] t)).alloc (.cells #[y] u)) (w.heap.size + 1) y := by
  refine ⟨(bx_new w x t).below (balloc _ _), ?_⟩
  have := bx_new (w.alloc (.cells #[x] t)) y u
  rw [size_one] at this
  exact this
theorem two_below (w : World) (o o' : Obj) : Below w.heap.size w ((w.alloc o).alloc o') := Below.next (balloc _ _) (balloc _ _)

theorem e51 : ∀ args w, (callFunc 32 args).run Tryd.prog w = .ok (.enter 32 args) w := enters_of Tryd.func32 (by kernel_rfl) rfl
set_option maxHeartbeats 4000000 in
theorem unit2_any (n i j x y : Nat) (t : Nat → Nat → Nat) (v : Value) (w W : World) (hT : Teller v n n t w) (hB : Below w.heap.size w W) (hi : Bx W i v) (hj : Bx W j (.int .i64 (x : Int))) (hx : x < n) (hy : y < n) :
    Calls Tryd.prog 32 #[.int .i64 (y : Int), .pointer (some ⟨i, 0, none⟩), .pointer (some ⟨j, 0, none⟩)] W fun e w' => e = .returned (.bool (t x y == y && t y x == y)) ∧ Below W.heap.size W w' := by
  obtain ⟨g, lb, rfl, eg, hT⟩ := hT
  have C1 := hT W hB x y hx hy
  have C2 := fun W' (b' : Below W.heap.size W W') => hT W' (Below.next hB b') y x hy hx
  have h1 := hi.2
  have h2 := hj.2
  have HI : Hid (Bx W i (.func (.func g) #[] lb) ∧ Bx W j (.int .i64 (x : Int))) := ⟨hi, hj⟩
  rw [← nat_beq (t x y), ← nat_beq (t y x)]
  obtain ⟨X, hX⟩ : ∃ X : Int, X = ((t x y : Nat) : Int) := ⟨_, rfl⟩
  rw [← hX] at C1 ⊢
  obtain ⟨Y, hY⟩ : ∃ Y : Int, Y = ((t y x : Nat) : Int) := ⟨_, rfl⟩
  rw [← hY] at C2 ⊢
  obtain ⟨p, hp⟩ : ∃ p, (X == (y : Int)) = p := ⟨_, rfl⟩
  obtain ⟨q, hq⟩ : ∃ q, (Y == (y : Int)) = q := ⟨_, rfl⟩
  rw [hp, hq]
  clear hT hi hj hX hY
  cases p with
  | false =>
    go_enter Tryd.func32, Tryd.ntmps32
    go_wp2_with (go_at_fn g; refine C1.mono ?_; rintro e w1 ⟨rfl, b1⟩)
    go_ret
    exact ⟨rfl, b1⟩
  | true =>
    go_enter Tryd.func32, Tryd.ntmps32
    go_wp2_with (first
      | (go_at_fn g; refine C1.mono ?_; rintro e w1 ⟨rfl, b1⟩; have k1 := (HI.out.1.below b1).2; have k2 := (HI.out.2.below b1).2; clear C1)
      | (go_at_fn g; refine (C2 _ b1).mono ?_; rintro e w2 ⟨rfl, b2⟩))
    go_ret
    exact ⟨rfl, Below.next b1 b2⟩
theorem e50 : ∀ args w, (callFunc 30 args).run Tryd.prog w = .ok (.enter 30 args) w := enters_of Tryd.func30 (by kernel_rfl) rfl
set_option maxHeartbeats 4000000 in
theorem unit1_any (n i j x : Nat) (t : Nat → Nat → Nat) (q : Bool) (v : Value) (w : World) (hn : n ≤ 8) (hT : Teller v n n t w) (hi : Bx w i (.int .i64 (n : Int))) (hj : Bx w j v) (hx : x < n) (hq : unitB n t x = q) :
    Calls Tryd.prog 30 #[.int .i64 (x : Int), .pointer (some ⟨i, 0, none⟩), .pointer (some ⟨j, 0, none⟩)] w fun e w' => e = .returned (.bool q) ∧ Below w.heap.size w w' := by
  have C : ∀ u, Calls Tryd.prog 31 #[.int .i64 (n : Int), .func (.func 32) #[] #[.pointer (some ⟨j, 0, none⟩), .pointer (some ⟨w.heap.size, 0, none⟩)]] (w.alloc (.cells #[.int .i64 (x : Int)] u)) fun e w' => e = .returned (.bool q) ∧ Below (w.alloc (.cells #[.int .i64 (x : Int)] u)).heap.size (w.alloc (.cells #[.int .i64 (x : Int)] u)) w' := fun u =>
    always_any n _ q _ _ hn ⟨_, _, rfl, e51, fun W hB y hy => unit2_any n j w.heap.size x y t v _ W (hT.below (balloc w _)) hB ((hj.below (balloc w _)).below hB) ((bx_new w _ u).below hB) hx hy⟩ hq
  have hi2 := fun u => (hi.below (balloc w (.cells #[.int .i64 (x : Int)] u))).2
  clear hT hq
  go_enter Tryd.func30, Tryd.ntmps30
  go_wp2_with (go_at_call 31; refine (C _).mono ?_; rintro e w3 ⟨rfl, b3⟩)
  go_ret
  exact ⟨rfl, Below.next (balloc w _) b3⟩
set_option maxHeartbeats 4000000 in
theorem unit_any (n : Nat) (t : Nat → Nat → Nat) (o : Option Nat) (v : Value) (w : World) (hn : n ≤ 8) (hT : Teller v n n t w) (ho : fstN n (unitB n t) = o) :
    Calls Tryd.prog 22 #[.int .i64 (n : Int), v] w fun e w' => e = .returned (.tuple #[.int .i64 ((o.getD 0 : Nat) : Int), .bool o.isSome]) ∧ Below w.heap.size w w' := by
  have C : ∀ a b, Calls Tryd.prog 14 #[.int .i64 (n : Int), .func (.func 30) #[] #[.pointer (some ⟨w.heap.size, 0, none⟩), .pointer (some ⟨w.heap.size + 1, 0, none⟩)]] ((w.alloc (.cells #[.int .i64 (n : Int)] a)).alloc (.cells #[v] b)) fun e w' => e = .returned (.tuple #[.int .i64 ((o.getD 0 : Nat) : Int), .bool o.isSome]) ∧ Below ((w.alloc (.cells #[.int .i64 (n : Int)] a)).alloc (.cells #[v] b)).heap.size ((w.alloc (.cells #[.int .i64 (n : Int)] a)).alloc (.cells #[v] b)) w' := fun a b =>
    first_any n (unitB n t) o _ _ hn ⟨_, _, rfl, e50, fun W hB x hx => unit1_any n w.heap.size (w.heap.size + 1) x t _ v W hn (hT.below (Below.next (two_below w _ _) hB)) ((bx_two w _ v a b).1.below hB) ((bx_two w _ v a b).2.below hB) hx rfl⟩ ho
  have hz := fun a b => (bx_two w (.int .i64 (n : Int)) v a b).1.2
  obtain ⟨g, lb, rfl⟩ := hT.form
  obtain ⟨O, hO⟩ : ∃ O : Int, O = ((o.getD 0 : Nat) : Int) := ⟨_, rfl⟩
  rw [← hO] at C ⊢
  generalize o.isSome = q at *
  clear hT ho hO
  go_enter Tryd.func22, Tryd.ntmps22
  go_wp2_with (go_at_call 14; refine (C _ _).mono ?_; rintro e w3 ⟨rfl, b3⟩)
  go_ret2
  exact ⟨rfl, Below.next (two_below w _ _) b3⟩
theorem e55 : ∀ args w, (callFunc 34 args).run Tryd.prog w = .ok (.enter 34 args) w := enters_of Tryd.func34 (by kernel_rfl) rfl
set_option maxHeartbeats 4000000 in
theorem associates1_any (n i j x y : Nat) (t : Nat → Nat → Nat) (q : Bool) (v : Value) (w : World) (hn : n ≤ 8) (ht : ∀ a b, a < n → b < n → t a b < n) (hT : Teller v n n t w) (hi : Bx w i (.int .i64 (n : Int))) (hj : Bx w j v) (hx : x < n) (hy : y < n) (hq : (allN n fun z => t (t x y) z == t x (t y z)) = q) :
    Calls Tryd.prog 34 #[.int .i64 (x : Int), .int .i64 (y : Int), .pointer (some ⟨i, 0, none⟩), .pointer (some ⟨j, 0, none⟩)] w fun e w' => e = .returned (.bool q) ∧ Below w.heap.size w w' := by
  have C : ∀ a b, Calls Tryd.prog 31 #[.int .i64 (n : Int), .func (.func 35) #[] #[.pointer (some ⟨j, 0, none⟩), .pointer (some ⟨w.heap.size, 0, none⟩), .pointer (some ⟨w.heap.size + 1, 0, none⟩)]] ((w.alloc (.cells #[.int .i64 (x : Int)] a)).alloc (.cells #[.int .i64 (y : Int)] b)) fun e w' => e = .returned (.bool q) ∧ Below ((w.alloc (.cells #[.int .i64 (x : Int)] a)).alloc (.cells #[.int .i64 (y : Int)] b)).heap.size ((w.alloc (.cells #[.int .i64 (x : Int)] a)).alloc (.cells #[.int .i64 (y : Int)] b)) w' := fun a b =>
    always_any n _ q _ _ hn ⟨_, _, rfl, e56, fun W hB z hz => associates2_any n j w.heap.size (w.heap.size + 1) x y z t v _ W ht (hT.below (two_below w _ _)) hB ((hj.below (two_below w _ _)).below hB) ((bx_two w _ _ a b).1.below hB) ((bx_two w _ _ a b).2.below hB) hx hy hz⟩ hq
  have hz := fun a b => (hi.below (two_below w (.cells #[.int .i64 (x : Int)] a) (.cells #[.int .i64 (y : Int)] b))).2
  clear hT hq ht
  go_enter Tryd.func34, Tryd.ntmps34
  go_wp2_with (go_at_call 31; refine (C _ _).mono ?_; rintro e w3 ⟨rfl, b3⟩)
  go_ret
  exact ⟨rfl, Below.next (two_below w _ _) b3⟩
set_option maxHeartbeats 4000000 in
theorem associates_any (n : Nat) (t : Nat → Nat → Nat) (q : Bool) (v : Value) (w : World) (hn : n ≤ 8) (ht : ∀ a b, a < n → b < n → t a b < n) (hT : Teller v n n t w) (hq : assB n t = q) :
    Calls Tryd.prog 23 #[.int .i64 (n : Int), v] w fun e w' => e = .returned (.bool q) ∧ Below w.heap.size w w' := by
  have C : ∀ a b, Calls Tryd.prog 33 #[.int .i64 (n : Int), .func (.func 34) #[] #[.pointer (some ⟨w.heap.size, 0, none⟩), .pointer (some ⟨w.heap.size + 1, 0, none⟩)]] ((w.alloc (.cells #[.int .i64 (n : Int)] a)).alloc (.cells #[v] b)) fun e w' => e = .returned (.bool q) ∧ Below ((w.alloc (.cells #[.int .i64 (n : Int)] a)).alloc (.cells #[v] b)).heap.size ((w.alloc (.cells #[.int .i64 (n : Int)] a)).alloc (.cells #[v] b)) w' := fun a b =>
    alwaysOfTwo_any n (fun x y => allN n fun z => t (t x y) z == t x (t y z)) q _ _ hn ⟨_, _, rfl, e55, fun W hB x y hx hy => associates1_any n w.heap.size (w.heap.size + 1) x y t _ v W hn ht (hT.below (Below.next (two_below w _ _) hB)) ((bx_two w _ v a b).1.below hB) ((bx_two w _ v a b).2.below hB) hx hy rfl⟩ hq
  have hz := fun a b => (bx_two w (.int .i64 (n : Int)) v a b).1.2
  obtain ⟨g, lb, rfl⟩ := hT.form
  clear hT hq ht
  go_enter Tryd.func23, Tryd.ntmps23
  go_wp2_with (go_at_call 33; refine (C _ _).mono ?_; rintro e w3 ⟨rfl, b3⟩)
  go_ret
  exact ⟨rfl, Below.next (two_below w _ _) b3⟩
end Go.Proofs.YtncnaaohihmjnaaDoor
