/- The law DifferLevels. -/
import Derived.Test.YtogdcjlgddleaaaS11
namespace Go.Proofs.Ytogdcjlgddleaaa
open Go.RowKit Go.Maps

theorem ints_same (l : List Int) (x y : Value) (w : World) (hx : Sl w x l) (hy : Sl w y l) (hl : l.length ≤ maxLen) : Calls Try.prog 13 #[x, y] w fun e w' => e = .returned (.bool true) ∧ Below w.heap.size w w' := by
  refine (ints_any l l x y w hx hy hl hl).mono ?_
  rintro e w' ⟨b, rfl, h, hb⟩
  rw [h.2 rfl]
  exact ⟨rfl, hb⟩
theorem muL_len (v : Nat) (D : List Nat) : (muL v D).length ≤ v := by rw [← mulT_all]; exact mulT_len v D v
set_option maxRecDepth 100000 in
set_option maxHeartbeats 8000000 in
theorem Levels_bad (p : Int) (b : List Int) (u : Value) (w : World) (hu : Sl w u b) (hbl : b.length ≤ maxLen) (hz : sF p b ≠ 0) :
    Calls Try.prog 3 #[.int .i64 p, u] w fun e w' => e = .returned (.bool true) ∧ Below w.heap.size w w' := by
  have hform : ∃ a c, u = .slice a b.length c := by obtain ⟨a, c, rfl, _⟩ := hu; exact ⟨a, c, rfl⟩
  have H7 : Hid (∀ W, Below w.heap.size w W → Calls Try.prog 7 #[.int .i64 p, u] W fun e w' => e = .returned (.int .i64 (sF p b : Int)) ∧ Below W.heap.size W w') := fun W h => SetFaultS_any p b u W (hu.below h) hbl
  have H8 : Hid (∀ W, Below w.heap.size w W → Calls Try.prog 8 #[.int .i64 p, u] W fun e w' => e = .returned (.int .i64 (sF p b : Int)) ∧ Below W.heap.size W w') := fun W h => CheckS_any p b u W (hu.below h) hbl
  have H9 : Hid (∀ W, Below w.heap.size w W → Calls Try.prog 9 #[.int .i64 p, u] W fun e w' => e = .returned (.tuple #[.int .i64 0, .int .i64 (sF p b : Int)]) ∧ Below W.heap.size W w') := fun W h => Level_bad' p b u W _ hz hform (H8.out W h)
  have H10 : Hid (∀ W, Below w.heap.size w W → Calls Try.prog 10 #[.int .i64 p, u] W fun e w' => e = .returned (.tuple #[.slice none 0 0, .int .i64 (sF p b : Int)]) ∧ Below W.heap.size W w') := fun W h => Mul_bad' p b u W _ hz hform (H8.out W h)
  obtain ⟨a, ca, rfl⟩ := hform
  generalize sF p b = z at *
  generalize b.length = n at *
  have hz1 : ¬ (z : Int) = 0 := by omega
  have hz2 : ((z : Int) != 0) = true := by simpa using hz
  clear hu
  go_enter Try.func3, Try.ntmps3
  go_wp2_with (first
    | (go_at_call 7; refine (H7.out _ (Below.refl _ _)).mono ?_; rintro e w1 ⟨rfl, hb⟩; clear H7; have HB1 : Hid (Below w.heap.size w w1) := hb; clear hb)
    | (go_at_call 8; refine (H8.out _ HB1.out).mono ?_; rintro e w2 ⟨rfl, hb⟩; clear H8; have HB2 : Hid (Below w.heap.size w w2) := Below.next HB1.out hb; clear hb)
    | (go_at_call 9; refine (H9.out _ HB2.out).mono ?_; rintro e w3 ⟨rfl, hb⟩; clear H9; have HB3 : Hid (Below w.heap.size w w3) := Below.next HB2.out hb; clear hb)
    | (go_at_call 10; refine (H10.out _ HB3.out).mono ?_; rintro e w4 ⟨rfl, hb⟩; clear H10; have HB4 : Hid (Below w.heap.size w w4) := Below.next HB3.out hb; clear hb)
    | go_in)
  go_ret
  exact ⟨rfl, HB4.out⟩
set_option maxRecDepth 100000 in
set_option maxHeartbeats 8000000 in
theorem Levels_ok (v : Nat) (D : List Nat) (u : Value) (w : World) (hG : GoodS v D) (hu : Sl w u (D.map Int.ofNat)) :
    Calls Try.prog 3 #[.int .i64 (v : Int), u] w fun e w' => e = .returned (.bool true) ∧ Below w.heap.size w w' := by
  have hbl : (D.map Int.ofNat).length ≤ maxLen := by unfold maxLen; rw [List.length_map]; have := hG.len; have := hG.le; omega
  have hz := sF_of hG
  have H7 : Hid (∀ W, Below w.heap.size w W → Calls Try.prog 7 #[.int .i64 (v : Int), u] W fun e w' => e = .returned (.int .i64 0) ∧ Below W.heap.size W w') := fun W h => by
    have := SetFaultS_any (v : Int) _ u W (hu.below h) hbl
    rw [hz] at this
    exact this
  have H8 : Hid (∀ W, Below w.heap.size w W → Calls Try.prog 8 #[.int .i64 (v : Int), u] W fun e w' => e = .returned (.int .i64 0) ∧ Below W.heap.size W w') := fun W h => by
    have := CheckS_any (v : Int) _ u W (hu.below h) hbl
    rw [hz] at this
    exact this
  have H9 : Hid (∀ W, Below w.heap.size w W → Calls Try.prog 9 #[.int .i64 (v : Int), u] W fun e w' => e = .returned (.tuple #[.int .i64 (lvL v D : Int), .int .i64 (lvE v D : Int)]) ∧ Below W.heap.size W w') := fun W h => Level_main' v D u W hG (hu.below h)
  have H10 : Hid (∀ W, Below w.heap.size w W → Calls Try.prog 10 #[.int .i64 (v : Int), u] W fun e w' => ∃ x, e = .returned (.tuple #[x, .int .i64 0]) ∧ ORow w' W.heap.size x (muL v D) ∧ Below W.heap.size W w') := fun W h => Mul_main' v D u W hG (hu.below h)
  have H11 : Hid (∀ W, Below w.heap.size w W → Calls Try.prog 11 #[.int .i64 (v : Int), u] W fun e w' => e = .returned (.tuple #[.int .i64 (lvL v D : Int), .int .i64 (lvE v D : Int)]) ∧ Below W.heap.size W w') := fun W h => DifferOf_any v D u W hG (hu.below h)
  have H12 : Hid (∀ W, Below w.heap.size w W → Calls Try.prog 12 #[.int .i64 (v : Int), u] W fun e w' => ∃ x, e = .returned x ∧ ORow w' W.heap.size x (muL v D) ∧ Below W.heap.size W w') := fun W h => MultipliersOf_any v D u W hG (hu.below h)
  have H13 : Hid (∀ (x y : Value) (W : World), ORow W 0 x (muL v D) → ORow W 0 y (muL v D) → Calls Try.prog 13 #[x, y] W fun e w' => e = .returned (.bool true) ∧ Below W.heap.size W w') := fun x y W hx hy => ints_same _ x y W hx.sl hy.sl (by unfold maxLen; rw [List.length_map]; have := muL_len v D; have := hG.le; omega)
  obtain ⟨a, ca, rfl, _⟩ := sl_at hu
  generalize lvL v D = l at *
  generalize lvE v D = g at *
  generalize muL v D = M at *
  generalize D.length = n at *
  clear hu hbl hz hG
  go_enter Try.func3, Try.ntmps3
  go_wp2_with (first
    | (go_at_call 7; refine (H7.out _ (Below.refl _ _)).mono ?_; rintro e w1 ⟨rfl, hb⟩; clear H7; have HB1 : Hid (Below w.heap.size w w1) := hb; clear hb)
    | (go_at_call 8; refine (H8.out _ HB1.out).mono ?_; rintro e w2 ⟨rfl, hb⟩; clear H8; have HB2 : Hid (Below w.heap.size w w2) := Below.next HB1.out hb; clear hb)
    | (go_at_call 9; refine (H9.out _ HB2.out).mono ?_; rintro e w3 ⟨rfl, hb⟩; clear H9; have HB3 : Hid (Below w.heap.size w w3) := Below.next HB2.out hb; clear hb)
    | (go_at_call 10; refine (H10.out _ HB3.out).mono ?_; rintro e w4 ⟨x, rfl, hx, hb⟩; clear H10; have HX4 : Hid (ORow w4 0 x M) := own_low hx (Nat.zero_le _); have HB4 : Hid (Below w.heap.size w w4) := Below.next HB3.out hb; clear hb hx)
    | (go_at_call 11; refine (H11.out _ HB4.out).mono ?_; rintro e w5 ⟨rfl, hb⟩; clear H11; have HX5 : Hid (ORow w5 0 x M) := HX4.out.below hb; have HB5 : Hid (Below w.heap.size w w5) := Below.next HB4.out hb; clear hb)
    | (go_at_call 12; refine (H12.out _ HB5.out).mono ?_; rintro e w6 ⟨y, rfl, hy, hb⟩; clear H12; have HX6 : Hid (ORow w6 0 x M) := HX5.out.below hb; have HY6 : Hid (ORow w6 0 y M) := own_low hy (Nat.zero_le _); have HB6 : Hid (Below w.heap.size w w6) := Below.next HB5.out hb; clear hb hy)
    | (go_at_call 13; refine (H13.out x y _ HX6.out HY6.out).mono ?_; rintro e w7 ⟨rfl, hb⟩; clear H13; have HB7 : Hid (Below w.heap.size w w7) := Below.next HB6.out hb; clear hb)
    | go_in)
  go_ret
  exact ⟨by simp, HB7.out⟩
theorem Levels_law (p : Int) (b : List Int) (u : Value) (w : World) (hu : Sl w u b) (hbl : b.length ≤ maxLen) :
    Calls Try.prog 3 #[.int .i64 p, u] w fun e w' => e = .returned (.bool true) ∧ Below w.heap.size w w' := by
  by_cases hz : sF p b = 0
  · obtain ⟨v, D, rfl, rfl, hG⟩ := sF_good hz
    exact Levels_ok v D u w hG hu
  · exact Levels_bad p b u w hu hbl hz

end Go.Proofs.Ytogdcjlgddleaaa
