/- The law DifferHall. -/
import Derived.Test.YtogdcjlgddleaaaS11
/- The law DifferLevels. -/
namespace Go.Proofs.Ytogdcjlgddleaaa
open Go.RowKit Go.Maps

theorem ints_same (l : List Int) (x y : Value) (w : World) (hx : Sl w x l) (hy : Sl w y l) (hl : l.length ≤ maxLen) : Calls Try.prog 13 #[x, y] w fun e w' => e = .returned (.bool true) ∧ Below w.heap.size w w' := by
  refine (ints_any l l x y w hx hy hl hl).mono ?_
  rintro e w' ⟨b, rfl, h, hb⟩
  rw [h.2 rfl]
  exact ⟨rfl, hb⟩
theorem muL_len (v : Nat) (D : List Nat) : (muL v D).length ≤ v := by rw [← mulT_all]; exact mulT_len v D v
set_option maxRecDepth 100000 in
set_option maxHeartbeats 8000000 in
theorem Levels_bad (p : Int) (b : List Int) (u : Value) (w : World) (hu : Sl w u b) (hbl : b.length ≤ maxLen) (hz : sF p b ≠ 0) :
    Calls Try.prog 3 #[.int .i64 p, u] w fun e w' => e = .returned (.bool true) ∧ Below w.heap.size w w' := by
  have hform : ∃ a c, u = .slice a b.length c := by obtain ⟨a, c, rfl, _⟩ := hu; exact ⟨a, c, rfl⟩
  have H7 : Hid (∀ W, Below w.heap.size w W → Calls Try.prog 7 #[.int .i64 p, u] W fun e w' => e = .returned (.int .i64 (sF p b : Int)) ∧ Below W.heap.size W w') := fun W h => SetFaultS_any p b u W (hu.below h) hbl
  have H8 : Hid (∀ W, Below w.heap.size w W → Calls Try.prog 8 #[.int .i64 p, u] W fun e w' => e = .returned (.int .i64 (sF p b : Int)) ∧ Below W.heap.size W w') := fun W h => CheckS_any p b u W (hu.below h) hbl
  have H9 : Hid (∀ W, Below w.heap.size w W → Calls Try.prog 9 #[.int .i64 p, u] W fun e w' => e = .returned (.tuple #[.int .i64 0, .int .i64 (sF p b : Int)]) ∧ Below W.heap.size W w') := fun W h => Level_bad' p b u W _ hz hform (H8.out W h)
  have H10 : Hid (∀ W, Below w.heap.size w W → Calls Try.prog 10 #[.int .i64 p, u] W fun e w' => e = .returned (.tuple #[.slice none 0 0, .int .i64 (sF p b : Int)]) ∧ Below W.heap.size W w') := fun W h => Mul_bad' p b u W _ hz hform (H8.out W h)
  obtain ⟨a, ca, rfl⟩ := hform
  generalize sF p b = z at *
  generalize b.length = n at *
  have hz1 : ¬ (z : Int) = 0 := by omega
  have hz2 : ((z : Int) != 0) = true := by simpa using hz
  clear hu
  go_enter Try.func3, Try.ntmps3
  go_wp2_with (first
    | (go_at_call 7; refine (H7.out _ (Below.refl _ _)).mono ?_; rintro e w1 ⟨rfl, hb⟩; clear H7; have HB1 : Hid (Below w.heap.size w w1) := hb; clear hb)
    | (go_at_call 8; refine (H8.out _ HB1.out).mono ?_; rintro e w2 ⟨rfl, hb⟩; clear H8; have HB2 : Hid (Below w.heap.size w w2) := Below.next HB1.out hb; clear hb)
    | (go_at_call 9; refine (H9.out _ HB2.out).mono ?_; rintro e w3 ⟨rfl, hb⟩; clear H9; have HB3 : Hid (Below w.heap.size w w3) := Below.next HB2.out hb; clear hb)
    | (go_at_call 10; refine (H10.out _ HB3.out).mono ?_; rintro e w4 ⟨rfl, hb⟩; clear H10; have HB4 : Hid (Below w.heap.size w w4) := Below.next HB3.out hb; clear hb)
    | go_in)
  go_ret
  exact ⟨rfl, HB4.out⟩
set_option maxRecDepth 100000 in
set_option maxHeartbeats 8000000 in
theorem Levels_ok (v : Nat) (D : List Nat) (u : Value) (w : World) (hG : GoodS v D) (hu : Sl w u (D.map Int.ofNat)) :
    Calls Try.prog 3 #[.int .i64 (v : Int), u] w fun e w' => e = .returned (.bool true) ∧ Below w.heap.size w w' := by
  have hbl : (D.map Int.ofNat).length ≤ maxLen := by unfold maxLen; rw [List.length_map]; have := hG.len; have := hG.le; omega
  have hz := sF_of hG
  have H7 : Hid (∀ W, Below w.heap.size w W → Calls Try.prog 7 #[.int .i64 (v : Int), u] W fun e w' => e = .returned (.int .i64 0) ∧ Below W.heap.size W w') := fun W h => by
    have := SetFaultS_any (v : Int) _ u W (hu.below h) hbl
    rw [hz] at this
    exact this
  have H8 : Hid (∀ W, Below w.heap.size w W → Calls Try.prog 8 #[.int .i64 (v : Int), u] W fun e w' => e = .returned (.int .i64 0) ∧ Below W.heap.size W w') := fun W h => by
    have := CheckS_any (v : Int) _ u W (hu.below h) hbl
    rw [hz] at this
    exact this
  have H9 : Hid (∀ W, Below w.heap.size w W → Calls Try.prog 9 #[.int .i64 (v : Int), u] W fun e w' => e = .returned (.tuple #[.int .i64 (lvL v D : Int), .int .i64 (lvE v D : Int)]) ∧ Below W.heap.size W w') := fun W h => Level_main' v D u W hG (hu.below h)
  have H10 : Hid (∀ W, Below w.heap.size w W → Calls Try.prog 10 #[.int .i64 (v : Int), u] W fun e w' => ∃ x, e = .returned (.tuple #[x, .int .i64 0]) ∧ ORow w' W.heap.size x (muL v D) ∧ Below W.heap.size W w') := fun W h => Mul_main' v D u W hG (hu.below h)
  have H11 : Hid (∀ W, Below w.heap.size w W → Calls Try.prog 11 #[.int .i64 (v : Int), u] W fun e w' => e = .returned (.tuple #[.int .i64 (lvL v D : Int), .int .i64 (lvE v D : Int)]) ∧ Below W.heap.size W w') := fun W h => DifferOf_any v D u W hG (hu.below h)
  have H12 : Hid (∀ W, Below w.heap.size w W → Calls Try.prog 12 #[.int .i64 (v : Int), u] W fun e w' => ∃ x, e = .returned x ∧ ORow w' W.heap.size x (muL v D) ∧ Below W.heap.size W w') := fun W h => MultipliersOf_any v D u W hG (hu.below h)
  have H13 : Hid (∀ (x y : Value) (W : World), ORow W 0 x (muL v D) → ORow W 0 y (muL v D) → Calls Try.prog 13 #[x, y] W fun e w' => e = .returned (.bool true) ∧ Below W.heap.size W w') := fun x y W hx hy => ints_same _ x y W hx.sl hy.sl (by unfold maxLen; rw [List.length_map]; have := muL_len v D; have := hG.le; omega)
  obtain ⟨a, ca, rfl, _⟩ := sl_at hu
  generalize lvL v D = l at *
  generalize lvE v D = g at *
  generalize muL v D = M at *
  generalize D.length = n at *
  clear hu hbl hz hG
  go_enter Try.func3, Try.ntmps3
  go_wp2_with (first
    | (go_at_call 7; refine (H7.out _ (Below.refl _ _)).mono ?_; rintro e w1 ⟨rfl, hb⟩; clear H7; have HB1 : Hid (Below w.heap.size w w1) := hb; clear hb)
    | (go_at_call 8; refine (H8.out _ HB1.out).mono ?_; rintro e w2 ⟨rfl, hb⟩; clear H8; have HB2 : Hid (Below w.heap.size w w2) := Below.next HB1.out hb; clear hb)
    | (go_at_call 9; refine (H9.out _ HB2.out).mono ?_; rintro e w3 ⟨rfl, hb⟩; clear H9; have HB3 : Hid (Below w.heap.size w w3) := Below.next HB2.out hb; clear hb)
    | (go_at_call 10; refine (H10.out _ HB3.out).mono ?_; rintro e w4 ⟨x, rfl, hx, hb⟩; clear H10; have HX4 : Hid (ORow w4 0 x M) := own_low hx (Nat.zero_le _); have HB4 : Hid (Below w.heap.size w w4) := Below.next HB3.out hb; clear hb hx)
    | (go_at_call 11; refine (H11.out _ HB4.out).mono ?_; rintro e w5 ⟨rfl, hb⟩; clear H11; have HX5 : Hid (ORow w5 0 x M) := HX4.out.below hb; have HB5 : Hid (Below w.heap.size w w5) := Below.next HB4.out hb; clear hb)
    | (go_at_call 12; refine (H12.out _ HB5.out).mono ?_; rintro e w6 ⟨y, rfl, hy, hb⟩; clear H12; have HX6 : Hid (ORow w6 0 x M) := HX5.out.below hb; have HY6 : Hid (ORow w6 0 y M) := own_low hy (Nat.zero_le _); have HB6 : Hid (Below w.heap.size w w6) := Below.next HB5.out hb; clear hb hy)
    | (go_at_call 13; refine (H13.out x y _ HX6.out HY6.out).mono ?_; rintro e w7 ⟨rfl, hb⟩; clear H13; have HB7 : Hid (Below w.heap.size w w7) := Below.next HB6.out hb; clear hb)
    | go_in)
  go_ret
  exact ⟨by simp, HB7.out⟩
theorem Levels_law (p : Int) (b : List Int) (u : Value) (w : World) (hu : Sl w u b) (hbl : b.length ≤ maxLen) :
    Calls Try.prog 3 #[.int .i64 p, u] w fun e w' => e = .returned (.bool true) ∧ Below w.heap.size w w' := by
  by_cases hz : sF p b = 0
  · obtain ⟨v, D, rfl, rfl, hG⟩ := sF_good hz
    exact Levels_ok v D u w hG hu
  · exact Levels_bad p b u w hu hbl hz

end Go.Proofs.Ytogdcjlgddleaaa

namespace Go.Proofs.Ytogdcjlgddleaaa
open Go.RowKit Go.Maps

theorem prN_of_sq {p d : Nat} (hp : 1 < p) (hd : p < d * d) (h : ∀ e, 1 < e → e < d → p % e ≠ 0) : PrN p := by
  refine ⟨hp, fun e h1 h2 h3 => ?_⟩
  by_cases he : e < d
  · exact h e h1 he h3
  · obtain ⟨q, hq⟩ := Nat.dvd_of_mod_eq_zero h3
    have hq1 : 1 < q := by
      rcases q with _ | _ | q
      · omega
      · omega
      · omega
    have hqd : q < d := by
      by_cases hqd : q < d
      · exact hqd
      · have := Nat.mul_le_mul (show d ≤ e by omega) (show d ≤ q by omega)
        omega
    exact h q hq1 hqd (by rw [hq]; exact Nat.mul_mod_left e q)
/-- What IsPrime answers. -/
def PrAns (n : Int) (e : Ending) : Prop := ∃ b : Bool, e = .returned (.bool b) ∧ (b = true → ∃ p : Nat, n = p ∧ PrN p)
set_option maxHeartbeats 400000 in
theorem IsPrimeD_any (n : Int) (w : World) :
    Calls Try.prog 17 #[.int .i64 n] w fun e w' => PrAns n e ∧ w' = w := by
  by_cases h2 : n < 2
  · go_enter Try.func17, Try.ntmps17
    go_wp2
    go_ret
    exact ⟨⟨false, rfl, by simp⟩, rfl⟩
  · have hd2 : decide (n < 2) = false := by simpa using h2
    by_cases h9 : 100000 < n
    · have hd1 : decide (100000 < n) = true := by simpa using h9
      go_enter Try.func17, Try.ntmps17
      go_wp2
      go_ret
      exact ⟨⟨false, rfl, by simp⟩, rfl⟩
    · have hd1 : decide (100000 < n) = false := by simpa using h9
      obtain ⟨m, rfl⟩ := Int.eq_ofNat_of_zero_le (show 0 ≤ n by omega)
      go_enter Try.func17, Try.ntmps17
      go_wp2
      go_loop [3] (fun i => ∃ d : Nat, 2 ≤ d ∧ d ≤ 1000 ∧ i = .int .i64 d ∧ Hid (∀ e, 1 < e → e < d → m % e ≠ 0)) (fun i => (1000 - intOf i).toNat)
      case atStart => exact ⟨2, by omega, by omega, rfl, (fun e h1 h2 => by omega : ∀ e, 1 < e → e < 2 → m % e ≠ 0)⟩
      case round =>
        obtain ⟨d, hd2', hd9, rfl, HN⟩ := hrel
        have hmm : d * d ≤ 1000000 := Nat.mul_le_mul hd9 hd9
        have hmi : ((d * d : Nat) : Int) = (d : Int) * d := by simp
        have hz : (0 : Int) ≤ (d : Int) * d := by omega
        have hz2 : (d : Int) * d ≤ 1000000 := by omega
        by_cases hle : d * d ≤ m
        · have hle' : (d : Int) * d ≤ m := by omega
          have hd8 : d < 1000 := by
            apply Classical.byContradiction; intro h
            have : 1000 * 1000 ≤ d * d := Nat.mul_le_mul (by omega) (by omega)
            omega
          clear hmi
          by_cases hr : m % d = 0
          · have hb : ((m : Int) % (d : Int) == 0) = true := by simp; omega
            clear hr
            go_wp2
            go_ret
            exact ⟨⟨false, rfl, by simp⟩, rfl⟩
          · have hb : ((m : Int) % (d : Int) == 0) = false := by simp; omega
            have HN' : Hid (∀ e, 1 < e → e < d + 1 → m % e ≠ 0) := by
              intro e h1 h2
              by_cases he : e = d
              · rw [he]; exact hr
              · exact HN.out e h1 (by omega)
            clear hr
            go_wp2
            go_round
            case rel => exact ⟨d + 1, by omega, by omega, by go_num, HN'⟩
            case measure => simp [intOf]; omega
        · have hle' : ¬ (d : Int) * d ≤ m := by omega
          have HO : Hid (PrN m) := prN_of_sq (by omega) (by omega) HN.out
          clear hmi
          go_wp2
          go_ret
          exact ⟨⟨true, rfl, fun _ => ⟨m, rfl, HO.out⟩⟩, rfl⟩
theorem good7 : GoodS 7 [1, 2, 4] := ⟨by decide, by decide, by decide, by decide⟩
theorem lvL7 : lvL 7 [1, 2, 4] = 1 := by decide +kernel
theorem lvE7 : lvE 7 [1, 2, 4] = 0 := by decide +kernel
set_option maxRecDepth 100000 in
set_option maxHeartbeats 4000000 in
theorem FactD_any (w : World) : Calls Try.prog 14 #[] w fun e w' => e = .returned (.bool true) ∧ Below w.heap.size w w' := by
  have hk := heap_alloc_new w (.cells #[.int .i64 1, .int .i64 2, .int .i64 4] 3)
  have hsl : Sl (w.alloc (.cells #[.int .i64 1, .int .i64 2, .int .i64 4] 3)) (.slice (some ⟨w.heap.size, 0, none⟩) 3 3) ([1, 2, 4].map Int.ofNat) := by
    refine ⟨_, _, rfl, fun j hj => ⟨_, _, rfl, ?_⟩⟩
    rw [cell_of_row _ _ _ _ _ _ hk]
    match j, hj with
    | 0, _ => rfl
    | 1, _ => rfl
    | 2, _ => rfl
  have C := Level_main' 7 [1, 2, 4] _ _ good7 hsl
  rw [lvL7, lvE7] at C
  have HC : Hid (Calls Try.prog 9 #[.int .i64 7, .slice (some ⟨w.heap.size, 0, none⟩) 3 3] (w.alloc (.cells #[.int .i64 1, .int .i64 2, .int .i64 4] 3)) fun e w' => e = .returned (.tuple #[.int .i64 1, .int .i64 0]) ∧ Below (w.alloc (.cells #[.int .i64 1, .int .i64 2, .int .i64 4] 3)).heap.size (w.alloc (.cells #[.int .i64 1, .int .i64 2, .int .i64 4] 3)) w') := C
  clear hk hsl C
  go_enter Try.func14, Try.ntmps14
  go_wp2_with (first
    | (go_at_call 9; refine HC.out.mono ?_; rintro e w1 ⟨rfl, hb⟩; clear HC)
    | go_in)
  go_ret
  exact ⟨rfl, Below.next (balloc _ _) hb⟩
theorem lvE_cases (v : Nat) (D : List Nat) : (lvB v D = true ∧ lvL v D = dfN v D 1 ∧ lvE v D = 0) ∨ lvE v D = 4 := by
  by_cases h : lvB v D = true
  · exact .inl ⟨h, if_pos h, if_pos h⟩
  · exact .inr (if_neg h)
/-- What a level tells of a set of at least two numbers modulo. -/
theorem lev_le {v l : Nat} {D : List Nat} (hv : 2 ≤ v) (hG : GoodS v D) (hL : DLev v D l) : l ≤ D.length := by
  have h1 := lev_count (by omega) hG.pts hL
  have h2 := hG.len
  rcases Nat.lt_or_ge D.length l with h | h
  · have h3 : (D.length + 1) * (v - 1) ≤ l * (v - 1) := Nat.mul_le_mul_right _ h
    obtain ⟨q, hq⟩ : ∃ q, v = q + 1 := ⟨v - 1, by omega⟩
    rw [hq, Nat.add_sub_cancel] at h1 h3
    have h4 : D.length * D.length ≤ D.length * (q + 1) := Nat.mul_le_mul_left _ (by omega)
    rw [Nat.add_mul, Nat.one_mul] at h3
    rw [Nat.mul_add, Nat.mul_one] at h4
    omega
  · exact h

end Go.Proofs.Ytogdcjlgddleaaa
