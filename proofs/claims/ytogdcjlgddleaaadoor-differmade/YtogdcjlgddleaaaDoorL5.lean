/- The law DifferHall. -/
import Derived.Test.YtogdcjlgddleaaaDoorS3
namespace Go.Proofs.YtogdcjlgddleaaaDoor
open Go.RowKit Go.Maps

theorem prN_of_sq {p d : Nat} (hp : 1 < p) (hd : p < d * d) (h : ∀ e, 1 < e → e < d → p % e ≠ 0) : PrN p := by
  refine ⟨hp, fun e h1 h2 h3 => ?_⟩
  by_cases he : e < d
  · exact h e h1 he h3
  · obtain ⟨q, hq⟩ := Nat.dvd_of_mod_eq_zero h3
    have hq1 : 1 < q := by
      rcases q with _ | _ | q
      · omega
      · omega
      · omega
    have hqd : q < d := by
      by_cases hqd : q < d
      · exact hqd
      · have := Nat.mul_le_mul (show d ≤ e by omega) (show d ≤ q by omega)
        omega
    exact h q hq1 hqd (by rw [hq]; exact Nat.mul_mod_left e q)
/-- What IsPrime answers. -/
def PrAns (n : Int) (e : Ending) : Prop := ∃ b : Bool, e = .returned (.bool b) ∧ (b = true → ∃ p : Nat, n = p ∧ PrN p)
set_option maxHeartbeats 400000 in
theorem IsPrimeD_any (n : Int) (w : World) :
    Calls Tryd.prog 23 #[.int .i64 n] w fun e w' => PrAns n e ∧ w' = w := by
  by_cases h2 : n < 2
  · go_enter Tryd.func23, Tryd.ntmps23
    go_wp2
    go_ret
    exact ⟨⟨false, rfl, by simp⟩, rfl⟩
  · have hd2 : decide (n < 2) = false := by simpa using h2
    by_cases h9 : 100000 < n
    · have hd1 : decide (100000 < n) = true := by simpa using h9
      go_enter Tryd.func23, Tryd.ntmps23
      go_wp2
      go_ret
      exact ⟨⟨false, rfl, by simp⟩, rfl⟩
    · have hd1 : decide (100000 < n) = false := by simpa using h9
      obtain ⟨m, rfl⟩ := Int.eq_ofNat_of_zero_le (show 0 ≤ n by omega)
      go_enter Tryd.func23, Tryd.ntmps23
      go_wp2
      go_loop [3] (fun i => ∃ d : Nat, 2 ≤ d ∧ d ≤ 1000 ∧ i = .int .i64 d ∧ Hid (∀ e, 1 < e → e < d → m % e ≠ 0)) (fun i => (1000 - intOf i).toNat)
      case atStart => exact ⟨2, by omega, by omega, rfl, (fun e h1 h2 => by omega : ∀ e, 1 < e → e < 2 → m % e ≠ 0)⟩
      case round =>
        obtain ⟨d, hd2', hd9, rfl, HN⟩ := hrel
        have hmm : d * d ≤ 1000000 := Nat.mul_le_mul hd9 hd9
        have hmi : ((d * d : Nat) : Int) = (d : Int) * d := by simp
        have hz : (0 : Int) ≤ (d : Int) * d := by omega
        have hz2 : (d : Int) * d ≤ 1000000 := by omega
        by_cases hle : d * d ≤ m
        · have hle' : (d : Int) * d ≤ m := by omega
          have hd8 : d < 1000 := by
            apply Classical.byContradiction; intro h
            have : 1000 * 1000 ≤ d * d := Nat.mul_le_mul (by omega) (by omega)
            omega
          clear hmi
          by_cases hr : m % d = 0
          · have hb : ((m : Int) % (d : Int) == 0) = true := by simp; omega
            clear hr
            go_wp2
            go_ret
            exact ⟨⟨false, rfl, by simp⟩, rfl⟩
          · have hb : ((m : Int) % (d : Int) == 0) = false := by simp; omega
            have HN' : Hid (∀ e, 1 < e → e < d + 1 → m % e ≠ 0) := by
              intro e h1 h2
              by_cases he : e = d
              · rw [he]; exact hr
              · exact HN.out e h1 (by omega)
            clear hr
            go_wp2
            go_round
            case rel => exact ⟨d + 1, by omega, by omega, by go_num, HN'⟩
            case measure => simp [intOf]; omega
        · have hle' : ¬ (d : Int) * d ≤ m := by omega
          have HO : Hid (PrN m) := prN_of_sq (by omega) (by omega) HN.out
          clear hmi
          go_wp2
          go_ret
          exact ⟨⟨true, rfl, fun _ => ⟨m, rfl, HO.out⟩⟩, rfl⟩
theorem good7 : GoodS 7 [1, 2, 4] := ⟨by decide, by decide, by decide, by decide⟩
theorem lvL7 : lvL 7 [1, 2, 4] = 1 := by decide +kernel
theorem lvE7 : lvE 7 [1, 2, 4] = 0 := by decide +kernel
set_option maxRecDepth 100000 in
set_option maxHeartbeats 4000000 in
theorem FactD_any (w : World) : Calls Tryd.prog 14 #[] w fun e w' => e = .returned (.bool true) ∧ Below w.heap.size w w' := by
  have hk := heap_alloc_new w (.cells #[.int .i64 1, .int .i64 2, .int .i64 4] 3)
  have hsl : Sl (w.alloc (.cells #[.int .i64 1, .int .i64 2, .int .i64 4] 3)) (.slice (some ⟨w.heap.size, 0, none⟩) 3 3) ([1, 2, 4].map Int.ofNat) := by
    refine ⟨_, _, rfl, fun j hj => ⟨_, _, rfl, ?_⟩⟩
    rw [cell_of_row _ _ _ _ _ _ hk]
    match j, hj with
    | 0, _ => rfl
    | 1, _ => rfl
    | 2, _ => rfl
  have C := Level_main' 7 [1, 2, 4] _ _ good7 hsl
  rw [lvL7, lvE7] at C
  have HC : Hid (Calls Tryd.prog 15 #[.int .i64 7, .slice (some ⟨w.heap.size, 0, none⟩) 3 3] (w.alloc (.cells #[.int .i64 1, .int .i64 2, .int .i64 4] 3)) fun e w' => e = .returned (.tuple #[.int .i64 1, .int .i64 0]) ∧ Below (w.alloc (.cells #[.int .i64 1, .int .i64 2, .int .i64 4] 3)).heap.size (w.alloc (.cells #[.int .i64 1, .int .i64 2, .int .i64 4] 3)) w') := C
  clear hk hsl C
  go_enter Tryd.func14, Tryd.ntmps14
  go_wp2_with (first
    | (go_at_call 15; refine HC.out.mono ?_; rintro e w1 ⟨rfl, hb⟩; clear HC)
    | go_in)
  go_ret
  exact ⟨rfl, Below.next (balloc _ _) hb⟩
theorem lvE_cases (v : Nat) (D : List Nat) : (lvB v D = true ∧ lvL v D = dfN v D 1 ∧ lvE v D = 0) ∨ lvE v D = 4 := by
  by_cases h : lvB v D = true
  · exact .inl ⟨h, if_pos h, if_pos h⟩
  · exact .inr (if_neg h)
/-- What a level tells of a set of at least two numbers modulo. -/
theorem lev_le {v l : Nat} {D : List Nat} (hv : 2 ≤ v) (hG : GoodS v D) (hL : DLev v D l) : l ≤ D.length := by
  have h1 := lev_count (by omega) hG.pts hL
  have h2 := hG.len
  rcases Nat.lt_or_ge D.length l with h | h
  · have h3 : (D.length + 1) * (v - 1) ≤ l * (v - 1) := Nat.mul_le_mul_right _ h
    obtain ⟨q, hq⟩ : ∃ q, v = q + 1 := ⟨v - 1, by omega⟩
    rw [hq, Nat.add_sub_cancel] at h1 h3
    have h4 : D.length * D.length ≤ D.length * (q + 1) := Nat.mul_le_mul_left _ (by omega)
    rw [Nat.add_mul, Nat.one_mul] at h3
    rw [Nat.mul_add, Nat.mul_one] at h4
    omega
  · exact h

end Go.Proofs.YtogdcjlgddleaaaDoor
