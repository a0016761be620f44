/- The walks of the document's At, UnitOf, CommutesOf, AssociatesOf, IdempotentOf. -/
import Derived.Test.YtncnaaohihmjnaaQ5
import Derived.Test.YtncnaaohihmjnaaL5
namespace Go.Proofs.Ytncnaaohihmjnaa
open Go.RowKit

theorem allN_succ {n : Nat} {p : Nat → Bool} : allN (n + 1) p = (allN n p && p n) := by
  unfold allN
  rw [List.range_succ, List.all_append]
  simp
set_option maxHeartbeats 1000000 in
theorem At_any (n : Nat) (L : List Int) (v : Value) (w : World) (hv : Sl w v L) (G : GoodS n L) (r c : Nat) (hr : r < n) (hc : c < n) :
    Calls Try.prog 21 #[.agg #[.int .i64 (n : Int), v], .int .i64 (r : Int), .int .i64 (c : Int)] w fun e w' => e = .returned (.int .i64 (sq n L r c : Int)) ∧ Below w.heap.size w w' := by
  have hlt := cell_lt hr hc
  have hn := G.le
  obtain ⟨a, off, cap, rfl, ha, hcell⟩ := hv.form G.len (by omega)
  have hb0 := balloc w (.cells #[.int .i64 (n : Int), .slice (some ⟨a, off, none⟩) (n * n) cap] 24)
  obtain ⟨h1, h2, _⟩ := one_box n (.slice (some ⟨a, off, none⟩) (n * n) cap) w _ (Below.refl _ _)
  have h3 := (hb0.cell (p := ⟨a, off + (r * n + c), none⟩) ha).trans (hcell _ hlt)
  have h4 : L.getD (r * n + c) 0 = (sq n L r c : Int) := G.val hr hc
  rw [h4] at h3
  have hmn : n * n ≤ 99 := Nat.le_trans (Nat.mul_le_mul hn hn) (by decide)
  have hrn : r * n ≤ 99 := by omega
  obtain ⟨q, hq⟩ : ∃ q, q = r * n := ⟨_, rfl⟩
  obtain ⟨k, hk⟩ : ∃ k, k = q + c := ⟨_, rfl⟩
  have hmul : (r : Int) * (n : Int) = (q : Int) := by rw [hq]; simp
  have hadd : (q : Int) + (c : Int) = (k : Int) := by rw [hk]; simp
  rw [← hq, ← hk] at h3 hlt
  have hq99 : q ≤ 99 := by omega
  have hk99 : k ≤ 99 := by omega
  have hkz : (k : Int) < ((n * n : Nat) : Int) := by omega
  generalize sq n L r c = x at *
  generalize n * n = z at *
  clear hcell hv h4 hq hk hrn G
  go_enter Try.func21, Try.ntmps21
  go_wp2
  go_ret
  exact ⟨rfl, hb0⟩
/-- What the document's walks ask of a square in a box. -/
structure Doc (n : Nat) (t : Nat → Nat → Nat) (v : Value) (b : Nat) (w0 : World) : Prop where
  lo : b < w0.heap.size
  cell : ∀ W, Below w0.heap.size w0 W → W.cell? ⟨b, 0, none⟩ = some (.int .i64 (n : Int)) ∧ W.cell? ⟨b, 1, none⟩ = some v
  ask : ∀ W, Below w0.heap.size w0 W → ∀ r c : Nat, r < n → c < n → Calls Try.prog 21 #[.agg #[.int .i64 (n : Int), v], .int .i64 (r : Int), .int .i64 (c : Int)] W fun e w' => e = .returned (.int .i64 (t r c : Int)) ∧ Below W.heap.size W w'
theorem doc_of {n : Nat} {L : List Int} {v : Value} {w : World} (hv : Sl w v L) (G : GoodS n L) : Doc n (sq n L) v w.heap.size (w.alloc (.cells #[.int .i64 (n : Int), v] 24)) :=
  ⟨by simp, fun W b => ⟨(one_box n v w W b).1, (one_box n v w W b).2.1⟩, fun W b r c hr hc => At_any n L v W (hv.below (Below.next (balloc w _) b)) G r c hr hc⟩

set_option maxHeartbeats 4000000 in
theorem IdempotentOf_any (n : Nat) (L : List Int) (v : Value) (w : World) (q : Bool) (hv : Sl w v L) (G : GoodS n L) (hq : idmB n (sq n L) = q) :
    Calls Try.prog 17 #[.agg #[.int .i64 (n : Int), v]] w fun e w' => e = .returned (.bool q) ∧ Below w.heap.size w w' := by
  have h8 := G.le
  obtain ⟨w0, Hw0⟩ : ∃ w0, Hid (w0 = w.alloc (.cells #[.int .i64 (n : Int), v] 24)) := ⟨_, rfl⟩
  have HD : Hid (Doc n (sq n L) v w.heap.size w0) := by rw [Hw0.out]; exact doc_of hv G
  have HB0 : Hid (Below w.heap.size w w0) := by rw [Hw0.out]; exact balloc _ _
  have HQ : Hid (idmB n (sq n L) = q) := hq
  generalize sq n L = t at *
  obtain ⟨x0, x1⟩ := HD.out.cell _ (Below.refl _ _)
  rw [Hw0.out] at x0 x1
  clear hv G hq
  go_enter Try.func17, Try.ntmps17
  go_wp2
  go_loopw [3] (fun i wr => ∃ x : Nat, i = .int .i64 (x : Int) ∧ x ≤ n ∧ Hid (∀ y, y < x → t y y = y) ∧ Below w0.heap.size w0 wr) (fun i _ => (n - intOf i).toNat)
  case atStart => exact ⟨0, rfl, by omega, (show ∀ y, y < 0 → _ from fun y h => by omega), by rw [Hw0.out]; exact Below.refl _ _⟩
  case round =>
    clear x0 x1
    obtain ⟨x, rfl, hx, HR, hB⟩ := hrel
    obtain ⟨x0, x1⟩ := HD.out.cell _ hB
    by_cases hlt : x < n
    · have hdx : decide ((x : Int) < (n : Int)) = true := by simp; omega
      have C := HD.out.ask _ hB x x hlt hlt
      by_cases he : t x x = x
      · have HR2 : Hid (∀ y, y < x + 1 → t y y = y) := fun y hy => by
          by_cases e : y = x
          · subst e; exact he
          · exact HR.out y (by omega)
        rw [he] at C
        have hn : ((x : Int) != (x : Int)) = false := by simp
        clear he HR
        go_wp2_with (go_at_call 21; refine C.mono ?_; rintro e w1 ⟨rfl, b1⟩)
        go_roundw
        case rel => exact ⟨x + 1, by go_num, by omega, HR2, Below.next hB b1⟩
        case measure => simp [intOf]; omega
      · obtain rfl : q = false := by rw [← HQ.out]; exact allN_no hlt (beq_eq_false_iff_ne.2 he)
        have hne : (((t x x : Nat) : Int) != (x : Int)) = true := bne_iff_ne.2 (by omega)
        obtain ⟨X, hX⟩ : ∃ X : Int, X = ((t x x : Nat) : Int) := ⟨_, rfl⟩
        rw [← hX] at C hne
        clear he HR hX
        go_wp2_with (go_at_call 21; refine C.mono ?_; rintro e w1 ⟨rfl, b1⟩)
        go_ret
        exact ⟨rfl, Below.next HB0.out (Below.next hB b1)⟩
    · have hdx : decide ((x : Int) < (n : Int)) = false := by simp; omega
      obtain rfl : x = n := by omega
      obtain rfl : q = true := by rw [← HQ.out]; exact allN_iff.2 fun y hy => by simp [HR.out y hy]
      go_wp2
      go_ret
      exact ⟨rfl, Below.next HB0.out hB⟩
set_option maxHeartbeats 8000000 in
theorem CommutesOf_any (n : Nat) (L : List Int) (v : Value) (w : World) (q : Bool) (hv : Sl w v L) (G : GoodS n L) (hq : comB n (sq n L) = q) :
    Calls Try.prog 15 #[.agg #[.int .i64 (n : Int), v]] w fun e w' => e = .returned (.bool q) ∧ Below w.heap.size w w' := by
  have h8 := G.le
  obtain ⟨w0, Hw0⟩ : ∃ w0, Hid (w0 = w.alloc (.cells #[.int .i64 (n : Int), v] 24)) := ⟨_, rfl⟩
  have HD : Hid (Doc n (sq n L) v w.heap.size w0) := by rw [Hw0.out]; exact doc_of hv G
  have HB0 : Hid (Below w.heap.size w w0) := by rw [Hw0.out]; exact balloc _ _
  have HQ : Hid (comB n (sq n L) = q) := hq
  generalize sq n L = t at *
  obtain ⟨x0, x1⟩ := HD.out.cell _ (Below.refl _ _)
  rw [Hw0.out] at x0 x1
  clear hv G hq
  go_enter Try.func15, Try.ntmps15
  go_wp2
  go_loopw [3] (fun i wr => ∃ x : Nat, i = .int .i64 (x : Int) ∧ x ≤ n ∧ Hid (∀ x', x' < x → ∀ y, y < x' → t x' y = t y x') ∧ Below w0.heap.size w0 wr) (fun i _ => (n - intOf i).toNat)
  case atStart => exact ⟨0, rfl, by omega, (show ∀ y, y < 0 → _ from fun y h => by omega), by rw [Hw0.out]; exact Below.refl _ _⟩
  case round =>
    clear x0 x1
    obtain ⟨x, rfl, hx, HR, hB⟩ := hrel
    obtain ⟨x0, x1⟩ := HD.out.cell _ hB
    by_cases hlt : x < n
    · have hdx : decide ((x : Int) < (n : Int)) = true := by simp; omega
      go_wp2
      go_loopw [4] (fun j wr => ∃ y : Nat, j = .int .i64 (y : Int) ∧ y ≤ x ∧ Hid (∀ y', y' < y → t x y' = t y' x) ∧ Below w0.heap.size w0 wr) (fun j _ => (x - intOf j).toNat)
      case atStart => exact ⟨0, rfl, by omega, (show ∀ y, y < 0 → _ from fun y h => by omega), hB⟩
      case round =>
        clear x0 x1 hB
        obtain ⟨y, rfl, hy, HY, hB⟩ := hrel
        obtain ⟨x0, x1⟩ := HD.out.cell _ hB
        by_cases hly : y < x
        · have hdy : decide ((y : Int) < (x : Int)) = true := by simp; omega
          have C1 := HD.out.ask _ hB x y hlt (by omega)
          have C2 := fun W (b : Below w0.heap.size w0 W) => HD.out.ask W b y x (by omega) hlt
          by_cases he : t x y = t y x
          · have HY2 : Hid (∀ y', y' < y + 1 → t x y' = t y' x) := fun y' hy' => by
              by_cases e : y' = y
              · subst e; exact he
              · exact HY.out y' (by omega)
            rw [he] at C1
            obtain ⟨X, hX⟩ : ∃ X : Int, X = ((t y x : Nat) : Int) := ⟨_, rfl⟩
            rw [← hX] at C1 C2
            have hn : (X != X) = false := by simp
            clear he HY hX
            go_wp2_with (first
              | (go_at_call 21; refine C1.mono ?_; rintro e w1 ⟨rfl, b1⟩; have hB1 := Below.next hB b1; obtain ⟨y0, y1⟩ := HD.out.cell _ hB1; clear C1)
              | (go_at_call 21; refine (C2 _ hB1).mono ?_; rintro e w2 ⟨rfl, b2⟩; have hB2 := Below.next hB1 b2; clear C2))
            go_roundw
            case rel => exact ⟨y + 1, by go_num, by omega, HY2, hB2⟩
            case measure => simp [intOf]; omega
          · obtain rfl : q = false := by
              cases q with
              | false => rfl
              | true => exact (he (com_tri.1 HQ.out x hlt y hly)).elim
            have hne : (((t x y : Nat) : Int) != ((t y x : Nat) : Int)) = true := bne_iff_ne.2 (by omega)
            obtain ⟨X, hX⟩ : ∃ X : Int, X = ((t x y : Nat) : Int) := ⟨_, rfl⟩
            obtain ⟨Y, hY⟩ : ∃ X : Int, X = ((t y x : Nat) : Int) := ⟨_, rfl⟩
            rw [← hX] at C1 hne
            rw [← hY] at C2 hne
            clear he HY hX hY
            go_wp2_with (first
              | (go_at_call 21; refine C1.mono ?_; rintro e w1 ⟨rfl, b1⟩; have hB1 := Below.next hB b1; obtain ⟨y0, y1⟩ := HD.out.cell _ hB1; clear C1)
              | (go_at_call 21; refine (C2 _ hB1).mono ?_; rintro e w2 ⟨rfl, b2⟩; have hB2 := Below.next hB1 b2; clear C2))
            go_ret
            exact ⟨rfl, Below.next HB0.out hB2⟩
        · have hdy : decide ((y : Int) < (x : Int)) = false := by simp; omega
          obtain rfl : y = x := by omega
          have HR2 : Hid (∀ x', x' < y + 1 → ∀ y', y' < x' → t x' y' = t y' x') := fun x' hx' => by
            by_cases e : x' = y
            · subst e; exact HY.out
            · exact HR.out x' (by omega)
          go_wp2
          go_roundw
          case rel => exact ⟨y + 1, by go_num, by omega, HR2, hB⟩
          case measure => simp [intOf]; omega
    · have hdx : decide ((x : Int) < (n : Int)) = false := by simp; omega
      obtain rfl : x = n := by omega
      obtain rfl : q = true := by rw [← HQ.out]; exact com_tri.2 HR.out
      go_wp2
      go_ret
      exact ⟨rfl, Below.next HB0.out hB⟩
end Go.Proofs.Ytncnaaohihmjnaa
