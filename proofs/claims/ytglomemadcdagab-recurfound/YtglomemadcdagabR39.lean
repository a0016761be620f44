/- The walk of windows itself: three boxes and the function that has captured them. -/
import Derived.Test.YtglomemadcdagabR29
import Derived.RangeFuncBox
namespace Go.Proofs.Ytglomemadcdagab
open Go.RowKit

theorem cell1_lt {w : World} {b : Nat} {x : Value} (h : w.cell? ⟨b, 0, none⟩ = some x) : b < w.heap.size := block_lt_of_cell h

set_option maxHeartbeats 1000000 in
theorem windows_any (P k : Nat) (x : Int) (a : Option Addr) (cap : Nat) (w : World) (hp : 2 ≤ P) (hp' : P ≤ 7) (hk1 : 1 ≤ k) (hk : k ≤ 8) :
    Calls Try.prog 15 #[.agg #[.int .i64 P, .slice a k cap], .int .i64 x] w fun e w' => ∃ B0 B1 B2 : Nat, e = .returned (.func (.func 19) #[] #[.pointer (some ⟨B1, 0, none⟩), .pointer (some ⟨B0, 0, none⟩), .pointer (some ⟨B2, 0, none⟩)]) ∧
      w.heap.size ≤ B0 ∧ w.heap.size ≤ B1 ∧ w.heap.size ≤ B2 ∧ RB w' B0 P (.slice a k cap) ∧ w'.cell? ⟨B1, 0, none⟩ = some (.int .i64 x) ∧ w'.cell? ⟨B2, 0, none⟩ = some (.int .i64 ((P : Int) ^ (k - 1))) ∧ Below w.heap.size w w' := by
  obtain ⟨q, Hq⟩ : ∃ q : Int, Hid (q = (P : Int) ^ k) := ⟨_, rfl⟩
  obtain ⟨t, Ht⟩ : ∃ t : Int, Hid (t = (P : Int) ^ (k - 1)) := ⟨_, rfl⟩
  have hqt : q / (P : Int) = t := by
    rw [Hq.out, Ht.out, show k = k - 1 + 1 by omega, Int.pow_succ, Nat.add_sub_cancel]
    exact Int.mul_ediv_cancel _ (by omega)
  have hq0 : 0 ≤ q ∧ q ≤ 5764801 := by
    have := pow_bd (p := (P : Int)) (k := k) (by omega) (by omega) hk
    rw [Hq.out]; omega
  have ht0 : 0 ≤ t ∧ t ≤ 5764801 := by
    have := pow_bd (p := (P : Int)) (k := k - 1) (by omega) (by omega) (by omega)
    rw [Ht.out]; omega
  have hmf : ∀ (fn : Fn) (first cap : Array Value) (w : World), (Instr.makeFunc fn first cap).run Try.prog w = .ok (.func fn first cap) w := fun _ _ _ _ => rfl
  rw [← Ht.out]
  have hR0 := RB.made w P (.slice a k cap)
  have hB0 := balloc w (.cells #[.int .i64 P, .slice a k cap] 32)
  have hB1 : Below w.heap.size w ((w.alloc (.cells #[.int .i64 P, .slice a k cap] 32)).alloc (.cells #[.int .i64 x] 3)) := hB0.alloc hB0.size _
  have C : ∀ A, Calls Try.prog 18 #[.agg #[.int .i64 P, .slice a k cap]] A fun e B => e = .returned (.int .i64 q) ∧ Below A.heap.size A B := by
    intro A
    rw [Hq.out]; exact states_any P k a cap A hp hp' hk
  go_enter Try.func15, Try.ntmps15
  go_wp2
  have R1 : RB ((w.alloc (.cells #[.int .i64 P, .slice a k cap] 32)).alloc (.cells #[.int .i64 x] 3)).drew w.heap.size P (.slice a k cap) := hR0.below (balloc _ _).drew
  have R2 : RB (((w.alloc (.cells #[.int .i64 P, .slice a k cap] 32)).alloc (.cells #[.int .i64 x] 3)).alloc (.cells #[.int .i64 0] 3)).drew w.heap.size P (.slice a k cap) := (hR0.below (balloc _ _)).below (balloc _ _).drew
  have X1 : Boxed ((w.alloc (.cells #[.int .i64 P, .slice a k cap] 32)).alloc (.cells #[.int .i64 x] 3)).drew (w.heap.size + 1) 3 (.int .i64 x) := by
    have h := Boxed.new (w.alloc (.cells #[.int .i64 P, .slice a k cap] 32)) 3 (.int .i64 x)
    rw [World.size_alloc] at h; exact h
  have X2 : Boxed (((w.alloc (.cells #[.int .i64 P, .slice a k cap] 32)).alloc (.cells #[.int .i64 x] 3)).alloc (.cells #[.int .i64 0] 3)).drew (w.heap.size + 1) 3 (.int .i64 x) := Boxed.alloc X1 _
  have T2 : Boxed (((w.alloc (.cells #[.int .i64 P, .slice a k cap] 32)).alloc (.cells #[.int .i64 x] 3)).alloc (.cells #[.int .i64 0] 3)).drew (w.heap.size + 2) 3 (.int .i64 0) := by
    have h := Boxed.new ((w.alloc (.cells #[.int .i64 P, .slice a k cap] 32)).alloc (.cells #[.int .i64 x] 3)) 3 (.int .i64 0)
    rw [World.size_alloc, World.size_alloc] at h; exact h
  have hB2 : Below w.heap.size w (((w.alloc (.cells #[.int .i64 P, .slice a k cap] 32)).alloc (.cells #[.int .i64 x] 3)).alloc (.cells #[.int .i64 0] 3)) := hB1.alloc hB1.size _
  have e1 : ((w.alloc (.cells #[.int .i64 P, .slice a k cap] 32)).alloc (.cells #[.int .i64 x] 3)).cell? ⟨w.heap.size, 0, none⟩ = some (.int .i64 P) := R1.cells.1
  have e2 : (((w.alloc (.cells #[.int .i64 P, .slice a k cap] 32)).alloc (.cells #[.int .i64 x] 3)).alloc (.cells #[.int .i64 0] 3)).cell? ⟨w.heap.size, 0, none⟩ = some (.int .i64 P) := R2.cells.1
  have hP0 : ((P : Int) == 0) = false := by simp; omega
  have hwq : IntKind.i64.wrap q = q := by rw [IntKind.wrap_i64]; omega
  go_region_with (first
    | (go_at_call 18; refine (C ((w.alloc (.cells #[.int .i64 P, .slice a k cap] 32)).alloc (.cells #[.int .i64 x] 3)).drew).mono ?_; rintro e w1 ⟨rfl, hb1⟩
       have hRw := R1.below hb1
       have hXw := (hb1.block _ X1.lt).trans X1
       have hBw : Below w.heap.size w w1 := Below.next hB1.drew hb1
       have c1 := hRw.cells.1
       have c1a := (hRw.below (balloc w1 (.cells #[.int .i64 0] 3))).cells.1)
    | (go_at_call 18; refine (C (((w.alloc (.cells #[.int .i64 P, .slice a k cap] 32)).alloc (.cells #[.int .i64 x] 3)).alloc (.cells #[.int .i64 0] 3)).drew).mono ?_; rintro e w1 ⟨rfl, hb1⟩
       have hRw := R2.below hb1
       have hXw := (hb1.block _ X2.lt).trans X2
       have hTw : Boxed w1 (w.heap.size + 2) 3 (.int .i64 0) := (hb1.block _ T2.lt).trans T2
       have hBw : Below w.heap.size w w1 := Below.next hB2.drew hb1
       have c1 := hRw.cells.1
       have t1 := hTw.cell
       have t2 := hTw.frozen))
  all_goals
    go_wp2
    go_ret
    first
      | exact ⟨w.heap.size, w.heap.size + 1, w1.heap.size, rfl, Nat.le_refl _, by omega, hBw.size, hRw.below (balloc _ _), (Boxed.alloc hXw _).cell, (Boxed.new w1 3 _).cell, hBw.alloc hBw.size _⟩
      | exact ⟨w.heap.size, w.heap.size + 1, w.heap.size + 2, rfl, Nat.le_refl _, by omega, by omega, (heap_setCell_other w1 ⟨w.heap.size + 2, 0, none⟩ w.heap.size _ (by simp)).trans hRw,
          Boxed.cell (t := 3) ((heap_setCell_other w1 ⟨w.heap.size + 2, 0, none⟩ (w.heap.size + 1) _ (by simp)).trans hXw), (hTw.set _).cell, hBw.setCell (p := ⟨w.heap.size + 2, 0, none⟩) (by simp) _⟩

end Go.Proofs.Ytglomemadcdagab
