/- The walks of what Fits asks. -/
import Derived.Test.YtlmjlffipinjiabSH1
import Derived.Test.YtlmjlffipinjiabSrW
import Derived.Deep.RegionHeld3
namespace Go.Proofs.Ytlmjlffipinjiab
open Go.RowKit

theorem row4f {w : World} {g : Nat} {x0 x1 x2 x3 : Value} {t : TypeId} (h : w.heap[g]? = some (.cells #[x0, x1, x2, x3] t (0, 0))) : w.cell? ⟨g, 0, none⟩ = some x0 ∧ w.cell? ⟨g, 1, none⟩ = some x1 ∧ w.cell? ⟨g, 2, none⟩ = some x2 ∧ w.cell? ⟨g, 3, none⟩ = some x3 :=
  ⟨cell_of_row w g 0 _ _ _ h, cell_of_row w g 1 _ _ _ h, cell_of_row w g 2 _ _ _ h, cell_of_row w g 3 _ _ _ h⟩
theorem beqD (x y : Int) : (x == y) = decide (x = y) := by rw [Bool.eq_iff_iff]; simp
theorem wrS {x : Int} (h : x.natAbs ≤ 9000000) : wrap64 x = x := by unfold wrap64; omega
theorem bnd {a b : Int} {p q : Nat} (ha : a.natAbs ≤ p) (hb : b.natAbs ≤ q) : (a * b).natAbs ≤ p * q := by rw [Int.natAbs_mul]; exact Nat.mul_le_mul ha hb
def wiB (v k l m : Int) : Bool := decide (2 ≤ v) && decide (v ≤ 1000) && decide (1 ≤ k) && decide (k < v) && decide (0 ≤ l) && decide (l ≤ v) && decide (0 ≤ m) && decide (m ≤ v)
set_option maxRecDepth 100000 in
set_option maxHeartbeats 8000000 in
theorem within_any (v k l m : Int) (w : World) :
    Calls Try.prog 6 #[.agg #[.int .i64 v, .int .i64 k, .int .i64 l, .int .i64 m]] w fun e w' => e = .returned (.bool (wiB v k l m)) ∧ Below w.heap.size w w' := by
  have hbox := heap_alloc_new w (.cells #[.int .i64 v, .int .i64 k, .int .i64 l, .int .i64 m] 23)
  have b0 := balloc w (.cells #[.int .i64 v, .int .i64 k, .int .i64 l, .int .i64 m] 23)
  obtain ⟨x0, x1, x2, x3⟩ := row4f hbox
  by_cases t0 : 2 ≤ v
  · have d0 : decide (2 ≤ v) = true := decide_eq_true t0
    by_cases t1 : v ≤ 1000
    · have d1 : decide (v ≤ 1000) = true := decide_eq_true t1
      by_cases t2 : 1 ≤ k
      · have d2 : decide (1 ≤ k) = true := decide_eq_true t2
        by_cases t3 : k < v
        · have d3 : decide (k < v) = true := decide_eq_true t3
          by_cases t4 : 0 ≤ l
          · have d4 : decide (0 ≤ l) = true := decide_eq_true t4
            by_cases t5 : l ≤ v
            · have d5 : decide (l ≤ v) = true := decide_eq_true t5
              by_cases t6 : 0 ≤ m
              · have d6 : decide (0 ≤ m) = true := decide_eq_true t6
                by_cases t7 : m ≤ v
                · have d7 : decide (m ≤ v) = true := decide_eq_true t7
                  have HF : Hid (wiB v k l m = true) := (by unfold wiB; simp only [d0, d1, d2, d3, d4, d5, d6, d7, Bool.and_true] : wiB v k l m = true)
                  clear t0 t1 t2 t3 t4 t5 t6 t7
                  go_enter Try.func6, Try.ntmps6
                  go_wp2
                  go_ret
                  exact ⟨by rw [HF.out]; rfl, b0⟩
                · have d7 : decide (m ≤ v) = false := decide_eq_false t7
                  have HF : Hid (wiB v k l m = false) := (by unfold wiB; simp only [d7, Bool.and_false] : wiB v k l m = false)
                  clear t0 t1 t2 t3 t4 t5 t6 t7
                  go_enter Try.func6, Try.ntmps6
                  go_wp2
                  go_ret
                  exact ⟨by rw [HF.out]; rfl, b0⟩
              · have d6 : decide (0 ≤ m) = false := decide_eq_false t6
                have HF : Hid (wiB v k l m = false) := (by unfold wiB; simp only [d6, Bool.and_false, Bool.false_and] : wiB v k l m = false)
                clear t0 t1 t2 t3 t4 t5 t6
                go_enter Try.func6, Try.ntmps6
                go_wp2
                go_ret
                exact ⟨by rw [HF.out]; rfl, b0⟩
            · have d5 : decide (l ≤ v) = false := decide_eq_false t5
              have HF : Hid (wiB v k l m = false) := (by unfold wiB; simp only [d5, Bool.and_false, Bool.false_and] : wiB v k l m = false)
              clear t0 t1 t2 t3 t4 t5
              go_enter Try.func6, Try.ntmps6
              go_wp2
              go_ret
              exact ⟨by rw [HF.out]; rfl, b0⟩
          · have d4 : decide (0 ≤ l) = false := decide_eq_false t4
            have HF : Hid (wiB v k l m = false) := (by unfold wiB; simp only [d4, Bool.and_false, Bool.false_and] : wiB v k l m = false)
            clear t0 t1 t2 t3 t4
            go_enter Try.func6, Try.ntmps6
            go_wp2
            go_ret
            exact ⟨by rw [HF.out]; rfl, b0⟩
        · have d3 : decide (k < v) = false := decide_eq_false t3
          have HF : Hid (wiB v k l m = false) := (by unfold wiB; simp only [d3, Bool.and_false, Bool.false_and] : wiB v k l m = false)
          clear t0 t1 t2 t3
          go_enter Try.func6, Try.ntmps6
          go_wp2
          go_ret
          exact ⟨by rw [HF.out]; rfl, b0⟩
      · have d2 : decide (1 ≤ k) = false := decide_eq_false t2
        have HF : Hid (wiB v k l m = false) := (by unfold wiB; simp only [d2, Bool.and_false, Bool.false_and] : wiB v k l m = false)
        clear t0 t1 t2
        go_enter Try.func6, Try.ntmps6
        go_wp2
        go_ret
        exact ⟨by rw [HF.out]; rfl, b0⟩
    · have d1 : decide (v ≤ 1000) = false := decide_eq_false t1
      have HF : Hid (wiB v k l m = false) := (by unfold wiB; simp only [d1, Bool.and_false, Bool.false_and] : wiB v k l m = false)
      clear t0 t1
      go_enter Try.func6, Try.ntmps6
      go_wp2
      go_ret
      exact ⟨by rw [HF.out]; rfl, b0⟩
  · have d0 : decide (2 ≤ v) = false := decide_eq_false t0
    have HF : Hid (wiB v k l m = false) := (by unfold wiB; simp only [d0, Bool.false_and] : wiB v k l m = false)
    clear t0
    go_enter Try.func6, Try.ntmps6
    go_wp2
    go_ret
    exact ⟨by rw [HF.out]; rfl, b0⟩
set_option maxHeartbeats 1000000 in
theorem counts_any (v k l m : Int) (w : World) (h1 : 2 ≤ v) (h2 : v ≤ 1000) (h3 : 1 ≤ k) (h4 : k < v) (h5 : 0 ≤ l) (h6 : l ≤ v) (h7 : 0 ≤ m) (h8 : m ≤ v) :
    Calls Try.prog 7 #[.agg #[.int .i64 v, .int .i64 k, .int .i64 l, .int .i64 m]] w fun e w' => e = .returned (.bool (decide (k * (k - l - 1) = (v - k - 1) * m))) ∧ Below w.heap.size w w' := by
  have hbox := heap_alloc_new w (.cells #[.int .i64 v, .int .i64 k, .int .i64 l, .int .i64 m] 23)
  have b0 := balloc w (.cells #[.int .i64 v, .int .i64 k, .int .i64 l, .int .i64 m] 23)
  obtain ⟨x0, x1, x2, x3⟩ := row4f hbox
  have e1 := wrS (x := k * (k - l - 1)) (Nat.le_trans (bnd (p := 1000) (q := 1001) (by omega) (by omega)) (by decide))
  have e2 := wrS (x := (v - k - 1) * m) (Nat.le_trans (bnd (p := 1000) (q := 1001) (by omega) (by omega)) (by decide))
  go_enter Try.func7, Try.ntmps7
  go_wp2
  go_ret
  exact ⟨by rw [← beqD]; rfl, b0⟩
set_option maxHeartbeats 1000000 in
theorem lean_any (v k l m : Int) (w : World) (h1 : 2 ≤ v) (h2 : v ≤ 1000) (h3 : 1 ≤ k) (h4 : k < v) (h5 : 0 ≤ l) (h6 : l ≤ v) (h7 : 0 ≤ m) (h8 : m ≤ v) :
    Calls Try.prog 10 #[.agg #[.int .i64 v, .int .i64 k, .int .i64 l, .int .i64 m]] w fun e w' => e = .returned (.int .i64 (2 * k + (v - 1) * (l - m))) ∧ Below w.heap.size w w' := by
  have hbox := heap_alloc_new w (.cells #[.int .i64 v, .int .i64 k, .int .i64 l, .int .i64 m] 23)
  have b0 := balloc w (.cells #[.int .i64 v, .int .i64 k, .int .i64 l, .int .i64 m] 23)
  obtain ⟨x0, x1, x2, x3⟩ := row4f hbox
  have q1 : ((v - 1) * (l - m)).natAbs ≤ 1001000 := Nat.le_trans (bnd (p := 1000) (q := 1001) (by omega) (by omega)) (by decide)
  have e1 := wrS (x := (v - 1) * (l - m)) (by omega)
  have e2 := wrS (x := 2 * k + (v - 1) * (l - m)) (by omega)
  clear q1
  go_enter Try.func10, Try.ntmps10
  go_wp2
  go_ret
  exact ⟨congrArg (fun x => Ending.returned (.int .i64 x)) e2, b0⟩
set_option maxHeartbeats 1000000 in
theorem spread_any (v k l m : Int) (w : World) (h1 : 2 ≤ v) (h2 : v ≤ 1000) (h3 : 1 ≤ k) (h4 : k < v) (h5 : 0 ≤ l) (h6 : l ≤ v) (h7 : 0 ≤ m) (h8 : m ≤ v) :
    Calls Try.prog 12 #[.agg #[.int .i64 v, .int .i64 k, .int .i64 l, .int .i64 m]] w fun e w' => e = .returned (.int .i64 ((l - m) * (l - m) + 4 * (k - m))) ∧ Below w.heap.size w w' := by
  have hbox := heap_alloc_new w (.cells #[.int .i64 v, .int .i64 k, .int .i64 l, .int .i64 m] 23)
  have b0 := balloc w (.cells #[.int .i64 v, .int .i64 k, .int .i64 l, .int .i64 m] 23)
  obtain ⟨x0, x1, x2, x3⟩ := row4f hbox
  have q1 : ((l - m) * (l - m)).natAbs ≤ 1002001 := Nat.le_trans (bnd (p := 1001) (q := 1001) (by omega) (by omega)) (by decide)
  have e1 := wrS (x := (l - m) * (l - m)) (by omega)
  have e2 := wrS (x := (l - m) * (l - m) + 4 * (k - m)) (by omega)
  clear q1
  go_enter Try.func12, Try.ntmps12
  go_wp2
  go_ret
  exact ⟨congrArg (fun x => Ending.returned (.int .i64 x)) e2, b0⟩
set_option maxHeartbeats 2000000 in
theorem halves_any (v k l m : Int) (w : World) (h1 : 2 ≤ v) (h2 : v ≤ 1000) (h3 : 1 ≤ k) (h4 : k < v) (h5 : 0 ≤ l) (h6 : l ≤ v) (h7 : 0 ≤ m) (h8 : m ≤ v) :
    Calls Try.prog 8 #[.agg #[.int .i64 v, .int .i64 k, .int .i64 l, .int .i64 m]] w fun e w' => e = .returned (.bool (decide (2 * k + (v - 1) * (l - m) = 0) && decide (v % 2 = 1))) ∧ Below w.heap.size w w' := by
  have hbox := heap_alloc_new w (.cells #[.int .i64 v, .int .i64 k, .int .i64 l, .int .i64 m] 23)
  have b0 := balloc w (.cells #[.int .i64 v, .int .i64 k, .int .i64 l, .int .i64 m] 23)
  obtain ⟨x0, x1, x2, x3⟩ := row4f hbox
  have CL := fun w => lean_any v k l m w h1 h2 h3 h4 h5 h6 h7 h8
  have hm : Int.tmod v 2 = v % 2 := Int.tmod_eq_emod_of_nonneg (by omega)
  by_cases h : 2 * k + (v - 1) * (l - m) = 0
  · have e1 : (2 * k + (v - 1) * (l - m) == 0) = true := by simp [h]
    have HD : Hid ((decide (2 * k + (v - 1) * (l - m) = 0) && decide (v % 2 = 1)) = (v % 2 == 1)) := (by rw [decide_eq_true h, Bool.true_and, beqD] : (decide (2 * k + (v - 1) * (l - m) = 0) && decide (v % 2 = 1)) = (v % 2 == 1))
    generalize 2 * k + (v - 1) * (l - m) = n at *
    clear h
    go_enter Try.func8, Try.ntmps8
    go_wp2_with (go_at_call 10; refine (CL _).mono ?_; rintro e w2 ⟨rfl, hb2⟩; have hr2 := (hb2.block w.heap.size (by simp)).trans hbox; obtain ⟨y0, y1, y2, y3⟩ := row4f hr2)
    go_ret
    exact ⟨by rw [HD.out]; first | rfl | (rw [← hm]; rfl), Below.next b0 hb2⟩
  · have e1 : (2 * k + (v - 1) * (l - m) == 0) = false := by simp [h]
    have HD : Hid ((decide (2 * k + (v - 1) * (l - m) = 0) && decide (v % 2 = 1)) = false) := (by rw [decide_eq_false h, Bool.false_and] : (decide (2 * k + (v - 1) * (l - m) = 0) && decide (v % 2 = 1)) = false)
    generalize 2 * k + (v - 1) * (l - m) = n at *
    clear h
    go_enter Try.func8, Try.ntmps8
    go_wp2_with (go_at_call 10; refine (CL _).mono ?_; rintro e w2 ⟨rfl, hb2⟩; have hr2 := (hb2.block w.heap.size (by simp)).trans hbox; obtain ⟨y0, y1, y2, y3⟩ := row4f hr2)
    go_ret
    exact ⟨by rw [HD.out]; rfl, Below.next b0 hb2⟩
set_option maxRecDepth 100000 in
set_option maxHeartbeats 4000000 in
theorem root_any (s : Int) (w : World) (hs : s.natAbs ≤ 2000000) :
    Calls Try.prog 11 #[.int .i64 s] w fun e w' => (∃ r : Nat, e = .returned (.int .i64 (r : Int)) ∧ RootIs s r) ∧ w' = w := by
  go_enter Try.func11, Try.ntmps11
  go_wp2
  go_loopw [3] (fun rv wr => ∃ (r : Nat), rv = .int .i64 (r : Int) ∧ 1 ≤ r ∧ r ≤ 2000 ∧ Hid (∀ q : Nat, 1 ≤ q → q < r → (q * q : Int) ≠ s) ∧ wr = w) (fun rv _ => (2001 - intOf rv).toNat)
  case atStart => exact ⟨1, rfl, by omega, by omega, (fun q h1 h2 => absurd h2 (by omega) : ∀ q : Nat, 1 ≤ q → q < 1 → (q * q : Int) ≠ s), rfl⟩
  case round =>
    obtain ⟨r, rfl, hr1, hr2, HR, rfl⟩ := hrel
    obtain ⟨z, hz⟩ : ∃ z : Int, (r : Int) * (r : Int) = z := ⟨_, rfl⟩
    have hzb : z.natAbs ≤ 4000000 := by rw [← hz]; exact Nat.le_trans (bnd (p := 2000) (q := 2000) (by omega) (by omega)) (by decide)
    have e1 := wrS (x := z) (by omega)
    have HSQ : Hid (∀ q : Nat, r ≤ q → z ≤ (q * q : Int)) := fun q hq => by
      rw [← hz]
      have := Nat.mul_le_mul hq hq
      exact_mod_cast this
    have HZ : Hid ((r : Int) * (r : Int) = z) := hz
    by_cases h1 : z ≤ s
    · have d1 : decide (z ≤ s) = true := decide_eq_true h1
      by_cases h2 : z = s
      · have d2 : (z == s) = true := by simp [h2]
        have HRI : Hid (RootIs s r) := .inl ⟨hr1, by rw [HZ.out, h2]⟩
        clear h1 h2
        go_wp2
        go_ret
        exact ⟨⟨r, rfl, HRI.out⟩, rfl⟩
      · have d2 : (z == s) = false := by simp [h2]
        have hr3 : r < 2000 := by
          apply Classical.byContradiction
          intro k
          obtain rfl : r = 2000 := by omega
          omega
        have HR2 : Hid (∀ q : Nat, 1 ≤ q → q < r + 1 → (q * q : Int) ≠ s) := fun q hq1 hq2 => by
          by_cases e : q = r
          · subst e; rw [HZ.out]; exact h2
          · exact HR.out q hq1 (by omega)
        clear h1 h2
        go_wp2
        go_roundw
        case rel => exact ⟨r + 1, by go_num, by omega, by omega, HR2, by trivial⟩
        case measure => simp [intOf]; omega
    · have d1 : decide (z ≤ s) = false := decide_eq_false h1
      have HRI : Hid (RootIs s 0) := .inr ⟨rfl, fun q hq e => by
        by_cases hqr : q < r
        · exact HR.out q hq hqr e
        · have := HSQ.out q (by omega); omega⟩
      clear h1
      go_wp2
      go_ret
      exact ⟨⟨0, rfl, HRI.out⟩, rfl⟩
end Go.Proofs.Ytlmjlffipinjiab
