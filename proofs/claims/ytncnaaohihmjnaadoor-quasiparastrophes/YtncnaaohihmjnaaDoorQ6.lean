/- The walks of checkWith, Left, Right. -/
import Derived.Test.YtncnaaohihmjnaaDoorQ5
import Derived.Laws.EntriesVeiled
namespace Go.Proofs.YtncnaaohihmjnaaDoor
open Go.RowKit

theorem isOfQ_any (n x : Int) (w : World) : Calls Tryd.prog 24 #[.int .i64 n, .int .i64 x] w fun e w' => e = .returned (.bool (ofB n x)) ∧ w' = w := by
  unfold ofB
  by_cases h : 0 ≤ x
  · have hd : decide (0 ≤ x) = true := decide_eq_true h
    by_cases h2 : x < n
    · have hd2 : decide (x < n) = true := decide_eq_true h2
      go_enter Tryd.func24, Tryd.ntmps24
      go_wp2
      go_ret
      simp [hd, hd2]
    · have hd2 : decide (x < n) = false := decide_eq_false h2
      go_enter Tryd.func24, Tryd.ntmps24
      go_wp2
      go_ret
      simp
  · have hd : decide (0 ≤ x) = false := decide_eq_false h
    go_enter Tryd.func24, Tryd.ntmps24
    go_wp2
    go_ret
    simp
theorem ofB_iff {n x : Int} : ofB n x = true ↔ 0 ≤ x ∧ x < n := by unfold ofB; simp
set_option maxHeartbeats 4000000 in
theorem checkWith_bad (s a b : Int) (L : List Int) (v : Value) (w : World) (hv : Sl w v L) (hl : L.length ≤ maxLen) (h : lF s L ≠ 0) :
    Calls Tryd.prog 12 #[.agg #[.int .i64 s, v], .int .i64 a, .int .i64 b] w fun e w' => e = .returned (.int .i64 (lF s L : Int)) ∧ Below w.heap.size w w' := by
  have C := fun W (b : Below w.heap.size w W) => Check_any s L v W (hv.below b) hl
  have hz : ((lF s L : Int) != 0) = true := by simp; omega
  generalize lF s L = z at *
  clear hv
  go_enter Tryd.func12, Tryd.ntmps12
  go_wp2_with (go_at_call 17; refine (C _ (balloc w _)).mono ?_; rintro e w0 ⟨rfl, b0⟩)
  go_ret
  exact ⟨rfl, Below.next (balloc w _) b0⟩
set_option maxHeartbeats 4000000 in
theorem checkWith_any (n : Nat) (a b : Int) (L : List Int) (v : Value) (w : World) (hv : Sl w v L) (G : GoodS n L) :
    Calls Tryd.prog 12 #[.agg #[.int .i64 (n : Int), v], .int .i64 a, .int .i64 b] w fun e w' => e = .returned (.int .i64 (if ofB n a && ofB n b then 0 else 1)) ∧ Below w.heap.size w w' := by
  have C := fun W (b : Below w.heap.size w W) => Check_any n L v W (hv.below b) (good_len G)
  rw [lF_good G] at C
  have D1 := fun W => isOfQ_any n a W
  have D2 := fun W => isOfQ_any n b W
  have SS : Hid (∀ W, Below (w.alloc (.cells #[.int .i64 (n : Int), v] 24)).heap.size (w.alloc (.cells #[.int .i64 (n : Int), v] 24)) W → W.cell? ⟨w.heap.size, 0, none⟩ = some (.int .i64 (n : Int)) ∧ W.cell? ⟨w.heap.size, 1, none⟩ = some v ∧ W.rangeAt w.heap.size 0 [.int .i64 (n : Int), v]) := one_box n v w
  generalize ofB n a = p at *
  generalize ofB n b = q at *
  clear hv G
  cases p with
  | false =>
    go_enter Tryd.func12, Tryd.ntmps12
    go_wp2_with (first
      | (go_at_call 17; refine (C _ (balloc w _)).mono ?_; rintro e w0 ⟨rfl, b0⟩; obtain ⟨x0, x1, _⟩ := SS.out _ b0; have hB := Below.next (balloc w _) b0)
      | (go_at_call 24; refine (D1 _).mono ?_; rintro e w1 ⟨rfl, hw⟩; replace hw := hw.symm; subst hw))
    go_ret
    exact ⟨rfl, hB⟩
  | true =>
    cases q with
    | false =>
      go_enter Tryd.func12, Tryd.ntmps12
      go_wp2_with (first
        | (go_at_call 17; refine (C _ (balloc w _)).mono ?_; rintro e w0 ⟨rfl, b0⟩; obtain ⟨x0, x1, _⟩ := SS.out _ b0; have hB := Below.next (balloc w _) b0)
        | (go_at_call 24; refine (D1 _).mono ?_; rintro e w1 ⟨rfl, hw⟩; replace hw := hw.symm; subst hw; clear D1)
        | (go_at_call 24; refine (D2 _).mono ?_; rintro e w1 ⟨rfl, hw⟩; replace hw := hw.symm; subst hw; clear D2))
      go_ret
      exact ⟨rfl, hB⟩
    | true =>
      go_enter Tryd.func12, Tryd.ntmps12
      go_wp2_with (first
        | (go_at_call 17; refine (C _ (balloc w _)).mono ?_; rintro e w0 ⟨rfl, b0⟩; obtain ⟨x0, x1, _⟩ := SS.out _ b0; have hB := Below.next (balloc w _) b0)
        | (go_at_call 24; refine (D1 _).mono ?_; rintro e w1 ⟨rfl, hw⟩; replace hw := hw.symm; subst hw; clear D1)
        | (go_at_call 24; refine (D2 _).mono ?_; rintro e w1 ⟨rfl, hw⟩; replace hw := hw.symm; subst hw; clear D2))
      go_ret
      exact ⟨rfl, hB⟩
/-- A square and two numbers in three boxes, as they are read later. -/
theorem three_box (s a b : Int) (u : Value) (w : World) (t t' : TypeId) : ∀ W, Below (((w.alloc (.cells #[.int .i64 s, u] 24)).alloc (.cells #[.int .i64 a] t)).alloc (.cells #[.int .i64 b] t')).heap.size (((w.alloc (.cells #[.int .i64 s, u] 24)).alloc (.cells #[.int .i64 a] t)).alloc (.cells #[.int .i64 b] t')) W →
    W.cell? ⟨w.heap.size, 0, none⟩ = some (.int .i64 s) ∧ W.cell? ⟨w.heap.size, 1, none⟩ = some u ∧ Bx W (w.heap.size + 1) (.int .i64 a) ∧ Bx W (w.heap.size + 1 + 1) (.int .i64 b) := fun W h => by
  obtain ⟨b1, b2⟩ := bx_two (w.alloc (.cells #[.int .i64 s, u] 24)) (.int .i64 a) (.int .i64 b) t t'
  obtain ⟨c0, c1, _⟩ := one_box s u w W (Below.next (two_below _ _ _) h)
  rw [size_one] at b1 b2
  exact ⟨c0, c1, b1.below h, b2.below h⟩
theorem three_below (w : World) (o o' o'' : Obj) : Below w.heap.size w (((w.alloc o).alloc o').alloc o'') := Below.next (two_below w _ _) (balloc _ _)
set_option maxHeartbeats 4000000 in
theorem Left_bad (s a b : Int) (L : List Int) (v : Value) (w : World) (hv : Sl w v L) (hl : L.length ≤ maxLen) (h : lF s L ≠ 0) :
    Calls Tryd.prog 5 #[.agg #[.int .i64 s, v], .int .i64 a, .int .i64 b] w fun e w' => e = .returned (.tuple #[.int .i64 0, .int .i64 (lF s L : Int)]) ∧ Below w.heap.size w w' := by
  have C := fun W (bW : Below w.heap.size w W) => checkWith_bad s a b L v W (hv.below bW) hl h
  have hz : ((lF s L : Int) != 0) = true := by simp; omega
  generalize lF s L = z at *
  clear hv
  go_enter Tryd.func5, Tryd.ntmps5
  go_wp2_with (go_at_call 12; refine (C _ (three_below w _ _ _)).mono ?_; rintro e w0 ⟨rfl, b0⟩)
  go_ret2
  exact ⟨rfl, Below.next (three_below w _ _ _) b0⟩
set_option maxHeartbeats 4000000 in
theorem Left_out (n : Nat) (a b : Int) (L : List Int) (v : Value) (w : World) (hv : Sl w v L) (G : GoodS n L) (h : ¬ (0 ≤ a ∧ a < n ∧ 0 ≤ b ∧ b < n)) :
    Calls Tryd.prog 5 #[.agg #[.int .i64 (n : Int), v], .int .i64 a, .int .i64 b] w fun e w' => e = .returned (.tuple #[.int .i64 0, .int .i64 1]) ∧ Below w.heap.size w w' := by
  have C := fun W (bW : Below w.heap.size w W) => checkWith_any n a b L v W (hv.below bW) G
  have hp : (ofB n a && ofB n b) = false := by
    cases h1 : ofB n a with
    | false => rfl
    | true =>
      cases h2 : ofB n b with
      | false => rfl
      | true => exact (h ⟨(ofB_iff.1 h1).1, (ofB_iff.1 h1).2, (ofB_iff.1 h2).1, (ofB_iff.1 h2).2⟩).elim
  rw [hp] at C
  clear hv h hp G
  go_enter Tryd.func5, Tryd.ntmps5
  go_wp2_with (go_at_call 12; refine (C _ (three_below w _ _ _)).mono ?_; rintro e w0 ⟨rfl, b0⟩)
  go_ret2
  exact ⟨rfl, Below.next (three_below w _ _ _) b0⟩
set_option maxHeartbeats 4000000 in
theorem Left_ok (n a b y : Nat) (L : List Int) (v : Value) (w : World) (hv : Sl w v L) (G : GoodS n L) (ha : a < n) (hb : b < n) (hy : fstN n (fun y => sq n L a y == b) = some y) :
    Calls Tryd.prog 5 #[.agg #[.int .i64 (n : Int), v], .int .i64 (a : Int), .int .i64 (b : Int)] w fun e w' => e = .returned (.tuple #[.int .i64 (y : Int), .int .i64 0]) ∧ Below w.heap.size w w' := by
  have C := fun W (bW : Below w.heap.size w W) => checkWith_any n a b L v W (hv.below bW) G
  have hp : (ofB n a && ofB n b) = true := by
    rw [Bool.and_eq_true, ofB_iff, ofB_iff]; omega
  rw [hp] at C
  have A1 := fun W (bW : Below w.heap.size w W) => productOf_any n L v W (hv.below bW) G
  have A2 : ∀ z W i j k (_ : Teller z n n (sq n L) W) (_ : Bx W i z) (_ : Bx W j (.int .i64 (a : Int))) (_ : Bx W k (.int .i64 (b : Int))), Calls Tryd.prog 14 #[.int .i64 (n : Int), .func (.func 15) #[] #[.pointer (some ⟨i, 0, none⟩), .pointer (some ⟨j, 0, none⟩), .pointer (some ⟨k, 0, none⟩)]] W fun e w' => e = .returned (.tuple #[.int .i64 (y : Int), .bool true]) ∧ Below W.heap.size W w' := fun z W i j k hT hi hj hk =>
    first_any n _ (some y) _ _ G.le ⟨_, _, rfl, e40, fun W' hB x hx => left1_any n i j k a b x (sq n L) z _ W' hT hB (hi.below hB) (hj.below hB) (hk.below hB) ha hx⟩ hy
  have SS : Hid (∀ t t' W, Below (((w.alloc (.cells #[.int .i64 (n : Int), v] 24)).alloc (.cells #[.int .i64 (a : Int)] t)).alloc (.cells #[.int .i64 (b : Int)] t')).heap.size (((w.alloc (.cells #[.int .i64 (n : Int), v] 24)).alloc (.cells #[.int .i64 (a : Int)] t)).alloc (.cells #[.int .i64 (b : Int)] t')) W → W.cell? ⟨w.heap.size, 0, none⟩ = some (.int .i64 (n : Int)) ∧ W.cell? ⟨w.heap.size, 1, none⟩ = some v ∧ Bx W (w.heap.size + 1) (.int .i64 (a : Int)) ∧ Bx W (w.heap.size + 1 + 1) (.int .i64 (b : Int))) := three_box n a b v w
  clear hv G hy hp
  go_enter Tryd.func5, Tryd.ntmps5
  go_wp2_with (first
    | (go_at_call 12; refine (C _ (three_below w _ _ _)).mono ?_; rintro e w0 ⟨rfl, b0⟩; obtain ⟨x0, x1, _⟩ := SS.out _ _ _ b0; have hB := Below.next (three_below w _ _ _) b0)
    | (go_at_call 13; refine (A1 _ hB).mono ?_; rintro e w1 ⟨⟨z, rfl, hT⟩, b1⟩; obtain ⟨g, lb, rfl⟩ := hT.form; have hB1 := Below.next hB b1; have y0 := fun t => SS.out _ _ _ (Below.next (Below.next b0 b1) (balloc w1 (.cells #[.func (.func g) #[] lb] t))); have z0 := fun t => (y0 t).1)
    | (go_at_call 14; refine (A2 _ _ _ _ _ (hT.below (balloc w1 _)) (bx_new w1 _ _) (y0 _).2.2.1 (y0 _).2.2.2).mono ?_; rintro e w2 ⟨rfl, b2⟩; have hB2 := Below.next (Below.next hB1 (balloc w1 _)) b2))
  go_ret2
  exact ⟨rfl, hB2⟩
set_option maxHeartbeats 4000000 in
theorem Right_bad (s a b : Int) (L : List Int) (v : Value) (w : World) (hv : Sl w v L) (hl : L.length ≤ maxLen) (h : lF s L ≠ 0) :
    Calls Tryd.prog 6 #[.agg #[.int .i64 s, v], .int .i64 a, .int .i64 b] w fun e w' => e = .returned (.tuple #[.int .i64 0, .int .i64 (lF s L : Int)]) ∧ Below w.heap.size w w' := by
  have C := fun W (bW : Below w.heap.size w W) => checkWith_bad s a b L v W (hv.below bW) hl h
  have hz : ((lF s L : Int) != 0) = true := by simp; omega
  generalize lF s L = z at *
  clear hv
  go_enter Tryd.func6, Tryd.ntmps6
  go_wp2_with (go_at_call 12; refine (C _ (three_below w _ _ _)).mono ?_; rintro e w0 ⟨rfl, b0⟩)
  go_ret2
  exact ⟨rfl, Below.next (three_below w _ _ _) b0⟩
set_option maxHeartbeats 4000000 in
theorem Right_out (n : Nat) (a b : Int) (L : List Int) (v : Value) (w : World) (hv : Sl w v L) (G : GoodS n L) (h : ¬ (0 ≤ a ∧ a < n ∧ 0 ≤ b ∧ b < n)) :
    Calls Tryd.prog 6 #[.agg #[.int .i64 (n : Int), v], .int .i64 a, .int .i64 b] w fun e w' => e = .returned (.tuple #[.int .i64 0, .int .i64 1]) ∧ Below w.heap.size w w' := by
  have C := fun W (bW : Below w.heap.size w W) => checkWith_any n a b L v W (hv.below bW) G
  have hp : (ofB n a && ofB n b) = false := by
    cases h1 : ofB n a with
    | false => rfl
    | true =>
      cases h2 : ofB n b with
      | false => rfl
      | true => exact (h ⟨(ofB_iff.1 h1).1, (ofB_iff.1 h1).2, (ofB_iff.1 h2).1, (ofB_iff.1 h2).2⟩).elim
  rw [hp] at C
  clear hv h hp G
  go_enter Tryd.func6, Tryd.ntmps6
  go_wp2_with (go_at_call 12; refine (C _ (three_below w _ _ _)).mono ?_; rintro e w0 ⟨rfl, b0⟩)
  go_ret2
  exact ⟨rfl, Below.next (three_below w _ _ _) b0⟩
set_option maxHeartbeats 4000000 in
theorem Right_ok (n a b y : Nat) (L : List Int) (v : Value) (w : World) (hv : Sl w v L) (G : GoodS n L) (ha : a < n) (hb : b < n) (hy : fstN n (fun y => sq n L y a == b) = some y) :
    Calls Tryd.prog 6 #[.agg #[.int .i64 (n : Int), v], .int .i64 (a : Int), .int .i64 (b : Int)] w fun e w' => e = .returned (.tuple #[.int .i64 (y : Int), .int .i64 0]) ∧ Below w.heap.size w w' := by
  have C := fun W (bW : Below w.heap.size w W) => checkWith_any n a b L v W (hv.below bW) G
  have hp : (ofB n a && ofB n b) = true := by
    rw [Bool.and_eq_true, ofB_iff, ofB_iff]; omega
  rw [hp] at C
  have A1 := fun W (bW : Below w.heap.size w W) => productOf_any n L v W (hv.below bW) G
  have A2 : ∀ z W i j k (_ : Teller z n n (sq n L) W) (_ : Bx W i z) (_ : Bx W j (.int .i64 (a : Int))) (_ : Bx W k (.int .i64 (b : Int))), Calls Tryd.prog 14 #[.int .i64 (n : Int), .func (.func 16) #[] #[.pointer (some ⟨i, 0, none⟩), .pointer (some ⟨j, 0, none⟩), .pointer (some ⟨k, 0, none⟩)]] W fun e w' => e = .returned (.tuple #[.int .i64 (y : Int), .bool true]) ∧ Below W.heap.size W w' := fun z W i j k hT hi hj hk =>
    first_any n _ (some y) _ _ G.le ⟨_, _, rfl, e41, fun W' hB x hx => right1_any n i j k a b x (sq n L) z _ W' hT hB (hi.below hB) (hj.below hB) (hk.below hB) ha hx⟩ hy
  have SS : Hid (∀ t t' W, Below (((w.alloc (.cells #[.int .i64 (n : Int), v] 24)).alloc (.cells #[.int .i64 (a : Int)] t)).alloc (.cells #[.int .i64 (b : Int)] t')).heap.size (((w.alloc (.cells #[.int .i64 (n : Int), v] 24)).alloc (.cells #[.int .i64 (a : Int)] t)).alloc (.cells #[.int .i64 (b : Int)] t')) W → W.cell? ⟨w.heap.size, 0, none⟩ = some (.int .i64 (n : Int)) ∧ W.cell? ⟨w.heap.size, 1, none⟩ = some v ∧ Bx W (w.heap.size + 1) (.int .i64 (a : Int)) ∧ Bx W (w.heap.size + 1 + 1) (.int .i64 (b : Int))) := three_box n a b v w
  clear hv G hy hp
  go_enter Tryd.func6, Tryd.ntmps6
  go_wp2_with (first
    | (go_at_call 12; refine (C _ (three_below w _ _ _)).mono ?_; rintro e w0 ⟨rfl, b0⟩; obtain ⟨x0, x1, _⟩ := SS.out _ _ _ b0; have hB := Below.next (three_below w _ _ _) b0)
    | (go_at_call 13; refine (A1 _ hB).mono ?_; rintro e w1 ⟨⟨z, rfl, hT⟩, b1⟩; obtain ⟨g, lb, rfl⟩ := hT.form; have hB1 := Below.next hB b1; have y0 := fun t => SS.out _ _ _ (Below.next (Below.next b0 b1) (balloc w1 (.cells #[.func (.func g) #[] lb] t))); have z0 := fun t => (y0 t).1)
    | (go_at_call 14; refine (A2 _ _ _ _ _ (hT.below (balloc w1 _)) (bx_new w1 _ _) (y0 _).2.2.1 (y0 _).2.2.2).mono ?_; rintro e w2 ⟨rfl, b2⟩; have hB2 := Below.next (Below.next hB1 (balloc w1 _)) b2))
  go_ret2
  exact ⟨rfl, hB2⟩
end Go.Proofs.YtncnaaohihmjnaaDoor
