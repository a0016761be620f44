/- The law HadaMakes. -/
import Derived.Test.YtamdpcajfgbagaaDoorLMd
import Derived.Test.YtamdpcajfgbagaaDoorG5
import Derived.Test.YtamdpcajfgbagaaDoorG6
import Derived.Test.YtamdpcajfgbagaaDoorG7
import Derived.Test.YtamdpcajfgbagaaDoorSqA
namespace Go.Proofs.YtamdpcajfgbagaaDoor
open Go.RowKit

/-- What a maker tells: a square of its own and an error. -/
def Mo (f : Nat) (args : Array Value) (n z : Nat) (l : List Int) (W : World) : Prop :=
  Calls Tryd.prog f args W fun e w' => (∃ y, e = .returned (.tuple #[.agg #[.int .i64 (n : Int), y], .int .i64 (z : Int)]) ∧ OwnS w' y l) ∧ Below W.heap.size W w'
theorem mo_err {f : Nat} {args : Array Value} {z : Nat} {W : World} (h : Calls Tryd.prog f args W fun e w' => e = .returned (.tuple #[.agg #[.int .i64 0, .slice none 0 0], .int .i64 (z : Int)]) ∧ Below W.heap.size W w') : Mo f args 0 z [] W :=
  h.mono fun _ _ ⟨he, hb⟩ => ⟨⟨_, he, OwnS.nil _⟩, hb⟩
theorem mo_ok {f n : Nat} {t : Nat → Nat → Int} {args : Array Value} {W : World} (h : Calls Tryd.prog f args W fun e w' => (∃ y, e = .returned (.tuple #[.agg #[.int .i64 (n : Int), y], .int .i64 0]) ∧ w'.ownsRow W.heap.size 3 1 y (n * n) (vi (flI n t (n * n)))) ∧ Below W.heap.size W w') : Mo f args n 0 (flI n t (n * n)) W :=
  h.mono fun _ _ ⟨⟨y, he, hW⟩, hb⟩ => ⟨⟨y, he, OwnS.fl hW⟩, hb⟩
theorem Syl_two (k : Int) : ∃ (n z : Nat) (l : List Int), l.length ≤ maxLen ∧ (∀ W, Mo 5 #[.int .i64 k] n z l W) ∧ ∀ W, Mo 6 #[.int .i64 k] n z l W := by
  by_cases h : k < 0 ∨ 4 < k
  · exact ⟨0, 1, [], by simp, fun W => mo_err (z := 1) (Sylvester_bad k W h), fun W => mo_err (z := 1) (DSyl_bad k W h)⟩
  · obtain ⟨m, rfl⟩ : ∃ m : Nat, k = m := ⟨k.toNat, by omega⟩
    have hm : m ≤ 4 := by omega
    obtain ⟨p1, p2⟩ := pow16 hm
    have := Nat.mul_le_mul p2 p2
    exact ⟨2 ^ m, 0, flI (2 ^ m) syF (2 ^ m * 2 ^ m), by rw [flI_len]; unfold maxLen; omega, fun W => mo_ok (Sylvester_ok m W hm), fun W => DSyl_ok m W hm⟩
theorem Pal_two (p : Int) : ∃ (n z : Nat) (l : List Int), l.length ≤ maxLen ∧ (∀ W, Fd.Tab W → Mo 8 #[.int .i64 p] n z l W) ∧ ∀ W, Mo 9 #[.int .i64 p] n z l W := by
  by_cases h : p < 1 ∨ 23 < p
  · exact ⟨0, 1, [], by simp, fun W _ => mo_err (z := 1) (Pal_far p W h), fun W => mo_err (z := 1) (DPal_far p W h)⟩
  · obtain ⟨m, rfl⟩ : ∃ m : Nat, p = m := ⟨p.toNat, by omega⟩
    cases hq : p43 m
    · exact ⟨0, 4, [], by simp, fun W hT => mo_err (z := 4) (Pal_none m W hT (by omega) (by omega) hq), fun W => mo_err (z := 4) (DPal_none m W (by omega) (by omega) hq)⟩
    · have := Nat.mul_le_mul (show m + 1 ≤ 24 by omega) (show m + 1 ≤ 24 by omega)
      exact ⟨m + 1, 0, flI (m + 1) (paF m) ((m + 1) * (m + 1)), by rw [flI_len]; unfold maxLen; omega, fun W hT => mo_ok (Pal_ok m W hT (by omega) (by omega) hq), fun W => DPal_ok m W (by omega) (by omega) hq⟩
set_option maxRecDepth 100000 in
set_option maxHeartbeats 8000000 in
theorem Mks_a (k p s t : Int) (L M : List Int) (u v : Value) (w : World) (n1 z1 n2 z2 n3 z3 : Nat) (l1 l2 l3 : List Int) (hT : Fd.Tab w) (hu : Sl w u L) (hv : Sl w v M) (hL : L.length ≤ maxLen) (_hM : M.length ≤ maxLen) (h1 : l1.length ≤ maxLen) (h2 : l2.length ≤ maxLen) (h3 : l3.length ≤ maxLen)
    (P1 : ∀ W, Mo 5 #[.int .i64 k] n1 z1 l1 W) (Q1 : ∀ W, Mo 6 #[.int .i64 k] n1 z1 l1 W) (P2 : ∀ W, Fd.Tab W → Mo 8 #[.int .i64 p] n2 z2 l2 W) (Q2 : ∀ W, Mo 9 #[.int .i64 p] n2 z2 l2 W)
    (P3 : ∀ u v W, Sl W u L → Sl W v M → Mo 10 #[.agg #[.int .i64 s, u], .agg #[.int .i64 t, v]] n3 z3 l3 W) (e1 : hF s L = z3) (e0 : z3 ≠ 0) (en : n3 = 0) (el : l3 = []) :
    Calls Tryd.prog 3 #[.int .i64 k, .int .i64 p, .agg #[.int .i64 s, u], .agg #[.int .i64 t, v]] w fun e w' => e = .returned (.bool true) ∧ Below w.heap.size w w' := by
  obtain ⟨ua, ul, uc, rfl⟩ : ∃ a l c, u = .slice a l c := by obtain ⟨a, c, e, _⟩ := hu; exact ⟨a, _, c, e⟩
  obtain ⟨va, vn, vc, rfl⟩ : ∃ a l c, v = .slice a l c := by obtain ⟨a, c, e, _⟩ := hv; exact ⟨a, _, c, e⟩
  have HB0 : Hid (Below w.heap.size w ((w.alloc (.cells #[.int .i64 s, .slice ua ul uc] 24)).alloc (.cells #[.int .i64 t, .slice va vn vc] 24))) := Below.next (balloc _ _) (balloc _ _)
  have HBX : Hid (∀ X, Below ((w.alloc (.cells #[.int .i64 s, .slice ua ul uc] 24)).alloc (.cells #[.int .i64 t, .slice va vn vc] 24)).heap.size ((w.alloc (.cells #[.int .i64 s, .slice ua ul uc] 24)).alloc (.cells #[.int .i64 t, .slice va vn vc] 24)) X → (X.cell? ⟨w.heap.size, 0, none⟩ = some (.int .i64 s) ∧ X.cell? ⟨w.heap.size, 1, none⟩ = some (.slice ua ul uc)) ∧ (X.cell? ⟨w.heap.size + 1, 0, none⟩ = some (.int .i64 t) ∧ X.cell? ⟨w.heap.size + 1, 1, none⟩ = some (.slice va vn vc))) := fun X bX => by
    have k1 := (bX.block w.heap.size (by simp; omega)).trans (first_box w (.cells #[.int .i64 t, .slice va vn vc] 24) #[.int .i64 s, .slice ua ul uc] 24)
    have k2 := (bX.block (w.heap.size + 1) (by simp)).trans (second_box w (.cells #[.int .i64 s, .slice ua ul uc] 24) #[.int .i64 t, .slice va vn vc] 24)
    exact ⟨⟨by rw [cell_of_row _ _ _ _ _ _ k1]; rfl, by rw [cell_of_row _ _ _ _ _ _ k1]; rfl⟩, by rw [cell_of_row _ _ _ _ _ _ k2]; rfl, by rw [cell_of_row _ _ _ _ _ _ k2]; rfl⟩
  have T1 : Hid (∀ W, Calls Tryd.prog 5 #[.int .i64 k] W fun e w' => (∃ y, e = .returned (.tuple #[.agg #[.int .i64 (n1 : Int), y], .int .i64 (z1 : Int)]) ∧ OwnS w' y l1) ∧ Below W.heap.size W w') := P1
  have U1 : Hid (∀ W, Calls Tryd.prog 6 #[.int .i64 k] W fun e w' => (∃ y, e = .returned (.tuple #[.agg #[.int .i64 (n1 : Int), y], .int .i64 (z1 : Int)]) ∧ OwnS w' y l1) ∧ Below W.heap.size W w') := Q1
  have T2 : Hid (∀ W, Below ((w.alloc (.cells #[.int .i64 s, .slice ua ul uc] 24)).alloc (.cells #[.int .i64 t, .slice va vn vc] 24)).heap.size ((w.alloc (.cells #[.int .i64 s, .slice ua ul uc] 24)).alloc (.cells #[.int .i64 t, .slice va vn vc] 24)) W → Calls Tryd.prog 8 #[.int .i64 p] W fun e w' => (∃ y, e = .returned (.tuple #[.agg #[.int .i64 (n2 : Int), y], .int .i64 (z2 : Int)]) ∧ OwnS w' y l2) ∧ Below W.heap.size W w') := fun W b => P2 W (hT.below (Below.next HB0.out b))
  have U2 : Hid (∀ W, Calls Tryd.prog 9 #[.int .i64 p] W fun e w' => (∃ y, e = .returned (.tuple #[.agg #[.int .i64 (n2 : Int), y], .int .i64 (z2 : Int)]) ∧ OwnS w' y l2) ∧ Below W.heap.size W w') := Q2
  have T3 : Hid (∀ W, Below ((w.alloc (.cells #[.int .i64 s, .slice ua ul uc] 24)).alloc (.cells #[.int .i64 t, .slice va vn vc] 24)).heap.size ((w.alloc (.cells #[.int .i64 s, .slice ua ul uc] 24)).alloc (.cells #[.int .i64 t, .slice va vn vc] 24)) W → Calls Tryd.prog 10 #[.agg #[.int .i64 s, .slice ua ul uc], .agg #[.int .i64 t, .slice va vn vc]] W fun e w' => (∃ y, e = .returned (.tuple #[.agg #[.int .i64 (n3 : Int), y], .int .i64 (z3 : Int)]) ∧ OwnS w' y l3) ∧ Below W.heap.size W w') := fun W b => P3 _ _ W (hu.below (Below.next HB0.out b)) (hv.below (Below.next HB0.out b))
  have F1 : Hid (∀ W, Below ((w.alloc (.cells #[.int .i64 s, .slice ua ul uc] 24)).alloc (.cells #[.int .i64 t, .slice va vn vc] 24)).heap.size ((w.alloc (.cells #[.int .i64 s, .slice ua ul uc] 24)).alloc (.cells #[.int .i64 t, .slice va vn vc] 24)) W → Calls Tryd.prog 11 #[.agg #[.int .i64 s, .slice ua ul uc]] W fun e w' => e = .returned (.int .i64 ((z3 : Int))) ∧ Below W.heap.size W w') := fun W b => by
    have h := Fault_any s L _ W (hu.below (Below.next HB0.out b)) hL
    rw [e1] at h
    exact h
  have E1 : Hid (∀ y y' W, Sl W y l1 → Sl W y' l1 → Calls Tryd.prog 7 #[.agg #[.int .i64 (n1 : Int), y], .agg #[.int .i64 (n1 : Int), y']] W fun e w' => e = .returned (.bool true) ∧ Below W.heap.size W w') := fun y y' W h h' => Squares_same n1 l1 y y' W h h' h1
  have g1 : ((z1 : Int) != (z1 : Int)) = false := by simp
  have g1' : ((z1 : Int) == (z1 : Int)) = true := by simp
  have E2 : Hid (∀ y y' W, Sl W y l2 → Sl W y' l2 → Calls Tryd.prog 7 #[.agg #[.int .i64 (n2 : Int), y], .agg #[.int .i64 (n2 : Int), y']] W fun e w' => e = .returned (.bool true) ∧ Below W.heap.size W w') := fun y y' W h h' => Squares_same n2 l2 y y' W h h' h2
  have g2 : ((z2 : Int) != (z2 : Int)) = false := by simp
  have g2' : ((z2 : Int) == (z2 : Int)) = true := by simp
  have E3 : Hid (∀ y y' W, Sl W y l3 → Sl W y' l3 → Calls Tryd.prog 7 #[.agg #[.int .i64 (n3 : Int), y], .agg #[.int .i64 (n3 : Int), y']] W fun e w' => e = .returned (.bool true) ∧ Below W.heap.size W w') := fun y y' W h h' => Squares_same n3 l3 y y' W h h' h3
  have g3 : ((z3 : Int) != (z3 : Int)) = false := by simp
  have g3' : ((z3 : Int) == (z3 : Int)) = true := by simp
  have gz : ((z3 : Int) == 0) = false := by simp [e0]
  subst en el
  clear hu hv hT P1 Q1 P2 Q2 P3 hL _hM h1 h2 h3 e1 e0
  go_enter Tryd.func3, Tryd.ntmps3
  go_wp2_with (first
    | (go_at_call 5; refine (T1.out _).mono ?_; rintro e w1 ⟨⟨y1, rfl, O1⟩, j1⟩; clear T1; obtain ⟨y1a, y1l, y1c, rfl⟩ := O1.slice; obtain ⟨q, Hq⟩ : ∃ q, Hid (w1.heap.size = q) := ⟨_, rfl⟩; have hq : w1.heap.size = q := Hq.out; have hq1 := heap_alloc_new w1 (.cells #[.int .i64 (n1 : Int), .slice y1a y1l y1c] 24); rw [hq] at hq1; have J1 := Below.next j1 (balloc w1 (.cells #[.int .i64 (n1 : Int), .slice y1a y1l y1c] 24)); have O1' := O1.below (balloc w1 (.cells #[.int .i64 (n1 : Int), .slice y1a y1l y1c] 24)); have lq := j1.size; rw [hq] at lq; have sq1 : (w1.alloc (.cells #[.int .i64 (n1 : Int), .slice y1a y1l y1c] 24)).heap.size = q + 1 := (by simp; omega))
    | (go_at_call 6; refine (U1.out _).mono ?_; rintro e w2 ⟨⟨x1, rfl, X1⟩, j2⟩; clear U1; obtain ⟨x1a, x1l, x1c, rfl⟩ := X1.slice; obtain ⟨r, Hr⟩ : ∃ r, Hid (w2.heap.size = r) := ⟨_, rfl⟩; have hr : w2.heap.size = r := Hr.out; have lr := j2.size; rw [sq1, hr] at lr; have bb := balloc w2 (.cells #[.int .i64 (n1 : Int), .slice x1a x1l x1c] 24); have hr1 := heap_alloc_new w2 (.cells #[.int .i64 (n1 : Int), .slice x1a x1l x1c] 24); rw [hr] at hr1; have S2 : Sq2 ((w.alloc (.cells #[.int .i64 s, .slice ua ul uc] 24)).alloc (.cells #[.int .i64 t, .slice va vn vc] 24)) (w2.alloc (.cells #[.int .i64 (n1 : Int), .slice x1a x1l x1c] 24)) q r (n1 : Int) (.slice y1a y1l y1c) (n1 : Int) (.slice x1a x1l x1c) := ⟨Below.next (Below.next J1 j2) bb, (bb.block q (by omega)).trans ((j2.block q (by rw [sq1]; omega)).trans hq1), hr1, lq, by omega, by omega⟩; have hne : ¬ q = r := (by omega); have hne' : ¬ r = q := (by omega); obtain ⟨⟨q0, q1⟩, r0, r1⟩ := S2.cells; have D := E1.out _ _ _ ((O1'.below j2).below bb).sl (X1.below bb).sl; clear E1)
    | (go_at_call 7; refine D.mono ?_; rintro e w3 ⟨rfl, j3⟩; clear D; have S3 := S2.below j3; clear q0 q1 r0 r1; have D2 := T2.out _ S3.j; clear T2)
    | (go_at_call 8; refine D2.mono ?_; rintro e w4 ⟨⟨y2, rfl, O2⟩, j4⟩; clear D2; obtain ⟨y2a, y2l, y2c, rfl⟩ := O2.slice; have S4 := S3.below j4; obtain ⟨⟨q0, q1⟩, r0, r1⟩ := S4.cells; obtain ⟨⟨fq0, fq1⟩, fr0, fr1⟩ := S4.froz; have S4' := S4.put1 (n2 : Int) (.slice y2a y2l y2c); have O2' := O2.put (u := .int .i64 (n2 : Int)) (v := .slice y2a y2l y2c) S4.q; have D3 := U2.out ((w4.setCell ⟨q, 0, none⟩ (.int .i64 (n2 : Int))).setCell ⟨q, 1, none⟩ (.slice y2a y2l y2c)); clear U2)
    | (go_at_call 9; refine D3.mono ?_; rintro e w5 ⟨⟨x2, rfl, X2⟩, j5⟩; clear D3; clear q0 q1 r0 r1; clear fq0 fq1 fr0 fr1; obtain ⟨x2a, x2l, x2c, rfl⟩ := X2.slice; have S5 := S4'.below j5; obtain ⟨⟨q0, q1⟩, r0, r1⟩ := S5.cells; obtain ⟨⟨fq0, fq1⟩, fr0, fr1⟩ := S5.froz; have S5' := S5.put2 (n2 : Int) (.slice x2a x2l x2c); have O2'' := (O2'.below j5).put (u := .int .i64 (n2 : Int)) (v := .slice x2a x2l x2c) S5.r; have X2' := X2.put (u := .int .i64 (n2 : Int)) (v := .slice x2a x2l x2c) S5.r; have D4 := E2.out _ _ _ O2''.sl X2'.sl; clear E2)
    | (go_at_call 7; refine D4.mono ?_; rintro e w6 ⟨rfl, j6⟩; clear D4; clear q0 q1 r0 r1; clear fq0 fq1 fr0 fr1; have S6 := S5'.below j6; obtain ⟨⟨a0, a1⟩, b0, b1⟩ := HBX.out _ S6.j; have D5 := T3.out _ S6.j; clear T3)
    | (go_at_call 10; refine D5.mono ?_; rintro e w7 ⟨⟨y3, rfl, O3⟩, j7⟩; clear D5 a0 a1 b0 b1; obtain ⟨y3a, y3l, y3c, rfl⟩ := O3.slice; have S7 := S6.below j7; obtain ⟨⟨q0, q1⟩, r0, r1⟩ := S7.cells; obtain ⟨⟨fq0, fq1⟩, fr0, fr1⟩ := S7.froz; have S7' := S7.put1 0 (.slice y3a y3l y3c); have S7b := S7'.put2 0 (.slice none 0 0); have O3' := (O3.put (u := .int .i64 0) (v := .slice y3a y3l y3c) S7.q).put (u := .int .i64 0) (v := .slice none 0 0) S7'.r; obtain ⟨⟨a0, a1⟩, b0, b1⟩ := HBX.out _ S7b.j; obtain ⟨⟨cq0, cq1⟩, cr0, cr1⟩ := S7'.cells; obtain ⟨⟨gq0, gq1⟩, gr0, gr1⟩ := S7'.froz; have D6 := F1.out _ S7b.j; clear F1)
    | (go_at_call 11; refine D6.mono ?_; rintro e w8 ⟨rfl, j8⟩; clear D6; clear a0 a1 b0 b1; clear q0 q1 r0 r1; clear fq0 fq1 fr0 fr1; clear cq0 cq1 cr0 cr1 gq0 gq1 gr0 gr1; have S8 := S7b.below j8; have O8 := O3'.below j8; obtain ⟨⟨q0, q1⟩, r0, r1⟩ := S8.cells; have D7 := E3.out _ _ _ O8.sl (Sl.nil w8); clear E3)
    | (go_at_call 7; refine D7.mono ?_; rintro e w11 ⟨rfl, j11⟩; clear D7))
  go_ret
  exact ⟨rfl, Below.next HB0.out (Below.next S8.j j11)⟩
set_option maxRecDepth 100000 in
set_option maxHeartbeats 8000000 in
theorem Mks_b (k p s t : Int) (L M : List Int) (u v : Value) (w : World) (n1 z1 n2 z2 n3 z3 : Nat) (l1 l2 l3 : List Int) (hT : Fd.Tab w) (hu : Sl w u L) (hv : Sl w v M) (hL : L.length ≤ maxLen) (hM : M.length ≤ maxLen) (h1 : l1.length ≤ maxLen) (h2 : l2.length ≤ maxLen) (h3 : l3.length ≤ maxLen)
    (P1 : ∀ W, Mo 5 #[.int .i64 k] n1 z1 l1 W) (Q1 : ∀ W, Mo 6 #[.int .i64 k] n1 z1 l1 W) (P2 : ∀ W, Fd.Tab W → Mo 8 #[.int .i64 p] n2 z2 l2 W) (Q2 : ∀ W, Mo 9 #[.int .i64 p] n2 z2 l2 W)
    (P3 : ∀ u v W, Sl W u L → Sl W v M → Mo 10 #[.agg #[.int .i64 s, u], .agg #[.int .i64 t, v]] n3 z3 l3 W) (e1 : hF s L = 0) (e2 : hF t M = z3) (e0 : z3 ≠ 0) (en : n3 = 0) (el : l3 = []) :
    Calls Tryd.prog 3 #[.int .i64 k, .int .i64 p, .agg #[.int .i64 s, u], .agg #[.int .i64 t, v]] w fun e w' => e = .returned (.bool true) ∧ Below w.heap.size w w' := by
  obtain ⟨ua, ul, uc, rfl⟩ : ∃ a l c, u = .slice a l c := by obtain ⟨a, c, e, _⟩ := hu; exact ⟨a, _, c, e⟩
  obtain ⟨va, vn, vc, rfl⟩ : ∃ a l c, v = .slice a l c := by obtain ⟨a, c, e, _⟩ := hv; exact ⟨a, _, c, e⟩
  have HB0 : Hid (Below w.heap.size w ((w.alloc (.cells #[.int .i64 s, .slice ua ul uc] 24)).alloc (.cells #[.int .i64 t, .slice va vn vc] 24))) := Below.next (balloc _ _) (balloc _ _)
  have HBX : Hid (∀ X, Below ((w.alloc (.cells #[.int .i64 s, .slice ua ul uc] 24)).alloc (.cells #[.int .i64 t, .slice va vn vc] 24)).heap.size ((w.alloc (.cells #[.int .i64 s, .slice ua ul uc] 24)).alloc (.cells #[.int .i64 t, .slice va vn vc] 24)) X → (X.cell? ⟨w.heap.size, 0, none⟩ = some (.int .i64 s) ∧ X.cell? ⟨w.heap.size, 1, none⟩ = some (.slice ua ul uc)) ∧ (X.cell? ⟨w.heap.size + 1, 0, none⟩ = some (.int .i64 t) ∧ X.cell? ⟨w.heap.size + 1, 1, none⟩ = some (.slice va vn vc))) := fun X bX => by
    have k1 := (bX.block w.heap.size (by simp; omega)).trans (first_box w (.cells #[.int .i64 t, .slice va vn vc] 24) #[.int .i64 s, .slice ua ul uc] 24)
    have k2 := (bX.block (w.heap.size + 1) (by simp)).trans (second_box w (.cells #[.int .i64 s, .slice ua ul uc] 24) #[.int .i64 t, .slice va vn vc] 24)
    exact ⟨⟨by rw [cell_of_row _ _ _ _ _ _ k1]; rfl, by rw [cell_of_row _ _ _ _ _ _ k1]; rfl⟩, by rw [cell_of_row _ _ _ _ _ _ k2]; rfl, by rw [cell_of_row _ _ _ _ _ _ k2]; rfl⟩
  have T1 : Hid (∀ W, Calls Tryd.prog 5 #[.int .i64 k] W fun e w' => (∃ y, e = .returned (.tuple #[.agg #[.int .i64 (n1 : Int), y], .int .i64 (z1 : Int)]) ∧ OwnS w' y l1) ∧ Below W.heap.size W w') := P1
  have U1 : Hid (∀ W, Calls Tryd.prog 6 #[.int .i64 k] W fun e w' => (∃ y, e = .returned (.tuple #[.agg #[.int .i64 (n1 : Int), y], .int .i64 (z1 : Int)]) ∧ OwnS w' y l1) ∧ Below W.heap.size W w') := Q1
  have T2 : Hid (∀ W, Below ((w.alloc (.cells #[.int .i64 s, .slice ua ul uc] 24)).alloc (.cells #[.int .i64 t, .slice va vn vc] 24)).heap.size ((w.alloc (.cells #[.int .i64 s, .slice ua ul uc] 24)).alloc (.cells #[.int .i64 t, .slice va vn vc] 24)) W → Calls Tryd.prog 8 #[.int .i64 p] W fun e w' => (∃ y, e = .returned (.tuple #[.agg #[.int .i64 (n2 : Int), y], .int .i64 (z2 : Int)]) ∧ OwnS w' y l2) ∧ Below W.heap.size W w') := fun W b => P2 W (hT.below (Below.next HB0.out b))
  have U2 : Hid (∀ W, Calls Tryd.prog 9 #[.int .i64 p] W fun e w' => (∃ y, e = .returned (.tuple #[.agg #[.int .i64 (n2 : Int), y], .int .i64 (z2 : Int)]) ∧ OwnS w' y l2) ∧ Below W.heap.size W w') := Q2
  have T3 : Hid (∀ W, Below ((w.alloc (.cells #[.int .i64 s, .slice ua ul uc] 24)).alloc (.cells #[.int .i64 t, .slice va vn vc] 24)).heap.size ((w.alloc (.cells #[.int .i64 s, .slice ua ul uc] 24)).alloc (.cells #[.int .i64 t, .slice va vn vc] 24)) W → Calls Tryd.prog 10 #[.agg #[.int .i64 s, .slice ua ul uc], .agg #[.int .i64 t, .slice va vn vc]] W fun e w' => (∃ y, e = .returned (.tuple #[.agg #[.int .i64 (n3 : Int), y], .int .i64 (z3 : Int)]) ∧ OwnS w' y l3) ∧ Below W.heap.size W w') := fun W b => P3 _ _ W (hu.below (Below.next HB0.out b)) (hv.below (Below.next HB0.out b))
  have F1 : Hid (∀ W, Below ((w.alloc (.cells #[.int .i64 s, .slice ua ul uc] 24)).alloc (.cells #[.int .i64 t, .slice va vn vc] 24)).heap.size ((w.alloc (.cells #[.int .i64 s, .slice ua ul uc] 24)).alloc (.cells #[.int .i64 t, .slice va vn vc] 24)) W → Calls Tryd.prog 11 #[.agg #[.int .i64 s, .slice ua ul uc]] W fun e w' => e = .returned (.int .i64 (0)) ∧ Below W.heap.size W w') := fun W b => by
    have h := Fault_any s L _ W (hu.below (Below.next HB0.out b)) hL
    rw [e1] at h
    exact h
  have F2 : Hid (∀ W, Below ((w.alloc (.cells #[.int .i64 s, .slice ua ul uc] 24)).alloc (.cells #[.int .i64 t, .slice va vn vc] 24)).heap.size ((w.alloc (.cells #[.int .i64 s, .slice ua ul uc] 24)).alloc (.cells #[.int .i64 t, .slice va vn vc] 24)) W → Calls Tryd.prog 11 #[.agg #[.int .i64 t, .slice va vn vc]] W fun e w' => e = .returned (.int .i64 ((z3 : Int))) ∧ Below W.heap.size W w') := fun W b => by
    have h := Fault_any t M _ W (hv.below (Below.next HB0.out b)) hM
    rw [e2] at h
    exact h
  have E1 : Hid (∀ y y' W, Sl W y l1 → Sl W y' l1 → Calls Tryd.prog 7 #[.agg #[.int .i64 (n1 : Int), y], .agg #[.int .i64 (n1 : Int), y']] W fun e w' => e = .returned (.bool true) ∧ Below W.heap.size W w') := fun y y' W h h' => Squares_same n1 l1 y y' W h h' h1
  have g1 : ((z1 : Int) != (z1 : Int)) = false := by simp
  have g1' : ((z1 : Int) == (z1 : Int)) = true := by simp
  have E2 : Hid (∀ y y' W, Sl W y l2 → Sl W y' l2 → Calls Tryd.prog 7 #[.agg #[.int .i64 (n2 : Int), y], .agg #[.int .i64 (n2 : Int), y']] W fun e w' => e = .returned (.bool true) ∧ Below W.heap.size W w') := fun y y' W h h' => Squares_same n2 l2 y y' W h h' h2
  have g2 : ((z2 : Int) != (z2 : Int)) = false := by simp
  have g2' : ((z2 : Int) == (z2 : Int)) = true := by simp
  have E3 : Hid (∀ y y' W, Sl W y l3 → Sl W y' l3 → Calls Tryd.prog 7 #[.agg #[.int .i64 (n3 : Int), y], .agg #[.int .i64 (n3 : Int), y']] W fun e w' => e = .returned (.bool true) ∧ Below W.heap.size W w') := fun y y' W h h' => Squares_same n3 l3 y y' W h h' h3
  have g3 : ((z3 : Int) != (z3 : Int)) = false := by simp
  have g3' : ((z3 : Int) == (z3 : Int)) = true := by simp
  have gz : ((z3 : Int) == 0) = false := by simp [e0]
  subst en el
  clear hu hv hT P1 Q1 P2 Q2 P3 hL hM h1 h2 h3 e1 e0 e2
  go_enter Tryd.func3, Tryd.ntmps3
  go_wp2_with (first
    | (go_at_call 5; refine (T1.out _).mono ?_; rintro e w1 ⟨⟨y1, rfl, O1⟩, j1⟩; clear T1; obtain ⟨y1a, y1l, y1c, rfl⟩ := O1.slice; obtain ⟨q, Hq⟩ : ∃ q, Hid (w1.heap.size = q) := ⟨_, rfl⟩; have hq : w1.heap.size = q := Hq.out; have hq1 := heap_alloc_new w1 (.cells #[.int .i64 (n1 : Int), .slice y1a y1l y1c] 24); rw [hq] at hq1; have J1 := Below.next j1 (balloc w1 (.cells #[.int .i64 (n1 : Int), .slice y1a y1l y1c] 24)); have O1' := O1.below (balloc w1 (.cells #[.int .i64 (n1 : Int), .slice y1a y1l y1c] 24)); have lq := j1.size; rw [hq] at lq; have sq1 : (w1.alloc (.cells #[.int .i64 (n1 : Int), .slice y1a y1l y1c] 24)).heap.size = q + 1 := (by simp; omega))
    | (go_at_call 6; refine (U1.out _).mono ?_; rintro e w2 ⟨⟨x1, rfl, X1⟩, j2⟩; clear U1; obtain ⟨x1a, x1l, x1c, rfl⟩ := X1.slice; obtain ⟨r, Hr⟩ : ∃ r, Hid (w2.heap.size = r) := ⟨_, rfl⟩; have hr : w2.heap.size = r := Hr.out; have lr := j2.size; rw [sq1, hr] at lr; have bb := balloc w2 (.cells #[.int .i64 (n1 : Int), .slice x1a x1l x1c] 24); have hr1 := heap_alloc_new w2 (.cells #[.int .i64 (n1 : Int), .slice x1a x1l x1c] 24); rw [hr] at hr1; have S2 : Sq2 ((w.alloc (.cells #[.int .i64 s, .slice ua ul uc] 24)).alloc (.cells #[.int .i64 t, .slice va vn vc] 24)) (w2.alloc (.cells #[.int .i64 (n1 : Int), .slice x1a x1l x1c] 24)) q r (n1 : Int) (.slice y1a y1l y1c) (n1 : Int) (.slice x1a x1l x1c) := ⟨Below.next (Below.next J1 j2) bb, (bb.block q (by omega)).trans ((j2.block q (by rw [sq1]; omega)).trans hq1), hr1, lq, by omega, by omega⟩; have hne : ¬ q = r := (by omega); have hne' : ¬ r = q := (by omega); obtain ⟨⟨q0, q1⟩, r0, r1⟩ := S2.cells; have D := E1.out _ _ _ ((O1'.below j2).below bb).sl (X1.below bb).sl; clear E1)
    | (go_at_call 7; refine D.mono ?_; rintro e w3 ⟨rfl, j3⟩; clear D; have S3 := S2.below j3; clear q0 q1 r0 r1; have D2 := T2.out _ S3.j; clear T2)
    | (go_at_call 8; refine D2.mono ?_; rintro e w4 ⟨⟨y2, rfl, O2⟩, j4⟩; clear D2; obtain ⟨y2a, y2l, y2c, rfl⟩ := O2.slice; have S4 := S3.below j4; obtain ⟨⟨q0, q1⟩, r0, r1⟩ := S4.cells; obtain ⟨⟨fq0, fq1⟩, fr0, fr1⟩ := S4.froz; have S4' := S4.put1 (n2 : Int) (.slice y2a y2l y2c); have O2' := O2.put (u := .int .i64 (n2 : Int)) (v := .slice y2a y2l y2c) S4.q; have D3 := U2.out ((w4.setCell ⟨q, 0, none⟩ (.int .i64 (n2 : Int))).setCell ⟨q, 1, none⟩ (.slice y2a y2l y2c)); clear U2)
    | (go_at_call 9; refine D3.mono ?_; rintro e w5 ⟨⟨x2, rfl, X2⟩, j5⟩; clear D3; clear q0 q1 r0 r1; clear fq0 fq1 fr0 fr1; obtain ⟨x2a, x2l, x2c, rfl⟩ := X2.slice; have S5 := S4'.below j5; obtain ⟨⟨q0, q1⟩, r0, r1⟩ := S5.cells; obtain ⟨⟨fq0, fq1⟩, fr0, fr1⟩ := S5.froz; have S5' := S5.put2 (n2 : Int) (.slice x2a x2l x2c); have O2'' := (O2'.below j5).put (u := .int .i64 (n2 : Int)) (v := .slice x2a x2l x2c) S5.r; have X2' := X2.put (u := .int .i64 (n2 : Int)) (v := .slice x2a x2l x2c) S5.r; have D4 := E2.out _ _ _ O2''.sl X2'.sl; clear E2)
    | (go_at_call 7; refine D4.mono ?_; rintro e w6 ⟨rfl, j6⟩; clear D4; clear q0 q1 r0 r1; clear fq0 fq1 fr0 fr1; have S6 := S5'.below j6; obtain ⟨⟨a0, a1⟩, b0, b1⟩ := HBX.out _ S6.j; have D5 := T3.out _ S6.j; clear T3)
    | (go_at_call 10; refine D5.mono ?_; rintro e w7 ⟨⟨y3, rfl, O3⟩, j7⟩; clear D5 a0 a1 b0 b1; obtain ⟨y3a, y3l, y3c, rfl⟩ := O3.slice; have S7 := S6.below j7; obtain ⟨⟨q0, q1⟩, r0, r1⟩ := S7.cells; obtain ⟨⟨fq0, fq1⟩, fr0, fr1⟩ := S7.froz; have S7' := S7.put1 0 (.slice y3a y3l y3c); have S7b := S7'.put2 0 (.slice none 0 0); have O3' := (O3.put (u := .int .i64 0) (v := .slice y3a y3l y3c) S7.q).put (u := .int .i64 0) (v := .slice none 0 0) S7'.r; obtain ⟨⟨a0, a1⟩, b0, b1⟩ := HBX.out _ S7b.j; obtain ⟨⟨cq0, cq1⟩, cr0, cr1⟩ := S7'.cells; obtain ⟨⟨gq0, gq1⟩, gr0, gr1⟩ := S7'.froz; have D6 := F1.out _ S7b.j; clear F1)
    | (go_at_call 11; refine D6.mono ?_; rintro e w8 ⟨rfl, j8⟩; clear D6; clear a0 a1 b0 b1; clear q0 q1 r0 r1; clear fq0 fq1 fr0 fr1; clear cq0 cq1 cr0 cr1 gq0 gq1 gr0 gr1; have S8 := S7b.below j8; have O8 := O3'.below j8; obtain ⟨⟨a0, a1⟩, b0, b1⟩ := HBX.out _ S8.j; have D8 := F2.out _ S8.j; clear F2)
    | (go_at_call 11; refine D8.mono ?_; rintro e w9 ⟨rfl, j9⟩; clear D8; clear a0 a1 b0 b1; have S9 := S8.below j9; have O9 := O8.below j9; obtain ⟨⟨q0, q1⟩, r0, r1⟩ := S9.cells; have D7 := E3.out _ _ _ O9.sl (Sl.nil w9); clear E3)
    | (go_at_call 7; refine D7.mono ?_; rintro e w11 ⟨rfl, j11⟩; clear D7))
  go_ret
  exact ⟨rfl, Below.next HB0.out (Below.next S9.j j11)⟩
set_option maxRecDepth 100000 in
set_option maxHeartbeats 8000000 in
theorem Mks_c (k p s t : Int) (L M : List Int) (u v : Value) (w : World) (n1 z1 n2 z2 n3 z3 : Nat) (l1 l2 l3 : List Int) (hT : Fd.Tab w) (hu : Sl w u L) (hv : Sl w v M) (hL : L.length ≤ maxLen) (hM : M.length ≤ maxLen) (h1 : l1.length ≤ maxLen) (h2 : l2.length ≤ maxLen) (h3 : l3.length ≤ maxLen)
    (P1 : ∀ W, Mo 5 #[.int .i64 k] n1 z1 l1 W) (Q1 : ∀ W, Mo 6 #[.int .i64 k] n1 z1 l1 W) (P2 : ∀ W, Fd.Tab W → Mo 8 #[.int .i64 p] n2 z2 l2 W) (Q2 : ∀ W, Mo 9 #[.int .i64 p] n2 z2 l2 W)
    (P3 : ∀ u v W, Sl W u L → Sl W v M → Mo 10 #[.agg #[.int .i64 s, u], .agg #[.int .i64 t, v]] n3 z3 l3 W) (e1 : hF s L = 0) (e2 : hF t M = 0) (Q3 : ∀ u v W, Sl W u L → Sl W v M → Mo 12 #[.agg #[.int .i64 s, u], .agg #[.int .i64 t, v]] n3 z3 l3 W) :
    Calls Tryd.prog 3 #[.int .i64 k, .int .i64 p, .agg #[.int .i64 s, u], .agg #[.int .i64 t, v]] w fun e w' => e = .returned (.bool true) ∧ Below w.heap.size w w' := by
  obtain ⟨ua, ul, uc, rfl⟩ : ∃ a l c, u = .slice a l c := by obtain ⟨a, c, e, _⟩ := hu; exact ⟨a, _, c, e⟩
  obtain ⟨va, vn, vc, rfl⟩ : ∃ a l c, v = .slice a l c := by obtain ⟨a, c, e, _⟩ := hv; exact ⟨a, _, c, e⟩
  have HB0 : Hid (Below w.heap.size w ((w.alloc (.cells #[.int .i64 s, .slice ua ul uc] 24)).alloc (.cells #[.int .i64 t, .slice va vn vc] 24))) := Below.next (balloc _ _) (balloc _ _)
  have HBX : Hid (∀ X, Below ((w.alloc (.cells #[.int .i64 s, .slice ua ul uc] 24)).alloc (.cells #[.int .i64 t, .slice va vn vc] 24)).heap.size ((w.alloc (.cells #[.int .i64 s, .slice ua ul uc] 24)).alloc (.cells #[.int .i64 t, .slice va vn vc] 24)) X → (X.cell? ⟨w.heap.size, 0, none⟩ = some (.int .i64 s) ∧ X.cell? ⟨w.heap.size, 1, none⟩ = some (.slice ua ul uc)) ∧ (X.cell? ⟨w.heap.size + 1, 0, none⟩ = some (.int .i64 t) ∧ X.cell? ⟨w.heap.size + 1, 1, none⟩ = some (.slice va vn vc))) := fun X bX => by
    have k1 := (bX.block w.heap.size (by simp; omega)).trans (first_box w (.cells #[.int .i64 t, .slice va vn vc] 24) #[.int .i64 s, .slice ua ul uc] 24)
    have k2 := (bX.block (w.heap.size + 1) (by simp)).trans (second_box w (.cells #[.int .i64 s, .slice ua ul uc] 24) #[.int .i64 t, .slice va vn vc] 24)
    exact ⟨⟨by rw [cell_of_row _ _ _ _ _ _ k1]; rfl, by rw [cell_of_row _ _ _ _ _ _ k1]; rfl⟩, by rw [cell_of_row _ _ _ _ _ _ k2]; rfl, by rw [cell_of_row _ _ _ _ _ _ k2]; rfl⟩
  have T1 : Hid (∀ W, Calls Tryd.prog 5 #[.int .i64 k] W fun e w' => (∃ y, e = .returned (.tuple #[.agg #[.int .i64 (n1 : Int), y], .int .i64 (z1 : Int)]) ∧ OwnS w' y l1) ∧ Below W.heap.size W w') := P1
  have U1 : Hid (∀ W, Calls Tryd.prog 6 #[.int .i64 k] W fun e w' => (∃ y, e = .returned (.tuple #[.agg #[.int .i64 (n1 : Int), y], .int .i64 (z1 : Int)]) ∧ OwnS w' y l1) ∧ Below W.heap.size W w') := Q1
  have T2 : Hid (∀ W, Below ((w.alloc (.cells #[.int .i64 s, .slice ua ul uc] 24)).alloc (.cells #[.int .i64 t, .slice va vn vc] 24)).heap.size ((w.alloc (.cells #[.int .i64 s, .slice ua ul uc] 24)).alloc (.cells #[.int .i64 t, .slice va vn vc] 24)) W → Calls Tryd.prog 8 #[.int .i64 p] W fun e w' => (∃ y, e = .returned (.tuple #[.agg #[.int .i64 (n2 : Int), y], .int .i64 (z2 : Int)]) ∧ OwnS w' y l2) ∧ Below W.heap.size W w') := fun W b => P2 W (hT.below (Below.next HB0.out b))
  have U2 : Hid (∀ W, Calls Tryd.prog 9 #[.int .i64 p] W fun e w' => (∃ y, e = .returned (.tuple #[.agg #[.int .i64 (n2 : Int), y], .int .i64 (z2 : Int)]) ∧ OwnS w' y l2) ∧ Below W.heap.size W w') := Q2
  have T3 : Hid (∀ W, Below ((w.alloc (.cells #[.int .i64 s, .slice ua ul uc] 24)).alloc (.cells #[.int .i64 t, .slice va vn vc] 24)).heap.size ((w.alloc (.cells #[.int .i64 s, .slice ua ul uc] 24)).alloc (.cells #[.int .i64 t, .slice va vn vc] 24)) W → Calls Tryd.prog 10 #[.agg #[.int .i64 s, .slice ua ul uc], .agg #[.int .i64 t, .slice va vn vc]] W fun e w' => (∃ y, e = .returned (.tuple #[.agg #[.int .i64 (n3 : Int), y], .int .i64 (z3 : Int)]) ∧ OwnS w' y l3) ∧ Below W.heap.size W w') := fun W b => P3 _ _ W (hu.below (Below.next HB0.out b)) (hv.below (Below.next HB0.out b))
  have U3 : Hid (∀ W, Below ((w.alloc (.cells #[.int .i64 s, .slice ua ul uc] 24)).alloc (.cells #[.int .i64 t, .slice va vn vc] 24)).heap.size ((w.alloc (.cells #[.int .i64 s, .slice ua ul uc] 24)).alloc (.cells #[.int .i64 t, .slice va vn vc] 24)) W → Calls Tryd.prog 12 #[.agg #[.int .i64 s, .slice ua ul uc], .agg #[.int .i64 t, .slice va vn vc]] W fun e w' => (∃ y, e = .returned (.tuple #[.agg #[.int .i64 (n3 : Int), y], .int .i64 (z3 : Int)]) ∧ OwnS w' y l3) ∧ Below W.heap.size W w') := fun W b => Q3 _ _ W (hu.below (Below.next HB0.out b)) (hv.below (Below.next HB0.out b))
  have F1 : Hid (∀ W, Below ((w.alloc (.cells #[.int .i64 s, .slice ua ul uc] 24)).alloc (.cells #[.int .i64 t, .slice va vn vc] 24)).heap.size ((w.alloc (.cells #[.int .i64 s, .slice ua ul uc] 24)).alloc (.cells #[.int .i64 t, .slice va vn vc] 24)) W → Calls Tryd.prog 11 #[.agg #[.int .i64 s, .slice ua ul uc]] W fun e w' => e = .returned (.int .i64 (0)) ∧ Below W.heap.size W w') := fun W b => by
    have h := Fault_any s L _ W (hu.below (Below.next HB0.out b)) hL
    rw [e1] at h
    exact h
  have F2 : Hid (∀ W, Below ((w.alloc (.cells #[.int .i64 s, .slice ua ul uc] 24)).alloc (.cells #[.int .i64 t, .slice va vn vc] 24)).heap.size ((w.alloc (.cells #[.int .i64 s, .slice ua ul uc] 24)).alloc (.cells #[.int .i64 t, .slice va vn vc] 24)) W → Calls Tryd.prog 11 #[.agg #[.int .i64 t, .slice va vn vc]] W fun e w' => e = .returned (.int .i64 (0)) ∧ Below W.heap.size W w') := fun W b => by
    have h := Fault_any t M _ W (hv.below (Below.next HB0.out b)) hM
    rw [e2] at h
    exact h
  have E1 : Hid (∀ y y' W, Sl W y l1 → Sl W y' l1 → Calls Tryd.prog 7 #[.agg #[.int .i64 (n1 : Int), y], .agg #[.int .i64 (n1 : Int), y']] W fun e w' => e = .returned (.bool true) ∧ Below W.heap.size W w') := fun y y' W h h' => Squares_same n1 l1 y y' W h h' h1
  have g1 : ((z1 : Int) != (z1 : Int)) = false := by simp
  have g1' : ((z1 : Int) == (z1 : Int)) = true := by simp
  have E2 : Hid (∀ y y' W, Sl W y l2 → Sl W y' l2 → Calls Tryd.prog 7 #[.agg #[.int .i64 (n2 : Int), y], .agg #[.int .i64 (n2 : Int), y']] W fun e w' => e = .returned (.bool true) ∧ Below W.heap.size W w') := fun y y' W h h' => Squares_same n2 l2 y y' W h h' h2
  have g2 : ((z2 : Int) != (z2 : Int)) = false := by simp
  have g2' : ((z2 : Int) == (z2 : Int)) = true := by simp
  have E3 : Hid (∀ y y' W, Sl W y l3 → Sl W y' l3 → Calls Tryd.prog 7 #[.agg #[.int .i64 (n3 : Int), y], .agg #[.int .i64 (n3 : Int), y']] W fun e w' => e = .returned (.bool true) ∧ Below W.heap.size W w') := fun y y' W h h' => Squares_same n3 l3 y y' W h h' h3
  have g3 : ((z3 : Int) != (z3 : Int)) = false := by simp
  have g3' : ((z3 : Int) == (z3 : Int)) = true := by simp
  clear hu hv hT P1 Q1 P2 Q2 P3 hL hM h1 h2 h3 e1 e2 Q3
  go_enter Tryd.func3, Tryd.ntmps3
  go_wp2_with (first
    | (go_at_call 5; refine (T1.out _).mono ?_; rintro e w1 ⟨⟨y1, rfl, O1⟩, j1⟩; clear T1; obtain ⟨y1a, y1l, y1c, rfl⟩ := O1.slice; obtain ⟨q, Hq⟩ : ∃ q, Hid (w1.heap.size = q) := ⟨_, rfl⟩; have hq : w1.heap.size = q := Hq.out; have hq1 := heap_alloc_new w1 (.cells #[.int .i64 (n1 : Int), .slice y1a y1l y1c] 24); rw [hq] at hq1; have J1 := Below.next j1 (balloc w1 (.cells #[.int .i64 (n1 : Int), .slice y1a y1l y1c] 24)); have O1' := O1.below (balloc w1 (.cells #[.int .i64 (n1 : Int), .slice y1a y1l y1c] 24)); have lq := j1.size; rw [hq] at lq; have sq1 : (w1.alloc (.cells #[.int .i64 (n1 : Int), .slice y1a y1l y1c] 24)).heap.size = q + 1 := (by simp; omega))
    | (go_at_call 6; refine (U1.out _).mono ?_; rintro e w2 ⟨⟨x1, rfl, X1⟩, j2⟩; clear U1; obtain ⟨x1a, x1l, x1c, rfl⟩ := X1.slice; obtain ⟨r, Hr⟩ : ∃ r, Hid (w2.heap.size = r) := ⟨_, rfl⟩; have hr : w2.heap.size = r := Hr.out; have lr := j2.size; rw [sq1, hr] at lr; have bb := balloc w2 (.cells #[.int .i64 (n1 : Int), .slice x1a x1l x1c] 24); have hr1 := heap_alloc_new w2 (.cells #[.int .i64 (n1 : Int), .slice x1a x1l x1c] 24); rw [hr] at hr1; have S2 : Sq2 ((w.alloc (.cells #[.int .i64 s, .slice ua ul uc] 24)).alloc (.cells #[.int .i64 t, .slice va vn vc] 24)) (w2.alloc (.cells #[.int .i64 (n1 : Int), .slice x1a x1l x1c] 24)) q r (n1 : Int) (.slice y1a y1l y1c) (n1 : Int) (.slice x1a x1l x1c) := ⟨Below.next (Below.next J1 j2) bb, (bb.block q (by omega)).trans ((j2.block q (by rw [sq1]; omega)).trans hq1), hr1, lq, by omega, by omega⟩; have hne : ¬ q = r := (by omega); have hne' : ¬ r = q := (by omega); obtain ⟨⟨q0, q1⟩, r0, r1⟩ := S2.cells; have D := E1.out _ _ _ ((O1'.below j2).below bb).sl (X1.below bb).sl; clear E1)
    | (go_at_call 7; refine D.mono ?_; rintro e w3 ⟨rfl, j3⟩; clear D; have S3 := S2.below j3; clear q0 q1 r0 r1; have D2 := T2.out _ S3.j; clear T2)
    | (go_at_call 8; refine D2.mono ?_; rintro e w4 ⟨⟨y2, rfl, O2⟩, j4⟩; clear D2; obtain ⟨y2a, y2l, y2c, rfl⟩ := O2.slice; have S4 := S3.below j4; obtain ⟨⟨q0, q1⟩, r0, r1⟩ := S4.cells; obtain ⟨⟨fq0, fq1⟩, fr0, fr1⟩ := S4.froz; have S4' := S4.put1 (n2 : Int) (.slice y2a y2l y2c); have O2' := O2.put (u := .int .i64 (n2 : Int)) (v := .slice y2a y2l y2c) S4.q; have D3 := U2.out ((w4.setCell ⟨q, 0, none⟩ (.int .i64 (n2 : Int))).setCell ⟨q, 1, none⟩ (.slice y2a y2l y2c)); clear U2)
    | (go_at_call 9; refine D3.mono ?_; rintro e w5 ⟨⟨x2, rfl, X2⟩, j5⟩; clear D3; clear q0 q1 r0 r1; clear fq0 fq1 fr0 fr1; obtain ⟨x2a, x2l, x2c, rfl⟩ := X2.slice; have S5 := S4'.below j5; obtain ⟨⟨q0, q1⟩, r0, r1⟩ := S5.cells; obtain ⟨⟨fq0, fq1⟩, fr0, fr1⟩ := S5.froz; have S5' := S5.put2 (n2 : Int) (.slice x2a x2l x2c); have O2'' := (O2'.below j5).put (u := .int .i64 (n2 : Int)) (v := .slice x2a x2l x2c) S5.r; have X2' := X2.put (u := .int .i64 (n2 : Int)) (v := .slice x2a x2l x2c) S5.r; have D4 := E2.out _ _ _ O2''.sl X2'.sl; clear E2)
    | (go_at_call 7; refine D4.mono ?_; rintro e w6 ⟨rfl, j6⟩; clear D4; clear q0 q1 r0 r1; clear fq0 fq1 fr0 fr1; have S6 := S5'.below j6; obtain ⟨⟨a0, a1⟩, b0, b1⟩ := HBX.out _ S6.j; have D5 := T3.out _ S6.j; clear T3)
    | (go_at_call 10; refine D5.mono ?_; rintro e w7 ⟨⟨y3, rfl, O3⟩, j7⟩; clear D5 a0 a1 b0 b1; obtain ⟨y3a, y3l, y3c, rfl⟩ := O3.slice; have S7 := S6.below j7; obtain ⟨⟨q0, q1⟩, r0, r1⟩ := S7.cells; obtain ⟨⟨fq0, fq1⟩, fr0, fr1⟩ := S7.froz; have S7' := S7.put1 (n3 : Int) (.slice y3a y3l y3c); have S7b := S7'.put2 0 (.slice none 0 0); have O3' := (O3.put (u := .int .i64 (n3 : Int)) (v := .slice y3a y3l y3c) S7.q).put (u := .int .i64 0) (v := .slice none 0 0) S7'.r; obtain ⟨⟨a0, a1⟩, b0, b1⟩ := HBX.out _ S7b.j; obtain ⟨⟨cq0, cq1⟩, cr0, cr1⟩ := S7'.cells; obtain ⟨⟨gq0, gq1⟩, gr0, gr1⟩ := S7'.froz; have D6 := F1.out _ S7b.j; clear F1)
    | (go_at_call 11; refine D6.mono ?_; rintro e w8 ⟨rfl, j8⟩; clear D6; clear a0 a1 b0 b1; clear q0 q1 r0 r1; clear fq0 fq1 fr0 fr1; clear cq0 cq1 cr0 cr1 gq0 gq1 gr0 gr1; have S8 := S7b.below j8; have O8 := O3'.below j8; obtain ⟨⟨a0, a1⟩, b0, b1⟩ := HBX.out _ S8.j; have D8 := F2.out _ S8.j; clear F2)
    | (go_at_call 11; refine D8.mono ?_; rintro e w9 ⟨rfl, j9⟩; clear D8; clear a0 a1 b0 b1; have S9 := S8.below j9; have O9 := O8.below j9; obtain ⟨⟨a0, a1⟩, b0, b1⟩ := HBX.out _ S9.j; have D9 := U3.out _ S9.j; clear U3)
    | (go_at_call 12; refine D9.mono ?_; rintro e w10 ⟨⟨x3, rfl, X3⟩, j10⟩; clear D9; clear a0 a1 b0 b1; obtain ⟨x3a, x3l, x3c, rfl⟩ := X3.slice; have S10 := S9.below j10; obtain ⟨⟨q0, q1⟩, r0, r1⟩ := S10.cells; obtain ⟨⟨fq0, fq1⟩, fr0, fr1⟩ := S10.froz; have S10' := S10.put2 (n3 : Int) (.slice x3a x3l x3c); have OA := (O9.below j10).put (u := .int .i64 (n3 : Int)) (v := .slice x3a x3l x3c) S10.r; have XA := X3.put (u := .int .i64 (n3 : Int)) (v := .slice x3a x3l x3c) S10.r; have D7 := E3.out _ _ _ OA.sl XA.sl; clear E3)
    | (go_at_call 7; refine D7.mono ?_; rintro e w11 ⟨rfl, j11⟩; clear D7))
  go_ret
  exact ⟨rfl, Below.next HB0.out (Below.next S10'.j j11)⟩
theorem Pro_two (s t : Int) (L M : List Int) (hL : L.length ≤ maxLen) (hM : M.length ≤ maxLen) (h : mF s t L M ≠ 0) : ∀ u v W, Sl W u L → Sl W v M → Mo 10 #[.agg #[.int .i64 s, u], .agg #[.int .i64 t, v]] 0 (mF s t L M) [] W :=
  fun u v W hu hv => mo_err (Product_bad s t L M u v W hu hv hL hM h)
theorem Makes_any (k p s t : Int) (L M : List Int) (u v : Value) (w : World) (hT : Fd.Tab w) (hu : Sl w u L) (hv : Sl w v M) (hL : L.length ≤ maxLen) (hM : M.length ≤ maxLen) :
    Calls Tryd.prog 3 #[.int .i64 k, .int .i64 p, .agg #[.int .i64 s, u], .agg #[.int .i64 t, v]] w fun e w' => e = .returned (.bool true) ∧ Below w.heap.size w w' := by
  obtain ⟨n1, z1, l1, h1, P1, Q1⟩ := Syl_two k
  obtain ⟨n2, z2, l2, h2, P2, Q2⟩ := Pal_two p
  by_cases e1 : hF s L = 0
  · by_cases e2 : hF t M = 0
    · obtain ⟨n, rfl, G1⟩ := hF_ok e1
      obtain ⟨m, rfl, G2⟩ := hF_ok e2
      by_cases hf : n * m ≤ 8 * 3
      · have := Nat.mul_le_mul hf hf
        exact Mks_c k p n m L M u v w n1 z1 n2 z2 (n * m) 0 l1 l2 (flI (n * m) (prd m (mx n L) (mx m M)) ((n * m) * (n * m))) hT hu hv hL hM h1 h2 (by rw [flI_len]; unfold maxLen; omega) P1 Q1 P2 Q2 (fun u v W hu hv => mo_ok (Product_ok n m L M u v W hu hv G1 G2 hf)) e1 e2 (fun u v W hu hv => SPro_ok n m L M u v W hu hv G1 G2 hf)
      · have h3 : mF n m L M = 3 := by
          unfold mF
          rw [if_neg (by omega), if_neg (by omega), if_pos]
          have : ((n * m : Nat) : Int) = (n : Int) * m := by simp
          omega
        have P3 := Pro_two n m L M hL hM (by omega)
        rw [h3] at P3
        exact Mks_c k p n m L M u v w n1 z1 n2 z2 0 3 l1 l2 [] hT hu hv hL hM h1 h2 (by simp) P1 Q1 P2 Q2 P3 e1 e2 (fun u v W hu hv => mo_err (z := 3) (SPro_full n m L M u v W hu hv G1 G2 (by omega)))
    · have h3 : mF s t L M = hF t M := by unfold mF; rw [if_neg (by omega), if_pos e2]
      have P3 := Pro_two s t L M hL hM (by omega)
      rw [h3] at P3
      exact Mks_b k p s t L M u v w n1 z1 n2 z2 0 (hF t M) l1 l2 [] hT hu hv hL hM h1 h2 (by simp) P1 Q1 P2 Q2 P3 e1 rfl e2 rfl rfl
  · have h3 : mF s t L M = hF s L := by unfold mF; rw [if_pos e1]
    have P3 := Pro_two s t L M hL hM (by omega)
    rw [h3] at P3
    exact Mks_a k p s t L M u v w n1 z1 n2 z2 0 (hF s L) l1 l2 [] hT hu hv hL hM h1 h2 (by simp) P1 Q1 P2 Q2 P3 rfl e1 rfl rfl
end Go.Proofs.YtamdpcajfgbagaaDoor
