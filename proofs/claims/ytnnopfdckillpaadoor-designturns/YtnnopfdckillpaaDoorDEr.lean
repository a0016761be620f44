/- The document's answers where there is no dual, derived or residual design. -/
import Derived.Test.YtnnopfdckillpaaDoorDRe
namespace Go.Proofs.YtnnopfdckillpaaDoor
open Go.RowKit

set_option maxRecDepth 100000 in
set_option maxHeartbeats 1000000 in
theorem DualOf_full (v n : Nat) (u : Value) (w : World) (hu : ∃ a c, u = .slice a n c) (h : 40 < n) :
    Calls Tryd.prog 14 #[.agg #[.int .i64 (v : Int), u]] w fun e w' => e = .returned (.tuple #[.agg #[.int .i64 0, .slice none 0 0], .int .i64 3]) ∧ Below w.heap.size w w' := by
  have b0 := balloc w (.cells #[.int .i64 (v : Int), u] 24)
  obtain ⟨x0, x1⟩ := des_box v u w _ (balloc (w.alloc (.cells #[.int .i64 (v : Int), u] 24)) (.cells #[.int .i64 0, .slice none 0 0] 24))
  have b1 : Below w.heap.size w ((w.alloc (.cells #[.int .i64 (v : Int), u] 24)).alloc (.cells #[.int .i64 0, .slice none 0 0] 24)) := b0.alloc (by simp) _
  have hr := heap_alloc_new (w.alloc (.cells #[.int .i64 (v : Int), u] 24)) (.cells #[.int .i64 0, .slice none 0 0] 24)
  rw [World.size_alloc] at hr
  have z0 := frozen_of_row _ _ 0 _ _ hr
  have z1 := frozen_of_row _ _ 1 _ _ hr
  have y0 := cell_of_row _ _ 0 _ _ _ hr
  have y1 := cell_of_row _ _ 1 _ _ _ hr
  have hd : decide ((n : Int) > 40) = true := by simp; omega
  have hd2 : decide ((40 : Int) < (n : Int)) = true := by simp; omega
  clear h
  obtain ⟨ua, uc, rfl⟩ := hu
  go_enter Tryd.func14, Tryd.ntmps14
  go_wp2
  first
    | exact post_d2 2 3 rfl rfl hr rfl rfl ⟨rfl, b1⟩
    | (have h6 := heap_setCell_same _ (w.heap.size + 1) 0 _ 24 (.int .i64 0) hr
       have h7 := heap_setCell_same _ (w.heap.size + 1) 1 _ 24 (.slice none 0 0) h6
       exact post_d2 2 3 rfl rfl (by simpa using h7) rfl rfl ⟨rfl, (b1.setCell (p := ⟨w.heap.size + 1, 0, none⟩) (by show _ ≤ w.heap.size + 1; omega) _).setCell (p := ⟨w.heap.size + 1, 1, none⟩) (by show _ ≤ w.heap.size + 1; omega) _⟩)

set_option maxRecDepth 100000 in
set_option maxHeartbeats 1000000 in
theorem DualOf_none (v n : Nat) (u : Value) (w : World) (hu : ∃ a c, u = .slice a n c) (h : n = 0) :
    Calls Tryd.prog 14 #[.agg #[.int .i64 (v : Int), u]] w fun e w' => e = .returned (.tuple #[.agg #[.int .i64 0, .slice none 0 0], .int .i64 4]) ∧ Below w.heap.size w w' := by
  have b0 := balloc w (.cells #[.int .i64 (v : Int), u] 24)
  obtain ⟨x0, x1⟩ := des_box v u w _ (balloc (w.alloc (.cells #[.int .i64 (v : Int), u] 24)) (.cells #[.int .i64 0, .slice none 0 0] 24))
  have b1 : Below w.heap.size w ((w.alloc (.cells #[.int .i64 (v : Int), u] 24)).alloc (.cells #[.int .i64 0, .slice none 0 0] 24)) := b0.alloc (by simp) _
  have hr := heap_alloc_new (w.alloc (.cells #[.int .i64 (v : Int), u] 24)) (.cells #[.int .i64 0, .slice none 0 0] 24)
  rw [World.size_alloc] at hr
  have z0 := frozen_of_row _ _ 0 _ _ hr
  have z1 := frozen_of_row _ _ 1 _ _ hr
  have y0 := cell_of_row _ _ 0 _ _ _ hr
  have y1 := cell_of_row _ _ 1 _ _ _ hr
  subst h
  obtain ⟨ua, uc, rfl⟩ := hu
  go_enter Tryd.func14, Tryd.ntmps14
  go_wp2
  first
    | exact post_d2 2 3 rfl rfl hr rfl rfl ⟨rfl, b1⟩
    | (have h6 := heap_setCell_same _ (w.heap.size + 1) 0 _ 24 (.int .i64 0) hr
       have h7 := heap_setCell_same _ (w.heap.size + 1) 1 _ 24 (.slice none 0 0) h6
       exact post_d2 2 3 rfl rfl (by simpa using h7) rfl rfl ⟨rfl, (b1.setCell (p := ⟨w.heap.size + 1, 0, none⟩) (by show _ ≤ w.heap.size + 1; omega) _).setCell (p := ⟨w.heap.size + 1, 1, none⟩) (by show _ ≤ w.heap.size + 1; omega) _⟩)

set_option maxRecDepth 100000 in
set_option maxHeartbeats 1000000 in
theorem DerivedOf_neg (v n : Nat) (q : Int) (u : Value) (w : World) (hu : ∃ a c, u = .slice a n c) (h : q < 0) :
    Calls Tryd.prog 15 #[.agg #[.int .i64 (v : Int), u], .int .i64 q] w fun e w' => e = .returned (.tuple #[.agg #[.int .i64 0, .slice none 0 0], .int .i64 1]) ∧ Below w.heap.size w w' := by
  have b0 := balloc w (.cells #[.int .i64 (v : Int), u] 24)
  obtain ⟨x0, x1⟩ := des_box v u w _ (balloc (w.alloc (.cells #[.int .i64 (v : Int), u] 24)) (.cells #[.int .i64 0, .slice none 0 0] 24))
  have b1 : Below w.heap.size w ((w.alloc (.cells #[.int .i64 (v : Int), u] 24)).alloc (.cells #[.int .i64 0, .slice none 0 0] 24)) := b0.alloc (by simp) _
  have hr := heap_alloc_new (w.alloc (.cells #[.int .i64 (v : Int), u] 24)) (.cells #[.int .i64 0, .slice none 0 0] 24)
  rw [World.size_alloc] at hr
  have z0 := frozen_of_row _ _ 0 _ _ hr
  have z1 := frozen_of_row _ _ 1 _ _ hr
  have y0 := cell_of_row _ _ 0 _ _ _ hr
  have y1 := cell_of_row _ _ 1 _ _ _ hr
  have hd : decide (q < 0) = true := decide_eq_true h
  clear h
  obtain ⟨ua, uc, rfl⟩ := hu
  go_enter Tryd.func15, Tryd.ntmps15
  go_wp2
  first
    | exact post_d2 4 5 rfl rfl hr rfl rfl ⟨rfl, b1⟩
    | (have h6 := heap_setCell_same _ (w.heap.size + 1) 0 _ 24 (.int .i64 0) hr
       have h7 := heap_setCell_same _ (w.heap.size + 1) 1 _ 24 (.slice none 0 0) h6
       exact post_d2 4 5 rfl rfl (by simpa using h7) rfl rfl ⟨rfl, (b1.setCell (p := ⟨w.heap.size + 1, 0, none⟩) (by show _ ≤ w.heap.size + 1; omega) _).setCell (p := ⟨w.heap.size + 1, 1, none⟩) (by show _ ≤ w.heap.size + 1; omega) _⟩)

set_option maxRecDepth 100000 in
set_option maxHeartbeats 1000000 in
theorem DerivedOf_far (v n : Nat) (q : Int) (u : Value) (w : World) (hu : ∃ a c, u = .slice a n c) (h : (v : Int) ≤ q) :
    Calls Tryd.prog 15 #[.agg #[.int .i64 (v : Int), u], .int .i64 q] w fun e w' => e = .returned (.tuple #[.agg #[.int .i64 0, .slice none 0 0], .int .i64 1]) ∧ Below w.heap.size w w' := by
  have b0 := balloc w (.cells #[.int .i64 (v : Int), u] 24)
  obtain ⟨x0, x1⟩ := des_box v u w _ (balloc (w.alloc (.cells #[.int .i64 (v : Int), u] 24)) (.cells #[.int .i64 0, .slice none 0 0] 24))
  have b1 : Below w.heap.size w ((w.alloc (.cells #[.int .i64 (v : Int), u] 24)).alloc (.cells #[.int .i64 0, .slice none 0 0] 24)) := b0.alloc (by simp) _
  have hr := heap_alloc_new (w.alloc (.cells #[.int .i64 (v : Int), u] 24)) (.cells #[.int .i64 0, .slice none 0 0] 24)
  rw [World.size_alloc] at hr
  have z0 := frozen_of_row _ _ 0 _ _ hr
  have z1 := frozen_of_row _ _ 1 _ _ hr
  have y0 := cell_of_row _ _ 0 _ _ _ hr
  have y1 := cell_of_row _ _ 1 _ _ _ hr
  have hd : decide (q < 0) = false := decide_eq_false (by omega)
  have hd2 : decide (q ≥ (v : Int)) = true := decide_eq_true h
  have hd3 : decide ((v : Int) ≤ q) = true := decide_eq_true h
  clear h
  obtain ⟨ua, uc, rfl⟩ := hu
  go_enter Tryd.func15, Tryd.ntmps15
  go_wp2
  first
    | exact post_d2 4 5 rfl rfl hr rfl rfl ⟨rfl, b1⟩
    | (have h6 := heap_setCell_same _ (w.heap.size + 1) 0 _ 24 (.int .i64 0) hr
       have h7 := heap_setCell_same _ (w.heap.size + 1) 1 _ 24 (.slice none 0 0) h6
       exact post_d2 4 5 rfl rfl (by simpa using h7) rfl rfl ⟨rfl, (b1.setCell (p := ⟨w.heap.size + 1, 0, none⟩) (by show _ ≤ w.heap.size + 1; omega) _).setCell (p := ⟨w.heap.size + 1, 1, none⟩) (by show _ ≤ w.heap.size + 1; omega) _⟩)

set_option maxRecDepth 100000 in
set_option maxHeartbeats 1000000 in
theorem DerivedOf_one (v n : Nat) (q : Int) (u : Value) (w : World) (hu : ∃ a c, u = .slice a n c) (h : q = 0) (h1 : v = 1) :
    Calls Tryd.prog 15 #[.agg #[.int .i64 (v : Int), u], .int .i64 q] w fun e w' => e = .returned (.tuple #[.agg #[.int .i64 0, .slice none 0 0], .int .i64 2]) ∧ Below w.heap.size w w' := by
  have b0 := balloc w (.cells #[.int .i64 (v : Int), u] 24)
  obtain ⟨x0, x1⟩ := des_box v u w _ (balloc (w.alloc (.cells #[.int .i64 (v : Int), u] 24)) (.cells #[.int .i64 0, .slice none 0 0] 24))
  have b1 : Below w.heap.size w ((w.alloc (.cells #[.int .i64 (v : Int), u] 24)).alloc (.cells #[.int .i64 0, .slice none 0 0] 24)) := b0.alloc (by simp) _
  have hr := heap_alloc_new (w.alloc (.cells #[.int .i64 (v : Int), u] 24)) (.cells #[.int .i64 0, .slice none 0 0] 24)
  rw [World.size_alloc] at hr
  have z0 := frozen_of_row _ _ 0 _ _ hr
  have z1 := frozen_of_row _ _ 1 _ _ hr
  have y0 := cell_of_row _ _ 0 _ _ _ hr
  have y1 := cell_of_row _ _ 1 _ _ _ hr
  subst h
  have hd2 : decide ((0 : Int) ≥ (v : Int)) = false := by simp; omega
  have hd3 : decide ((v : Int) ≤ 0) = false := by simp; omega
  have hd4 : decide (v = 0) = false := decide_eq_false (by omega)
  have hd5 : ((v : Int) == 1) = true := by simp; omega
  clear h1
  obtain ⟨ua, uc, rfl⟩ := hu
  go_enter Tryd.func15, Tryd.ntmps15
  go_wp2
  first
    | exact post_d2 4 5 rfl rfl hr rfl rfl ⟨rfl, b1⟩
    | (have h6 := heap_setCell_same _ (w.heap.size + 1) 0 _ 24 (.int .i64 0) hr
       have h7 := heap_setCell_same _ (w.heap.size + 1) 1 _ 24 (.slice none 0 0) h6
       exact post_d2 4 5 rfl rfl (by simpa using h7) rfl rfl ⟨rfl, (b1.setCell (p := ⟨w.heap.size + 1, 0, none⟩) (by show _ ≤ w.heap.size + 1; omega) _).setCell (p := ⟨w.heap.size + 1, 1, none⟩) (by show _ ≤ w.heap.size + 1; omega) _⟩)

set_option maxRecDepth 100000 in
set_option maxHeartbeats 1000000 in
theorem ResidualOf_neg (v n : Nat) (q : Int) (u : Value) (w : World) (hu : ∃ a c, u = .slice a n c) (h : q < 0) :
    Calls Tryd.prog 16 #[.agg #[.int .i64 (v : Int), u], .int .i64 q] w fun e w' => e = .returned (.tuple #[.agg #[.int .i64 0, .slice none 0 0], .int .i64 1]) ∧ Below w.heap.size w w' := by
  have b0 := balloc w (.cells #[.int .i64 (v : Int), u] 24)
  obtain ⟨x0, x1⟩ := des_box v u w _ (balloc (w.alloc (.cells #[.int .i64 (v : Int), u] 24)) (.cells #[.int .i64 0, .slice none 0 0] 24))
  have b1 : Below w.heap.size w ((w.alloc (.cells #[.int .i64 (v : Int), u] 24)).alloc (.cells #[.int .i64 0, .slice none 0 0] 24)) := b0.alloc (by simp) _
  have hr := heap_alloc_new (w.alloc (.cells #[.int .i64 (v : Int), u] 24)) (.cells #[.int .i64 0, .slice none 0 0] 24)
  rw [World.size_alloc] at hr
  have z0 := frozen_of_row _ _ 0 _ _ hr
  have z1 := frozen_of_row _ _ 1 _ _ hr
  have y0 := cell_of_row _ _ 0 _ _ _ hr
  have y1 := cell_of_row _ _ 1 _ _ _ hr
  have hd : decide (q < 0) = true := decide_eq_true h
  clear h
  obtain ⟨ua, uc, rfl⟩ := hu
  go_enter Tryd.func16, Tryd.ntmps16
  go_wp2
  first
    | exact post_d2 4 5 rfl rfl hr rfl rfl ⟨rfl, b1⟩
    | (have h6 := heap_setCell_same _ (w.heap.size + 1) 0 _ 24 (.int .i64 0) hr
       have h7 := heap_setCell_same _ (w.heap.size + 1) 1 _ 24 (.slice none 0 0) h6
       exact post_d2 4 5 rfl rfl (by simpa using h7) rfl rfl ⟨rfl, (b1.setCell (p := ⟨w.heap.size + 1, 0, none⟩) (by show _ ≤ w.heap.size + 1; omega) _).setCell (p := ⟨w.heap.size + 1, 1, none⟩) (by show _ ≤ w.heap.size + 1; omega) _⟩)

set_option maxRecDepth 100000 in
set_option maxHeartbeats 1000000 in
theorem ResidualOf_far (v n : Nat) (q : Int) (u : Value) (w : World) (hu : ∃ a c, u = .slice a n c) (h : (n : Int) ≤ q) :
    Calls Tryd.prog 16 #[.agg #[.int .i64 (v : Int), u], .int .i64 q] w fun e w' => e = .returned (.tuple #[.agg #[.int .i64 0, .slice none 0 0], .int .i64 1]) ∧ Below w.heap.size w w' := by
  have b0 := balloc w (.cells #[.int .i64 (v : Int), u] 24)
  obtain ⟨x0, x1⟩ := des_box v u w _ (balloc (w.alloc (.cells #[.int .i64 (v : Int), u] 24)) (.cells #[.int .i64 0, .slice none 0 0] 24))
  have b1 : Below w.heap.size w ((w.alloc (.cells #[.int .i64 (v : Int), u] 24)).alloc (.cells #[.int .i64 0, .slice none 0 0] 24)) := b0.alloc (by simp) _
  have hr := heap_alloc_new (w.alloc (.cells #[.int .i64 (v : Int), u] 24)) (.cells #[.int .i64 0, .slice none 0 0] 24)
  rw [World.size_alloc] at hr
  have z0 := frozen_of_row _ _ 0 _ _ hr
  have z1 := frozen_of_row _ _ 1 _ _ hr
  have y0 := cell_of_row _ _ 0 _ _ _ hr
  have y1 := cell_of_row _ _ 1 _ _ _ hr
  have hd : decide (q < 0) = false := decide_eq_false (by omega)
  have hd2 : decide (q ≥ (n : Int)) = true := decide_eq_true h
  have hd3 : decide ((n : Int) ≤ q) = true := decide_eq_true h
  clear h
  obtain ⟨ua, uc, rfl⟩ := hu
  go_enter Tryd.func16, Tryd.ntmps16
  go_wp2
  first
    | exact post_d2 4 5 rfl rfl hr rfl rfl ⟨rfl, b1⟩
    | (have h6 := heap_setCell_same _ (w.heap.size + 1) 0 _ 24 (.int .i64 0) hr
       have h7 := heap_setCell_same _ (w.heap.size + 1) 1 _ 24 (.slice none 0 0) h6
       exact post_d2 4 5 rfl rfl (by simpa using h7) rfl rfl ⟨rfl, (b1.setCell (p := ⟨w.heap.size + 1, 0, none⟩) (by show _ ≤ w.heap.size + 1; omega) _).setCell (p := ⟨w.heap.size + 1, 1, none⟩) (by show _ ≤ w.heap.size + 1; omega) _⟩)

end Go.Proofs.YtnnopfdckillpaaDoor
