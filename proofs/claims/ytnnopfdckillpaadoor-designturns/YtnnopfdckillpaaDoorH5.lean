/- The walk of Derived. -/
import Derived.Test.YtnnopfdckillpaaDoorF3
import Derived.Test.YtnnopfdckillpaaDoorH3
namespace Go.Proofs.YtnnopfdckillpaaDoor
open Go.RowKit Go.Shelf

set_option maxRecDepth 100000 in
set_option maxHeartbeats 2000000 in
theorem Derived_bad (p q : Int) (ls : List (List Int)) (v : Value) (w : World) (hv : Rw w v ls) (hl : ls.length ≤ maxLen) (hll : ∀ l ∈ ls, l.length ≤ maxLen) (hz : dF p ls ≠ 0) :
    Calls Tryd.prog 10 #[.agg #[.int .i64 p, v], .int .i64 q] w fun e w' => e = .returned (.tuple #[.agg #[.int .i64 0, .slice none 0 0], .int .i64 (dF p ls : Int)]) ∧ Below w.heap.size w w' := by
  have b0 := balloc w (.cells #[.int .i64 p, v] 24)
  obtain ⟨x0, x1⟩ := des_box p v w _ (balloc (w.alloc (.cells #[.int .i64 p, v] 24)) (.cells #[.int .i64 0, .slice none 0 0] 24))
  have b1 : Below w.heap.size w ((w.alloc (.cells #[.int .i64 p, v] 24)).alloc (.cells #[.int .i64 0, .slice none 0 0] 24)) := b0.alloc (by simp) _
  have hr := heap_alloc_new (w.alloc (.cells #[.int .i64 p, v] 24)) (.cells #[.int .i64 0, .slice none 0 0] 24)
  rw [World.size_alloc] at hr
  have C1 := open_any p ls v _ (hv.below b1) hl hll
  generalize dF p ls = z at *
  have hd : ((z : Int) != 0) = true := by simp; omega
  obtain ⟨w1, Hw1⟩ : ∃ w1, Hid (w1 = (w.alloc (.cells #[.int .i64 p, v] 24)).alloc (.cells #[.int .i64 0, .slice none 0 0] 24)) := ⟨_, rfl⟩
  have s1 : w1.heap.size = w.heap.size + 2 := by rw [Hw1.out]; simp
  have HR : Hid (∀ W, Below w1.heap.size w1 W → W.heap[w.heap.size + 1]? = some (.cells #[.int .i64 0, .slice none 0 0] 24 (0, 0))) := fun W hW => (hW.block _ (by rw [s1]; omega)).trans (by rw [Hw1.out]; exact hr)
  have HV : Hid (∀ W, Below w1.heap.size w1 W → W.cell? ⟨w.heap.size, 0, none⟩ = some (.int .i64 p)) := fun W hW => (hW.cell (p := ⟨w.heap.size, 0, none⟩) (by show w.heap.size < _; rw [s1]; omega)).trans (by rw [Hw1.out]; exact x0)
  rw [← Hw1.out] at b1 C1
  have HS1 : Hid (w1.heap.size = w.heap.size + 2) := s1
  obtain ⟨ua, uc, eu⟩ := rw_form hv
  clear hv hl hll hr s1 HS1 HV
  subst eu
  generalize ls.length = n at *
  go_enter Tryd.func10, Tryd.ntmps10
  go_wp2_with (go_at_call 24; rw [← Hw1.out]; refine C1.mono ?_; rintro e w3 ⟨⟨x, rfl, _, _⟩, hb3⟩; clear C1; have h5 := HR.out _ hb3; have y0 : w3.cell? ⟨w.heap.size + 1, 0, none⟩ = some (.int .i64 0) := (by rw [cell_of_row _ _ _ _ _ _ h5]; rfl); have y1 : w3.cell? ⟨w.heap.size + 1, 1, none⟩ = some (.slice none 0 0) := (by rw [cell_of_row _ _ _ _ _ _ h5]; rfl); have z0 : w3.frozen? ⟨w.heap.size + 1, 0, none⟩ = false := frozen_of_row _ _ _ _ _ h5; have z1 : w3.frozen? ⟨w.heap.size + 1, 1, none⟩ = false := frozen_of_row _ _ _ _ _ h5)
  have h6 := heap_setCell_same w3 (w.heap.size + 1) 0 _ 24 (.int .i64 0) h5
  have h7 := heap_setCell_same _ (w.heap.size + 1) 1 _ 24 (.slice none 0 0) h6
  exact post_d2 4 5 rfl rfl (by simpa using h7) rfl rfl ⟨rfl, ((Below.next b1 hb3).setCell (p := ⟨w.heap.size + 1, 0, none⟩) (by show _ ≤ w.heap.size + 1; omega) _).setCell (p := ⟨w.heap.size + 1, 1, none⟩) (by show _ ≤ w.heap.size + 1; omega) _⟩

set_option maxRecDepth 100000 in
set_option maxHeartbeats 2000000 in
theorem Derived_neg (v : Nat) (q : Int) (B : List (List Nat)) (u : Value) (w : World) (G : GoodD v B) (hu : Rw w u (toZ B)) (hq : q < 0) :
    Calls Tryd.prog 10 #[.agg #[.int .i64 (v : Int), u], .int .i64 q] w fun e w' => e = .returned (.tuple #[.agg #[.int .i64 0, .slice none 0 0], .int .i64 1]) ∧ Below w.heap.size w w' := by
  have b0 := balloc w (.cells #[.int .i64 (v : Int), u] 24)
  obtain ⟨x0, x1⟩ := des_box v u w _ (balloc (w.alloc (.cells #[.int .i64 (v : Int), u] 24)) (.cells #[.int .i64 0, .slice none 0 0] 24))
  have b1 : Below w.heap.size w ((w.alloc (.cells #[.int .i64 (v : Int), u] 24)).alloc (.cells #[.int .i64 0, .slice none 0 0] 24)) := b0.alloc (by simp) _
  have hr := heap_alloc_new (w.alloc (.cells #[.int .i64 (v : Int), u] 24)) (.cells #[.int .i64 0, .slice none 0 0] 24)
  rw [World.size_alloc] at hr
  have C1 := open_good v B u _ G (hu.below b1)
  obtain ⟨w1, Hw1⟩ : ∃ w1, Hid (w1 = (w.alloc (.cells #[.int .i64 (v : Int), u] 24)).alloc (.cells #[.int .i64 0, .slice none 0 0] 24)) := ⟨_, rfl⟩
  have s1 : w1.heap.size = w.heap.size + 2 := by rw [Hw1.out]; simp
  have HR : Hid (∀ W, Below w1.heap.size w1 W → W.heap[w.heap.size + 1]? = some (.cells #[.int .i64 0, .slice none 0 0] 24 (0, 0))) := fun W hW => (hW.block _ (by rw [s1]; omega)).trans (by rw [Hw1.out]; exact hr)
  have HV : Hid (∀ W, Below w1.heap.size w1 W → W.cell? ⟨w.heap.size, 0, none⟩ = some (.int .i64 (v : Int))) := fun W hW => (hW.cell (p := ⟨w.heap.size, 0, none⟩) (by show w.heap.size < _; rw [s1]; omega)).trans (by rw [Hw1.out]; exact x0)
  rw [← Hw1.out] at b1 C1
  have HS1 : Hid (w1.heap.size = w.heap.size + 2) := s1
  have hd : decide (q < 0) = true := by simp; omega
  have hvp := G.pos
  obtain ⟨ua, uc, eu⟩ := rw_form hu
  rw [toZ_len] at eu
  clear hu hr G s1 HS1
  subst eu
  go_enter Tryd.func10, Tryd.ntmps10
  go_wp2_with (first
    | (go_at_call 24; rw [← Hw1.out]; refine C1.mono ?_; rintro e w3 ⟨⟨x, rfl, hrow⟩, hb3⟩; clear C1; obtain ⟨xa, xc, ex⟩ := own_formE hrow; rw [List.length_map] at ex; subst ex; clear hrow; have v0 := HV.out _ hb3; have h5 := HR.out _ hb3; have y0 : w3.cell? ⟨w.heap.size + 1, 0, none⟩ = some (.int .i64 0) := (by rw [cell_of_row _ _ _ _ _ _ h5]; rfl); have y1 : w3.cell? ⟨w.heap.size + 1, 1, none⟩ = some (.slice none 0 0) := (by rw [cell_of_row _ _ _ _ _ _ h5]; rfl); have z0 : w3.frozen? ⟨w.heap.size + 1, 0, none⟩ = false := frozen_of_row _ _ _ _ _ h5; have z1 : w3.frozen? ⟨w.heap.size + 1, 1, none⟩ = false := frozen_of_row _ _ _ _ _ h5))
  have h6 := heap_setCell_same w3 (w.heap.size + 1) 0 _ 24 (.int .i64 0) h5
  have h7 := heap_setCell_same _ (w.heap.size + 1) 1 _ 24 (.slice none 0 0) h6
  exact post_d2 4 5 rfl rfl (by simpa using h7) rfl rfl ⟨rfl, ((Below.next b1 hb3).setCell (p := ⟨w.heap.size + 1, 0, none⟩) (by show _ ≤ w.heap.size + 1; omega) _).setCell (p := ⟨w.heap.size + 1, 1, none⟩) (by show _ ≤ w.heap.size + 1; omega) _⟩

set_option maxRecDepth 100000 in
set_option maxHeartbeats 2000000 in
theorem Derived_far (v : Nat) (q : Int) (B : List (List Nat)) (u : Value) (w : World) (G : GoodD v B) (hu : Rw w u (toZ B)) (hq : (v : Int) ≤ q) :
    Calls Tryd.prog 10 #[.agg #[.int .i64 (v : Int), u], .int .i64 q] w fun e w' => e = .returned (.tuple #[.agg #[.int .i64 0, .slice none 0 0], .int .i64 1]) ∧ Below w.heap.size w w' := by
  have b0 := balloc w (.cells #[.int .i64 (v : Int), u] 24)
  obtain ⟨x0, x1⟩ := des_box v u w _ (balloc (w.alloc (.cells #[.int .i64 (v : Int), u] 24)) (.cells #[.int .i64 0, .slice none 0 0] 24))
  have b1 : Below w.heap.size w ((w.alloc (.cells #[.int .i64 (v : Int), u] 24)).alloc (.cells #[.int .i64 0, .slice none 0 0] 24)) := b0.alloc (by simp) _
  have hr := heap_alloc_new (w.alloc (.cells #[.int .i64 (v : Int), u] 24)) (.cells #[.int .i64 0, .slice none 0 0] 24)
  rw [World.size_alloc] at hr
  have C1 := open_good v B u _ G (hu.below b1)
  obtain ⟨w1, Hw1⟩ : ∃ w1, Hid (w1 = (w.alloc (.cells #[.int .i64 (v : Int), u] 24)).alloc (.cells #[.int .i64 0, .slice none 0 0] 24)) := ⟨_, rfl⟩
  have s1 : w1.heap.size = w.heap.size + 2 := by rw [Hw1.out]; simp
  have HR : Hid (∀ W, Below w1.heap.size w1 W → W.heap[w.heap.size + 1]? = some (.cells #[.int .i64 0, .slice none 0 0] 24 (0, 0))) := fun W hW => (hW.block _ (by rw [s1]; omega)).trans (by rw [Hw1.out]; exact hr)
  have HV : Hid (∀ W, Below w1.heap.size w1 W → W.cell? ⟨w.heap.size, 0, none⟩ = some (.int .i64 (v : Int))) := fun W hW => (hW.cell (p := ⟨w.heap.size, 0, none⟩) (by show w.heap.size < _; rw [s1]; omega)).trans (by rw [Hw1.out]; exact x0)
  rw [← Hw1.out] at b1 C1
  have HS1 : Hid (w1.heap.size = w.heap.size + 2) := s1
  have hd : decide (q < 0) = false := by simp; omega
  have hd2 : decide (q ≥ (v : Int)) = true := by simp; omega
  have hd3 : decide ((v : Int) ≤ q) = true := by simp; omega
  have hvp := G.pos
  obtain ⟨ua, uc, eu⟩ := rw_form hu
  rw [toZ_len] at eu
  clear hu hr G s1 HS1
  subst eu
  go_enter Tryd.func10, Tryd.ntmps10
  go_wp2_with (first
    | (go_at_call 24; rw [← Hw1.out]; refine C1.mono ?_; rintro e w3 ⟨⟨x, rfl, hrow⟩, hb3⟩; clear C1; obtain ⟨xa, xc, ex⟩ := own_formE hrow; rw [List.length_map] at ex; subst ex; clear hrow; have v0 := HV.out _ hb3; have h5 := HR.out _ hb3; have y0 : w3.cell? ⟨w.heap.size + 1, 0, none⟩ = some (.int .i64 0) := (by rw [cell_of_row _ _ _ _ _ _ h5]; rfl); have y1 : w3.cell? ⟨w.heap.size + 1, 1, none⟩ = some (.slice none 0 0) := (by rw [cell_of_row _ _ _ _ _ _ h5]; rfl); have z0 : w3.frozen? ⟨w.heap.size + 1, 0, none⟩ = false := frozen_of_row _ _ _ _ _ h5; have z1 : w3.frozen? ⟨w.heap.size + 1, 1, none⟩ = false := frozen_of_row _ _ _ _ _ h5))
  have h6 := heap_setCell_same w3 (w.heap.size + 1) 0 _ 24 (.int .i64 0) h5
  have h7 := heap_setCell_same _ (w.heap.size + 1) 1 _ 24 (.slice none 0 0) h6
  exact post_d2 4 5 rfl rfl (by simpa using h7) rfl rfl ⟨rfl, ((Below.next b1 hb3).setCell (p := ⟨w.heap.size + 1, 0, none⟩) (by show _ ≤ w.heap.size + 1; omega) _).setCell (p := ⟨w.heap.size + 1, 1, none⟩) (by show _ ≤ w.heap.size + 1; omega) _⟩

set_option maxRecDepth 100000 in
set_option maxHeartbeats 2000000 in
theorem Derived_one (v : Nat) (q : Int) (B : List (List Nat)) (u : Value) (w : World) (G : GoodD v B) (hu : Rw w u (toZ B)) (hq : q = 0) (hv : v = 1) :
    Calls Tryd.prog 10 #[.agg #[.int .i64 (v : Int), u], .int .i64 q] w fun e w' => e = .returned (.tuple #[.agg #[.int .i64 0, .slice none 0 0], .int .i64 2]) ∧ Below w.heap.size w w' := by
  have b0 := balloc w (.cells #[.int .i64 (v : Int), u] 24)
  obtain ⟨x0, x1⟩ := des_box v u w _ (balloc (w.alloc (.cells #[.int .i64 (v : Int), u] 24)) (.cells #[.int .i64 0, .slice none 0 0] 24))
  have b1 : Below w.heap.size w ((w.alloc (.cells #[.int .i64 (v : Int), u] 24)).alloc (.cells #[.int .i64 0, .slice none 0 0] 24)) := b0.alloc (by simp) _
  have hr := heap_alloc_new (w.alloc (.cells #[.int .i64 (v : Int), u] 24)) (.cells #[.int .i64 0, .slice none 0 0] 24)
  rw [World.size_alloc] at hr
  have C1 := open_good v B u _ G (hu.below b1)
  obtain ⟨w1, Hw1⟩ : ∃ w1, Hid (w1 = (w.alloc (.cells #[.int .i64 (v : Int), u] 24)).alloc (.cells #[.int .i64 0, .slice none 0 0] 24)) := ⟨_, rfl⟩
  have s1 : w1.heap.size = w.heap.size + 2 := by rw [Hw1.out]; simp
  have HR : Hid (∀ W, Below w1.heap.size w1 W → W.heap[w.heap.size + 1]? = some (.cells #[.int .i64 0, .slice none 0 0] 24 (0, 0))) := fun W hW => (hW.block _ (by rw [s1]; omega)).trans (by rw [Hw1.out]; exact hr)
  have HV : Hid (∀ W, Below w1.heap.size w1 W → W.cell? ⟨w.heap.size, 0, none⟩ = some (.int .i64 (v : Int))) := fun W hW => (hW.cell (p := ⟨w.heap.size, 0, none⟩) (by show w.heap.size < _; rw [s1]; omega)).trans (by rw [Hw1.out]; exact x0)
  rw [← Hw1.out] at b1 C1
  have HS1 : Hid (w1.heap.size = w.heap.size + 2) := s1
  subst hq
  have hd2 : decide ((0 : Int) ≥ (v : Int)) = false := by simp; omega
  have hd3 : decide ((v : Int) ≤ 0) = false := by simp; omega
  have hd4 : decide (v = 0) = false := decide_eq_false (by omega)
  have hd5 : ((v : Int) == 1) = true := by simp; omega
  have hvp := G.pos
  obtain ⟨ua, uc, eu⟩ := rw_form hu
  rw [toZ_len] at eu
  clear hu hr G s1 HS1 hv
  subst eu
  go_enter Tryd.func10, Tryd.ntmps10
  go_wp2_with (first
    | (go_at_call 24; rw [← Hw1.out]; refine C1.mono ?_; rintro e w3 ⟨⟨x, rfl, hrow⟩, hb3⟩; clear C1; obtain ⟨xa, xc, ex⟩ := own_formE hrow; rw [List.length_map] at ex; subst ex; clear hrow; have v0 := HV.out _ hb3; have h5 := HR.out _ hb3; have y0 : w3.cell? ⟨w.heap.size + 1, 0, none⟩ = some (.int .i64 0) := (by rw [cell_of_row _ _ _ _ _ _ h5]; rfl); have y1 : w3.cell? ⟨w.heap.size + 1, 1, none⟩ = some (.slice none 0 0) := (by rw [cell_of_row _ _ _ _ _ _ h5]; rfl); have z0 : w3.frozen? ⟨w.heap.size + 1, 0, none⟩ = false := frozen_of_row _ _ _ _ _ h5; have z1 : w3.frozen? ⟨w.heap.size + 1, 1, none⟩ = false := frozen_of_row _ _ _ _ _ h5))
  have h6 := heap_setCell_same w3 (w.heap.size + 1) 0 _ 24 (.int .i64 0) h5
  have h7 := heap_setCell_same _ (w.heap.size + 1) 1 _ 24 (.slice none 0 0) h6
  exact post_d2 4 5 rfl rfl (by simpa using h7) rfl rfl ⟨rfl, ((Below.next b1 hb3).setCell (p := ⟨w.heap.size + 1, 0, none⟩) (by show _ ≤ w.heap.size + 1; omega) _).setCell (p := ⟨w.heap.size + 1, 1, none⟩) (by show _ ≤ w.heap.size + 1; omega) _⟩

set_option maxRecDepth 100000 in
set_option maxHeartbeats 4000000 in
theorem Derived_good (v p : Nat) (B : List (List Nat)) (u : Value) (w : World) (hT : Tab w) (G : GoodD v B) (hu : Rw w u (toZ B)) (hp : p < v) (hv2 : 2 ≤ v) :
    Calls Tryd.prog 10 #[.agg #[.int .i64 (v : Int), u], .int .i64 (p : Int)] w fun e w' => ∃ y, e = .returned (.tuple #[.agg #[.int .i64 ((v - 1 : Nat) : Int), y], .int .i64 0]) ∧ Rw w' y (toZ (deriv v p B)) ∧ Below w.heap.size w w' := by
  have b0 := balloc w (.cells #[.int .i64 (v : Int), u] 24)
  obtain ⟨x0, x1⟩ := des_box v u w _ (balloc (w.alloc (.cells #[.int .i64 (v : Int), u] 24)) (.cells #[.int .i64 0, .slice none 0 0] 24))
  have b1 : Below w.heap.size w ((w.alloc (.cells #[.int .i64 (v : Int), u] 24)).alloc (.cells #[.int .i64 0, .slice none 0 0] 24)) := b0.alloc (by simp) _
  have hr := heap_alloc_new (w.alloc (.cells #[.int .i64 (v : Int), u] 24)) (.cells #[.int .i64 0, .slice none 0 0] 24)
  rw [World.size_alloc] at hr
  have C1 := open_good v B u _ G (hu.below b1)
  obtain ⟨w1, Hw1⟩ : ∃ w1, Hid (w1 = (w.alloc (.cells #[.int .i64 (v : Int), u] 24)).alloc (.cells #[.int .i64 0, .slice none 0 0] 24)) := ⟨_, rfl⟩
  have s1 : w1.heap.size = w.heap.size + 2 := by rw [Hw1.out]; simp
  have HR : Hid (∀ W, Below w1.heap.size w1 W → W.heap[w.heap.size + 1]? = some (.cells #[.int .i64 0, .slice none 0 0] 24 (0, 0))) := fun W hW => (hW.block _ (by rw [s1]; omega)).trans (by rw [Hw1.out]; exact hr)
  have HV : Hid (∀ W, Below w1.heap.size w1 W → W.cell? ⟨w.heap.size, 0, none⟩ = some (.int .i64 (v : Int))) := fun W hW => (hW.cell (p := ⟨w.heap.size, 0, none⟩) (by show w.heap.size < _; rw [s1]; omega)).trans (by rw [Hw1.out]; exact x0)
  rw [← Hw1.out] at b1 C1
  have HS1 : Hid (w1.heap.size = w.heap.size + 2) := s1
  have hv40 := G.le
  have hT1 : Hid (Tab w1) := hT.next b1
  have CB : Hid (∀ W, Calls Tryd.prog 25 #[.int .i64 (v : Int)] W fun e w' => e = .returned (.int .u64 ((2 ^ v - 1 : Nat) : Int)) ∧ w' = W) := fun W => below_any v (by omega) W
  have CO : Hid (∀ W, Calls Tryd.prog 29 #[.int .i64 (p : Int)] W fun e w' => e = .returned (.int .u64 ((2 ^ p : Nat) : Int)) ∧ w' = W) := fun W => only_any p (by omega) W
  have CW : Hid (∀ W, Calls Tryd.prog 26 #[.int .u64 ((2 ^ v - 1 : Nat) : Int), .int .u64 ((2 ^ p : Nat) : Int)] W fun e w' => e = .returned (.int .u64 ((sb (wo v p) : Nat) : Int)) ∧ w' = W) := fun W => by
    have := without_any _ _ (low_lt (show v ≤ 64 by omega)) (pow_lt64 (show p < 64 by omega)) W
    rwa [wo_sb hp (by omega)] at this
  have e0 : (B.map sb).filter (fun y => y.testBit p) = (B.filter fun b => b.contains p).map sb := by
    rw [List.filter_map]
    congr 1
    exact List.filter_congr fun b _ => sb_bit b p
  have HHV : Hid (∀ (x : Value) (W : World), SC W x (B.map sb) → Calls Tryd.prog 30 #[x, .int .i64 (p : Int)] W fun e w' => ∃ z, e = .returned z ∧ SC w' z ((B.filter fun b => b.contains p).map sb) ∧ Below W.heap.size W w') := fun x W hx => by
    have := having_any p (B.map sb) x W hx (by rw [List.length_map]; exact G.few) (good_sb40 G) (by omega)
    rwa [e0] at this
  have HAM : Hid (∀ (x : Value) (W : World), Tab W → SC W x ((B.filter fun b => b.contains p).map sb) → Calls Tryd.prog 27 #[.int .u64 ((sb (wo v p) : Nat) : Int), x] W fun e w' => ∃ y, e = .returned (.agg #[.int .i64 ((v - 1 : Nat) : Int), y]) ∧ OR w' (W.heap.size + 3) y (deriv v p B) ∧ Below W.heap.size W w') := fun x W hTW hx => by
    have hlt : ∀ x ∈ wo v p, x < 40 := fun x hx => by have := ((wo_mem hp).1 hx).1; omega
    refine (among_any (sb (wo v p)) _ x W hTW hx (by rw [List.length_map]; exact Nat.le_trans (List.length_filter_le _ _) G.few) (fun q hq => ?_) (sb_lt hlt)).mono ?_
    · obtain ⟨b, hb, rfl⟩ := List.mem_map.1 hq
      exact good_sb40 G _ (List.mem_map.2 ⟨b, (List.mem_filter.1 hb).1, rfl⟩)
    · rintro e w' ⟨y, rfl, h1, h2⟩
      rw [pc_sb (wo_rise v p) (fun x hx => by have := hlt x hx; omega), wo_len]
      rw [deriv_am hv40 hp] at h1
      exact ⟨y, rfl, h1, h2⟩
  obtain ⟨D, eD⟩ : ∃ D, Hid (deriv v p B = D) := ⟨_, rfl⟩
  rw [eD.out] at HAM ⊢
  obtain ⟨F, eF⟩ : ∃ D, Hid ((B.filter fun b => b.contains p).map sb = D) := ⟨_, rfl⟩
  rw [eF.out] at HAM HHV
  obtain ⟨kp, ek⟩ : ∃ D, Hid (sb (wo v p) = D) := ⟨_, rfl⟩
  rw [ek.out] at HAM CW
  obtain ⟨al, Hal⟩ : ∃ al, Hid (2 ^ v - 1 = al) := ⟨_, (rfl : 2 ^ v - 1 = 2 ^ v - 1)⟩
  rw [Hal.out] at CB CW
  obtain ⟨pq, Hpq⟩ : ∃ al, Hid (2 ^ p = al) := ⟨_, (rfl : 2 ^ p = 2 ^ p)⟩
  rw [Hpq.out] at CO CW
  obtain ⟨vm, Hvm⟩ : ∃ al, Hid (v - 1 = al) := ⟨_, (rfl : v - 1 = v - 1)⟩
  rw [Hvm.out] at HAM ⊢
  obtain ⟨ua, uc, eu⟩ := rw_form hu
  rw [toZ_len] at eu
  have hd : decide ((p : Int) < 0) = false := by simp
  have hd2 : decide ((p : Int) ≥ (v : Int)) = false := by simp; omega
  have hd3 : decide ((v : Int) ≤ (p : Int)) = false := by simp; omega
  have hd4 : decide (v ≤ p) = false := decide_eq_false (by omega)
  have hd5 : ((v : Int) == 1) = false := by simp; omega
  clear hu hr s1 G hT b0 e0 hp
  subst eu
  obtain ⟨BS, eBS⟩ : ∃ D, Hid (B.map sb = D) := ⟨_, rfl⟩
  have HBL : Hid (BS.length = B.length) := by rw [← eBS.out]; exact List.length_map ..
  rw [eBS.out] at C1 HHV
  generalize B.length = n at *
  clear eBS eD eF ek Hal Hpq Hvm
  go_enter Tryd.func10, Tryd.ntmps10
  go_wp2_with (first
    | (go_at_call 24; rw [← Hw1.out]; refine C1.mono ?_; rintro e w3 ⟨⟨x, rfl, hrow⟩, hb3⟩; clear C1; have y0 := HV.out _ hb3; obtain ⟨xa, xc, ex⟩ := own_formE hrow; rw [HBL.out] at ex; have HROW : Hid (SC w3 x BS) := hrow.sc; clear hrow; subst ex)
    | (go_at_call 25; refine (CB.out _).mono ?_; rintro e w4 ⟨rfl, hw4⟩; replace hw4 := hw4.symm; subst hw4)
    | (go_at_call 29; refine (CO.out _).mono ?_; rintro e w4 ⟨rfl, hw4⟩; replace hw4 := hw4.symm; subst hw4)
    | (go_at_call 26; refine (CW.out _).mono ?_; rintro e w4 ⟨rfl, hw4⟩; replace hw4 := hw4.symm; subst hw4)
    | (go_at_call 30; refine (HHV.out _ _ HROW.out).mono ?_; rintro e w4 ⟨z, rfl, hz, hb4⟩; replace hb4 := Below.next hb3 hb4; have HZ : Hid (SC w4 z F) := hz; clear hz)
    | (go_at_call 27; refine (HAM.out _ _ (hT1.out.next hb4) HZ.out).mono ?_; rintro e w5 ⟨y, rfl, hy, hb5⟩; have hle4 : Hid (w1.heap.size ≤ w4.heap.size) := hb4.size; replace hb5 := Below.next hb4 hb5; have h5 := HR.out _ hb5; have z0 : w5.frozen? ⟨w.heap.size + 1, 0, none⟩ = false := frozen_of_row _ _ _ _ _ h5; have z1 : w5.frozen? ⟨w.heap.size + 1, 1, none⟩ = false := frozen_of_row _ _ _ _ _ h5; have y0' : w5.cell? ⟨w.heap.size + 1, 0, none⟩ = some (.int .i64 0) := (by rw [cell_of_row _ _ _ _ _ _ h5]; rfl); have y1' : w5.cell? ⟨w.heap.size + 1, 1, none⟩ = some (.slice none 0 0) := (by rw [cell_of_row _ _ _ _ _ _ h5]; rfl); have HY : Hid (OR w5 (w4.heap.size + 3) y D) := hy; obtain ⟨ya, yc, ey⟩ := hy.cap; clear hy; subst ey))
  have s1 := HS1.out
  have hle := hle4.out
  obtain ⟨t1, t2, t3⟩ := res_store (w0 := w) (p := vm) (y := .slice ya D.length yc) h5 (by omega)
  exact post_d2 4 5 rfl rfl t1 rfl rfl ⟨_, rfl, rw_above (r := w.heap.size + 1) HY.out (by omega) t2, (b1.trans (hb5.mono b1.size)).trans t3⟩

end Go.Proofs.YtnnopfdckillpaaDoor
