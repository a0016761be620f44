/- The walk of Residual. -/
import Derived.Test.YtnnopfdckillpaaDoorH4
import Derived.Test.YtnnopfdckillpaaDoorH5
namespace Go.Proofs.YtnnopfdckillpaaDoor
open Go.RowKit Go.Shelf

attribute [local go_sem] Oper.semAt_some

theorem sb_none {K : List Nat} : sb K = 0 ↔ K = [] := by
  constructor
  · intro h
    cases K with
    | nil => rfl
    | cons x K =>
      have := sb_bit (x :: K) x
      rw [h, Nat.zero_testBit] at this
      simp at this
  · rintro rfl; rfl

set_option maxRecDepth 100000 in
set_option maxHeartbeats 2000000 in
theorem Residual_bad (p q : Int) (ls : List (List Int)) (v : Value) (w : World) (hv : Rw w v ls) (hl : ls.length ≤ maxLen) (hll : ∀ l ∈ ls, l.length ≤ maxLen) (hz : dF p ls ≠ 0) :
    Calls Tryd.prog 11 #[.agg #[.int .i64 p, v], .int .i64 q] w fun e w' => e = .returned (.tuple #[.agg #[.int .i64 0, .slice none 0 0], .int .i64 (dF p ls : Int)]) ∧ Below w.heap.size w w' := by
  have b0 := balloc w (.cells #[.int .i64 p, v] 24)
  obtain ⟨x0, x1⟩ := des_box p v w _ (balloc (w.alloc (.cells #[.int .i64 p, v] 24)) (.cells #[.int .i64 0, .slice none 0 0] 24))
  have b1 : Below w.heap.size w ((w.alloc (.cells #[.int .i64 p, v] 24)).alloc (.cells #[.int .i64 0, .slice none 0 0] 24)) := b0.alloc (by simp) _
  have hr := heap_alloc_new (w.alloc (.cells #[.int .i64 p, v] 24)) (.cells #[.int .i64 0, .slice none 0 0] 24)
  rw [World.size_alloc] at hr
  have C1 := open_any p ls v _ (hv.below b1) hl hll
  generalize dF p ls = z at *
  have hd : ((z : Int) != 0) = true := by simp; omega
  obtain ⟨w1, Hw1⟩ : ∃ w1, Hid (w1 = (w.alloc (.cells #[.int .i64 p, v] 24)).alloc (.cells #[.int .i64 0, .slice none 0 0] 24)) := ⟨_, rfl⟩
  have s1 : w1.heap.size = w.heap.size + 2 := by rw [Hw1.out]; simp
  have HR : Hid (∀ W, Below w1.heap.size w1 W → W.heap[w.heap.size + 1]? = some (.cells #[.int .i64 0, .slice none 0 0] 24 (0, 0))) := fun W hW => (hW.block _ (by rw [s1]; omega)).trans (by rw [Hw1.out]; exact hr)
  have HV : Hid (∀ W, Below w1.heap.size w1 W → W.cell? ⟨w.heap.size, 0, none⟩ = some (.int .i64 p)) := fun W hW => (hW.cell (p := ⟨w.heap.size, 0, none⟩) (by show w.heap.size < _; rw [s1]; omega)).trans (by rw [Hw1.out]; exact x0)
  rw [← Hw1.out] at b1 C1
  have HS1 : Hid (w1.heap.size = w.heap.size + 2) := s1
  obtain ⟨ua, uc, eu⟩ := rw_form hv
  clear hv hl hll hr s1 HS1 HV
  subst eu
  generalize ls.length = n at *
  go_enter Tryd.func11, Tryd.ntmps11
  go_wp2_with (go_at_call 24; rw [← Hw1.out]; refine C1.mono ?_; rintro e w3 ⟨⟨x, rfl, _, _⟩, hb3⟩; clear C1; have h5 := HR.out _ hb3; have y0 : w3.cell? ⟨w.heap.size + 1, 0, none⟩ = some (.int .i64 0) := (by rw [cell_of_row _ _ _ _ _ _ h5]; rfl); have y1 : w3.cell? ⟨w.heap.size + 1, 1, none⟩ = some (.slice none 0 0) := (by rw [cell_of_row _ _ _ _ _ _ h5]; rfl); have z0 : w3.frozen? ⟨w.heap.size + 1, 0, none⟩ = false := frozen_of_row _ _ _ _ _ h5; have z1 : w3.frozen? ⟨w.heap.size + 1, 1, none⟩ = false := frozen_of_row _ _ _ _ _ h5)
  have h6 := heap_setCell_same w3 (w.heap.size + 1) 0 _ 24 (.int .i64 0) h5
  have h7 := heap_setCell_same _ (w.heap.size + 1) 1 _ 24 (.slice none 0 0) h6
  exact post_d2 4 5 rfl rfl (by simpa using h7) rfl rfl ⟨rfl, ((Below.next b1 hb3).setCell (p := ⟨w.heap.size + 1, 0, none⟩) (by show _ ≤ w.heap.size + 1; omega) _).setCell (p := ⟨w.heap.size + 1, 1, none⟩) (by show _ ≤ w.heap.size + 1; omega) _⟩

set_option maxRecDepth 100000 in
set_option maxHeartbeats 2000000 in
theorem Residual_neg (v : Nat) (q : Int) (B : List (List Nat)) (u : Value) (w : World) (G : GoodD v B) (hu : Rw w u (toZ B)) (hq : q < 0) :
    Calls Tryd.prog 11 #[.agg #[.int .i64 (v : Int), u], .int .i64 q] w fun e w' => e = .returned (.tuple #[.agg #[.int .i64 0, .slice none 0 0], .int .i64 1]) ∧ Below w.heap.size w w' := by
  have b0 := balloc w (.cells #[.int .i64 (v : Int), u] 24)
  obtain ⟨x0, x1⟩ := des_box v u w _ (balloc (w.alloc (.cells #[.int .i64 (v : Int), u] 24)) (.cells #[.int .i64 0, .slice none 0 0] 24))
  have b1 : Below w.heap.size w ((w.alloc (.cells #[.int .i64 (v : Int), u] 24)).alloc (.cells #[.int .i64 0, .slice none 0 0] 24)) := b0.alloc (by simp) _
  have hr := heap_alloc_new (w.alloc (.cells #[.int .i64 (v : Int), u] 24)) (.cells #[.int .i64 0, .slice none 0 0] 24)
  rw [World.size_alloc] at hr
  have C1 := open_good v B u _ G (hu.below b1)
  obtain ⟨w1, Hw1⟩ : ∃ w1, Hid (w1 = (w.alloc (.cells #[.int .i64 (v : Int), u] 24)).alloc (.cells #[.int .i64 0, .slice none 0 0] 24)) := ⟨_, rfl⟩
  have s1 : w1.heap.size = w.heap.size + 2 := by rw [Hw1.out]; simp
  have HR : Hid (∀ W, Below w1.heap.size w1 W → W.heap[w.heap.size + 1]? = some (.cells #[.int .i64 0, .slice none 0 0] 24 (0, 0))) := fun W hW => (hW.block _ (by rw [s1]; omega)).trans (by rw [Hw1.out]; exact hr)
  have HV : Hid (∀ W, Below w1.heap.size w1 W → W.cell? ⟨w.heap.size, 0, none⟩ = some (.int .i64 (v : Int))) := fun W hW => (hW.cell (p := ⟨w.heap.size, 0, none⟩) (by show w.heap.size < _; rw [s1]; omega)).trans (by rw [Hw1.out]; exact x0)
  rw [← Hw1.out] at b1 C1
  have HS1 : Hid (w1.heap.size = w.heap.size + 2) := s1
  have hd : decide (q < 0) = true := by simp; omega
  have hvp := G.pos
  obtain ⟨ua, uc, eu⟩ := rw_form hu
  rw [toZ_len] at eu
  clear hu hr G s1 HS1
  subst eu
  go_enter Tryd.func11, Tryd.ntmps11
  go_wp2_with (first
    | (go_at_call 24; rw [← Hw1.out]; refine C1.mono ?_; rintro e w3 ⟨⟨x, rfl, hrow⟩, hb3⟩; clear C1; obtain ⟨xa, xc, ex⟩ := own_formE hrow; rw [List.length_map] at ex; subst ex; clear hrow; have v0 := HV.out _ hb3; have h5 := HR.out _ hb3; have y0 : w3.cell? ⟨w.heap.size + 1, 0, none⟩ = some (.int .i64 0) := (by rw [cell_of_row _ _ _ _ _ _ h5]; rfl); have y1 : w3.cell? ⟨w.heap.size + 1, 1, none⟩ = some (.slice none 0 0) := (by rw [cell_of_row _ _ _ _ _ _ h5]; rfl); have z0 : w3.frozen? ⟨w.heap.size + 1, 0, none⟩ = false := frozen_of_row _ _ _ _ _ h5; have z1 : w3.frozen? ⟨w.heap.size + 1, 1, none⟩ = false := frozen_of_row _ _ _ _ _ h5))
  have h6 := heap_setCell_same w3 (w.heap.size + 1) 0 _ 24 (.int .i64 0) h5
  have h7 := heap_setCell_same _ (w.heap.size + 1) 1 _ 24 (.slice none 0 0) h6
  exact post_d2 4 5 rfl rfl (by simpa using h7) rfl rfl ⟨rfl, ((Below.next b1 hb3).setCell (p := ⟨w.heap.size + 1, 0, none⟩) (by show _ ≤ w.heap.size + 1; omega) _).setCell (p := ⟨w.heap.size + 1, 1, none⟩) (by show _ ≤ w.heap.size + 1; omega) _⟩

set_option maxRecDepth 100000 in
set_option maxHeartbeats 2000000 in
theorem Residual_far (v : Nat) (q : Int) (B : List (List Nat)) (u : Value) (w : World) (G : GoodD v B) (hu : Rw w u (toZ B)) (hq : (B.length : Int) ≤ q) :
    Calls Tryd.prog 11 #[.agg #[.int .i64 (v : Int), u], .int .i64 q] w fun e w' => e = .returned (.tuple #[.agg #[.int .i64 0, .slice none 0 0], .int .i64 1]) ∧ Below w.heap.size w w' := by
  have b0 := balloc w (.cells #[.int .i64 (v : Int), u] 24)
  obtain ⟨x0, x1⟩ := des_box v u w _ (balloc (w.alloc (.cells #[.int .i64 (v : Int), u] 24)) (.cells #[.int .i64 0, .slice none 0 0] 24))
  have b1 : Below w.heap.size w ((w.alloc (.cells #[.int .i64 (v : Int), u] 24)).alloc (.cells #[.int .i64 0, .slice none 0 0] 24)) := b0.alloc (by simp) _
  have hr := heap_alloc_new (w.alloc (.cells #[.int .i64 (v : Int), u] 24)) (.cells #[.int .i64 0, .slice none 0 0] 24)
  rw [World.size_alloc] at hr
  have C1 := open_good v B u _ G (hu.below b1)
  obtain ⟨w1, Hw1⟩ : ∃ w1, Hid (w1 = (w.alloc (.cells #[.int .i64 (v : Int), u] 24)).alloc (.cells #[.int .i64 0, .slice none 0 0] 24)) := ⟨_, rfl⟩
  have s1 : w1.heap.size = w.heap.size + 2 := by rw [Hw1.out]; simp
  have HR : Hid (∀ W, Below w1.heap.size w1 W → W.heap[w.heap.size + 1]? = some (.cells #[.int .i64 0, .slice none 0 0] 24 (0, 0))) := fun W hW => (hW.block _ (by rw [s1]; omega)).trans (by rw [Hw1.out]; exact hr)
  have HV : Hid (∀ W, Below w1.heap.size w1 W → W.cell? ⟨w.heap.size, 0, none⟩ = some (.int .i64 (v : Int))) := fun W hW => (hW.cell (p := ⟨w.heap.size, 0, none⟩) (by show w.heap.size < _; rw [s1]; omega)).trans (by rw [Hw1.out]; exact x0)
  rw [← Hw1.out] at b1 C1
  have HS1 : Hid (w1.heap.size = w.heap.size + 2) := s1
  have hd : decide (q < 0) = false := by simp; omega
  have hd2 : decide (q ≥ (B.length : Int)) = true := by simp; omega
  have hd3 : decide ((B.length : Int) ≤ q) = true := by simp; omega
  have hvp := G.pos
  obtain ⟨ua, uc, eu⟩ := rw_form hu
  rw [toZ_len] at eu
  clear hu hr G s1 HS1
  subst eu
  go_enter Tryd.func11, Tryd.ntmps11
  go_wp2_with (first
    | (go_at_call 24; rw [← Hw1.out]; refine C1.mono ?_; rintro e w3 ⟨⟨x, rfl, hrow⟩, hb3⟩; clear C1; obtain ⟨xa, xc, ex⟩ := own_formE hrow; rw [List.length_map] at ex; subst ex; clear hrow; have v0 := HV.out _ hb3; have h5 := HR.out _ hb3; have y0 : w3.cell? ⟨w.heap.size + 1, 0, none⟩ = some (.int .i64 0) := (by rw [cell_of_row _ _ _ _ _ _ h5]; rfl); have y1 : w3.cell? ⟨w.heap.size + 1, 1, none⟩ = some (.slice none 0 0) := (by rw [cell_of_row _ _ _ _ _ _ h5]; rfl); have z0 : w3.frozen? ⟨w.heap.size + 1, 0, none⟩ = false := frozen_of_row _ _ _ _ _ h5; have z1 : w3.frozen? ⟨w.heap.size + 1, 1, none⟩ = false := frozen_of_row _ _ _ _ _ h5))
  have h6 := heap_setCell_same w3 (w.heap.size + 1) 0 _ 24 (.int .i64 0) h5
  have h7 := heap_setCell_same _ (w.heap.size + 1) 1 _ 24 (.slice none 0 0) h6
  exact post_d2 4 5 rfl rfl (by simpa using h7) rfl rfl ⟨rfl, ((Below.next b1 hb3).setCell (p := ⟨w.heap.size + 1, 0, none⟩) (by show _ ≤ w.heap.size + 1; omega) _).setCell (p := ⟨w.heap.size + 1, 1, none⟩) (by show _ ≤ w.heap.size + 1; omega) _⟩

set_option maxRecDepth 100000 in
set_option maxHeartbeats 2000000 in
theorem Residual_shape (v i : Nat) (B : List (List Nat)) (u : Value) (w : World) (hT : Tab w) (G : GoodD v B) (hu : Rw w u (toZ B)) (hi : i < B.length) (hne : oth v (B.getD i []) = []) :
    Calls Tryd.prog 11 #[.agg #[.int .i64 (v : Int), u], .int .i64 (i : Int)] w fun e w' => e = .returned (.tuple #[.agg #[.int .i64 0, .slice none 0 0], .int .i64 2]) ∧ Below w.heap.size w w' := by
  refine (callsIn_wide (n := 4)).1 ?_
  have b0 := balloc w (.cells #[.int .i64 (v : Int), u] 24)
  obtain ⟨x0, x1⟩ := des_box v u w _ (balloc (w.alloc (.cells #[.int .i64 (v : Int), u] 24)) (.cells #[.int .i64 0, .slice none 0 0] 24))
  have b1 : Below w.heap.size w ((w.alloc (.cells #[.int .i64 (v : Int), u] 24)).alloc (.cells #[.int .i64 0, .slice none 0 0] 24)) := b0.alloc (by simp) _
  have hr := heap_alloc_new (w.alloc (.cells #[.int .i64 (v : Int), u] 24)) (.cells #[.int .i64 0, .slice none 0 0] 24)
  rw [World.size_alloc] at hr
  have C1 := open_good v B u _ G (hu.below b1)
  obtain ⟨w1, Hw1⟩ : ∃ w1, Hid (w1 = (w.alloc (.cells #[.int .i64 (v : Int), u] 24)).alloc (.cells #[.int .i64 0, .slice none 0 0] 24)) := ⟨_, rfl⟩
  have s1 : w1.heap.size = w.heap.size + 2 := by rw [Hw1.out]; simp
  have HR : Hid (∀ W, Below w1.heap.size w1 W → W.heap[w.heap.size + 1]? = some (.cells #[.int .i64 0, .slice none 0 0] 24 (0, 0))) := fun W hW => (hW.block _ (by rw [s1]; omega)).trans (by rw [Hw1.out]; exact hr)
  have HV : Hid (∀ W, Below w1.heap.size w1 W → W.cell? ⟨w.heap.size, 0, none⟩ = some (.int .i64 (v : Int))) := fun W hW => (hW.cell (p := ⟨w.heap.size, 0, none⟩) (by show w.heap.size < _; rw [s1]; omega)).trans (by rw [Hw1.out]; exact x0)
  rw [← Hw1.out] at b1 C1
  have HS1 : Hid (w1.heap.size = w.heap.size + 2) := s1
  have hv40 := G.le
  have hT1 : Hid (Tab w1) := hT.next b1
  have CB : Hid (∀ W, Calls Tryd.prog 25 #[.int .i64 (v : Int)] W fun e w' => e = .returned (.int .u64 ((2 ^ v - 1 : Nat) : Int)) ∧ w' = W) := fun W => below_any v (by omega) W
  have hbm : B.getD i [] ∈ B := getD_memB hi
  have eg : (B.map sb).getD i 0 = sb (B.getD i []) := getD_map B hi
  have CW : Hid (∀ W, Calls Tryd.prog 26 #[.int .u64 ((2 ^ v - 1 : Nat) : Int), .int .u64 ((sb (B.getD i []) : Nat) : Int)] W fun e w' => e = .returned (.int .u64 ((sb (oth v (B.getD i [])) : Nat) : Int)) ∧ w' = W) := fun W => by
    have := without_any _ _ (low_lt (show v ≤ 64 by omega)) (sb_lt (n := 64) fun x hx => by have := (G.bls _ hbm).lt x hx; omega : sb (B.getD i []) < 2 ^ 64) W
    rwa [oth_sb hv40 (G.bls _ hbm).lt] at this
  rw [hne, show sb [] = 0 from rfl] at CW
  clear hne
  have HOWN : Hid (∀ (x : Value) (W : World), SRow W (w1.heap.size + 1) x (B.map sb) → ∃ g cap, x = .slice (some ⟨g, 0, none⟩) B.length cap ∧ w1.heap.size < g ∧ B.length ≤ cap ∧ cap ≤ maxLen ∧ OwnS W g B.length fun j => (B.map sb).getD j 0) := fun x W h => by
    obtain ⟨g, cap, h1, h2, h3, h4, h5⟩ := h.owns (by rw [List.length_map]; omega)
    rw [List.length_map] at h1 h3 h5
    exact ⟨g, cap, h1, by omega, h3, h4, h5⟩
  obtain ⟨bi, ebi⟩ : ∃ D, Hid (sb (B.getD i []) = D) := ⟨_, rfl⟩
  rw [ebi.out] at CW eg
  have HEG : Hid ((B.map sb).getD i 0 = bi) := eg
  obtain ⟨al, Hal⟩ : ∃ al, Hid (2 ^ v - 1 = al) := ⟨_, (rfl : 2 ^ v - 1 = 2 ^ v - 1)⟩
  rw [Hal.out] at CB CW
  obtain ⟨ua, uc, eu⟩ := rw_form hu
  rw [toZ_len] at eu
  have hd : decide ((i : Int) < 0) = false := by simp
  have hd2 : decide ((i : Int) ≥ (B.length : Int)) = false := by simp; omega
  have hd3 : decide ((B.length : Int) ≤ (i : Int)) = false := by simp; omega
  have hd4 : decide (B.length ≤ i) = false := decide_eq_false (by omega)
  have hii : (i : Int) < (B.length : Int) := by omega
  have h200 := G.few
  clear hu hr s1 G hT b0 eg hbm
  subst eu
  obtain ⟨BS, eBS⟩ : ∃ D, Hid (B.map sb = D) := ⟨_, rfl⟩
  have HBL : Hid (BS.length = B.length) := by rw [← eBS.out]; exact List.length_map ..
  rw [eBS.out] at C1 HEG HOWN
  generalize B.length = n at *
  clear eBS ebi Hal
  refine callsIn_of_wp Tryd.func11 rfl trivial ?_ rfl
  simp only [Tryd.ntmps11, List.size_toArray, List.length_cons, List.length_nil, Nat.reduceAdd, Nat.reduceSub, Array.replicate_succ, Array.replicate_zero, List.push_toArray, List.append_toArray, List.nil_append, List.cons_append]
  gi_wp2_with (refine ⟨trivial, ?_⟩; rw [← Hw1.out]; refine (callsIn_wide.2 C1).mono ?_; rintro e w3 ⟨⟨x, rfl, hrow⟩, hb3⟩; clear C1; have y0 := HV.out _ hb3; obtain ⟨g, xc, ex, hg, hc1, hc2, hO⟩ := HOWN.out _ _ hrow; have HO : Hid (OwnS w3.drew g n fun j => BS.getD j 0) := hO; have hci := hO.cell i (by omega); rw [HEG.out] at hci; clear hrow hO; subst ex)
  refine wpIn_mono (Q := fun e a' w' => e = .normal ∧ a' = { tmps := #[.agg #[.int .i64 (v : Int), .slice ua n uc], .int .i64 (i : Int), .pointer (some ⟨w.heap.size, 0, none⟩), undef, .pointer (some ⟨w.heap.size + 1, 0, none⟩), .int .i64 0, .slice (some ⟨g, 0, none⟩) n xc, .int .i64 0, .int .u64 0, .tuple #[.slice (some ⟨g, 0, none⟩) n xc, .int .i64 0], .agg #[.int .i64 (v : Int), .slice ua n uc], .tuple #[.slice (some ⟨g, 0, none⟩) n xc, .int .i64 0], .slice (some ⟨g, 0, none⟩) n xc, .int .i64 0, .int .i64 0, .bool false, undef, undef, .int .i64 (i : Int), .bool false, .bool false, .int .i64 (i : Int), .slice (some ⟨g, 0, none⟩) n xc, .int .i64 (n : Int), .bool false, .bool false, undef, .pointer (some ⟨w.heap.size, 0, none⟩), .int .i64 (v : Int), .int .u64 (al : Int), .slice (some ⟨g, 0, none⟩) n xc, .int .i64 (i : Int), .pointer (some ⟨g, i, none⟩), .int .u64 (bi : Int), .int .u64 0, undef, undef, undef, undef, undef, undef, undef, undef, undef, undef], defers := [] } ∧ w' = w3.drew) ?region ?rest
  case region =>
    refine wpIn_region_any (by kernel_rfl) ?_
    try (change wpAnyIn _ _ _ _ _ _ _ _ _ (World.drew _))
    refine wpAnyIn_take (i := 0) (v := .pointer (some ⟨w.heap.size, 0, none⟩)) rfl rfl (by kernel_rfl) (by kernel_rfl) (by kernel_rfl) (by intro _ _ _ h; first | exact h | cases h.1) ⟨Or.inl ⟨by rfl, fun w => by go_simp⟩, fun _ => rfl⟩ ?_
    refine wpAnyIn_take (i := 3) (v := .slice (some ⟨g, 0, none⟩) n xc) rfl rfl (by kernel_rfl) (by kernel_rfl) (by kernel_rfl) (by intro _ _ _ h; first | exact h | cases h.1) ⟨Or.inl ⟨by rfl, fun w => by go_simp⟩, fun _ => rfl⟩ ?_
    refine wpAnyIn_take (i := 4) (v := .int .i64 (i : Int)) rfl rfl (by kernel_rfl) (by kernel_rfl) (by kernel_rfl) (by intro _ _ _ h; first | exact h | cases h.1) ⟨Or.inl ⟨by rfl, fun w => by go_simp⟩, fun _ => rfl⟩ ?_
    refine wpAnyIn_take (i := 5) (v := .pointer (some ⟨g, i, none⟩)) rfl rfl (by kernel_rfl) (by kernel_rfl) (by kernel_rfl) (by intro _ _ _ h; first | exact h | cases h.1) ⟨Or.inl ⟨by rfl, fun w => by go_simp⟩, fun _ => rfl⟩ ?_
    refine wpAnyIn_ready (rs := [1, 6]) (by kernel_rfl) (by simp) (AllReadyIn.cons rfl (fun K hK => ?_) (AllReadyIn.cons rfl (fun K hK => ?_) AllReadyIn.nil))
    · go_simp
      refine hK _ _ ?_
      clear hK K
      refine wpAnyIn_ready (rs := [2, 6]) (by kernel_rfl) (by simp) (AllReadyIn.cons rfl (fun K hK => ?_) (AllReadyIn.cons rfl (fun K hK => ?_) AllReadyIn.nil))
      · go_simp
        refine ⟨trivial, (callsIn_wide.2 (CB.out _)).mono ?_⟩
        rintro e C0 ⟨rfl, hC0⟩
        subst hC0
        refine hK _ _ ?_
        clear hK K
        refine wpAnyIn_ready (rs := [6]) (by kernel_rfl) (by simp) (AllReadyIn.cons rfl (fun K hK => ?_) AllReadyIn.nil)
        go_simp
        refine hK _ _ ?_
        clear hK K
        refine wpAnyIn_ready (rs := [7]) (by kernel_rfl) (by simp) (AllReadyIn.cons rfl (fun K hK => ?_) AllReadyIn.nil)
        go_simp
        refine ⟨trivial, (callsIn_wide.2 (CW.out _)).mono ?_⟩
        rintro e C0 ⟨rfl, hC0⟩
        subst hC0
        refine hK _ _ ?_
        clear hK K
        refine wpAnyIn_take (i := 8) (v := .int .u64 0) rfl rfl (by kernel_rfl) (by kernel_rfl) (by kernel_rfl) (by intro _ _ _ h; first | exact h | cases h.1) ⟨Or.inl ⟨by rfl, fun w => by go_simp⟩, fun _ => rfl⟩ ?_
        refine wpAnyIn_done (by kernel_rfl) ?_ _
        exact ⟨rfl, rfl, rfl⟩
      · go_simp
        refine hK _ _ ?_
        clear hK K
        refine wpAnyIn_ready (rs := [2]) (by kernel_rfl) (by simp) (AllReadyIn.cons rfl (fun K hK => ?_) AllReadyIn.nil)
        go_simp
        refine ⟨trivial, (callsIn_wide.2 (CB.out _)).mono ?_⟩
        rintro e C0 ⟨rfl, hC0⟩
        subst hC0
        refine hK _ _ ?_
        clear hK K
        refine wpAnyIn_ready (rs := [7]) (by kernel_rfl) (by simp) (AllReadyIn.cons rfl (fun K hK => ?_) AllReadyIn.nil)
        go_simp
        refine ⟨trivial, (callsIn_wide.2 (CW.out _)).mono ?_⟩
        rintro e C0 ⟨rfl, hC0⟩
        subst hC0
        refine hK _ _ ?_
        clear hK K
        refine wpAnyIn_take (i := 8) (v := .int .u64 0) rfl rfl (by kernel_rfl) (by kernel_rfl) (by kernel_rfl) (by intro _ _ _ h; first | exact h | cases h.1) ⟨Or.inl ⟨by rfl, fun w => by go_simp⟩, fun _ => rfl⟩ ?_
        refine wpAnyIn_done (by kernel_rfl) ?_ _
        exact ⟨rfl, rfl, rfl⟩
    · go_simp
      refine hK _ _ ?_
      clear hK K
      refine wpAnyIn_ready (rs := [1]) (by kernel_rfl) (by simp) (AllReadyIn.cons rfl (fun K hK => ?_) AllReadyIn.nil)
      go_simp
      refine hK _ _ ?_
      clear hK K
      refine wpAnyIn_ready (rs := [2]) (by kernel_rfl) (by simp) (AllReadyIn.cons rfl (fun K hK => ?_) AllReadyIn.nil)
      go_simp
      refine ⟨trivial, (callsIn_wide.2 (CB.out _)).mono ?_⟩
      rintro e C0 ⟨rfl, hC0⟩
      subst hC0
      refine hK _ _ ?_
      clear hK K
      refine wpAnyIn_ready (rs := [7]) (by kernel_rfl) (by simp) (AllReadyIn.cons rfl (fun K hK => ?_) AllReadyIn.nil)
      go_simp
      refine ⟨trivial, (callsIn_wide.2 (CW.out _)).mono ?_⟩
      rintro e C0 ⟨rfl, hC0⟩
      subst hC0
      refine hK _ _ ?_
      clear hK K
      refine wpAnyIn_take (i := 8) (v := .int .u64 0) rfl rfl (by kernel_rfl) (by kernel_rfl) (by kernel_rfl) (by intro _ _ _ h; first | exact h | cases h.1) ⟨Or.inl ⟨by rfl, fun w => by go_simp⟩, fun _ => rfl⟩ ?_
      refine wpAnyIn_done (by kernel_rfl) ?_ _
      exact ⟨rfl, rfl, rfl⟩
  case rest =>
    rintro e a' w' ⟨rfl, rfl, rfl⟩
    have h5 := HR.out _ hb3
    have y0' : w3.cell? ⟨w.heap.size + 1, 0, none⟩ = some (.int .i64 0) := (by rw [cell_of_row _ _ _ _ _ _ (HR.out _ hb3)]; rfl)
    have y1' : w3.cell? ⟨w.heap.size + 1, 1, none⟩ = some (.slice none 0 0) := (by rw [cell_of_row _ _ _ _ _ _ (HR.out _ hb3)]; rfl)
    have z0 : w3.frozen? ⟨w.heap.size + 1, 0, none⟩ = false := frozen_of_row _ _ _ _ _ (HR.out _ hb3)
    have z1 : w3.frozen? ⟨w.heap.size + 1, 1, none⟩ = false := frozen_of_row _ _ _ _ _ (HR.out _ hb3)
    gi_wp2
    have h6 := heap_setCell_same w3 (w.heap.size + 1) 0 _ 24 (.int .i64 0) h5
    have h7 := heap_setCell_same _ (w.heap.size + 1) 1 _ 24 (.slice none 0 0) h6
    have h8 : ((w3.setCell ⟨w.heap.size + 1, 0, none⟩ (.int .i64 0)).setCell ⟨w.heap.size + 1, 1, none⟩ (.slice none 0 0)).heap[w.heap.size + 1]? = some (.cells #[.int .i64 0, .slice none 0 0] 24 (0, 0)) := by simpa using h7
    exact post_d2 4 5 rfl rfl (show (((w3.setCell ⟨w.heap.size + 1, 0, none⟩ (.int .i64 0)).setCell ⟨w.heap.size + 1, 1, none⟩ (.slice none 0 0)).drew).heap[w.heap.size + 1]? = _ from h8) rfl rfl ⟨rfl, bdrewN (((Below.next b1 hb3).setCell (p := ⟨w.heap.size + 1, 0, none⟩) (by show _ ≤ w.heap.size + 1; omega) _).setCell (p := ⟨w.heap.size + 1, 1, none⟩) (by show _ ≤ w.heap.size + 1; omega) _) 1⟩

set_option maxRecDepth 100000 in
set_option maxHeartbeats 2000000 in
theorem Residual_good (v i : Nat) (B : List (List Nat)) (u : Value) (w : World) (hT : Tab w) (G : GoodD v B) (hu : Rw w u (toZ B)) (hi : i < B.length) (hne : oth v (B.getD i []) ≠ []) :
    Calls Tryd.prog 11 #[.agg #[.int .i64 (v : Int), u], .int .i64 (i : Int)] w fun e w' => ∃ y, e = .returned (.tuple #[.agg #[.int .i64 ((oth v (B.getD i [])).length : Int), y], .int .i64 0]) ∧ Rw w' y (toZ (resid v i B)) ∧ Below w.heap.size w w' := by
  refine (callsIn_wide (n := 4)).1 ?_
  have b0 := balloc w (.cells #[.int .i64 (v : Int), u] 24)
  obtain ⟨x0, x1⟩ := des_box v u w _ (balloc (w.alloc (.cells #[.int .i64 (v : Int), u] 24)) (.cells #[.int .i64 0, .slice none 0 0] 24))
  have b1 : Below w.heap.size w ((w.alloc (.cells #[.int .i64 (v : Int), u] 24)).alloc (.cells #[.int .i64 0, .slice none 0 0] 24)) := b0.alloc (by simp) _
  have hr := heap_alloc_new (w.alloc (.cells #[.int .i64 (v : Int), u] 24)) (.cells #[.int .i64 0, .slice none 0 0] 24)
  rw [World.size_alloc] at hr
  have C1 := open_good v B u _ G (hu.below b1)
  obtain ⟨w1, Hw1⟩ : ∃ w1, Hid (w1 = (w.alloc (.cells #[.int .i64 (v : Int), u] 24)).alloc (.cells #[.int .i64 0, .slice none 0 0] 24)) := ⟨_, rfl⟩
  have s1 : w1.heap.size = w.heap.size + 2 := by rw [Hw1.out]; simp
  have HR : Hid (∀ W, Below w1.heap.size w1 W → W.heap[w.heap.size + 1]? = some (.cells #[.int .i64 0, .slice none 0 0] 24 (0, 0))) := fun W hW => (hW.block _ (by rw [s1]; omega)).trans (by rw [Hw1.out]; exact hr)
  have HV : Hid (∀ W, Below w1.heap.size w1 W → W.cell? ⟨w.heap.size, 0, none⟩ = some (.int .i64 (v : Int))) := fun W hW => (hW.cell (p := ⟨w.heap.size, 0, none⟩) (by show w.heap.size < _; rw [s1]; omega)).trans (by rw [Hw1.out]; exact x0)
  rw [← Hw1.out] at b1 C1
  have HS1 : Hid (w1.heap.size = w.heap.size + 2) := s1
  have hv40 := G.le
  have hT1 : Hid (Tab w1) := hT.next b1
  have CB : Hid (∀ W, Calls Tryd.prog 25 #[.int .i64 (v : Int)] W fun e w' => e = .returned (.int .u64 ((2 ^ v - 1 : Nat) : Int)) ∧ w' = W) := fun W => below_any v (by omega) W
  have hbm : B.getD i [] ∈ B := getD_memB hi
  have eg : (B.map sb).getD i 0 = sb (B.getD i []) := getD_map B hi
  have CW : Hid (∀ W, Calls Tryd.prog 26 #[.int .u64 ((2 ^ v - 1 : Nat) : Int), .int .u64 ((sb (B.getD i []) : Nat) : Int)] W fun e w' => e = .returned (.int .u64 ((sb (oth v (B.getD i [])) : Nat) : Int)) ∧ w' = W) := fun W => by
    have := without_any _ _ (low_lt (show v ≤ 64 by omega)) (sb_lt (n := 64) fun x hx => by have := (G.bls _ hbm).lt x hx; omega : sb (B.getD i []) < 2 ^ 64) W
    rwa [oth_sb hv40 (G.bls _ hbm).lt] at this
  have HDE : Hid (∀ g cap W, OwnS W g B.length (fun j => (B.map sb).getD j 0) → B.length ≤ cap → cap ≤ maxLen → Calls Tryd.prog 31 #[.slice (some ⟨g, 0, none⟩) B.length cap, .int .i64 (i : Int), .int .i64 ((i : Int) + 1)] W fun e w' => ∃ x, e = .returned x ∧ SC w' x ((B.take i ++ B.drop (i + 1)).map sb) ∧ ∀ C, C ≤ g → Below C W w') := fun g cap W h1 h2 h3 => by
    have := Delete_any g cap i (B.map sb) W (by rw [List.length_map]; exact h1) (by rw [List.length_map]; exact hi) (by rw [List.length_map]; exact h2) h3
    rwa [List.length_map, ← List.map_take, ← List.map_drop, ← List.map_append] at this
  have HAM : Hid (∀ (x : Value) (W : World), Tab W → SC W x ((B.take i ++ B.drop (i + 1)).map sb) → Calls Tryd.prog 27 #[.int .u64 ((sb (oth v (B.getD i [])) : Nat) : Int), x] W fun e w' => ∃ y, e = .returned (.agg #[.int .i64 ((oth v (B.getD i [])).length : Int), y]) ∧ OR w' (W.heap.size + 3) y (resid v i B) ∧ Below W.heap.size W w') := fun x W hTW hx => by
    have hlt : ∀ x ∈ oth v (B.getD i []), x < 40 := fun x hx => by have := (oth_mem.1 hx).1; omega
    have hin : ∀ b ∈ B.take i ++ B.drop (i + 1), b ∈ B := fun b hb => by
      rcases List.mem_append.1 hb with h | h
      · exact List.mem_of_mem_take h
      · exact List.mem_of_mem_drop h
    refine (among_any (sb (oth v (B.getD i []))) _ x W hTW hx (by have := G.few; rw [List.length_map, List.length_append, List.length_take, List.length_drop]; omega) (fun q hq => ?_) (sb_lt hlt)).mono ?_
    · obtain ⟨b, hb, rfl⟩ := List.mem_map.1 hq
      exact good_sb40 G _ (List.mem_map.2 ⟨b, hin b hb, rfl⟩)
    · rintro e w' ⟨y, rfl, h1, h2⟩
      rw [pc_sb (oth_rise v _) (fun x hx => by have := hlt x hx; omega)]
      rw [resid_am hv40] at h1
      exact ⟨y, rfl, h1, h2⟩
  have hk0 : sb (oth v (B.getD i [])) ≠ 0 := fun e => hne (sb_none.1 e)
  clear hne
  obtain ⟨D, eD⟩ : ∃ D, Hid (resid v i B = D) := ⟨_, rfl⟩
  rw [eD.out] at HAM ⊢
  obtain ⟨F, eF⟩ : ∃ D, Hid ((B.take i ++ B.drop (i + 1)).map sb = D) := ⟨_, rfl⟩
  rw [eF.out] at HAM HDE
  obtain ⟨kl, ekl⟩ : ∃ D, Hid ((oth v (B.getD i [])).length = D) := ⟨_, rfl⟩
  rw [ekl.out] at HAM ⊢
  have HOWN : Hid (∀ (x : Value) (W : World), SRow W (w1.heap.size + 1) x (B.map sb) → ∃ g cap, x = .slice (some ⟨g, 0, none⟩) B.length cap ∧ w1.heap.size < g ∧ B.length ≤ cap ∧ cap ≤ maxLen ∧ OwnS W g B.length fun j => (B.map sb).getD j 0) := fun x W h => by
    obtain ⟨g, cap, h1, h2, h3, h4, h5⟩ := h.owns (by rw [List.length_map]; omega)
    rw [List.length_map] at h1 h3 h5
    exact ⟨g, cap, h1, by omega, h3, h4, h5⟩
  obtain ⟨bi, ebi⟩ : ∃ D, Hid (sb (B.getD i []) = D) := ⟨_, rfl⟩
  rw [ebi.out] at CW eg
  have HEG : Hid ((B.map sb).getD i 0 = bi) := eg
  obtain ⟨al, Hal⟩ : ∃ al, Hid (2 ^ v - 1 = al) := ⟨_, (rfl : 2 ^ v - 1 = 2 ^ v - 1)⟩
  rw [Hal.out] at CB CW
  obtain ⟨ua, uc, eu⟩ := rw_form hu
  rw [toZ_len] at eu
  obtain ⟨kp, ekp⟩ : ∃ D, Hid (sb (oth v (B.getD i [])) = D) := ⟨_, rfl⟩
  rw [ekp.out] at CW HAM hk0
  have hk1 : ((kp : Int) == 0) = false := by simp; omega
  clear hk0 ekp ekl eF eD
  have hd : decide ((i : Int) < 0) = false := by simp
  have hd2 : decide ((i : Int) ≥ (B.length : Int)) = false := by simp; omega
  have hd3 : decide ((B.length : Int) ≤ (i : Int)) = false := by simp; omega
  have hd4 : decide (B.length ≤ i) = false := decide_eq_false (by omega)
  have hii : (i : Int) < (B.length : Int) := by omega
  have h200 := G.few
  clear hu hr s1 G hT b0 eg hbm
  subst eu
  obtain ⟨BS, eBS⟩ : ∃ D, Hid (B.map sb = D) := ⟨_, rfl⟩
  have HBL : Hid (BS.length = B.length) := by rw [← eBS.out]; exact List.length_map ..
  rw [eBS.out] at C1 HEG HOWN HDE
  generalize B.length = n at *
  clear eBS ebi Hal
  refine callsIn_of_wp Tryd.func11 rfl trivial ?_ rfl
  simp only [Tryd.ntmps11, List.size_toArray, List.length_cons, List.length_nil, Nat.reduceAdd, Nat.reduceSub, Array.replicate_succ, Array.replicate_zero, List.push_toArray, List.append_toArray, List.nil_append, List.cons_append]
  gi_wp2_with (refine ⟨trivial, ?_⟩; rw [← Hw1.out]; refine (callsIn_wide.2 C1).mono ?_; rintro e w3 ⟨⟨x, rfl, hrow⟩, hb3⟩; clear C1; have y0 := HV.out _ hb3; obtain ⟨g, xc, ex, hg, hc1, hc2, hO⟩ := HOWN.out _ _ hrow; have HO : Hid (OwnS w3.drew g n fun j => BS.getD j 0) := hO; have hci := hO.cell i (by omega); rw [HEG.out] at hci; clear hrow hO; subst ex)
  refine wpIn_mono (Q := fun e a' w' => e = .normal ∧ a' = { tmps := #[.agg #[.int .i64 (v : Int), .slice ua n uc], .int .i64 (i : Int), .pointer (some ⟨w.heap.size, 0, none⟩), undef, .pointer (some ⟨w.heap.size + 1, 0, none⟩), .int .i64 0, .slice (some ⟨g, 0, none⟩) n xc, .int .i64 0, .int .u64 (kp : Int), .tuple #[.slice (some ⟨g, 0, none⟩) n xc, .int .i64 0], .agg #[.int .i64 (v : Int), .slice ua n uc], .tuple #[.slice (some ⟨g, 0, none⟩) n xc, .int .i64 0], .slice (some ⟨g, 0, none⟩) n xc, .int .i64 0, .int .i64 0, .bool false, undef, undef, .int .i64 (i : Int), .bool false, .bool false, .int .i64 (i : Int), .slice (some ⟨g, 0, none⟩) n xc, .int .i64 (n : Int), .bool false, .bool false, undef, .pointer (some ⟨w.heap.size, 0, none⟩), .int .i64 (v : Int), .int .u64 (al : Int), .slice (some ⟨g, 0, none⟩) n xc, .int .i64 (i : Int), .pointer (some ⟨g, i, none⟩), .int .u64 (bi : Int), .int .u64 (kp : Int), undef, undef, undef, undef, undef, undef, undef, undef, undef, undef], defers := [] } ∧ w' = w3.drew) ?region ?rest
  case region =>
    refine wpIn_region_any (by kernel_rfl) ?_
    try (change wpAnyIn _ _ _ _ _ _ _ _ _ (World.drew _))
    refine wpAnyIn_take (i := 0) (v := .pointer (some ⟨w.heap.size, 0, none⟩)) rfl rfl (by kernel_rfl) (by kernel_rfl) (by kernel_rfl) (by intro _ _ _ h; first | exact h | cases h.1) ⟨Or.inl ⟨by rfl, fun w => by go_simp⟩, fun _ => rfl⟩ ?_
    refine wpAnyIn_take (i := 3) (v := .slice (some ⟨g, 0, none⟩) n xc) rfl rfl (by kernel_rfl) (by kernel_rfl) (by kernel_rfl) (by intro _ _ _ h; first | exact h | cases h.1) ⟨Or.inl ⟨by rfl, fun w => by go_simp⟩, fun _ => rfl⟩ ?_
    refine wpAnyIn_take (i := 4) (v := .int .i64 (i : Int)) rfl rfl (by kernel_rfl) (by kernel_rfl) (by kernel_rfl) (by intro _ _ _ h; first | exact h | cases h.1) ⟨Or.inl ⟨by rfl, fun w => by go_simp⟩, fun _ => rfl⟩ ?_
    refine wpAnyIn_take (i := 5) (v := .pointer (some ⟨g, i, none⟩)) rfl rfl (by kernel_rfl) (by kernel_rfl) (by kernel_rfl) (by intro _ _ _ h; first | exact h | cases h.1) ⟨Or.inl ⟨by rfl, fun w => by go_simp⟩, fun _ => rfl⟩ ?_
    refine wpAnyIn_ready (rs := [1, 6]) (by kernel_rfl) (by simp) (AllReadyIn.cons rfl (fun K hK => ?_) (AllReadyIn.cons rfl (fun K hK => ?_) AllReadyIn.nil))
    · go_simp
      refine hK _ _ ?_
      clear hK K
      refine wpAnyIn_ready (rs := [2, 6]) (by kernel_rfl) (by simp) (AllReadyIn.cons rfl (fun K hK => ?_) (AllReadyIn.cons rfl (fun K hK => ?_) AllReadyIn.nil))
      · go_simp
        refine ⟨trivial, (callsIn_wide.2 (CB.out _)).mono ?_⟩
        rintro e C0 ⟨rfl, hC0⟩
        subst hC0
        refine hK _ _ ?_
        clear hK K
        refine wpAnyIn_ready (rs := [6]) (by kernel_rfl) (by simp) (AllReadyIn.cons rfl (fun K hK => ?_) AllReadyIn.nil)
        go_simp
        refine hK _ _ ?_
        clear hK K
        refine wpAnyIn_ready (rs := [7]) (by kernel_rfl) (by simp) (AllReadyIn.cons rfl (fun K hK => ?_) AllReadyIn.nil)
        go_simp
        refine ⟨trivial, (callsIn_wide.2 (CW.out _)).mono ?_⟩
        rintro e C0 ⟨rfl, hC0⟩
        subst hC0
        refine hK _ _ ?_
        clear hK K
        refine wpAnyIn_take (i := 8) (v := .int .u64 (kp : Int)) rfl rfl (by kernel_rfl) (by kernel_rfl) (by kernel_rfl) (by intro _ _ _ h; first | exact h | cases h.1) ⟨Or.inl ⟨by rfl, fun w => by go_simp⟩, fun _ => rfl⟩ ?_
        refine wpAnyIn_done (by kernel_rfl) ?_ _
        exact ⟨rfl, rfl, rfl⟩
      · go_simp
        refine hK _ _ ?_
        clear hK K
        refine wpAnyIn_ready (rs := [2]) (by kernel_rfl) (by simp) (AllReadyIn.cons rfl (fun K hK => ?_) AllReadyIn.nil)
        go_simp
        refine ⟨trivial, (callsIn_wide.2 (CB.out _)).mono ?_⟩
        rintro e C0 ⟨rfl, hC0⟩
        subst hC0
        refine hK _ _ ?_
        clear hK K
        refine wpAnyIn_ready (rs := [7]) (by kernel_rfl) (by simp) (AllReadyIn.cons rfl (fun K hK => ?_) AllReadyIn.nil)
        go_simp
        refine ⟨trivial, (callsIn_wide.2 (CW.out _)).mono ?_⟩
        rintro e C0 ⟨rfl, hC0⟩
        subst hC0
        refine hK _ _ ?_
        clear hK K
        refine wpAnyIn_take (i := 8) (v := .int .u64 (kp : Int)) rfl rfl (by kernel_rfl) (by kernel_rfl) (by kernel_rfl) (by intro _ _ _ h; first | exact h | cases h.1) ⟨Or.inl ⟨by rfl, fun w => by go_simp⟩, fun _ => rfl⟩ ?_
        refine wpAnyIn_done (by kernel_rfl) ?_ _
        exact ⟨rfl, rfl, rfl⟩
    · go_simp
      refine hK _ _ ?_
      clear hK K
      refine wpAnyIn_ready (rs := [1]) (by kernel_rfl) (by simp) (AllReadyIn.cons rfl (fun K hK => ?_) AllReadyIn.nil)
      go_simp
      refine hK _ _ ?_
      clear hK K
      refine wpAnyIn_ready (rs := [2]) (by kernel_rfl) (by simp) (AllReadyIn.cons rfl (fun K hK => ?_) AllReadyIn.nil)
      go_simp
      refine ⟨trivial, (callsIn_wide.2 (CB.out _)).mono ?_⟩
      rintro e C0 ⟨rfl, hC0⟩
      subst hC0
      refine hK _ _ ?_
      clear hK K
      refine wpAnyIn_ready (rs := [7]) (by kernel_rfl) (by simp) (AllReadyIn.cons rfl (fun K hK => ?_) AllReadyIn.nil)
      go_simp
      refine ⟨trivial, (callsIn_wide.2 (CW.out _)).mono ?_⟩
      rintro e C0 ⟨rfl, hC0⟩
      subst hC0
      refine hK _ _ ?_
      clear hK K
      refine wpAnyIn_take (i := 8) (v := .int .u64 (kp : Int)) rfl rfl (by kernel_rfl) (by kernel_rfl) (by kernel_rfl) (by intro _ _ _ h; first | exact h | cases h.1) ⟨Or.inl ⟨by rfl, fun w => by go_simp⟩, fun _ => rfl⟩ ?_
      refine wpAnyIn_done (by kernel_rfl) ?_ _
      exact ⟨rfl, rfl, rfl⟩
  case rest =>
    rintro e a' w' ⟨rfl, rfl, rfl⟩
    gi_wp2_with (first
      | ((with_reducible refine And.intro ?_ ?_); (exact trivial); gi_at_call 27; refine (callsIn_wide.2 (HAM.out _ _ (hT1.out.next hb4) HZ.out)).mono ?_; rintro e w5 ⟨y, rfl, hy, hb5⟩; have hle4 : Hid (w1.heap.size ≤ w4.heap.size) := hb4.size; replace hb5 := Below.next hb4 hb5; have h5 := HR.out _ hb5; have z0 : w5.frozen? ⟨w.heap.size + 1, 0, none⟩ = false := frozen_of_row _ _ _ _ _ h5; have z1 : w5.frozen? ⟨w.heap.size + 1, 1, none⟩ = false := frozen_of_row _ _ _ _ _ h5; have y0' : w5.cell? ⟨w.heap.size + 1, 0, none⟩ = some (.int .i64 0) := (by rw [cell_of_row _ _ _ _ _ _ h5]; rfl); have y1' : w5.cell? ⟨w.heap.size + 1, 1, none⟩ = some (.slice none 0 0) := (by rw [cell_of_row _ _ _ _ _ _ h5]; rfl); have HY : Hid (OR w5 (w4.heap.size + 3) y D) := hy; obtain ⟨ya, yc, ey⟩ := hy.cap; clear hy; subst ey)
      | ((with_reducible refine And.intro ?_ ?_); (exact trivial); gi_at_call 31; refine (callsIn_wide.2 (HDE.out g xc _ HO.out hc1 hc2)).mono ?_; rintro e w4 ⟨z, rfl, hz, hb4⟩; replace hb4 := (bdrewN hb3 1).trans (hb4 w1.heap.size (Nat.le_of_lt hg)); have HZ : Hid (SC w4 z F) := hz; clear hz))
    have s1 := HS1.out
    have hle := hle4.out
    obtain ⟨t1, t2, t3⟩ := res_store (w0 := w) (p := kl) (y := .slice ya D.length yc) h5 (by omega)
    exact post_d2 4 5 rfl rfl t1 rfl rfl ⟨_, rfl, rw_above (r := w.heap.size + 1) HY.out (by omega) t2, (b1.trans (hb5.mono b1.size)).trans t3⟩

end Go.Proofs.YtnnopfdckillpaaDoor
