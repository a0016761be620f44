/- The walk of Dual. -/
import Derived.Test.YtnnopfdckillpaaDoorF7
import Derived.Test.YtnnopfdckillpaaDoorF3
namespace Go.Proofs.YtnnopfdckillpaaDoor
open Go.RowKit Go.Shelf

attribute [local go_sem] Oper.semAt_some

theorem am_ly {B : List (List Nat)} (h40 : B.length ≤ 40) (x : Nat) : amL (2 ^ B.length - 1) (lyN (B.map sb) B.length x &&& (2 ^ B.length - 1)) = dz B x := by
  have e0 : lyN (B.map sb) B.length x = sb (dz B x) := by
    unfold lyN dz
    congr 1
    refine List.filter_congr fun j hj => ?_
    rw [getD_map B (List.mem_range.1 hj), sb_bit]
  have hd : ∀ j ∈ dz B x, j < B.length := fun j hj => List.mem_range.1 (List.mem_filter.1 hj).1
  have hr : (dz B x).Pairwise (· < ·) := List.Pairwise.filter _ List.pairwise_lt_range
  have e1 : sb (dz B x) &&& (2 ^ B.length - 1) = sb (dz B x) := by
    rw [Nat.and_two_pow_sub_one_eq_mod, Nat.mod_eq_of_lt (sb_lt hd)]
  have e2 : pts (sb (dz B x)) = dz B x := pts_sb hr fun j hj => by have := hd j hj; omega
  rw [e0, e1, am_all (by omega) (by rw [e2]; exact hd), e2]
theorem SC.below {w w' : World} {v : Value} {S : List Nat} (h : SC w v S) (hb : Below w.heap.size w w') : SC w' v S := by
  obtain ⟨a, cap, h1, h2, h3, h4⟩ := h
  exact ⟨a, cap, h1, h2, h3, fun j hj => by
    obtain ⟨g, off, e, h⟩ := h4 j hj
    exact ⟨g, off, e, fun W hW => h W (Below.next hb hW)⟩⟩
theorem good_sbv {v : Nat} {B : List (List Nat)} (G : GoodD v B) : ∀ x ∈ B.map sb, x < 2 ^ v := fun x hx => by
  obtain ⟨b, hb, rfl⟩ := List.mem_map.1 hx
  exact sb_lt (G.bls b hb).lt

set_option maxRecDepth 100000 in
set_option maxHeartbeats 4000000 in
theorem Dual_bad (p : Int) (ls : List (List Int)) (v : Value) (w : World) (hv : Rw w v ls) (hl : ls.length ≤ maxLen) (hll : ∀ l ∈ ls, l.length ≤ maxLen) (hz : dF p ls ≠ 0) :
    Calls Tryd.prog 9 #[.agg #[.int .i64 p, v]] w fun e w' => e = .returned (.tuple #[.agg #[.int .i64 0, .slice none 0 0], .int .i64 (dF p ls : Int)]) ∧ Below w.heap.size w w' := by
  have b0 := balloc w (.cells #[.int .i64 p, v] 24)
  obtain ⟨x0, x1⟩ := des_box p v w _ (balloc (w.alloc (.cells #[.int .i64 p, v] 24)) (.cells #[.int .i64 0, .slice none 0 0] 24))
  have b1 : Below w.heap.size w ((w.alloc (.cells #[.int .i64 p, v] 24)).alloc (.cells #[.int .i64 0, .slice none 0 0] 24)) := b0.alloc (by simp) _
  have hr := heap_alloc_new (w.alloc (.cells #[.int .i64 p, v] 24)) (.cells #[.int .i64 0, .slice none 0 0] 24)
  rw [World.size_alloc] at hr
  have C1 := open_any p ls v _ (hv.below b1) hl hll
  generalize dF p ls = z at *
  have hd : ((z : Int) != 0) = true := by simp; omega
  obtain ⟨w1, Hw1⟩ : ∃ w1, Hid (w1 = (w.alloc (.cells #[.int .i64 p, v] 24)).alloc (.cells #[.int .i64 0, .slice none 0 0] 24)) := ⟨_, rfl⟩
  have HR : Hid (∀ W, Below w1.heap.size w1 W → W.heap[w.heap.size + 1]? = some (.cells #[.int .i64 0, .slice none 0 0] 24 (0, 0))) := fun W hW => (hW.block _ (by rw [Hw1.out]; simp)).trans (by rw [Hw1.out]; exact hr)
  rw [← Hw1.out] at b1
  obtain ⟨ua, uc, eu⟩ := rw_form hv
  clear hv hl hll hr
  subst eu
  generalize ls.length = n at *
  go_enter Tryd.func9, Tryd.ntmps9
  go_wp2_with (go_at_call 24; refine C1.mono ?_; rintro e w3 ⟨⟨x, rfl, _, _⟩, hb3⟩; clear C1; rw [← Hw1.out] at hb3; have h5 := HR.out _ hb3; have y0 : w3.cell? ⟨w.heap.size + 1, 0, none⟩ = some (.int .i64 0) := (by rw [cell_of_row _ _ _ _ _ _ h5]; rfl); have y1 : w3.cell? ⟨w.heap.size + 1, 1, none⟩ = some (.slice none 0 0) := (by rw [cell_of_row _ _ _ _ _ _ h5]; rfl); have z0 : w3.frozen? ⟨w.heap.size + 1, 0, none⟩ = false := frozen_of_row _ _ _ _ _ h5; have z1 : w3.frozen? ⟨w.heap.size + 1, 1, none⟩ = false := frozen_of_row _ _ _ _ _ h5)
  have h6 := heap_setCell_same w3 (w.heap.size + 1) 0 _ 24 (.int .i64 0) h5
  have h7 := heap_setCell_same _ (w.heap.size + 1) 1 _ 24 (.slice none 0 0) h6
  exact post_d2 2 3 rfl rfl (by simpa using h7) rfl rfl ⟨rfl, ((Below.next b1 hb3).setCell (p := ⟨w.heap.size + 1, 0, none⟩) (by show _ ≤ w.heap.size + 1; omega) _).setCell (p := ⟨w.heap.size + 1, 1, none⟩) (by show _ ≤ w.heap.size + 1; omega) _⟩

set_option maxRecDepth 100000 in
set_option maxHeartbeats 4000000 in
theorem Dual_full (v : Nat) (B : List (List Nat)) (u : Value) (w : World) (G : GoodD v B) (hu : Rw w u (toZ B)) (hl : 40 < B.length) :
    Calls Tryd.prog 9 #[.agg #[.int .i64 (v : Int), u]] w fun e w' => e = .returned (.tuple #[.agg #[.int .i64 0, .slice none 0 0], .int .i64 3]) ∧ Below w.heap.size w w' := by
  have b0 := balloc w (.cells #[.int .i64 (v : Int), u] 24)
  obtain ⟨x0, x1⟩ := des_box v u w _ (balloc (w.alloc (.cells #[.int .i64 (v : Int), u] 24)) (.cells #[.int .i64 0, .slice none 0 0] 24))
  have b1 : Below w.heap.size w ((w.alloc (.cells #[.int .i64 (v : Int), u] 24)).alloc (.cells #[.int .i64 0, .slice none 0 0] 24)) := b0.alloc (by simp) _
  have hr := heap_alloc_new (w.alloc (.cells #[.int .i64 (v : Int), u] 24)) (.cells #[.int .i64 0, .slice none 0 0] 24)
  rw [World.size_alloc] at hr
  have C1 := open_good v B u _ G (hu.below b1)
  have hd : decide ((B.length : Int) > 40) = true := by simp; omega
  have hd2 : (40 : Int) < (B.length : Int) := by omega
  obtain ⟨w1, Hw1⟩ : ∃ w1, Hid (w1 = (w.alloc (.cells #[.int .i64 (v : Int), u] 24)).alloc (.cells #[.int .i64 0, .slice none 0 0] 24)) := ⟨_, rfl⟩
  have HR : Hid (∀ W, Below w1.heap.size w1 W → W.heap[w.heap.size + 1]? = some (.cells #[.int .i64 0, .slice none 0 0] 24 (0, 0))) := fun W hW => (hW.block _ (by rw [Hw1.out]; simp)).trans (by rw [Hw1.out]; exact hr)
  rw [← Hw1.out] at b1
  obtain ⟨ua, uc, eu⟩ := rw_form hu
  clear hu hr G
  subst eu
  rw [toZ_len] at *
  go_enter Tryd.func9, Tryd.ntmps9
  go_wp2_with (go_at_call 24; refine C1.mono ?_; rintro e w3 ⟨⟨x, rfl, hrow⟩, hb3⟩; clear C1; rw [← Hw1.out] at hb3; obtain ⟨xa, xc, ex⟩ := own_formE hrow; subst ex; clear hrow; have h5 := HR.out _ hb3; have y0 : w3.cell? ⟨w.heap.size + 1, 0, none⟩ = some (.int .i64 0) := (by rw [cell_of_row _ _ _ _ _ _ h5]; rfl); have y1 : w3.cell? ⟨w.heap.size + 1, 1, none⟩ = some (.slice none 0 0) := (by rw [cell_of_row _ _ _ _ _ _ h5]; rfl); have z0 : w3.frozen? ⟨w.heap.size + 1, 0, none⟩ = false := frozen_of_row _ _ _ _ _ h5; have z1 : w3.frozen? ⟨w.heap.size + 1, 1, none⟩ = false := frozen_of_row _ _ _ _ _ h5)
  have h6 := heap_setCell_same w3 (w.heap.size + 1) 0 _ 24 (.int .i64 0) h5
  have h7 := heap_setCell_same _ (w.heap.size + 1) 1 _ 24 (.slice none 0 0) h6
  exact post_d2 2 3 rfl rfl (by simpa using h7) rfl rfl ⟨rfl, ((Below.next b1 hb3).setCell (p := ⟨w.heap.size + 1, 0, none⟩) (by show _ ≤ w.heap.size + 1; omega) _).setCell (p := ⟨w.heap.size + 1, 1, none⟩) (by show _ ≤ w.heap.size + 1; omega) _⟩

set_option maxRecDepth 100000 in
set_option maxHeartbeats 4000000 in
theorem Dual_none (v : Nat) (B : List (List Nat)) (u : Value) (w : World) (G : GoodD v B) (hu : Rw w u (toZ B)) (hl : B.length = 0) :
    Calls Tryd.prog 9 #[.agg #[.int .i64 (v : Int), u]] w fun e w' => e = .returned (.tuple #[.agg #[.int .i64 0, .slice none 0 0], .int .i64 4]) ∧ Below w.heap.size w w' := by
  obtain rfl : B = [] := List.length_eq_zero_iff.1 hl
  have b0 := balloc w (.cells #[.int .i64 (v : Int), u] 24)
  obtain ⟨x0, x1⟩ := des_box v u w _ (balloc (w.alloc (.cells #[.int .i64 (v : Int), u] 24)) (.cells #[.int .i64 0, .slice none 0 0] 24))
  have b1 : Below w.heap.size w ((w.alloc (.cells #[.int .i64 (v : Int), u] 24)).alloc (.cells #[.int .i64 0, .slice none 0 0] 24)) := b0.alloc (by simp) _
  have hr := heap_alloc_new (w.alloc (.cells #[.int .i64 (v : Int), u] 24)) (.cells #[.int .i64 0, .slice none 0 0] 24)
  rw [World.size_alloc] at hr
  have C1 := open_good v [] u _ G (hu.below b1)
  obtain ⟨w1, Hw1⟩ : ∃ w1, Hid (w1 = (w.alloc (.cells #[.int .i64 (v : Int), u] 24)).alloc (.cells #[.int .i64 0, .slice none 0 0] 24)) := ⟨_, rfl⟩
  have HR : Hid (∀ W, Below w1.heap.size w1 W → W.heap[w.heap.size + 1]? = some (.cells #[.int .i64 0, .slice none 0 0] 24 (0, 0))) := fun W hW => (hW.block _ (by rw [Hw1.out]; simp)).trans (by rw [Hw1.out]; exact hr)
  rw [← Hw1.out] at b1
  obtain ⟨ua, uc, eu⟩ := rw_form hu
  rw [show (toZ []).length = 0 from rfl] at eu
  clear hu hr G hl
  subst eu
  go_enter Tryd.func9, Tryd.ntmps9
  go_wp2_with (go_at_call 24; refine C1.mono ?_; rintro e w3 ⟨⟨x, rfl, hrow⟩, hb3⟩; clear C1; rw [← Hw1.out] at hb3; obtain ⟨xa, xc, ex⟩ := own_formE hrow; simp only [List.map_nil, List.length_nil] at ex; subst ex; clear hrow; have h5 := HR.out _ hb3; have y0 : w3.cell? ⟨w.heap.size + 1, 0, none⟩ = some (.int .i64 0) := (by rw [cell_of_row _ _ _ _ _ _ h5]; rfl); have y1 : w3.cell? ⟨w.heap.size + 1, 1, none⟩ = some (.slice none 0 0) := (by rw [cell_of_row _ _ _ _ _ _ h5]; rfl); have z0 : w3.frozen? ⟨w.heap.size + 1, 0, none⟩ = false := frozen_of_row _ _ _ _ _ h5; have z1 : w3.frozen? ⟨w.heap.size + 1, 1, none⟩ = false := frozen_of_row _ _ _ _ _ h5)
  have h6 := heap_setCell_same w3 (w.heap.size + 1) 0 _ 24 (.int .i64 0) h5
  have h7 := heap_setCell_same _ (w.heap.size + 1) 1 _ 24 (.slice none 0 0) h6
  exact post_d2 2 3 rfl rfl (by simpa using h7) rfl rfl ⟨rfl, ((Below.next b1 hb3).setCell (p := ⟨w.heap.size + 1, 0, none⟩) (by show _ ≤ w.heap.size + 1; omega) _).setCell (p := ⟨w.heap.size + 1, 1, none⟩) (by show _ ≤ w.heap.size + 1; omega) _⟩

end Go.Proofs.YtnnopfdckillpaaDoor
