/- The walk of Dual, where there is one. -/
import Derived.Test.YtnnopfdckillpaaDoorF7
import Derived.Test.YtnnopfdckillpaaDoorF3
/- The walk of Dual. -/
namespace Go.Proofs.YtnnopfdckillpaaDoor
open Go.RowKit Go.Shelf

attribute [local go_sem] Oper.semAt_some

theorem am_ly {B : List (List Nat)} (h40 : B.length ≤ 40) (x : Nat) : amL (2 ^ B.length - 1) (lyN (B.map sb) B.length x &&& (2 ^ B.length - 1)) = dz B x := by
  have e0 : lyN (B.map sb) B.length x = sb (dz B x) := by
    unfold lyN dz
    congr 1
    refine List.filter_congr fun j hj => ?_
    rw [getD_map B (List.mem_range.1 hj), sb_bit]
  have hd : ∀ j ∈ dz B x, j < B.length := fun j hj => List.mem_range.1 (List.mem_filter.1 hj).1
  have hr : (dz B x).Pairwise (· < ·) := List.Pairwise.filter _ List.pairwise_lt_range
  have e1 : sb (dz B x) &&& (2 ^ B.length - 1) = sb (dz B x) := by
    rw [Nat.and_two_pow_sub_one_eq_mod, Nat.mod_eq_of_lt (sb_lt hd)]
  have e2 : pts (sb (dz B x)) = dz B x := pts_sb hr fun j hj => by have := hd j hj; omega
  rw [e0, e1, am_all (by omega) (by rw [e2]; exact hd), e2]
theorem SC.below {w w' : World} {v : Value} {S : List Nat} (h : SC w v S) (hb : Below w.heap.size w w') : SC w' v S := by
  obtain ⟨a, cap, h1, h2, h3, h4⟩ := h
  exact ⟨a, cap, h1, h2, h3, fun j hj => by
    obtain ⟨g, off, e, h⟩ := h4 j hj
    exact ⟨g, off, e, fun W hW => h W (Below.next hb hW)⟩⟩
theorem good_sbv {v : Nat} {B : List (List Nat)} (G : GoodD v B) : ∀ x ∈ B.map sb, x < 2 ^ v := fun x hx => by
  obtain ⟨b, hb, rfl⟩ := List.mem_map.1 hx
  exact sb_lt (G.bls b hb).lt

set_option maxRecDepth 100000 in
set_option maxHeartbeats 4000000 in
theorem Dual_bad (p : Int) (ls : List (List Int)) (v : Value) (w : World) (hv : Rw w v ls) (hl : ls.length ≤ maxLen) (hll : ∀ l ∈ ls, l.length ≤ maxLen) (hz : dF p ls ≠ 0) :
    Calls Tryd.prog 9 #[.agg #[.int .i64 p, v]] w fun e w' => e = .returned (.tuple #[.agg #[.int .i64 0, .slice none 0 0], .int .i64 (dF p ls : Int)]) ∧ Below w.heap.size w w' := by
  have b0 := balloc w (.cells #[.int .i64 p, v] 24)
  obtain ⟨x0, x1⟩ := des_box p v w _ (balloc (w.alloc (.cells #[.int .i64 p, v] 24)) (.cells #[.int .i64 0, .slice none 0 0] 24))
  have b1 : Below w.heap.size w ((w.alloc (.cells #[.int .i64 p, v] 24)).alloc (.cells #[.int .i64 0, .slice none 0 0] 24)) := b0.alloc (by simp) _
  have hr := heap_alloc_new (w.alloc (.cells #[.int .i64 p, v] 24)) (.cells #[.int .i64 0, .slice none 0 0] 24)
  rw [World.size_alloc] at hr
  have C1 := open_any p ls v _ (hv.below b1) hl hll
  generalize dF p ls = z at *
  have hd : ((z : Int) != 0) = true := by simp; omega
  obtain ⟨w1, Hw1⟩ : ∃ w1, Hid (w1 = (w.alloc (.cells #[.int .i64 p, v] 24)).alloc (.cells #[.int .i64 0, .slice none 0 0] 24)) := ⟨_, rfl⟩
  have HR : Hid (∀ W, Below w1.heap.size w1 W → W.heap[w.heap.size + 1]? = some (.cells #[.int .i64 0, .slice none 0 0] 24 (0, 0))) := fun W hW => (hW.block _ (by rw [Hw1.out]; simp)).trans (by rw [Hw1.out]; exact hr)
  rw [← Hw1.out] at b1
  obtain ⟨ua, uc, eu⟩ := rw_form hv
  clear hv hl hll hr
  subst eu
  generalize ls.length = n at *
  go_enter Tryd.func9, Tryd.ntmps9
  go_wp2_with (go_at_call 24; refine C1.mono ?_; rintro e w3 ⟨⟨x, rfl, _, _⟩, hb3⟩; clear C1; rw [← Hw1.out] at hb3; have h5 := HR.out _ hb3; have y0 : w3.cell? ⟨w.heap.size + 1, 0, none⟩ = some (.int .i64 0) := (by rw [cell_of_row _ _ _ _ _ _ h5]; rfl); have y1 : w3.cell? ⟨w.heap.size + 1, 1, none⟩ = some (.slice none 0 0) := (by rw [cell_of_row _ _ _ _ _ _ h5]; rfl); have z0 : w3.frozen? ⟨w.heap.size + 1, 0, none⟩ = false := frozen_of_row _ _ _ _ _ h5; have z1 : w3.frozen? ⟨w.heap.size + 1, 1, none⟩ = false := frozen_of_row _ _ _ _ _ h5)
  have h6 := heap_setCell_same w3 (w.heap.size + 1) 0 _ 24 (.int .i64 0) h5
  have h7 := heap_setCell_same _ (w.heap.size + 1) 1 _ 24 (.slice none 0 0) h6
  exact post_d2 2 3 rfl rfl (by simpa using h7) rfl rfl ⟨rfl, ((Below.next b1 hb3).setCell (p := ⟨w.heap.size + 1, 0, none⟩) (by show _ ≤ w.heap.size + 1; omega) _).setCell (p := ⟨w.heap.size + 1, 1, none⟩) (by show _ ≤ w.heap.size + 1; omega) _⟩

set_option maxRecDepth 100000 in
set_option maxHeartbeats 4000000 in
theorem Dual_full (v : Nat) (B : List (List Nat)) (u : Value) (w : World) (G : GoodD v B) (hu : Rw w u (toZ B)) (hl : 40 < B.length) :
    Calls Tryd.prog 9 #[.agg #[.int .i64 (v : Int), u]] w fun e w' => e = .returned (.tuple #[.agg #[.int .i64 0, .slice none 0 0], .int .i64 3]) ∧ Below w.heap.size w w' := by
  have b0 := balloc w (.cells #[.int .i64 (v : Int), u] 24)
  obtain ⟨x0, x1⟩ := des_box v u w _ (balloc (w.alloc (.cells #[.int .i64 (v : Int), u] 24)) (.cells #[.int .i64 0, .slice none 0 0] 24))
  have b1 : Below w.heap.size w ((w.alloc (.cells #[.int .i64 (v : Int), u] 24)).alloc (.cells #[.int .i64 0, .slice none 0 0] 24)) := b0.alloc (by simp) _
  have hr := heap_alloc_new (w.alloc (.cells #[.int .i64 (v : Int), u] 24)) (.cells #[.int .i64 0, .slice none 0 0] 24)
  rw [World.size_alloc] at hr
  have C1 := open_good v B u _ G (hu.below b1)
  have hd : decide ((B.length : Int) > 40) = true := by simp; omega
  have hd2 : (40 : Int) < (B.length : Int) := by omega
  obtain ⟨w1, Hw1⟩ : ∃ w1, Hid (w1 = (w.alloc (.cells #[.int .i64 (v : Int), u] 24)).alloc (.cells #[.int .i64 0, .slice none 0 0] 24)) := ⟨_, rfl⟩
  have HR : Hid (∀ W, Below w1.heap.size w1 W → W.heap[w.heap.size + 1]? = some (.cells #[.int .i64 0, .slice none 0 0] 24 (0, 0))) := fun W hW => (hW.block _ (by rw [Hw1.out]; simp)).trans (by rw [Hw1.out]; exact hr)
  rw [← Hw1.out] at b1
  obtain ⟨ua, uc, eu⟩ := rw_form hu
  clear hu hr G
  subst eu
  rw [toZ_len] at *
  go_enter Tryd.func9, Tryd.ntmps9
  go_wp2_with (go_at_call 24; refine C1.mono ?_; rintro e w3 ⟨⟨x, rfl, hrow⟩, hb3⟩; clear C1; rw [← Hw1.out] at hb3; obtain ⟨xa, xc, ex⟩ := own_formE hrow; subst ex; clear hrow; have h5 := HR.out _ hb3; have y0 : w3.cell? ⟨w.heap.size + 1, 0, none⟩ = some (.int .i64 0) := (by rw [cell_of_row _ _ _ _ _ _ h5]; rfl); have y1 : w3.cell? ⟨w.heap.size + 1, 1, none⟩ = some (.slice none 0 0) := (by rw [cell_of_row _ _ _ _ _ _ h5]; rfl); have z0 : w3.frozen? ⟨w.heap.size + 1, 0, none⟩ = false := frozen_of_row _ _ _ _ _ h5; have z1 : w3.frozen? ⟨w.heap.size + 1, 1, none⟩ = false := frozen_of_row _ _ _ _ _ h5)
  have h6 := heap_setCell_same w3 (w.heap.size + 1) 0 _ 24 (.int .i64 0) h5
  have h7 := heap_setCell_same _ (w.heap.size + 1) 1 _ 24 (.slice none 0 0) h6
  exact post_d2 2 3 rfl rfl (by simpa using h7) rfl rfl ⟨rfl, ((Below.next b1 hb3).setCell (p := ⟨w.heap.size + 1, 0, none⟩) (by show _ ≤ w.heap.size + 1; omega) _).setCell (p := ⟨w.heap.size + 1, 1, none⟩) (by show _ ≤ w.heap.size + 1; omega) _⟩

set_option maxRecDepth 100000 in
set_option maxHeartbeats 4000000 in
theorem Dual_none (v : Nat) (B : List (List Nat)) (u : Value) (w : World) (G : GoodD v B) (hu : Rw w u (toZ B)) (hl : B.length = 0) :
    Calls Tryd.prog 9 #[.agg #[.int .i64 (v : Int), u]] w fun e w' => e = .returned (.tuple #[.agg #[.int .i64 0, .slice none 0 0], .int .i64 4]) ∧ Below w.heap.size w w' := by
  obtain rfl : B = [] := List.length_eq_zero_iff.1 hl
  have b0 := balloc w (.cells #[.int .i64 (v : Int), u] 24)
  obtain ⟨x0, x1⟩ := des_box v u w _ (balloc (w.alloc (.cells #[.int .i64 (v : Int), u] 24)) (.cells #[.int .i64 0, .slice none 0 0] 24))
  have b1 : Below w.heap.size w ((w.alloc (.cells #[.int .i64 (v : Int), u] 24)).alloc (.cells #[.int .i64 0, .slice none 0 0] 24)) := b0.alloc (by simp) _
  have hr := heap_alloc_new (w.alloc (.cells #[.int .i64 (v : Int), u] 24)) (.cells #[.int .i64 0, .slice none 0 0] 24)
  rw [World.size_alloc] at hr
  have C1 := open_good v [] u _ G (hu.below b1)
  obtain ⟨w1, Hw1⟩ : ∃ w1, Hid (w1 = (w.alloc (.cells #[.int .i64 (v : Int), u] 24)).alloc (.cells #[.int .i64 0, .slice none 0 0] 24)) := ⟨_, rfl⟩
  have HR : Hid (∀ W, Below w1.heap.size w1 W → W.heap[w.heap.size + 1]? = some (.cells #[.int .i64 0, .slice none 0 0] 24 (0, 0))) := fun W hW => (hW.block _ (by rw [Hw1.out]; simp)).trans (by rw [Hw1.out]; exact hr)
  rw [← Hw1.out] at b1
  obtain ⟨ua, uc, eu⟩ := rw_form hu
  rw [show (toZ []).length = 0 from rfl] at eu
  clear hu hr G hl
  subst eu
  go_enter Tryd.func9, Tryd.ntmps9
  go_wp2_with (go_at_call 24; refine C1.mono ?_; rintro e w3 ⟨⟨x, rfl, hrow⟩, hb3⟩; clear C1; rw [← Hw1.out] at hb3; obtain ⟨xa, xc, ex⟩ := own_formE hrow; simp only [List.map_nil, List.length_nil] at ex; subst ex; clear hrow; have h5 := HR.out _ hb3; have y0 : w3.cell? ⟨w.heap.size + 1, 0, none⟩ = some (.int .i64 0) := (by rw [cell_of_row _ _ _ _ _ _ h5]; rfl); have y1 : w3.cell? ⟨w.heap.size + 1, 1, none⟩ = some (.slice none 0 0) := (by rw [cell_of_row _ _ _ _ _ _ h5]; rfl); have z0 : w3.frozen? ⟨w.heap.size + 1, 0, none⟩ = false := frozen_of_row _ _ _ _ _ h5; have z1 : w3.frozen? ⟨w.heap.size + 1, 1, none⟩ = false := frozen_of_row _ _ _ _ _ h5)
  have h6 := heap_setCell_same w3 (w.heap.size + 1) 0 _ 24 (.int .i64 0) h5
  have h7 := heap_setCell_same _ (w.heap.size + 1) 1 _ 24 (.slice none 0 0) h6
  exact post_d2 2 3 rfl rfl (by simpa using h7) rfl rfl ⟨rfl, ((Below.next b1 hb3).setCell (p := ⟨w.heap.size + 1, 0, none⟩) (by show _ ≤ w.heap.size + 1; omega) _).setCell (p := ⟨w.heap.size + 1, 1, none⟩) (by show _ ≤ w.heap.size + 1; omega) _⟩

end Go.Proofs.YtnnopfdckillpaaDoor

namespace Go.Proofs.YtnnopfdckillpaaDoor
open Go.RowKit Go.Shelf

attribute [local go_sem] Oper.semAt_some

set_option maxRecDepth 100000 in
set_option maxHeartbeats 1000000 in
theorem Dual_good (v : Nat) (B : List (List Nat)) (u : Value) (w : World) (hT : Tab w) (G : GoodD v B) (hu : Rw w u (toZ B)) (hne : 0 < B.length) (h40 : B.length ≤ 40) :
    Calls Tryd.prog 9 #[.agg #[.int .i64 (v : Int), u]] w fun e w' => ∃ y, e = .returned (.tuple #[.agg #[.int .i64 (B.length : Int), y], .int .i64 0]) ∧ Rw w' y (toZ (dual v B)) ∧ Below w.heap.size w w' := by
  refine (callsIn_wide (n := 4)).1 ?_
  have b0 := balloc w (.cells #[.int .i64 (v : Int), u] 24)
  obtain ⟨x0, x1⟩ := des_box v u w _ (balloc (w.alloc (.cells #[.int .i64 (v : Int), u] 24)) (.cells #[.int .i64 0, .slice none 0 0] 24))
  have b1 : Below w.heap.size w ((w.alloc (.cells #[.int .i64 (v : Int), u] 24)).alloc (.cells #[.int .i64 0, .slice none 0 0] 24)) := b0.alloc (by simp) _
  have hr := heap_alloc_new (w.alloc (.cells #[.int .i64 (v : Int), u] 24)) (.cells #[.int .i64 0, .slice none 0 0] 24)
  rw [World.size_alloc] at hr
  have C1 := open_good v B u _ G (hu.below b1)
  obtain ⟨w1, Hw1⟩ : ∃ w1, Hid (w1 = (w.alloc (.cells #[.int .i64 (v : Int), u] 24)).alloc (.cells #[.int .i64 0, .slice none 0 0] 24)) := ⟨_, rfl⟩
  have s1 : w1.heap.size = w.heap.size + 2 := by rw [Hw1.out]; simp
  have HR : Hid (∀ W, Below w1.heap.size w1 W → W.heap[w.heap.size + 1]? = some (.cells #[.int .i64 0, .slice none 0 0] 24 (0, 0))) := fun W hW => (hW.block _ (by rw [s1]; omega)).trans (by rw [Hw1.out]; exact hr)
  have HV : Hid (∀ W, Below w1.heap.size w1 W → W.cell? ⟨w.heap.size, 0, none⟩ = some (.int .i64 (v : Int))) := fun W hW => (hW.cell (p := ⟨w.heap.size, 0, none⟩) (by show w.heap.size < _; rw [s1]; omega)).trans (by rw [Hw1.out]; exact x0)
  rw [← Hw1.out] at b1 C1
  have hv40 := G.le
  have HS1 : Hid (w1.heap.size = w.heap.size + 2) := s1
  have hT1 : Hid (Tab w1) := hT.next b1
  have CB : Hid (∀ W, Calls Tryd.prog 25 #[.int .i64 (B.length : Int)] W fun e w' => e = .returned (.int .u64 ((2 ^ B.length - 1 : Nat) : Int)) ∧ w' = W) := fun W => below_any B.length (by omega) W
  have HLY : Hid (∀ (x : Value) (W : World), Tab W → SC W x (B.map sb) → Calls Tryd.prog 28 #[.int .i64 (v : Int), x] W fun e w' => ∃ z, e = .returned z ∧ SC w' z ((List.range v).map (lyN (B.map sb) B.length)) ∧ Below W.heap.size W w') := fun x W hTW hx => by
    have h := lying_any v (B.map sb) x W hTW hx hv40 (by rw [List.length_map]; exact h40) (good_sbv G)
    rw [List.length_map] at h
    exact h
  have HAM : Hid (∀ (x : Value) (W : World), Tab W → SC W x ((List.range v).map (lyN (B.map sb) B.length)) → Calls Tryd.prog 27 #[.int .u64 ((2 ^ B.length - 1 : Nat) : Int), x] W fun e w' => ∃ y, e = .returned (.agg #[.int .i64 (B.length : Int), y]) ∧ OR w' (W.heap.size + 3) y (dual v B) ∧ Below W.heap.size W w') := fun x W hTW hx => by
    refine (among_any (2 ^ B.length - 1) _ x W hTW hx (by rw [List.length_map, List.length_range]; omega) (fun q hq => ?_) (low_lt (by omega))).mono ?_
    · obtain ⟨b, _, rfl⟩ := List.mem_map.1 hq
      exact Nat.lt_of_lt_of_le (ly_lt _ _ _) (Nat.pow_le_pow_right (by decide) h40)
    · rintro e w' ⟨y, rfl, h1, h2⟩
      rw [pc_all (by omega)]
      refine ⟨y, rfl, ?_, h2⟩
      have e1 : ((List.range v).map (lyN (B.map sb) B.length)).map (fun y => amL (2 ^ B.length - 1) (y &&& (2 ^ B.length - 1))) = dual v B := by
        rw [List.map_map]
        exact List.map_congr_left fun x _ => am_ly h40 x
      rw [e1] at h1
      exact h1
  obtain ⟨al, Hal⟩ : ∃ al, Hid (2 ^ B.length - 1 = al) := ⟨_, (rfl : 2 ^ B.length - 1 = 2 ^ B.length - 1)⟩
  rw [Hal.out] at CB HAM
  have HD : Hid ((dual v B).length = v) := dual_len v B
  obtain ⟨D, eD⟩ : ∃ D, Hid (dual v B = D) := ⟨_, rfl⟩
  rw [eD.out] at HAM HD ⊢
  obtain ⟨LS, eLS⟩ : ∃ D, Hid ((List.range v).map (lyN (B.map sb) B.length) = D) := ⟨_, rfl⟩
  rw [eLS.out] at HAM HLY
  obtain ⟨ua, uc, eu⟩ := rw_form hu
  clear hu hr s1 G hT b0
  subst eu
  rw [toZ_len] at *
  obtain ⟨BS, eBS⟩ : ∃ D, Hid (B.map sb = D) := ⟨_, rfl⟩
  have HBL : Hid (BS.length = B.length) := by rw [← eBS.out]; exact List.length_map ..
  rw [eBS.out] at C1 HLY
  generalize B.length = n at *
  have hd0 : ((n : Int) == 0) = false := by simp; omega
  have hd1 : decide ((n : Int) > 40) = false := by simp; omega
  have hd2 : decide ((40 : Int) < n) = false := by simp; omega
  clear eBS Hal eD eLS
  refine callsIn_of_wp Tryd.func9 rfl trivial ?_ rfl
  simp only [Tryd.ntmps9, List.size_toArray, List.length_cons, List.length_nil, Nat.reduceAdd, Nat.reduceSub, Array.replicate_succ, Array.replicate_zero, List.push_toArray, List.append_toArray, List.nil_append, List.cons_append]
  gi_wp2_with (refine ⟨trivial, ?_⟩; rw [← Hw1.out]; refine (callsIn_wide.2 C1).mono ?_; rintro e w3 ⟨⟨x, rfl, hrow⟩, hb3⟩; clear C1; have y0 := HV.out _ hb3; obtain ⟨xa, xc, ex⟩ := own_formE hrow; rw [HBL.out] at ex; have HROW : Hid (SC w3 x BS) := hrow.sc; clear hrow; subst ex)
  refine wpIn_region_any (by kernel_rfl) ?_
  try (change wpAnyIn _ _ _ _ _ _ _ _ _ (World.drew _))
  refine wpAnyIn_take (i := 0) (v := .slice xa n xc) rfl rfl (by kernel_rfl) (by kernel_rfl) (by kernel_rfl) (by intro _ _ _ h; first | exact h | cases h.1) ⟨Or.inl ⟨by rfl, fun w => by go_simp⟩, fun _ => rfl⟩ ?_
  refine wpAnyIn_take (i := 1) (v := .int .i64 (n : Int)) rfl rfl (by kernel_rfl) (by kernel_rfl) (by kernel_rfl) (by intro _ _ _ h; first | exact h | cases h.1) ⟨Or.inl ⟨by rfl, fun w => by go_simp⟩, fun _ => rfl⟩ ?_
  refine wpAnyIn_take (i := 3) (v := .pointer (some ⟨w.heap.size, 0, none⟩)) rfl rfl (by kernel_rfl) (by kernel_rfl) (by kernel_rfl) (by intro _ _ _ h; first | exact h | cases h.1) ⟨Or.inl ⟨by rfl, fun w => by go_simp⟩, fun _ => rfl⟩ ?_
  refine wpAnyIn_take (i := 5) (v := .slice xa n xc) rfl rfl (by kernel_rfl) (by kernel_rfl) (by kernel_rfl) (by intro _ _ _ h; first | exact h | cases h.1) ⟨Or.inl ⟨by rfl, fun w => by go_simp⟩, fun _ => rfl⟩ ?_
  refine wpAnyIn_ready (rs := [2, 4]) (by kernel_rfl) (by simp) (AllReadyIn.cons rfl (fun K hK => ?_) (AllReadyIn.cons rfl (fun K hK => ?_) AllReadyIn.nil))
  · go_simp
    refine ⟨trivial, (callsIn_wide.2 (CB.out _)).mono ?_⟩
    rintro e C0 ⟨rfl, hC0⟩
    subst hC0
    refine hK _ _ ?_
    clear hK K
    refine wpAnyIn_ready (rs := [4]) (by kernel_rfl) (by simp) (AllReadyIn.cons rfl (fun K hK => ?_) AllReadyIn.nil)
    go_simp
    refine hK _ _ ?_
    clear hK K
    refine wpAnyIn_ready (rs := [6]) (by kernel_rfl) (by simp) (AllReadyIn.cons rfl (fun K hK => ?_) AllReadyIn.nil)
    go_simp
    refine ⟨trivial, (callsIn_wide.2 (HLY.out _ _ (hT1.out.next (bdrewN hb3 1)) (HROW.out.below (bdrewN (Below.refl _ _) 1)))).mono ?_⟩
    rintro e w4 ⟨z, rfl, hz, hb4⟩
    replace hb4 := Below.next (bdrewN hb3 1) hb4
    refine hK _ _ ?_
    clear hK K
    refine wpAnyIn_ready (rs := [7]) (by kernel_rfl) (by simp) (AllReadyIn.cons rfl (fun K hK => ?_) AllReadyIn.nil)
    go_simp
    refine ⟨trivial, (callsIn_wide.2 (HAM.out _ _ (hT1.out.next hb4) hz)).mono ?_⟩
    rintro e w5 ⟨y, rfl, hy, hb5⟩
    have hle4 := hb4.size
    replace hb5 := Below.next hb4 hb5
    have h5 := HR.out _ hb5
    have z0 : w5.frozen? ⟨w.heap.size + 1, 0, none⟩ = false := frozen_of_row _ _ _ _ _ h5
    have z1 : w5.frozen? ⟨w.heap.size + 1, 1, none⟩ = false := frozen_of_row _ _ _ _ _ h5
    have y0' : w5.cell? ⟨w.heap.size + 1, 0, none⟩ = some (.int .i64 0) := (by rw [cell_of_row _ _ _ _ _ _ h5]; rfl)
    have y1' : w5.cell? ⟨w.heap.size + 1, 1, none⟩ = some (.slice none 0 0) := (by rw [cell_of_row _ _ _ _ _ _ h5]; rfl)
    obtain ⟨ya, yc, ey⟩ := hy.cap
    subst ey
    refine hK _ _ ?_
    clear hK K
    refine wpAnyIn_ready (rs := [8]) (by kernel_rfl) (by simp) (AllReadyIn.cons rfl (fun K hK => ?_) AllReadyIn.nil)
    go_simp
    refine hK _ _ ?_
    clear hK K
    refine wpAnyIn_take (i := 9) (v := .int .i64 0) rfl rfl (by kernel_rfl) (by kernel_rfl) (by kernel_rfl) (by intro _ _ _ h; first | exact h | cases h.1) ⟨Or.inl ⟨by rfl, fun w => by go_simp⟩, fun _ => rfl⟩ ?_
    refine wpAnyIn_done (by kernel_rfl) ?_ _
    gi_wp2
    have s1 := HS1.out
    obtain ⟨t1, t2, t3⟩ := res_store (w0 := w) (p := n) (y := .slice ya D.length yc) h5 (by omega)
    exact post_d2 2 3 rfl rfl t1 rfl rfl ⟨_, rfl, rw_above (r := w.heap.size + 1) hy (by omega) t2, (b1.trans (hb5.mono b1.size)).trans t3⟩
  · go_simp
    refine hK _ _ ?_
    clear hK K
    refine wpAnyIn_ready (rs := [2]) (by kernel_rfl) (by simp) (AllReadyIn.cons rfl (fun K hK => ?_) AllReadyIn.nil)
    go_simp
    refine ⟨trivial, (callsIn_wide.2 (CB.out _)).mono ?_⟩
    rintro e C0 ⟨rfl, hC0⟩
    subst hC0
    refine hK _ _ ?_
    clear hK K
    refine wpAnyIn_ready (rs := [6]) (by kernel_rfl) (by simp) (AllReadyIn.cons rfl (fun K hK => ?_) AllReadyIn.nil)
    go_simp
    refine ⟨trivial, (callsIn_wide.2 (HLY.out _ _ (hT1.out.next (bdrewN hb3 1)) (HROW.out.below (bdrewN (Below.refl _ _) 1)))).mono ?_⟩
    rintro e w4 ⟨z, rfl, hz, hb4⟩
    replace hb4 := Below.next (bdrewN hb3 1) hb4
    refine hK _ _ ?_
    clear hK K
    refine wpAnyIn_ready (rs := [7]) (by kernel_rfl) (by simp) (AllReadyIn.cons rfl (fun K hK => ?_) AllReadyIn.nil)
    go_simp
    refine ⟨trivial, (callsIn_wide.2 (HAM.out _ _ (hT1.out.next hb4) hz)).mono ?_⟩
    rintro e w5 ⟨y, rfl, hy, hb5⟩
    have hle4 := hb4.size
    replace hb5 := Below.next hb4 hb5
    have h5 := HR.out _ hb5
    have z0 : w5.frozen? ⟨w.heap.size + 1, 0, none⟩ = false := frozen_of_row _ _ _ _ _ h5
    have z1 : w5.frozen? ⟨w.heap.size + 1, 1, none⟩ = false := frozen_of_row _ _ _ _ _ h5
    have y0' : w5.cell? ⟨w.heap.size + 1, 0, none⟩ = some (.int .i64 0) := (by rw [cell_of_row _ _ _ _ _ _ h5]; rfl)
    have y1' : w5.cell? ⟨w.heap.size + 1, 1, none⟩ = some (.slice none 0 0) := (by rw [cell_of_row _ _ _ _ _ _ h5]; rfl)
    obtain ⟨ya, yc, ey⟩ := hy.cap
    subst ey
    refine hK _ _ ?_
    clear hK K
    refine wpAnyIn_ready (rs := [8]) (by kernel_rfl) (by simp) (AllReadyIn.cons rfl (fun K hK => ?_) AllReadyIn.nil)
    go_simp
    refine hK _ _ ?_
    clear hK K
    refine wpAnyIn_take (i := 9) (v := .int .i64 0) rfl rfl (by kernel_rfl) (by kernel_rfl) (by kernel_rfl) (by intro _ _ _ h; first | exact h | cases h.1) ⟨Or.inl ⟨by rfl, fun w => by go_simp⟩, fun _ => rfl⟩ ?_
    refine wpAnyIn_done (by kernel_rfl) ?_ _
    gi_wp2
    have s1 := HS1.out
    obtain ⟨t1, t2, t3⟩ := res_store (w0 := w) (p := n) (y := .slice ya D.length yc) h5 (by omega)
    exact post_d2 2 3 rfl rfl t1 rfl rfl ⟨_, rfl, rw_above (r := w.heap.size + 1) hy (by omega) t2, (b1.trans (hb5.mono b1.size)).trans t3⟩

end Go.Proofs.YtnnopfdckillpaaDoor
