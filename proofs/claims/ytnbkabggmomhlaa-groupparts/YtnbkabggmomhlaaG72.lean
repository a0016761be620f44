/- The walk of commutator. -/
import Derived.Test.YtnbkabggmomhlaaG59
import Derived.Test.YtnbkabggmomhlaaGM
import Derived.Deep.RegionHeld3
namespace Go.Proofs.Ytnbkabggmomhlaa
open Go.RowKit

/-- What the region reads. -/
def KS (w : World) (A B : List Value) (w' : World) : Prop := w'.rangeAt w.heap.size 0 A ∧ w'.rangeAt (w.heap.size + 1) 0 B ∧ (∃ q, MRow 62 w' (w.heap.size + 1 + 1) q) ∧ w.heap.size + 3 ≤ w'.heap.size ∧ Below w.heap.size w w'
theorem KS.below {w w1 w2 : World} {A B : List Value} (h : KS w A B w1) (hb : Below w1.heap.size w1 w2) : KS w A B w2 := by
  obtain ⟨h1, h2, ⟨q, h3⟩, h4, h5⟩ := h
  exact ⟨range_below h1 hb (by omega), range_below h2 hb (by omega), ⟨q, h3.below hb⟩, Nat.le_trans h4 hb.size, Below.next h5 hb⟩
theorem range_new (w : World) (A : List Value) (T : TypeId) : (w.alloc (.cells A.toArray T)).rangeAt w.heap.size 0 A := by
  intro j u hu
  rw [Nat.zero_add, cell_of_row _ _ j _ _ _ (heap_alloc_new w _)]
  simpa using hu
theorem KS.drew {w w1 : World} {A B : List Value} (h : KS w A B w1) : KS w A B w1.drew := ⟨h.1, h.2.1, h.2.2.1, h.2.2.2.1, h.2.2.2.2.drew⟩

set_option maxRecDepth 100000 in
set_option maxHeartbeats 2000000 in
theorem commutator_any (x y : List Nat) (w : World) (hx : IsP 7 x) (hy : IsP 7 y) :
    Calls Try.prog 72 #[mv x, mv y] w fun e w' => e = .returned (mv (thenL (thenL (thenL (invL 7 x) (invL 7 y)) x) y)) ∧ Below w.heap.size w w' := by
  have ix := invL_isP hx
  have iy := invL_isP hy
  have C1 := fun W => undone_any x W hx
  have C2 := fun W => undone_any y W hy
  have C3 := fun W => then_any (invL 7 x) (invL 7 y) W ix.len (fun i hi => ix.at hi)
  have C4 := fun W => then_any (thenL (invL 7 x) (invL 7 y)) x W (ix.then iy).len (fun i hi => (ix.then iy).at hi)
  have C5 := fun W => then_any (thenL (thenL (invL 7 x) (invL 7 y)) x) y W ((ix.then iy).then hx).len (fun i hi => ((ix.then iy).then hx).at hi)
  obtain ⟨P1, H1⟩ : ∃ P, Hid (mv (invL 7 x) = P) := ⟨_, rfl⟩
  obtain ⟨P2, H2⟩ : ∃ P, Hid (mv (invL 7 y) = P) := ⟨_, rfl⟩
  obtain ⟨P3, H3⟩ : ∃ P, Hid (mv (thenL (invL 7 x) (invL 7 y)) = P) := ⟨_, rfl⟩
  obtain ⟨P4, H4⟩ : ∃ P, Hid (mv (thenL (thenL (invL 7 x) (invL 7 y)) x) = P) := ⟨_, rfl⟩
  obtain ⟨F, HF⟩ : ∃ F : Nat → Int, Hid (mv (thenL (thenL (thenL (invL 7 x) (invL 7 y)) x) y) = .agg (mrow F)) := ⟨_, rfl⟩
  rw [HF.out] at C5 ⊢
  rw [H1.out] at C1 C3
  rw [H2.out] at C2 C3
  rw [H3.out] at C3 C4
  rw [H4.out] at C4 C5
  simp only [mv_eq] at C1 C2 C4 C5 ⊢
  have hiA := inf62L x
  have hiB := inf62L y
  obtain ⟨A, HA⟩ : ∃ A, Hid (mvL x = A) := ⟨_, rfl⟩
  obtain ⟨B, HB⟩ : ∃ B, Hid (mvL y = B) := ⟨_, rfl⟩
  rw [HA.out] at C1 C4 hiA ⊢
  rw [HB.out] at C2 C5 hiB ⊢
  have hS0 : KS w A B (((w.alloc (.cells A.toArray 62)).alloc (.cells B.toArray 62)).alloc (.cells #[.int .i64 0, .int .i64 0, .int .i64 0, .int .i64 0, .int .i64 0, .int .i64 0, .int .i64 0] 62)) := by
    refine ⟨World.rangeAt_alloc (World.rangeAt_alloc (range_new w A 62) _) _, ?_, ⟨fun _ => 0, ?_⟩, by simp, ((balloc w _).alloc (by simp) _).alloc (by simp; omega) _⟩
    · have h := World.rangeAt_alloc (range_new (w.alloc (.cells A.toArray 62)) B 62) (.cells #[.int .i64 0, .int .i64 0, .int .i64 0, .int .i64 0, .int .i64 0, .int .i64 0, .int .i64 0] 62)
      rw [World.size_alloc] at h; exact h
    · have h := MRow.made0 62 ((w.alloc (.cells A.toArray 62)).alloc (.cells B.toArray 62))
      simp only [World.size_alloc] at h; exact h
  clear hx hy ix iy
  go_enter Try.func72, Try.ntmps72
  go_wp2_with fail
  refine wp_region_noPanic ?_
  refine wp_region_held_drew (S := KS w A B) (by kernel_rfl) (hS0.drew) (fun hSx => ?_)
  clear hS0
  refine wpAnyH_take (i := 0) (v := .agg A.toArray) rfl (by kernel_rfl) (by kernel_rfl) (by kernel_rfl) (fun _ _ _ h => h) (yieldsIf_load_mid (by rfl) 62 _ rfl w.heap.size 0 rfl A _ (fun _ h => h.1) und62 rfl hiA) hSx ?_
  try simp only [Act.put, List.setIfInBounds_toArray]
  refine wpAnyH_take (i := 2) (v := .agg B.toArray) rfl (by kernel_rfl) (by kernel_rfl) (by kernel_rfl) (fun _ _ _ h => h) (yieldsIf_load_mid (by rfl) 62 _ rfl (w.heap.size + 1) 0 rfl B _ (fun _ h => h.2.1) und62 rfl hiB) hSx ?_
  try simp only [Act.put]
  refine wpAnyH_take (i := 5) (v := .agg A.toArray) rfl (by kernel_rfl) (by kernel_rfl) (by kernel_rfl) (fun _ _ _ h => h) (yieldsIf_load_mid (by rfl) 62 _ rfl w.heap.size 0 rfl A _ (fun _ h => h.1) und62 rfl hiA) hSx ?_
  try simp only [Act.put]
  refine wpAnyH_take (i := 7) (v := .agg B.toArray) rfl (by kernel_rfl) (by kernel_rfl) (by kernel_rfl) (fun _ _ _ h => h) (yieldsIf_load_mid (by rfl) 62 _ rfl (w.heap.size + 1) 0 rfl B _ (fun _ h => h.2.1) und62 rfl hiB) hSx ?_
  try simp only [Act.put]
  refine wpAnyH_ready (rs := [1]) (by kernel_rfl) (by simp) ?_
  refine AllReadyH.cons rfl (fun J hJ => ?_) AllReadyH.nil
  go_simp
  refine (C1 _).mono ?_
  rintro e w1 ⟨rfl, b1⟩
  replace hSx := hSx.below b1
  clear b1
  go_wp2_with fail
  refine hJ.out _ _ hSx (fun _ => ?_)
  clear hJ J
  try simp only [Act.put, List.setIfInBounds_toArray, List.set_cons_zero, List.set_cons_succ]
  refine wpAnyH_ready (rs := [3]) (by kernel_rfl) (by simp) ?_
  refine AllReadyH.cons rfl (fun J hJ => ?_) AllReadyH.nil
  go_simp
  refine (C2 _).mono ?_
  rintro e w1 ⟨rfl, b1⟩
  replace hSx := hSx.below b1
  clear b1
  go_wp2_with fail
  refine hJ.out _ _ hSx (fun _ => ?_)
  clear hJ J
  try simp only [Act.put, List.setIfInBounds_toArray, List.set_cons_zero, List.set_cons_succ]
  refine wpAnyH_ready (rs := [4]) (by kernel_rfl) (by simp) ?_
  refine AllReadyH.cons rfl (fun J hJ => ?_) AllReadyH.nil
  go_simp
  refine (C3 _).mono ?_
  rintro e w1 ⟨rfl, b1⟩
  replace hSx := hSx.below b1
  clear b1
  go_wp2_with fail
  refine hJ.out _ _ hSx (fun _ => ?_)
  clear hJ J
  try simp only [Act.put, List.setIfInBounds_toArray, List.set_cons_zero, List.set_cons_succ]
  refine wpAnyH_ready (rs := [6]) (by kernel_rfl) (by simp) ?_
  refine AllReadyH.cons rfl (fun J hJ => ?_) AllReadyH.nil
  go_simp
  refine (C4 _).mono ?_
  rintro e w1 ⟨rfl, b1⟩
  replace hSx := hSx.below b1
  clear b1
  go_wp2_with fail
  refine hJ.out _ _ hSx (fun _ => ?_)
  clear hJ J
  try simp only [Act.put, List.setIfInBounds_toArray, List.set_cons_zero, List.set_cons_succ]
  refine wpAnyH_ready (rs := [8]) (by kernel_rfl) (by simp) ?_
  refine AllReadyH.cons rfl (fun J hJ => ?_) AllReadyH.nil
  go_simp
  refine (C5 _).mono ?_
  rintro e w1 ⟨rfl, b1⟩
  replace hSx := hSx.below b1
  clear b1
  go_wp2_with fail
  refine hJ.out _ _ hSx (fun _ => ?_)
  clear hJ J
  try simp only [Act.put, List.setIfInBounds_toArray, List.set_cons_zero, List.set_cons_succ]
  refine wpAnyH_ready (rs := [9]) (by kernel_rfl) (by simp) ?_
  refine AllReadyH.cons rfl (fun J hJ => ?_) AllReadyH.nil
  obtain ⟨k1, k2, ⟨q, k3⟩, k4, k5⟩ := hSx
  refine step_store_row (by rfl) 62 _ _ (by rfl) (w.heap.size + 1 + 1) (mrow F) (by rfl) (by rfl) 62 _ k3 (inf62 _) (by simp) (mrow_one _) ?_
  refine hJ.out _ _ ⟨range_setRow k1 (by omega) _, range_setRow k2 (by omega) _, ⟨F, k3.whole F⟩, by simpa using k4, bsetRow k5 (by omega) _⟩ (fun hSz => ?_)
  clear hJ J
  try simp only [Act.put, List.setIfInBounds_toArray]
  refine wpAnyH_done (by kernel_rfl) ?_ _
  refine NoPanic.normal ?_
  go_wp2_with fail
  exact post_mrow und62 inf62 4 rfl rfl (k3.whole _) rfl ⟨rfl, hSz.2.2.2.2⟩

end Go.Proofs.Ytnbkabggmomhlaa
