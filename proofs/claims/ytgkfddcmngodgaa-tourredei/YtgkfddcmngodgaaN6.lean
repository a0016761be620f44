/- The program's Check, Scores, Kings, Rings: their contracts. -/
import Derived.Test.YtgkfddcmngodgaaTA
import Derived.Test.YtgkfddcmngodgaaN5
namespace Go.Proofs.Ytgkfddcmngodgaa
open Go.RowKit

theorem Check_face : FCheck := fun s l v w h => Check_any s l v w h.sl
theorem own_sl {w : World} {g n : Nat} {L : List Nat} (h : Own w g n (fun j => (L.getD j 0 : Nat))) (hl : L.length = n) : Sl w (.slice (some ⟨g, 0, none⟩) n n) (L.map Int.ofNat) := by
  have k := h.sl n
  have e : ((List.range n).map fun j => ((L.getD j 0 : Nat) : Int)) = L.map Int.ofNat := by
    refine List.ext_getElem (by simp [hl]) fun j h1 h2 => ?_
    simp at h2
    simp [List.getD_eq_getElem?_getD, List.getElem?_eq_getElem h2]
  rw [e] at k
  exact k
set_option maxRecDepth 100000 in
set_option maxHeartbeats 16000000 in
theorem Scores_face : FScores := by
  intro s l v w h
  have hv := h.sl
  have C := Check_any s l v w hv
  have b1 := balloc w (.cells #[.int .i64 s, v] 24)
  have C := Check_any s l v (w.alloc (.cells #[.int .i64 s, v] 24)) (hv.below b1)
  have HX := sq_cells s v w
  obtain ⟨w0, Hw0⟩ : ∃ w0, Hid (w.alloc (.cells #[.int .i64 s, v] 24) = w0) := ⟨_, rfl⟩
  rw [Hw0.out] at b1 HX C
  have HX2 : Hid (∀ W, Below w0.heap.size w0 W → W.cell? ⟨w.heap.size, 0, none⟩ = some (.int .i64 s) ∧ W.cell? ⟨w.heap.size, 1, none⟩ = some v) := HX
  have HB0 : Hid (∀ W, Below w0.heap.size w0 W → Below w.heap.size w W) := fun W b => Below.next b1 b
  obtain ⟨x0, x1⟩ := HX2.out w0 (Below.refl _ _)
  have hsz0 : w.heap.size ≤ w0.heap.size := b1.size
  by_cases h0 : tF s l = 0
  · obtain ⟨n, rfl, hg⟩ := tF_ok h0
    have HI : Hid (∀ W, Below w0.heap.size w0 W → Calls Try.prog 31 #[.agg #[.int .i64 (n : Int), v]] W fun e w' => (∃ g, W.heap.size ≤ g ∧ e = .returned (.slice (some ⟨g, 0, none⟩) n n) ∧ Own w' g n (fun j => ((scT (tB n l) n).getD j 0 : Nat))) ∧ Below W.heap.size W w') := fun W bW => scores_any hg v W (hv.below (Below.next b1 bW))
    rw [h0] at C ⊢
    rw [← Hw0.out] at x0 x1
    clear HX hv b1 h
    go_enter Try.func11, Try.ntmps11
    go_wp2_with (first
      | (go_at_call 10; (try rw [Hw0.out]); refine C.mono ?_; rintro e w5 ⟨rfl, hb5⟩; clear C; obtain ⟨x5, z5⟩ := HX2.out w5 hb5; have C2 := HI.out w5 hb5)
      | (go_at_call 31; refine C2.mono ?_; rintro e w6 ⟨⟨g, hg6, rfl, ho⟩, hb6⟩; clear C2; have hB := Below.next hb5 hb6)
      | go_in)
    go_ret2
    exact ⟨⟨_, rfl, by rw [scZ_ok h0]; exact own_sl ho (scT_len _ _)⟩, HB0.out _ hB⟩
  · obtain ⟨z, Hz⟩ : ∃ z, Hid (tF s l = z) := ⟨_, rfl⟩
    have HBAD := scZ_bad h0
    rw [Hz.out] at C h0 ⊢
    have hne : ((z : Int) != 0) = true := by simp; omega
    rw [← Hw0.out] at x0 x1
    clear HX hv b1 h
    go_enter Try.func11, Try.ntmps11
    go_wp2_with (first
      | (go_at_call 10; (try rw [Hw0.out]); refine C.mono ?_; rintro e w5 ⟨rfl, hb5⟩; clear C)
      | go_in)
    go_ret2
    exact ⟨⟨_, rfl, by rw [HBAD]; exact Sl.nil _⟩, HB0.out _ hb5⟩
set_option maxRecDepth 100000 in
set_option maxHeartbeats 16000000 in
theorem Kings_face : FKings := by
  intro s l v w h
  have hv := h.sl
  have C := Check_any s l v w hv
  have b1 := balloc w (.cells #[.int .i64 s, v] 24)
  have C := Check_any s l v (w.alloc (.cells #[.int .i64 s, v] 24)) (hv.below b1)
  have HX := sq_cells s v w
  obtain ⟨w0, Hw0⟩ : ∃ w0, Hid (w.alloc (.cells #[.int .i64 s, v] 24) = w0) := ⟨_, rfl⟩
  rw [Hw0.out] at b1 HX C
  have HX2 : Hid (∀ W, Below w0.heap.size w0 W → W.cell? ⟨w.heap.size, 0, none⟩ = some (.int .i64 s) ∧ W.cell? ⟨w.heap.size, 1, none⟩ = some v) := HX
  have HB0 : Hid (∀ W, Below w0.heap.size w0 W → Below w.heap.size w W) := fun W b => Below.next b1 b
  obtain ⟨x0, x1⟩ := HX2.out w0 (Below.refl _ _)
  have hsz0 : w.heap.size ≤ w0.heap.size := b1.size
  by_cases h0 : tF s l = 0
  · obtain ⟨n, rfl, hg⟩ := tF_ok h0
    have HI : Hid (∀ W, Below w0.heap.size w0 W → Calls Try.prog 32 #[.agg #[.int .i64 (n : Int), v]] W fun e w' => (∃ y, e = .returned y ∧ ORow w' W.heap.size y (kgL n (tB n l) n)) ∧ Below W.heap.size W w') := fun W bW => kings_any hg v W (hv.below (Below.next b1 bW))
    rw [h0] at C ⊢
    rw [← Hw0.out] at x0 x1
    clear HX hv b1 h
    go_enter Try.func12, Try.ntmps12
    go_wp2_with (first
      | (go_at_call 10; (try rw [Hw0.out]); refine C.mono ?_; rintro e w5 ⟨rfl, hb5⟩; clear C; obtain ⟨x5, z5⟩ := HX2.out w5 hb5; have C2 := HI.out w5 hb5)
      | (go_at_call 32; refine C2.mono ?_; rintro e w6 ⟨⟨y, rfl, ho⟩, hb6⟩; clear C2; have hB := Below.next hb5 hb6)
      | go_in)
    go_ret2
    exact ⟨⟨_, rfl, by rw [kgZ_ok h0]; exact ho.sl⟩, HB0.out _ hB⟩
  · obtain ⟨z, Hz⟩ : ∃ z, Hid (tF s l = z) := ⟨_, rfl⟩
    have HBAD := kgZ_bad h0
    rw [Hz.out] at C h0 ⊢
    have hne : ((z : Int) != 0) = true := by simp; omega
    rw [← Hw0.out] at x0 x1
    clear HX hv b1 h
    go_enter Try.func12, Try.ntmps12
    go_wp2_with (first
      | (go_at_call 10; (try rw [Hw0.out]); refine C.mono ?_; rintro e w5 ⟨rfl, hb5⟩; clear C)
      | go_in)
    go_ret2
    exact ⟨⟨_, rfl, by rw [HBAD]; exact Sl.nil _⟩, HB0.out _ hb5⟩
set_option maxRecDepth 100000 in
set_option maxHeartbeats 16000000 in
theorem Rings_face : FRings := by
  intro s l v w h
  have hv := h.sl
  have C := Check_any s l v w hv
  have b1 := balloc w (.cells #[.int .i64 s, v] 24)
  have C := Check_any s l v (w.alloc (.cells #[.int .i64 s, v] 24)) (hv.below b1)
  have HX := sq_cells s v w
  obtain ⟨w0, Hw0⟩ : ∃ w0, Hid (w.alloc (.cells #[.int .i64 s, v] 24) = w0) := ⟨_, rfl⟩
  rw [Hw0.out] at b1 HX C
  have HX2 : Hid (∀ W, Below w0.heap.size w0 W → W.cell? ⟨w.heap.size, 0, none⟩ = some (.int .i64 s) ∧ W.cell? ⟨w.heap.size, 1, none⟩ = some v) := HX
  have HB0 : Hid (∀ W, Below w0.heap.size w0 W → Below w.heap.size w W) := fun W b => Below.next b1 b
  obtain ⟨x0, x1⟩ := HX2.out w0 (Below.refl _ _)
  have hsz0 : w.heap.size ≤ w0.heap.size := b1.size
  by_cases h0 : tF s l = 0
  · obtain ⟨n, rfl, hg⟩ := tF_ok h0
    have HI : Hid (∀ W, Below w0.heap.size w0 W → Calls Try.prog 33 #[.agg #[.int .i64 (n : Int), v]] W fun e w' => e = .returned (.int .i64 (rgP (tB n l) n : Int)) ∧ Below W.heap.size W w') := fun W bW => rings_any hg v W (hv.below (Below.next b1 bW))
    rw [h0] at C ⊢
    rw [← Hw0.out] at x0 x1
    clear HX hv b1 h
    go_enter Try.func13, Try.ntmps13
    go_wp2_with (first
      | (go_at_call 10; (try rw [Hw0.out]); refine C.mono ?_; rintro e w5 ⟨rfl, hb5⟩; clear C; obtain ⟨x5, z5⟩ := HX2.out w5 hb5; have C2 := HI.out w5 hb5)
      | (go_at_call 33; refine C2.mono ?_; rintro e w6 ⟨rfl, hb6⟩; clear C2; have hB := Below.next hb5 hb6)
      | go_in)
    go_ret2
    exact ⟨by rw [rgZ_ok h0, ← rings_is hg.trn hg.irr]; rfl, HB0.out _ hB⟩
  · obtain ⟨z, Hz⟩ : ∃ z, Hid (tF s l = z) := ⟨_, rfl⟩
    have HBAD := rgZ_bad h0
    rw [Hz.out] at C h0 ⊢
    have hne : ((z : Int) != 0) = true := by simp; omega
    rw [← Hw0.out] at x0 x1
    clear HX hv b1 h
    go_enter Try.func13, Try.ntmps13
    go_wp2_with (first
      | (go_at_call 10; (try rw [Hw0.out]); refine C.mono ?_; rintro e w5 ⟨rfl, hb5⟩; clear C)
      | go_in)
    go_ret2
    exact ⟨by rw [HBAD]; rfl, HB0.out _ hb5⟩
end Go.Proofs.Ytgkfddcmngodgaa
