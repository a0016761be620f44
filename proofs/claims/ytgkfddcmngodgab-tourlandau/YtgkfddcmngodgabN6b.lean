/- What the program's Scores, Could, Paths, Rings tell. -/
import Derived.Test.YtgkfddcmngodgabL7
import Derived.Test.YtgkfddcmngodgabN5
import Derived.Test.YtgkfddcmngodgabN10
import Derived.Test.YtgkfddcmngodgabN13
namespace Go.Proofs.Ytgkfddcmngodgab
open Go.RowKit

theorem scZ_bad {s : Int} {l : List Int} (h : tF s l ≠ 0) : scZ s l = [] := by unfold scZ; rw [if_neg h]
def pnZ (s : Int) (l : List Int) : Nat := if tF s l = 0 then paN s.toNat (tB s.toNat l) else 0
def rgZ (s : Int) (l : List Int) : Nat := if tF s l = 0 then rA s.toNat (tB s.toNat l) s.toNat else 0
theorem rgZ_ok {n : Nat} {l : List Int} (h : tF n l = 0) : rgZ n l = rA n (tB n l) n := by unfold rgZ; rw [if_pos h, Int.toNat_natCast]
theorem pnZ_ok {n : Nat} {l : List Int} (h : tF n l = 0) : pnZ n l = paN n (tB n l) := by unfold pnZ; rw [if_pos h, Int.toNat_natCast]
theorem rgZ_bad {s : Int} {l : List Int} (h : tF s l ≠ 0) : rgZ s l = 0 := by unfold rgZ; rw [if_neg h]
theorem pnZ_bad {s : Int} {l : List Int} (h : tF s l ≠ 0) : pnZ s l = 0 := by unfold pnZ; rw [if_neg h]
def FRings : Prop := ∀ (s : Int) (l : List Int) (v : Value) (w : World), SqC w v l → Calls Try.prog 10 #[.agg #[.int .i64 s, v]] w fun e w' => e = .returned (.tuple #[.int .i64 (rgZ s l : Int), .int .i64 (tF s l : Int)]) ∧ Below w.heap.size w w'
def FPaths : Prop := ∀ (s : Int) (l : List Int) (v : Value) (w : World), SqC w v l → Calls Try.prog 9 #[.agg #[.int .i64 s, v]] w fun e w' => e = .returned (.tuple #[.int .i64 (pnZ s l : Int), .int .i64 (tF s l : Int)]) ∧ Below w.heap.size w w'
theorem own_sl {w : World} {g n : Nat} {L : List Nat} (h : Own w g n (fun j => (L.getD j 0 : Nat))) (hl : L.length = n) : Sl w (.slice (some ⟨g, 0, none⟩) n n) (L.map Int.ofNat) := by
  have k := h.sl n
  have e : ((List.range n).map fun j => ((L.getD j 0 : Nat) : Int)) = L.map Int.ofNat := by
    refine List.ext_getElem (by simp [hl]) fun j h1 h2 => ?_
    simp at h2
    simp [List.getD_eq_getElem?_getD, List.getElem?_eq_getElem h2]
  rw [e] at k
  exact k
set_option maxRecDepth 100000 in
set_option maxHeartbeats 16000000 in
theorem Scores_face : FScores := by
  intro s l v w h
  have hv := h.sl
  have C := Check_any s l v w hv
  have b1 := balloc w (.cells #[.int .i64 s, v] 24)
  have C := Check_any s l v (w.alloc (.cells #[.int .i64 s, v] 24)) (hv.below b1)
  have HX := sq_cells s v w
  obtain ⟨w0, Hw0⟩ : ∃ w0, Hid (w.alloc (.cells #[.int .i64 s, v] 24) = w0) := ⟨_, rfl⟩
  rw [Hw0.out] at b1 HX C
  have HX2 : Hid (∀ W, Below w0.heap.size w0 W → W.cell? ⟨w.heap.size, 0, none⟩ = some (.int .i64 s) ∧ W.cell? ⟨w.heap.size, 1, none⟩ = some v) := HX
  have HB0 : Hid (∀ W, Below w0.heap.size w0 W → Below w.heap.size w W) := fun W b => Below.next b1 b
  obtain ⟨x0, x1⟩ := HX2.out w0 (Below.refl _ _)
  have hsz0 : w.heap.size ≤ w0.heap.size := b1.size
  by_cases h0 : tF s l = 0
  · obtain ⟨n, rfl, hg⟩ := tF_ok h0
    have HI : Hid (∀ W, Below w0.heap.size w0 W → Calls Try.prog 12 #[.agg #[.int .i64 (n : Int), v]] W fun e w' => (∃ g, W.heap.size ≤ g ∧ e = .returned (.slice (some ⟨g, 0, none⟩) n n) ∧ Own w' g n (fun j => ((scT (tB n l) n).getD j 0 : Nat))) ∧ Below W.heap.size W w') := fun W bW => scores_any hg v W (hv.below (Below.next b1 bW))
    rw [h0] at C ⊢
    rw [← Hw0.out] at x0 x1
    clear HX hv b1 h
    go_enter Try.func5, Try.ntmps5
    go_wp2_with (first
      | (go_at_call 11; (try rw [Hw0.out]); refine C.mono ?_; rintro e w5 ⟨rfl, hb5⟩; clear C; obtain ⟨x5, z5⟩ := HX2.out w5 hb5; have C2 := HI.out w5 hb5)
      | (go_at_call 12; refine C2.mono ?_; rintro e w6 ⟨⟨g, hg6, rfl, ho⟩, hb6⟩; clear C2; have hB := Below.next hb5 hb6)
      | go_in)
    go_ret2
    exact ⟨⟨_, rfl, by rw [scZ_ok h0]; exact own_sl ho (scT_len _ _)⟩, HB0.out _ hB⟩
  · obtain ⟨z, Hz⟩ : ∃ z, Hid (tF s l = z) := ⟨_, rfl⟩
    have HBAD := scZ_bad h0
    rw [Hz.out] at C h0 ⊢
    have hne : ((z : Int) != 0) = true := by simp; omega
    rw [← Hw0.out] at x0 x1
    clear HX hv b1 h
    go_enter Try.func5, Try.ntmps5
    go_wp2_with (first
      | (go_at_call 11; (try rw [Hw0.out]); refine C.mono ?_; rintro e w5 ⟨rfl, hb5⟩; clear C)
      | go_in)
    go_ret2
    exact ⟨⟨_, rfl, by rw [HBAD]; exact Sl.nil _⟩, HB0.out _ hb5⟩
set_option maxRecDepth 100000 in
set_option maxHeartbeats 16000000 in
theorem Rings_face : FRings := by
  intro s l v w h
  have hv := h.sl
  have C := Check_any s l v w hv
  have b1 := balloc w (.cells #[.int .i64 s, v] 24)
  have C := Check_any s l v (w.alloc (.cells #[.int .i64 s, v] 24)) (hv.below b1)
  have HX := sq_cells s v w
  obtain ⟨w0, Hw0⟩ : ∃ w0, Hid (w.alloc (.cells #[.int .i64 s, v] 24) = w0) := ⟨_, rfl⟩
  rw [Hw0.out] at b1 HX C
  have HX2 : Hid (∀ W, Below w0.heap.size w0 W → W.cell? ⟨w.heap.size, 0, none⟩ = some (.int .i64 s) ∧ W.cell? ⟨w.heap.size, 1, none⟩ = some v) := HX
  have HB0 : Hid (∀ W, Below w0.heap.size w0 W → Below w.heap.size w W) := fun W b => Below.next b1 b
  obtain ⟨x0, x1⟩ := HX2.out w0 (Below.refl _ _)
  have hsz0 : w.heap.size ≤ w0.heap.size := b1.size
  by_cases h0 : tF s l = 0
  · obtain ⟨n, rfl, hg⟩ := tF_ok h0
    have HI : Hid (∀ W, Below w0.heap.size w0 W → Calls Try.prog 17 #[.agg #[.int .i64 (n : Int), v]] W fun e w' => e = .returned (.int .i64 (rgP (tB n l) n : Int)) ∧ Below W.heap.size W w') := fun W bW => rings_any hg v W (hv.below (Below.next b1 bW))
    rw [h0] at C ⊢
    rw [← Hw0.out] at x0 x1
    clear HX hv b1 h
    go_enter Try.func10, Try.ntmps10
    go_wp2_with (first
      | (go_at_call 11; (try rw [Hw0.out]); refine C.mono ?_; rintro e w5 ⟨rfl, hb5⟩; clear C; obtain ⟨x5, z5⟩ := HX2.out w5 hb5; have C2 := HI.out w5 hb5)
      | (go_at_call 17; refine C2.mono ?_; rintro e w6 ⟨rfl, hb6⟩; clear C2; have hB := Below.next hb5 hb6)
      | go_in)
    go_ret2
    exact ⟨by rw [rgZ_ok h0, ← rings_is hg.trn hg.irr]; rfl, HB0.out _ hB⟩
  · obtain ⟨z, Hz⟩ : ∃ z, Hid (tF s l = z) := ⟨_, rfl⟩
    have HBAD := rgZ_bad h0
    rw [Hz.out] at C h0 ⊢
    have hne : ((z : Int) != 0) = true := by simp; omega
    rw [← Hw0.out] at x0 x1
    clear HX hv b1 h
    go_enter Try.func10, Try.ntmps10
    go_wp2_with (first
      | (go_at_call 11; (try rw [Hw0.out]); refine C.mono ?_; rintro e w5 ⟨rfl, hb5⟩; clear C)
      | go_in)
    go_ret2
    exact ⟨by rw [HBAD]; rfl, HB0.out _ hb5⟩
set_option maxRecDepth 100000 in
set_option maxHeartbeats 16000000 in
theorem Paths_face : FPaths := by
  intro s l v w h
  have hv := h.sl
  have C := Check_any s l v w hv
  have b1 := balloc w (.cells #[.int .i64 s, v] 24)
  have C := Check_any s l v (w.alloc (.cells #[.int .i64 s, v] 24)) (hv.below b1)
  have HX := sq_cells s v w
  obtain ⟨w0, Hw0⟩ : ∃ w0, Hid (w.alloc (.cells #[.int .i64 s, v] 24) = w0) := ⟨_, rfl⟩
  rw [Hw0.out] at b1 HX C
  have HX2 : Hid (∀ W, Below w0.heap.size w0 W → W.cell? ⟨w.heap.size, 0, none⟩ = some (.int .i64 s) ∧ W.cell? ⟨w.heap.size, 1, none⟩ = some v) := HX
  have HB0 : Hid (∀ W, Below w0.heap.size w0 W → Below w.heap.size w W) := fun W b => Below.next b1 b
  obtain ⟨x0, x1⟩ := HX2.out w0 (Below.refl _ _)
  have hsz0 : w.heap.size ≤ w0.heap.size := b1.size
  by_cases h0 : tF s l = 0
  · obtain ⟨n, rfl, hg⟩ := tF_ok h0
    have HI : Hid (∀ W, Below w0.heap.size w0 W → Calls Try.prog 16 #[.agg #[.int .i64 (n : Int), v]] W fun e w' => (∃ y, e = .returned y ∧ LsR w' y (bfL n (tB n l) n)) ∧ Below W.heap.size W w') := fun W bW => paths_any hg v W (hv.below (Below.next b1 bW))
    rw [h0] at C ⊢
    rw [← Hw0.out] at x0 x1
    clear HX hv b1 h
    go_enter Try.func9, Try.ntmps9
    go_wp2_with (first
      | (go_at_call 11; (try rw [Hw0.out]); refine C.mono ?_; rintro e w5 ⟨rfl, hb5⟩; clear C; obtain ⟨x5, z5⟩ := HX2.out w5 hb5; have C2 := HI.out w5 hb5)
      | (go_at_call 16; refine C2.mono ?_; rintro e w6 ⟨⟨y, rfl, hls⟩, hb6⟩; clear C2; have hB := Below.next hb5 hb6; obtain ⟨la, lc, rfl, hrows⟩ := hls)
      | go_in)
    go_ret2
    exact ⟨by rw [pnZ_ok h0, ← pa_count]; rfl, HB0.out _ hB⟩
  · obtain ⟨z, Hz⟩ : ∃ z, Hid (tF s l = z) := ⟨_, rfl⟩
    have HBAD := pnZ_bad h0
    rw [Hz.out] at C h0 ⊢
    have hne : ((z : Int) != 0) = true := by simp; omega
    rw [← Hw0.out] at x0 x1
    clear HX hv b1 h
    go_enter Try.func9, Try.ntmps9
    go_wp2_with (first
      | (go_at_call 11; (try rw [Hw0.out]); refine C.mono ?_; rintro e w5 ⟨rfl, hb5⟩; clear C)
      | go_in)
    go_ret2
    exact ⟨by rw [HBAD]; rfl, HB0.out _ hb5⟩
theorem Could_face : FCould := fun l v w h => Could_any l v w h.sl h.len
theorem three_ok : tF 3 [0, 1, 0, 0, 0, 1, 1, 0, 0] = 0 := by decide +kernel
theorem three_pn : pnZ 3 [0, 1, 0, 0, 0, 1, 1, 0, 0] = 3 := by decide +kernel
theorem three_rg : rgZ 3 [0, 1, 0, 0, 0, 1, 1, 0, 0] = 1 := by decide +kernel
theorem Paths3_face : FPaths3 := fun v w h => by
  have C := Paths_face 3 _ v w ⟨h, by simp [maxLen]⟩
  rw [three_ok, three_pn] at C
  exact C
theorem Rings3_face : FRings3 := fun v w h => by
  have C := Rings_face 3 _ v w ⟨h, by simp [maxLen]⟩
  rw [three_ok, three_rg] at C
  exact C
end Go.Proofs.Ytgkfddcmngodgab
