/- The program's Parts: its contract. -/
import Derived.Test.YtgkfddcmngodgaaN6
import Derived.Test.YtgkfddcmngodgaaN16
namespace Go.Proofs.Ytgkfddcmngodgaa
open Go.RowKit

theorem rw_nil (w : World) : Rw w (.slice none 0 0) [] := ⟨none, 0, rfl, Nat.le_refl 0, fun i l h => by simp at h⟩
set_option maxRecDepth 100000 in
set_option maxHeartbeats 16000000 in
theorem Parts_face : FParts := by
  intro s l v w h
  have hv := h.sl
  have C := Check_any s l v w hv
  have b1 := balloc w (.cells #[.int .i64 s, v] 24)
  have C := Check_any s l v (w.alloc (.cells #[.int .i64 s, v] 24)) (hv.below b1)
  have HX := sq_cells s v w
  obtain ⟨w0, Hw0⟩ : ∃ w0, Hid (w.alloc (.cells #[.int .i64 s, v] 24) = w0) := ⟨_, rfl⟩
  rw [Hw0.out] at b1 HX C
  have HX2 : Hid (∀ W, Below w0.heap.size w0 W → W.cell? ⟨w.heap.size, 0, none⟩ = some (.int .i64 s) ∧ W.cell? ⟨w.heap.size, 1, none⟩ = some v) := HX
  have HB0 : Hid (∀ W, Below w0.heap.size w0 W → Below w.heap.size w W) := fun W b => Below.next b1 b
  obtain ⟨x0, x1⟩ := HX2.out w0 (Below.refl _ _)
  have hsz0 : w.heap.size ≤ w0.heap.size := b1.size
  by_cases h0 : tF s l = 0
  · obtain ⟨n, rfl, hg⟩ := tF_ok h0
    have HI : Hid (∀ W, Below w0.heap.size w0 W → Calls Try.prog 34 #[.agg #[.int .i64 (n : Int), v]] W fun e w' => (∃ y, e = .returned y ∧ Rw w' y (toZ (ptL n (reB n (tB n l))))) ∧ Below W.heap.size W w') := fun W bW => parts_any hg v W (hv.below (Below.next b1 bW))
    rw [h0] at C ⊢
    rw [← Hw0.out] at x0 x1
    clear HX hv b1 h
    go_enter Try.func14, Try.ntmps14
    go_wp2_with (first
      | (go_at_call 10; (try rw [Hw0.out]); refine C.mono ?_; rintro e w5 ⟨rfl, hb5⟩; clear C; obtain ⟨x5, z5⟩ := HX2.out w5 hb5; have C2 := HI.out w5 hb5)
      | (go_at_call 34; refine C2.mono ?_; rintro e w6 ⟨⟨y, rfl, hrw⟩, hb6⟩; clear C2; have hB := Below.next hb5 hb6)
      | go_in)
    go_ret2
    exact ⟨⟨_, rfl, by rw [ptZ_ok h0]; exact hrw⟩, HB0.out _ hB⟩
  · obtain ⟨z, Hz⟩ : ∃ z, Hid (tF s l = z) := ⟨_, rfl⟩
    have HBAD := ptZ_bad h0
    rw [Hz.out] at C h0 ⊢
    have hne : ((z : Int) != 0) = true := by simp; omega
    rw [← Hw0.out] at x0 x1
    clear HX hv b1 h
    go_enter Try.func14, Try.ntmps14
    go_wp2_with (first
      | (go_at_call 10; (try rw [Hw0.out]); refine C.mono ?_; rintro e w5 ⟨rfl, hb5⟩; clear C)
      | go_in)
    go_ret2
    exact ⟨⟨_, rfl, by rw [HBAD]; exact rw_nil _⟩, HB0.out _ hb5⟩
end Go.Proofs.Ytgkfddcmngodgaa
