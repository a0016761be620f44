/- The walk of Conjugate. -/
import Derived.Test.YtncnaaohihmjnaaDoorCj
import Derived.Test.YtncnaaohihmjnaaDoorL3
namespace Go.Proofs.YtncnaaohihmjnaaDoor
open Go.RowKit

theorem two_sq (s : Int) (u : Value) (w : World) : ((w.alloc (.cells #[.int .i64 s, u] 24)).alloc (.cells #[.int .i64 0, .slice none 0 0] 24)).heap[w.heap.size]? = some (.cells #[.int .i64 s, u] 24 (0, 0)) ∧ ((w.alloc (.cells #[.int .i64 s, u] 24)).alloc (.cells #[.int .i64 0, .slice none 0 0] 24)).heap[w.heap.size + 1]? = some (.cells #[.int .i64 0, .slice none 0 0] 24 (0, 0)) ∧ ((w.alloc (.cells #[.int .i64 s, u] 24)).alloc (.cells #[.int .i64 0, .slice none 0 0] 24)).heap.size = w.heap.size + 1 + 1 ∧ Below w.heap.size w ((w.alloc (.cells #[.int .i64 s, u] 24)).alloc (.cells #[.int .i64 0, .slice none 0 0] 24)) := by
  refine ⟨(Below.heap_alloc _ _ _ (by simp)).trans (heap_alloc_new w _), ?_, by simp, Below.next (balloc _ _) (balloc _ _)⟩
  have := heap_alloc_new (w.alloc (.cells #[.int .i64 s, u] 24)) (.cells #[.int .i64 0, .slice none 0 0] 24)
  simpa using this
set_option maxHeartbeats 4000000 in
theorem Conjugate_bad (s k : Int) (L : List Int) (v : Value) (w : World) (hv : Sl w v L) (hL : L.length ≤ maxLen) (h : lF s L ≠ 0) :
    Calls Tryd.prog 7 #[.agg #[.int .i64 s, v], .int .i64 k] w fun e w' => e = .returned (.tuple #[.agg #[.int .i64 0, .slice none 0 0], .int .i64 (lF s L : Int)]) ∧ Below w.heap.size w w' := by
  obtain ⟨h1, h2, hsz, hb⟩ := two_sq s v w
  have C := Check_any s L v _ (hv.below hb) hL
  have hz : ((lF s L : Int) != 0) = true := by simp; omega
  generalize lF s L = z at *
  clear hv
  go_enter Tryd.func7, Tryd.ntmps7
  go_wp2_with (go_at_call 17; refine C.mono ?_; rintro e w1 ⟨rfl, b1⟩; have k2 := (b1.block (w.heap.size + 1) (by rw [hsz]; omega)).trans h2; have y0 : w1.cell? ⟨w.heap.size + 1, 0, none⟩ = some (.int .i64 0) := (by rw [cell_of_row _ _ _ _ _ _ k2]; rfl); have y1 : w1.cell? ⟨w.heap.size + 1, 1, none⟩ = some (.slice none 0 0) := (by rw [cell_of_row _ _ _ _ _ _ k2]; rfl); have g0 := frozen_of_row w1 (w.heap.size + 1) 0 _ _ k2; have g1 := frozen_of_row w1 (w.heap.size + 1) 1 _ _ k2)
  have hn1 := heap_setCell_same w1 (w.heap.size + 1) 0 _ _ (.int .i64 0) k2
  have hn2 := heap_setCell_same _ (w.heap.size + 1) 1 _ _ (.slice none 0 0) hn1
  exact post_sq2 4 5 Tryd.results7 rfl hn2 rfl rfl ⟨rfl, ((Below.next hb b1).setCell (by show w.heap.size ≤ w.heap.size + 1; omega) _).setCell (by show w.heap.size ≤ w.heap.size + 1; omega) _⟩
set_option maxHeartbeats 4000000 in
theorem Conjugate_far (n : Nat) (k : Int) (L : List Int) (v : Value) (w : World) (hv : Sl w v L) (G : GoodS n L) (h : k < 0 ∨ 5 < k) :
    Calls Tryd.prog 7 #[.agg #[.int .i64 (n : Int), v], .int .i64 k] w fun e w' => e = .returned (.tuple #[.agg #[.int .i64 0, .slice none 0 0], .int .i64 1]) ∧ Below w.heap.size w w' := by
  obtain ⟨h1, h2, hsz, hb⟩ := two_sq n v w
  have C := Check_any n L v _ (hv.below hb) (by rw [G.len]; exact Nat.le_trans (Nat.mul_le_mul G.le G.le) (by unfold maxLen; omega))
  rw [lF_good G] at C
  clear hv G
  by_cases hk : k < 0
  · have hd : decide (k < 0) = true := decide_eq_true hk
    clear h hk
    go_enter Tryd.func7, Tryd.ntmps7
    go_wp2_with (go_at_call 17; refine C.mono ?_; rintro e w1 ⟨rfl, b1⟩; have k2 := (b1.block (w.heap.size + 1) (by rw [hsz]; omega)).trans h2; have y0 : w1.cell? ⟨w.heap.size + 1, 0, none⟩ = some (.int .i64 0) := (by rw [cell_of_row _ _ _ _ _ _ k2]; rfl); have y1 : w1.cell? ⟨w.heap.size + 1, 1, none⟩ = some (.slice none 0 0) := (by rw [cell_of_row _ _ _ _ _ _ k2]; rfl); have g0 := frozen_of_row w1 (w.heap.size + 1) 0 _ _ k2; have g1 := frozen_of_row w1 (w.heap.size + 1) 1 _ _ k2)
    have hn1 := heap_setCell_same w1 (w.heap.size + 1) 0 _ _ (.int .i64 0) k2
    have hn2 := heap_setCell_same _ (w.heap.size + 1) 1 _ _ (.slice none 0 0) hn1
    exact post_sq2 4 5 Tryd.results7 rfl hn2 rfl rfl ⟨rfl, ((Below.next hb b1).setCell (by show w.heap.size ≤ w.heap.size + 1; omega) _).setCell (by show w.heap.size ≤ w.heap.size + 1; omega) _⟩
  · have hd : decide (k < 0) = false := decide_eq_false hk
    have hd2 : decide ((6 : Int) ≤ k) = true := decide_eq_true (by omega)
    have h6 : (6 : Int) ≤ k := by omega
    clear h hk
    go_enter Tryd.func7, Tryd.ntmps7
    go_wp2_with (go_at_call 17; refine C.mono ?_; rintro e w1 ⟨rfl, b1⟩; have k2 := (b1.block (w.heap.size + 1) (by rw [hsz]; omega)).trans h2; have y0 : w1.cell? ⟨w.heap.size + 1, 0, none⟩ = some (.int .i64 0) := (by rw [cell_of_row _ _ _ _ _ _ k2]; rfl); have y1 : w1.cell? ⟨w.heap.size + 1, 1, none⟩ = some (.slice none 0 0) := (by rw [cell_of_row _ _ _ _ _ _ k2]; rfl); have g0 := frozen_of_row w1 (w.heap.size + 1) 0 _ _ k2; have g1 := frozen_of_row w1 (w.heap.size + 1) 1 _ _ k2)
    have hn1 := heap_setCell_same w1 (w.heap.size + 1) 0 _ _ (.int .i64 0) k2
    have hn2 := heap_setCell_same _ (w.heap.size + 1) 1 _ _ (.slice none 0 0) hn1
    exact post_sq2 4 5 Tryd.results7 rfl hn2 rfl rfl ⟨rfl, ((Below.next hb b1).setCell (by show w.heap.size ≤ w.heap.size + 1; omega) _).setCell (by show w.heap.size ≤ w.heap.size + 1; omega) _⟩
set_option maxHeartbeats 4000000 in
theorem Conjugate_ok (n k : Nat) (L : List Int) (v : Value) (w : World) (hv : Sl w v L) (G : GoodS n L) (hk : k ≤ 5) (hO : OT w) :
    Calls Tryd.prog 7 #[.agg #[.int .i64 (n : Int), v], .int .i64 (k : Int)] w fun e w' => (∃ y t, e = .returned (.tuple #[.agg #[.int .i64 (n : Int), y], .int .i64 0]) ∧ Cj n (sq n L) k t ∧ w'.ownsRow w.heap.size 3 1 y (n * n) (vn (flN n t (n * n)))) ∧ Below w.heap.size w w' := by
  obtain ⟨h1, h2, hsz, hb⟩ := two_sq n v w
  have C := Check_any n L v _ (hv.below hb) (by rw [G.len]; exact Nat.le_trans (Nat.mul_le_mul G.le G.le) (by unfold maxLen; omega))
  rw [lF_good G] at C
  have C2 : Hid (∀ W, Below w.heap.size w W → Calls Tryd.prog 18 #[.agg #[.int .i64 (n : Int), v], .int .i64 (k : Int)] W fun e w' => (∃ y t, e = .returned (.agg #[.int .i64 (n : Int), y]) ∧ Cj n (sq n L) k t ∧ w'.ownsRow W.heap.size 3 1 y (n * n) (vn (flN n t (n * n)))) ∧ Below W.heap.size W w') := fun W bW => conjugate_any n k L v W (hv.below bW) G hk (hO.below bW)
  have hd : decide ((k : Int) < 0) = false := decide_eq_false (by omega)
  have hd2 : decide ((6 : Int) ≤ (k : Int)) = false := decide_eq_false (by omega)
  clear hv G hO
  go_enter Tryd.func7, Tryd.ntmps7
  go_wp2_with (first
    | (go_at_call 17; refine C.mono ?_; rintro e w1 ⟨rfl, b1⟩; have k1 := (b1.block w.heap.size (by rw [hsz]; omega)).trans h1; have x0 : w1.cell? ⟨w.heap.size, 0, none⟩ = some (.int .i64 (n : Int)) := (by rw [cell_of_row _ _ _ _ _ _ k1]; rfl); have x1 : w1.cell? ⟨w.heap.size, 1, none⟩ = some v := (by rw [cell_of_row _ _ _ _ _ _ k1]; rfl); have hb1 := Below.next hb b1; have D := C2.out _ hb1; have hs1 := b1.size; rw [hsz] at hs1)
    | (go_at_call 18; refine D.mono ?_; rintro e w2 ⟨⟨y, t, rfl, hCj, hW⟩, b2⟩; have k2 := (b2.block (w.heap.size + 1) (by omega)).trans ((b1.block (w.heap.size + 1) (by rw [hsz]; omega)).trans h2); obtain ⟨og, ol, oc, rfl⟩ := own_slice hW; have y0 : w2.cell? ⟨w.heap.size + 1, 0, none⟩ = some (.int .i64 0) := (by rw [cell_of_row _ _ _ _ _ _ k2]; rfl); have y1 : w2.cell? ⟨w.heap.size + 1, 1, none⟩ = some (.slice none 0 0) := (by rw [cell_of_row _ _ _ _ _ _ k2]; rfl); have g0 := frozen_of_row w2 (w.heap.size + 1) 0 _ _ k2; have g1 := frozen_of_row w2 (w.heap.size + 1) 1 _ _ k2; have HCj : Hid (Cj n (sq n L) k t) := hCj; clear hCj))
  have hn1 := heap_setCell_same w2 (w.heap.size + 1) 0 _ _ (.int .i64 (n : Int)) k2
  have hn2 := heap_setCell_same _ (w.heap.size + 1) 1 _ _ (.slice og ol oc) hn1
  have hW2 := orow_other (orow_other hW ⟨w.heap.size + 1, 0, none⟩ (.int .i64 (n : Int)) (own_diff hW k2)) ⟨w.heap.size + 1, 1, none⟩ (.slice og ol oc) (own_diff hW k2)
  exact post_sq2 4 5 Tryd.results7 rfl hn2 rfl rfl ⟨⟨_, t, rfl, HCj.out, orow_base hW2 (by omega)⟩, ((Below.next hb1 b2).setCell (by show w.heap.size ≤ w.heap.size + 1; omega) _).setCell (by show w.heap.size ≤ w.heap.size + 1; omega) _⟩
end Go.Proofs.YtncnaaohihmjnaaDoor
