/- The walk of Extend. -/
import Derived.Test.YtagpbkcnjogbgaaX6
namespace Go.Proofs.Ytagpbkcnjogbgaa
open Go.RowKit Go.Maps

theorem checkRows_any (n : Int) (ls : List (List Int)) (v : Value) (w : World) (hv : Rw w v ls) (hll : ∀ l ∈ ls, l.length ≤ maxLen) (_hle : ls.length ≤ maxLen) : Calls Try.prog 28 #[.int .i64 n, v] w fun e w' => e = .returned (.int .i64 (eF n ls : Int)) ∧ Below w.heap.size w w' := by
  by_cases h : n < 1 ∨ 8 < n
  · have e : eF n ls = 1 := by unfold eF; rw [if_pos h]
    rw [e]
    exact checkRows_far n ls v w hv h
  · obtain ⟨k, rfl⟩ : ∃ k : Nat, n = k := ⟨n.toNat, by omega⟩
    by_cases hl : k < ls.length
    · have e : eF k ls = 3 := by unfold eF; rw [if_neg h, if_pos (by omega)]
      rw [e]
      exact checkRows_full k ls v w (by omega) (by omega) hv (by omega)
    · exact checkRows_main k ls v w (by omega) (by omega) hv hll (by omega)
theorem ExtendFault_any (n : Int) (ls : List (List Int)) (v : Value) (w : World) (hv : Rw w v ls) (hll : ∀ l ∈ ls, l.length ≤ maxLen) (_hle : ls.length ≤ maxLen) : Calls Try.prog 14 #[.int .i64 n, v] w fun e w' => e = .returned (.int .i64 (eF n ls : Int)) ∧ Below w.heap.size w w' := by
  by_cases h : n < 1
  · have e : eF n ls = 1 := by unfold eF; rw [if_pos (.inl h)]
    rw [e]
    exact ExtendFault_low n v w h
  · by_cases h' : 8 < n
    · have e : eF n ls = 1 := by unfold eF; rw [if_pos (.inr h')]
      rw [e]
      exact ExtendFault_high n v w h'
    · obtain ⟨k, rfl⟩ : ∃ k : Nat, n = k := ⟨n.toNat, by omega⟩
      by_cases hl : k < ls.length
      · have e : eF k ls = 3 := by unfold eF; rw [if_neg (by omega), if_pos (by omega)]
        rw [e]
        exact ExtendFault_full k ls v w (by omega) (by omega) hv (by omega)
      · exact ExtendFault_main k ls v w (by omega) (by omega) hv hll (by omega)
set_option maxHeartbeats 4000000 in
theorem Extend_bad (n : Int) (ls : List (List Int)) (v : Value) (w : World) (hv : Rw w v ls) (hll : ∀ l ∈ ls, l.length ≤ maxLen) (_hle : ls.length ≤ maxLen) (h : eF n ls ≠ 0) :
    Calls Try.prog 15 #[.int .i64 n, v] w fun e w' => e = .returned (.tuple #[.agg #[.int .i64 0, .slice none 0 0], .int .i64 (eF n ls : Int)]) ∧ Below w.heap.size w w' := by
  have hb := balloc w (.cells #[.int .i64 0, .slice none 0 0] 24)
  have h2 := heap_alloc_new w (.cells #[.int .i64 0, .slice none 0 0] 24)
  have hsz : (w.alloc (.cells #[.int .i64 0, .slice none 0 0] 24)).heap.size = w.heap.size + 1 := by simp
  have C := checkRows_any n ls v _ (hv.below hb) hll _hle
  have hz : ((eF n ls : Int) != 0) = true := by simp; omega
  obtain ⟨va, vc, rfl, _⟩ := hv
  generalize eF n ls = z at *
  go_enter Try.func15, Try.ntmps15
  go_wp2_with (go_at_call 28; refine C.mono ?_; rintro e w1 ⟨rfl, b1⟩; have k2 := (b1.block w.heap.size (by rw [hsz]; omega)).trans h2; have y0 : w1.cell? ⟨w.heap.size, 0, none⟩ = some (.int .i64 0) := (by rw [cell_of_row _ _ _ _ _ _ k2]; rfl); have y1 : w1.cell? ⟨w.heap.size, 1, none⟩ = some (.slice none 0 0) := (by rw [cell_of_row _ _ _ _ _ _ k2]; rfl); have g0 := frozen_of_row w1 w.heap.size 0 _ _ k2; have g1 := frozen_of_row w1 w.heap.size 1 _ _ k2)
  have hn1 := heap_setCell_same w1 w.heap.size 0 _ _ (.int .i64 0) k2
  have hn2 := heap_setCell_same _ w.heap.size 1 _ _ (.slice none 0 0) hn1
  exact post_sq2 4 5 Try.results15 rfl hn2 rfl rfl ⟨rfl, ((Below.next hb b1).setCell (Nat.le_refl _) _).setCell (Nat.le_refl _) _⟩
set_option maxHeartbeats 4000000 in
theorem Extend_ok (n : Nat) (all : List (List Nat)) (v : Value) (w : World) (h1 : 1 ≤ n) (hn : n ≤ 8) (hv : Rw w v (toI all)) (hnil : v = .slice none 0 0 ∨ ∃ a l c, v = .slice (some a) l c) (h : eF n (toI all) = 0) (ha : all.length ≤ n) (hr : ∀ r ∈ all, r.length = n) (hP : Part n all.flatten) :
    Calls Try.prog 15 #[.int .i64 (n : Int), v] w fun e w' => (∃ y, e = .returned (.tuple #[.agg #[.int .i64 (n : Int), y], .int .i64 0]) ∧ w'.ownsRow w.heap.size 3 1 y (n * n) (vn (goOn n (n - all.length) all).flatten)) ∧ Below w.heap.size w w' := by
  have hb := balloc w (.cells #[.int .i64 0, .slice none 0 0] 24)
  have h2 := heap_alloc_new w (.cells #[.int .i64 0, .slice none 0 0] 24)
  have hsz : (w.alloc (.cells #[.int .i64 0, .slice none 0 0] 24)).heap.size = w.heap.size + 1 := by simp
  have C := checkRows_any n (toI all) v _ (hv.below hb) (fun l hl => by
    obtain ⟨r, hm, rfl⟩ := List.mem_map.1 hl
    rw [List.length_map, hr r hm]; unfold maxLen; omega) (by rw [toI_len]; unfold maxLen; omega)
  rw [h] at C
  have C2 : Hid (∀ W, Below w.heap.size w W → Calls Try.prog 29 #[.int .i64 (n : Int), v] W fun e w' => (∃ y, e = .returned (.agg #[.int .i64 (n : Int), y]) ∧ w'.ownsRow W.heap.size 3 1 y (n * n) (vn (goOn n (n - all.length) all).flatten)) ∧ Below W.heap.size W w') := fun W bW => extended_any n all v W h1 hn (hv.below bW) hnil ha hr hP
  obtain ⟨va, vc, rfl, _⟩ := hv
  obtain ⟨Z, HZ⟩ : ∃ Z, Hid (vn (goOn n (n - all.length) all).flatten = Z) := ⟨_, rfl⟩
  rw [HZ.out] at C2 ⊢
  clear hnil h hP hr HZ
  go_enter Try.func15, Try.ntmps15
  go_wp2_with (first
    | (go_at_call 28; refine C.mono ?_; rintro e w1 ⟨rfl, b1⟩; have hb1 := Below.next hb b1; have D := C2.out _ hb1; have hs1 := b1.size; rw [hsz] at hs1)
    | (go_at_call 29; refine D.mono ?_; rintro e w2 ⟨⟨y, rfl, hW⟩, b2⟩; have k2 := (b2.block w.heap.size (by omega)).trans ((b1.block w.heap.size (by rw [hsz]; omega)).trans h2); obtain ⟨og, ol, oc, rfl⟩ := own_slice hW; have y0 : w2.cell? ⟨w.heap.size, 0, none⟩ = some (.int .i64 0) := (by rw [cell_of_row _ _ _ _ _ _ k2]; rfl); have y1 : w2.cell? ⟨w.heap.size, 1, none⟩ = some (.slice none 0 0) := (by rw [cell_of_row _ _ _ _ _ _ k2]; rfl); have g0 := frozen_of_row w2 w.heap.size 0 _ _ k2; have g1 := frozen_of_row w2 w.heap.size 1 _ _ k2))
  have hn1 := heap_setCell_same w2 w.heap.size 0 _ _ (.int .i64 (n : Int)) k2
  have hn2 := heap_setCell_same _ w.heap.size 1 _ _ (.slice og ol oc) hn1
  have hW2 := orow_other (orow_other hW ⟨w.heap.size, 0, none⟩ (.int .i64 (n : Int)) (own_diff hW k2)) ⟨w.heap.size, 1, none⟩ (.slice og ol oc) (own_diff hW k2)
  exact post_sq2 4 5 Try.results15 rfl hn2 rfl rfl ⟨⟨_, rfl, orow_base hW2 (by omega)⟩, ((Below.next hb1 b2).setCell (Nat.le_refl _) _).setCell (Nat.le_refl _) _⟩
end Go.Proofs.Ytagpbkcnjogbgaa
