/- The first square of any rows. -/
import Derived.Test.YtagpbkcnjogbgaaX11
import Derived.Test.YtagpbkcnjogbgaaX12
import Derived.Test.YtagpbkcnjogbgaaSq
import Derived.Test.YtagpbkcnjogbgaaRRB
namespace Go.Proofs.Ytagpbkcnjogbgaa
open Go.RowKit Go.Maps

theorem CameR.of {ls : List (List Int)} {v : Value} {w : World} (h : CameR ls v w) : Rw w v ls ∧ (v = .slice none 0 0 ∨ ∃ a l c, v = .slice (some a) l c) ∧ (∀ l ∈ ls, l.length ≤ maxLen) ∧ ls.length ≤ maxLen := h
set_option maxHeartbeats 4000000 in
theorem Extends_bad (n : Int) (ls : List (List Int)) (v : Value) (w : World) (hv : CameR ls v w) (h : eF n ls ≠ 0) :
    Calls Try.prog 5 #[.int .i64 n, v] w fun e w' => e = .returned (.bool true) ∧ Below w.heap.size w w' := by
  obtain ⟨hr, hnil, hll, hle⟩ := hv.of
  have C1 := ExtendFault_any n ls v w hr hll hle
  have C2 : Hid (∀ W, Below w.heap.size w W → Calls Try.prog 15 #[.int .i64 n, v] W fun e w' => e = .returned (.tuple #[.agg #[.int .i64 0, .slice none 0 0], .int .i64 (eF n ls : Int)]) ∧ Below W.heap.size W w') := fun W bW => Extend_bad n ls v W (hr.below bW) hll hle h
  have C3 : Hid (∀ W, Calls Try.prog 16 #[.agg #[.int .i64 0, .slice none 0 0], .agg #[.int .i64 0, .slice none 0 0]] W fun e w' => e = .returned (.bool true) ∧ Below W.heap.size W w') := fun W => Squares_same 0 [] _ _ W (Sl.nil W) (Sl.nil W) (by simp)
  have hz : ((eF n ls : Int) != 0) = true := by simp; omega
  have hz3 : ((eF n ls : Int) == (eF n ls : Int)) = true := by simp
  obtain ⟨va, vc, rfl, _⟩ := hr
  generalize eF n ls = z at *
  clear hnil hll hle h hv
  go_enter Try.func5, Try.ntmps5
  go_wp2_with (first
    | (go_at_call 14; refine C1.mono ?_; rintro e w1 ⟨rfl, b1⟩; clear C1)
    | (go_at_call 15; refine (C2.out _ b1).mono ?_; rintro e w2 ⟨rfl, b2⟩; have d2 := Below.next b1 b2; clear C2)
    | (go_at_call 16; refine (C3.out _).mono ?_; rintro e w4 ⟨rfl, b4⟩; clear C3))
  go_ret
  exact ⟨rfl, Below.next (Below.next d2 (balloc w2 _)) b4⟩
set_option maxHeartbeats 4000000 in
theorem Extends_ok (n : Nat) (all : List (List Nat)) (v : Value) (w : World) (h1 : 1 ≤ n) (hn : n ≤ 8) (hv : CameR (toI all) v w) (h : eF n (toI all) = 0) (ha : all.length ≤ n) (hr : ∀ r ∈ all, r.length = n) (hP : Part n all.flatten) :
    Calls Try.prog 5 #[.int .i64 (n : Int), v] w fun e w' => e = .returned (.bool true) ∧ Below w.heap.size w w' := by
  obtain ⟨hR, hnil, hll, hle⟩ := hv.of
  have C1 := ExtendFault_any n (toI all) v w hR hll hle
  rw [h] at C1
  have hlen : Hid ((goOn n (n - all.length) all).flatten.length = n * n) := by
    have := goOn_fill (m := n - all.length) hr hP (by omega)
    show _ = _
    rw [flat_len this.2.2.1, this.2.1]
  have C2 : Hid (∀ W, Below w.heap.size w W → Calls Try.prog 15 #[.int .i64 (n : Int), v] W fun e w' => (∃ y, e = .returned (.tuple #[.agg #[.int .i64 (n : Int), y], .int .i64 0]) ∧ Sl w' y ((goOn n (n - all.length) all).flatten.map Int.ofNat)) ∧ Below W.heap.size W w') := fun W bW => (Extend_ok n all v W h1 hn (hR.below bW) hnil h ha hr hP).mono fun e w' ⟨⟨y, h1, h2⟩, h3⟩ => ⟨⟨y, h1, vn_sl (by rw [hlen.out]; exact h2)⟩, h3⟩
  have C3 : Hid (∀ W, Below w.heap.size w W → Calls Try.prog 17 #[.int .i64 (n : Int), v] W fun e w' => (∃ y, e = .returned (.agg #[.int .i64 (n : Int), y]) ∧ Sl w' y ((goOn n (n - all.length) all).flatten.map Int.ofNat)) ∧ Below W.heap.size W w') := fun W bW => ExtendOf_any n all v W h1 hn (hR.below bW) ha hr hP
  have hL : Hid (((goOn n (n - all.length) all).flatten.map Int.ofNat).length ≤ maxLen) := by
    show _ ≤ _
    rw [List.length_map, hlen.out]
    exact Nat.le_trans (Nat.mul_le_mul hn hn) (by unfold maxLen; omega)
  obtain ⟨va, vc, rfl, _⟩ := hR
  generalize (goOn n (n - all.length) all).flatten.map Int.ofNat = Z at *
  have C4 : Hid (∀ W y y', Sl W y Z → Sl W y' Z → Calls Try.prog 16 #[.agg #[.int .i64 (n : Int), y], .agg #[.int .i64 (n : Int), y']] W fun e w' => e = .returned (.bool true) ∧ Below W.heap.size W w') := fun W y y' s1 s2 => Squares_same n Z y y' W s1 s2 hL.out
  clear hnil hll hle h hv hr hP hlen hL
  go_enter Try.func5, Try.ntmps5
  go_wp2_with (first
    | (go_at_call 14; refine C1.mono ?_; rintro e w1 ⟨rfl, b1⟩; clear C1)
    | (go_at_call 15; refine (C2.out _ b1).mono ?_; rintro e w2 ⟨⟨y, rfl, sy⟩, b2⟩; obtain ⟨ya, yc, ey, _⟩ := id sy; subst ey; have d2 := Below.next b1 b2; have d3 := Below.next d2 (balloc w2 (.cells #[.int .i64 (n : Int), .slice ya Z.length yc] 24)); clear C2)
    | (go_at_call 17; refine (C3.out _ d3).mono ?_; rintro e w4 ⟨⟨y', rfl, sy'⟩, b4⟩; obtain ⟨ya', yc', ey', _⟩ := id sy'; subst ey'; have d4 := Below.next d3 b4; have k4 := (b4.block w2.heap.size (by simp)).trans (heap_alloc_new w2 (.cells #[.int .i64 (n : Int), .slice ya Z.length yc] 24)); have x0 : w4.cell? ⟨w2.heap.size, 0, none⟩ = some (.int .i64 (n : Int)) := (by rw [cell_of_row _ _ _ _ _ _ k4]; rfl); have x1 : w4.cell? ⟨w2.heap.size, 1, none⟩ = some (.slice ya Z.length yc) := (by rw [cell_of_row _ _ _ _ _ _ k4]; rfl); have hlt4 : w2.heap.size < w4.heap.size := (Array.getElem?_eq_some_iff.1 k4).1; have hsy := ((sy.below (balloc w2 _)).below b4).below (balloc w4 (.cells #[.int .i64 (n : Int), .slice ya' Z.length yc'] 24)); have hsy' := sy'.below (balloc w4 (.cells #[.int .i64 (n : Int), .slice ya' Z.length yc'] 24)); have D := C4.out _ _ _ hsy hsy'; clear C3)
    | (go_at_call 16; refine D.mono ?_; rintro e w6 ⟨rfl, b6⟩; clear D))
  go_ret
  exact ⟨rfl, Below.next (Below.next d4 (balloc w4 _)) b6⟩
theorem Extends_any (n : Int) (ls : List (List Int)) (v : Value) (w : World) (_ : (Lit.int .i64 n).wf = true) (hv : CameR ls v w) : Calls Try.prog 5 #[.int .i64 n, v] w fun e w' => e = .returned (.bool true) ∧ Below w.heap.size w w' := by
  by_cases h : eF n ls = 0
  · obtain ⟨k, all, rfl, h1, h8, rfl, ha, hr, hP⟩ := eF_ok h
    exact Extends_ok k all v w h1 h8 hv h ha hr hP
  · exact Extends_bad n ls v w hv h
end Go.Proofs.Ytagpbkcnjogbgaa
