/- The law LatinChecks, walked. -/
import Derived.Test.YtagpbkcnjogbgaaDoorCd
import Derived.Test.YtagpbkcnjogbgaaDoorSq
namespace Go.Proofs.YtagpbkcnjogbgaaDoor
open Go.RowKit

theorem nbs (z : Nat) : ((z : Int) == (z : Int)) = true := by simp
theorem nbn (z : Nat) : ((z : Int) != (z : Int)) = false := by simp
theorem fl_eq {n k : Nat} {s t t' : Nat → Nat → Nat} (L : Lat n s) (hn : 0 < n) (hk : k ≤ 5) (h : Cj n s k t) (h' : Cj n s k t') : flN n t (n * n) = flN n t' (n * n) := by
  unfold flN
  apply List.map_congr_left
  intro p hp
  have hp := List.mem_range.1 hp
  exact cj_one L hk h h' (Nat.div_lt_of_lt_mul hp) (Nat.mod_lt _ hn)
/-- A square in a box, as it is read later. -/
theorem box1 (s : Int) (u : Value) (w : World) : ∀ W, Below (w.alloc (.cells #[.int .i64 s, u] 24)).heap.size (w.alloc (.cells #[.int .i64 s, u] 24)) W →
    W.cell? ⟨w.heap.size, 0, none⟩ = some (.int .i64 s) ∧ W.cell? ⟨w.heap.size, 1, none⟩ = some u := fun W b => by
  have k1 := (b.block w.heap.size (by simp)).trans (heap_alloc_new w (.cells #[.int .i64 s, u] 24))
  exact ⟨by rw [cell_of_row _ _ _ _ _ _ k1]; rfl, by rw [cell_of_row _ _ _ _ _ _ k1]; rfl⟩
set_option maxRecDepth 100000 in
set_option maxHeartbeats 8000000 in
theorem LatinChecks_law (s k : Int) (L : List Int) (v : Value) (w : World) (hO : OT w) (_hw : (Lit.int .i64 k).wf = true) (hv : Sl w v L) (hL : L.length ≤ maxLen) :
    Calls Tryd.prog 3 #[.agg #[.int .i64 s, v], .int .i64 k] w fun e w' => e = .returned (.bool true) ∧ Below w.heap.size w w' := by
  have SS : Hid (∀ W, Below (w.alloc (.cells #[.int .i64 s, v] 24)).heap.size (w.alloc (.cells #[.int .i64 s, v] 24)) W → W.cell? ⟨w.heap.size, 0, none⟩ = some (.int .i64 s) ∧ W.cell? ⟨w.heap.size, 1, none⟩ = some v) := box1 s v w
  have hb0 := balloc w (.cells #[.int .i64 s, v] 24)
  have C0 := fun W (b : Below w.heap.size w W) => LatinFault_any s L v W (hv.below b) hL
  have C1 := fun W (b : Below w.heap.size w W) => Check_any s L v W (hv.below b) hL
  have CE : Hid (∀ W, Calls Tryd.prog 8 #[.agg #[.int .i64 0, .slice none 0 0], .agg #[.int .i64 0, .slice none 0 0]] W fun e w' => e = .returned (.bool true) ∧ Below W.heap.size W w') := fun W => Squares_same 0 [] _ _ W (Sl.nil W) (Sl.nil W) (by simp)
  by_cases h : lF s L = 0
  · rw [h] at C0 C1
    obtain ⟨n, rfl, G⟩ := lF_ok h
    by_cases hk : k < 0 ∨ 5 < k
    · have C2 := fun W (b : Below w.heap.size w W) => Conjugate_far n k L v W (hv.below b) G hk
      clear hv G h hO
      by_cases hk0 : k < 0
      · have hd : decide (k < 0) = true := decide_eq_true hk0
        clear hk hk0
        go_enter Tryd.func3, Tryd.ntmps3
        go_wp2_with (first
          | (go_at_call 5; refine (C0 _ hb0).mono ?_; rintro e w1 ⟨rfl, b1⟩; obtain ⟨x0, x1⟩ := SS.out _ b1; have d1 := Below.next hb0 b1; clear C0)
          | (go_at_call 6; refine (C1 _ d1).mono ?_; rintro e w2 ⟨rfl, b2⟩; have s2 := Below.next b1 b2; obtain ⟨y0, y1⟩ := SS.out _ s2; have d2 := Below.next d1 b2; clear C1)
          | (go_at_call 7; refine (C2 _ d2).mono ?_; rintro e w3 ⟨rfl, b3⟩; have d3 := Below.next (Below.next d2 b3) (balloc w3 (.cells #[.int .i64 0, .slice none 0 0] 24)); clear C2)
          | (go_at_call 8; refine (CE.out _).mono ?_; rintro e w4 ⟨rfl, b4⟩; have d4 := Below.next d3 b4; clear CE))
        go_ret
        exact ⟨rfl, d4⟩
      · have hd : decide (k < 0) = false := decide_eq_false hk0
        have hd2 : decide (5 < k) = true := decide_eq_true (by omega)
        clear hk hk0
        go_enter Tryd.func3, Tryd.ntmps3
        go_wp2_with (first
          | (go_at_call 5; refine (C0 _ hb0).mono ?_; rintro e w1 ⟨rfl, b1⟩; obtain ⟨x0, x1⟩ := SS.out _ b1; have d1 := Below.next hb0 b1; clear C0)
          | (go_at_call 6; refine (C1 _ d1).mono ?_; rintro e w2 ⟨rfl, b2⟩; have s2 := Below.next b1 b2; obtain ⟨y0, y1⟩ := SS.out _ s2; have d2 := Below.next d1 b2; clear C1)
          | (go_at_call 7; refine (C2 _ d2).mono ?_; rintro e w3 ⟨rfl, b3⟩; have d3 := Below.next (Below.next d2 b3) (balloc w3 (.cells #[.int .i64 0, .slice none 0 0] 24)); clear C2)
          | (go_at_call 8; refine (CE.out _).mono ?_; rintro e w4 ⟨rfl, b4⟩; have d4 := Below.next d3 b4; clear CE))
        go_ret
        exact ⟨rfl, d4⟩
    · obtain ⟨m, rfl⟩ : ∃ m : Nat, k = m := ⟨k.toNat, by omega⟩
      have hm : m ≤ 5 := by omega
      have hd : decide ((m : Int) < 0) = false := decide_eq_false (by omega)
      have hd2 : decide ((5 : Int) < (m : Int)) = false := decide_eq_false (by omega)
      have C2 := fun W (b : Below w.heap.size w W) => Conjugate_ok n m L v W (hv.below b) G hm (hO.below b)
      have C3 := fun W (b : Below w.heap.size w W) => ConjugateOf_any n m L v W (hv.below b) G hm
      have HSL : Hid (∀ (W : World) (base : Nat) (y : Value) (t : Nat → Nat → Nat), W.ownsRow base 3 1 y (n * n) (vn (flN n t (n * n))) → Sl W y ((flN n t (n * n)).map Int.ofNat)) := fun W base y t hW => fl_sl hW
      have HEQ : Hid (∀ t t', Cj n (sq n L) m t → Cj n (sq n L) m t' → flN n t' (n * n) = flN n t (n * n)) := fun t t' h1 h2 => fl_eq G.lat G.pos hm h2 h1
      have HSQ : Hid (∀ t y y' W, Sl W y ((flN n t (n * n)).map Int.ofNat) → Sl W y' ((flN n t (n * n)).map Int.ofNat) → Calls Tryd.prog 8 #[.agg #[.int .i64 (n : Int), y], .agg #[.int .i64 (n : Int), y']] W fun e w' => e = .returned (.bool true) ∧ Below W.heap.size W w') := fun t y y' W h1 h2 => Squares_same n _ y y' W h1 h2 (by
        have : ((flN n t (n * n)).map Int.ofNat).length = n * n := by simp [flN]
        rw [this]
        exact Nat.le_trans (Nat.mul_le_mul G.le G.le) (by unfold maxLen; omega))
      clear hv G h hk hO CE
      go_enter Tryd.func3, Tryd.ntmps3
      go_wp2_with (first
        | (go_at_call 5; refine (C0 _ hb0).mono ?_; rintro e w1 ⟨rfl, b1⟩; obtain ⟨x0, x1⟩ := SS.out _ b1; have d1 := Below.next hb0 b1; clear C0)
        | (go_at_call 6; refine (C1 _ d1).mono ?_; rintro e w2 ⟨rfl, b2⟩; have s2 := Below.next b1 b2; obtain ⟨y0, y1⟩ := SS.out _ s2; have d2 := Below.next d1 b2; clear C1)
        | (go_at_call 7; refine (C2 _ d2).mono ?_; rintro e w3 ⟨⟨y, t, rfl, hCj, hW⟩, b3⟩; have hS := HSL.out _ _ _ _ hW; obtain ⟨og, ol, oc, rfl⟩ := own_slice hW; have b3' := Below.next b3 (balloc w3 (.cells #[.int .i64 (n : Int), .slice og ol oc] 24)); have d3 := Below.next d2 b3'; obtain ⟨z0, z1⟩ := SS.out _ (Below.next s2 b3'); have hS3 := hS.alloc (.cells #[.int .i64 (n : Int), .slice og ol oc] 24); have HSC : Hid (∀ W, Below (w3.alloc (.cells #[.int .i64 (n : Int), .slice og ol oc] 24)).heap.size (w3.alloc (.cells #[.int .i64 (n : Int), .slice og ol oc] 24)) W → W.cell? ⟨w3.heap.size, 0, none⟩ = some (.int .i64 (n : Int)) ∧ W.cell? ⟨w3.heap.size, 1, none⟩ = some (.slice og ol oc)) := box1 (n : Int) (.slice og ol oc) w3; have HCj : Hid (Cj n (sq n L) m t) := hCj; clear C2 hW hCj)
        | (go_at_call 9; refine (C3 _ d3).mono ?_; rintro e w4 ⟨⟨y', t', rfl, hCj', hS'⟩, b4⟩; have he := HEQ.out t t' HCj.out hCj'; rw [he] at hS'; obtain ⟨pg, pl, pc, rfl⟩ : ∃ a l c, y' = .slice a l c := (by obtain ⟨a, c, e, _⟩ := hS'; exact ⟨a, _, c, e⟩); have b4' := Below.next b4 (balloc w4 (.cells #[.int .i64 (n : Int), .slice pg pl pc] 24)); obtain ⟨q0, q1⟩ := HSC.out _ b4'; have d4 := Below.next d3 b4'; have E := HSQ.out t _ _ _ (hS3.below b4') (hS'.alloc (.cells #[.int .i64 (n : Int), .slice pg pl pc] 24)); clear C3 hCj' he)
        | (go_at_call 8; refine E.mono ?_; rintro e w5 ⟨rfl, b5⟩; have d5 := Below.next d4 b5; clear E))
      go_ret
      exact ⟨rfl, d5⟩
  · have C2 := fun W (b : Below w.heap.size w W) => Conjugate_bad s k L v W (hv.below b) hL h
    have hz : ((lF s L : Int) != 0) = true := by simp; omega
    have hz2 : ((lF s L : Int) == 0) = false := by simp; omega
    have e1 := nbs (lF s L)
    have e2 := nbn (lF s L)
    generalize lF s L = z at *
    clear hv h hO
    go_enter Tryd.func3, Tryd.ntmps3
    go_wp2_with (first
      | (go_at_call 5; refine (C0 _ hb0).mono ?_; rintro e w1 ⟨rfl, b1⟩; obtain ⟨x0, x1⟩ := SS.out _ b1; have d1 := Below.next hb0 b1; clear C0)
      | (go_at_call 6; refine (C1 _ d1).mono ?_; rintro e w2 ⟨rfl, b2⟩; have s2 := Below.next b1 b2; obtain ⟨y0, y1⟩ := SS.out _ s2; have d2 := Below.next d1 b2; clear C1)
      | (go_at_call 7; refine (C2 _ d2).mono ?_; rintro e w3 ⟨rfl, b3⟩; have d3 := Below.next (Below.next d2 b3) (balloc w3 (.cells #[.int .i64 0, .slice none 0 0] 24)); clear C2)
      | (go_at_call 8; refine (CE.out _).mono ?_; rintro e w4 ⟨rfl, b4⟩; have d4 := Below.next d3 b4; clear CE))
    go_ret
    exact ⟨rfl, d4⟩
end Go.Proofs.YtagpbkcnjogbgaaDoor
