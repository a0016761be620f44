/- The law LatinMakes, walked. -/
import Derived.Test.YtagpbkcnjogbgaaDoorMk6
namespace Go.Proofs.YtagpbkcnjogbgaaDoor
open Go.RowKit

theorem vnI (t : List Nat) : (t.map Int.ofNat).map (Value.int .i64) = vn t := by simp [vn]
/-- A call makes this square, or tells this fault, wherever. -/
def Tells (f : Nat) (args : Array Value) (W : World) (sd : Int) (L : List Int) (z : Int) : Prop :=
  Calls Tryd.prog f args W fun e w' => (∃ y, e = .returned (.tuple #[.agg #[.int .i64 sd, y], .int .i64 z]) ∧ w'.ownsRow W.heap.size 3 1 y L.length (L.map (Value.int .i64))) ∧ Below W.heap.size W w'
theorem tells_bad {f : Nat} {args : Array Value} {W : World} {z : Int} (h : Calls Tryd.prog f args W fun e w' => e = .returned (.tuple #[.agg #[.int .i64 0, .slice none 0 0], .int .i64 z]) ∧ Below W.heap.size W w') : Tells f args W 0 [] z :=
  h.mono fun _ _ ⟨h1, h2⟩ => ⟨⟨_, h1, World.ownsRow_nil _ _ _ _⟩, h2⟩
theorem tells_ok {f : Nat} {args : Array Value} {W : World} {q : Nat} {l : List Nat} (hl : l.length = q * q) (h : Calls Tryd.prog f args W fun e w' => (∃ y, e = .returned (.tuple #[.agg #[.int .i64 (q : Int), y], .int .i64 0]) ∧ w'.ownsRow W.heap.size 3 1 y (q * q) (vn l)) ∧ Below W.heap.size W w') : Tells f args W q (l.map Int.ofNat) 0 :=
  h.mono fun _ _ ⟨⟨y, h1, h2⟩, h3⟩ => ⟨⟨y, h1, by rw [List.length_map, hl, vnI]; exact h2⟩, h3⟩
theorem fl_len (q : Nat) (t : Nat → Nat → Nat) (k : Nat) : (flN q t k).length = k := by simp [flN]
theorem sq_max {q : Nat} (h8 : q ≤ 8) : q * q ≤ maxLen := Nat.le_trans (Nat.mul_le_mul h8 h8) (by unfold maxLen; omega)
theorem cyc_both (n : Int) : ∃ (sd : Int) (L : List Int) (z : Int), L.length ≤ maxLen ∧ (∀ W, Tells 10 #[.int .i64 n] W sd L z) ∧ ∀ W, Tells 11 #[.int .i64 n] W sd L z := by
  by_cases h : n < 1 ∨ 8 < n
  · exact ⟨0, [], 1, by simp, fun W => tells_bad (Cyclic_bad n W h), fun W => tells_bad (CyclicOf_far n W h)⟩
  · obtain ⟨m, rfl⟩ : ∃ m : Nat, n = m := ⟨n.toNat, by omega⟩
    have h1 : 1 ≤ m := by omega
    have h8 : m ≤ 8 := by omega
    exact ⟨m, _, 0, by rw [List.length_map, fl_len]; exact sq_max h8, fun W => tells_ok (fl_len _ _ _) (Cyclic_ok m W h1 h8), fun W => tells_ok (fl_len _ _ _) (CyclicOf_ok m W h1 h8)⟩
theorem in_az {q a : Int} (hq : 0 < q) : Fd.inL q [a, 0] ↔ 0 ≤ a ∧ a < q := by
  rw [Fd.inL_pair, Fd.inB_iff, Fd.inB_iff]
  omega
theorem made_both (p k a : Int) (l : List Int) (v : Value) (w : World) (hT : Fd.Tab w) (hl : Sl w v l) (hll : l.length ≤ maxLen) : ∃ (sd : Int) (L : List Int) (z : Int), L.length ≤ maxLen ∧ (∀ W, Below w.heap.size w W → Tells 12 #[.agg #[.int .i64 p, .int .i64 k, v], .int .i64 a] W sd L z) ∧ ∀ W, Below w.heap.size w W → Tells 13 #[.agg #[.int .i64 p, .int .i64 k, v], .int .i64 a] W sd L z := by
  obtain ⟨z, hz⟩ := fault_some p k l
  by_cases h0 : z = 0
  · subst h0
    obtain ⟨P, K, rfl, rfl, hG⟩ := Fd.good_of hz
    have h2 := two_le hG
    have ho := hG.ord
    by_cases hin : 0 ≤ a ∧ a < ((P ^ K : Nat) : Int)
    · obtain ⟨A, rfl⟩ : ∃ A : Nat, a = A := ⟨a.toNat, by omega⟩
      have hA : A < P ^ K := by omega
      by_cases hA0 : A = 0
      · subst hA0
        exact ⟨0, [], 1, by simp, fun W b => tells_bad (Made_zero P K l v W (hT.below b) (hl.below b) hG), fun W b => tells_bad (MadeOf_far P K _ l v W (hl.below b) hG (.inl (by omega)))⟩
      · by_cases h8 : P ^ K ≤ 8
        · exact ⟨_, _, 0, by rw [List.length_map, fl_len]; exact sq_max h8, fun W b => tells_ok (fl_len _ _ _) (Made_ok P K A l v W (hT.below b) (hl.below b) hG (by omega) hA h8), fun W b => tells_ok (fl_len _ _ _) (MadeOf_ok P K A l v W (hl.below b) hG (by omega) hA h8)⟩
        · exact ⟨0, [], 3, by simp, fun W b => tells_bad (Made_full P K A l v W (hT.below b) (hl.below b) hG (by omega) hA (by omega)), fun W b => tells_bad (MadeOf_full P K A l v W (hl.below b) hG (by omega) hA (by omega))⟩
    · have hO : Fd.OpenIs (P : Int) K l [a, 0] 1 := .inr (.inl ⟨hz, by rw [in_az (by rw [ho]; omega), ho]; exact hin, rfl⟩)
      exact ⟨0, [], 1, by simp, fun W b => tells_bad (Made_bad P K a 1 l v W (hT.below b) (hl.below b) hll (by decide) hO), fun W b => tells_bad (MadeOf_far P K a l v W (hl.below b) hG (by omega))⟩
  · exact ⟨0, [], z, by simp, fun W b => tells_bad (Made_bad p k a z l v W (hT.below b) (hl.below b) hll h0 (.inl ⟨h0, hz⟩)), fun W b => tells_bad (MadeOf_bad p k a z l v W (hl.below b) h0 hz)⟩

/-- Two squares in blocks of their own, a field below them. -/
structure Two (w W : World) (B C : Nat) (p k : Int) (v : Value) (s t : Int) (y u : Value) : Prop where
  field : Fd.FB W w.heap.size p k v
  one : W.heap[B]? = some (.cells #[.int .i64 s, y] 24 (0, 0))
  two : W.heap[C]? = some (.cells #[.int .i64 t, u] 24 (0, 0))
  below : Below w.heap.size w W
theorem Two.next {w W W' : World} {B C : Nat} {p k : Int} {v : Value} {s t : Int} {y u : Value} (h : Two w W B C p k v s t y u) (b : Below W.heap.size W W') : Two w W' B C p k v s t y u :=
  ⟨h.field.below b, (b.block _ (Array.getElem?_eq_some_iff.1 h.one).1).trans h.one, (b.block _ (Array.getElem?_eq_some_iff.1 h.two).1).trans h.two, Below.next h.below b⟩
theorem Two.facts {w W : World} {B C : Nat} {p k : Int} {v : Value} {s t : Int} {y u : Value} (h : Two w W B C p k v s t y u) : (W.cell? ⟨w.heap.size, 0, none⟩ = some (.int .i64 p) ∧ W.cell? ⟨w.heap.size, 1, none⟩ = some (.int .i64 k) ∧ W.cell? ⟨w.heap.size, 2, none⟩ = some v) ∧ (W.cell? ⟨B, 0, none⟩ = some (.int .i64 s) ∧ W.cell? ⟨B, 1, none⟩ = some y) ∧ (W.cell? ⟨C, 0, none⟩ = some (.int .i64 t) ∧ W.cell? ⟨C, 1, none⟩ = some u) ∧ (W.frozen? ⟨B, 0, none⟩ = false ∧ W.frozen? ⟨B, 1, none⟩ = false) ∧ W.frozen? ⟨C, 0, none⟩ = false ∧ W.frozen? ⟨C, 1, none⟩ = false :=
  ⟨h.field.cells, ⟨by rw [cell_of_row _ _ _ _ _ _ h.one]; rfl, by rw [cell_of_row _ _ _ _ _ _ h.one]; rfl⟩, ⟨by rw [cell_of_row _ _ _ _ _ _ h.two]; rfl, by rw [cell_of_row _ _ _ _ _ _ h.two]; rfl⟩, ⟨frozen_of_row W _ 0 _ _ h.one, frozen_of_row W _ 1 _ _ h.one⟩, frozen_of_row W _ 0 _ _ h.two, frozen_of_row W _ 1 _ _ h.two⟩
theorem two_of {w w1 w2 : World} {p k : Int} {v : Value} {s t : Int} {y u : Value} (b1 : Below (w.alloc (.cells #[.int .i64 p, .int .i64 k, v] 33)).heap.size (w.alloc (.cells #[.int .i64 p, .int .i64 k, v] 33)) w1) (b2 : Below (w1.alloc (.cells #[.int .i64 s, y] 24)).heap.size (w1.alloc (.cells #[.int .i64 s, y] 24)) w2) : Two w (w2.alloc (.cells #[.int .i64 t, u] 24)) w1.heap.size w2.heap.size p k v s t y u := by
  have hs := b1.size
  have hs2 := b2.size
  simp only [World.size_alloc] at hs hs2
  refine ⟨((((Fd.FB.made w p k v).below b1).below (balloc w1 _)).below b2).below (balloc w2 _), ((balloc w2 _).block _ (by omega)).trans ((b2.block _ (by simp)).trans (heap_alloc_new w1 _)), heap_alloc_new w2 _, Below.next (Below.next (Below.next (Below.next (balloc w _) b1) (balloc w1 _)) b2) (balloc w2 _)⟩
theorem orow_low {w : World} {base n : Nat} {e : TypeId} {size : Nat} {v : Value} {xs : List Value} (h : w.ownsRow base e size v n xs) (a : Addr) (u : Value) (hb : a.block < base) : (w.setCell a u).ownsRow base e size v n xs := by
  refine orow_other h a u fun e => ?_
  obtain ⟨_, ⟨rfl, _⟩ | ⟨g', cap, cur, rfl, h8, _⟩⟩ := h
  · cases e
  · obtain rfl : g' = a.block := by simpa [Value.ownBlock] using e
    omega
theorem Two.set1 {w W : World} {B C : Nat} {p k : Int} {v : Value} {s t s' : Int} {y u y' : Value} (h : Two w W B C p k v s t y u) (hB : w.heap.size < B) (hC : B < C) : Two w ((W.setCell ⟨B, 0, none⟩ (.int .i64 s')).setCell ⟨B, 1, none⟩ y') B C p k v s' t y' u := by
  refine ⟨?_, ?_, ?_, (h.below.setCell (by show w.heap.size ≤ B; omega) _).setCell (by show w.heap.size ≤ B; omega) _⟩
  · exact (heap_setCell_other _ ⟨B, 1, none⟩ w.heap.size _ (by show w.heap.size ≠ B; omega)).trans ((heap_setCell_other _ ⟨B, 0, none⟩ w.heap.size _ (by show w.heap.size ≠ B; omega)).trans h.field)
  · have h1 := heap_setCell_same W B 0 _ _ (.int .i64 s') h.one
    have h2 := heap_setCell_same _ B 1 _ _ y' h1
    exact h2
  · exact (heap_setCell_other _ ⟨B, 1, none⟩ C _ (by show C ≠ B; omega)).trans ((heap_setCell_other _ ⟨B, 0, none⟩ C _ (by show C ≠ B; omega)).trans h.two)
theorem Two.set2 {w W : World} {B C : Nat} {p k : Int} {v : Value} {s t t' : Int} {y u u' : Value} (h : Two w W B C p k v s t y u) (hB : w.heap.size < B) (hC : B < C) : Two w ((W.setCell ⟨C, 0, none⟩ (.int .i64 t')).setCell ⟨C, 1, none⟩ u') B C p k v s t' y u' := by
  refine ⟨?_, ?_, ?_, (h.below.setCell (by show w.heap.size ≤ C; omega) _).setCell (by show w.heap.size ≤ C; omega) _⟩
  · exact (heap_setCell_other _ ⟨C, 1, none⟩ w.heap.size _ (by show w.heap.size ≠ C; omega)).trans ((heap_setCell_other _ ⟨C, 0, none⟩ w.heap.size _ (by show w.heap.size ≠ C; omega)).trans h.field)
  · exact (heap_setCell_other _ ⟨C, 1, none⟩ B _ (by show B ≠ C; omega)).trans ((heap_setCell_other _ ⟨C, 0, none⟩ B _ (by show B ≠ C; omega)).trans h.one)
  · have h1 := heap_setCell_same W C 0 _ _ (.int .i64 t') h.two
    have h2 := heap_setCell_same _ C 1 _ _ u' h1
    exact h2
set_option maxHeartbeats 8000000 in
theorem Makes_any (n a p k : Int) (l : List Int) (v : Value) (w : World) (hT : Fd.Tab w) (hl : Sl w v l) (hll : l.length ≤ maxLen) :
    Calls Tryd.prog 4 #[.int .i64 n, .agg #[.int .i64 p, .int .i64 k, v], .int .i64 a] w fun e w' => e = .returned (.bool true) ∧ Below w.heap.size w w' := by
  obtain ⟨s1, L1, z1, hL1, hC1, hC2⟩ := cyc_both n
  obtain ⟨s2, L2, z2, hL2, hC3, hC4⟩ := made_both p k a l v w hT hl hll
  have C1 : Hid (∀ W, Tells 10 #[.int .i64 n] W s1 L1 z1) := hC1
  have C2 : Hid (∀ W, Tells 11 #[.int .i64 n] W s1 L1 z1) := hC2
  have C3 : Hid (∀ W, Below w.heap.size w W → Tells 12 #[.agg #[.int .i64 p, .int .i64 k, v], .int .i64 a] W s2 L2 z2) := hC3
  have C4 : Hid (∀ W, Below w.heap.size w W → Tells 13 #[.agg #[.int .i64 p, .int .i64 k, v], .int .i64 a] W s2 L2 z2) := hC4
  have Q1 : Hid (∀ W y y', Sl W y L1 → Sl W y' L1 → Calls Tryd.prog 8 #[.agg #[.int .i64 s1, y], .agg #[.int .i64 s1, y']] W fun e w' => e = .returned (.bool true) ∧ Below W.heap.size W w') := fun W y y' h h' => Squares_same s1 L1 y y' W h h' hL1
  have Q2 : Hid (∀ W y y', Sl W y L2 → Sl W y' L2 → Calls Tryd.prog 8 #[.agg #[.int .i64 s2, y], .agg #[.int .i64 s2, y']] W fun e w' => e = .returned (.bool true) ∧ Below W.heap.size W w') := fun W y y' h h' => Squares_same s2 L2 y y' W h h' hL2
  have F0 := Fd.FB.made w p k v
  have b0 := balloc w (.cells #[.int .i64 p, .int .i64 k, v] 33)
  have hz1 : (z1 != z1) = false := by simp
  have hz2 : (z2 == z2) = true := by simp
  obtain ⟨va, vc, ev, _⟩ := hl
  subst ev
  clear hC1 hC2 hC3 hC4 hL1 hL2 hT hll
  go_enter Tryd.func4, Tryd.ntmps4
  go_wp2_with (first
    | (go_at_call 10; refine Calls.mono (C1.out _) ?_; rintro e w1 ⟨⟨y1, rfl, o1⟩, b1⟩; obtain ⟨ya, yl, yc, rfl⟩ := own_slice o1; have hs1 := b1.size; rw [World.size_alloc] at hs1; clear C1)
    | (go_at_call 11; refine Calls.mono (C2.out _) ?_; rintro e w2 ⟨⟨y2, rfl, o2⟩, b2⟩; obtain ⟨ua, ul, uc, rfl⟩ := own_slice o2; have hs2 := b2.size; rw [World.size_alloc] at hs2; have T3 := two_of (t := s1) (u := .slice ua ul uc) b1 b2; obtain ⟨⟨c0, c1, c2⟩, ⟨c3, c4⟩, ⟨c5, c6⟩, _⟩ := T3.facts; have D3 := Q1.out (w2.alloc (.cells #[.int .i64 s1, .slice ua ul uc] 24)) _ _ (Sl.below (Sl.below (Sl.below (Sl.owned o1) (balloc w1 _)) b2) (balloc w2 _)) (Sl.below (Sl.owned o2) (balloc w2 _)); clear C2)
    | (go_at_call 8; refine D3.mono ?_; rintro e w4 ⟨rfl, b4⟩; have T4 := T3.next b4; obtain ⟨⟨g0, g1, g2⟩, _⟩ := T4.facts; have D4 := C3.out _ T4.below; have hs4 := b4.size; rw [World.size_alloc] at hs4; clear D3 c0 c1 c2 c3 c4 c5 c6 Q1)
    | (go_at_call 12; refine Calls.mono D4 ?_; rintro e w5 ⟨⟨y5, rfl, o5⟩, b5⟩; obtain ⟨xa, xl, xc, rfl⟩ := own_slice o5; have T5 := T4.next b5; obtain ⟨⟨d0, d1, d2⟩, ⟨d3, d4⟩, ⟨d5, d6⟩, ⟨d7, d8⟩, d9, d10⟩ := T5.facts; have T6 := T5.set1 (s' := s2) (y' := .slice xa xl xc) (by omega) (by omega); have o6 := orow_low (orow_low o5 ⟨w1.heap.size, 0, none⟩ (.int .i64 s2) (by show w1.heap.size < w4.heap.size; omega)) ⟨w1.heap.size, 1, none⟩ (.slice xa xl xc) (by show w1.heap.size < w4.heap.size; omega); have D6 := C4.out _ T6.below; have hs5 := b5.size; obtain ⟨⟨e0, e1, e2⟩, _⟩ := T6.facts; clear D4 g0 g1 g2 C3)
    | (go_at_call 13; refine Calls.mono D6 ?_; rintro e w7 ⟨⟨y7, rfl, o7⟩, b7⟩; obtain ⟨ta, tl, tc, rfl⟩ := own_slice o7; have T7 := T6.next b7; obtain ⟨⟨f0, f1, f2⟩, ⟨f3, f4⟩, ⟨f5, f6⟩, ⟨f7, f8⟩, f9, f10⟩ := T7.facts; have T8 := T7.set2 (t' := s2) (u' := .slice ta tl tc) (by omega) (by omega); have o8 := orow_low (orow_low (orow_below o6 b7) ⟨w2.heap.size, 0, none⟩ (.int .i64 s2) (by show w2.heap.size < w4.heap.size; omega)) ⟨w2.heap.size, 1, none⟩ (.slice ta tl tc) (by show w2.heap.size < w4.heap.size; omega); have o9 := orow_low (orow_low o7 ⟨w2.heap.size, 0, none⟩ (.int .i64 s2) (by simp; omega)) ⟨w2.heap.size, 1, none⟩ (.slice ta tl tc) (by simp; omega); have D8 := Q2.out _ _ _ (Sl.owned o8) (Sl.owned o9); obtain ⟨_, ⟨h3, h4⟩, ⟨h5, h6⟩, _⟩ := T8.facts; have B8 := T8.below; clear D6 e0 e1 e2 d0 d1 d2 d3 d4 d5 d6 d7 d8 d9 d10 C4 T3 T4 T5 T6 Q2)
    | (go_at_call 8; refine D8.mono ?_; rintro e w9 ⟨rfl, b9⟩; clear D8))
  go_ret
  exact ⟨rfl, Below.next B8 b9⟩
end Go.Proofs.YtagpbkcnjogbgaaDoor
