/- The walk of Made. -/
import Derived.Test.YtagpbkcnjogbgabDoorMk2
namespace Go.Proofs.YtagpbkcnjogbgabDoor
open Go.RowKit

theorem open_one {p k : Int} {l es : List Int} {z z' : Int} (h : Fd.OpenIs p k l es z) (h' : Fd.OpenIs p k l es z') : z = z' := by
  by_cases h0 : Fd.FaultIs p k l 0
  · by_cases hi : Fd.inL (Fd.ordZ p k) es
    · rw [Fd.open_in h0 hi h, Fd.open_in h0 hi h']
    · rw [Fd.open_out h0 hi h, Fd.open_out h0 hi h']
  · rcases h with ⟨_, h⟩ | ⟨h, _, _⟩ | ⟨h, _, _⟩
    · rcases h' with ⟨_, h'⟩ | ⟨h', _, _⟩ | ⟨h', _, _⟩
      · exact h.one h'
      · exact absurd h' h0
      · exact absurd h' h0
    · exact absurd h h0
    · exact absurd h h0
theorem fault_some (p k : Int) (l : List Int) : ∃ z, Fd.FaultIs p k l z := by
  unfold Fd.FaultIs
  by_cases h1 : Fd.ordZ p k = 0
  · exact ⟨1, .inl ⟨h1, rfl⟩⟩
  · by_cases h2 : (l.length : Int) = k
    · by_cases h3 : Fd.inL p l
      · by_cases h4 : Fd.irrP (Fd.monL l) k.toNat p.toNat
        · exact ⟨0, .inr (.inr (.inr (.inr ⟨h1, h2, h3, h4, rfl⟩)))⟩
        · exact ⟨4, .inr (.inr (.inr (.inl ⟨h1, h2, h3, h4, rfl⟩)))⟩
      · exact ⟨1, .inr (.inr (.inl ⟨h1, h2, h3, rfl⟩))⟩
    · exact ⟨2, .inr (.inl ⟨h1, h2, rfl⟩)⟩
/-- A field and a square that is nothing yet. -/
structure FdSq (w W : World) (p k : Int) (v : Value) : Prop where
  field : Fd.FB W w.heap.size p k v
  square : W.heap[w.heap.size + 1]? = some (.cells #[.int .i64 0, .slice none 0 0] 27 (0, 0))
  below : Below w.heap.size w W
theorem fd_sq (w : World) (p k : Int) (v : Value) : FdSq w ((w.alloc (.cells #[.int .i64 p, .int .i64 k, v] 24)).alloc (.cells #[.int .i64 0, .slice none 0 0] 27)) p k v := by
  refine ⟨(Fd.FB.made w p k v).below (balloc _ _), ?_, Below.next (balloc _ _) (balloc _ _)⟩
  have := heap_alloc_new (w.alloc (.cells #[.int .i64 p, .int .i64 k, v] 24)) (.cells #[.int .i64 0, .slice none 0 0] 27)
  simpa using this
theorem FdSq.next {w W W' : World} {p k : Int} {v : Value} (h : FdSq w W p k v) (b : Below W.heap.size W W') : FdSq w W' p k v :=
  ⟨h.field.below b, (b.block _ (Array.getElem?_eq_some_iff.1 h.square).1).trans h.square, Below.next h.below b⟩
theorem FdSq.facts {w W : World} {p k : Int} {v : Value} (h : FdSq w W p k v) : (W.cell? ⟨w.heap.size, 0, none⟩ = some (.int .i64 p) ∧ W.cell? ⟨w.heap.size, 1, none⟩ = some (.int .i64 k) ∧ W.cell? ⟨w.heap.size, 2, none⟩ = some v) ∧ W.cell? ⟨w.heap.size + 1, 0, none⟩ = some (.int .i64 0) ∧ W.cell? ⟨w.heap.size + 1, 1, none⟩ = some (.slice none 0 0) ∧ W.frozen? ⟨w.heap.size + 1, 0, none⟩ = false ∧ W.frozen? ⟨w.heap.size + 1, 1, none⟩ = false :=
  ⟨h.field.cells, by rw [cell_of_row _ _ _ _ _ _ h.square]; rfl, by rw [cell_of_row _ _ _ _ _ _ h.square]; rfl, frozen_of_row W _ 0 _ _ h.square, frozen_of_row W _ 1 _ _ h.square⟩

set_option maxHeartbeats 4000000 in
theorem Made_bad (p k a z : Int) (l : List Int) (v : Value) (w : World) (hT : Fd.Tab w) (hl : Sl w v l) (hll : l.length ≤ maxLen) (hz : z ≠ 0) (hO : Fd.OpenIs p k l [a, 0] z) :
    Calls Tryd.prog 6 #[.agg #[.int .i64 p, .int .i64 k, v], .int .i64 a] w fun e w' => e = .returned (.tuple #[.agg #[.int .i64 0, .slice none 0 0], .int .i64 z]) ∧ Below w.heap.size w w' := by
  obtain ⟨va, vc, ev, _⟩ := id hl
  subst ev
  have F0 := fd_sq w p k (.slice va l.length vc)
  have C0 := Fd.Mul_any p k a 0 l (.slice va l.length vc) _ (hT.below F0.below) (Sl.below hl F0.below) hll
  have C : Hid (Calls Tryd.prog 13 #[.agg #[.int .i64 p, .int .i64 k, .slice va l.length vc], .int .i64 a, .int .i64 0] ((w.alloc (.cells #[.int .i64 p, .int .i64 k, .slice va l.length vc] 24)).alloc (.cells #[.int .i64 0, .slice none 0 0] 27)) fun e w' => e = .returned (.tuple #[.int .i64 0, .int .i64 z]) ∧ FdSq w w' p k (.slice va l.length vc)) := C0.mono fun e w' ⟨s, z', h1, h2, h3, _, h5⟩ => by
    obtain rfl := open_one h2 hO
    rw [h3.out hz] at h1
    exact ⟨h1, F0.next h5⟩
  obtain ⟨⟨c0, c1, c2⟩, d0, d1, _, _⟩ := F0.facts
  have hzb : (z != 0) = true := by simpa using hz
  clear C0 hT hl hll hO F0 hz
  go_enter Tryd.func6, Tryd.ntmps6
  go_wp2_with (go_at_call 13; refine C.out.mono ?_; rintro e w1 ⟨rfl, F1⟩; obtain ⟨⟨x0, x1, x2⟩, y0, y1, g0, g1⟩ := F1.facts)
  have hn1 := heap_setCell_same w1 (w.heap.size + 1) 0 _ _ (.int .i64 0) F1.square
  have hn2 := heap_setCell_same _ (w.heap.size + 1) 1 _ _ (.slice none 0 0) hn1
  exact post_sq2 4 5 Tryd.results6 rfl hn2 rfl rfl ⟨rfl, (F1.below.setCell (by show w.heap.size ≤ w.heap.size + 1; omega) _).setCell (by show w.heap.size ≤ w.heap.size + 1; omega) _⟩
set_option maxHeartbeats 4000000 in
theorem Made_zero (P K : Nat) (l : List Int) (v : Value) (w : World) (hT : Fd.Tab w) (hl : Sl w v l) (hG : Fd.GoodF P K l) :
    Calls Tryd.prog 6 #[.agg #[.int .i64 P, .int .i64 K, v], .int .i64 0] w fun e w' => e = .returned (.tuple #[.agg #[.int .i64 0, .slice none 0 0], .int .i64 1]) ∧ Below w.heap.size w w' := by
  have hll : l.length ≤ maxLen := by rw [hG.len]; have := hG.le6; unfold maxLen; omega
  have h2 := two_le hG
  obtain ⟨va, vc, ev, _⟩ := id hl
  subst ev
  have F0 := fd_sq w P K (.slice va l.length vc)
  obtain ⟨m, Hm⟩ : ∃ m, Hid (m = Fd.mulQ P K (Fd.monL l) 0 0) := ⟨_, (rfl : _ = Fd.mulQ P K (Fd.monL l) 0 0)⟩
  have C0 := Fd.MulG P K 0 0 l (.slice va l.length vc) _ (hT.below F0.below) (Sl.below hl F0.below) hll hG (by omega) (by omega) m Hm
  have C : Hid (Calls Tryd.prog 13 #[.agg #[.int .i64 (P : Int), .int .i64 (K : Int), .slice va l.length vc], .int .i64 0, .int .i64 0] ((w.alloc (.cells #[.int .i64 (P : Int), .int .i64 (K : Int), .slice va l.length vc] 24)).alloc (.cells #[.int .i64 0, .slice none 0 0] 27)) fun e w' => e = .returned (.tuple #[.int .i64 (m : Int), .int .i64 0]) ∧ FdSq w w' P K (.slice va l.length vc)) := C0.mono fun e w' ⟨h1, h5⟩ => ⟨h1, F0.next h5⟩
  obtain ⟨⟨c0, c1, c2⟩, d0, d1, _, _⟩ := F0.facts
  clear C0 hT hl hll F0 hG h2
  go_enter Tryd.func6, Tryd.ntmps6
  go_wp2_with (go_at_call 13; refine C.out.mono ?_; rintro e w1 ⟨rfl, F1⟩; obtain ⟨⟨x0, x1, x2⟩, y0, y1, g0, g1⟩ := F1.facts)
  have hn1 := heap_setCell_same w1 (w.heap.size + 1) 0 _ _ (.int .i64 0) F1.square
  have hn2 := heap_setCell_same _ (w.heap.size + 1) 1 _ _ (.slice none 0 0) hn1
  exact post_sq2 4 5 Tryd.results6 rfl hn2 rfl rfl ⟨rfl, (F1.below.setCell (by show w.heap.size ≤ w.heap.size + 1; omega) _).setCell (by show w.heap.size ≤ w.heap.size + 1; omega) _⟩
set_option maxHeartbeats 4000000 in
theorem Made_full (P K a : Nat) (l : List Int) (v : Value) (w : World) (hT : Fd.Tab w) (hl : Sl w v l) (hG : Fd.GoodF P K l) (ha : 1 ≤ a) (haq : a < P ^ K) (h8 : 8 < P ^ K) :
    Calls Tryd.prog 6 #[.agg #[.int .i64 P, .int .i64 K, v], .int .i64 a] w fun e w' => e = .returned (.tuple #[.agg #[.int .i64 0, .slice none 0 0], .int .i64 3]) ∧ Below w.heap.size w w' := by
  have hll : l.length ≤ maxLen := by rw [hG.len]; have := hG.le6; unfold maxLen; omega
  have h2 := two_le hG
  obtain ⟨va, vc, ev, _⟩ := id hl
  subst ev
  have F0 := fd_sq w P K (.slice va l.length vc)
  obtain ⟨m, Hm⟩ : ∃ m, Hid (m = Fd.mulQ P K (Fd.monL l) a 0) := ⟨_, (rfl : _ = Fd.mulQ P K (Fd.monL l) a 0)⟩
  have C0 := Fd.MulG P K a 0 l (.slice va l.length vc) _ (hT.below F0.below) (Sl.below hl F0.below) hll hG haq (by omega) m Hm
  have C : Hid (Calls Tryd.prog 13 #[.agg #[.int .i64 (P : Int), .int .i64 (K : Int), .slice va l.length vc], .int .i64 (a : Int), .int .i64 0] ((w.alloc (.cells #[.int .i64 (P : Int), .int .i64 (K : Int), .slice va l.length vc] 24)).alloc (.cells #[.int .i64 0, .slice none 0 0] 27)) fun e w' => e = .returned (.tuple #[.int .i64 (m : Int), .int .i64 0]) ∧ FdSq w w' P K (.slice va l.length vc)) := C0.mono fun e w' ⟨h1, h5⟩ => ⟨h1, F0.next h5⟩
  have C2 := fun W => order_any P K va l.length vc W hG.field.two hG.le61 hG.le6 hG.le64
  have h64 := hG.le64
  obtain ⟨q, Hq⟩ : ∃ q, Hid (P ^ K = q) := ⟨_, rfl⟩
  rw [Hq.out] at h8 h64 C2
  obtain ⟨⟨c0, c1, c2⟩, d0, d1, _, _⟩ := F0.facts
  have hab : ((a : Int) == 0) = false := by simp; omega
  have hd : decide ((8 : Int) < (q : Int)) = true := by simp; omega
  clear C0 hT hl hll F0 hG h2 haq
  go_enter Tryd.func6, Tryd.ntmps6
  go_wp2_with (first
    | (go_at_call 13; refine C.out.mono ?_; rintro e w1 ⟨rfl, F1⟩; obtain ⟨⟨x0, x1, x2⟩, _⟩ := F1.facts; clear C)
    | (go_at_call 14; refine (C2 _).mono ?_; rintro e w2 ⟨rfl, b2⟩; have F2 := F1.next b2; obtain ⟨⟨z0, z1, z2⟩, y0, y1, g0, g1⟩ := F2.facts; clear C2))
  have hn1 := heap_setCell_same w2 (w.heap.size + 1) 0 _ _ (.int .i64 0) F2.square
  have hn2 := heap_setCell_same _ (w.heap.size + 1) 1 _ _ (.slice none 0 0) hn1
  exact post_sq2 4 5 Tryd.results6 rfl hn2 rfl rfl ⟨rfl, (F2.below.setCell (by show w.heap.size ≤ w.heap.size + 1; omega) _).setCell (by show w.heap.size ≤ w.heap.size + 1; omega) _⟩
set_option maxHeartbeats 4000000 in
theorem Made_ok (P K a : Nat) (l : List Int) (v : Value) (w : World) (hT : Fd.Tab w) (hl : Sl w v l) (hG : Fd.GoodF P K l) (ha : 1 ≤ a) (haq : a < P ^ K) (h8 : P ^ K ≤ 8) :
    Calls Tryd.prog 6 #[.agg #[.int .i64 P, .int .i64 K, v], .int .i64 a] w fun e w' => (∃ y, e = .returned (.tuple #[.agg #[.int .i64 ((P ^ K : Nat) : Int), y], .int .i64 0]) ∧ w'.ownsRow w.heap.size 3 1 y (P ^ K * P ^ K) (vn (madeL P K l a))) ∧ Below w.heap.size w w' := by
  have hll : l.length ≤ maxLen := by rw [hG.len]; have := hG.le6; unfold maxLen; omega
  have h2 := two_le hG
  obtain ⟨va, vc, ev, _⟩ := id hl
  subst ev
  have F0 := fd_sq w P K (.slice va l.length vc)
  obtain ⟨m, Hm⟩ : ∃ m, Hid (m = Fd.mulQ P K (Fd.monL l) a 0) := ⟨_, (rfl : _ = Fd.mulQ P K (Fd.monL l) a 0)⟩
  have C0 := Fd.MulG P K a 0 l (.slice va l.length vc) _ (hT.below F0.below) (Sl.below hl F0.below) hll hG haq (by omega) m Hm
  have C : Hid (Calls Tryd.prog 13 #[.agg #[.int .i64 (P : Int), .int .i64 (K : Int), .slice va l.length vc], .int .i64 (a : Int), .int .i64 0] ((w.alloc (.cells #[.int .i64 (P : Int), .int .i64 (K : Int), .slice va l.length vc] 24)).alloc (.cells #[.int .i64 0, .slice none 0 0] 27)) fun e w' => e = .returned (.tuple #[.int .i64 (m : Int), .int .i64 0]) ∧ FdSq w w' P K (.slice va l.length vc)) := C0.mono fun e w' ⟨h1, h5⟩ => ⟨h1, F0.next h5⟩
  have C2 := fun W => order_any P K va l.length vc W hG.field.two hG.le61 hG.le6 hG.le64
  have C3 : Hid (∀ W, Below w.heap.size w W → Calls Tryd.prog 15 #[.agg #[.int .i64 (P : Int), .int .i64 (K : Int), .slice va l.length vc], .int .i64 (a : Int)] W fun e w' => (∃ y, e = .returned (.agg #[.int .i64 ((P ^ K : Nat) : Int), y]) ∧ w'.ownsRow W.heap.size 3 1 y (P ^ K * P ^ K) (vn (madeL P K l a))) ∧ Below W.heap.size W w') := fun W bW => made_any P K a l _ W (hT.below bW) (Sl.below hl bW) hG haq h8
  obtain ⟨q, Hq⟩ : ∃ q, Hid (P ^ K = q) := ⟨_, rfl⟩
  obtain ⟨L, HL⟩ : ∃ L, Hid (vn (madeL P K l a) = L) := ⟨_, rfl⟩
  rw [Hq.out] at h8 C2
  rw [Hq.out, HL.out] at C3 ⊢
  obtain ⟨⟨c0, c1, c2⟩, d0, d1, _, _⟩ := F0.facts
  have hab : ((a : Int) == 0) = false := by simp; omega
  have hd : decide ((8 : Int) < (q : Int)) = false := by simp; omega
  clear C0 hT hl hll F0 hG h2 haq
  go_enter Tryd.func6, Tryd.ntmps6
  go_wp2_with (first
    | (go_at_call 13; refine C.out.mono ?_; rintro e w1 ⟨rfl, F1⟩; obtain ⟨⟨x0, x1, x2⟩, _⟩ := F1.facts; clear C)
    | (go_at_call 14; refine (C2 _).mono ?_; rintro e w2 ⟨rfl, b2⟩; have F2 := F1.next b2; obtain ⟨⟨z0, z1, z2⟩, _⟩ := F2.facts; have D := C3.out _ F2.below; clear C2)
    | (go_at_call 15; refine D.mono ?_; rintro e w3 ⟨⟨y, rfl, hY⟩, b3⟩; have F3 := F2.next b3; obtain ⟨og, ol, oc, rfl⟩ := own_slice hY; obtain ⟨_, y0, y1, g0, g1⟩ := F3.facts; clear D))
  have hn1 := heap_setCell_same w3 (w.heap.size + 1) 0 _ _ (.int .i64 (q : Int)) F3.square
  have hn2 := heap_setCell_same _ (w.heap.size + 1) 1 _ _ (.slice og ol oc) hn1
  have hY2 := orow_other (orow_other (orow_base (base' := w.heap.size) hY F2.below.size) ⟨w.heap.size + 1, 0, none⟩ (.int .i64 (q : Int)) (own_diff hY F3.square)) ⟨w.heap.size + 1, 1, none⟩ (.slice og ol oc) (own_diff hY F3.square)
  exact post_sq2 4 5 Tryd.results6 rfl hn2 rfl rfl ⟨⟨_, rfl, hY2⟩, (F3.below.setCell (by show w.heap.size ≤ w.heap.size + 1; omega) _).setCell (by show w.heap.size ≤ w.heap.size + 1; omega) _⟩
end Go.Proofs.YtagpbkcnjogbgabDoor
