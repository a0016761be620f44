/- The walk of the document's MadeOf, of a field and an element that are. -/
import Derived.Test.YtagpbkcnjogbgaaDoorMk3
import Derived.Test.YtagpbkcnjogbgaaDoorMk4
/- The walk of the document's MadeOf. -/
namespace Go.Proofs.YtagpbkcnjogbgaaDoor
open Go.RowKit

theorem own_box3 {w : World} {base n g : Nat} {t : TypeId} {v : Value} {xs : List Value} {cs : Array Value} (h : w.ownsRow base 3 1 v n xs) (hg : w.heap[g]? = some (.cells cs t (0, 0))) (hne : 3 ≠ t) : v.ownBlock ≠ some g := by
  obtain ⟨_, ⟨rfl, _⟩ | ⟨g', cap, cur, rfl, _, h7, _⟩⟩ := h
  · intro e; cases e
  · intro e2
    obtain rfl : g' = g := by simpa [Value.ownBlock] using e2
    rw [hg] at h7
    simp only [Option.some.injEq, Obj.cells.injEq] at h7
    exact hne h7.2.1.symm
theorem FdSq.lt {w W : World} {p k : Int} {v : Value} (h : FdSq w W p k v) : w.heap.size + 1 < W.heap.size := (Array.getElem?_eq_some_iff.1 h.square).1
theorem FdSq.grown {w W W' : World} {p k : Int} {v o : Value} {n : Nat} {xs : List Value} (h : FdSq w W p k v) (hO : W.ownsRow w.heap.size 3 1 o n xs) (hg : W.grownBy W' o.ownBlock) : FdSq w W' p k v := by
  have hl := h.lt
  refine ⟨(hg.block _ (by omega) (fun e => own_box3 hO h.field (by decide) e.symm)).trans h.field, (hg.block _ hl (fun e => own_box3 hO h.square (by decide) e.symm)).trans h.square, h.below.grown hg h.below.size (fun j hj => ?_)⟩
  obtain ⟨_, ⟨rfl, _⟩ | ⟨g', cap, cur, rfl, h8, _⟩⟩ := id hO
  · cases hj
  · obtain rfl : g' = j := by simpa [Value.ownBlock] using hj
    exact h8
theorem FdSq.set {w W : World} {p k : Int} {v u : Value} {B i : Nat} (h : FdSq w W p k v) (hB : w.heap.size + 1 < B) : FdSq w (W.setCell ⟨B, i, none⟩ u) p k v :=
  ⟨(heap_setCell_other W ⟨B, i, none⟩ w.heap.size u (by show w.heap.size ≠ B; omega)).trans h.field, (heap_setCell_other W ⟨B, i, none⟩ (w.heap.size + 1) u (by show w.heap.size + 1 ≠ B; omega)).trans h.square, h.below.setCell (by show w.heap.size ≤ B; omega) _⟩

set_option maxHeartbeats 4000000 in
theorem MadeOf_bad (p k a z : Int) (l : List Int) (v : Value) (w : World) (hl : Sl w v l) (hz : z ≠ 0) (hO : Fd.FaultIs p k l z) :
    Calls Tryd.prog 13 #[.agg #[.int .i64 p, .int .i64 k, v], .int .i64 a] w fun e w' => e = .returned (.tuple #[.agg #[.int .i64 0, .slice none 0 0], .int .i64 z]) ∧ Below w.heap.size w w' := by
  obtain ⟨va, vc, ev, _⟩ := id hl
  subst ev
  have F0 := fd_sq w p k (.slice va l.length vc)
  have C0 := Fd.fault_any p k l (.slice va l.length vc) _ (Sl.below hl F0.below)
  have C : Hid (Calls Tryd.prog 26 #[.agg #[.int .i64 p, .int .i64 k, .slice va l.length vc]] ((w.alloc (.cells #[.int .i64 p, .int .i64 k, .slice va l.length vc] 33)).alloc (.cells #[.int .i64 0, .slice none 0 0] 24)) fun e w' => e = .returned (.int .i64 z) ∧ FdSq w w' p k (.slice va l.length vc)) := C0.mono fun e w' ⟨z', h1, h2, h5⟩ => by
    obtain rfl := h2.one hO
    exact ⟨h1, F0.next h5⟩
  obtain ⟨⟨c0, c1, c2⟩, d0, d1, _, _⟩ := F0.facts
  have hzb : (z != 0) = true := by simpa using hz
  clear C0 hl hO F0 hz
  go_enter Tryd.func13, Tryd.ntmps13
  go_wp2_with (go_at_call 26; refine C.out.mono ?_; rintro e w1 ⟨rfl, F1⟩; obtain ⟨⟨x0, x1, x2⟩, y0, y1, g0, g1⟩ := F1.facts)
  have hn1 := heap_setCell_same w1 (w.heap.size + 1) 0 _ _ (.int .i64 0) F1.square
  have hn2 := heap_setCell_same _ (w.heap.size + 1) 1 _ _ (.slice none 0 0) hn1
  exact post_sq2 4 5 Tryd.results13 rfl hn2 rfl rfl ⟨rfl, (F1.below.setCell (by show w.heap.size ≤ w.heap.size + 1; omega) _).setCell (by show w.heap.size ≤ w.heap.size + 1; omega) _⟩
theorem fault_good (P K : Nat) (l : List Int) (v : Value) (w W : World) (hG : Fd.GoodF P K l) (hl : Sl W v l) (F : FdSq w W P K v) : Calls Tryd.prog 26 #[.agg #[.int .i64 (P : Int), .int .i64 (K : Int), v]] W fun e w' => e = .returned (.int .i64 0) ∧ FdSq w w' P K v :=
  (Fd.fault_any P K l v W hl).mono fun e w' ⟨z', h1, h2, h5⟩ => by
    obtain rfl := h2.one hG.fault
    exact ⟨h1, F.next h5⟩
theorem size_good (P K : Nat) (l : List Int) (v : Value) (w W : World) (hG : Fd.GoodF P K l) (F : FdSq w W P K v) : Calls Tryd.prog 27 #[.agg #[.int .i64 (P : Int), .int .i64 (K : Int), v]] W fun e w' => e = .returned (.int .i64 ((P ^ K : Nat) : Int)) ∧ FdSq w w' P K v :=
  (Fd.size_any P K v W).mono fun e w' ⟨h1, h5⟩ => by
    rw [hG.ord] at h1
    exact ⟨h1, F.next h5⟩
set_option maxHeartbeats 4000000 in
theorem MadeOf_far (P K : Nat) (a : Int) (l : List Int) (v : Value) (w : World) (hl : Sl w v l) (hG : Fd.GoodF P K l) (ha : a < 1 ∨ ((P ^ K : Nat) : Int) ≤ a) :
    Calls Tryd.prog 13 #[.agg #[.int .i64 P, .int .i64 K, v], .int .i64 a] w fun e w' => e = .returned (.tuple #[.agg #[.int .i64 0, .slice none 0 0], .int .i64 1]) ∧ Below w.heap.size w w' := by
  obtain ⟨va, vc, ev, _⟩ := id hl
  subst ev
  have F0 := fd_sq w P K (.slice va l.length vc)
  have C := fault_good P K l _ w _ hG (Sl.below hl F0.below) F0
  have C2 : Hid (∀ W, FdSq w W P K (.slice va l.length vc) → Calls Tryd.prog 27 #[.agg #[.int .i64 (P : Int), .int .i64 (K : Int), .slice va l.length vc]] W fun e w' => e = .returned (.int .i64 ((P ^ K : Nat) : Int)) ∧ FdSq w w' P K (.slice va l.length vc)) := fun W F => size_good P K l _ w W hG F
  obtain ⟨q, Hq⟩ : ∃ q, Hid (P ^ K = q) := ⟨_, rfl⟩
  rw [Hq.out] at ha C2
  obtain ⟨⟨c0, c1, c2⟩, d0, d1, _, _⟩ := F0.facts
  clear hl F0 hG
  by_cases h1 : a < 1
  · have hd : decide (a < 1) = true := decide_eq_true h1
    clear ha h1
    go_enter Tryd.func13, Tryd.ntmps13
    go_wp2_with (first
      | (go_at_call 26; refine C.mono ?_; rintro e w1 ⟨rfl, F1⟩; obtain ⟨⟨x0, x1, x2⟩, _⟩ := F1.facts; clear C)
      | (go_at_call 27; refine (C2.out _ F1).mono ?_; rintro e w2 ⟨rfl, F2⟩; obtain ⟨⟨z0, z1, z2⟩, y0, y1, g0, g1⟩ := F2.facts; clear C2))
    have hn1 := heap_setCell_same w2 (w.heap.size + 1) 0 _ _ (.int .i64 0) F2.square
    have hn2 := heap_setCell_same _ (w.heap.size + 1) 1 _ _ (.slice none 0 0) hn1
    exact post_sq2 4 5 Tryd.results13 rfl hn2 rfl rfl ⟨rfl, (F2.below.setCell (by show w.heap.size ≤ w.heap.size + 1; omega) _).setCell (by show w.heap.size ≤ w.heap.size + 1; omega) _⟩
  · have hd : decide (a < 1) = false := decide_eq_false h1
    have h2 : (q : Int) ≤ a := ha.resolve_left h1
    have hd2 : decide ((q : Int) ≤ a) = true := decide_eq_true h2
    clear ha h1
    go_enter Tryd.func13, Tryd.ntmps13
    go_wp2_with (first
      | (go_at_call 26; refine C.mono ?_; rintro e w1 ⟨rfl, F1⟩; obtain ⟨⟨x0, x1, x2⟩, _⟩ := F1.facts; clear C)
      | (go_at_call 27; refine (C2.out _ F1).mono ?_; rintro e w2 ⟨rfl, F2⟩; obtain ⟨⟨z0, z1, z2⟩, y0, y1, g0, g1⟩ := F2.facts; clear C2))
    have hn1 := heap_setCell_same w2 (w.heap.size + 1) 0 _ _ (.int .i64 0) F2.square
    have hn2 := heap_setCell_same _ (w.heap.size + 1) 1 _ _ (.slice none 0 0) hn1
    exact post_sq2 4 5 Tryd.results13 rfl hn2 rfl rfl ⟨rfl, (F2.below.setCell (by show w.heap.size ≤ w.heap.size + 1; omega) _).setCell (by show w.heap.size ≤ w.heap.size + 1; omega) _⟩
set_option maxHeartbeats 4000000 in
theorem MadeOf_full (P K a : Nat) (l : List Int) (v : Value) (w : World) (hl : Sl w v l) (hG : Fd.GoodF P K l) (ha : 1 ≤ a) (haq : a < P ^ K) (h8 : 8 < P ^ K) :
    Calls Tryd.prog 13 #[.agg #[.int .i64 P, .int .i64 K, v], .int .i64 a] w fun e w' => e = .returned (.tuple #[.agg #[.int .i64 0, .slice none 0 0], .int .i64 3]) ∧ Below w.heap.size w w' := by
  obtain ⟨va, vc, ev, _⟩ := id hl
  subst ev
  have F0 := fd_sq w P K (.slice va l.length vc)
  have C := fault_good P K l _ w _ hG (Sl.below hl F0.below) F0
  have C2 : Hid (∀ W, FdSq w W P K (.slice va l.length vc) → Calls Tryd.prog 27 #[.agg #[.int .i64 (P : Int), .int .i64 (K : Int), .slice va l.length vc]] W fun e w' => e = .returned (.int .i64 ((P ^ K : Nat) : Int)) ∧ FdSq w w' P K (.slice va l.length vc)) := fun W F => size_good P K l _ w W hG F
  have h64 := hG.le64
  obtain ⟨q, Hq⟩ : ∃ q, Hid (P ^ K = q) := ⟨_, rfl⟩
  rw [Hq.out] at haq h8 C2 h64
  obtain ⟨⟨c0, c1, c2⟩, d0, d1, _, _⟩ := F0.facts
  have hd : decide ((a : Int) < 1) = false := decide_eq_false (by omega)
  have hd2 : decide ((q : Int) ≤ (a : Int)) = false := decide_eq_false (by omega)
  have hd3 : decide ((8 : Int) < (q : Int)) = true := decide_eq_true (by omega)
  clear hl F0 hG
  go_enter Tryd.func13, Tryd.ntmps13
  go_wp2_with (first
    | (go_at_call 26; refine C.mono ?_; rintro e w1 ⟨rfl, F1⟩; obtain ⟨⟨x0, x1, x2⟩, _⟩ := F1.facts; clear C)
    | (go_at_call 27; refine (C2.out _ F1).mono ?_; rintro e w2 ⟨rfl, F2⟩; obtain ⟨⟨z0, z1, z2⟩, y0, y1, g0, g1⟩ := F2.facts; clear C2))
  have hn1 := heap_setCell_same w2 (w.heap.size + 1) 0 _ _ (.int .i64 0) F2.square
  have hn2 := heap_setCell_same _ (w.heap.size + 1) 1 _ _ (.slice none 0 0) hn1
  exact post_sq2 4 5 Tryd.results13 rfl hn2 rfl rfl ⟨rfl, (F2.below.setCell (by show w.heap.size ≤ w.heap.size + 1; omega) _).setCell (by show w.heap.size ≤ w.heap.size + 1; omega) _⟩
end Go.Proofs.YtagpbkcnjogbgaaDoor

namespace Go.Proofs.YtagpbkcnjogbgaaDoor
open Go.RowKit

set_option maxRecDepth 100000 in
set_option maxHeartbeats 8000000 in
theorem MadeOf_ok (P K a : Nat) (l : List Int) (v : Value) (w : World) (hl : Sl w v l) (hG : Fd.GoodF P K l) (ha : 1 ≤ a) (haq : a < P ^ K) (h8 : P ^ K ≤ 8) :
    Calls Tryd.prog 13 #[.agg #[.int .i64 P, .int .i64 K, v], .int .i64 a] w fun e w' => (∃ y, e = .returned (.tuple #[.agg #[.int .i64 ((P ^ K : Nat) : Int), y], .int .i64 0]) ∧ w'.ownsRow w.heap.size 3 1 y (P ^ K * P ^ K) (vn (madeL P K l a))) ∧ Below w.heap.size w w' := by
  obtain ⟨i3, ti, tz0, tz1, tz2⟩ := info3
  have HI3 : Hid (Tryd.prog.info? 3 = some i3 ∧ i3.zero = some (.int .i64 0) ∧ i3.size = 1 ∧ i3.bytes = 8) := ⟨ti, tz0, tz1, tz2⟩
  clear ti tz0 tz1 tz2
  obtain ⟨va, vc, ev, _⟩ := id hl
  subst ev
  have F0 := fd_sq w P K (.slice va l.length vc)
  have C := fault_good P K l _ w _ hG (Sl.below hl F0.below) F0
  have C2 : Hid (∀ W, FdSq w W P K (.slice va l.length vc) → Calls Tryd.prog 27 #[.agg #[.int .i64 (P : Int), .int .i64 (K : Int), .slice va l.length vc]] W fun e w' => e = .returned (.int .i64 ((P ^ K : Nat) : Int)) ∧ FdSq w w' P K (.slice va l.length vc)) := fun W F => size_good P K l _ w W hG F
  have C3 : Hid (∀ W i, Below w.heap.size w W → i < P ^ K → Calls Tryd.prog 28 #[.agg #[.int .i64 (P : Int), .int .i64 (K : Int), .slice va l.length vc], .int .i64 (a : Int), .int .i64 (i : Int)] W fun e w' => e = .returned (.int .i64 (Fd.mulQ P K (Fd.monL l) a i : Int)) ∧ Below W.heap.size W w') := fun W i bW hi => Fd.TimesG P K a i l _ W (Sl.below hl bW) hG haq hi
  have C4 : Hid (∀ W m j, Below w.heap.size w W → m < P ^ K → j < P ^ K → Calls Tryd.prog 29 #[.agg #[.int .i64 (P : Int), .int .i64 (K : Int), .slice va l.length vc], .int .i64 (m : Int), .int .i64 (j : Int)] W fun e w' => e = .returned (.int .i64 (Fd.addQ P K m j : Int)) ∧ Below W.heap.size W w') := fun W m j bW hm hj => Fd.SumG P K m j l _ W (Sl.below hl bW) hG hm hj
  have HML : Hid (∀ i, Fd.mulQ P K (Fd.monL l) a i < P ^ K) := fun i => Fd.mulQ_lt hG.field.toRing1 a i
  have HAL : Hid (∀ m j, Fd.addQ P K m j < P ^ K) := fun m j => Fd.addQ_lt hG.field.toRing1 m j
  unfold madeL
  obtain ⟨T, HT⟩ : ∃ T : Nat → Nat → Nat, Hid (∀ i j, T i j = Fd.addQ P K (Fd.mulQ P K (Fd.monL l) a i) j) := ⟨sqF P K l a, fun i j => rfl⟩
  have eT : sqF P K l a = T := by funext i j; rw [HT.out]; rfl
  rw [eT]
  have h2 := two_le hG
  obtain ⟨q, Hq⟩ : ∃ q, Hid (P ^ K = q) := ⟨_, rfl⟩
  rw [Hq.out] at haq h8 C2 C3 C4 HML HAL h2 ⊢
  obtain ⟨⟨c0, c1, c2⟩, d0, d1, _, _⟩ := F0.facts
  have hd : decide ((a : Int) < 1) = false := decide_eq_false (by omega)
  have hd2 : decide ((q : Int) ≤ (a : Int)) = false := decide_eq_false (by omega)
  have hd3 : decide ((8 : Int) < (q : Int)) = false := decide_eq_false (by omega)
  have hd2n : decide (q ≤ a) = false := decide_eq_false (by omega)
  have hd3n : decide (8 < q) = false := decide_eq_false (by omega)
  obtain ⟨z, Hz⟩ : ∃ z, Hid (z = q * q) := ⟨_, (rfl : q * q = q * q)⟩
  have hz99 : z ≤ 99 := by rw [Hz.out]; exact Nat.le_trans (Nat.mul_le_mul h8 h8) (by decide)
  rw [← Hz.out]
  clear hl F0 hG eT
  go_enter Tryd.func13, Tryd.ntmps13
  go_wp2_with (first
    | (go_at_call 26; refine C.mono ?_; rintro e w1 ⟨rfl, F1⟩; obtain ⟨⟨x0, x1, x2⟩, _⟩ := F1.facts; clear C)
    | (go_at_call 27; refine (C2.out _ F1).mono ?_; rintro e w2 ⟨rfl, F2⟩; clear C2))
  have F3 := F2.next (balloc w2 (.cells #[.int .i64 (q : Int), .slice none 0 0] 24))
  have hBn := heap_alloc_new w2 (.cells #[.int .i64 (q : Int), .slice none 0 0] 24)
  obtain ⟨B, HB⟩ : ∃ B, Hid (w2.heap.size = B) := ⟨_, rfl⟩
  have hsB : w.heap.size + 1 < B := by rw [← HB.out]; exact F2.lt
  rw [HB.out] at hBn ⊢
  go_loopw [9] (fun i_ wr => ∃ (i k : Nat) (o : Value), i_ = .int .i64 (i : Int) ∧ i ≤ q ∧ Hid (k = i * q) ∧ FdSq w wr P K (.slice va l.length vc) ∧ wr.heap[B]? = some (.cells #[.int .i64 (q : Int), o] 24 (0, 0)) ∧ wr.ownsRow w.heap.size 3 1 o k (vn (flN q T k))) (fun i _ => (q - intOf i).toNat)
  case atStart => exact ⟨0, 0, .slice none 0 0, rfl, by omega, (by omega : 0 = 0 * q), F3, hBn, World.ownsRow_nil _ _ _ _⟩
  case round =>
    clear F3 hBn
    obtain ⟨i, k, o, rfl, hi, Hk, F, hO, hW⟩ := hrel
    obtain ⟨⟨z0, z1, z2⟩, _⟩ := F.facts
    by_cases hlt : i < q
    · have hdi : decide ((i : Int) < (q : Int)) = true := by simp; omega
      have D3 := C3.out wr i F.below hlt
      obtain ⟨m, Hm⟩ : ∃ m, Hid (Fd.mulQ P K (Fd.monL l) a i = m) := ⟨_, rfl⟩
      have hmq : m < q := by rw [← Hm.out]; exact HML.out i
      rw [Hm.out] at D3
      have hlB : B < wr.heap.size := (Array.getElem?_eq_some_iff.1 hO).1
      go_wp2_with (go_at_call 28; refine D3.mono ?_; rintro e w4 ⟨rfl, b4⟩; have F4 := F.next b4; have hO4 := (b4.block B hlB).trans hO; have hW4 := orow_below hW b4; clear D3)
      go_loopw [11] (fun j_ wr => ∃ (j k : Nat) (o : Value), j_ = .int .i64 (j : Int) ∧ j ≤ q ∧ Hid (k = i * q + j) ∧ FdSq w wr P K (.slice va l.length vc) ∧ wr.heap[B]? = some (.cells #[.int .i64 (q : Int), o] 24 (0, 0)) ∧ wr.ownsRow w.heap.size 3 1 o k (vn (flN q T k))) (fun i _ => (q - intOf i).toNat)
      case atStart => exact ⟨0, k, o, rfl, by omega, Hk, F4, hO4, hW4⟩
      case round =>
        clear F4 hO4 hW4 F hO hW Hk z0 z1 z2 hlB b4
        obtain ⟨j, k, o, rfl, hj, Hk, F, hO, hW⟩ := hrel
        obtain ⟨⟨z0, z1, z2⟩, _⟩ := F.facts
        by_cases hlj : j < q
        · have hdj : decide ((j : Int) < (q : Int)) = true := by simp; omega
          have D4 := C4.out wr m j F.below hmq hlj
          obtain ⟨x, Hx⟩ : ∃ x, Hid (Fd.addQ P K m j = x) := ⟨_, rfl⟩
          have hxq : x < q := by rw [← Hx.out]; exact HAL.out m j
          rw [Hx.out] at D4
          have HFL : Hid (vn (flN q T (k + 1)) = vn (flN q T k) ++ [.int .i64 (x : Int)]) := by
            show _ = _
            rw [Hk.out, flN_succ T hlj, HT.out, Hm.out, Hx.out]
          have Hk2 : Hid (k + 1 = i * q + (j + 1)) := by show _ = _; rw [Hk.out]; omega
          have hk99 : k ≤ 99 := by rw [Hk.out]; have := cell_lt hlt hlj; rw [← Hz.out] at this; omega
          obtain ⟨fl, Hfl⟩ : ∃ fl, Hid (vn (flN q T k) = fl) := ⟨_, rfl⟩
          rw [Hfl.out] at hW HFL
          have hlB : B < wr.heap.size := (Array.getElem?_eq_some_iff.1 hO).1
          clear Hk
          go_wp2_with (first
            | (go_at_call 29; refine D4.mono ?_; rintro e w5 ⟨rfl, b5⟩; have F5 := F.next b5; have hO5 := (b5.block B hlB).trans hO; have hW5 := orow_below hW b5; have hc5 : w5.cell? ⟨B, 1, none⟩ = some o := (by rw [cell_of_row _ _ _ _ _ _ hO5]; rfl); have hl5 : B < w5.heap.size := Nat.lt_of_lt_of_le hlB b5.size; clear D4)
            | (at_builtin; refine wpList_append_lies _ rfl _ _ 22 rfl w.heap.size 3 i3 (.int .i64 0) 1 8 und22 HI3.out.1 HI3.out.2.1 HI3.out.2.2.1 HI3.out.2.2.2 rfl (by decide) o k fl rfl (hW5.alloc _) ⟨w5.heap.size, 0, none⟩ 1 1 [.int .i64 (x : Int)] rfl rfl (news_one w5 _) (fun u hu => by simp at hu; subst hu; rfl) (by decide) ?c3 ?c4 ?c5 _ rfl ?_)
            | go_in)
          case c3 => unfold maxLen; omega
          case c4 => omega
          case c5 => have := F5.lt; simp; omega
          intro og oc w7 hW7 hg7 _ _
          have F6 := F5.next (balloc w5 (.cells #[.int .i64 (x : Int)] 3))
          have hO6 := ((balloc w5 (.cells #[.int .i64 (x : Int)] 3)).block B hl5).trans hO5
          have F7 := F6.grown (hW5.alloc _) hg7
          have hO7 := (hg7.block B (by simp; omega) (fun e => own_box3 hW5 hO5 (by decide) e.symm)).trans hO6
          have hf7 : w7.frozen? ⟨B, 1, none⟩ = false := frozen_of_row w7 _ 1 _ _ hO7
          have hq7 : w7.cell? ⟨B, 1, none⟩ = some o := by rw [cell_of_row _ _ _ _ _ _ hO7]; rfl
          have hW8 := orow_other hW7 ⟨B, 1, none⟩ (.slice (some ⟨og, 0, none⟩) (k + 1) oc) (own_diff hW7 hO7)
          have hO8 : (w7.setCell ⟨B, 1, none⟩ (.slice (some ⟨og, 0, none⟩) (k + 1) oc)).heap[B]? = some (.cells #[.int .i64 (q : Int), .slice (some ⟨og, 0, none⟩) (k + 1) oc] 24 (0, 0)) := by rw [heap_setCell_same w7 _ 1 _ _ _ hO7]; rfl
          have F8 : FdSq w (w7.setCell ⟨B, 1, none⟩ (.slice (some ⟨og, 0, none⟩) (k + 1) oc)) P K (.slice va l.length vc) := F7.set hsB
          go_wp2
          go_roundw
          case rel => exact ⟨j + 1, k + 1, _, by go_num, by omega, Hk2, F8, hO8, by rw [HFL.out]; exact hW8⟩
          case measure => simp [intOf]; omega
        · have hdj : decide ((j : Int) < (q : Int)) = false := by simp; omega
          have hjq : j = q := by omega
          have Hk2 : Hid (k = (i + 1) * q) := by show _ = _; rw [Hk.out, Nat.add_mul, hjq]; omega
          clear Hk hjq
          go_wp2
          go_roundw
          case rel => exact ⟨i + 1, k, o, by go_num, by omega, Hk2, F, hO, hW⟩
          case measure => simp [intOf]; omega
    · have hdi : decide ((i : Int) < (q : Int)) = false := by simp; omega
      obtain rfl : i = q := by omega
      obtain rfl : k = z := by rw [Hk.out, Hz.out]
      obtain ⟨_, y0, y1, g0, g1⟩ := F.facts
      have a0 : wr.cell? ⟨B, 0, none⟩ = some (.int .i64 (i : Int)) := by rw [cell_of_row _ _ _ _ _ _ hO]; rfl
      have a1 : wr.cell? ⟨B, 1, none⟩ = some o := by rw [cell_of_row _ _ _ _ _ _ hO]; rfl
      obtain ⟨og, ol, oc, rfl⟩ := own_slice hW
      have hn1 := heap_setCell_same wr (w.heap.size + 1) 0 _ _ (.int .i64 (i : Int)) F.square
      have hn2 := heap_setCell_same _ (w.heap.size + 1) 1 _ _ (.slice og ol oc) hn1
      have hW2 := orow_other (orow_other hW ⟨w.heap.size + 1, 0, none⟩ (.int .i64 (i : Int)) (own_diff hW F.square)) ⟨w.heap.size + 1, 1, none⟩ (.slice og ol oc) (own_diff hW F.square)
      go_wp2
      exact post_sq2 4 5 Tryd.results13 rfl hn2 rfl rfl ⟨⟨_, rfl, hW2⟩, (F.below.setCell (by show w.heap.size ≤ w.heap.size + 1; omega) _).setCell (by show w.heap.size ≤ w.heap.size + 1; omega) _⟩
end Go.Proofs.YtagpbkcnjogbgaaDoor
