/- Sets as arrays of truths: the walks of image and list. -/
import Derived.Test.YtjfjdidibglhaabDoorDGo
import Derived.Test.YtjfjdidibglhaabDoorDfP
import Derived.Test.YtjfjdidibglhaabDoorTSo
import Derived.Test.YtjfjdidibglhaabDoorDLw
import Derived.Deep.QuietTactic
import Derived.BigQuiet
import Derived.Test.YtjfjdidibglhaabDoorDOw
import Derived.Test.YtjfjdidibglhaabDoorTIn
import Derived.Laws.OwnMore
import Derived.Deep.MidRow
import Derived.Deep.RegionHeld3
/- What is wrong with a set: the walks of rises, Check and the document's SetFault. -/
namespace Go.Proofs.YtjfjdidibglhaabDoor
open Go.RowKit

/-- Does a list rise? -/
def riB (b : List Int) : Bool := (List.range b.length).all fun j => decide (j = 0 ∨ b.getD (j - 1) 0 < b.getD j 0)
theorem riB_yes {b : List Int} (h : ∀ j, 1 ≤ j → j < b.length → b.getD (j - 1) 0 < b.getD j 0) : riB b = true := by
  unfold riB
  rw [List.all_eq_true]
  intro j hj
  rw [decide_eq_true_eq]
  by_cases e : j = 0
  · exact .inl e
  · exact .inr (h j (by omega) (List.mem_range.1 hj))
theorem riB_no {b : List Int} {j : Nat} (h1 : 1 ≤ j) (hj : j < b.length) (h : b.getD j 0 ≤ b.getD (j - 1) 0) : riB b = false := by
  rw [Bool.eq_false_iff]
  intro k
  have := List.all_eq_true.1 k j (List.mem_range.2 hj)
  rw [decide_eq_true_eq] at this
  omega
theorem bF_riB {p : Int} {b : List Int} (h : ∀ j, j < b.length → 0 ≤ b.getD j 0 ∧ b.getD j 0 < p) : bF p b = if riB b = true then 0 else 2 := bF_in h
/-- What is wrong with a set. -/
def sF (v : Int) (l : List Int) : Nat := if v < 1 ∨ 60 < v then 1 else bF v l
theorem sF_of {v : Nat} {D : List Nat} (h : GoodS v D) : sF (v : Int) (D.map Int.ofNat) = 0 := by
  unfold sF
  have h1 := h.pos
  have h2 := h.le
  rw [if_neg (by omega)]
  have hat : ∀ j, j < D.length → (D.map Int.ofNat).getD j 0 = ((D.getD j 0 : Nat) : Int) := fun j hj => by
    rw [List.getD_eq_getElem?_getD, List.getD_eq_getElem?_getD, List.getElem?_map, List.getElem?_eq_getElem hj]; rfl
  have hD : ∀ j (hj : j < D.length), D.getD j 0 = D[j] := fun j hj => by rw [List.getD_eq_getElem?_getD, List.getElem?_eq_getElem hj]; rfl
  refine bF_ok (fun j hj => ?_) (fun j hj1 hj => ?_)
  · rw [List.length_map] at hj
    rw [hat j hj, hD j hj]
    have := h.lt _ (List.getElem_mem hj)
    omega
  · rw [List.length_map] at hj
    rw [hat j hj, hat (j - 1) (by omega), hD j hj, hD (j - 1) (by omega)]
    have := List.pairwise_iff_getElem.1 h.rise (j - 1) j (by omega) hj (by omega)
    omega
set_option maxRecDepth 100000 in
set_option maxHeartbeats 4000000 in
theorem rises_any (b : List Int) (u : Value) (w : World) (hu : Sl w u b) (hbl : b.length ≤ maxLen) :
    Calls Tryd.prog 97 #[u] w fun e w' => e = .returned (.bool (riB b)) ∧ Below w.heap.size w w' := by
  unfold maxLen at hbl
  obtain ⟨ua, uc, rfl, hub⟩ := hu
  have HUB : Hid (∀ j, j < b.length → ∃ g o, ua = some ⟨g, o, none⟩ ∧ ∀ W, Below w.heap.size w W → W.cell? ⟨g, o + j, none⟩ = some (.int .i64 (b.getD j 0))) := fun j hj => by
    obtain ⟨g, o, e, hc⟩ := hub j hj
    exact ⟨g, o, e, fun W bW => (bW.cell (World.block_lt_of_cell? _ _ hc)).trans hc⟩
  obtain ⟨w1, Hw1⟩ : ∃ w1 : World, Hid (w1 = w) := ⟨_, rfl⟩
  rw [← Hw1.out] at HUB
  obtain ⟨z, HZ⟩ : ∃ z, Hid (riB b = z) := ⟨_, rfl⟩
  rw [HZ.out]
  generalize hbn : b.length = bn at *
  clear hub
  go_enter Tryd.func97, Tryd.ntmps97
  go_wp2
  go_loopw [3] (fun jv wr' => ∃ k : Nat, jv = .int .i64 (k : Int) ∧ 1 ≤ k ∧ (k ≤ bn ∨ k = 1) ∧ Hid (∀ m, 1 ≤ m → m < k → m < bn → b.getD (m - 1) 0 < b.getD m 0) ∧ Below w1.heap.size w1 wr') (fun jv _ => (bn + 1 - intOf jv).toNat)
  case atStart => exact ⟨1, rfl, by omega, .inr rfl, (show ∀ m, 1 ≤ m → m < 1 → _ from fun m h h' => by omega), by rw [Hw1.out]; exact Below.refl _ _⟩
  case round =>
    obtain ⟨k, rfl, hk1, hkj, HK, hB3⟩ := hrel
    by_cases hlk : k < bn
    · have hdk : decide ((k : Int) < (bn : Int)) = true := by simp; omega
      have hki : (k : Int) < (bn : Int) := by omega
      obtain ⟨k', Hk'⟩ : ∃ k', Hid (k = k' + 1) := ⟨k - 1, (by omega : k = k - 1 + 1)⟩
      have hsub : (k : Int) - 1 = (k' : Int) := by have := Hk'.out; omega
      have hk'i : (k' : Int) < (bn : Int) := by have := Hk'.out; omega
      obtain ⟨g, o, rfl, hc0⟩ := HUB.out k hlk
      obtain ⟨g2, o2, e2, hc1⟩ := HUB.out k' (by have := Hk'.out; omega)
      obtain ⟨rfl, rfl⟩ : g = g2 ∧ o = o2 := by
        simp only [Option.some.injEq, Addr.mk.injEq] at e2
        exact ⟨e2.1, e2.2.1⟩
      have hck := hc0 _ hB3
      have hck' := hc1 _ hB3
      obtain ⟨x, Hx⟩ : ∃ x, Hid (x = b.getD k 0) := ⟨_, (rfl : b.getD k 0 = b.getD k 0)⟩
      obtain ⟨y, Hy⟩ : ∃ y, Hid (y = b.getD k' 0) := ⟨_, (rfl : b.getD k' 0 = b.getD k' 0)⟩
      rw [← Hx.out] at hck
      rw [← Hy.out] at hck'
      clear e2 hc0 hc1
      by_cases hle : x ≤ y
      · have hb1 : riB b = false := riB_no hk1 (by omega) (by rw [← Hx.out, show k - 1 = k' by have := Hk'.out; omega, ← Hy.out]; exact hle)
        obtain rfl : z = false := by rw [← HZ.out, hb1]
        have hdx : decide (x ≤ y) = true := decide_eq_true hle
        clear hle hb1
        go_wp2
        go_quiet (fail)
        go_wp2
        go_ret
        exact ⟨rfl, by rw [← Hw1.out]; exact bdrewN hB3 _⟩
      · have hdx : decide (x ≤ y) = false := decide_eq_false hle
        have HK2 : Hid (∀ m, 1 ≤ m → m < k + 1 → m < bn → b.getD (m - 1) 0 < b.getD m 0) := fun m h1 h2 h3 => by
          by_cases e : m = k
          · subst e; rw [show m - 1 = k' by have := Hk'.out; omega, ← Hx.out, ← Hy.out]; omega
          · exact HK.out m h1 (by omega) h3
        clear hle HK
        go_wp2
        go_quiet (fail)
        go_wp2
        go_roundw
        case rel => exact ⟨k + 1, by go_num, by omega, .inl (by omega), HK2, bdrewN hB3 _⟩
        case measure => simp [intOf]; omega
    · have hdk : decide ((k : Int) < (bn : Int)) = false := by simp; omega
      have hb0 : riB b = true := riB_yes (fun m h1 h2 => HK.out m h1 (by omega) (by omega))
      obtain rfl : z = true := by rw [← HZ.out, hb0]
      clear hb0
      go_wp2
      go_ret
      exact ⟨rfl, by rw [← Hw1.out]; exact hB3⟩
set_option maxRecDepth 100000 in
set_option maxHeartbeats 4000000 in
theorem Check_far (p : Int) (u : Value) (w : World) (n c : Nat) (a : Option Addr) (hu : u = .slice a n c) (h : p < 1 ∨ 60 < p) : Calls Tryd.prog 63 #[.int .i64 p, u] w fun e w' => e = .returned (.int .i64 1) ∧ Below w.heap.size w w' := by
  subst hu
  by_cases h1 : p < 1
  · have d1 : decide (p < 1) = true := decide_eq_true h1
    clear h h1
    go_enter Tryd.func63, Tryd.ntmps63
    go_wp2
    go_ret
    exact ⟨rfl, Below.refl _ _⟩
  · have d1 : decide (p < 1) = false := decide_eq_false h1
    have h2 : 60 < p := by omega
    have d2 : decide (60 < p) = true := decide_eq_true h2
    clear h h1 h2
    go_enter Tryd.func63, Tryd.ntmps63
    go_wp2
    go_ret
    exact ⟨rfl, Below.refl _ _⟩
set_option maxRecDepth 100000 in
set_option maxHeartbeats 4000000 in
theorem Check_near (p : Int) (b : List Int) (u : Value) (w : World) (hu : Sl w u b) (hbl : b.length ≤ maxLen) (h1 : 1 ≤ p) (h2 : p ≤ 60) :
    Calls Tryd.prog 63 #[.int .i64 p, u] w fun e w' => e = .returned (.int .i64 (bF p b : Int)) ∧ Below w.heap.size w w' := by
  have HR : Hid (∀ W, Below w.heap.size w W → Calls Tryd.prog 97 #[u] W fun e w' => e = .returned (.bool (riB b)) ∧ Below W.heap.size W w') := fun W bW => rises_any b u W (hu.below bW) hbl
  unfold maxLen at hbl
  obtain ⟨ua, uc, rfl, hub⟩ := hu
  have HUB : Hid (∀ j, j < b.length → ∃ g o, ua = some ⟨g, o, none⟩ ∧ ∀ W, Below w.heap.size w W → W.cell? ⟨g, o + j, none⟩ = some (.int .i64 (b.getD j 0))) := fun j hj => by
    obtain ⟨g, o, e, hc⟩ := hub j hj
    exact ⟨g, o, e, fun W bW => (bW.cell (World.block_lt_of_cell? _ _ hc)).trans hc⟩
  obtain ⟨w1, Hw1⟩ : ∃ w1 : World, Hid (w1 = w) := ⟨_, rfl⟩
  rw [← Hw1.out] at HUB
  rw [← Hw1.out] at HR
  obtain ⟨z, HZ⟩ : ∃ z, Hid (bF p b = z) := ⟨_, rfl⟩
  rw [HZ.out]
  generalize hbn : b.length = bn at *
  have d1 : decide (p < 1) = false := by simp; omega
  have d2 : decide (60 < p) = false := by simp; omega
  clear hub
  go_enter Tryd.func63, Tryd.ntmps63
  go_wp2
  go_loopw [15] (fun jv wr' => ∃ j : Nat, jv = .int .i64 (j : Int) ∧ j ≤ bn ∧ Hid (∀ m, m < j → 0 ≤ b.getD m 0 ∧ b.getD m 0 < p) ∧ Below w1.heap.size w1 wr') (fun jv _ => (bn - intOf jv).toNat)
  case atStart => exact ⟨0, rfl, by omega, (show ∀ m, m < 0 → _ from fun m h => by omega), by rw [Hw1.out]; exact Below.refl _ _⟩
  case round =>
    obtain ⟨j, rfl, hj, HJ, hB2⟩ := hrel
    by_cases hlj : j < bn
    · have hdj : decide ((j : Int) < (bn : Int)) = true := by simp; omega
      have hji : (j : Int) < (bn : Int) := by omega
      obtain ⟨g, o, rfl, hcj0⟩ := HUB.out j hlj
      have hcj := hcj0 _ hB2
      obtain ⟨x, Hx⟩ : ∃ x, Hid (x = b.getD j 0) := ⟨_, (rfl : b.getD j 0 = b.getD j 0)⟩
      rw [← Hx.out] at hcj
      by_cases hneg : x < 0
      · have hb1 : bF p b = 1 := bF_out (j := j) (by omega) (by rw [← Hx.out]; omega)
        obtain rfl : z = 1 := by rw [← HZ.out, hb1]
        have hdx : decide (x < 0) = true := decide_eq_true hneg
        clear hneg hb1 hcj0
        go_wp2
        go_ret
        exact ⟨rfl, by rw [← Hw1.out]; exact hB2⟩
      · have hdx : decide (x < 0) = false := decide_eq_false hneg
        by_cases hge : p ≤ x
        · have hb1 : bF p b = 1 := bF_out (j := j) (by omega) (by rw [← Hx.out]; omega)
          obtain rfl : z = 1 := by rw [← HZ.out, hb1]
          have hdx2 : decide (p ≤ x) = true := decide_eq_true hge
          clear hneg hge hb1 hcj0
          go_wp2
          go_ret
          exact ⟨rfl, by rw [← Hw1.out]; exact hB2⟩
        · have hdx2 : decide (p ≤ x) = false := decide_eq_false hge
          have HJ2 : Hid (∀ m, m < j + 1 → 0 ≤ b.getD m 0 ∧ b.getD m 0 < p) := fun m hm => by
            by_cases e : m = j
            · subst e; rw [← Hx.out]; omega
            · exact HJ.out m (by omega)
          clear hneg hge HJ hcj0
          go_wp2
          go_roundw
          case rel => exact ⟨j + 1, by go_num, by omega, HJ2, hB2⟩
          case measure => simp [intOf]; omega
    · have hdj : decide ((j : Int) < (bn : Int)) = false := by simp; omega
      obtain rfl : j = bn := by omega
      clear hlj
      have hR := HR.out _ hB2
      have hzz : bF p b = if riB b = true then 0 else 2 := bF_riB (by rw [hbn]; exact HJ.out)
      cases hr : riB b
      · rw [hr] at hR hzz
        obtain rfl : z = 2 := by rw [← HZ.out, hzz]; rfl
        clear hr hzz HR HUB
        go_wp2_with (first
          | (go_at_call 97; refine hR.mono ?_; rintro e w2 ⟨rfl, hb⟩; clear hR)
          | go_in)
        go_ret
        exact ⟨rfl, by rw [← Hw1.out]; exact hB2.trans (hb.mono hB2.size)⟩
      · rw [hr] at hR hzz
        obtain rfl : z = 0 := by rw [← HZ.out, hzz]; rfl
        clear hr hzz HR HUB
        go_wp2_with (first
          | (go_at_call 97; refine hR.mono ?_; rintro e w2 ⟨rfl, hb⟩; clear hR)
          | go_in)
        go_ret
        exact ⟨rfl, by rw [← Hw1.out]; exact hB2.trans (hb.mono hB2.size)⟩

theorem CheckS_any (p : Int) (b : List Int) (u : Value) (w : World) (hu : Sl w u b) (hbl : b.length ≤ maxLen) :
    Calls Tryd.prog 63 #[.int .i64 p, u] w fun e w' => e = .returned (.int .i64 (sF p b : Int)) ∧ Below w.heap.size w w' := by
  by_cases h : p < 1 ∨ 60 < p
  · rw [show sF p b = 1 from if_pos h]
    obtain ⟨a, c, rfl, _⟩ := hu
    exact Check_far p _ w _ c a rfl h
  · rw [show sF p b = bF p b from if_neg h]
    exact Check_near p b u w hu hbl (by omega) (by omega)

end Go.Proofs.YtjfjdidibglhaabDoor

/- Which of two lists comes first: the walks of the library's Compare and of the document's Ahead. -/
namespace Go.Proofs.YtjfjdidibglhaabDoor
open Go.RowKit

theorem sl_at {w : World} {u : Value} {s : List Nat} (h : Sl w u (s.map Int.ofNat)) : ∃ a cap, u = .slice a s.length cap ∧ ∀ i, i < s.length → ∃ b off, a = some ⟨b, off, none⟩ ∧ w.cell? ⟨b, off + i, none⟩ = some (.int .i64 ((s.getD i 0 : Nat) : Int)) := by
  obtain ⟨a, cap, rfl, h⟩ := h
  refine ⟨a, cap, by simp, fun i hi => ?_⟩
  obtain ⟨b, off, e, hc⟩ := h i (by simpa using hi)
  refine ⟨b, off, e, hc.trans ?_⟩
  simp [List.getD_eq_getElem?_getD, List.getElem?_eq_getElem hi]
end Go.Proofs.YtjfjdidibglhaabDoor

/- The walk of the document's ComplementOf. -/
namespace Go.Proofs.YtjfjdidibglhaabDoor
open Go.RowKit

/-- The three boxes: the design, the answer, what is built. -/
structure BoxS (s v p : Nat) (dv ov : Value) (W : World) : Prop where
  d : W.heap[s]? = some (.cells #[.int .i64 (v : Int), dv] 44 (0, 0))
  r : W.heap[s + 1]? = some (.cells #[.int .i64 0, .slice none 0 0] 44 (0, 0))
  o : W.heap[s + 2]? = some (.cells #[.int .i64 (p : Int), ov] 44 (0, 0))
theorem BoxS.lt {s v p : Nat} {dv ov : Value} {W : World} (h : BoxS s v p dv ov W) : s + 3 ≤ W.heap.size := by
  have := (Array.getElem?_eq_some_iff.1 h.o).1
  omega
theorem BoxS.low {s v p : Nat} {dv ov : Value} {W W' : World} (h : BoxS s v p dv ov W) (b : Below (s + 3) W W') : BoxS s v p dv ov W' :=
  ⟨(b.block s (by omega)).trans h.d, (b.block (s + 1) (by omega)).trans h.r, (b.block (s + 2) (by omega)).trans h.o⟩
theorem BoxS.cells {s v p : Nat} {dv ov : Value} {W : World} (h : BoxS s v p dv ov W) : W.cell? ⟨s, 0, none⟩ = some (.int .i64 (v : Int)) ∧ W.cell? ⟨s, 1, none⟩ = some dv ∧ W.cell? ⟨s + 1 + 1, 0, none⟩ = some (.int .i64 (p : Int)) ∧ W.cell? ⟨s + 1 + 1, 1, none⟩ = some ov :=
  ⟨by rw [cell_of_row _ _ _ _ _ _ h.d]; rfl, by rw [cell_of_row _ _ _ _ _ _ h.d]; rfl, by rw [cell_of_row _ _ _ _ _ _ h.o]; rfl, by rw [cell_of_row _ _ _ _ _ _ h.o]; rfl⟩
theorem BoxS.put {s v p : Nat} {dv ov : Value} {W : World} (h : BoxS s v p dv ov W) (nv : Value) : BoxS s v p dv nv (W.setCell ⟨s + 1 + 1, 1, none⟩ nv) :=
  ⟨(heap_setCell_other W ⟨s + 2, 1, none⟩ s nv (by show s ≠ s + 2; omega)).trans h.d, (heap_setCell_other W ⟨s + 2, 1, none⟩ (s + 1) nv (by show s + 1 ≠ s + 2; omega)).trans h.r, heap_setCell_same W (s + 2) 1 _ _ nv h.o⟩
theorem BoxS.start (w : World) (v p : Nat) (dv : Value) : BoxS w.heap.size v p dv (.slice none 0 0) (((w.alloc (.cells #[.int .i64 (v : Int), dv] 44)).alloc (.cells #[.int .i64 0, .slice none 0 0] 44)).alloc (.cells #[.int .i64 (p : Int), .slice none 0 0] 44)) := by
  refine ⟨?_, ?_, ?_⟩
  · exact ((balloc _ _).block _ (by simp; omega)).trans (((balloc _ _).block _ (by simp)).trans (heap_alloc_new w _))
  · have := heap_alloc_new (w.alloc (.cells #[.int .i64 (v : Int), dv] 44)) (.cells #[.int .i64 0, .slice none 0 0] 44)
    rw [show (w.alloc (.cells #[.int .i64 (v : Int), dv] 44)).heap.size = w.heap.size + 1 by simp] at this
    exact ((balloc _ _).block _ (by simp)).trans this
  · have := heap_alloc_new ((w.alloc (.cells #[.int .i64 (v : Int), dv] 44)).alloc (.cells #[.int .i64 0, .slice none 0 0] 44)) (.cells #[.int .i64 (p : Int), .slice none 0 0] 44)
    rw [show ((w.alloc (.cells #[.int .i64 (v : Int), dv] 44)).alloc (.cells #[.int .i64 0, .slice none 0 0] 44)).heap.size = w.heap.size + 2 by simp] at this
    exact this
theorem inf24 : (Tryd.prog.info? 44).map (·.size) = some 2 := by kernel_rfl
theorem own_form {w : World} {base n : Nat} {e : TypeId} {v : Value} {xs : List Value} (h : w.ownsRow base e 1 v n xs) : ∃ a c, v = .slice a n c := by
  obtain ⟨_, ⟨rfl, rfl⟩ | ⟨g, cap, cur, rfl, _⟩⟩ := h
  · exact ⟨_, _, rfl⟩
  · exact ⟨_, _, rfl⟩
end Go.Proofs.YtjfjdidibglhaabDoor

/- The walk of the document's Sorted. -/
namespace Go.Proofs.YtjfjdidibglhaabDoor
open Go.RowKit

end Go.Proofs.YtjfjdidibglhaabDoor

namespace Go.Proofs.YtjfjdidibglhaabDoor
open Go.RowKit

theorem take_up {D : List Nat} {i : Nat} (h : i < D.length) : D.take (i + 1) = D.take i ++ [D.getD i 0] := by
  rw [List.take_add_one, List.getElem?_eq_getElem h, List.getD_eq_getElem?_getD, List.getElem?_eq_getElem h]; rfl

/-- A row of 60 truths. -/
def zrow (f : Nat → Bool) : Array Value := ((List.range 60).map fun j => Value.bool (f j)).toArray
@[simp] theorem zrow_size (f : Nat → Bool) : (zrow f).size = 60 := by simp [zrow]
theorem zrow_at (f : Nat → Bool) (j : Nat) (h : j < 60) : (zrow f)[j]? = some (.bool (f j)) := by simp [zrow, h]
theorem zrow_set (f : Nat → Bool) (i : Nat) (v : Bool) : (zrow f).setIfInBounds i (.bool v) = zrow (upT f i v) := by
  apply Array.ext_getElem?
  intro j
  rw [Array.getElem?_setIfInBounds]
  by_cases hj : j < 60
  · rw [zrow_at _ _ hj]
    by_cases e : i = j
    · subst e; rw [if_pos rfl, zrow_at _ _ hj, if_pos (by simpa using hj)]; simp [upT]
    · rw [if_neg e, zrow_at _ _ hj]; simp [upT, Ne.symm e]
  · simp [zrow, hj]; omega
theorem zrow_one (f : Nat → Bool) : (zrow f).all (·.oneCell') = true := by
  rw [Array.all_eq_true]
  intro i hi
  have h := zrow_at f i (by simpa using hi)
  rw [Array.getElem?_eq_getElem hi] at h
  rw [Option.some.inj h]; rfl
def ZRow (w : World) (g : Nat) (f : Nat → Bool) : Prop := w.heap[g]? = some (.cells (zrow f) 99 (0, 0))
theorem ZRow.lt {w : World} {g : Nat} {f : Nat → Bool} (h : ZRow w g f) : g < w.heap.size := (Array.getElem?_eq_some_iff.1 h).1
theorem ZRow.cell {w : World} {g : Nat} {f : Nat → Bool} (h : ZRow w g f) (j : Nat) (hj : j < 60) : w.cell? ⟨g, j, none⟩ = some (.bool (f j)) := by
  rw [cell_of_row w g j _ _ _ h, zrow_at _ _ hj]
theorem ZRow.frozen {w : World} {g : Nat} {f : Nat → Bool} (h : ZRow w g f) (j : Nat) : w.frozen? ⟨g, j, none⟩ = false := frozen_of_row w g j _ _ h
theorem ZRow.set {w : World} {g : Nat} {f : Nat → Bool} (h : ZRow w g f) (i : Nat) (v : Bool) : ZRow (w.setCell ⟨g, i, none⟩ (.bool v)) g (upT f i v) := by
  unfold ZRow
  rw [heap_setCell_same w g i _ _ _ h, zrow_set]
theorem ZRow.other {w : World} {g : Nat} {f : Nat → Bool} (h : ZRow w g f) (a : Addr) (v : Value) (hne : g ≠ a.block) : ZRow (w.setCell a v) g f := by
  unfold ZRow
  rw [heap_setCell_other w a g v hne]; exact h
theorem ZRow.below {w w' : World} {g : Nat} {f : Nat → Bool} (h : ZRow w g f) (hb : Below w.heap.size w w') : ZRow w' g f := (hb.block g h.lt).trans h
theorem ZRow.whole {w : World} {g : Nat} {f : Nat → Bool} (h : ZRow w g f) (f' : Nat → Bool) : ZRow (w.setRow g (zrow f')) g f' := setRow_heap w g _ _ _ _ h
theorem ZRow.made (w : World) (f : Nat → Bool) : ZRow (w.alloc (.cells (zrow f) 99)) w.heap.size f := heap_alloc_new w _
theorem bsetRow {B g : Nat} {w0 w : World} (hb : Below B w0 w) (hBg : B ≤ g) (cs : Array Value) : Below B w0 (w.setRow g cs) :=
  ⟨hb.os, hb.tape, hb.output, by simpa using hb.size, fun k hk => (setRow_other w g k cs (by omega)).trans (hb.block k hk)⟩
set_option maxRecDepth 100000 in
theorem undB : Tryd.prog.underlying 99 = some (.array 60 4) := by kernel_rfl
set_option maxRecDepth 100000 in
theorem infB (f : Nat → Bool) : (Tryd.prog.info? 99).map (·.size) = some (zrow f).size := by rw [zrow_size]; kernel_rfl
set_option maxRecDepth 100000 in
theorem post_zrow {fn : Func} {R : Ending → World → Prop} {a : Act} {w : World} {g : Nat} {f : Nat → Bool} (slot : Tmp) (hres : fn.results = #[.cell slot 99])
    (hp : a.tmps.getD slot undef = .pointer (some ⟨g, 0, none⟩)) (hr : ZRow w g f) (hd : a.defers = []) (hR : R (.returned (.agg (zrow f))) w) : bodyPost Tryd.prog fn R .ret a w :=
  bodyPost_ret (results_cell_row hres a.tmps w g 99 (zrow f) (0, 0) _ hp hr undB rfl (infB f)) hd hR
set_option maxRecDepth 100000 in
theorem idxB (f : Nat → Bool) (k : Nat) (h : k < 60) (w : World) : (Instr.index 99 (.agg (zrow f)) (.int .i64 (k : Int))).run Tryd.prog w = .ok (.bool (f k)) w := by
  have hi : (0 : Int) ≤ (k : Int) ∧ (k : Int) < ((60 : Nat) : Int) := by omega
  simp [Instr.index, run_underlying undB, asIntOf, hi, go_sem]
  rw [if_pos h, zrow_at f k h]
  rfl
theorem imF_none (v : Nat) (t s : Nat) : imF v [] t s = fun _ => false := by funext x; simp [imF]
theorem imF_next (v : Nat) (l : List Nat) (t s x : Nat) : upT (imF v l t s) (mvN v t s x) true = imF v (l ++ [x]) t s := by
  funext y
  unfold upT imF
  rw [List.map_append]
  by_cases e : y = mvN v t s x
  · rw [if_pos e]; simp [e]
  · rw [if_neg e]; simp [e]
theorem mv_int {v x t s m : Nat} (hm : x * t = m) : ((m : Int) + (s : Int)).tmod (v : Int) = (mvN v t s x : Int) := by
  unfold mvN
  rw [hm, ← Int.natCast_add, Int.ofNat_tmod]
set_option maxRecDepth 100000 in
set_option maxHeartbeats 8000000 in
theorem image_any (v t s : Nat) (D : List Nat) (u : Value) (w : World) (hG : GoodS v D) (hu : Sl w u (D.map Int.ofNat)) (ht : t < 60) (hs : s < 60) :
    Calls Tryd.prog 64 #[.int .i64 (v : Int), u, .int .i64 (t : Int), .int .i64 (s : Int)] w fun e w' => e = .returned (.agg (zrow (imF v D t s))) ∧ Below w.heap.size w w' := by
  obtain ⟨a, ca, rfl, hA⟩ := sl_at hu
  have hz : ∀ w, (zeroValue 99).run Tryd.prog w = .ok (.agg (zrow fun _ => false)) w := fun w => by kernel_rfl
  have h1 := hG.pos
  have h60 := hG.le
  have hlen := hG.len
  obtain ⟨g, Hg⟩ : ∃ g, Hid (w.heap.size = g) := ⟨_, rfl⟩
  have HA : Hid (∀ i, i < D.length → ∃ b off, a = some ⟨b, off, none⟩ ∧ ∀ W, Below g w W → W.cell? ⟨b, off + i, none⟩ = some (.int .i64 ((D.getD i 0 : Nat) : Int))) := fun i hi => by
    obtain ⟨b, o, e, hc⟩ := hA i hi
    exact ⟨b, o, e, fun W bW => (bW.cell (by rw [← Hg.out]; exact World.block_lt_of_cell? _ _ hc)).trans hc⟩
  have HV : Hid (∀ i, i < D.length → D.getD i 0 < v) := fun i hi => by
    rw [List.getD_eq_getElem?_getD, List.getElem?_eq_getElem hi]; exact hG.lt _ (List.getElem_mem hi)
  have HN : Hid (∀ i, i < D.length → upT (imF v (D.take i) t s) (mvN v t s (D.getD i 0)) true = imF v (D.take (i + 1)) t s) := fun i hi => by rw [imF_next, take_up hi]
  have HE : Hid (imF v (D.take D.length) t s = imF v D t s) := by show imF v (D.take D.length) t s = imF v D t s; rw [List.take_length]
  have hr1 := ZRow.made w (fun _ => false)
  have hr0 := hr1.below (balloc _ (.cells (zrow fun _ => false) 99))
  have hr2 := ZRow.made (w.alloc (.cells (zrow fun _ => false) 99)) (fun _ => false)
  rw [World.size_alloc] at hr2
  have hb0 := Below.next (balloc w (.cells (zrow fun _ => false) 99)) (balloc _ (.cells (zrow fun _ => false) 99))
  rw [Hg.out] at hr0 hr2 hb0 ⊢
  generalize D.length = n at *
  have hv0 : (v : Int) ≠ 0 := by omega
  have hw4 : ¬ v = 0 := by omega
  have hgw : w.heap.size = g := Hg.out
  have h60i : ((60 : Nat) : Int) = 60 := rfl
  clear hu hA hr1
  go_enter Tryd.func64, Tryd.ntmps64
  go_wp2
  (try rw [hgw])
  go_loopw [14] (fun iv wr => ∃ i : Nat, iv = .int .i64 (i : Int) ∧ i ≤ n ∧ ZRow wr g (fun _ => false) ∧ ZRow wr (g + 1) (imF v (D.take i) t s) ∧ Below g w wr) (fun iv _ => (n - intOf iv).toNat)
  case atStart => exact ⟨0, rfl, by omega, hr0, by rw [List.take_zero, imF_none]; exact hr2, hb0⟩
  case round =>
    clear hr0 hr2 hb0 hz
    obtain ⟨i, rfl, hi, hr0, hr2, hB⟩ := hrel
    by_cases hlt : i < n
    · have hii : (i : Int) < n := by omega
      have hdec : decide ((i : Int) < n) = true := by simp; omega
      obtain ⟨b1, o1, rfl, c1⟩ := HA.out i hlt
      replace c1 := c1 _ hB
      have hxv := HV.out i hlt
      have hN := HN.out i hlt
      obtain ⟨x, hx⟩ : ∃ x, D.getD i 0 = x := ⟨_, rfl⟩
      rw [hx] at c1 hxv hN
      obtain ⟨m, hm⟩ : ∃ m, x * t = m := ⟨_, rfl⟩
      have hmi : (x : Int) * (t : Int) = (m : Int) := by rw [← hm]; simp
      have hmb : m ≤ 60 * 60 := by rw [← hm]; exact Nat.mul_le_mul (by omega) (by omega)
      have hmod := mv_int (v := v) (s := s) hm
      obtain ⟨k, Hk⟩ : ∃ k, Hid (mvN v t s x = k) := ⟨_, rfl⟩
      have hkv : k < v := by rw [← Hk.out]; exact Nat.mod_lt _ (by omega)
      rw [Hk.out] at hmod hN
      have hk60 : (k : Int) < 60 := by omega
      have hfz := hr2.frozen k
      have hcm := hr2.cell k (by omega)
      have hset := hr2.set k true
      have hset0 := hr0.other ⟨g + 1, k, none⟩ (.bool true) (by simp)
      have hB2 := hB.setCell (p := ⟨g + 1, k, none⟩) (Nat.le_succ _) (.bool true)
      rw [hN] at hset
      generalize imF v (D.take i) t s k = fk at hcm
      clear hN hx hm HA HV HN HE hr0 hr2 hB hkv
      go_wp2
      go_roundw
      case rel => exact ⟨i + 1, by go_num, by omega, hset0, hset, hB2⟩
      case measure => simp [intOf]; omega
    · have hdec : decide ((i : Int) < n) = false := by simp; omega
      obtain rfl : i = n := by omega
      rw [HE.out] at hr2
      go_wp2_with (first
        | (refine wpList_load_row rfl 99 _ rfl (g + 1) rfl 99 _ (0, 0) _ hr2 undB rfl (infB _) ?_)
        | (refine wpList_store_row rfl 99 _ _ rfl g _ rfl rfl 99 _ hr0 (infB _) (by simp) (zrow_one _) ?_))
      exact post_zrow 8 Tryd.results64 rfl (hr0.whole _) rfl ⟨rfl, bsetRow hB (Nat.le_refl _) _⟩
theorem ran_up (f : Nat → Bool) (k : Nat) : (List.range (k + 1)).filter f = (List.range k).filter f ++ if f k = true then [k] else [] := by
  rw [List.range_succ, List.filter_append]
  cases h : f k <;> simp [h]
set_option maxRecDepth 100000 in
set_option maxHeartbeats 8000000 in
theorem list_any (f : Nat → Bool) (w : World) :
    Calls Tryd.prog 65 #[.agg (zrow f)] w fun e w' => ∃ x, e = .returned x ∧ ORow w' w.heap.size x ((List.range 60).filter f) ∧ Below w.heap.size w w' := by
  obtain ⟨i3, hi3, hz0, hz1, hz2⟩ := info3
  have hr0 := ZRow.made w f
  have hb0 := balloc w (.cells (zrow f) 99)
  obtain ⟨g, Hg⟩ : ∃ g, Hid (w.heap.size = g) := ⟨_, rfl⟩
  have HIx : Hid (∀ k : Nat, k < 60 → ∀ w, (Instr.index 99 (.agg (zrow f)) (.int .i64 (k : Int))).run Tryd.prog w = .ok (.bool (f k)) w) := fun k hk w => idxB f k hk w
  have HU : Hid (∀ k, (List.range (k + 1)).filter f = (List.range k).filter f ++ if f k = true then [k] else []) := ran_up f
  have HLn : Hid (∀ k, ((List.range k).filter f).length ≤ k) := fun k => Nat.le_trans (List.length_filter_le _ _) (by simp)
  rw [Hg.out] at hr0 hb0 ⊢
  obtain ⟨F, HF⟩ : ∃ F : Nat → List Nat, Hid (∀ k, (List.range k).filter f = F k) := ⟨fun k => (List.range k).filter f, fun _ => rfl⟩
  have HU2 : Hid (∀ k, F (k + 1) = F k ++ if f k = true then [k] else []) := fun k => by rw [← HF.out, ← HF.out]; exact HU.out k
  have HL2 : Hid (∀ k, (F k).length ≤ k) := fun k => by rw [← HF.out]; exact HLn.out k
  have HF0 : Hid (F 0 = []) := by show F 0 = []; rw [← HF.out]; rfl
  rw [HF.out]
  have hgw : w.heap.size = g := Hg.out
  clear HU HLn HF
  go_enter Tryd.func65, Tryd.ntmps65
  go_wp2_with (first
    | (refine wpList_load_row rfl 99 _ rfl g rfl 99 _ (0, 0) _ hr0 undB rfl (infB _) ?_))
  clear hr0
  go_loopw [3, 7] (fun ov kv wr => ∃ k : Nat, kv = .int .i64 (k : Int) ∧ k ≤ 60 ∧ ORow wr g ov (F k) ∧ Below g w wr) (fun _ kv _ => (60 - intOf kv).toNat)
  case atStart => exact ⟨0, rfl, by omega, by rw [HF0.out]; exact World.ownsRow_nil _ _ _ _, hb0⟩
  case round =>
    clear hb0
    obtain ⟨k, rfl, hk, hown, hB⟩ := hrel
    have hgs : g ≤ wr.heap.size := by rw [← hgw]; exact hB.size
    by_cases hlt : k < 60
    · have hdi : decide ((k : Int) < 60) = true := by simp; omega
      have hii : (k : Int) < 60 := by omega
      have hix := HIx.out k hlt
      have hU := HU2.out k
      have hL := HL2.out k
      cases hf : f k
      · rw [hf] at hix hU
        have HUU : Hid (F (k + 1) = F k) := by show _ = _; rw [hU]; simp
        clear hU hf HIx HU2 HL2 HF0
        go_wp2
        go_roundw
        case rel => exact ⟨k + 1, by go_num, by omega, by rw [HUU.out]; exact hown, hB⟩
        case measure => simp [intOf]; omega
      · rw [hf] at hix hU
        have HUU : Hid (F (k + 1) = F k ++ [k]) := by show _ = _; rw [hU]; simp
        obtain ⟨l, Hl⟩ : ∃ l, Hid (F k = l) := ⟨_, rfl⟩
        rw [Hl.out] at HUU hL hown
        unfold ORow at hown
        obtain ⟨oa, oc, rfl⟩ := own_form hown
        clear hU hf HIx HU2 HL2 HF0 Hl
        go_wp2_with (first
          | (at_builtin; refine wpList_append_own _ rfl _ _ 22 rfl g 3 i3 (.int .i64 0) 1 8 und22 hi3 hz0 hz1 hz2 rfl (by decide) _ _ _ rfl (hown.alloc _) ⟨wr.heap.size, 0, none⟩ 1 1 [.int .i64 (k : Int)] rfl rfl ?c1 ?c2 ?c3 ?c4 ?c5 ?_)
          | go_in)
        case c1 =>
          intro j u hj
          match j, hj with
          | 0, hj => simp at hj; subst hj; simp [Addr.add]
        case c2 => intro u hu; simp at hu; subst hu; rfl
        case c3 => unfold maxLen; omega
        case c4 => omega
        case c5 => simp; omega
        · intro v' w2 hown' hgrow _
          have hb2 : Below g w w2 := (hB.alloc (by omega) _).grown hgrow (by simp; omega) (fun k hk => (hown.lt k hk).1)
          have hown2 : w2.ownsRow g 3 1 v' (l.length + 1) (((l ++ [k]).map Int.ofNat).map (Value.int .i64)) := by simpa using hown'
          have hown3 : ORow w2 g v' (F (k + 1)) := by
            rw [HUU.out]
            unfold ORow
            rw [List.length_append]
            exact hown2
          clear hown' hown2 hgrow hown hB
          go_wp2
          go_roundw
          case rel => exact ⟨k + 1, by go_num, by omega, hown3, hb2⟩
          case measure => simp [intOf]; omega
    · have hdi : decide ((k : Int) < 60) = false := by simp; omega
      obtain rfl : k = 60 := by omega
      go_wp2
      go_ret
      exact ⟨_, rfl, hown, hB⟩

end Go.Proofs.YtjfjdidibglhaabDoor
