/- The walk of Inv; Add, Mul and Inv on a true field; the closed fact. -/
import Derived.Test.YtjfjdidibglhaabDoorProg
import Derived.Test.YtjfjdidibglhaabDoorPure
import Derived.WalkKit
import Derived.WalkSpells
import Derived.WalkLawsBesides
import Derived.Laws.CopyOwn
import Derived.BigRegion
import Derived.Deep.RegionWith
import Derived.ChangeKeysEq
import Derived.Deep.QuietTactic
import Derived.BigQuiet
import Derived.Deep.RegionHeld3
import Derived.Deep.DeepCutAuto
import Derived.Test.YtjfjdidibglhaabDoorAlgE
/- The walk of order: the order of the field, or 0. -/
/- Small facts that the walks share: rows of eleven numbers, the table of primes, what lies below a block. -/
namespace Go.Proofs.YtjfjdidibglhaabDoor.Fd
open Go.RowKit

theorem ret_int {k : IntKind} {a b : Int} (h : a = b) : Ending.returned (.int k a) = .returned (.int k b) := by rw [h]
theorem ret_bool {a b : Bool} (h : a = b) : Ending.returned (.bool a) = .returned (.bool b) := by rw [h]

def primeCells : Array Value := (primeTab.map (Value.int .i64)).toArray
/-- The table of primes lies in block 0. -/
def Tab (w : World) : Prop := ∃ t fr, w.heap[0]? = some (.cells primeCells t fr)
theorem Tab.pos {w : World} (h : Tab w) : 0 < w.heap.size := by
  obtain ⟨t, fr, h⟩ := h
  exact (Array.getElem?_eq_some_iff.1 h).1
theorem Tab.below {w w' : World} (h : Tab w) (hb : Below w.heap.size w w') : Tab w' := by
  have hp := h.pos
  obtain ⟨t, fr, h⟩ := h
  exact ⟨t, fr, (hb.block 0 hp).trans h⟩
theorem Tab.alloc {w : World} (h : Tab w) (o : Obj) : Tab (w.alloc o) := h.below ((Below.refl _ _).alloc (Nat.le_refl _) o)
theorem Tab.drew {w : World} (h : Tab w) : Tab w.drew := h

theorem Below.next {a b c : World} (h : Below a.heap.size a b) (k : Below b.heap.size b c) : Below a.heap.size a c := h.trans (k.mono h.size)
/-- A row of eleven numbers. -/
def prow (f : Nat → Int) : Array Value := ((List.range 11).map fun j => Value.int .i64 (f j)).toArray
@[simp] theorem prow_size (f : Nat → Int) : (prow f).size = 11 := by simp [prow]
theorem prow_at (f : Nat → Int) (j : Nat) (h : j < 11) : (prow f)[j]? = some (.int .i64 (f j)) := by simp [prow, h]
theorem prow_set (f : Nat → Int) (i : Nat) (v : Int) : (prow f).setIfInBounds i (.int .i64 v) = prow (upd f i v) := by
  apply Array.ext_getElem?
  intro j
  rw [Array.getElem?_setIfInBounds]
  by_cases hj : j < 11
  · rw [prow_at _ _ hj]
    by_cases e : i = j
    · subst e; rw [if_pos rfl, prow_at _ _ hj, if_pos (by simpa using hj)]; simp [upd]
    · rw [if_neg e, prow_at _ _ hj]; simp [upd, Ne.symm e]
  · simp [prow, hj]; omega
theorem prow_congr {f g : Nat → Int} (h : ∀ j, j < 11 → f j = g j) : prow f = prow g := by
  unfold prow
  congr 1
  apply List.map_congr_left
  intro j hj
  rw [h j (by simpa using hj)]
theorem prow_zero : prow (fun _ => 0) = #[.int .i64 0, .int .i64 0, .int .i64 0, .int .i64 0, .int .i64 0, .int .i64 0, .int .i64 0, .int .i64 0, .int .i64 0, .int .i64 0, .int .i64 0] := by rfl

/-- Block g holds the row f. -/
def Row (w : World) (g : Nat) (f : Nat → Int) : Prop := w.heap[g]? = some (.cells (prow f) 93 (0, 0))
theorem Row.lt {w : World} {g : Nat} {f : Nat → Int} (h : Row w g f) : g < w.heap.size := (Array.getElem?_eq_some_iff.1 h).1
theorem Row.cell {w : World} {g : Nat} {f : Nat → Int} (h : Row w g f) (j : Nat) (hj : j < 11) : w.cell? ⟨g, j, none⟩ = some (.int .i64 (f j)) := by
  rw [cell_of_row w g j _ _ _ h, prow_at _ _ hj]
theorem Row.frozen {w : World} {g : Nat} {f : Nat → Int} (h : Row w g f) (j : Nat) : w.frozen? ⟨g, j, none⟩ = false := frozen_of_row w g j _ _ h
theorem Row.set {w : World} {g : Nat} {f : Nat → Int} (h : Row w g f) (i : Nat) (v : Int) : Row (w.setCell ⟨g, i, none⟩ (.int .i64 v)) g (upd f i v) := by
  unfold Row
  rw [heap_setCell_same w g i _ _ _ h, prow_set]
theorem Row.other {w : World} {g : Nat} {f : Nat → Int} (h : Row w g f) (a : Addr) (v : Value) (hne : g ≠ a.block) : Row (w.setCell a v) g f := by
  unfold Row
  rw [heap_setCell_other w a g v hne]; exact h
theorem Row.below {w w' : World} {g : Nat} {f : Nat → Int} (h : Row w g f) (hb : Below w.heap.size w w') : Row w' g f := (hb.block g h.lt).trans h
theorem Row.congr {w : World} {g : Nat} {f f' : Nat → Int} (h : Row w g f) (e : ∀ j, j < 11 → f j = f' j) : Row w g f' := by
  unfold Row; rw [← prow_congr e]; exact h
theorem Row.made (w : World) (f : Nat → Int) : Row (w.alloc (.cells (prow f) 93)) w.heap.size f := heap_alloc_new w _
theorem Row.whole {w : World} {g : Nat} {f : Nat → Int} (h : Row w g f) (f' : Nat → Int) : Row (w.setRow g (prow f')) g f' := setRow_heap w g _ _ _ _ h
theorem bsetRow {B g : Nat} {w0 w : World} (hb : Below B w0 w) (hBg : B ≤ g) (cs : Array Value) : Below B w0 (w.setRow g cs) :=
  ⟨hb.os, hb.tape, hb.output, by simpa using hb.size, fun k hk => (setRow_other w g k cs (by omega)).trans (hb.block k hk)⟩
theorem prow_one (f : Nat → Int) : (prow f).all (·.oneCell') = true := by
  rw [Array.all_eq_true]
  intro i hi
  have h := prow_at f i (by simpa using hi)
  rw [Array.getElem?_eq_getElem hi] at h
  rw [Option.some.inj h]; rfl
theorem und51 : Tryd.prog.underlying 93 = some (.array 11 3) := by kernel_rfl
theorem inf51 (f : Nat → Int) : (Tryd.prog.info? 93).map (·.size) = some (prow f).size := by rw [prow_size]; kernel_rfl
theorem Row.made0 (w : World) : Row (w.alloc (.cells #[.int .i64 0, .int .i64 0, .int .i64 0, .int .i64 0, .int .i64 0, .int .i64 0, .int .i64 0, .int .i64 0, .int .i64 0, .int .i64 0, .int .i64 0] 93)) w.heap.size (fun _ => 0) := Row.made w (fun _ => 0)
theorem Row.alloc {w : World} {g : Nat} {f : Nat → Int} (h : Row w g f) (o : Obj) : Row (w.alloc o) g f := h.below ((Below.refl _ _).alloc (Nat.le_refl _) o)
theorem Row.drew {w : World} {g : Nat} {f : Nat → Int} (h : Row w g f) : Row w.drew g f := h
theorem post_row {fn : Func} {R : Ending → World → Prop} {a : Act} {w : World} {g : Nat} {f : Nat → Int} (slot : Tmp) (hres : fn.results = #[.cell slot 93])
    (hp : a.tmps.getD slot undef = .pointer (some ⟨g, 0, none⟩)) (hr : Row w g f) (hd : a.defers = []) (hR : R (.returned (.agg (prow f))) w) : bodyPost Tryd.prog fn R .ret a w :=
  bodyPost_ret (results_cell_row hres a.tmps w g 93 (prow f) (0, 0) _ hp hr und51 rfl (inf51 f)) hd hR
theorem Row.cells {w : World} {g : Nat} {f : Nat → Int} (h : Row w g f) : w.cell? ⟨g, 0, none⟩ = some (.int .i64 (f 0)) ∧ w.cell? ⟨g, 1, none⟩ = some (.int .i64 (f 1)) ∧ w.cell? ⟨g, 2, none⟩ = some (.int .i64 (f 2)) ∧ w.cell? ⟨g, 3, none⟩ = some (.int .i64 (f 3)) ∧ w.cell? ⟨g, 4, none⟩ = some (.int .i64 (f 4)) ∧ w.cell? ⟨g, 5, none⟩ = some (.int .i64 (f 5)) ∧ w.cell? ⟨g, 6, none⟩ = some (.int .i64 (f 6)) ∧ w.cell? ⟨g, 7, none⟩ = some (.int .i64 (f 7)) ∧ w.cell? ⟨g, 8, none⟩ = some (.int .i64 (f 8)) ∧ w.cell? ⟨g, 9, none⟩ = some (.int .i64 (f 9)) ∧ w.cell? ⟨g, 10, none⟩ = some (.int .i64 (f 10)) :=
  ⟨h.cell 0 (by omega), h.cell 1 (by omega), h.cell 2 (by omega), h.cell 3 (by omega), h.cell 4 (by omega), h.cell 5 (by omega), h.cell 6 (by omega), h.cell 7 (by omega), h.cell 8 (by omega), h.cell 9 (by omega), h.cell 10 (by omega)⟩

theorem und3 : Tryd.prog.underlying 3 = some (.int .i64) := by kernel_rfl
theorem und22 : Tryd.prog.underlying 22 = some (.slice 3) := by kernel_rfl
theorem info3 : ∃ i, Tryd.prog.info? 3 = some i ∧ i.zero = some (.int .i64 0) ∧ i.size = 1 ∧ i.bytes = 8 := by
  have h1 : (Tryd.prog.info? 3).map (·.zero) = some (some (.int .i64 0)) := by kernel_rfl
  have h2 : (Tryd.prog.info? 3).map (·.size) = some 1 := by kernel_rfl
  have h3 : (Tryd.prog.info? 3).map (·.bytes) = some 8 := by kernel_rfl
  cases h : Tryd.prog.info? 3 with
  | none => rw [h] at h1; cases h1
  | some i =>
    rw [h] at h1 h2 h3
    exact ⟨i, rfl, Option.some.inj h1, Option.some.inj h2, Option.some.inj h3⟩

/-- The value is a slice that reads as the list of numbers. -/
def Sl (w : World) (v : Value) (l : List Int) : Prop := ∃ (a : Option Addr) (cap : Nat), v = .slice a l.length cap ∧ ∀ j, j < l.length → ∃ b off, a = some ⟨b, off, none⟩ ∧ w.cell? ⟨b, off + j, none⟩ = some (.int .i64 (l.getD j 0))
theorem Sl.below {w w' : World} {v : Value} {l : List Int} (h : Sl w v l) (hb : Below w.heap.size w w') : Sl w' v l := by
  obtain ⟨a, cap, rfl, h⟩ := h
  refine ⟨a, cap, rfl, fun j hj => ?_⟩
  obtain ⟨b, off, e, hc⟩ := h j hj
  exact ⟨b, off, e, (hb.cell (p := ⟨b, off + j, none⟩) (block_lt_of_cell hc)).trans hc⟩
theorem Sl.nil (w : World) : Sl w (.slice none 0 0) [] := ⟨none, 0, rfl, fun j hj => by simp at hj⟩
theorem Sl.owned {w : World} {base : Nat} {v : Value} {l : List Int} (h : w.ownsRow base 3 1 v l.length (l.map (Value.int .i64))) : Sl w v l := by
  obtain ⟨_, ⟨rfl, hn⟩ | ⟨g, cap, cur, rfl, _, hg, _, _, _, ht⟩⟩ := h
  · have : l = [] := List.length_eq_zero_iff.1 hn
    subst this
    exact Sl.nil w
  · refine ⟨_, cap, rfl, fun j hj => ⟨g, 0, rfl, ?_⟩⟩
    rw [cell_of_row w g _ cur 3 (0, 0) hg]
    have h2 : (cur.toList.take (l.length * 1))[j]? = (l.map (Value.int .i64))[j]? := by rw [ht]
    rw [List.getElem?_take, if_pos (by omega)] at h2
    rw [Nat.zero_add, ← Array.getElem?_toList, h2]
    simp [hj]

/-- Block g is a row of the call's own whose first n numbers are f's. -/
def Own (w : World) (g n : Nat) (f : Nat → Int) : Prop := ∃ cur, w.heap[g]? = some (.cells cur 3 (0, 0)) ∧ ∀ j, j < n → cur[j]? = some (.int .i64 (f j))
theorem Own.lt {w : World} {g n : Nat} {f : Nat → Int} (h : Own w g n f) : g < w.heap.size := by
  obtain ⟨cur, h, _⟩ := h
  exact (Array.getElem?_eq_some_iff.1 h).1
theorem Own.cell {w : World} {g n : Nat} {f : Nat → Int} (h : Own w g n f) (j : Nat) (hj : j < n) : w.cell? ⟨g, j, none⟩ = some (.int .i64 (f j)) := by
  obtain ⟨cur, h, hc⟩ := h
  rw [cell_of_row w g j _ _ _ h, hc j hj]
theorem Own.frozen {w : World} {g n : Nat} {f : Nat → Int} (h : Own w g n f) (j : Nat) : w.frozen? ⟨g, j, none⟩ = false := by
  obtain ⟨cur, h, _⟩ := h
  exact frozen_of_row w g j _ _ h
theorem Own.set {w : World} {g n : Nat} {f : Nat → Int} (h : Own w g n f) (i : Nat) (v : Int) : Own (w.setCell ⟨g, i, none⟩ (.int .i64 v)) g n (upd f i v) := by
  obtain ⟨cur, h, hc⟩ := h
  refine ⟨_, heap_setCell_same w g i _ _ _ h, fun j hj => ?_⟩
  have hcj := hc j hj
  have hlt : j < cur.size := (Array.getElem?_eq_some_iff.1 hcj).1
  rw [Array.getElem?_setIfInBounds]
  by_cases e : i = j
  · subst e; rw [if_pos rfl, if_pos hlt]; simp [upd]
  · rw [if_neg e, hcj]; simp [upd, Ne.symm e]
theorem Own.other {w : World} {g n : Nat} {f : Nat → Int} (h : Own w g n f) (a : Addr) (v : Value) (hne : g ≠ a.block) : Own (w.setCell a v) g n f := by
  obtain ⟨cur, h, hc⟩ := h
  exact ⟨cur, (heap_setCell_other w a g v hne).trans h, hc⟩
theorem Own.below {w w' : World} {g n : Nat} {f : Nat → Int} (h : Own w g n f) (hb : Below w.heap.size w w') : Own w' g n f := by
  have hl := h.lt
  obtain ⟨cur, h, hc⟩ := h
  exact ⟨cur, (hb.block g hl).trans h, hc⟩
theorem Own.drew {w : World} {g n : Nat} {f : Nat → Int} (h : Own w g n f) : Own w.drew g n f := h
theorem Own.congr {w : World} {g n : Nat} {f f' : Nat → Int} (h : Own w g n f) (e : ∀ j, j < n → f j = f' j) : Own w g n f' := by
  obtain ⟨cur, h, hc⟩ := h
  exact ⟨cur, h, fun j hj => by rw [hc j hj, e j hj]⟩
theorem Own.sl {w : World} {g n : Nat} {f : Nat → Int} (h : Own w g n f) (cap : Nat) : Sl w (.slice (some ⟨g, 0, none⟩) n cap) ((List.range n).map f) := by
  refine ⟨_, cap, by simp, fun j hj => ⟨g, 0, rfl, ?_⟩⟩
  have hj' : j < n := by simpa using hj
  rw [Nat.zero_add, h.cell j hj']
  simp [hj']
theorem Own.of {w : World} {base n : Nat} {v : Value} {l : List Int} (h : w.ownsRow base 3 1 v n (l.map (Value.int .i64))) (hn : 0 < n) :
    ∃ g cap, v = .slice (some ⟨g, 0, none⟩) n cap ∧ base ≤ g ∧ Own w g n (fun j => l.getD j 0) := by
  obtain ⟨hl, ⟨_, hn0⟩ | ⟨g, cap, cur, rfl, hb, hg, _, _, _, ht⟩⟩ := h
  · omega
  · refine ⟨g, cap, rfl, hb, cur, hg, fun j hj => ?_⟩
    have hj2 : j < l.length := by simp at hl; omega
    have h2 : (cur.toList.take (n * 1))[j]? = (l.map (Value.int .i64))[j]? := by rw [ht]
    rw [List.getElem?_take, if_pos (by omega)] at h2
    rw [← Array.getElem?_toList, h2]
    simp [hj2]

end Go.Proofs.YtjfjdidibglhaabDoor.Fd

/- The walk of isPrime: it answers whether the number stands in the table. -/
namespace Go.Proofs.YtjfjdidibglhaabDoor.Fd
open Go.RowKit

set_option maxRecDepth 100000 in
theorem und69 : Tryd.prog.underlying 145 = some (.array 18 3) := by kernel_rfl
set_option maxRecDepth 100000 in
theorem idx69 (k : Nat) (h : k < 18) (w : World) : (Instr.index 145 (.agg primeCells) (.int .i64 (k : Int))).run Tryd.prog w = .ok (.int .i64 (primeAt k)) w := by
  have : k = 0 ∨ k = 1 ∨ k = 2 ∨ k = 3 ∨ k = 4 ∨ k = 5 ∨ k = 6 ∨ k = 7 ∨ k = 8 ∨ k = 9 ∨ k = 10 ∨ k = 11 ∨ k = 12 ∨ k = 13 ∨ k = 14 ∨ k = 15 ∨ k = 16 ∨ k = 17 := by omega
  rcases this with rfl | rfl | rfl | rfl | rfl | rfl | rfl | rfl | rfl | rfl | rfl | rfl | rfl | rfl | rfl | rfl | rfl | rfl <;> (change _ = _; kernel_rfl)

set_option maxRecDepth 100000 in
set_option maxHeartbeats 400000 in
theorem isPrime_any (n : Int) (w : World) (hT : Tab w) :
    Calls Tryd.prog 92 #[.int .i64 n] w fun e w' => e = .returned (.bool (isPrimeB n)) ∧ w' = w := by
  obtain ⟨tt, fr, hg⟩ := hT
  go_enter Tryd.func92, Tryd.ntmps92
  go_wp2_with (refine wpList_load_row rfl 145 _ rfl 0 rfl tt _ fr _ hg und69 rfl (by kernel_rfl) ?_)
  go_loop [4, 6] (fun _ i => ∃ k : Nat, k ≤ 18 ∧ i = .int .i64 k ∧ ∀ j : Nat, j < k → primeAt j ≠ n) (fun _ i => 18 - (intOf i).toNat)
  case atStart => exact ⟨0, Nat.zero_le _, rfl, fun j h => absurd h (Nat.not_lt_zero _)⟩
  case round =>
    obtain ⟨k, hk, rfl, hno⟩ := hrel
    by_cases hlt : k < 18
    · have hix := idx69 k hlt
      by_cases he : primeAt k = n
      · have hb : ((primeAt k) == n) = true := by simpa using he
        have HP : Hid (isPrimeB n = true) := prime_mem n k hlt he
        clear he
        go_wp2
        go_ret
        exact ⟨ret_bool HP.out.symm, rfl⟩
      · have hb : ((primeAt k) == n) = false := by simpa using he
        go_wp2
        go_round
        case rel => exact ⟨k + 1, by omega, by go_num, fun j hj => by
          by_cases e : j = k
          · subst e; exact he
          · exact hno j (by omega)⟩
        case measure => simp [intOf]; omega
    · have HP : Hid (isPrimeB n = false) := prime_not n (fun j hj => hno j (by omega))
      go_wp2
      go_ret
      exact ⟨ret_bool HP.out.symm, rfl⟩

end Go.Proofs.YtjfjdidibglhaabDoor.Fd

namespace Go.Proofs.YtjfjdidibglhaabDoor.Fd
open Go.RowKit

set_option maxRecDepth 100000 in
set_option maxHeartbeats 400000 in
theorem order_any (p k : Int) (w : World) (hT : Tab w) :
    Calls Tryd.prog 57 #[.int .i64 p, .int .i64 k] w fun e w' => e = .returned (.int .i64 (ordZ p k)) ∧ w' = w := by
  cases hp : isPrimeB p
  · have HO : Hid (ordZ p k = 0) := ord_no hp
    go_enter Tryd.func57, Tryd.ntmps57
    go_wp2_with (go_at_call 92; refine (isPrime_any _ _ hT).mono ?_; rintro e w' ⟨rfl, rfl⟩)
    go_ret
    exact ⟨ret_int HO.out.symm, rfl⟩
  · have hb := prime_bd hp
    by_cases h1 : k < 1
    · have HO : Hid (ordZ p k = 0) := ord_lo h1
      go_enter Tryd.func57, Tryd.ntmps57
      go_wp2_with (go_at_call 92; refine (isPrime_any _ _ hT).mono ?_; rintro e w' ⟨rfl, rfl⟩)
      go_ret
      exact ⟨ret_int HO.out.symm, rfl⟩
    · by_cases h6 : 6 < k
      · have HO : Hid (ordZ p k = 0) := ord_hi h6
        go_enter Tryd.func57, Tryd.ntmps57
        go_wp2_with (go_at_call 92; refine (isPrime_any _ _ hT).mono ?_; rintro e w' ⟨rfl, rfl⟩)
        go_ret
        exact ⟨ret_int HO.out.symm, rfl⟩
      · have hd1 : decide (k < 1) = false := by simpa using h1
        have hd6 : decide (6 < k) = false := by simpa using h6
        have HP : Hid (isPrimeB p = true) := hp
        go_enter Tryd.func57, Tryd.ntmps57
        go_wp2_with (go_at_call 92; refine (isPrime_any _ _ hT).mono ?_; rintro e w' ⟨rfl, rfl⟩)
        go_loop [5, 16] (fun q i => ∃ j : Nat, (j : Int) ≤ k ∧ i = .int .i64 j ∧ q = .int .i64 (p ^ j) ∧ p ^ j ≤ 64) (fun _ i => (k - intOf i).toNat)
        case atStart => exact ⟨0, by omega, rfl, by simp, by simp⟩
        case round =>
          obtain ⟨j, hj, rfl, rfl, hq⟩ := hrel
          have hq1 := (pow_mono_step p hb.1 j j (Nat.le_refl _)).1
          by_cases hlt : (j : Int) < k
          · have hm : p ^ j * p ≤ 64 * 61 := Int.mul_le_mul hq hb.2 (by omega) (by omega)
            have hm0 : 0 ≤ p ^ j * p := Int.mul_nonneg (by omega) (by omega)
            have HS : Hid (p ^ (j + 1) = p ^ j * p) := Int.pow_succ p j
            by_cases ho : 64 < p ^ j * p
            · have HO : Hid (ordZ p k = 0) := ord_over hb.1 (j + 1) (by omega) (by rw [HS.out]; exact ho)
              go_wp2
              go_ret
              exact ⟨ret_int HO.out.symm, rfl⟩
            · go_wp2
              go_round
              case rel => exact ⟨j + 1, by omega, by go_num, by rw [HS.out], by rw [HS.out]; omega⟩
              case measure => simp [intOf]; omega
          · have HO : Hid (ordZ p k = p ^ j) := by
              show ordZ p k = p ^ j
              have : k.toNat = j := by omega
              rw [ord_eq HP.out (by omega) (by rw [this]; exact hq), this]
            go_wp2
            go_ret
            exact ⟨ret_int HO.out.symm, rfl⟩

end Go.Proofs.YtjfjdidibglhaabDoor.Fd

/- The walks of allBelow and monic. -/
/- A field in a block of memory. -/
namespace Go.Proofs.YtjfjdidibglhaabDoor.Fd
open Go.RowKit

/-- Block g holds the field of these numbers and this slice. -/
def FB (w : World) (g : Nat) (p k : Int) (v : Value) : Prop := w.heap[g]? = some (.cells #[.int .i64 p, .int .i64 k, v] 24 (0, 0))
theorem FB.lt {w : World} {g : Nat} {p k : Int} {v : Value} (h : FB w g p k v) : g < w.heap.size := (Array.getElem?_eq_some_iff.1 h).1
theorem FB.cells {w : World} {g : Nat} {p k : Int} {v : Value} (h : FB w g p k v) : w.cell? ⟨g, 0, none⟩ = some (.int .i64 p) ∧ w.cell? ⟨g, 1, none⟩ = some (.int .i64 k) ∧ w.cell? ⟨g, 2, none⟩ = some v :=
  ⟨(cell_of_row w g 0 _ _ _ h), (cell_of_row w g 1 _ _ _ h), (cell_of_row w g 2 _ _ _ h)⟩
theorem FB.frozen {w : World} {g : Nat} {p k : Int} {v : Value} (h : FB w g p k v) (j : Nat) : w.frozen? ⟨g, j, none⟩ = false := frozen_of_row w g j _ _ h
theorem FB.below {w w' : World} {g : Nat} {p k : Int} {v : Value} (h : FB w g p k v) (hb : Below w.heap.size w w') : FB w' g p k v := (hb.block g h.lt).trans h
theorem FB.drew {w : World} {g : Nat} {p k : Int} {v : Value} (h : FB w g p k v) : FB w.drew g p k v := h
theorem FB.made (w : World) (p k : Int) (v : Value) : FB (w.alloc (.cells #[.int .i64 p, .int .i64 k, v] 24)) w.heap.size p k v := heap_alloc_new w _
theorem Sl.form {w : World} {v : Value} {l : List Int} {n : Nat} (h : Sl w v l) (hl : l.length = n) (hn : 0 < n) :
    ∃ b off cap, v = .slice (some ⟨b, off, none⟩) n cap ∧ b < w.heap.size ∧ ∀ j, j < n → w.cell? ⟨b, off + j, none⟩ = some (.int .i64 (l.getD j 0)) := by
  obtain ⟨a, cap, rfl, h⟩ := h
  rw [hl] at h ⊢
  obtain ⟨b, off, rfl, h0⟩ := h 0 hn
  refine ⟨b, off, cap, rfl, by simpa using block_lt_of_cell h0, fun j hj => ?_⟩
  obtain ⟨b', o', e, hc⟩ := h j hj
  simp only [Option.some.injEq, Addr.mk.injEq, and_true] at e
  obtain ⟨rfl, rfl⟩ := e
  exact hc
theorem bdrewN {B : Nat} {a w : World} (h : Below B a w) (n : Nat) : Below B a (w.drewN n) := ⟨h.os, h.tape, h.output, h.size, h.block⟩
theorem Own.rowOther {w : World} {g n : Nat} {f : Nat → Int} (h : Own w g n f) (k : Nat) (cs : Array Value) (hne : g ≠ k) : Own (w.setRow k cs) g n f := by
  obtain ⟨cur, h, hc⟩ := h
  exact ⟨cur, (setRow_other w k g cs hne).trans h, hc⟩
theorem FB.whole {w : World} {g : Nat} {p k : Int} {v : Value} (h : FB w g p k v) (p' k' : Int) (v' : Value) : FB (w.setRow g #[.int .i64 p', .int .i64 k', v']) g p' k' v' := setRow_heap w g _ _ _ _ h
set_option maxRecDepth 100000 in
theorem inf24 : (Tryd.prog.info? 24).map (·.size) = some 3 := by kernel_rfl
end Go.Proofs.YtjfjdidibglhaabDoor.Fd

namespace Go.Proofs.YtjfjdidibglhaabDoor.Fd
open Go.RowKit

def inLB (bd : Int) (l : List Int) : Bool := l.all fun x => decide (0 ≤ x) && decide (x < bd)
theorem inLB_iff (bd : Int) (l : List Int) : inLB bd l = true ↔ inL bd l := by
  unfold inLB inL
  rw [List.all_eq_true]
  constructor
  · intro h j hj
    have := h l[j] (List.getElem_mem hj)
    simpa [hj] using this
  · intro h x hx
    obtain ⟨j, hj, rfl⟩ := List.mem_iff_getElem.1 hx
    have := h j hj
    simpa [hj] using this
theorem inLB_no {bd : Int} {l : List Int} (h : ¬ inL bd l) : inLB bd l = false := by
  rw [Bool.eq_false_iff]; exact fun e => h ((inLB_iff bd l).1 e)

set_option maxRecDepth 100000 in
set_option maxHeartbeats 400000 in
theorem allBelow_any (l : List Int) (v : Value) (bd : Int) (w : World) (hl : Sl w v l) (hll : l.length ≤ maxLen) :
    Calls Tryd.prog 100 #[v, .int .i64 bd] w fun e w' => e = .returned (.bool (inLB bd l)) ∧ w' = w := by
  unfold maxLen at hll
  obtain ⟨n, Hn⟩ : ∃ n : Nat, Hid (l.length = n) := ⟨_, rfl⟩
  have hn63 : n ≤ 9223372036854775807 := by have := Hn.out; omega
  obtain ⟨a, cap, rfl, hc⟩ := hl
  rw [Hn.out] at hc ⊢
  have HC : Hid (∀ j, j < n → ∃ b off, a = some ⟨b, off, none⟩ ∧ w.cell? ⟨b, off + j, none⟩ = some (.int .i64 (l.getD j 0))) := hc
  clear hc hll
  go_enter Tryd.func100, Tryd.ntmps100
  go_wp2
  go_loop [9] (fun i => ∃ j : Nat, i = .int .i64 j ∧ j ≤ n ∧ Hid (∀ t, t < j → 0 ≤ l.getD t 0 ∧ l.getD t 0 < bd)) (fun i => (n - intOf i).toNat)
  case atStart => exact ⟨0, rfl, by omega, (fun t ht => by omega : ∀ t, t < 0 → _)⟩
  case round =>
    obtain ⟨j, rfl, hj, HALL⟩ := hrel
    by_cases hlt : j < n
    · obtain ⟨z, Hz⟩ : ∃ z : Int, Hid (z = l.getD j 0) := ⟨_, rfl⟩
      obtain ⟨b, off, rfl, hcz⟩ := HC.out j hlt
      rw [← Hz.out] at hcz
      have hji : (j : Int) < n := by omega
      have hdec : decide ((j : Int) < n) = true := by simp; omega
      by_cases hz0 : z < 0
      · have hd : decide (z < 0) = true := by simpa using hz0
        go_wp2
        go_ret
        refine ⟨ret_bool (inLB_no fun h => ?_).symm, rfl⟩
        have := h j (by have := Hn.out; omega)
        rw [← Hz.out] at this
        omega
      · have hd : decide (z < 0) = false := by simpa using hz0
        by_cases hzp : bd ≤ z
        · have hd2 : decide (bd ≤ z) = true := by simpa using hzp
          go_wp2
          go_ret
          refine ⟨ret_bool (inLB_no fun h => ?_).symm, rfl⟩
          have := h j (by have := Hn.out; omega)
          rw [← Hz.out] at this
          omega
        · have hd2 : decide (bd ≤ z) = false := by simpa using hzp
          go_wp2
          go_round
          case rel =>
            refine ⟨j + 1, by go_num, by omega, (fun t ht => ?_ : ∀ t, t < j + 1 → _)⟩
            by_cases e : t = j
            · subst e; rw [← Hz.out]; omega
            · exact HALL.out t (by omega)
          case measure => simp [intOf]; omega
    · go_wp2
      go_ret
      exact ⟨ret_bool ((inLB_iff bd l).2 fun t ht => HALL.out t (by have := Hn.out; omega)).symm, rfl⟩

set_option maxRecDepth 100000 in
set_option maxHeartbeats 400000 in
theorem monic_any (l : List Int) (k : Nat) (v : Value) (w : World) (hl : Sl w v l) (hlk : l.length = k) (hk : 1 ≤ k) (hk' : k ≤ 10) :
    Calls Tryd.prog 101 #[v] w fun e w' => e = .returned (.agg (prow (monL l))) ∧ Below w.heap.size w w' := by
  obtain ⟨b, off, cap, rfl, hbw, hc⟩ := hl.form hlk (by omega)
  have hsz : (Tryd.prog.info? 3).map (·.size) = some 1 := by kernel_rfl
  have hr0 : Row ((w.alloc (.cells (prow fun _ => 0) 93)).alloc (.cells (prow fun _ => 0) 93)) w.heap.size (fun _ => 0) := (Row.made w _).alloc _
  have hr1 : Row ((w.alloc (.cells (prow fun _ => 0) 93)).alloc (.cells (prow fun _ => 0) 93)) (w.heap.size + 1) (fun _ => 0) := by
    have h := Row.made (w.alloc (.cells (prow fun _ => 0) 93)) (fun _ => 0)
    simpa using h
  have hb0 : Below w.heap.size w ((w.alloc (.cells (prow fun _ => 0) 93)).alloc (.cells (prow fun _ => 0) 93)) := ((Below.refl _ _).alloc (Nat.le_refl _) _).alloc (by simp) _
  have hlow : ∀ w2 : World, Hid (w2.heap[w.heap.size + 1]? = some (.cells (splice ((List.range 11).map fun _ => Value.int .i64 0) 0 (l.map (Value.int .i64))).toArray 93 (0, 0))) → Row w2 (w.heap.size + 1) (fun t => if t < k then l.getD t 0 else 0) := by
    intro w2 h
    unfold Row
    rw [h.out]
    congr 2
    apply Array.ext_getElem?
    intro j
    by_cases hj : j < 11
    · rw [prow_at _ _ hj]
      simp only [splice, List.take_zero, List.nil_append, List.getElem?_toArray, List.length_map, Nat.zero_add, hlk]
      by_cases hjk : j < k
      · rw [List.getElem?_append_left (by simp [hlk]; exact hjk), if_pos hjk]
        simp [hlk, hjk]
      · rw [List.getElem?_append_right (by simp [hlk]; omega), if_neg hjk]
        simp [hlk, show k + (j - k) = j by omega, hj]
    · have h1 : 11 ≤ j := by omega
      rw [Array.getElem?_eq_none (by simp [splice, hlk]; omega), Array.getElem?_eq_none (by simp; omega)]
  have hbR : Below (w.heap.size + 1) ((w.alloc (.cells (prow fun _ => 0) 93)).alloc (.cells (prow fun _ => 0) 93)) ((w.alloc (.cells (prow fun _ => 0) 93)).alloc (.cells (prow fun _ => 0) 93)) := Below.refl _ _
  have hki : (k : Int) < 11 := by omega
  rw [prow_zero] at hr0 hr1 hb0 hbR
  go_enter Tryd.func101, Tryd.ntmps101
  go_wp2_with (first
    | (refine wpList_copy_splice rfl _ _ 22 22 rfl 3 und22 hsz (some ⟨w.heap.size + 1, 0, none⟩) (some ⟨b, off, none⟩) 11 11 k cap rfl rfl (w.heap.size + 1) 0 ((List.range 11).map fun _ => Value.int .i64 0) 93 hr1 (l.map (Value.int .i64)) ?c1 ?c2 ?c3 ?c4 (w.heap.size + 1) _ hbR (Nat.le_refl _) ?_)
    | go_in)
  case c1 => show _ = min k 11; simp [hlk]; omega
  case c2 =>
    intro _ j z hz
    have hjl : j < k := by rw [← hlk]; exact (List.getElem?_eq_some_iff.1 hz).1
    have hx := hc j hjl
    have : l.getD j 0 = z := by simp [hz]
    rw [this] at hx
    exact hx
  case c3 => simp [hlk]; omega
  case c4 => intro v hv; simp at hv; obtain ⟨z, _, rfl⟩ := hv; rfl
  intro w2 HG hb2
  have hR := hlow w2 HG
  have hz2 : Row w2 w.heap.size (fun _ => 0) := (hb2.block w.heap.size (by omega)).trans hr0
  have hbb : Below w.heap.size w w2 := hb0.trans (hb2.mono (by omega))
  have hck := hR.cell k (by omega)
  have hfk := hR.frozen k
  have hRs := hR.set k 1
  have hzs := hz2.other ⟨w.heap.size + 1, k, none⟩ (.int .i64 1) (by simp)
  have hbs : Below w.heap.size w (w2.setCell ⟨w.heap.size + 1, k, none⟩ (.int .i64 1)) := hbb.setCell (by simp) _
  clear HG hlow hc hr0 hr1 hbR hb2
  go_wp2_with (first
    | (refine wpList_load_row rfl 93 _ rfl (w.heap.size + 1) rfl 93 _ (0, 0) _ hRs und51 rfl (inf51 _) ?_)
    | (refine wpList_store_row rfl 93 _ _ rfl w.heap.size _ rfl rfl 93 _ hzs (inf51 _) (by simp) (prow_one _) ?_))
  refine post_row 2 rfl rfl (hzs.whole _) rfl ⟨?_, bsetRow hbs (Nat.le_refl _) _⟩
  congr 2
  apply prow_congr
  intro t _
  unfold upd monL
  rw [hlk]
  by_cases e : t = k
  · subst e; simp
  · by_cases h : t < k
    · simp [e, h]
    · simp [e, h]

end Go.Proofs.YtjfjdidibglhaabDoor.Fd

/- The walk of times. -/
/- The walks of plus, number and times. -/
namespace Go.Proofs.YtjfjdidibglhaabDoor.Fd
open Go.RowKit

theorem three_rows (w : World) (f g : Nat → Int) : Row (((w.alloc (.cells (prow f) 93)).alloc (.cells (prow g) 93)).alloc (.cells #[.int .i64 0, .int .i64 0, .int .i64 0, .int .i64 0, .int .i64 0, .int .i64 0, .int .i64 0, .int .i64 0, .int .i64 0, .int .i64 0, .int .i64 0] 93)) w.heap.size f ∧
    Row (((w.alloc (.cells (prow f) 93)).alloc (.cells (prow g) 93)).alloc (.cells #[.int .i64 0, .int .i64 0, .int .i64 0, .int .i64 0, .int .i64 0, .int .i64 0, .int .i64 0, .int .i64 0, .int .i64 0, .int .i64 0, .int .i64 0] 93)) (w.heap.size + 1) g ∧
    Row (((w.alloc (.cells (prow f) 93)).alloc (.cells (prow g) 93)).alloc (.cells #[.int .i64 0, .int .i64 0, .int .i64 0, .int .i64 0, .int .i64 0, .int .i64 0, .int .i64 0, .int .i64 0, .int .i64 0, .int .i64 0, .int .i64 0] 93)) (w.heap.size + 1 + 1) (fun _ => 0) ∧
    Below w.heap.size w (((w.alloc (.cells (prow f) 93)).alloc (.cells (prow g) 93)).alloc (.cells #[.int .i64 0, .int .i64 0, .int .i64 0, .int .i64 0, .int .i64 0, .int .i64 0, .int .i64 0, .int .i64 0, .int .i64 0, .int .i64 0, .int .i64 0] 93)) := by
  refine ⟨((Row.made w f).alloc _).alloc _, ?_, ?_, (((Below.refl _ _).alloc (Nat.le_refl _) _).alloc (by simp) _).alloc (by simp; omega) _⟩
  · have h := (Row.made (w.alloc (.cells (prow f) 93)) g).alloc (.cells (prow fun _ => 0) 93)
    rw [← prow_zero]; simpa using h
  · have h := Row.made ((w.alloc (.cells (prow f) 93)).alloc (.cells (prow g) 93)) (fun _ => 0)
    rw [← prow_zero]; simpa using h

set_option maxRecDepth 100000 in
set_option maxHeartbeats 1000000 in
theorem plus_any (f g : Nat → Int) (p : Nat) (w : World) (hp : 2 ≤ p) (hp' : p ≤ 64) (hf : inP p f) (hg : inP p g) :
    Calls Tryd.prog 119 #[.agg (prow f), .agg (prow g), .int .i64 p] w fun e w' => e = .returned (.agg (prow (plusF f g p))) ∧ Below w.heap.size w w' := by
  go_enter Tryd.func119, Tryd.ntmps119
  go_wp2
  go_loopw [8] (fun i wr => ∃ j : Nat, i = .int .i64 j ∧ j ≤ 11 ∧ Row wr w.heap.size (plusTo f g p j) ∧ Row wr (w.heap.size + 1) g ∧ Row wr (w.heap.size + 1 + 1) (fun _ => 0) ∧ Below w.heap.size w wr) (fun i _ => (11 - intOf i).toNat)
  case atStart =>
    obtain ⟨h1, h2, h3, h4⟩ := three_rows w f g
    exact ⟨0, rfl, by omega, h1.congr (fun t _ => by simp [plusTo]), h2, h3, h4⟩
  case round =>
    obtain ⟨j, rfl, hj, hr, hrg, hz, hb⟩ := hrel
    by_cases hlt : j < 11
    · obtain ⟨a, Ha⟩ : ∃ a : Int, Hid (a = f j) := ⟨_, rfl⟩
      obtain ⟨c, Hc⟩ : ∃ c : Int, Hid (c = g j) := ⟨_, rfl⟩
      have ha0 := hf j
      rw [← Ha.out] at ha0
      have hc0 := hg j
      rw [← Hc.out] at hc0
      have hca := hr.cell j hlt
      rw [show plusTo f g p j j = f j by simp [plusTo], ← Ha.out] at hca
      have hcf := hr.frozen j
      have hcc := hrg.cell j hlt
      rw [← Hc.out] at hcc
      have hji : (j : Int) < 11 := by omega
      have hdec : decide ((j : Int) < 11) = true := by simp; omega
      go_wp2
      go_region
      all_goals
        go_wp2
        go_roundw
        case rel =>
          refine ⟨j + 1, by go_num, by omega, (hr.set j _).congr (fun t _ => ?_), hrg.other _ _ (by simp), hz.other _ _ (by simp; omega), (hb.setCell (Nat.le_refl _) _).drew⟩
          rw [Ha.out, Hc.out]; exact plusTo_succ f g p j t
        case measure => simp [intOf]; omega
    · go_wp2_with (first | (refine wpList_load_row rfl 93 _ rfl w.heap.size rfl 93 _ (0, 0) _ hr und51 rfl (inf51 _) ?_) | (refine wpList_store_row rfl 93 _ _ rfl (w.heap.size + 1 + 1) _ rfl rfl 93 _ hz (inf51 _) (by simp) (prow_one _) ?_))
      refine post_row 6 rfl rfl (hz.whole _) rfl ⟨?_, bsetRow hb (by omega) _⟩
      congr 2
      apply prow_congr
      intro t ht
      simp [plusTo, plusF, show t < j by omega]

set_option maxRecDepth 100000 in
set_option maxHeartbeats 1000000 in
theorem number_any (f : Nat → Int) (p k : Nat) (w : World) (hp : 2 ≤ p) (hp' : p ≤ 64) (hk1 : 1 ≤ k) (hk : k ≤ 6) (hpk : p ^ k ≤ 64) (hf : inP p f) (h0 : ∀ t, k ≤ t → t < 11 → f t = 0) :
    Calls Tryd.prog 103 #[.agg (prow f), .int .i64 p] w fun e w' => e = .returned (.int .i64 (hor f p k k)) ∧ Below w.heap.size w w' := by
  go_enter Tryd.func103, Tryd.ntmps103
  go_wp2
  go_loopw [5, 6] (fun n i wr => ∃ (x y : Int), i = .int .i64 x ∧ n = .int .i64 y ∧ -1 ≤ x ∧ x ≤ 10 ∧ Hid (y = hor f p k (k - 1 - x).toNat) ∧ Row wr w.heap.size f ∧ Below w.heap.size w wr) (fun _ i _ => (intOf i + 1).toNat)
  case atStart =>
    refine ⟨10, 0, rfl, rfl, by omega, by omega, ?_, Row.made w f, (Below.refl _ _).alloc (Nat.le_refl _) _⟩
    show 0 = hor f p k ((k : Int) - 1 - 10).toNat
    rw [show ((k : Int) - 1 - 10).toNat = 0 by omega]; rfl
  case round =>
    obtain ⟨x, y, rfl, rfl, hx1, hx2, HY, hr, hb⟩ := hrel
    have hbd := hor_bd (k := k) (show (2 : Int) ≤ p by omega) hf (k - 1 - x).toNat
    rw [← HY.out] at hbd
    by_cases hlt : 0 ≤ x
    · obtain ⟨i, rfl⟩ := Int.eq_ofNat_of_zero_le hlt
      have hpn : ((p : Int) ^ ((k : Int) - 1 - (i : Int)).toNat) ≤ 64 := by
        have h1 := pow_le_of (d := ((k : Int) - 1 - (i : Int)).toNat) hp (by omega) hpk
        have h2 : ((p ^ ((k : Int) - 1 - (i : Int)).toNat : Nat) : Int) ≤ 64 := by omega
        rwa [Int.natCast_pow] at h2
      have hy64 : y ≤ 64 := by omega
      have hy0 : 0 ≤ y := hbd.1
      clear hbd hpn
      obtain ⟨a, Ha⟩ : ∃ a : Int, Hid (a = f i) := ⟨_, rfl⟩
      have ha0 := hf i
      rw [← Ha.out] at ha0
      have hca := hr.cell i (by omega)
      rw [← Ha.out] at hca
      have hm0 : 0 ≤ y * p := Int.mul_nonneg hy0 (by omega)
      have hm1 : y * p ≤ 64 * 64 := Int.mul_le_mul hy64 (by omega) (by omega) (by omega)
      go_wp2
      go_roundw
      case rel =>
        refine ⟨(i : Int) - 1, y * p + a, rfl, rfl, by omega, by omega, ?_, hr, hb⟩
        show y * p + a = hor f p k ((k : Int) - 1 - ((i : Int) - 1)).toNat
        by_cases hik : i < k
        · rw [show ((k : Int) - 1 - ((i : Int) - 1)).toNat = ((k : Int) - 1 - (i : Int)).toNat + 1 by omega]
          show _ = hor f p k ((k : Int) - 1 - (i : Int)).toNat * p + f (k - 1 - ((k : Int) - 1 - (i : Int)).toNat)
          rw [← HY.out, Ha.out, show k - 1 - ((k : Int) - 1 - (i : Int)).toNat = i by omega]
        · have hy : y = 0 := by rw [HY.out, show ((k : Int) - 1 - (i : Int)).toNat = 0 by omega]; rfl
          rw [hy, Ha.out, h0 i (by omega) (by omega), show ((k : Int) - 1 - ((i : Int) - 1)).toNat = 0 by omega]
          simp [hor]
      case measure => simp [intOf]
    · go_wp2
      go_ret
      refine ⟨ret_int ?_, hb⟩
      rw [HY.out, show ((k : Int) - 1 - x).toNat = k by omega]

end Go.Proofs.YtjfjdidibglhaabDoor.Fd

namespace Go.Proofs.YtjfjdidibglhaabDoor.Fd
open Go.RowKit

theorem four_rows (w : World) (f g : Nat → Int) : ∃ W, W = ((((w.alloc (.cells (prow f) 93)).alloc (.cells (prow g) 93)).alloc (.cells #[.int .i64 0, .int .i64 0, .int .i64 0, .int .i64 0, .int .i64 0, .int .i64 0, .int .i64 0, .int .i64 0, .int .i64 0, .int .i64 0, .int .i64 0] 93)).alloc (.cells #[.int .i64 0, .int .i64 0, .int .i64 0, .int .i64 0, .int .i64 0, .int .i64 0, .int .i64 0, .int .i64 0, .int .i64 0, .int .i64 0, .int .i64 0] 93)) ∧ Row W w.heap.size f ∧ Row W (w.heap.size + 1) g ∧ Row W (w.heap.size + 1 + 1) (fun _ => 0) ∧ Row W (w.heap.size + 1 + 1 + 1) (fun _ => 0) ∧ Below w.heap.size w W := by
  obtain ⟨h1, h2, h3, h4⟩ := three_rows w f g
  refine ⟨_, rfl, h1.alloc _, h2.alloc _, h3.alloc _, ?_, h4.alloc h4.size _⟩
  have h := Row.made0 (((w.alloc (.cells (prow f) 93)).alloc (.cells (prow g) 93)).alloc (.cells #[.int .i64 0, .int .i64 0, .int .i64 0, .int .i64 0, .int .i64 0, .int .i64 0, .int .i64 0, .int .i64 0, .int .i64 0, .int .i64 0, .int .i64 0] 93))
  simpa using h

set_option maxRecDepth 100000 in
set_option maxHeartbeats 1000000 in
theorem times_any (f g : Nat → Int) (p : Nat) (w : World) (hp : 2 ≤ p) (hp' : p ≤ 64) (hf : inP p f) (hg : inP p g) :
    Calls Tryd.prog 102 #[.agg (prow f), .agg (prow g), .int .i64 p] w fun e w' => e = .returned (.agg (prow (mulN f g p 6 6))) ∧ Below w.heap.size w w' := by
  go_enter Tryd.func102, Tryd.ntmps102
  go_wp2
  go_loopw [10] (fun i wr => ∃ n : Nat, i = .int .i64 n ∧ n ≤ 6 ∧ Row wr w.heap.size f ∧ Row wr (w.heap.size + 1) g ∧ Row wr (w.heap.size + 1 + 1) (fun _ => 0) ∧ Row wr (w.heap.size + 1 + 1 + 1) (mulN f g p 6 n) ∧ Below w.heap.size w wr) (fun i _ => (6 - intOf i).toNat)
  case atStart =>
    obtain ⟨W, e, h1, h2, h3, h4, h5⟩ := four_rows w f g
    rw [← e]
    exact ⟨0, rfl, by omega, h1, h2, h3, h4, h5⟩
  case round =>
    obtain ⟨n, rfl, hn, hr, hrg, hz, hrc, hb⟩ := hrel
    by_cases hlt : n < 6
    · have hdec : decide ((n : Int) < 6) = true := by simp; omega
      go_wp2
      go_loopw [13] (fun i wr => ∃ m : Nat, i = .int .i64 m ∧ m ≤ 6 ∧ Row wr w.heap.size f ∧ Row wr (w.heap.size + 1) g ∧ Row wr (w.heap.size + 1 + 1) (fun _ => 0) ∧ Row wr (w.heap.size + 1 + 1 + 1) (mulRow (mulN f g p 6 n) (f n) g p n m) ∧ Below w.heap.size w wr) (fun i _ => (6 - intOf i).toNat)
      case atStart => exact ⟨0, rfl, by omega, hr, hrg, hz, hrc.congr (fun t _ => (mulRow_zero _ _ _ _ _ t).symm), hb⟩
      case round =>
        clear hr hrg hz hrc hb
        obtain ⟨m, rfl, hm, hr, hrg, hz, hrc, hb⟩ := hrel
        by_cases hlt2 : m < 6
        · obtain ⟨x, Hx⟩ : ∃ a : Int, Hid (a = mulN f g p 6 n (n + m)) := ⟨_, rfl⟩
          obtain ⟨a, Ha⟩ : ∃ a : Int, Hid (a = f n) := ⟨_, rfl⟩
          obtain ⟨c, Hc⟩ : ∃ c : Int, Hid (c = g m) := ⟨_, rfl⟩
          have hx0 := mulN_in (a := f) (b := g) (j := 6) (show (0 : Int) < p by omega) n (n + m)
          rw [← Hx.out] at hx0
          have ha0 := hf n
          rw [← Ha.out] at ha0
          have hc0 := hg m
          rw [← Hc.out] at hc0
          have hcx := hrc.cell (n + m) (by omega)
          rw [mulRow_at, ← Hx.out] at hcx
          have hcf := hrc.frozen (n + m)
          have hca := hr.cell n (by omega)
          rw [← Ha.out] at hca
          have hcc := hrg.cell m (by omega)
          rw [← Hc.out] at hcc
          have hm0 : 0 ≤ a * c := Int.mul_nonneg (by omega) (by omega)
          have hm1 : a * c ≤ 64 * 64 := Int.mul_le_mul (by omega) (by omega) (by omega) (by omega)
          have hdec2 : decide ((m : Int) < 6) = true := by simp; omega
          have hi1 : (n : Int) + m < 11 := by omega
          go_wp2
          go_region
          all_goals
            go_wp2
            go_roundw
            case rel =>
              refine ⟨m + 1, by go_num, by omega, hr.other _ _ (by simp <;> omega), hrg.other _ _ (by simp <;> omega), hz.other _ _ (by simp), (hrc.set (n + m) _).congr (fun t _ => ?_), (hb.setCell (by simp <;> omega) _).drew⟩
              rw [Hx.out, Ha.out, Hc.out]; exact mulRow_succ _ _ _ _ n m t
            case measure => simp [intOf]; omega
        · go_wp2
          go_roundw
          case rel =>
            refine ⟨n + 1, by go_num, by omega, hr, hrg, hz, hrc.congr (fun t _ => ?_), hb⟩
            rw [show m = 6 by omega]; rfl
          case measure => simp [intOf]; omega
    · go_wp2_with (first | (refine wpList_load_row rfl 93 _ rfl (w.heap.size + 1 + 1 + 1) rfl 93 _ (0, 0) _ hrc und51 rfl (inf51 _) ?_) | (refine wpList_store_row rfl 93 _ _ rfl (w.heap.size + 1 + 1) _ rfl rfl 93 _ hz (inf51 _) (by simp) (prow_one _) ?_))
      refine post_row 6 rfl rfl (hz.whole _) rfl ⟨?_, bsetRow hb (by omega) _⟩
      rw [show n = 6 by omega]

end Go.Proofs.YtjfjdidibglhaabDoor.Fd

/- The walk of irreducible. -/
/- The walk of polyOf: the digits of a number, as a row of eleven. -/
namespace Go.Proofs.YtjfjdidibglhaabDoor.Fd
open Go.RowKit

set_option maxRecDepth 100000 in
set_option maxHeartbeats 400000 in
theorem polyOf_any (n p : Nat) (w : World) (hn : n < 2048) (hp : 2 ≤ p) (hp' : p ≤ 64) :
    Calls Tryd.prog 58 #[.int .i64 n, .int .i64 p] w fun e w' => e = .returned (.agg (prow (digF n p))) ∧ Below w.heap.size w w' := by
  go_enter Tryd.func58, Tryd.ntmps58
  go_wp2
  go_loopw [0, 6] (fun m i wr => ∃ k c : Nat, i = .int .i64 k ∧ k ≤ 11 ∧ m = .int .i64 c ∧ Hid (c = n / p ^ k) ∧ Row wr (w.heap.size + 1) (digTo n p k) ∧ Row wr w.heap.size (fun _ => 0) ∧ Below w.heap.size w wr) (fun m _ _ => (intOf m).toNat)
  case atStart =>
    refine ⟨0, n, rfl, by omega, by simp, (show n = n / p ^ 0 by simp), ?_, (Row.made0 w).alloc _, ((Below.refl _ _).alloc (Nat.le_refl _) _).alloc (by simp) _⟩
    have h := Row.made0 (w.alloc (.cells #[.int .i64 0, .int .i64 0, .int .i64 0, .int .i64 0, .int .i64 0, .int .i64 0, .int .i64 0, .int .i64 0, .int .i64 0, .int .i64 0, .int .i64 0] 93))
    simp only [World.size_alloc] at h
    exact h.congr (fun j _ => by simp [digTo])
  case round =>
    obtain ⟨k, c, rfl, hk, rfl, HC, hr, hz, hb⟩ := hrel
    have hnn : c ≤ n := by rw [HC.out]; exact Nat.div_le_self _ _
    by_cases hlt : 0 < c
    · have hk10 := div_small n p k hn hp (by rw [← HC.out]; exact hlt)
      have hc := hr.cell k (by omega)
      have hf := hr.frozen k
      have hcp : c / p < c := Nat.div_lt_self hlt hp
      have HE : Hid (((c / p : Nat) : Int) = (c : Int) / (p : Int)) := Int.natCast_ediv c p
      have hq0 : 0 ≤ (c : Int) / (p : Int) := by rw [← HE.out]; exact Int.natCast_nonneg _
      have hq1 : (c : Int) / (p : Int) ≤ 2048 := by rw [← HE.out]; omega
      go_wp2
      go_roundw
      case rel =>
        refine ⟨k + 1, c / p, by go_num, by omega, by go_num, ?_, ?_, hz.other _ _ (by simp), hb.setCell (by simp) _⟩
        · show c / p = n / p ^ (k + 1)
          rw [div_succ, ← HC.out]
        · refine (hr.set k _).congr (fun j _ => ?_)
          have e : ((c : Int) % (p : Int)) = digF n p k := by rw [HC.out]; simp [digF]
          rw [e]; exact digTo_succ n p k j
      case measure => simp [intOf]; rw [← HE.out]; omega
    · go_wp2_with (first | (refine wpList_load_row rfl 93 _ rfl (w.heap.size + 1) rfl 93 _ (0, 0) _ hr und51 rfl (inf51 _) ?_) | (refine wpList_store_row rfl 93 _ _ rfl w.heap.size _ rfl rfl 93 _ hz (inf51 _) (by simp) (prow_one _) ?_))
      refine post_row 4 rfl rfl (hz.whole _) rfl ⟨?_, bsetRow hb (Nat.le_refl _) _⟩
      rw [prow_congr (fun j _ => digTo_full n p k (by rw [← HC.out]; omega) j)]

end Go.Proofs.YtjfjdidibglhaabDoor.Fd

/- The walk of modulo: what is left of a row, divided by a monic one. -/
namespace Go.Proofs.YtjfjdidibglhaabDoor.Fd
open Go.RowKit

set_option maxRecDepth 100000 in
set_option maxHeartbeats 1000000 in
theorem modulo_any (f m : Nat → Int) (d p : Nat) (w : World) (hp : 2 ≤ p) (hp' : p ≤ 64) (hd : 1 ≤ d) (hd6 : d ≤ 6) (hf : inP p f) (hm : inP p m) :
    Calls Tryd.prog 93 #[.agg (prow f), .agg (prow m), .int .i64 d, .int .i64 p] w fun e w' => e = .returned (.agg (prow (redN m d p (11 - d) f))) ∧ Below w.heap.size w w' := by
  go_enter Tryd.func93, Tryd.ntmps93
  go_wp2
  go_loopw [9] (fun i wr => ∃ x : Int, i = .int .i64 x ∧ (d : Int) ≤ x + 1 ∧ x ≤ 10 ∧ ∃ g, Row wr w.heap.size g ∧ Row wr (w.heap.size + 1) m ∧ Row wr (w.heap.size + 1 + 1) (fun _ => 0) ∧ inP p g ∧ Hid (redN m d p (x + 1 - d).toNat g = redN m d p (11 - d) f) ∧ Below w.heap.size w wr) (fun i _ => (intOf i + 1).toNat)
  case atStart =>
    refine ⟨10, rfl, by omega, by omega, f, ((Row.made w f).alloc _).alloc _, ?_, ?_, hf, ?_, (((Below.refl _ _).alloc (Nat.le_refl _) _).alloc (by simp) _).alloc (by simp; omega) _⟩
    · have h := (Row.made (w.alloc (.cells (prow f) 93)) m).alloc (.cells (prow fun _ => 0) 93)
      rw [← prow_zero]; simpa using h
    · have h := Row.made ((w.alloc (.cells (prow f) 93)).alloc (.cells (prow m) 93)) (fun _ => 0)
      rw [← prow_zero]; simpa using h
    · show redN m d p (10 + 1 - (d : Int)).toNat f = redN m d p (11 - d) f
      rw [show (10 + 1 - (d : Int)).toNat = 11 - d by omega]
  case round =>
    obtain ⟨x, rfl, hx1, hx2, g, hr, hrm, hz, hg, HR, hb⟩ := hrel
    by_cases hlt : (d : Int) ≤ x
    · obtain ⟨i0, rfl⟩ := Int.eq_ofNat_of_zero_le (show 0 ≤ x by omega)
      obtain ⟨b, Hb⟩ : ∃ b : Int, Hid (b = g i0) := ⟨_, rfl⟩
      have hb0 := hg i0
      rw [← Hb.out] at hb0
      have hcb := hr.cell i0 (by omega)
      rw [← Hb.out] at hcb
      go_wp2
      go_loopw [11] (fun j wr' => ∃ n : Nat, j = .int .i64 n ∧ n ≤ d + 1 ∧ Row wr' w.heap.size (rdTo g m d p i0 n) ∧ Row wr' (w.heap.size + 1) m ∧ Row wr' (w.heap.size + 1 + 1) (fun _ => 0) ∧ Below w.heap.size w wr') (fun j _ => (d + 1 - intOf j).toNat)
      case atStart => exact ⟨0, rfl, by omega, hr.congr (fun j _ => (rdTo_zero g m d p i0 j).symm), hrm, hz, hb⟩
      case round =>
        obtain ⟨n, rfl, hn, hr', hrm', hz', hb'⟩ := hrel
        by_cases hle : n ≤ d
        · obtain ⟨a, Ha⟩ : ∃ a : Int, Hid (a = g (i0 - d + n)) := ⟨_, rfl⟩
          obtain ⟨c, Hc⟩ : ∃ c : Int, Hid (c = m n) := ⟨_, rfl⟩
          have ha0 := hg (i0 - d + n)
          rw [← Ha.out] at ha0
          have hc0 := hm n
          rw [← Hc.out] at hc0
          have hi0 : (0 : Int) ≤ (i0 : Int) - d + n := by omega
          have hi1 : (i0 : Int) - d + n < 11 := by omega
          have hca := hr'.cell (i0 - d + n) (by omega)
          rw [rdTo_at, ← Ha.out] at hca
          have hcf := hr'.frozen (i0 - d + n)
          have hcc := hrm'.cell n (by omega)
          rw [← Hc.out] at hcc
          have hm0 : 0 ≤ ((p : Int) - b) * c := Int.mul_nonneg (by omega) (by omega)
          have hm1 : ((p : Int) - b) * c ≤ 64 * 64 := Int.mul_le_mul (by omega) (by omega) (by omega) (by omega)
          go_wp2
          go_region
          all_goals
            go_wp2
            go_roundw
            case rel =>
              refine ⟨n + 1, by go_num, by omega, (hr'.set (i0 - d + n) _).congr (fun t _ => rdTo_succ g m d p i0 n _ ?_ t), hrm'.other _ _ (by simp), hz'.other _ _ (by simp; omega), (hb'.setCell (Nat.le_refl _) _).drew⟩
              rw [← Ha.out, ← Hb.out, ← Hc.out]; exact sub_mod a b c p
            case measure => simp [intOf]; omega
        · go_wp2
          go_roundw
          case rel =>
            refine ⟨(i0 : Int) - 1, rfl, by omega, by omega, rd g m d p i0, hr'.congr (fun t _ => ?_), hrm', hz', rd_in (by omega) hg, ?_, hb'⟩
            · rw [show n = d + 1 by omega]; exact rdTo_full g m d p i0 (by omega) t
            · show redN m d p ((i0 : Int) - 1 + 1 - d).toNat (rd g m d p i0) = _
              rw [← HR.out]
              rw [show ((i0 : Int) + 1 - d).toNat = (i0 - d) + 1 by omega, show ((i0 : Int) - 1 + 1 - d).toNat = i0 - d by omega]
              show _ = redN m d p (i0 - d) (rd g m d p (d + (i0 - d)))
              rw [show d + (i0 - d) = i0 by omega]
          case measure => simp [intOf]
    · go_wp2_with (first | (refine wpList_load_row rfl 93 _ rfl w.heap.size rfl 93 _ (0, 0) _ hr und51 rfl (inf51 _) ?_) | (refine wpList_store_row rfl 93 _ _ rfl (w.heap.size + 1 + 1) _ rfl rfl 93 _ hz (inf51 _) (by simp) (prow_one _) ?_))
      have e : (x + 1 - (d : Int)).toNat = 0 := by omega
      have HR' := HR.out
      rw [e] at HR'
      refine post_row 8 rfl rfl (hz.whole _) rfl ⟨?_, bsetRow hb (by omega) _⟩
      rw [← HR']; rfl

end Go.Proofs.YtjfjdidibglhaabDoor.Fd

namespace Go.Proofs.YtjfjdidibglhaabDoor.Fd
open Go.RowKit

set_option maxRecDepth 100000 in
theorem part_prow (f : Nat → Int) (j : Nat) (h : j < 11) (w : World) : (part 3 (prow f) (j * Tryd.prog.cellsOf 3)).run Tryd.prog w = .ok (.int .i64 (f j)) w := by
  have : j = 0 ∨ j = 1 ∨ j = 2 ∨ j = 3 ∨ j = 4 ∨ j = 5 ∨ j = 6 ∨ j = 7 ∨ j = 8 ∨ j = 9 ∨ j = 10 := by omega
  rcases this with rfl | rfl | rfl | rfl | rfl | rfl | rfl | rfl | rfl | rfl | rfl <;> (change _ = _; kernel_rfl)
set_option maxRecDepth 100000 in
theorem eqItems_prow (f g : Nat → Int) (w : World) : ∀ js : List Nat, (∀ j ∈ js, j < 11) → (Op.eqItems 9999 3 (Tryd.prog.cellsOf 3) (prow f) (prow g) js).run Tryd.prog w = .ok (js.all fun j => f j == g j) w
  | [], _ => by simp [Op.eqItems]
  | j :: js, h => by
    have hj := h j (by simp)
    have ih := eqItems_prow f g w js (fun i hi => h i (by simp [hi]))
    simp only [Op.eqItems, Sem.run_bind, part_prow f j hj, part_prow g j hj, Result.andThen_ok, run_equalIn_int w 9998 3 .i64 .i64 (f j) (g j) und3]
    cases he : (f j == g j)
    · simp [he]
    · simp [he, ih]
def zB (g : Nat → Int) : Bool := (List.range 11).all fun j => g j == 0
theorem zB_iff (g : Nat → Int) : zB g = true ↔ isZ g := by
  unfold zB isZ
  rw [List.all_eq_true]
  simp
set_option maxRecDepth 100000 in
theorem eq51 (g : Nat → Int) (w : World) : (Op.equalIn 10000 93 (.agg (prow g)) (.agg #[.int .i64 0, .int .i64 0, .int .i64 0, .int .i64 0, .int .i64 0, .int .i64 0, .int .i64 0, .int .i64 0, .int .i64 0, .int .i64 0, .int .i64 0])).run Tryd.prog w = .ok (zB g) w := by
  rw [← prow_zero]
  have hs : (Tryd.prog.info? 3).isSome = true := by kernel_rfl
  obtain ⟨i, hi⟩ := Option.isSome_iff_exists.1 hs
  rw [run_equalIn_array w 9999 (prow g) (prow fun _ => 0) und51 hi]
  exact eqItems_prow g (fun _ => 0) w (List.range 11) (fun j hj => by simpa using hj)

set_option maxRecDepth 100000 in
set_option maxHeartbeats 1000000 in
theorem irreducible_any (f : Nat → Int) (k p : Nat) (w : World) (hp : 2 ≤ p) (hp' : p ≤ 64) (hk : 1 ≤ k) (hpk : p ^ k ≤ 64) (hf : inP p f) :
    Calls Tryd.prog 59 #[.agg (prow f), .int .i64 k, .int .i64 p] w fun e w' => ∃ b : Bool, e = .returned (.bool b) ∧ (b = true ↔ irrP f k p) ∧ Below w.heap.size w w' := by
  go_enter Tryd.func59, Tryd.ntmps59
  go_wp2
  go_loopw [7, 8] (fun q i wr => ∃ d c : Nat, i = .int .i64 d ∧ q = .int .i64 c ∧ 1 ≤ d ∧ Hid (c = p ^ d) ∧ Row wr w.heap.size f ∧ irrTo f p d 0 ∧ Below w.heap.size w wr ∧ 2 * d ≤ k + 2) (fun _ i _ => (k + 2 - 2 * intOf i).toNat)
  case atStart => exact ⟨1, p, rfl, rfl, by omega, (show p = p ^ 1 by simp), Row.made w f, ⟨fun e h1 h2 => by omega, fun b hb => by omega⟩, (Below.refl _ _).alloc (Nat.le_refl _) _, by omega⟩
  case round =>
    obtain ⟨d, c, rfl, rfl, hd, HC, hr, hi, hb, h2d⟩ := hrel
    have hk6 := deg_le hp hpk
    have hd6 : 2 * d ≤ k → d ≤ 6 := fun h => by omega
    have hc : c ≤ 64 := by rw [HC.out]; exact pow_le_of hp (by omega) hpk
    have hc0 : 0 < c := by rw [HC.out]; exact Nat.pow_pos (by omega)
    have HI : Hid (irrTo f p d 0) := hi
    clear hi
    by_cases hle : 2 * d ≤ k
    · have hdec : decide (2 * (d : Int) ≤ k) = true := by simp; omega
      go_wp2
      go_loopw [9] (fun j wr' => ∃ n : Nat, j = .int .i64 n ∧ c ≤ n ∧ n ≤ 2 * c ∧ Row wr' w.heap.size f ∧ irrTo f p d (n - c) ∧ Below w.heap.size w wr') (fun j _ => (2 * c - intOf j).toNat)
      case atStart => exact ⟨c, rfl, by omega, by omega, hr, by rw [Nat.sub_self]; exact HI.out, hb⟩
      case round =>
        obtain ⟨n, rfl, hn1, hn2, hr', hi', hb'⟩ := hrel
        by_cases hlt : n < 2 * c
        · have hlt' := hr'.lt
          have c0 := hr'.cells
          have hdec2 : decide ((n : Int) < 2 * c) = true := by simp; omega
          have HN : Hid (n = p ^ d + (n - c)) := by
            show n = p ^ d + (n - c)
            rw [← HC.out]; omega
          cases hzz : zB (redN (digF n p) d p (11 - d) f)
          · have heq : ∀ w, (Op.equalIn 10000 93 (.agg (prow (redN (digF n p) d p (11 - d) f))) (.agg #[.int .i64 0, .int .i64 0, .int .i64 0, .int .i64 0, .int .i64 0, .int .i64 0, .int .i64 0, .int .i64 0, .int .i64 0, .int .i64 0, .int .i64 0])).run Tryd.prog w = .ok false w := fun w => by rw [eq51, hzz]
            go_wp2
            go_region_with (first | (go_at_call 58; refine (polyOf_any n p _ (by omega) hp hp').mono ?_; rintro e w1 ⟨rfl, hb1⟩; have c1 := (hr'.drew.below hb1).cells) | (go_at_call 93; refine (modulo_any f (digF n p) d p _ hp hp' hd (hd6 hle) hf (digF_in n p (by omega))).mono ?_; rintro e w2 ⟨rfl, hb2⟩))
            all_goals
              go_wp2
              go_roundw
              case rel =>
                have hirr : irrTo f p d (n + 1 - c) := by
                  rw [show n + 1 - c = (n - c) + 1 by omega]
                  refine irrTo_succ hi' ?_
                  rw [← HN.out, ← zB_iff, hzz]
                  decide
                have hbb := (hb'.drew.trans (hb1.mono hb'.size)).trans (hb2.mono ((hb'.drew.trans (hb1.mono hb'.size)).size))
                have hrr := (hr'.drew.below hb1).below hb2
                first
                  | exact ⟨n + 1, by go_num, by omega, by omega, hrr, hirr, hbb⟩
                  | ((repeat apply Exists.intro); exact ⟨⟨n + 1, by go_num, by omega, by omega, hrr, hirr, hbb⟩, rfl⟩)
              case measure => simp [intOf]; omega
          · have heq : ∀ w, (Op.equalIn 10000 93 (.agg (prow (redN (digF n p) d p (11 - d) f))) (.agg #[.int .i64 0, .int .i64 0, .int .i64 0, .int .i64 0, .int .i64 0, .int .i64 0, .int .i64 0, .int .i64 0, .int .i64 0, .int .i64 0, .int .i64 0])).run Tryd.prog w = .ok true w := fun w => by rw [eq51, hzz]
            go_wp2
            go_region_with (first | (go_at_call 58; refine (polyOf_any n p _ (by omega) hp hp').mono ?_; rintro e w1 ⟨rfl, hb1⟩; have c1 := (hr'.drew.below hb1).cells) | (go_at_call 93; refine (modulo_any f (digF n p) d p _ hp hp' hd (hd6 hle) hf (digF_in n p (by omega))).mono ?_; rintro e w2 ⟨rfl, hb2⟩))
            all_goals
              go_wp2
              go_ret
              refine ⟨false, ret_bool rfl, ⟨fun h => absurd h Bool.false_ne_true, fun h => absurd h (irr_not (b := n - c) hd hle (by rw [← HC.out]; omega) ?_)⟩, (hb'.drew.trans (hb1.mono hb'.size)).trans (hb2.mono ((hb'.drew.trans (hb1.mono hb'.size)).size))⟩
              rw [← HN.out, ← zB_iff, hzz]
        · have hpc : p * c ≤ 64 * 64 := Nat.mul_le_mul hp' hc
          have hpc' : (c : Int) * p ≤ 64 * 64 := by
            have : ((p * c : Nat) : Int) ≤ 64 * 64 := by omega
            rw [Int.natCast_mul, Int.mul_comm] at this
            exact this
          have hpc0 : 0 ≤ (c : Int) * p := Int.mul_nonneg (by omega) (by omega)
          go_wp2
          go_roundw
          case rel =>
            refine ⟨d + 1, c * p, by go_num, by simp, by omega, ?_, hr', ?_, hb', by omega⟩
            · show c * p = p ^ (d + 1)
              rw [Nat.pow_succ, ← HC.out]
            · refine irrTo_next ?_
              rw [← HC.out, show c = n - c by omega]
              exact hi'
          case measure => simp [intOf]; omega
    · go_wp2
      go_ret
      exact ⟨true, ret_bool rfl, ⟨fun _ => irr_done HI.out (by omega), fun _ => rfl⟩, hb⟩

end Go.Proofs.YtjfjdidibglhaabDoor.Fd

/- The walks of Number, Size, In and Product of the document's answer. -/
/- The walks of IsPrime and OrderOf of the document's answer. -/
namespace Go.Proofs.YtjfjdidibglhaabDoor.Fd
open Go.RowKit

set_option maxRecDepth 100000 in
set_option maxHeartbeats 400000 in
theorem isPrimeRef_any (n : Int) (w : World) (hn : n ≤ 64) :
    Calls Tryd.prog 42 #[.int .i64 n] w fun e w' => e = .returned (.bool (isPrimeB n)) ∧ w' = w := by
  by_cases h2 : n < 2
  · have HO : Hid (isPrimeB n = false) := by
      show isPrimeB n = false
      rw [Bool.eq_false_iff]; intro h; have := prime_bd h; omega
    go_enter Tryd.func42, Tryd.ntmps42
    go_wp2
    go_ret
    exact ⟨ret_bool HO.out.symm, rfl⟩
  · have hd2 : decide (n < 2) = false := by simpa using h2
    have hd1 : decide (100000 < n) = false := by simp; omega
    obtain ⟨m, rfl⟩ := Int.eq_ofNat_of_zero_le (show 0 ≤ n by omega)
    go_enter Tryd.func42, Tryd.ntmps42
    go_wp2
    go_loop [3] (fun i => ∃ d : Nat, 2 ≤ d ∧ d ≤ 9 ∧ i = .int .i64 d ∧ noDiv m d = true) (fun i => (9 - intOf i).toNat)
    case atStart => exact ⟨2, by omega, by omega, rfl, noDiv_two m⟩
    case round =>
      obtain ⟨d, hd2', hd9, rfl, hno⟩ := hrel
      have HN : Hid (noDiv m d = true) := hno
      clear hno
      have hmm : d * d ≤ 81 := Nat.mul_le_mul hd9 hd9
      have hmi : ((d * d : Nat) : Int) = (d : Int) * d := by simp
      have hz : (0 : Int) ≤ (d : Int) * d := by omega
      have hz2 : (d : Int) * d ≤ 81 := by omega
      by_cases hle : d * d ≤ m
      · have hle' : (d : Int) * d ≤ m := by omega
        have hd8 : d < 9 := by
          apply Classical.byContradiction; intro h
          have : 9 * 9 ≤ d * d := Nat.mul_le_mul (by omega) (by omega)
          omega
        clear hmi
        by_cases hr : m % d = 0
        · have HO : Hid (isPrimeB (m : Int) = false) := prime_not_div m (by omega) d hd8 hd2' hle hr
          have hb : ((m : Int) % (d : Int) == 0) = true := by simp; omega
          clear hr
          go_wp2
          go_ret
          exact ⟨ret_bool HO.out.symm, rfl⟩
        · have hb : ((m : Int) % (d : Int) == 0) = false := by simp; omega
          go_wp2
          go_round
          case rel => exact ⟨d + 1, by omega, by omega, by go_num, noDiv_succ m d HN.out hr⟩
          case measure => simp [intOf]; omega
      · have hle' : ¬ (d : Int) * d ≤ m := by omega
        have HO : Hid (isPrimeB (m : Int) = true) := prime_by_div m (by omega) d (by omega) (by omega) hd2' (by omega) HN.out
        clear hmi
        go_wp2
        go_ret
        exact ⟨ret_bool HO.out.symm, rfl⟩

set_option maxRecDepth 100000 in
set_option maxHeartbeats 400000 in
theorem orderOf_any (p k : Int) (w : World) :
    Calls Tryd.prog 20 #[.int .i64 p, .int .i64 k] w fun e w' => e = .returned (.int .i64 (ordZ p k)) ∧ w' = w := by
  by_cases h64 : 64 < p
  · have HO : Hid (ordZ p k = 0) := ord_no (by rw [Bool.eq_false_iff]; intro h; have := prime_bd h; omega)
    go_enter Tryd.func20, Tryd.ntmps20
    go_wp2
    go_ret
    exact ⟨ret_int HO.out.symm, rfl⟩
  · have hd64 : decide (64 < p) = false := by simpa using h64
    by_cases h1 : k < 1
    · have HO : Hid (ordZ p k = 0) := ord_lo h1
      go_enter Tryd.func20, Tryd.ntmps20
      go_wp2
      go_ret
      exact ⟨ret_int HO.out.symm, rfl⟩
    · have hd1 : decide (k < 1) = false := by simpa using h1
      cases hp : isPrimeB p
      · have HO : Hid (ordZ p k = 0) := ord_no hp
        go_enter Tryd.func20, Tryd.ntmps20
        go_wp2_with (go_at_call 42; refine (isPrimeRef_any _ _ (by omega)).mono ?_; rintro e w' ⟨rfl, rfl⟩)
        go_ret
        exact ⟨ret_int HO.out.symm, rfl⟩
      · have hb := prime_bd hp
        have HP : Hid (isPrimeB p = true) := hp
        go_enter Tryd.func20, Tryd.ntmps20
        go_wp2_with (go_at_call 42; refine (isPrimeRef_any _ _ (by omega)).mono ?_; rintro e w' ⟨rfl, rfl⟩)
        go_loop [6, 7] (fun q i => ∃ j : Nat, (j : Int) ≤ k ∧ i = .int .i64 j ∧ q = .int .i64 (p ^ j) ∧ p ^ j ≤ 64) (fun _ i => (k - intOf i).toNat)
        case atStart => exact ⟨0, by omega, rfl, by simp, by simp⟩
        case round =>
          obtain ⟨j, hj, rfl, rfl, hq⟩ := hrel
          have hq1 := (pow_mono_step p hb.1 j j (Nat.le_refl _)).1
          have hj7 : j < 7 := by
            apply Classical.byContradiction; intro h
            have := pow_two_le p hb.1 j (by omega)
            omega
          by_cases hlt : (j : Int) < k
          · have hm : p ^ j * p ≤ 64 * 61 := Int.mul_le_mul hq hb.2 (by omega) (by omega)
            have hm0 : 0 ≤ p ^ j * p := Int.mul_nonneg (by omega) (by omega)
            have HS : Hid (p ^ (j + 1) = p ^ j * p) := Int.pow_succ p j
            by_cases ho : 64 < p ^ j * p
            · have HO : Hid (ordZ p k = 0) := ord_over hb.1 (j + 1) (by omega) (by rw [HS.out]; exact ho)
              go_wp2
              go_ret
              exact ⟨ret_int HO.out.symm, rfl⟩
            · go_wp2
              go_round
              case rel => exact ⟨j + 1, by omega, by go_num, by rw [HS.out], by rw [HS.out]; omega⟩
              case measure => simp [intOf]; omega
          · have HO : Hid (ordZ p k = p ^ j) := by
              show ordZ p k = p ^ j
              have : k.toNat = j := by omega
              rw [ord_eq HP.out (by omega) (by rw [this]; exact hq), this]
            go_wp2
            go_ret
            exact ⟨ret_int HO.out.symm, rfl⟩

end Go.Proofs.YtjfjdidibglhaabDoor.Fd

namespace Go.Proofs.YtjfjdidibglhaabDoor.Fd
open Go.RowKit

set_option maxRecDepth 100000 in
set_option maxHeartbeats 400000 in
theorem size_any (p k : Int) (v : Value) (w : World) :
    Calls Tryd.prog 8 #[.agg #[.int .i64 p, .int .i64 k, v]] w fun e w' => e = .returned (.int .i64 (ordZ p k)) ∧ Below w.heap.size w w' := by
  go_enter Tryd.func8, Tryd.ntmps8
  go_wp2_with (go_at_call 20; refine (orderOf_any p k _).mono ?_; rintro e w' ⟨rfl, rfl⟩)
  go_ret
  exact ⟨rfl, (Below.refl _ _).alloc (Nat.le_refl _) _⟩

def inB (q a : Int) : Bool := decide (0 ≤ a) && decide (a < q)
set_option maxRecDepth 100000 in
set_option maxHeartbeats 1000000 in
theorem product_any (f g : Nat → Int) (p k b off cap b' off' cap' : Nat) (w : World) (hc : ∀ j, j < k → w.cell? ⟨b, off + j, none⟩ = some (.int .i64 (f j))) (hc' : ∀ j, j < k → w.cell? ⟨b', off' + j, none⟩ = some (.int .i64 (g j)))
    (hp : 2 ≤ p) (hp' : p ≤ 64) (hk1 : 1 ≤ k) (hk : k ≤ 6) (hf : inP p f) (hg : inP p g) :
    Calls Tryd.prog 53 #[.slice (some ⟨b, off, none⟩) k cap, .slice (some ⟨b', off', none⟩) k cap', .int .i64 p] w fun e w' => ∃ G, e = .returned (.slice (some ⟨G, 0, none⟩) (k + k) (k + k)) ∧ w.heap.size ≤ G ∧ Own w' G (k + k) (mulN f g p k k) ∧ Below w.heap.size w w' := by
  obtain ⟨i3, hi, hz0, hz1, hz2⟩ := info3
  have hmk : ∀ w : World, (Instr.makeSlice 22 (.int .i64 ((k : Int) + k)) (.int .i64 ((k : Int) + k))).run Tryd.prog w = .ok (.slice (some ⟨w.heap.size, 0, none⟩) (k + k) (k + k)) (w.alloc (.cells (madeCells #[.int .i64 0] (k + k)) 3)) := fun w => by
    have h := run_make (P := Tryd.prog) w 22 3 i3 (.int .i64 0) und22 hi hz0 .i64 .i64 (k + k) (k + k) (by omega) (by omega) (by rw [hz2]; omega) (by omega)
    rw [hz1, show ((k : Int) + k).toNat = k + k by omega] at h
    simpa [Value.cells] using h
  have hO : Own (w.alloc (.cells (madeCells #[.int .i64 0] (k + k)) 3)) w.heap.size (k + k) (mulN f g p k 0) := by
    refine ⟨_, heap_alloc_new w _, fun j hj => ?_⟩
    have hs : j < (madeCells #[Value.int .i64 0] (k + k)).size := by rw [size_madeCells]; exact hj
    rw [Array.getElem?_eq_getElem hs]
    simp [madeCells, mulN, Nat.mod_one]
  have hbw : b < w.heap.size := by simpa using block_lt_of_cell (hc 0 (by omega))
  have hbw' : b' < w.heap.size := by simpa using block_lt_of_cell (hc' 0 (by omega))
  clear hi
  go_enter Tryd.func53, Tryd.ntmps53
  go_wp2
  go_loopw [8] (fun i wr => ∃ n : Nat, i = .int .i64 n ∧ n ≤ k ∧ Own wr w.heap.size (k + k) (mulN f g p k n) ∧ Below w.heap.size w wr) (fun i _ => (k - intOf i).toNat)
  case atStart => exact ⟨0, rfl, by omega, hO, (Below.refl _ _).alloc (Nat.le_refl _) _⟩
  case round =>
    clear hO
    obtain ⟨n, rfl, hn, hO, hb⟩ := hrel
    by_cases hlt : n < k
    · have hdec : decide ((n : Int) < k) = true := by simp; omega
      go_wp2
      go_loopw [9] (fun i wr => ∃ m : Nat, i = .int .i64 m ∧ m ≤ k ∧ Own wr w.heap.size (k + k) (mulRow (mulN f g p k n) (f n) g p n m) ∧ Below w.heap.size w wr) (fun i _ => (k - intOf i).toNat)
      case atStart => exact ⟨0, rfl, by omega, hO.congr (fun t _ => (mulRow_zero _ _ _ _ _ t).symm), hb⟩
      case round =>
        clear hO hb
        obtain ⟨m, rfl, hm, hO, hb⟩ := hrel
        by_cases hlt2 : m < k
        · obtain ⟨x, Hx⟩ : ∃ a : Int, Hid (a = mulN f g p k n (n + m)) := ⟨_, rfl⟩
          obtain ⟨a, Ha⟩ : ∃ a : Int, Hid (a = f n) := ⟨_, rfl⟩
          obtain ⟨c, Hc⟩ : ∃ c : Int, Hid (c = g m) := ⟨_, rfl⟩
          have hx0 := mulN_in (a := f) (b := g) (j := k) (show (0 : Int) < p by omega) n (n + m)
          rw [← Hx.out] at hx0
          have ha0 := hf n
          rw [← Ha.out] at ha0
          have hc0 := hg m
          rw [← Hc.out] at hc0
          have hcx := hO.cell (n + m) (by omega)
          rw [mulRow_at, ← Hx.out] at hcx
          have hcf := hO.frozen (n + m)
          have hca := (hb.cell (p := ⟨b, off + n, none⟩) hbw).trans (hc n hlt)
          rw [← Ha.out] at hca
          have hcc := (hb.cell (p := ⟨b', off' + m, none⟩) hbw').trans (hc' m hlt2)
          rw [← Hc.out] at hcc
          have hm0 : 0 ≤ a * c := Int.mul_nonneg (by omega) (by omega)
          have hm1 : a * c ≤ 64 * 64 := Int.mul_le_mul (by omega) (by omega) (by omega) (by omega)
          have hdec2 : decide ((m : Int) < k) = true := by simp; omega
          have hi1 : (n : Int) + m < k + k := by omega
          have hi2 : (n : Int) < k := by omega
          have hi3 : (m : Int) < k := by omega
          go_wp2
          go_region
          all_goals
            go_wp2
            go_roundw
            case rel =>
              refine ⟨m + 1, by go_num, by omega, (hO.set (n + m) _).congr (fun t _ => ?_), (hb.setCell (Nat.le_refl _) _).drew⟩
              rw [Hx.out, Ha.out, Hc.out]; exact mulRow_succ _ _ _ _ n m t
            case measure => simp [intOf]; omega
        · go_wp2
          go_roundw
          case rel =>
            refine ⟨n + 1, by go_num, by omega, hO.congr (fun t _ => ?_), hb⟩
            rw [show m = k by omega]; rfl
          case measure => simp [intOf]; omega
    · go_wp2
      go_ret
      exact ⟨w.heap.size, rfl, Nat.le_refl _, (by rw [show n = k by omega] at hO; exact hO), hb⟩

end Go.Proofs.YtjfjdidibglhaabDoor.Fd

/- The walk of LeastField: the first field of an order, as the document's answer has it. -/
/- The walks of low and of Fields. -/
/- The walks of Ints and Fields: are two lists, two fields the same? -/
namespace Go.Proofs.YtjfjdidibglhaabDoor.Fd
open Go.RowKit

end Go.Proofs.YtjfjdidibglhaabDoor.Fd

namespace Go.Proofs.YtjfjdidibglhaabDoor.Fd
open Go.RowKit

set_option maxRecDepth 100000 in
set_option maxHeartbeats 400000 in
theorem low_any (f : Nat → Int) (k : Nat) (w : World) (hk : 1 ≤ k) (hk' : k ≤ 11) :
    Calls Tryd.prog 60 #[.agg (prow f), .int .i64 k] w fun e w' => ∃ g cap, e = .returned (.slice (some ⟨g, 0, none⟩) k cap) ∧ w.heap.size ≤ g ∧ Own w' g k f ∧ Below w.heap.size w w' := by
  obtain ⟨i3, hi, hz0, hz1, hz2⟩ := info3
  have hmk : ∀ w : World, (Instr.makeSlice 22 (.int .i64 (k : Int)) (.int .i64 (k : Int))).run Tryd.prog w = .ok (.slice (some ⟨w.heap.size, 0, none⟩) k k) (w.alloc (.cells (madeCells #[.int .i64 0] k) 3)) := fun w => by
    have h := run_make (P := Tryd.prog) w 22 3 i3 (.int .i64 0) und22 hi hz0 .i64 .i64 k k (by omega) (by omega) (by rw [hz2]; omega) (by omega)
    rw [hz1] at h
    simpa [Value.cells] using h
  have hsz : (Tryd.prog.info? 3).map (·.size) = some 1 := by kernel_rfl
  have hrow := (Row.made w f).alloc (.cells (madeCells #[.int .i64 0] k) 3)
  have hnew : ((w.alloc (.cells (prow f) 93)).alloc (.cells (madeCells #[.int .i64 0] k) 3)).heap[w.heap.size + 1]? = some (.cells (madeCells #[.int .i64 0] k) 3 (0, 0)) := heap_alloc2_new w _ _
  clear hi
  go_enter Tryd.func60, Tryd.ntmps60
  go_wp2_with (first
    | (refine wpList_copy_own rfl _ _ 22 22 rfl 3 und22 hsz (w.heap.size + 1) 0 k k ⟨w.heap.size, 0, none⟩ 11 11 rfl rfl (madeCells #[.int .i64 0] k) 3 hnew ((List.range k).map fun j => Value.int .i64 (f j)) ?c1 ?c2 ?c3 ?c4 ?_)
    | go_in)
  case c1 => show _ = min 11 k; simp; omega
  case c2 =>
    intro j v hj
    simp only [List.getElem?_map, Option.map_eq_some_iff] at hj
    obtain ⟨z, hz, rfl⟩ := hj
    have hjk : j < k := by
      have := (List.getElem?_eq_some_iff.1 hz).1
      simpa using this
    have hzj : z = j := by
      have h := (List.getElem?_eq_some_iff.1 hz).2
      simpa using h.symm
    subst hzj
    have hx := hrow.cell z (by omega)
    by_cases e : z = 0
    · subst e; simpa [Addr.add] using hx
    · simpa [Addr.add, e] using hx
  case c3 => simp [size_madeCells]
  case c4 => intro v hv; simp at hv; obtain ⟨z, _, rfl⟩ := hv; rfl
  go_wp2
  go_ret
  refine ⟨w.heap.size + 1, k, rfl, by omega, ⟨_, setRow_heap _ _ _ _ _ _ hnew, fun j hj => ?_⟩, bsetRow (((Below.refl _ _).alloc (Nat.le_refl _) _).alloc (by simp) _) (by omega) _⟩
  simp [hj, List.getElem?_append]

end Go.Proofs.YtjfjdidibglhaabDoor.Fd

/- The walk of Fault: what is wrong with a field. -/
/- The walk of Digits: the digits of a number, in new memory. -/
namespace Go.Proofs.YtjfjdidibglhaabDoor.Fd
open Go.RowKit

end Go.Proofs.YtjfjdidibglhaabDoor.Fd

/- The walk of divides. -/
namespace Go.Proofs.YtjfjdidibglhaabDoor.Fd
open Go.RowKit

end Go.Proofs.YtjfjdidibglhaabDoor.Fd

namespace Go.Proofs.YtjfjdidibglhaabDoor.Fd
open Go.RowKit

end Go.Proofs.YtjfjdidibglhaabDoor.Fd

/- The walks of Least and of LeastField: the first field of an order. -/
namespace Go.Proofs.YtjfjdidibglhaabDoor.Fd
open Go.RowKit

theorem one3 (p k : Int) (v : Value) (h : v.oneCell' = true) : (#[.int .i64 p, .int .i64 k, v] : Array Value).all (·.oneCell') = true := by
  have h1 : ∀ z : Int, (Value.int .i64 z).oneCell' = true := fun _ => rfl
  simp [h, h1]

set_option maxRecDepth 100000 in
set_option maxHeartbeats 1000000 in
theorem least_any (p k : Int) (w : World) (hT : Tab w) :
    Calls Tryd.prog 28 #[.int .i64 p, .int .i64 k] w fun e w' => ∃ (q d : Int) (v : Value) (l : List Int) (z : Int), e = .returned (.tuple #[.agg #[.int .i64 q, .int .i64 d, v], .int .i64 z]) ∧ Sl w' v l ∧ LeastIs p k q d l z ∧ Below w.heap.size w w' := by
  by_cases h0 : ordZ p k = 0
  · have HO : Hid (ordZ p k = 0) := h0
    have hbb : (ordZ p k == 0) = true := by simp [h0]
    clear h0
    go_enter Tryd.func28, Tryd.ntmps28
    go_wp2_with (go_at_call 57; refine (order_any p k _ (hT.alloc _)).mono ?_; rintro e w' ⟨rfl, rfl⟩)
    exact bodyPost_ret (v := .tuple #[.agg #[.int .i64 0, .int .i64 0, .slice none 0 0], .int .i64 1]) (by simp [results, Tryd.results28, go_sem]) rfl ⟨0, 0, _, [], 1, rfl, Sl.nil _, .inl ⟨HO.out, rfl, rfl, rfl, rfl⟩, (Below.refl _ _).alloc (Nat.le_refl _) _⟩
  · obtain ⟨P, K, rfl, rfl, hP, hP', hK, hK', hPK, hq⟩ := ord_nat h0
    have HN0 : Hid (ordZ (P : Int) K ≠ 0) := h0
    obtain ⟨Q, HQ⟩ : ∃ Q : Nat, Hid (Q = P ^ K) := ⟨_, rfl⟩
    rw [← HQ.out] at hq
    have hQ64 : Q ≤ 64 := by rw [HQ.out]; exact hPK
    have hQ0 : 0 < Q := by rw [HQ.out]; exact Nat.pow_pos (by omega)
    have hbb : ((Q : Int) == 0) = false := by simp; omega
    clear h0
    go_enter Tryd.func28, Tryd.ntmps28
    go_wp2_with (go_at_call 57; refine (order_any P K _ (hT.alloc _)).mono ?_; rintro e w' ⟨rfl, rfl⟩)
    go_loopw [7] (fun i wr => ∃ n : Nat, i = .int .i64 n ∧ Q ≤ n ∧ n ≤ 2 * Q ∧ Hid (∀ m, m < n - Q → ¬ goodAt P K m) ∧ FB wr w.heap.size 0 0 (.slice none 0 0) ∧ Below w.heap.size w wr) (fun i _ => (2 * Q - intOf i).toNat)
    case atStart => exact ⟨Q, rfl, by omega, by omega, (fun m hm => by omega : ∀ m, m < Q - Q → _), FB.made w 0 0 (.slice none 0 0), (Below.refl _ _).alloc (Nat.le_refl _) _⟩
    case round =>
      obtain ⟨n, rfl, hn1, hn2, HG, hF, hb⟩ := hrel
      by_cases hlt : n < 2 * Q
      · have hdec : decide ((n : Int) < 2 * Q) = true := by simp; omega
        go_wp2_with fail
        refine (polyOf_any n P _ (by omega) hP (by omega)).mono ?_
        rintro e w1 ⟨rfl, hb1⟩
        have hF1 := hF.below hb1
        have hb1' : Below w.heap.size w w1 := hb.trans (hb1.mono hb.size)
        have hFl := hF1.lt
        have hnew := Row.made0 w1
        go_wp2_with (first
          | (refine wpList_store_row rfl 93 _ _ rfl w1.heap.size (prow (digF n P)) rfl rfl 93 _ hnew (inf51 _) (by simp) (prow_one _) ?_)
          | (refine wpList_load_row rfl 93 _ rfl w1.heap.size rfl 93 _ (0, 0) _ (hnew.whole (digF n P)) und51 rfl (inf51 _) ?_))
        refine (irreducible_any (digF n P) K P _ hP (by omega) hK hPK (digF_in n P (by omega))).mono ?_
        rintro e w2 ⟨r, rfl, hr, hb2⟩
        have hbA : Below w1.heap.size w1 ((w1.alloc (.cells #[.int .i64 0, .int .i64 0, .int .i64 0, .int .i64 0, .int .i64 0, .int .i64 0, .int .i64 0, .int .i64 0, .int .i64 0, .int .i64 0, .int .i64 0] 93)).setRow w1.heap.size (prow (digF n P))) := bsetRow ((Below.refl _ _).alloc (Nat.le_refl _) _) (Nat.le_refl _) _
        have hF2 := (hF1.below hbA).below hb2
        have hR2 := (hnew.whole (digF n P)).below hb2
        have hb12 : Below w.heap.size w w2 := (hb1'.trans (hbA.mono hb1'.size)).trans (hb2.mono (hb1'.trans (hbA.mono hb1'.size)).size)
        have HE : Hid (n = P ^ K + (n - Q)) := by
          show n = P ^ K + (n - Q)
          rw [← HQ.out]; omega
        have HR : Hid (r = true ↔ goodAt P K (n - Q)) := by
          show r = true ↔ irrP (digF (P ^ K + (n - Q)) P) K P
          rw [← HE.out]; exact hr
        clear hr hnew
        cases r
        · go_wp2
          go_roundw
          case rel =>
            refine ⟨n + 1, by go_num, by omega, by omega, (fun m hm => ?_ : ∀ m, m < n + 1 - Q → _), hF2, hb12⟩
            by_cases e : m = n - Q
            · subst e; exact fun h => absurd (HR.out.2 h) Bool.false_ne_true
            · exact HG.out m (by omega)
          case measure => simp [intOf]; omega
        · go_wp2_with (refine wpList_load_row rfl 93 _ rfl w1.heap.size rfl 93 _ (0, 0) _ hR2 und51 rfl (inf51 _) ?_)
          refine (low_any (digF n P) K _ hK (by omega)).mono ?_
          rintro e w3 ⟨g, cap, rfl, hgw, hO, hb3⟩
          have hF3 := hF2.below hb3
          have hb13 : Below w.heap.size w w3 := hb12.trans (hb3.mono hb12.size)
          have hFc := (hF3.whole P K (.slice (some ⟨g, 0, none⟩) K cap)).cells
          have hlt2 := hF2.lt
          go_wp2_with (refine wpList_store_row rfl 24 _ _ rfl w.heap.size #[.int .i64 P, .int .i64 K, .slice (some ⟨g, 0, none⟩) K cap] rfl rfl 24 _ hF3 inf24 rfl (one3 _ _ _ rfl) ?_)
          refine bodyPost_ret (v := .tuple #[.agg #[.int .i64 P, .int .i64 K, .slice (some ⟨g, 0, none⟩) K cap], .int .i64 0]) (by simp [results, Tryd.results28, go_sem, hFc]) rfl ⟨P, K, _, digL (n - Q) P K, 0, rfl, ?_, .inr ⟨P, K, rfl, rfl, HN0.out, .inl ⟨n - Q, by rw [← HQ.out]; omega, HR.out.1 (by trivial), HG.out, rfl, rfl, rfl, rfl⟩⟩, bsetRow hb13 (Nat.le_refl _) _⟩
          have hs := (hO.rowOther w.heap.size #[.int .i64 P, .int .i64 K, .slice (some ⟨g, 0, none⟩) K cap] (by omega)).sl cap
          have e : (List.range K).map (digF n P) = digL (n - Q) P K := by
            unfold digL
            apply List.map_congr_left
            intro t ht
            conv => lhs; rw [HE.out]
            exact digF_low (n - Q) P K t hP (by simpa using ht)
          rw [e] at hs
          exact hs
      · have hFc := (hF.whole 0 0 (.slice none 0 0)).cells
        go_wp2_with (refine wpList_store_row rfl 24 _ _ rfl w.heap.size #[.int .i64 0, .int .i64 0, .slice none 0 0] rfl rfl 24 _ hF inf24 rfl (one3 _ _ _ rfl) ?_)
        refine bodyPost_ret (v := .tuple #[.agg #[.int .i64 0, .int .i64 0, .slice none 0 0], .int .i64 4]) (by simp [results, Tryd.results28, go_sem, hFc]) rfl ⟨0, 0, _, [], 4, rfl, Sl.nil _, .inr ⟨P, K, rfl, rfl, HN0.out, .inr ⟨fun m hm => HG.out m (by rw [← HQ.out] at hm; omega), rfl, rfl, rfl, rfl⟩⟩, bsetRow hb (Nat.le_refl _) _⟩

end Go.Proofs.YtjfjdidibglhaabDoor.Fd

namespace Go.Proofs.YtjfjdidibglhaabDoor.Fd
open Go.RowKit

end Go.Proofs.YtjfjdidibglhaabDoor.Fd

/- The walks of add and mul. -/
/- The walk of open: a field is looked at, and elements of it. -/
namespace Go.Proofs.YtjfjdidibglhaabDoor.Fd
open Go.RowKit

/-- The cells of a field that has been looked at. -/
def ringRow (p k q : Int) (f : Nat → Int) : Array Value := #[.int .i64 p, .int .i64 k, .int .i64 q, .int .i64 (f 0), .int .i64 (f 1), .int .i64 (f 2), .int .i64 (f 3), .int .i64 (f 4), .int .i64 (f 5), .int .i64 (f 6), .int .i64 (f 7), .int .i64 (f 8), .int .i64 (f 9), .int .i64 (f 10)]
def RB (w : World) (g : Nat) (p k q : Int) (f : Nat → Int) : Prop := w.heap[g]? = some (.cells (ringRow p k q f) 105 (0, 0))
theorem RB.lt {w : World} {g : Nat} {p k q : Int} {f : Nat → Int} (h : RB w g p k q f) : g < w.heap.size := (Array.getElem?_eq_some_iff.1 h).1
theorem RB.below {w w' : World} {g : Nat} {p k q : Int} {f : Nat → Int} (h : RB w g p k q f) (hb : Below w.heap.size w w') : RB w' g p k q f := (hb.block g h.lt).trans h
theorem RB.drew {w : World} {g : Nat} {p k q : Int} {f : Nat → Int} (h : RB w g p k q f) : RB w.drew g p k q f := h
theorem RB.made (w : World) (p k q : Int) (f : Nat → Int) : RB (w.alloc (.cells (ringRow p k q f) 105)) w.heap.size p k q f := heap_alloc_new w _
theorem RB.whole {w : World} {g : Nat} {p k q : Int} {f : Nat → Int} (h : RB w g p k q f) (p' k' q' : Int) (f' : Nat → Int) : RB (w.setRow g (ringRow p' k' q' f')) g p' k' q' f' := setRow_heap w g _ _ _ _ h
set_option maxRecDepth 100000 in
theorem inf53 (p k q : Int) (f : Nat → Int) : (Tryd.prog.info? 105).map (·.size) = some (ringRow p k q f).size := by kernel_rfl
theorem ringRow_one (p k q : Int) (f : Nat → Int) : (ringRow p k q f).all (·.oneCell') = true := by
  have h1 : ∀ z : Int, (Value.int .i64 z).oneCell' = true := fun _ => rfl
  simp [ringRow, h1]
set_option maxRecDepth 100000 in
theorem und53 : ∃ fs, Tryd.prog.underlying 105 = some (.struct fs) := by
  have h : (match Tryd.prog.underlying 105 with | some (.struct _) => true | _ => false) = true := by kernel_rfl
  split at h
  · exact ⟨_, by assumption⟩
  · cases h
set_option maxRecDepth 100000 in
theorem post_ring {fn : Func} {R : Ending → World → Prop} {a : Act} {w : World} {g : Nat} {p k q : Int} {f : Nat → Int} {z : Int} (hres : fn.results = #[.cell 4 105, .tmp 5])
    (hp : a.tmps.getD 4 undef = .pointer (some ⟨g, 0, none⟩)) (hz : a.tmps.getD 5 undef = .int .i64 z) (hr : RB w g p k q f) (hd : a.defers = []) (hR : R (.returned (.tuple #[.agg (ringRow p k q f), .int .i64 z])) w) : bodyPost Tryd.prog fn R .ret a w := by
  obtain ⟨fs, hu⟩ := und53
  refine bodyPost_ret ?_ hd hR
  have hp' : a.tmps[4]?.getD undef = .pointer (some ⟨g, 0, none⟩) := by simpa using hp
  have hz' : a.tmps[5]?.getD undef = .int .i64 z := by simpa using hz
  simp [results, hres, hp', hz', asAddr, run_loadVar_row w g 105 105 (ringRow p k q f) (0, 0) _ hr hu rfl (inf53 p k q f)]

/-- What open is to tell of a field and elements. -/
def OpenIs (p k : Int) (l es : List Int) (z : Int) : Prop :=
  (z ≠ 0 ∧ FaultIs p k l z) ∨ (FaultIs p k l 0 ∧ ¬ inL (ordZ p k) es ∧ z = 1) ∨ (FaultIs p k l 0 ∧ inL (ordZ p k) es ∧ z = 0)

set_option maxRecDepth 100000 in
set_option maxHeartbeats 1000000 in
theorem open_any (p k : Int) (l es : List Int) (v u : Value) (w : World) (hT : Tab w) (hl : Sl w v l) (he : Sl w u es) (hll : l.length ≤ maxLen) (hel : es.length ≤ maxLen) :
    Calls Tryd.prog 68 #[.agg #[.int .i64 p, .int .i64 k, v], u] w fun e w' => ∃ (z a b c : Int) (f : Nat → Int), e = .returned (.tuple #[.agg (ringRow a b c f), .int .i64 z]) ∧ OpenIs p k l es z ∧ Hid (z = 0 → a = p ∧ b = k ∧ c = ordZ p k ∧ f = monL l) ∧ Below w.heap.size w w' := by
  obtain ⟨A, ca, rfl, _⟩ := id hl
  have hF0 : FB ((w.alloc (.cells #[.int .i64 p, .int .i64 k, .slice A l.length ca] 24)).alloc (.cells #[.int .i64 0, .int .i64 0, .int .i64 0, .int .i64 0, .int .i64 0, .int .i64 0, .int .i64 0, .int .i64 0, .int .i64 0, .int .i64 0, .int .i64 0, .int .i64 0, .int .i64 0, .int .i64 0] 105)) w.heap.size p k (.slice A l.length ca) := (FB.made w p k _).below ((Below.refl _ _).alloc (Nat.le_refl _) _)
  have hR0 : RB ((w.alloc (.cells #[.int .i64 p, .int .i64 k, .slice A l.length ca] 24)).alloc (.cells #[.int .i64 0, .int .i64 0, .int .i64 0, .int .i64 0, .int .i64 0, .int .i64 0, .int .i64 0, .int .i64 0, .int .i64 0, .int .i64 0, .int .i64 0, .int .i64 0, .int .i64 0, .int .i64 0] 105)) (w.heap.size + 1) 0 0 0 (fun _ => 0) := by
    have h := RB.made (w.alloc (.cells #[.int .i64 p, .int .i64 k, .slice A l.length ca] 24)) 0 0 0 (fun _ => 0)
    simpa [ringRow] using h
  have hB0 : Below w.heap.size w ((w.alloc (.cells #[.int .i64 p, .int .i64 k, .slice A l.length ca] 24)).alloc (.cells #[.int .i64 0, .int .i64 0, .int .i64 0, .int .i64 0, .int .i64 0, .int .i64 0, .int .i64 0, .int .i64 0, .int .i64 0, .int .i64 0, .int .i64 0, .int .i64 0, .int .i64 0, .int .i64 0] 105)) := ((Below.refl _ _).alloc (Nat.le_refl _) _).alloc (by simp) _
  by_cases h0 : ordZ p k = 0
  · have HO : Hid (ordZ p k = 0) := h0
    have hbb : (ordZ p k == 0) = true := by simp [h0]
    clear h0
    go_enter Tryd.func68, Tryd.ntmps68
    go_wp2_with (go_at_call 57; refine (order_any p k _ ((hT.alloc _).alloc _)).mono ?_; rintro e w' ⟨rfl, rfl⟩)
    exact post_ring rfl rfl rfl hR0 rfl ⟨1, 0, 0, 0, fun _ => 0, rfl, .inl ⟨by decide, .inl ⟨HO.out, rfl⟩⟩, (fun h => absurd h (by decide) : (1 : Int) = 0 → _), hB0⟩
  · obtain ⟨P, K, rfl, rfl, hP, hP', hK, hK', hPK, hq⟩ := ord_nat h0
    have HN0 : Hid (ordZ (P : Int) K ≠ 0) := h0
    obtain ⟨Q, HQ⟩ : ∃ Q : Nat, Hid (Q = P ^ K) := ⟨_, rfl⟩
    rw [← HQ.out] at hq
    have hQ64 : Q ≤ 64 := by rw [HQ.out]; exact hPK
    have hQ0 : 0 < Q := by rw [HQ.out]; exact Nat.pow_pos (by omega)
    have hbb : ((Q : Int) == 0) = false := by simp; omega
    have HQZ : Hid (ordZ (P : Int) K = Q) := hq
    clear h0
    by_cases h1 : (l.length : Int) = K
    · have hlK : l.length = K := by omega
      rw [hlK] at hl hF0 hR0 hB0
      rw [hlK]
      have hsl0 := hl.below hB0
      have hel0 := he.below hB0
      have hne : ((K : Int) != K) = false := by simp
      cases hin : inLB (P : Int) l
      · have HIN : Hid (¬ inL (P : Int) l) := fun h => by rw [(inLB_iff _ _).2 h] at hin; cases hin
        go_enter Tryd.func68, Tryd.ntmps68
        go_wp2_with (go_at_call 57; refine (order_any P K _ ((hT.alloc _).alloc _)).mono ?_; rintro e w' ⟨rfl, rfl⟩)
        refine (allBelow_any l _ P _ hsl0 hll).mono ?_
        rintro e w' ⟨rfl, rfl⟩
        go_wp2
        exact post_ring rfl rfl rfl hR0 rfl ⟨1, 0, 0, 0, fun _ => 0, rfl, .inl ⟨by decide, .inr (.inr (.inl ⟨HN0.out, by omega, HIN.out, rfl⟩))⟩, (fun h => absurd h (by decide) : (1 : Int) = 0 → _), hB0⟩
      · have HIN : Hid (inL (P : Int) l) := (inLB_iff _ _).1 hin
        have hmin := monL_in (l := l) (p := (P : Int)) (by omega) HIN.out
        go_enter Tryd.func68, Tryd.ntmps68
        go_wp2_with (go_at_call 57; refine (order_any P K _ ((hT.alloc _).alloc _)).mono ?_; rintro e w' ⟨rfl, rfl⟩)
        refine (allBelow_any l _ P _ hsl0 hll).mono ?_
        rintro e w' ⟨rfl, rfl⟩
        go_wp2_with fail
        refine (monic_any l K _ _ hsl0 hlK hK (by omega)).mono ?_
        rintro e w1 ⟨rfl, hb1⟩
        have hF1 := hF0.below hb1
        have hR1 := hR0.below hb1
        have hel1 := hel0.below hb1
        have hB1 : Below w.heap.size w w1 := hB0.trans (hb1.mono hB0.size)
        have hFc1 := hF1.cells
        have hFl := hR1.lt
        have hnew := Row.made0 w1
        have hbA : Below w1.heap.size w1 ((w1.alloc (.cells #[.int .i64 0, .int .i64 0, .int .i64 0, .int .i64 0, .int .i64 0, .int .i64 0, .int .i64 0, .int .i64 0, .int .i64 0, .int .i64 0, .int .i64 0] 93)).setRow w1.heap.size (prow (monL l))) := bsetRow ((Below.refl _ _).alloc (Nat.le_refl _) _) (Nat.le_refl _) _
        have hFcA := (hF1.below hbA).cells
        go_wp2_with (first
          | (refine wpList_store_row rfl 93 _ _ rfl w1.heap.size (prow (monL l)) rfl rfl 93 _ hnew (inf51 _) (by simp) (prow_one _) ?_)
          | (refine wpList_load_row rfl 93 _ rfl w1.heap.size rfl 93 _ (0, 0) _ (hnew.whole (monL l)) und51 rfl (inf51 _) ?_))
        refine (irreducible_any (monL l) K P _ hP (by omega) hK hPK hmin).mono ?_
        rintro e w2 ⟨r, rfl, hr, hb2⟩
        have hF2 := (hF1.below hbA).below hb2
        have hR2 := (hR1.below hbA).below hb2
        have hM2 := (hnew.whole (monL l)).below hb2
        have hel2 := (hel1.below hbA).below hb2
        have hBA : Below w.heap.size w ((w1.alloc (.cells #[.int .i64 0, .int .i64 0, .int .i64 0, .int .i64 0, .int .i64 0, .int .i64 0, .int .i64 0, .int .i64 0, .int .i64 0, .int .i64 0, .int .i64 0] 93)).setRow w1.heap.size (prow (monL l))) := hB1.trans (hbA.mono hB1.size)
        have hB2 : Below w.heap.size w w2 := hBA.trans (hb2.mono hBA.size)
        have hFc2 := hF2.cells
        have HR : Hid (r = true ↔ irrP (monL l) K P) := hr
        clear hr hnew hbA hBA hFcA hFc1 hF0 hR0 hF1 hR1 hel0 hel1 hB0 hb1 hb2 hsl0 hin
        cases r
        · go_wp2_with (first
            | (refine wpList_store_row rfl 105 _ _ rfl (w.heap.size + 1) (ringRow 0 0 0 fun _ => 0) rfl rfl 105 _ hR2 (inf53 _ _ _ _) rfl (ringRow_one _ _ _ _) ?_))
          refine post_ring rfl rfl rfl (hR2.whole 0 0 0 fun _ => 0) rfl ⟨4, 0, 0, 0, fun _ => 0, rfl, .inl ⟨by decide, .inr (.inr (.inr (.inl ⟨HN0.out, by omega, HIN.out, fun h => ?_, rfl⟩)))⟩, (fun h => absurd h (by decide) : (4 : Int) = 0 → _), bsetRow hB2 (by omega) _⟩
          rw [Int.toNat_natCast, Int.toNat_natCast] at h
          exact absurd (HR.out.2 h) Bool.false_ne_true
        · have hirr : irrP (monL l) K P := HR.out.1 rfl
          have HF : Hid (FaultIs (P : Int) K l 0) := .inr (.inr (.inr (.inr ⟨HN0.out, by omega, HIN.out, by rw [Int.toNat_natCast, Int.toNat_natCast]; exact hirr, rfl⟩)))
          clear hirr
          go_wp2_with fail
          refine (allBelow_any es u Q _ hel2 hel).mono ?_
          rintro e w' ⟨rfl, rfl⟩
          cases hes : inLB (Q : Int) es
          · go_wp2_with (first
              | (refine wpList_store_row rfl 105 _ _ rfl (w.heap.size + 1) (ringRow 0 0 0 fun _ => 0) rfl rfl 105 _ hR2 (inf53 _ _ _ _) rfl (ringRow_one _ _ _ _) ?_))
            refine post_ring rfl rfl rfl (hR2.whole 0 0 0 fun _ => 0) rfl ⟨1, 0, 0, 0, fun _ => 0, rfl, .inr (.inl ⟨HF.out, fun h => ?_, rfl⟩), (fun h => absurd h (by decide) : (1 : Int) = 0 → _), bsetRow hB2 (by omega) _⟩
            rw [HQZ.out] at h
            rw [(inLB_iff _ _).2 h] at hes
            cases hes
          · go_wp2_with (first
              | (refine wpList_load_row rfl 93 _ rfl w1.heap.size rfl 93 #[.int .i64 (monL l 0), .int .i64 (monL l 1), .int .i64 (monL l 2), .int .i64 (monL l 3), .int .i64 (monL l 4), .int .i64 (monL l 5), .int .i64 (monL l 6), .int .i64 (monL l 7), .int .i64 (monL l 8), .int .i64 (monL l 9), .int .i64 (monL l 10)] (0, 0) _ hM2 und51 rfl (inf51 (monL l)) ?_)
              | (refine wpList_store_row rfl 105 _ _ rfl (w.heap.size + 1) (ringRow P K Q (monL l)) rfl rfl 105 _ hR2 (inf53 _ _ _ _) rfl (ringRow_one _ _ _ _) ?_))
            refine post_ring rfl rfl rfl (hR2.whole P K Q (monL l)) rfl ⟨0, P, K, Q, monL l, rfl, .inr (.inr ⟨HF.out, ?_, rfl⟩), (fun _ => ⟨rfl, rfl, HQZ.out.symm, rfl⟩ : (0 : Int) = 0 → _), bsetRow hB2 (by omega) _⟩
            rw [HQZ.out]; exact (inLB_iff _ _).1 hes
    · have hl1 : Hid ((l.length : Int) ≠ K) := h1
      have hne : ((l.length : Int) != (K : Int)) = true := by simpa using h1
      clear h1
      go_enter Tryd.func68, Tryd.ntmps68
      go_wp2_with (go_at_call 57; refine (order_any P K _ ((hT.alloc _).alloc _)).mono ?_; rintro e w' ⟨rfl, rfl⟩)
      exact post_ring rfl rfl rfl hR0 rfl ⟨2, 0, 0, 0, fun _ => 0, rfl, .inl ⟨by decide, .inr (.inl ⟨HN0.out, hl1.out, rfl⟩)⟩, (fun h => absurd h (by decide) : (2 : Int) = 0 → _), hB0⟩

end Go.Proofs.YtjfjdidibglhaabDoor.Fd

namespace Go.Proofs.YtjfjdidibglhaabDoor.Fd
open Go.RowKit

theorem keepS {w W W1 : World} {g : Nat} {x : Value} (h : W.cell? ⟨g, 0, none⟩ = some x ∧ Below w.heap.size w W) (hb : Below W.heap.size W W1) : W1.cell? ⟨g, 0, none⟩ = some x ∧ Below w.heap.size w W1 :=
  ⟨(hb.cell (p := ⟨g, 0, none⟩) (block_lt_of_cell h.1)).trans h.1, h.2.trans (hb.mono h.2.size)⟩

set_option maxRecDepth 100000 in
set_option maxHeartbeats 1000000 in
theorem add_any (P K a b : Nat) (Q : Int) (f : Nat → Int) (w : World) (hP : 2 ≤ P) (hP' : P ≤ 64) (hK : 1 ≤ K) (hK' : K ≤ 6) (hPK : P ^ K ≤ 64) (ha : a < P ^ K) (hb : b < P ^ K) :
    Calls Tryd.prog 104 #[.agg (ringRow P K Q f), .int .i64 a, .int .i64 b] w fun e w' => e = .returned (.int .i64 (hor (plusF (digF a P) (digF b P) P) P K K)) ∧ Below w.heap.size w w' := by
  have hSt : ((w.alloc (.cells (ringRow P K Q f) 105)).drew).cell? ⟨w.heap.size, 0, none⟩ = some (.int .i64 P) ∧ Below w.heap.size w ((w.alloc (.cells (ringRow P K Q f) 105)).drew) :=
    ⟨(cell_of_row (w.alloc (.cells (ringRow P K Q f) 105)) w.heap.size 0 _ _ _ (RB.made w P K Q f)), ((Below.refl _ _).alloc (Nat.le_refl _) _).drew⟩
  go_enter Tryd.func104, Tryd.ntmps104
  go_wp2
  go_region_held3 (fun w' => w'.cell? ⟨w.heap.size, 0, none⟩ = some (.int .i64 P) ∧ Below w.heap.size w w') (first | assumption | go_keep)
    (first
      | (go_at_call_of 58 (Value.int .i64 (a : Int)); refine (polyOf_any a P _ (by omega) hP hP').mono ?_; rintro e w1 ⟨rfl, hb1⟩; have hS1 := keepS (by assumption) hb1)
      | (go_at_call_of 58 (Value.int .i64 (b : Int)); refine (polyOf_any b P _ (by omega) hP hP').mono ?_; rintro e w2 ⟨rfl, hb2⟩; have hS2 := keepS (by assumption) hb2)
      | (go_at_call 119; refine (plus_any _ _ P _ hP hP' (digF_in a P (by omega)) (digF_in b P (by omega))).mono ?_; rintro e w3 ⟨rfl, hb3⟩; have hS3 := keepS (by assumption) hb3)
      | (go_at_call 103; refine (number_any _ P K _ hP hP' hK hK' hPK (plusF_in _ _ P (by omega)) ?_).mono ?_; exact fun t ht _ => plus_small ha hb hP t ht; rintro e w4 ⟨rfl, hb4⟩; have hS4 := keepS (by assumption) hb4))
  all_goals (go_wp2; go_ret; exact ⟨rfl, hS4.2⟩)

end Go.Proofs.YtjfjdidibglhaabDoor.Fd

/- The law FieldSums, walked: sums and products of any two are the document's, errors and all. -/
/- The walk of mul. -/
namespace Go.Proofs.YtjfjdidibglhaabDoor.Fd
open Go.RowKit

def rowL (f : Nat → Int) : List Value := (List.range 11).map fun j => Value.int .i64 (f j)
theorem rowL_length (f : Nat → Int) : (rowL f).length = 11 := by simp [rowL]
theorem rowL_one (f : Nat → Int) : ∀ v ∈ rowL f, v.oneCell' = true := by
  intro v hv
  simp only [rowL, List.mem_map] at hv
  obtain ⟨j, _, rfl⟩ := hv
  rfl
set_option maxRecDepth 100000 in
theorem rowL_size (f : Nat → Int) : (Tryd.prog.info? 93).map (·.size) = some (rowL f).length := by rw [rowL_length]; kernel_rfl
theorem rangeAt_below {W W1 : World} {g o : Nat} {cs : List Value} (h : W.rangeAt g o cs) (hb : Below W.heap.size W W1) : W1.rangeAt g o cs :=
  fun j v hv => (hb.cell (p := ⟨g, o + j, none⟩) (block_lt_of_cell (h j v hv))).trans (h j v hv)
theorem there_below {W W1 : World} {g o n : Nat} (h : W.there g o n) (hb : Below W.heap.size W W1) : W1.there g o n := fun j hj => by
  obtain ⟨h1, h2⟩ := h j hj
  obtain ⟨v, hv⟩ := Option.isSome_iff_exists.1 h1
  have hl := block_lt_of_cell hv
  exact ⟨by rw [hb.cell (p := ⟨g, o + j, none⟩) hl]; exact h1, by rw [hb.frozen (p := ⟨g, o + j, none⟩) hl]; exact h2⟩
theorem bsetCells {B : Nat} {w0 : World} (g : Nat) (hg : B ≤ g) : ∀ (vs : List Value) (o : Nat) (w : World), Below B w0 w → Below B w0 (w.setCells g o vs)
  | [], _, _, h => h
  | v :: r, o, _, h => bsetCells g hg r (o + 1) _ (h.setCell hg v)
theorem RS.below {w W W1 : World} {P K : Int} {M : List Value} (h : W.cell? ⟨w.heap.size, 0, none⟩ = some (.int .i64 P) ∧ W.cell? ⟨w.heap.size, 1, none⟩ = some (.int .i64 K) ∧ W.rangeAt w.heap.size 3 M ∧ Below w.heap.size w W) (hb : Below W.heap.size W W1) : W1.cell? ⟨w.heap.size, 0, none⟩ = some (.int .i64 P) ∧ W1.cell? ⟨w.heap.size, 1, none⟩ = some (.int .i64 K) ∧ W1.rangeAt w.heap.size 3 M ∧ Below w.heap.size w W1 :=
  ⟨(hb.cell (p := ⟨w.heap.size, 0, none⟩) (block_lt_of_cell h.1)).trans h.1, (hb.cell (p := ⟨w.heap.size, 1, none⟩) (block_lt_of_cell h.2.1)).trans h.2.1, rangeAt_below h.2.2.1 hb, h.2.2.2.trans (hb.mono h.2.2.2.size)⟩
theorem RS.stored {w W : World} {P K : Int} {M : List Value} {g n : Nat} {vs : List Value} (h : W.cell? ⟨w.heap.size, 0, none⟩ = some (.int .i64 P) ∧ W.cell? ⟨w.heap.size, 1, none⟩ = some (.int .i64 K) ∧ W.rangeAt w.heap.size 3 M ∧ Below w.heap.size w W) (hg : w.heap.size < g ∧ W.there g 0 n) :
    (W.setCells g 0 vs).cell? ⟨w.heap.size, 0, none⟩ = some (.int .i64 P) ∧ (W.setCells g 0 vs).cell? ⟨w.heap.size, 1, none⟩ = some (.int .i64 K) ∧ (W.setCells g 0 vs).rangeAt w.heap.size 3 M ∧ Below w.heap.size w (W.setCells g 0 vs) := by
  have hne : w.heap.size ≠ g := by omega
  exact ⟨(World.cell?_setCells_out g vs 0 W _ (fun e _ => absurd e hne)).trans h.1, (World.cell?_setCells_out g vs 0 W _ (fun e _ => absurd e hne)).trans h.2.1, World.rangeAt_setCells_apart h.2.2.1 g 0 vs (.inl hne), bsetCells g (by omega) vs 0 W h.2.2.2⟩
theorem madeThere {w W : World} {P K : Int} {M : List Value} (h : W.cell? ⟨w.heap.size, 0, none⟩ = some (.int .i64 P) ∧ W.cell? ⟨w.heap.size, 1, none⟩ = some (.int .i64 K) ∧ W.rangeAt w.heap.size 3 M ∧ Below w.heap.size w W) : w.heap.size < W.heap.size ∧ (W.alloc (.cells #[.int .i64 0, .int .i64 0, .int .i64 0, .int .i64 0, .int .i64 0, .int .i64 0, .int .i64 0, .int .i64 0, .int .i64 0, .int .i64 0, .int .i64 0] 93)).there W.heap.size 0 11 := by
  refine ⟨by simpa using block_lt_of_cell h.1, fun j hj => ?_⟩
  have hr := Row.made0 W
  rw [Nat.zero_add]
  exact ⟨by rw [hr.cell j hj]; rfl, hr.frozen j⟩
theorem RS2 {w W W1 : World} {P K : Int} {L M : List Value} {g : Nat} (h : W.rangeAt g 0 L ∧ W.cell? ⟨w.heap.size, 0, none⟩ = some (.int .i64 P) ∧ W.cell? ⟨w.heap.size, 1, none⟩ = some (.int .i64 K) ∧ W.rangeAt w.heap.size 3 M ∧ Below w.heap.size w W) (hb : Below W.heap.size W W1) : W1.rangeAt g 0 L ∧ W1.cell? ⟨w.heap.size, 0, none⟩ = some (.int .i64 P) ∧ W1.cell? ⟨w.heap.size, 1, none⟩ = some (.int .i64 K) ∧ W1.rangeAt w.heap.size 3 M ∧ Below w.heap.size w W1 :=
  ⟨rangeAt_below h.1 hb, RS.below h.2 hb⟩
theorem rangeOf {w W : World} {g : Nat} {L : List Value} (hl : L.length = 11) (h : w.heap.size < g ∧ W.there g 0 11) : (W.setCells g 0 L).rangeAt g 0 L := World.rangeAt_setCells_same W g 0 L (by rw [hl]; exact h.2)
theorem thereB {w W W1 : World} {g n : Nat} (h : w.heap.size < g ∧ W.there g 0 n) (hb : Below W.heap.size W W1) : w.heap.size < g ∧ W1.there g 0 n := ⟨h.1, there_below h.2 hb⟩
theorem times_L (f g : Nat → Int) (p : Nat) (L : List Value) (hL : Hid (L = rowL (mulN f g p 6 6))) (w : World) (hp : 2 ≤ p) (hp' : p ≤ 64) (hf : inP p f) (hg : inP p g) :
    Calls Tryd.prog 102 #[.agg (prow f), .agg (prow g), .int .i64 p] w fun e w' => e = .returned (.agg L.toArray) ∧ Below w.heap.size w w' := by
  rw [hL.out]; exact times_any f g p w hp hp' hf hg
theorem modulo_L (f m : Nat → Int) (d p : Nat) (L M : List Value) (hL : Hid (L = rowL f)) (hM : Hid (M = rowL m)) (w : World) (hp : 2 ≤ p) (hp' : p ≤ 64) (hd : 1 ≤ d) (hd6 : d ≤ 6) (hf : inP p f) (hm : inP p m) :
    Calls Tryd.prog 93 #[.agg L.toArray, .agg M.toArray, .int .i64 d, .int .i64 p] w fun e w' => e = .returned (.agg (prow (redN m d p (11 - d) f))) ∧ Below w.heap.size w w' := by
  rw [hL.out, hM.out]; exact modulo_any f m d p w hp hp' hd hd6 hf hm

set_option linter.unusedSimpArgs false in
set_option maxRecDepth 100000 in
set_option maxHeartbeats 2000000 in
theorem mul_any (P K a b : Nat) (Q : Int) (f : Nat → Int) (w : World) (hP : 2 ≤ P) (hP' : P ≤ 64) (hK : 1 ≤ K) (hK' : K ≤ 6) (hPK : P ^ K ≤ 64) (ha : a < P ^ K) (hb : b < P ^ K) (hf : inP P f) (hfK : Hid (f K = 1)) :
    Calls Tryd.prog 69 #[.agg (ringRow P K Q f), .int .i64 a, .int .i64 b] w fun e w' => e = .returned (.int .i64 (hor (redN f K P (11 - K) (mulN (digF a P) (digF b P) P 6 6)) P K K)) ∧ Below w.heap.size w w' := by
  obtain ⟨L, HL⟩ : ∃ L, Hid (L = rowL (mulN (digF a P) (digF b P) P 6 6)) := ⟨_, rfl⟩
  obtain ⟨M, HM⟩ : ∃ M, Hid (M = rowL f) := ⟨_, rfl⟩
  have hRB := RB.made w P K Q f
  have hSt : ((w.alloc (.cells (ringRow P K Q f) 105)).drew).cell? ⟨w.heap.size, 0, none⟩ = some (.int .i64 P) ∧ ((w.alloc (.cells (ringRow P K Q f) 105)).drew).cell? ⟨w.heap.size, 1, none⟩ = some (.int .i64 K) ∧ ((w.alloc (.cells (ringRow P K Q f) 105)).drew).rangeAt w.heap.size 3 M ∧ Below w.heap.size w ((w.alloc (.cells (ringRow P K Q f) 105)).drew) := by
    rw [HM.out]
    refine ⟨(cell_of_row (w.alloc (.cells (ringRow P K Q f) 105)) w.heap.size 0 _ _ _ hRB), (cell_of_row (w.alloc (.cells (ringRow P K Q f) 105)) w.heap.size 1 _ _ _ hRB), fun j v hv => ?_, ((Below.refl _ _).alloc (Nat.le_refl _) _).drew⟩
    have h := cell_of_row (w.alloc (.cells (ringRow P K Q f) 105)) w.heap.size (3 + j) _ _ _ hRB
    have hj : j < 11 := by
      have := (List.getElem?_eq_some_iff.1 hv).1
      rwa [rowL_length] at this
    have e : (ringRow P K Q f)[3 + j]? = (rowL f)[j]? := by
      have : j = 0 ∨ j = 1 ∨ j = 2 ∨ j = 3 ∨ j = 4 ∨ j = 5 ∨ j = 6 ∨ j = 7 ∨ j = 8 ∨ j = 9 ∨ j = 10 := by omega
      rcases this with rfl | rfl | rfl | rfl | rfl | rfl | rfl | rfl | rfl | rfl | rfl <;> rfl
    exact h.trans (e.trans hv)
  have hlen : L.length = 11 := by rw [HL.out]; exact rowL_length _
  have hone : ∀ v ∈ L, v.oneCell' = true := by rw [HL.out]; exact rowL_one _
  have hsz : (Tryd.prog.info? 93).map (·.size) = some L.length := by rw [HL.out]; exact rowL_size _
  clear hRB
  go_enter Tryd.func69, Tryd.ntmps69
  go_upto_region 1 with fail
  go_cut [7] (fun s W => ∃ g, s = .pointer (some ⟨g, 0, none⟩) ∧ W.rangeAt g 0 L ∧ W.cell? ⟨w.heap.size, 0, none⟩ = some (.int .i64 P) ∧ W.cell? ⟨w.heap.size, 1, none⟩ = some (.int .i64 K) ∧ W.rangeAt w.heap.size 3 M ∧ Below w.heap.size w W)
  case first =>
    have hM0 : w.heap.size < w.heap.size + 1 ∧ (((w.alloc (.cells (ringRow P K Q f) 105)).alloc (.cells #[.int .i64 0, .int .i64 0, .int .i64 0, .int .i64 0, .int .i64 0, .int .i64 0, .int .i64 0, .int .i64 0, .int .i64 0, .int .i64 0, .int .i64 0] 93)).drew).there (w.heap.size + 1) 0 11 := by
      refine ⟨by omega, ?_⟩
      have h := (madeThere hSt).2
      have e : ((w.alloc (.cells (ringRow P K Q f) 105)).drew).heap.size = w.heap.size + 1 := by simp
      rw [e] at h
      exact h
    go_region_held3 (fun w' => w'.cell? ⟨w.heap.size, 0, none⟩ = some (.int .i64 P) ∧ w'.cell? ⟨w.heap.size, 1, none⟩ = some (.int .i64 K) ∧ w'.rangeAt w.heap.size 3 M ∧ Below w.heap.size w w') (first | exact RS.stored (by assumption) (by assumption) | exact RS.below (by assumption) ((Below.refl _ _).alloc (Nat.le_refl _) _) | assumption)
      (first
        | (go_at_call_of 58 (Value.int .i64 (a : Int)); refine (polyOf_any a P _ (by omega) hP hP').mono ?_; rintro e w1 ⟨rfl, hb1⟩; have hS1 := RS.below (by assumption) hb1; have hM1 := madeThere hS1; try (have ht1 := thereB (w := w) (by assumption) hb1))
        | (go_at_call_of 58 (Value.int .i64 (b : Int)); refine (polyOf_any b P _ (by omega) hP hP').mono ?_; rintro e w2 ⟨rfl, hb2⟩; have hS2 := RS.below (by assumption) hb2; have hM2 := madeThere hS2; try (have ht2 := thereB (w := w) (by assumption) hb2))
        | (go_at_call 102; refine (times_L _ _ P L HL _ hP hP' (digF_in a P (by omega)) (digF_in b P (by omega))).mono ?_; rintro e w3 ⟨rfl, hb3⟩; have hS3 := RS.below (by assumption) hb3; have hM3 := madeThere hS3; try (have ht3 := thereB (w := w) (by assumption) hb3)))
    all_goals
      go_wp2_with fail
      go_meet
      case rel =>
        refine ⟨_, rfl, rangeOf hlen (by assumption), ?_⟩
        first
          | exact RS.stored (by assumption) (by assumption)
          | exact RS.stored (RS.below (by assumption) ((Below.refl _ _).alloc (Nat.le_refl _) _)) (by assumption)
  case rest =>
    obtain ⟨g, rfl, hS⟩ := hcut
    have hS' : wc.drew.rangeAt g 0 L ∧ wc.drew.cell? ⟨w.heap.size, 0, none⟩ = some (.int .i64 P) ∧ wc.drew.cell? ⟨w.heap.size, 1, none⟩ = some (.int .i64 K) ∧ wc.drew.rangeAt w.heap.size 3 M ∧ Below w.heap.size w wc.drew := ⟨hS.1, hS.2.1, hS.2.2.1, hS.2.2.2.1, hS.2.2.2.2.drew⟩
    have hu51 := und51
    have hszM : (Tryd.prog.info? 93).map (·.size) = some M.length := by rw [HM.out]; exact rowL_size _
    have hF := mulN_in (a := digF a P) (b := digF b P) (j := 6) (show (0 : Int) < P by omega) 6
    have hR := redN_in (m := f) (d := K) (show (0 : Int) < P by omega) (11 - K) _ hF
    go_wp2_with fail
    refine wp_region_noPanic ?_
    refine wp_region_held_drew (S := fun w' => w'.rangeAt g 0 L ∧ w'.cell? ⟨w.heap.size, 0, none⟩ = some (.int .i64 P) ∧ w'.cell? ⟨w.heap.size, 1, none⟩ = some (.int .i64 K) ∧ w'.rangeAt w.heap.size 3 M ∧ Below w.heap.size w w') (by kernel_rfl) hS' (fun hSx => ?_)
    refine wpAnyH_take (i := 0) (v := .agg L.toArray) rfl (by kernel_rfl) (by kernel_rfl) (by kernel_rfl) (fun _ _ _ h => h) (yieldsIf_load_mid (by rfl) 93 _ rfl g 0 rfl L _ (fun _ h => h.1) und51 rfl hsz) hSx ?_
    try simp only [Act.put, List.setIfInBounds_toArray, List.set_cons_zero, List.set_cons_succ]
    refine wpAnyH_take (i := 1) (v := .pointer (some ⟨w.heap.size, 3, none⟩)) rfl (by kernel_rfl) (by kernel_rfl) (by kernel_rfl) (fun _ _ _ h => h) (Or.inl ⟨by rfl, fun w' hSw => by (try dsimp only at hSw); go_simp⟩) hSx ?_
    try simp only [Act.put, List.setIfInBounds_toArray, List.set_cons_zero, List.set_cons_succ]
    refine wpAnyH_take (i := 2) (v := .agg M.toArray) rfl (by kernel_rfl) (by kernel_rfl) (by kernel_rfl) (fun _ _ _ h => h) (yieldsIf_load_mid (by rfl) 93 _ rfl w.heap.size 3 rfl M _ (fun _ h => h.2.2.2.1) und51 rfl hszM) hSx ?_
    try simp only [Act.put, List.setIfInBounds_toArray, List.set_cons_zero, List.set_cons_succ]
    refine wpAnyH_take (i := 3) (v := .pointer (some ⟨w.heap.size, 1, none⟩)) rfl (by kernel_rfl) (by kernel_rfl) (by kernel_rfl) (fun _ _ _ h => h) (Or.inl ⟨by rfl, fun w' hSw => by (try dsimp only at hSw); go_simp⟩) hSx ?_
    try simp only [Act.put, List.setIfInBounds_toArray, List.set_cons_zero, List.set_cons_succ]
    refine wpAnyH_take (i := 4) (v := .int .i64 K) rfl (by kernel_rfl) (by kernel_rfl) (by kernel_rfl) (fun _ _ _ h => h) (Or.inl ⟨by rfl, fun w' hSw => by (try dsimp only at hSw); go_simp⟩) hSx ?_
    try simp only [Act.put, List.setIfInBounds_toArray, List.set_cons_zero, List.set_cons_succ]
    refine wpAnyH_take (i := 5) (v := .pointer (some ⟨w.heap.size, 0, none⟩)) rfl (by kernel_rfl) (by kernel_rfl) (by kernel_rfl) (fun _ _ _ h => h) (Or.inl ⟨by rfl, fun w' hSw => by (try dsimp only at hSw); go_simp⟩) hSx ?_
    try simp only [Act.put, List.setIfInBounds_toArray, List.set_cons_zero, List.set_cons_succ]
    refine wpAnyH_take (i := 6) (v := .int .i64 P) rfl (by kernel_rfl) (by kernel_rfl) (by kernel_rfl) (fun _ _ _ h => h) (Or.inl ⟨by rfl, fun w' hSw => by (try dsimp only at hSw); go_simp⟩) hSx ?_
    try simp only [Act.put, List.setIfInBounds_toArray, List.set_cons_zero, List.set_cons_succ]
    refine wpAnyH_take (i := 8) (v := .pointer (some ⟨w.heap.size, 0, none⟩)) rfl (by kernel_rfl) (by kernel_rfl) (by kernel_rfl) (fun _ _ _ h => h) (Or.inl ⟨by rfl, fun w' hSw => by (try dsimp only at hSw); go_simp⟩) hSx ?_
    try simp only [Act.put, List.setIfInBounds_toArray, List.set_cons_zero, List.set_cons_succ]
    refine wpAnyH_take (i := 9) (v := .int .i64 P) rfl (by kernel_rfl) (by kernel_rfl) (by kernel_rfl) (fun _ _ _ h => h) (Or.inl ⟨by rfl, fun w' hSw => by (try dsimp only at hSw); go_simp⟩) hSx ?_
    try simp only [Act.put, List.setIfInBounds_toArray, List.set_cons_zero, List.set_cons_succ]
    refine wpAnyH_ready (rs := [7]) (by kernel_rfl) (by simp) ?_
    refine AllReadyH.cons rfl (fun J hJ => ?_) AllReadyH.nil
    go_simp
    refine (modulo_L _ f K P L M HL HM _ hP hP' hK hK' hF hf).mono ?_
    rintro e w1 ⟨rfl, hb1⟩
    have hS1 := RS2 hSx hb1
    go_wp2_with fail
    refine hJ.out _ _ hS1 (fun hSy => ?_)
    clear hJ J
    try simp only [Act.put, List.setIfInBounds_toArray, List.set_cons_zero, List.set_cons_succ]
    refine wpAnyH_ready (rs := [10]) (by kernel_rfl) (by simp) ?_
    refine AllReadyH.cons rfl (fun J hJ => ?_) AllReadyH.nil
    go_simp
    refine (number_any _ P K _ hP hP' hK hK' hPK hR (fun t h1 h2 => redN_zero hfK.out _ _ t h1 (by omega))).mono ?_
    rintro e w2 ⟨rfl, hb2⟩
    have hS2 := RS2 hSy hb2
    go_wp2_with fail
    refine hJ.out _ _ hS2 (fun hSz => ?_)
    clear hJ J
    try simp only [Act.put, List.setIfInBounds_toArray, List.set_cons_zero, List.set_cons_succ]
    refine wpAnyH_ready (rs := [11]) (by kernel_rfl) (by simp) ?_
    refine AllReadyH.cons rfl (fun J hJ => ?_) AllReadyH.nil
    go_simp
    refine hJ.out _ _ hSz (fun _ => ?_)
    clear hJ J
    refine wpAnyH_done (by kernel_rfl) ?_ _
    refine NoPanic.normal ?_
    go_wp2
    go_ret
    exact ⟨rfl, hS2.2.2.2.2⟩

end Go.Proofs.YtjfjdidibglhaabDoor.Fd

/- The walks of Add and Mul. -/
namespace Go.Proofs.YtjfjdidibglhaabDoor.Fd
open Go.RowKit

/-- The sum of two elements, as a number. -/
def sumZ (p k a b : Int) : Int := hor (plusF (digF a.toNat p.toNat) (digF b.toNat p.toNat) p) p k.toNat k.toNat
/-- The product of two elements, as a number. -/
def prodZ (p k : Int) (l : List Int) (a b : Int) : Int := hor (redN (monL l) k.toNat p (11 - k.toNat) (mulN (digF a.toNat p.toNat) (digF b.toNat p.toNat) p 6 6)) p k.toNat k.toNat

theorem open_ok {p k : Int} {l es : List Int} (h : OpenIs p k l es 0) : FaultIs p k l 0 ∧ inL (ordZ p k) es := by
  rcases h with ⟨h, _⟩ | ⟨_, _, h⟩ | ⟨h1, h2, _⟩
  · exact absurd rfl h
  · exact absurd h (by decide)
  · exact ⟨h1, h2⟩
theorem sl_pair (w : World) (a b : Int) : Sl (w.alloc (.cells #[.int .i64 a, .int .i64 b] 3)) (.slice (some ⟨w.heap.size, 0, none⟩) 2 2) [a, b] := by
  refine ⟨_, 2, rfl, fun j hj => ⟨w.heap.size, 0, rfl, ?_⟩⟩
  have h := cell_of_row (w.alloc (.cells #[.int .i64 a, .int .i64 b] 3)) w.heap.size (0 + j) _ _ _ (heap_alloc_new w _)
  rw [h]
  have : j = 0 ∨ j = 1 := by simp at hj; omega
  rcases this with rfl | rfl <;> rfl
/-- What a field that is one, and elements of it, are as natural numbers. -/
theorem good_parts {p k : Int} {l : List Int} (h : FaultIs p k l 0) : ∃ P K : Nat, p = P ∧ k = K ∧ 2 ≤ P ∧ P ≤ 61 ∧ 1 ≤ K ∧ K ≤ 6 ∧ P ^ K ≤ 64 ∧ ordZ p k = ((P ^ K : Nat) : Int) ∧ l.length = K ∧ inP p (monL l) ∧ monL l K = 1 ∧ isPrimeB p = true := by
  obtain ⟨h0, h1, h2, h3⟩ := h.ok
  obtain ⟨P, K, rfl, rfl, hP, hP', hK, hK', hPK, hq⟩ := ord_nat h0
  have hl : l.length = K := by omega
  refine ⟨P, K, rfl, rfl, hP, hP', hK, hK', hPK, hq, hl, monL_in (by omega) h2, ?_, (ord_parts h0).1⟩
  have := monL_top l
  rwa [hl] at this

set_option maxRecDepth 100000 in
set_option maxHeartbeats 1000000 in
theorem Add_any (p k a b : Int) (l : List Int) (v : Value) (w : World) (hT : Tab w) (hl : Sl w v l) (hll : l.length ≤ maxLen) :
    Calls Tryd.prog 72 #[.agg #[.int .i64 p, .int .i64 k, v], .int .i64 a, .int .i64 b] w fun e w' => ∃ (s z : Int), e = .returned (.tuple #[.int .i64 s, .int .i64 z]) ∧ OpenIs p k l [a, b] z ∧ Hid (z ≠ 0 → s = 0) ∧ Hid (z = 0 → s = sumZ p k a b) ∧ Below w.heap.size w w' := by
  obtain ⟨A, ca, rfl, _⟩ := id hl
  have hbx : Below w.heap.size w ((w.alloc (.cells #[.int .i64 p, .int .i64 k, .slice A l.length ca] 24)).alloc (.cells #[.int .i64 a, .int .i64 b] 3)) := ((Below.refl _ _).alloc (Nat.le_refl _) _).alloc (by simp) _
  have hpair := sl_pair (w.alloc (.cells #[.int .i64 p, .int .i64 k, .slice A l.length ca] 24)) a b
  simp only [World.size_alloc] at hpair
  go_enter Tryd.func72, Tryd.ntmps72
  go_wp2_with fail
  refine (open_any p k l [a, b] _ _ _ (hT.below hbx) (hl.below hbx) hpair hll (by simp [maxLen])).mono ?_
  rintro e w1 ⟨z, x, y, c, f, rfl, hO, HZ, hb1⟩
  have hB1 : Below w.heap.size w w1 := hbx.trans (hb1.mono hbx.size)
  have HO : Hid (OpenIs p k l [a, b] z) := hO
  have hnew : RB (w1.alloc (.cells #[.int .i64 0, .int .i64 0, .int .i64 0, .int .i64 0, .int .i64 0, .int .i64 0, .int .i64 0, .int .i64 0, .int .i64 0, .int .i64 0, .int .i64 0, .int .i64 0, .int .i64 0, .int .i64 0] 105)) w1.heap.size 0 0 0 (fun _ => 0) := RB.made w1 0 0 0 (fun _ => 0)
  have hBA : Below w.heap.size w ((w1.alloc (.cells #[.int .i64 0, .int .i64 0, .int .i64 0, .int .i64 0, .int .i64 0, .int .i64 0, .int .i64 0, .int .i64 0, .int .i64 0, .int .i64 0, .int .i64 0, .int .i64 0, .int .i64 0, .int .i64 0] 105)).setRow w1.heap.size (ringRow x y c f)) := bsetRow (hB1.alloc hB1.size _) hB1.size _
  obtain ⟨fs, hu⟩ := und53
  clear hpair hO
  by_cases hz : z = 0
  · subst hz
    obtain ⟨rfl, rfl, rfl, rfl⟩ := HZ.out rfl
    obtain ⟨hF, hin⟩ := open_ok HO.out
    obtain ⟨P, K, rfl, rfl, hP, hP', hK, hK', hPK, hq, hlen, hm, hmK, _⟩ := good_parts hF
    have ha := hin 0 (by simp)
    have hb := hin 1 (by simp)
    rw [hq] at ha hb
    simp only [List.getD_cons_zero, List.getD_cons_succ] at ha hb
    obtain ⟨a', rfl⟩ := Int.eq_ofNat_of_zero_le ha.1
    obtain ⟨b', rfl⟩ := Int.eq_ofNat_of_zero_le hb.1
    have ha' : a' < P ^ K := by omega
    have hb' : b' < P ^ K := by omega
    clear hin hF ha hb HZ hq
    go_wp2_with (first
      | (refine wpList_store_row rfl 105 _ _ rfl w1.heap.size _ rfl rfl 105 _ hnew (inf53 _ _ _ _) rfl (ringRow_one _ _ _ _) ?_)
      | (refine wpList_load_row rfl 105 _ rfl w1.heap.size rfl 105 _ (0, 0) _ (hnew.whole _ _ _ _) hu rfl (inf53 _ _ _ _) ?_))
    refine (add_any P K a' b' _ (monL l) _ hP (by omega) hK hK' hPK ha' hb').mono ?_
    rintro e w2 ⟨rfl, hb2⟩
    go_wp2
    go_ret2
    exact ⟨_, _, rfl, HO.out, (fun h => absurd rfl h : (0 : Int) ≠ 0 → _), (fun _ => by unfold sumZ; simp : (0 : Int) = 0 → _), hBA.trans (hb2.mono hBA.size)⟩
  · have hzb : (z != 0) = true := by simpa using hz
    go_wp2_with (first
      | (refine wpList_store_row rfl 105 _ _ rfl w1.heap.size _ rfl rfl 105 _ hnew (inf53 _ _ _ _) rfl (ringRow_one _ _ _ _) ?_))
    go_ret2
    exact ⟨0, z, rfl, HO.out, (fun _ => rfl : z ≠ 0 → _), (fun h => absurd h hz : z = 0 → _), hBA⟩

set_option maxRecDepth 100000 in
set_option maxHeartbeats 1000000 in
theorem Mul_any (p k a b : Int) (l : List Int) (v : Value) (w : World) (hT : Tab w) (hl : Sl w v l) (hll : l.length ≤ maxLen) :
    Calls Tryd.prog 32 #[.agg #[.int .i64 p, .int .i64 k, v], .int .i64 a, .int .i64 b] w fun e w' => ∃ (s z : Int), e = .returned (.tuple #[.int .i64 s, .int .i64 z]) ∧ OpenIs p k l [a, b] z ∧ Hid (z ≠ 0 → s = 0) ∧ Hid (z = 0 → s = prodZ p k l a b) ∧ Below w.heap.size w w' := by
  obtain ⟨A, ca, rfl, _⟩ := id hl
  have hbx : Below w.heap.size w ((w.alloc (.cells #[.int .i64 p, .int .i64 k, .slice A l.length ca] 24)).alloc (.cells #[.int .i64 a, .int .i64 b] 3)) := ((Below.refl _ _).alloc (Nat.le_refl _) _).alloc (by simp) _
  have hpair := sl_pair (w.alloc (.cells #[.int .i64 p, .int .i64 k, .slice A l.length ca] 24)) a b
  simp only [World.size_alloc] at hpair
  go_enter Tryd.func32, Tryd.ntmps32
  go_wp2_with fail
  refine (open_any p k l [a, b] _ _ _ (hT.below hbx) (hl.below hbx) hpair hll (by simp [maxLen])).mono ?_
  rintro e w1 ⟨z, x, y, c, f, rfl, hO, HZ, hb1⟩
  have hB1 : Below w.heap.size w w1 := hbx.trans (hb1.mono hbx.size)
  have HO : Hid (OpenIs p k l [a, b] z) := hO
  have hnew : RB (w1.alloc (.cells #[.int .i64 0, .int .i64 0, .int .i64 0, .int .i64 0, .int .i64 0, .int .i64 0, .int .i64 0, .int .i64 0, .int .i64 0, .int .i64 0, .int .i64 0, .int .i64 0, .int .i64 0, .int .i64 0] 105)) w1.heap.size 0 0 0 (fun _ => 0) := RB.made w1 0 0 0 (fun _ => 0)
  have hBA : Below w.heap.size w ((w1.alloc (.cells #[.int .i64 0, .int .i64 0, .int .i64 0, .int .i64 0, .int .i64 0, .int .i64 0, .int .i64 0, .int .i64 0, .int .i64 0, .int .i64 0, .int .i64 0, .int .i64 0, .int .i64 0, .int .i64 0] 105)).setRow w1.heap.size (ringRow x y c f)) := bsetRow (hB1.alloc hB1.size _) hB1.size _
  obtain ⟨fs, hu⟩ := und53
  clear hpair hO
  by_cases hz : z = 0
  · subst hz
    obtain ⟨rfl, rfl, rfl, rfl⟩ := HZ.out rfl
    obtain ⟨hF, hin⟩ := open_ok HO.out
    obtain ⟨P, K, rfl, rfl, hP, hP', hK, hK', hPK, hq, hlen, hm, hmK, _⟩ := good_parts hF
    have ha := hin 0 (by simp)
    have hb := hin 1 (by simp)
    rw [hq] at ha hb
    simp only [List.getD_cons_zero, List.getD_cons_succ] at ha hb
    obtain ⟨a', rfl⟩ := Int.eq_ofNat_of_zero_le ha.1
    obtain ⟨b', rfl⟩ := Int.eq_ofNat_of_zero_le hb.1
    have ha' : a' < P ^ K := by omega
    have hb' : b' < P ^ K := by omega
    have HMK : Hid (monL l K = 1) := hmK
    clear hin hF ha hb HZ hq hmK
    go_wp2_with (first
      | (refine wpList_store_row rfl 105 _ _ rfl w1.heap.size _ rfl rfl 105 _ hnew (inf53 _ _ _ _) rfl (ringRow_one _ _ _ _) ?_)
      | (refine wpList_load_row rfl 105 _ rfl w1.heap.size rfl 105 _ (0, 0) _ (hnew.whole _ _ _ _) hu rfl (inf53 _ _ _ _) ?_))
    refine (mul_any P K a' b' _ (monL l) _ hP (by omega) hK hK' hPK ha' hb' hm HMK).mono ?_
    rintro e w2 ⟨rfl, hb2⟩
    go_wp2
    go_ret2
    exact ⟨_, _, rfl, HO.out, (fun h => absurd rfl h : (0 : Int) ≠ 0 → _), (fun _ => by unfold prodZ; simp : (0 : Int) = 0 → _), hBA.trans (hb2.mono hBA.size)⟩
  · have hzb : (z != 0) = true := by simpa using hz
    go_wp2_with (first
      | (refine wpList_store_row rfl 105 _ _ rfl w1.heap.size _ rfl rfl 105 _ hnew (inf53 _ _ _ _) rfl (ringRow_one _ _ _ _) ?_))
    go_ret2
    exact ⟨0, z, rfl, HO.out, (fun _ => rfl : z ≠ 0 → _), (fun h => absurd h hz : z = 0 → _), hBA⟩

end Go.Proofs.YtjfjdidibglhaabDoor.Fd

/- The walk of Times of the document's answer; the two products are one. -/
/- The walks of Sum and Times of the document's answer. -/
namespace Go.Proofs.YtjfjdidibglhaabDoor.Fd
open Go.RowKit

end Go.Proofs.YtjfjdidibglhaabDoor.Fd

namespace Go.Proofs.YtjfjdidibglhaabDoor.Fd
open Go.RowKit

theorem prod_same {P K a b : Nat} {m : Nat → Int} (hP : 2 ≤ P) (hK : 1 ≤ K) (hK' : K ≤ 6) (ha : a < P ^ K) (hb : b < P ^ K) :
    redN m K P (11 - K) (mulN (digF a P) (digF b P) P 6 6) = redN m K P K (mulN (digF a P) (digF b P) P K K) := by
  have hp : (0 : Int) < P := by omega
  have e1 : mulN (digF a P) (digF b P) P 6 6 = mulN (digF a P) (digF b P) P K K := by
    rw [show (6 : Nat) = K + (6 - K) by omega, mulN_few hp (fun t ht => digF_small ha hP t ht), ← show (6 : Nat) = K + (6 - K) by omega, mulN_short hp (fun t ht => digF_small hb hP t ht) hK']
  rw [e1]
  have hin := mulN_in (a := digF a P) (b := digF b P) (j := K) hp K
  by_cases h1 : K = 1
  · subst h1
    have h := redN_more (m := m) (d := 1) 1 hin (fun t ht => mulN_over 1 t (by omega)) (Nat.le_refl _) 9
    exact h
  · have h0 : ∀ t, 2 * K - 2 < t → mulN (digF a P) (digF b P) P K K t = 0 := fun t ht => mulN_over K t (by omega)
    have h2 := redN_more (m := m) (d := K) (2 * K - 2) hin h0 (by omega) (12 - 2 * K)
    have h3 := redN_more (m := m) (d := K) (2 * K - 2) hin h0 (by omega) 1
    rw [show 2 * K - 2 + 1 - K + (12 - 2 * K) = 11 - K by omega] at h2
    rw [show 2 * K - 2 + 1 - K + 1 = K by omega] at h3
    rw [h2, h3]

end Go.Proofs.YtjfjdidibglhaabDoor.Fd

namespace Go.Proofs.YtjfjdidibglhaabDoor.Fd
open Go.RowKit

theorem open_in {p k : Int} {l es : List Int} {z : Int} (hF : FaultIs p k l 0) (hi : inL (ordZ p k) es) (h : OpenIs p k l es z) : z = 0 := by
  rcases h with ⟨h0, h⟩ | ⟨_, h, _⟩ | ⟨_, _, h⟩
  · exact absurd (h.one hF) h0
  · exact absurd hi h
  · exact h
theorem open_out {p k : Int} {l es : List Int} {z : Int} (hF : FaultIs p k l 0) (hi : ¬ inL (ordZ p k) es) (h : OpenIs p k l es z) : z = 1 := by
  rcases h with ⟨h0, h⟩ | ⟨_, _, h⟩ | ⟨_, h, _⟩
  · exact absurd (h.one hF) h0
  · exact h
  · exact absurd h hi
theorem inB_iff (q a : Int) : inB q a = true ↔ 0 ≤ a ∧ a < q := by simp [inB]
theorem inL_pair (q a b : Int) : inL q [a, b] ↔ inB q a = true ∧ inB q b = true := by
  rw [inB_iff, inB_iff]
  constructor
  · intro h
    exact ⟨h 0 (by simp), h 1 (by simp)⟩
  · rintro ⟨h1, h2⟩ j hj
    have : j = 0 ∨ j = 1 := by simp at hj; omega
    rcases this with rfl | rfl
    · exact h1
    · exact h2

end Go.Proofs.YtjfjdidibglhaabDoor.Fd

/- The walks of pow, Inv and Pow; sums and products of a true field's elements. -/
namespace Go.Proofs.YtjfjdidibglhaabDoor.Fd
open Go.RowKit

theorem mulQ_cast {P K : Nat} {m : Nat → Int} (hR : Ring1 P K m) (a b : Nat) : ((mulQ P K m a b : Nat) : Int) = hor (redN m K P K (mulN (digF a P) (digF b P) P K K)) P K K := by
  unfold mulQ
  exact Int.toNat_of_nonneg (hor_bd (k := K) (show (2 : Int) ≤ P by have := hR.two; omega) (mulQ_in hR a b) K).1
theorem addQ_cast {P K : Nat} (hP : 2 ≤ P) (a b : Nat) : ((addQ P K a b : Nat) : Int) = hor (plusF (digF a P) (digF b P) P) P K K := by
  unfold addQ
  exact Int.toNat_of_nonneg (hor_bd (k := K) (show (2 : Int) ≤ P by omega) (plusF_in _ _ _ (by omega)) K).1
theorem mul_Q (P K a b : Nat) (Q : Int) (m : Nat → Int) (w : World) (hR : Ring1 P K m) (hP' : P ≤ 64) (hK' : K ≤ 6) (hPK : P ^ K ≤ 64) (ha : a < P ^ K) (hb : b < P ^ K) (s : Nat) (hs : Hid (s = mulQ P K m a b)) :
    Calls Tryd.prog 69 #[.agg (ringRow P K Q m), .int .i64 a, .int .i64 b] w fun e w' => e = .returned (.int .i64 s) ∧ Below w.heap.size w w' := by
  have h := mul_any P K a b Q m w hR.two hP' hR.one hK' hPK ha hb hR.low hR.top
  rw [prod_same hR.two hR.one hK' ha hb, ← mulQ_cast hR, ← hs.out] at h
  exact h

set_option maxRecDepth 100000 in
set_option maxHeartbeats 1000000 in
theorem pow_any (P K a : Nat) (n Q : Int) (m : Nat → Int) (w : World) (hR : Ring1 P K m) (hP' : P ≤ 64) (hK' : K ≤ 6) (hPK : P ^ K ≤ 64) (ha : a < P ^ K) (hn : 0 ≤ n) (hn' : n ≤ 9223372036854775807) (s : Nat) (hs : Hid (s = powQ P K m a n.toNat)) :
    Calls Tryd.prog 116 #[.agg (ringRow P K Q m), .int .i64 a, .int .i64 n] w fun e w' => e = .returned (.int .i64 s) ∧ Below w.heap.size w w' := by
  obtain ⟨fs, hu⟩ := und53
  have hone := one_lt hR
  go_enter Tryd.func116, Tryd.ntmps116
  go_wp2
  go_loopw [1, 2, 7] (fun x y o wr => ∃ (b c : Nat) (j : Int), x = .int .i64 b ∧ y = .int .i64 j ∧ o = .int .i64 c ∧ 0 ≤ j ∧ j ≤ 9223372036854775807 ∧ b < P ^ K ∧ c < P ^ K ∧ Hid (mulQ P K m c (powQ P K m b j.toNat) = s) ∧ RB wr w.heap.size P K Q m ∧ Below w.heap.size w wr) (fun _ y _ _ => (intOf y).toNat)
  case atStart =>
    refine ⟨a, 1, n, rfl, rfl, rfl, hn, hn', ha, hone, ?_, RB.made w P K Q m, (Below.refl _ _).alloc (Nat.le_refl _) _⟩
    show mulQ P K m 1 (powQ P K m a n.toNat) = s
    rw [one_mulQ hR (powQ_lt hR a _), hs.out]
  case round =>
    obtain ⟨b, c, j, rfl, rfl, rfl, hj, hj', hb, hc, HI, hRB, hB⟩ := hrel
    by_cases hlt : 0 < j
    · have hq0 : 0 ≤ j / 2 := by omega
      have hq1 : j / 2 < j := by omega
      have hw : wrap64 (j.tdiv 2) = j / 2 := by rw [Int.tdiv_eq_ediv_of_nonneg hj]; unfold wrap64; omega
      obtain ⟨bb, Hbb⟩ : ∃ x, Hid (x = mulQ P K m b b) := ⟨_, rfl⟩
      have hbb : bb < P ^ K := by rw [Hbb.out]; exact mulQ_lt hR b b
      have HSQ : Hid (∀ k, powQ P K m bb k = powQ P K m b (2 * k)) := by
        intro k
        have e : bb = powQ P K m b 2 := by
          rw [Hbb.out]
          show _ = mulQ P K m b (powQ P K m b 1)
          rw [powQ_first hR hb]
        rw [e, powQ_mul hR]
      by_cases hodd : j % 2 = 1
      · have hb1 : (j % 2 == 1) = true := by simpa using hodd
        obtain ⟨cb, Hcb⟩ : ∃ x, Hid (x = mulQ P K m c b) := ⟨_, rfl⟩
        have hcb : cb < P ^ K := by rw [Hcb.out]; exact mulQ_lt hR c b
        have HN : Hid (mulQ P K m cb (powQ P K m bb (j / 2).toNat) = s) := by
          show mulQ P K m cb (powQ P K m bb (j / 2).toNat) = s
          rw [HSQ.out, Hcb.out, mulQ_assoc hR, ← HI.out]
          rw [show j.toNat = 2 * (j / 2).toNat + 1 by omega]
          rfl
        clear hodd
        go_wp2_with (first
          | (refine wpList_load_row rfl 105 _ rfl w.heap.size rfl 105 _ (0, 0) _ hRB hu rfl (inf53 _ _ _ _) ?_))
        refine (mul_Q P K c b Q m _ hR hP' hK' hPK hc hb cb Hcb).mono ?_
        rintro e w1 ⟨rfl, hb1⟩
        have hRB1 := hRB.below hb1
        have hB1 : Below w.heap.size w w1 := hB.trans (hb1.mono hB.size)
        go_wp2_with (first
          | (refine wpList_load_row rfl 105 _ rfl w.heap.size rfl 105 _ (0, 0) _ hRB1 hu rfl (inf53 _ _ _ _) ?_))
        refine (mul_Q P K b b Q m _ hR hP' hK' hPK hb hb bb Hbb).mono ?_
        rintro e w2 ⟨rfl, hb2⟩
        have hRB2 := hRB1.below hb2
        have hB2 : Below w.heap.size w w2 := hB1.trans (hb2.mono hB1.size)
        go_wp2
        go_roundw
        case rel => exact ⟨bb, cb, j / 2, rfl, rfl, rfl, hq0, by omega, hbb, hcb, HN, hRB2, hB2⟩
        case measure => simp [intOf]; omega
      · have hb1 : (j % 2 == 1) = false := by simpa using hodd
        have HN : Hid (mulQ P K m c (powQ P K m bb (j / 2).toNat) = s) := by
          show mulQ P K m c (powQ P K m bb (j / 2).toNat) = s
          rw [HSQ.out, ← HI.out, show 2 * (j / 2).toNat = j.toNat by omega]
        clear hodd
        go_wp2_with (first
          | (refine wpList_load_row rfl 105 _ rfl w.heap.size rfl 105 _ (0, 0) _ hRB hu rfl (inf53 _ _ _ _) ?_))
        refine (mul_Q P K b b Q m _ hR hP' hK' hPK hb hb bb Hbb).mono ?_
        rintro e w2 ⟨rfl, hb2⟩
        have hRB2 := hRB.below hb2
        have hB2 : Below w.heap.size w w2 := hB.trans (hb2.mono hB.size)
        go_wp2
        go_roundw
        case rel => exact ⟨bb, c, j / 2, rfl, rfl, rfl, hq0, by omega, hbb, hc, HN, hRB2, hB2⟩
        case measure => simp [intOf]; omega
    · have hc' : c = s := by
        have h := HI.out
        rw [show j.toNat = 0 by omega] at h
        show c = s
        rw [← h]
        exact (mulQ_one hR hc).symm
      subst hc'
      go_wp2
      go_ret
      exact ⟨rfl, hB⟩

end Go.Proofs.YtjfjdidibglhaabDoor.Fd

namespace Go.Proofs.YtjfjdidibglhaabDoor.Fd
open Go.RowKit

theorem sl_one (w : World) (a : Int) : Sl (w.alloc (.cells #[.int .i64 a] 3)) (.slice (some ⟨w.heap.size, 0, none⟩) 1 1) [a] := by
  refine ⟨_, 1, rfl, fun j hj => ⟨w.heap.size, 0, rfl, ?_⟩⟩
  have h := cell_of_row (w.alloc (.cells #[.int .i64 a] 3)) w.heap.size (0 + j) _ _ _ (heap_alloc_new w _)
  rw [h]
  have : j = 0 := by simp at hj; omega
  subst this; rfl
/-- A field that is one, in natural numbers. -/
structure GoodF (P K : Nat) (l : List Int) : Prop where
  fault : FaultIs (P : Int) K l 0
  field : FieldQ P K (monL l)
  le61 : P ≤ 61
  le6 : K ≤ 6
  le64 : P ^ K ≤ 64
  ord : ordZ (P : Int) K = ((P ^ K : Nat) : Int)
  len : l.length = K
theorem good_of {p k : Int} {l : List Int} (h : FaultIs p k l 0) : ∃ P K : Nat, p = P ∧ k = K ∧ GoodF P K l := by
  obtain ⟨h0, h1, h2, h3⟩ := h.ok
  obtain ⟨P, K, rfl, rfl, hP, hP', hK, hK', hPK, hq, hlen, hmi, hmK, hpr⟩ := good_parts h
  rw [Int.toNat_natCast, Int.toNat_natCast] at h3
  exact ⟨P, K, rfl, rfl, h, field_of_irr hpr hK hPK hlen h2 h3, hP', hK', hPK, hq, hlen⟩
theorem in_pair {P K : Nat} {l : List Int} (hG : GoodF P K l) {a b : Nat} (ha : a < P ^ K) (hb : b < P ^ K) : inL (ordZ (P : Int) K) [(a : Int), (b : Int)] := by
  rw [inL_pair, inB_iff, inB_iff, hG.ord]; omega
theorem in_one {P K : Nat} {l : List Int} (hG : GoodF P K l) {a : Nat} (ha : a < P ^ K) : inL (ordZ (P : Int) K) [(a : Int)] := by
  intro j hj
  have : j = 0 := by simp at hj; omega
  subst this
  rw [hG.ord]
  show 0 ≤ (a : Int) ∧ (a : Int) < _
  omega

theorem AddG (P K a b : Nat) (l : List Int) (v : Value) (w : World) (hT : Tab w) (hl : Sl w v l) (hll : l.length ≤ maxLen) (hG : GoodF P K l) (ha : a < P ^ K) (hb : b < P ^ K) (s : Nat) (hs : Hid (s = addQ P K a b)) :
    Calls Tryd.prog 72 #[.agg #[.int .i64 P, .int .i64 K, v], .int .i64 a, .int .i64 b] w fun e w' => e = .returned (.tuple #[.int .i64 s, .int .i64 0]) ∧ Below w.heap.size w w' := by
  refine (Add_any P K a b l v w hT hl hll).mono ?_
  rintro e w' ⟨x, z, rfl, hO, _, H1, hB⟩
  obtain rfl := open_in hG.fault (in_pair hG ha hb) hO
  have h := H1.out rfl
  unfold sumZ at h
  simp only [Int.toNat_natCast] at h
  rw [← addQ_cast hG.field.two, ← hs.out] at h
  exact ⟨by rw [h], hB⟩
theorem MulG (P K a b : Nat) (l : List Int) (v : Value) (w : World) (hT : Tab w) (hl : Sl w v l) (hll : l.length ≤ maxLen) (hG : GoodF P K l) (ha : a < P ^ K) (hb : b < P ^ K) (s : Nat) (hs : Hid (s = mulQ P K (monL l) a b)) :
    Calls Tryd.prog 32 #[.agg #[.int .i64 P, .int .i64 K, v], .int .i64 a, .int .i64 b] w fun e w' => e = .returned (.tuple #[.int .i64 s, .int .i64 0]) ∧ Below w.heap.size w w' := by
  refine (Mul_any P K a b l v w hT hl hll).mono ?_
  rintro e w' ⟨x, z, rfl, hO, _, H1, hB⟩
  obtain rfl := open_in hG.fault (in_pair hG ha hb) hO
  have h := H1.out rfl
  unfold prodZ at h
  simp only [Int.toNat_natCast] at h
  rw [prod_same hG.field.two hG.field.one hG.le6 ha hb, ← mulQ_cast hG.field.toRing1, ← hs.out] at h
  exact ⟨by rw [h], hB⟩

def zBk (f : Nat → Int) : Bool := (List.range 11).all fun t => f t == 0
theorem zBk_iff (f : Nat → Int) : zBk f = true ↔ isZ f := by
  unfold zBk isZ
  rw [List.all_eq_true]
  simp
theorem fact_no : ∀ n, n < 3 → ¬ goodAt 2 3 n := by
  intro n hn h
  have h0 : zBk (redN (digF (2 ^ 1 + 0) 2) 1 (2 : Nat) (11 - 1) (digF (2 ^ 3 + 0) 2)) = true := by decide +kernel
  have h1 : zBk (redN (digF (2 ^ 1 + 1) 2) 1 (2 : Nat) (11 - 1) (digF (2 ^ 3 + 1) 2)) = true := by decide +kernel
  have h2 : zBk (redN (digF (2 ^ 1 + 0) 2) 1 (2 : Nat) (11 - 1) (digF (2 ^ 3 + 2) 2)) = true := by decide +kernel
  have : n = 0 ∨ n = 1 ∨ n = 2 := by omega
  rcases this with rfl | rfl | rfl
  · exact h 1 (by omega) (by omega) 0 (by decide) ((zBk_iff _).1 h0)
  · exact h 1 (by omega) (by omega) 1 (by decide) ((zBk_iff _).1 h1)
  · exact h 1 (by omega) (by omega) 0 (by decide) ((zBk_iff _).1 h2)
theorem fact_yes : goodAt 2 3 3 := by
  intro e h1 h2 b hb hz
  have he : e = 1 := by omega
  subst he
  have h0 : zBk (redN (digF (2 ^ 1 + 0) 2) 1 (2 : Nat) (11 - 1) (digF (2 ^ 3 + 3) 2)) = false := by decide +kernel
  have h1 : zBk (redN (digF (2 ^ 1 + 1) 2) 1 (2 : Nat) (11 - 1) (digF (2 ^ 3 + 3) 2)) = false := by decide +kernel
  have : b = 0 ∨ b = 1 := by simp at hb; omega
  rcases this with rfl | rfl
  · rw [(zBk_iff _).2 hz] at h0; cases h0
  · rw [(zBk_iff _).2 hz] at h1; cases h1
theorem fact_ord : ordZ 2 3 = 8 := by decide +kernel
theorem fact_least {q d : Int} {l : List Int} {z : Int} (h : LeastIs 2 3 q d l z) : q = 2 ∧ d = 3 ∧ l = digL 3 2 3 ∧ z = 0 :=
  h.one (.inr ⟨2, 3, rfl, rfl, by rw [fact_ord]; decide, .inl ⟨3, by decide, fact_yes, fact_no, rfl, rfl, rfl, rfl⟩⟩)
theorem fact_good : GoodF 2 3 (digL 3 2 3) := by
  have hin : inL (2 : Int) (digL 3 2 3) := fun j hj => by
    rw [digL_length] at hj
    rw [digL_at _ _ _ _ hj]; exact digF_in 3 2 (by omega) j
  have hirr : irrP (monL (digL 3 2 3)) 3 2 := by rw [monL_dig 3 2 3 (by decide) (by decide)]; exact fact_yes
  have hF : FaultIs ((2 : Nat) : Int) ((3 : Nat) : Int) (digL 3 2 3) 0 := .inr (.inr (.inr (.inr ⟨by rw [show ((2 : Nat) : Int) = 2 from rfl, show ((3 : Nat) : Int) = 3 from rfl, fact_ord]; decide, by rw [digL_length], hin, hirr, rfl⟩)))
  obtain ⟨P, K, e1, e2, hG⟩ := good_of hF
  obtain rfl : 2 = P := by omega
  obtain rfl : 3 = K := by omega
  exact hG
end Go.Proofs.YtjfjdidibglhaabDoor.Fd
