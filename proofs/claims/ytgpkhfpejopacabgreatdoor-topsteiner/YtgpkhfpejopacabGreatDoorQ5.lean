/- The walks of Unit, Commutes, Associates, Idempotent. -/
import Derived.Test.YtgpkhfpejopacabGreatDoorLAp
import Derived.Shelf.Abstract
import Derived.Test.YtgpkhfpejopacabGreatDoorQPure
import Derived.Deep.RegionHeld3
import Derived.Deep.MidRow
import Derived.Deep.QuietTactic
import Derived.BigQuiet
/- The walks of isSide, isOf; tellers; asked; those who tell what comes for the first time. -/
namespace Go.Proofs.YtgpkhfpejopacabGreatDoor.Ql
open Go.RowKit

def sideB (n : Int) : Bool := decide (1 ≤ n) && decide (n ≤ 8)
def ofB (n x : Int) : Bool := decide (0 ≤ x) && decide (x < n)
set_option maxRecDepth 100000 in
theorem isSide_any (n : Int) (w : World) : Calls Tryz.prog 31 #[.int .i64 n] w fun e w' => e = .returned (.bool (sideB n)) ∧ w' = w := by
  unfold sideB
  by_cases h : 1 ≤ n
  · have hd : decide (1 ≤ n) = true := decide_eq_true h
    by_cases h2 : n ≤ 8
    · have hd2 : decide (n ≤ 8) = true := decide_eq_true h2
      go_enter Tryz.func31, Tryz.ntmps31
      go_wp2
      go_ret
      simp [hd, hd2]
    · have hd2 : decide (n ≤ 8) = false := decide_eq_false h2
      go_enter Tryz.func31, Tryz.ntmps31
      go_wp2
      go_ret
      simp
  · have hd : decide (1 ≤ n) = false := decide_eq_false h
    go_enter Tryz.func31, Tryz.ntmps31
    go_wp2
    go_ret
    simp
set_option maxRecDepth 100000 in
theorem isOf_any (n x : Int) (w : World) : Calls Tryz.prog 32 #[.int .i64 n, .int .i64 x] w fun e w' => e = .returned (.bool (ofB n x)) ∧ w' = w := by
  unfold ofB
  by_cases h : 0 ≤ x
  · have hd : decide (0 ≤ x) = true := decide_eq_true h
    by_cases h2 : x < n
    · have hd2 : decide (x < n) = true := decide_eq_true h2
      go_enter Tryz.func32, Tryz.ntmps32
      go_wp2
      go_ret
      simp [hd, hd2]
    · have hd2 : decide (x < n) = false := decide_eq_false h2
      go_enter Tryz.func32, Tryz.ntmps32
      go_wp2
      go_ret
      simp
  · have hd : decide (0 ≤ x) = false := decide_eq_false h
    go_enter Tryz.func32, Tryz.ntmps32
    go_wp2
    go_ret
    simp

/-- The function tells the number in each place. -/
def TellAt (g : Nat) (lb : Array Value) (m n : Nat) (t : Nat → Nat → Nat) (w : World) : Prop :=
  ∀ W : World, Below w.heap.size w W → ∀ r c : Nat, r < m → c < n → Calls Tryz.prog g (#[.int .i64 (r : Int), .int .i64 (c : Int)] ++ lb) W fun e w' => e = .returned (.int .i64 (t r c : Int)) ∧ Below W.heap.size W w'
def Teller (v : Value) (m n : Nat) (t : Nat → Nat → Nat) (w : World) : Prop :=
  ∃ g lb, v = .func (.func g) #[] lb ∧ (∀ args w, (callFunc g args).run Tryz.prog w = .ok (.enter g args) w) ∧ TellAt g lb m n t w
theorem Teller.below {v : Value} {m n : Nat} {t : Nat → Nat → Nat} {w W : World} (h : Teller v m n t w) (hb : Below w.heap.size w W) : Teller v m n t W := by
  obtain ⟨g, lb, rfl, e, h⟩ := h
  exact ⟨g, lb, rfl, e, fun W' b r c hr hc => h W' (Below.next hb b) r c hr hc⟩
theorem Teller.congr {v : Value} {m n : Nat} {t t' : Nat → Nat → Nat} {w : World} (h : Teller v m n t w) (he : ∀ r c, r < m → c < n → t r c = t' r c) : Teller v m n t' w := by
  obtain ⟨g, lb, rfl, e, h⟩ := h
  exact ⟨g, lb, rfl, e, fun W' b r c hr hc => by rw [← he r c hr hc]; exact h W' b r c hr hc⟩

set_option maxRecDepth 100000 in
theorem e36 : ∀ args w, (callFunc 78 args).run Tryz.prog w = .ok (.enter 78 args) w := enters_of Tryz.func78 (by kernel_rfl) rfl
set_option maxRecDepth 100000 in
set_option maxHeartbeats 1000000 in
theorem asked1_any (m n : Nat) (L : List Int) (v : Value) (w W : World) (b : Nat) (hv : Sl w v L) (hl : L.length = m * n) (hm : m ≤ 8) (hn : n ≤ 8) (h0 : ∀ j, j < m * n → 0 ≤ L.getD j 0)
    (hbx : w.heap[b]? = some (.cells #[.int .i64 (n : Int), v] 31 (0, 0))) (hB : Below w.heap.size w W) (r c : Nat) (hr : r < m) (hc : c < n) :
    Calls Tryz.prog 78 #[.int .i64 (r : Int), .int .i64 (c : Int), .pointer (some ⟨b, 0, none⟩)] W fun e w' => e = .returned (.int .i64 (sq n L r c : Int)) ∧ Below W.heap.size W w' := by
  have hlt := cell_lt hr hc
  obtain ⟨a, off, cap, rfl, ha, hcell⟩ := (hv.below hB).form hl (by omega)
  have hbl : b < w.heap.size := (Array.getElem?_eq_some_iff.1 hbx).1
  have hbx' := (hB.block b hbl).trans hbx
  have h1 : W.cell? ⟨b, 0, none⟩ = some (.int .i64 (n : Int)) := by rw [cell_of_row _ _ _ _ _ _ hbx']; rfl
  have h2 : W.cell? ⟨b, 1, none⟩ = some (.slice (some ⟨a, off, none⟩) (m * n) cap) := by rw [cell_of_row _ _ _ _ _ _ hbx']; rfl
  have h3 := hcell _ hlt
  have h4 : L.getD (r * n + c) 0 = (sq n L r c : Int) := by have := h0 _ hlt; unfold sq; omega
  rw [h4] at h3
  have hmn : m * n ≤ 99 := Nat.le_trans (Nat.mul_le_mul hm hn) (by decide)
  have hrn : r * n ≤ 99 := by omega
  obtain ⟨q, hq⟩ : ∃ q, q = r * n := ⟨_, rfl⟩
  obtain ⟨k, hk⟩ : ∃ k, k = q + c := ⟨_, rfl⟩
  have hmul : (r : Int) * (n : Int) = (q : Int) := by rw [hq]; simp
  have hadd : (q : Int) + (c : Int) = (k : Int) := by rw [hk]; simp
  rw [← hq, ← hk] at h3 hlt
  have hq99 : q ≤ 99 := by omega
  have hk99 : k ≤ 99 := by omega
  have hkz : (k : Int) < ((m * n : Nat) : Int) := by omega
  generalize sq n L r c = x at *
  generalize m * n = z at *
  clear hcell h0 hbx hbx' hv h4 hq hk hrn
  go_enter Tryz.func78, Tryz.ntmps78
  go_wp2
  go_ret
  exact ⟨rfl, Below.refl _ _⟩
set_option maxRecDepth 100000 in
set_option maxHeartbeats 1000000 in
theorem asked_any (m n : Nat) (L : List Int) (v : Value) (w : World) (hv : Sl w v L) (hl : L.length = m * n) (hm : m ≤ 8) (hn : n ≤ 8) (h0 : ∀ j, j < m * n → 0 ≤ L.getD j 0) :
    Calls Tryz.prog 34 #[.agg #[.int .i64 (n : Int), v]] w fun e w' => (∃ y, e = .returned y ∧ Teller y m n (sq n L) w') ∧ Below w.heap.size w w' := by
  go_enter Tryz.func34, Tryz.ntmps34
  go_wp2
  go_ret
  have hb := balloc w (.cells #[.int .i64 (n : Int), v] 31)
  refine ⟨⟨_, rfl, _, _, rfl, e36, fun W b r c hr hc => ?_⟩, hb⟩
  exact asked1_any m n L v _ W w.heap.size (hv.below hb) hl hm hn h0 (heap_alloc_new w _) b r c hr hc

/-- Block g holds which pairs have come. -/
def Met (w : World) (g : Nat) (f : Nat → Bool) : Prop := ∃ cur, w.heap[g]? = some (.cells cur 178 (0, 0)) ∧ ∀ j, j < 8 * 8 → cur[j]? = some (.bool (f j))
def updM (f : Nat → Bool) (i : Nat) : Nat → Bool := fun j => if j = i then true else f j
theorem Met.lt {w : World} {g : Nat} {f : Nat → Bool} (h : Met w g f) : g < w.heap.size := by
  obtain ⟨cur, h, _⟩ := h
  exact (Array.getElem?_eq_some_iff.1 h).1
theorem Met.cell {w : World} {g : Nat} {f : Nat → Bool} (h : Met w g f) (j : Nat) (hj : j < 8 * 8) : w.cell? ⟨g, j, none⟩ = some (.bool (f j)) := by
  obtain ⟨cur, h, hc⟩ := h
  rw [cell_of_row w g j _ _ _ h, hc j hj]
theorem Met.frozen {w : World} {g : Nat} {f : Nat → Bool} (h : Met w g f) (j : Nat) : w.frozen? ⟨g, j, none⟩ = false := by
  obtain ⟨cur, h, _⟩ := h
  exact frozen_of_row w g j _ _ h
theorem Met.set {w : World} {g : Nat} {f : Nat → Bool} (h : Met w g f) (i : Nat) : Met (w.setCell ⟨g, i, none⟩ (.bool true)) g (updM f i) := by
  obtain ⟨cur, h, hc⟩ := h
  refine ⟨_, heap_setCell_same w g i _ _ _ h, fun j hj => ?_⟩
  have hcj := hc j hj
  have hlt : j < cur.size := (Array.getElem?_eq_some_iff.1 hcj).1
  rw [Array.getElem?_setIfInBounds]
  by_cases e : i = j
  · subst e; rw [if_pos rfl, if_pos hlt]; simp [updM]
  · rw [if_neg e, hcj]; simp [updM, Ne.symm e]
theorem Met.other {w : World} {g : Nat} {f : Nat → Bool} (h : Met w g f) (a : Addr) (v : Value) (hne : g ≠ a.block) : Met (w.setCell a v) g f := by
  obtain ⟨cur, h, hc⟩ := h
  exact ⟨cur, (heap_setCell_other w a g v hne).trans h, hc⟩
theorem Met.below {w w' : World} {g : Nat} {f : Nat → Bool} (h : Met w g f) (hb : Below w.heap.size w w') : Met w' g f := by
  have hl := h.lt
  obtain ⟨cur, h, hc⟩ := h
  exact ⟨cur, (hb.block g hl).trans h, hc⟩
theorem Met.congr {w : World} {g : Nat} {f f' : Nat → Bool} (h : Met w g f) (e : ∀ j, j < 8 * 8 → f j = f' j) : Met w g f' := by
  obtain ⟨cur, h, hc⟩ := h
  exact ⟨cur, h, fun j hj => by rw [hc j hj, e j hj]⟩
set_option maxRecDepth 100000 in
theorem once_any (w : World) : Calls Tryz.prog 77 #[] w fun e w' => e = .returned (.func (.func 122) #[] #[.pointer (some ⟨w.heap.size, 0, none⟩)]) ∧ Met w' w.heap.size (fun _ => false) ∧ Below w.heap.size w w' := by
  go_enter Tryz.func77, Tryz.ntmps77
  go_wp2
  go_ret
  refine ⟨rfl, ⟨_, heap_alloc_new w _, fun j hj => ?_⟩, balloc w _⟩
  have h : (((List.range (8 * 8)).map fun _ => Value.bool false).toArray)[j]? = some (.bool false) := by
    rw [List.getElem?_toArray, List.getElem?_map, List.getElem?_range hj]
    rfl
  exact h
set_option maxRecDepth 100000 in
theorem e43 : ∀ args w, (callFunc 122 args).run Tryz.prog w = .ok (.enter 122 args) w := enters_of Tryz.func122 (by kernel_rfl) rfl
set_option maxRecDepth 100000 in
set_option maxHeartbeats 1000000 in
theorem once1_old (g a b : Nat) (f : Nat → Bool) (W : World) (ha : a < 8) (hb : b < 8) (hM : Met W g f) (hf : f (a * 8 + b) = true) :
    Calls Tryz.prog 122 #[.int .i64 (a : Int), .int .i64 (b : Int), .pointer (some ⟨g, 0, none⟩)] W fun e w' => e = .returned (.bool false) ∧ w' = W := by
  have h1 := hM.cell (a * 8 + b) (by omega)
  have h3 : (a : Int) < 8 := by omega
  have h4 : (b : Int) < 8 := by omega
  rw [hf] at h1
  clear hM hf
  go_enter Tryz.func122, Tryz.ntmps122
  go_wp2
  go_ret
  exact ⟨rfl, rfl⟩
set_option maxRecDepth 100000 in
set_option maxHeartbeats 1000000 in
theorem once1_new (g a b : Nat) (f : Nat → Bool) (W : World) (ha : a < 8) (hb : b < 8) (hM : Met W g f) (hf : f (a * 8 + b) = false) :
    Calls Tryz.prog 122 #[.int .i64 (a : Int), .int .i64 (b : Int), .pointer (some ⟨g, 0, none⟩)] W fun e w' => e = .returned (.bool true) ∧ w' = W.setCell ⟨g, a * 8 + b, none⟩ (.bool true) := by
  have h1 := hM.cell (a * 8 + b) (by omega)
  have h2 := hM.frozen (a * 8 + b)
  have h3 : (a : Int) < 8 := by omega
  have h4 : (b : Int) < 8 := by omega
  rw [hf] at h1
  clear hM hf
  go_enter Tryz.func122, Tryz.ntmps122
  go_wp2
  go_ret
  exact ⟨rfl, rfl⟩
end Go.Proofs.YtgpkhfpejopacabGreatDoor.Ql

/- Those who are asked of an element, or of two; the walks of first, always, alwaysOfTwo. -/
namespace Go.Proofs.YtgpkhfpejopacabGreatDoor.Ql
open Go.RowKit

theorem fresh (w : World) (v : Value) (t : TypeId) : (w.alloc (.cells #[v] t)).cell? ⟨w.heap.size, 0, none⟩ = some v := by
  rw [cell_of_row _ _ _ _ _ _ (heap_alloc_new w _)]; rfl
theorem kept {w W : World} {b o : Nat} {v : Value} (h : w.cell? ⟨b, o, none⟩ = some v) (hl : b < w.heap.size) (hb : Below w.heap.size w W) : W.cell? ⟨b, o, none⟩ = some v := (hb.cell (p := ⟨b, o, none⟩) hl).trans h
/-- A box of one value, as it is read later. -/
def Bx (w : World) (b : Nat) (v : Value) : Prop := b < w.heap.size ∧ w.cell? ⟨b, 0, none⟩ = some v
theorem Bx.below {w W : World} {b : Nat} {v : Value} (h : Bx w b v) (hb : Below w.heap.size w W) : Bx W b v := ⟨Nat.lt_of_lt_of_le h.1 hb.size, kept h.2 h.1 hb⟩
theorem bx_new (w : World) (v : Value) (t : TypeId) : Bx (w.alloc (.cells #[v] t)) w.heap.size v := ⟨by simp, fresh w v t⟩
/-- The function tells of each element. -/
def AskAt (g : Nat) (lb : Array Value) (n : Nat) (p : Nat → Bool) (w : World) : Prop :=
  ∀ W : World, Below w.heap.size w W → ∀ x : Nat, x < n → Calls Tryz.prog g (#[.int .i64 (x : Int)] ++ lb) W fun e w' => e = .returned (.bool (p x)) ∧ Below W.heap.size W w'
def Asker (v : Value) (n : Nat) (p : Nat → Bool) (w : World) : Prop :=
  ∃ g lb, v = .func (.func g) #[] lb ∧ (∀ args w, (callFunc g args).run Tryz.prog w = .ok (.enter g args) w) ∧ AskAt g lb n p w
theorem Asker.below {v : Value} {n : Nat} {p : Nat → Bool} {w W : World} (h : Asker v n p w) (hb : Below w.heap.size w W) : Asker v n p W := by
  obtain ⟨g, lb, rfl, e, h⟩ := h
  exact ⟨g, lb, rfl, e, fun W' b x hx => h W' (Below.next hb b) x hx⟩
theorem Asker.form {v : Value} {n : Nat} {p : Nat → Bool} {w : World} (h : Asker v n p w) : ∃ g lb, v = .func (.func g) #[] lb := by
  obtain ⟨g, lb, rfl, _⟩ := h
  exact ⟨g, lb, rfl⟩
/-- The function tells of each two elements. -/
def Ask2At (g : Nat) (lb : Array Value) (n : Nat) (p : Nat → Nat → Bool) (w : World) : Prop :=
  ∀ W : World, Below w.heap.size w W → ∀ x y : Nat, x < n → y < n → Calls Tryz.prog g (#[.int .i64 (x : Int), .int .i64 (y : Int)] ++ lb) W fun e w' => e = .returned (.bool (p x y)) ∧ Below W.heap.size W w'
def Asker2 (v : Value) (n : Nat) (p : Nat → Nat → Bool) (w : World) : Prop :=
  ∃ g lb, v = .func (.func g) #[] lb ∧ (∀ args w, (callFunc g args).run Tryz.prog w = .ok (.enter g args) w) ∧ Ask2At g lb n p w
theorem Asker2.below {v : Value} {n : Nat} {p : Nat → Nat → Bool} {w W : World} (h : Asker2 v n p w) (hb : Below w.heap.size w W) : Asker2 v n p W := by
  obtain ⟨g, lb, rfl, e, h⟩ := h
  exact ⟨g, lb, rfl, e, fun W' b x y hx hy => h W' (Below.next hb b) x y hx hy⟩
theorem Asker2.form {v : Value} {n : Nat} {p : Nat → Nat → Bool} {w : World} (h : Asker2 v n p w) : ∃ g lb, v = .func (.func g) #[] lb := by
  obtain ⟨g, lb, rfl, _⟩ := h
  exact ⟨g, lb, rfl⟩

set_option maxRecDepth 100000 in
set_option maxHeartbeats 4000000 in
theorem first_any (n : Nat) (p : Nat → Bool) (o : Option Nat) (v : Value) (w : World) (hn : n ≤ 8) (hA : Asker v n p w) (ho : fstN n p = o) :
    Calls Tryz.prog 82 #[.int .i64 (n : Int), v] w fun e w' => e = .returned (.tuple #[.int .i64 ((o.getD 0 : Nat) : Int), .bool o.isSome]) ∧ Below w.heap.size w w' := by
  obtain ⟨g, lb, rfl, eg, hA⟩ := hA
  have HA : Hid (AskAt g lb n p w) := hA
  have HO : Hid (fstN n p = o) := ho
  clear hA ho
  go_enter Tryz.func82, Tryz.ntmps82
  go_wp2
  go_loopw [8] (fun i wr => ∃ r : Nat, i = .int .i64 (r : Int) ∧ r ≤ n ∧ Hid (∀ y, y < r → p y = false) ∧ Below w.heap.size w wr) (fun i _ => (n - intOf i).toNat)
  case atStart => exact ⟨0, rfl, by omega, (fun y h => by omega : ∀ y, y < 0 → _), Below.refl _ _⟩
  case round =>
    obtain ⟨r, rfl, hr, HR, hB⟩ := hrel
    by_cases hlt : r < n
    · have hdr : decide ((r : Int) < (n : Int)) = true := by simp; omega
      have C := HA.out _ hB r hlt
      cases hp : p r with
      | true =>
        rw [hp] at C
        have ho : o = some r := by rw [← HO.out]; exact fst_at hlt hp HR.out
        subst ho
        clear hp HR
        go_wp2_with (go_at_fn g; refine C.mono ?_; rintro e w3 ⟨rfl, b3⟩)
        exact bodyPost_ret (v := .tuple #[.int .i64 (r : Int), .bool true]) (by simp [results, Tryz.results82, go_sem]) rfl ⟨rfl, Below.next hB b3⟩
      | false =>
        rw [hp] at C
        have HR2 : Hid (∀ y, y < r + 1 → p y = false) := fun y hy => by
          by_cases e : y = r
          · subst e; exact hp
          · exact HR.out y (by omega)
        clear hp HR
        go_wp2_with (go_at_fn g; refine C.mono ?_; rintro e w3 ⟨rfl, b3⟩)
        go_roundw
        case rel => exact ⟨r + 1, by go_num, by omega, HR2, Below.next hB b3⟩
        case measure => simp [intOf]; omega
    · have hdr : decide ((r : Int) < (n : Int)) = false := by simp; omega
      obtain rfl : r = n := by omega
      have ho : o = none := by rw [← HO.out]; exact fst_none HR.out
      subst ho
      go_wp2
      exact bodyPost_ret (v := .tuple #[.int .i64 0, .bool false]) (by simp [results, Tryz.results82, go_sem]) rfl ⟨rfl, hB⟩
set_option maxRecDepth 100000 in
theorem e57 : ∀ args w, (callFunc 83 args).run Tryz.prog w = .ok (.enter 83 args) w := enters_of Tryz.func83 (by kernel_rfl) rfl
set_option maxRecDepth 100000 in
set_option maxHeartbeats 1000000 in
theorem always1_any (n b x : Nat) (p : Nat → Bool) (v : Value) (w W : World) (hA : Asker v n p w) (hB : Below w.heap.size w W) (hbx : W.cell? ⟨b, 0, none⟩ = some v) (hx : x < n) :
    Calls Tryz.prog 83 #[.int .i64 (x : Int), .pointer (some ⟨b, 0, none⟩)] W fun e w' => e = .returned (.bool (!p x)) ∧ Below W.heap.size W w' := by
  obtain ⟨g, lb, rfl, eg, hA⟩ := hA
  have C := hA W hB x hx
  generalize p x = q at *
  clear hA
  go_enter Tryz.func83, Tryz.ntmps83
  go_wp2_with (go_at_fn g; refine C.mono ?_; rintro e w3 ⟨rfl, b3⟩)
  go_ret
  exact ⟨rfl, b3⟩
set_option maxRecDepth 100000 in
set_option maxHeartbeats 1000000 in
theorem always_any (n : Nat) (p : Nat → Bool) (b : Bool) (v : Value) (w : World) (hn : n ≤ 8) (hA : Asker v n p w) (hb : allN n p = b) :
    Calls Tryz.prog 37 #[.int .i64 (n : Int), v] w fun e w' => e = .returned (.bool b) ∧ Below w.heap.size w w' := by
  have C : ∀ t, Calls Tryz.prog 82 #[.int .i64 (n : Int), .func (.func 83) #[] #[.pointer (some ⟨w.heap.size, 0, none⟩)]] (w.alloc (.cells #[v] t)) fun e w' => (∃ x, e = .returned (.tuple #[.int .i64 x, .bool (!b)])) ∧ Below (w.alloc (.cells #[v] t)).heap.size (w.alloc (.cells #[v] t)) w' := fun t => by
    refine (first_any n (fun x => !p x) _ _ (w.alloc (.cells #[v] t)) hn ⟨_, _, rfl, e57, fun W hB x hx => ?_⟩ rfl).mono ?_
    · exact always1_any n w.heap.size x p v _ W (hA.below (balloc w _)) hB ((bx_new w v t).below hB).2 hx
    · rintro e w1 ⟨rfl, b1⟩
      rw [allN_fst] at hb
      exact ⟨⟨_, by rw [← hb, Bool.not_not]⟩, b1⟩
  obtain ⟨g, lb, rfl⟩ := hA.form
  clear hA hb
  go_enter Tryz.func37, Tryz.ntmps37
  go_wp2_with (go_at_call 82; refine (C _).mono ?_; rintro e w3 ⟨⟨x, rfl⟩, b3⟩)
  go_ret
  exact ⟨by simp, Below.next (balloc w _) b3⟩
set_option maxRecDepth 100000 in
theorem e67 : ∀ args w, (callFunc 123 args).run Tryz.prog w = .ok (.enter 123 args) w := enters_of Tryz.func123 (by kernel_rfl) rfl
set_option maxRecDepth 100000 in
theorem e68 : ∀ args w, (callFunc 124 args).run Tryz.prog w = .ok (.enter 124 args) w := enters_of Tryz.func124 (by kernel_rfl) rfl
set_option maxRecDepth 100000 in
set_option maxHeartbeats 1000000 in
theorem two2_any (n b c x y : Nat) (p : Nat → Nat → Bool) (v : Value) (w W : World) (hA : Asker2 v n p w) (hB : Below w.heap.size w W) (hb : W.cell? ⟨b, 0, none⟩ = some v) (hc : W.cell? ⟨c, 0, none⟩ = some (.int .i64 (x : Int))) (hx : x < n) (hy : y < n) :
    Calls Tryz.prog 124 #[.int .i64 (y : Int), .pointer (some ⟨b, 0, none⟩), .pointer (some ⟨c, 0, none⟩)] W fun e w' => e = .returned (.bool (p x y)) ∧ Below W.heap.size W w' := by
  obtain ⟨g, lb, rfl, eg, hA⟩ := hA
  have C := hA W hB x y hx hy
  generalize p x y = q at *
  clear hA
  go_enter Tryz.func124, Tryz.ntmps124
  go_wp2_with (go_at_fn g; refine C.mono ?_; rintro e w3 ⟨rfl, b3⟩)
  go_ret
  exact ⟨rfl, b3⟩
set_option maxRecDepth 100000 in
set_option maxHeartbeats 1000000 in
theorem two1_any (n b c x : Nat) (p : Nat → Nat → Bool) (q : Bool) (v : Value) (w : World) (hn : n ≤ 8) (hA : Asker2 v n p w) (hb : Bx w b (.int .i64 (n : Int))) (hc : Bx w c v) (hx : x < n) (hq : allN n (p x) = q) :
    Calls Tryz.prog 123 #[.int .i64 (x : Int), .pointer (some ⟨b, 0, none⟩), .pointer (some ⟨c, 0, none⟩)] w fun e w' => e = .returned (.bool q) ∧ Below w.heap.size w w' := by
  have C : ∀ t, Calls Tryz.prog 37 #[.int .i64 (n : Int), .func (.func 124) #[] #[.pointer (some ⟨c, 0, none⟩), .pointer (some ⟨w.heap.size, 0, none⟩)]] (w.alloc (.cells #[.int .i64 (x : Int)] t)) fun e w' => e = .returned (.bool q) ∧ Below (w.alloc (.cells #[.int .i64 (x : Int)] t)).heap.size (w.alloc (.cells #[.int .i64 (x : Int)] t)) w' := fun t =>
    always_any n (p x) q _ _ hn ⟨_, _, rfl, e68, fun W hB y hy => two2_any n c w.heap.size x y p v _ W (hA.below (balloc w _)) hB ((hc.below (balloc w _)).below hB).2 ((bx_new w _ t).below hB).2 hx hy⟩ hq
  have hb2 := fun t => (hb.below (balloc w (.cells #[.int .i64 (x : Int)] t))).2
  clear hA hq
  go_enter Tryz.func123, Tryz.ntmps123
  go_wp2_with (go_at_call 37; refine (C _).mono ?_; rintro e w3 ⟨rfl, b3⟩)
  go_ret
  exact ⟨rfl, Below.next (balloc w _) b3⟩
set_option maxRecDepth 100000 in
set_option maxHeartbeats 1000000 in
theorem alwaysOfTwo_any (n : Nat) (p : Nat → Nat → Bool) (q : Bool) (v : Value) (w : World) (hn : n ≤ 8) (hA : Asker2 v n p w) (hq : allN n (fun x => allN n (p x)) = q) :
    Calls Tryz.prog 79 #[.int .i64 (n : Int), v] w fun e w' => e = .returned (.bool q) ∧ Below w.heap.size w w' := by
  have C : ∀ t u, Calls Tryz.prog 37 #[.int .i64 (n : Int), .func (.func 123) #[] #[.pointer (some ⟨w.heap.size, 0, none⟩), .pointer (some ⟨w.heap.size + 1, 0, none⟩)]] ((w.alloc (.cells #[.int .i64 (n : Int)] t)).alloc (.cells #[v] u)) fun e w' => e = .returned (.bool q) ∧ Below ((w.alloc (.cells #[.int .i64 (n : Int)] t)).alloc (.cells #[v] u)).heap.size ((w.alloc (.cells #[.int .i64 (n : Int)] t)).alloc (.cells #[v] u)) w' := fun t u => by
    have b1 := (bx_new w (.int .i64 (n : Int)) t).below (balloc _ (.cells #[v] u))
    have b2 := bx_new (w.alloc (.cells #[.int .i64 (n : Int)] t)) v u
    have hs : (w.alloc (.cells #[.int .i64 (n : Int)] t)).heap.size = w.heap.size + 1 := by simp
    rw [hs] at b2
    exact always_any n _ q _ _ hn ⟨_, _, rfl, e67, fun W hB x hx => two1_any n w.heap.size (w.heap.size + 1) x p _ v W hn (hA.below (Below.next (Below.next (balloc w _) (balloc _ _)) hB)) (b1.below hB) (b2.below hB) hx rfl⟩ hq
  have hz := fun t u => ((bx_new w (.int .i64 (n : Int)) t).below (balloc _ (.cells #[v] u))).2
  obtain ⟨g, lb, rfl⟩ := hA.form
  clear hA hq
  go_enter Tryz.func79, Tryz.ntmps79
  go_wp2_with (go_at_call 37; refine (C _ _).mono ?_; rintro e w3 ⟨rfl, b3⟩)
  go_ret
  exact ⟨rfl, Below.next (Below.next (balloc w _) (balloc _ _)) b3⟩
end Go.Proofs.YtgpkhfpejopacabGreatDoor.Ql

/- The walk of Check. -/
/- The walk of apart. -/
namespace Go.Proofs.YtgpkhfpejopacabGreatDoor.Ql
open Go.RowKit

/-- The cell lies ahead of this one. -/
def Sn (r c i j : Nat) : Prop := i < r ∨ (i = r ∧ j < c)
structure ApI (m n : Nat) (t : Nat → Nat → Nat) (r c : Nat) (f g : Nat → Bool) : Prop where
  f : ∀ a x, x < 8 → (f (a * 8 + x) = true ↔ ∃ j, a < m ∧ j < n ∧ Sn r c a j ∧ t a j = x)
  g : ∀ b x, x < 8 → (g (b * 8 + x) = true ↔ ∃ i, i < m ∧ b < n ∧ Sn r c i b ∧ t i b = x)
  ap : ∀ i j i' j', i < m → j < n → i' < m → j' < n → Sn r c i j → Sn r c i' j' → t i j = t i' j' → (i = i' → j = j') ∧ (j = j' → i = i')
theorem ApI.start (m n : Nat) (t : Nat → Nat → Nat) : ApI m n t 0 0 (fun _ => false) (fun _ => false) := by
  have h : ∀ i j, ¬ Sn 0 0 i j := fun i j h => by unfold Sn at h; omega
  exact ⟨fun a x _ => ⟨fun e => (by cases e), fun ⟨j, _, _, s, _⟩ => (h _ _ s).elim⟩, fun a x _ => ⟨fun e => (by cases e), fun ⟨j, _, _, s, _⟩ => (h _ _ s).elim⟩, fun i j _ _ _ _ _ _ s => (h _ _ s).elim⟩
theorem eight {a x a' x' : Nat} (h : x < 8) (h' : x' < 8) : a * 8 + x = a' * 8 + x' ↔ a = a' ∧ x = x' := by omega
theorem sn_succ {r c i j : Nat} : Sn r (c + 1) i j ↔ Sn r c i j ∨ (i = r ∧ j = c) := by unfold Sn; omega
theorem ApI.step {m n : Nat} {t : Nat → Nat → Nat} {r c : Nat} {f g : Nat → Bool} (h : ApI m n t r c f g) (hr : r < m) (hc : c < n) (hx : t r c < 8) (h1 : f (r * 8 + t r c) = false) (h2 : g (c * 8 + t r c) = false) :
    ApI m n t r (c + 1) (updM f (r * 8 + t r c)) (updM g (c * 8 + t r c)) := by
  have n1 : ∀ j, j < n → Sn r c r j → t r j ≠ t r c := fun j hj s e => by
    have := (h.f r (t r c) hx).2 ⟨j, hr, hj, s, e⟩
    rw [h1] at this; cases this
  have n2 : ∀ i, i < m → Sn r c i c → t i c ≠ t r c := fun i hi s e => by
    have := (h.g c (t r c) hx).2 ⟨i, hi, hc, s, e⟩
    rw [h2] at this; cases this
  refine ⟨fun a x hx' => ?_, fun b x hx' => ?_, fun i j i' j' hi hj hi' hj' s s' e => ?_⟩
  · unfold updM
    by_cases e : a * 8 + x = r * 8 + t r c
    · rw [if_pos e]
      obtain ⟨rfl, rfl⟩ := (eight hx' hx).1 e
      exact ⟨fun _ => ⟨c, hr, hc, sn_succ.2 (.inr ⟨rfl, rfl⟩), rfl⟩, fun _ => rfl⟩
    · rw [if_neg e, h.f a x hx']
      constructor
      · rintro ⟨j, a1, a2, a3, a4⟩; exact ⟨j, a1, a2, sn_succ.2 (.inl a3), a4⟩
      · rintro ⟨j, a1, a2, a3, a4⟩
        rcases sn_succ.1 a3 with a3 | ⟨rfl, rfl⟩
        · exact ⟨j, a1, a2, a3, a4⟩
        · subst a4; exact (e rfl).elim
  · unfold updM
    by_cases e : b * 8 + x = c * 8 + t r c
    · rw [if_pos e]
      obtain ⟨rfl, rfl⟩ := (eight hx' hx).1 e
      exact ⟨fun _ => ⟨r, hr, hc, sn_succ.2 (.inr ⟨rfl, rfl⟩), rfl⟩, fun _ => rfl⟩
    · rw [if_neg e, h.g b x hx']
      constructor
      · rintro ⟨j, a1, a2, a3, a4⟩; exact ⟨j, a1, a2, sn_succ.2 (.inl a3), a4⟩
      · rintro ⟨j, a1, a2, a3, a4⟩
        rcases sn_succ.1 a3 with a3 | ⟨rfl, rfl⟩
        · exact ⟨j, a1, a2, a3, a4⟩
        · subst a4; exact (e rfl).elim
  · rcases sn_succ.1 s with s | ⟨rfl, rfl⟩
    · rcases sn_succ.1 s' with s' | ⟨rfl, rfl⟩
      · exact h.ap i j i' j' hi hj hi' hj' s s' e
      · exact ⟨fun x => by subst x; exact (n1 j hj s e).elim, fun x => by subst x; exact (n2 i hi s e).elim⟩
    · rcases sn_succ.1 s' with s' | ⟨rfl, rfl⟩
      · exact ⟨fun x => by subst x; exact (n1 j' hj' s' e.symm).elim, fun x => by subst x; exact (n2 i' hi' s' e.symm).elim⟩
      · exact ⟨fun _ => rfl, fun _ => rfl⟩
theorem ApI.next {m n : Nat} {t : Nat → Nat → Nat} {r : Nat} {f g : Nat → Bool} (h : ApI m n t r n f g) : ApI m n t (r + 1) 0 f g := by
  have k : ∀ i j, j < n → (Sn r n i j ↔ Sn (r + 1) 0 i j) := fun i j hj => by unfold Sn; omega
  refine ⟨fun a x hx => ?_, fun b x hx => ?_, fun i j i' j' hi hj hi' hj' s s' e => h.ap i j i' j' hi hj hi' hj' ((k _ _ hj).2 s) ((k _ _ hj').2 s') e⟩
  · rw [h.f a x hx]
    exact ⟨fun ⟨j, a1, a2, a3, a4⟩ => ⟨j, a1, a2, (k _ _ a2).1 a3, a4⟩, fun ⟨j, a1, a2, a3, a4⟩ => ⟨j, a1, a2, (k _ _ a2).2 a3, a4⟩⟩
  · rw [h.g b x hx]
    exact ⟨fun ⟨j, a1, a2, a3, a4⟩ => ⟨j, a1, a2, (k _ _ a2).1 a3, a4⟩, fun ⟨j, a1, a2, a3, a4⟩ => ⟨j, a1, a2, (k _ _ a2).2 a3, a4⟩⟩
theorem ApI.bad1 {m n : Nat} {t : Nat → Nat → Nat} {r c : Nat} {f g : Nat → Bool} (h : ApI m n t r c f g) (hr : r < m) (hc : c < n) (hx : t r c < 8) (h1 : f (r * 8 + t r c) = true) : ¬ Ap m n t := fun ha => by
  obtain ⟨j, a1, a2, a3, a4⟩ := (h.f r _ hx).1 h1
  have := (ha r j r c hr a2 hr hc a4).1 rfl
  unfold Sn at a3; omega
theorem ApI.bad2 {m n : Nat} {t : Nat → Nat → Nat} {r c : Nat} {f g : Nat → Bool} (h : ApI m n t r c f g) (hr : r < m) (hc : c < n) (hx : t r c < 8) (h1 : g (c * 8 + t r c) = true) : ¬ Ap m n t := fun ha => by
  obtain ⟨i, a1, a2, a3, a4⟩ := (h.g c _ hx).1 h1
  have := (ha i c r c a1 hc hr hc a4).2 rfl
  unfold Sn at a3; omega
theorem ApI.all {m n : Nat} {t : Nat → Nat → Nat} {f g : Nat → Bool} (h : ApI m n t m 0 f g) : Ap m n t := fun i j i' j' hi hj hi' hj' e => h.ap i j i' j' hi hj hi' hj' (.inl hi) (.inl hi') e

set_option maxRecDepth 100000 in
set_option maxHeartbeats 4000000 in
theorem apart_any (m n : Nat) (t : Nat → Nat → Nat) (v : Value) (w : World) (b : Bool) (hm : m ≤ 8) (hn : n ≤ 8) (ht : ∀ r c, r < m → c < n → t r c < 8) (hT : Teller v m n t w) (hb : b = true ↔ Ap m n t) :
    Calls Tryz.prog 33 #[.int .i64 (m : Int), .int .i64 (n : Int), v] w fun e w' => e = .returned (.bool b) ∧ Below w.heap.size w w' := by
  obtain ⟨g, lb, rfl, eg, hT⟩ := hT
  have HT : Hid (TellAt g lb m n t w) := hT
  have HB : Hid (b = true ↔ Ap m n t) := hb
  have HX : Hid (∀ r c, r < m → c < n → t r c < 8) := ht
  have hbf : ¬ Ap m n t → b = false := fun h => by
    cases b with
    | false => rfl
    | true => exact (h (hb.1 rfl)).elim
  have HF : Hid (¬ Ap m n t → b = false) := hbf
  have E43 := e43
  clear hT hb ht hbf
  go_enter Tryz.func33, Tryz.ntmps33
  have C1 := once_any w
  go_wp2_with (first
    | (go_at_call 77; refine C1.mono ?_; rintro e w1 ⟨rfl, hM1, b1⟩; have C2 := once_any w1; clear C1)
    | (go_at_call 77; refine C2.mono ?_; rintro e w2 ⟨rfl, hM2, b2⟩; clear C2))
  have hs1 := hM1.lt
  replace hM1 := hM1.below b2
  have hs2 := hM2.lt
  have b12 := Below.next b1 b2
  clear b1 b2
  go_loopw [15] (fun i wr => ∃ (r : Nat) (f h : Nat → Bool), i = .int .i64 (r : Int) ∧ r ≤ m ∧ Met wr w.heap.size f ∧ Met wr w1.heap.size h ∧ Hid (ApI m n t r 0 f h) ∧ Below w.heap.size w wr) (fun i _ => (m - intOf i).toNat)
  case atStart => exact ⟨0, _, _, rfl, by omega, hM1, hM2, ApI.start m n t, b12⟩
  case round =>
    clear hM1 hM2 b12
    obtain ⟨r, f, h, rfl, hr, hM1, hM2, HI, hB⟩ := hrel
    by_cases hlt : r < m
    · have hdr : decide ((r : Int) < (m : Int)) = true := by simp; omega
      go_wp2
      go_loopw [19] (fun i wr => ∃ (c : Nat) (f h : Nat → Bool), i = .int .i64 (c : Int) ∧ c ≤ n ∧ Met wr w.heap.size f ∧ Met wr w1.heap.size h ∧ Hid (ApI m n t r c f h) ∧ Below w.heap.size w wr) (fun i _ => (n - intOf i).toNat)
      case atStart => exact ⟨0, _, _, rfl, by omega, hM1, hM2, HI, hB⟩
      case round =>
        clear hM1 hM2 HI hB f h
        obtain ⟨c, f, h, rfl, hc, hM1, hM2, HI, hB⟩ := hrel
        by_cases hlc : c < n
        · have hdc : decide ((c : Int) < (n : Int)) = true := by simp; omega
          have C := HT.out _ hB r c hlt hlc
          have hx8 := HX.out r c hlt hlc
          obtain ⟨x, Hx⟩ : ∃ x, Hid (t r c = x) := ⟨_, rfl⟩
          rw [Hx.out] at C hx8
          have hxr : r < 8 := by omega
          have hxc : c < 8 := by omega
          cases hf : f (r * 8 + x) with
          | true =>
            have hbb : b = false := HF.out (HI.out.bad1 hlt hlc (by rw [Hx.out]; exact hx8) (by rw [Hx.out]; exact hf))
            subst hbb
            have D1 := fun W (hM : Met W w.heap.size f) => once1_old w.heap.size r x f W hxr hx8 hM hf
            go_wp2_with (first
              | (go_at_fn g; refine C.mono ?_; rintro e w3 ⟨rfl, b3⟩)
              | (go_at_call 122; refine (D1 _ (hM1.below b3)).mono ?_; rintro e w4 ⟨rfl, rfl⟩))
            go_ret
            exact ⟨rfl, Below.next hB b3⟩
          | false =>
            have D1 := fun W (hM : Met W w.heap.size f) => once1_new w.heap.size r x f W hxr hx8 hM hf
            cases hh : h (c * 8 + x) with
            | true =>
              have hbb : b = false := HF.out (HI.out.bad2 hlt hlc (by rw [Hx.out]; exact hx8) (by rw [Hx.out]; exact hh))
              subst hbb
              have D2 := fun W (hM : Met W w1.heap.size h) => once1_old w1.heap.size c x h W hxc hx8 hM hh
              go_wp2_with (first
                | (go_at_fn g; refine C.mono ?_; rintro e w3 ⟨rfl, b3⟩)
                | (go_at_call 122; refine (D1 _ (hM1.below b3)).mono ?_; rintro e w4 ⟨rfl, rfl⟩; clear D1)
                | (go_at_call 122; refine (D2 _ ((hM2.below b3).other _ _ (by show w1.heap.size ≠ w.heap.size; omega))).mono ?_; rintro e w4 ⟨rfl, rfl⟩; clear D2))
              go_ret
              exact ⟨rfl, (Below.next hB b3).setCell (Nat.le_refl _) _⟩
            | false =>
              have HI2 := HI.out.step hlt hlc (by rw [Hx.out]; exact hx8) (by rw [Hx.out]; exact hf) (by rw [Hx.out]; exact hh)
              rw [Hx.out] at HI2
              have HI3 : Hid (ApI m n t r (c + 1) (updM f (r * 8 + x)) (updM h (c * 8 + x))) := HI2
              have D2 := fun W (hM : Met W w1.heap.size h) => once1_new w1.heap.size c x h W hxc hx8 hM hh
              clear HI2 HI
              go_wp2_with (first
                | (go_at_fn g; refine C.mono ?_; rintro e w3 ⟨rfl, b3⟩)
                | (go_at_call 122; refine (D1 _ (hM1.below b3)).mono ?_; rintro e w4 ⟨rfl, rfl⟩; clear D1)
                | (go_at_call 122; refine (D2 _ ((hM2.below b3).other _ _ (by show w1.heap.size ≠ w.heap.size; omega))).mono ?_; rintro e w4 ⟨rfl, rfl⟩; clear D2))
              go_roundw
              case rel =>
                refine ⟨c + 1, _, _, by go_num, by omega, ((hM1.below b3).set _).other _ _ (by show w.heap.size ≠ w1.heap.size; omega), ((hM2.below b3).other _ _ (by show w1.heap.size ≠ w.heap.size; omega)).set _, HI3, ((Below.next hB b3).setCell (Nat.le_refl _) _).setCell (by show w.heap.size ≤ w1.heap.size; omega) _⟩
              case measure => simp [intOf]; omega
        · have hdc : decide ((c : Int) < (n : Int)) = false := by simp; omega
          obtain rfl : c = n := by omega
          go_wp2
          go_roundw
          case rel => exact ⟨r + 1, f, h, by go_num, by omega, hM1, hM2, HI.out.next, hB⟩
          case measure => simp [intOf]; omega
    · have hdr : decide ((r : Int) < (m : Int)) = false := by simp; omega
      obtain rfl : r = m := by omega
      have hbb : b = true := HB.out.2 HI.out.all
      subst hbb
      go_wp2
      go_ret
      exact ⟨rfl, hB⟩
end Go.Proofs.YtgpkhfpejopacabGreatDoor.Ql

namespace Go.Proofs.YtgpkhfpejopacabGreatDoor.Ql
open Go.RowKit

theorem lF_far {s : Int} {L : List Int} (h : s < 1 ∨ 8 < s) : lF s L = 1 := by unfold lF; rw [if_pos h]
theorem lF_shape {n : Nat} {L : List Int} (h1 : 1 ≤ n) (h8 : n ≤ 8) (h : L.length ≠ n * n) : lF n L = 2 := by
  unfold lF
  rw [if_neg (by omega), if_pos]
  intro e
  exact h (by exact_mod_cast e)
theorem lF_out {n : Nat} {L : List Int} {j : Nat} (h1 : 1 ≤ n) (h8 : n ≤ 8) (hl : L.length = n * n) (hj : j < n * n) (h : ¬ (0 ≤ L.getD j 0 ∧ L.getD j 0 < n)) : lF n L = 1 := by
  unfold lF
  rw [if_neg (by omega), if_neg (by rw [hl]; simp), if_pos]
  exact inLB_no fun k => h (k j (by omega))
theorem lF_on {n : Nat} {L : List Int} (h1 : 1 ≤ n) (h8 : n ≤ 8) (hl : L.length = n * n) (h : ∀ j, j < n * n → 0 ≤ L.getD j 0 ∧ L.getD j 0 < n) : lF n L = if onB n L then 0 else 6 := by
  unfold lF
  have hn : ((n : Int)).toNat = n := by omega
  rw [if_neg (by omega), if_neg (by rw [hl]; simp), if_neg (by rw [(inLB_iff _ _).2 fun j hj => h j (by omega)]; simp), hn]
set_option maxRecDepth 100000 in
theorem und24r : ∃ d, Tryz.prog.underlying 31 = some d ∧ d.isRow = true := ⟨_, Tryz.underlying31, rfl⟩
set_option maxRecDepth 100000 in
theorem inf24 : (Tryz.prog.info? 31).map (·.size) = some 2 := by kernel_rfl
theorem range_two (w : World) (b : Nat) (x y : Value) (h0 : w.cell? ⟨b, 0, none⟩ = some x) (h1 : w.cell? ⟨b, 1, none⟩ = some y) : w.rangeAt b 0 [x, y] := by
  intro j v hj
  match j, hj with
  | 0, hj => simp only [List.getElem?_cons_zero, Option.some.injEq] at hj; subst hj; exact h0
  | 1, hj => simp only [List.getElem?_cons_succ, List.getElem?_cons_zero, Option.some.injEq] at hj; subst hj; exact h1
  | j + 2, hj => simp at hj

set_option maxRecDepth 100000 in
set_option maxHeartbeats 4000000 in
theorem Check_far (s : Int) (v : Value) (w : World) (h : s < 1 ∨ 8 < s) :
    Calls Tryz.prog 8 #[.agg #[.int .i64 s, v]] w fun e w' => e = .returned (.int .i64 1) ∧ Below w.heap.size w w' := by
  have C := fun W => isSide_any s W
  have hs : sideB s = false := by unfold sideB; rcases h with h | h <;> simp <;> omega
  rw [hs] at C
  clear hs h
  go_enter Tryz.func8, Tryz.ntmps8
  go_wp2_with (go_at_call 31; refine (C _).mono ?_; rintro e w1 ⟨rfl, rfl⟩)
  go_ret
  exact ⟨rfl, balloc w _⟩
set_option maxRecDepth 100000 in
set_option maxHeartbeats 4000000 in
theorem Check_shape (n : Nat) (L : List Int) (v : Value) (w : World) (h1 : 1 ≤ n) (h8 : n ≤ 8) (hv : Sl w v L) (_hll : L.length ≤ maxLen) (hl : L.length ≠ n * n) :
    Calls Tryz.prog 8 #[.agg #[.int .i64 (n : Int), v]] w fun e w' => e = .returned (.int .i64 2) ∧ Below w.heap.size w w' := by
  have C := fun W => isSide_any n W
  have hs : sideB n = true := by unfold sideB; simp; omega
  rw [hs] at C
  obtain ⟨a, cap, rfl, _⟩ := hv
  obtain ⟨z, hz⟩ : ∃ z, z = n * n := ⟨_, rfl⟩
  have hz99 : z ≤ 99 := by rw [hz]; exact Nat.le_trans (Nat.mul_le_mul h8 h8) (by decide)
  have hmul : (n : Int) * (n : Int) = (z : Int) := by rw [hz]; simp
  have hne : ((L.length : Int) != (z : Int)) = true := by simp; omega
  generalize L.length = q at *
  clear hs hz hl
  go_enter Tryz.func8, Tryz.ntmps8
  go_wp2_with (go_at_call 31; refine (C _).mono ?_; rintro e w1 ⟨rfl, rfl⟩)
  go_ret
  exact ⟨rfl, balloc w _⟩
set_option maxRecDepth 100000 in
set_option maxHeartbeats 8000000 in
theorem Check_main (n : Nat) (L : List Int) (v : Value) (w : World) (h1 : 1 ≤ n) (h8 : n ≤ 8) (hv : Sl w v L) (hl : L.length = n * n) :
    Calls Tryz.prog 8 #[.agg #[.int .i64 (n : Int), v]] w fun e w' => e = .returned (.int .i64 (lF n L : Int)) ∧ Below w.heap.size w w' := by
  have C := fun W => isSide_any n W
  have hs : sideB n = true := by unfold sideB; simp; omega
  rw [hs] at C
  have hpos : 0 < n * n := Nat.mul_pos h1 h1
  have HV : Hid (Sl w v L) := hv
  obtain ⟨a, off, cap, rfl, ha, hcell⟩ := hv.form hl hpos
  obtain ⟨u, hu⟩ : ∃ u, u = lF n L := ⟨_, rfl⟩
  have HU : Hid (u = lF n L) := hu
  rw [← hu]
  obtain ⟨z, hz⟩ : ∃ z, z = n * n := ⟨_, rfl⟩
  have hz99 : z ≤ 99 := by rw [hz]; exact Nat.le_trans (Nat.mul_le_mul h8 h8) (by decide)
  have hmul : (n : Int) * (n : Int) = (z : Int) := by rw [hz]; simp
  have hne : ((z : Int) != (z : Int)) = false := by simp
  have HL : Hid (L.length = n * n) := hl
  have HZ : Hid (z = n * n) := hz
  have HC : Hid (∀ j, j < z → w.cell? ⟨a, off + j, none⟩ = some (.int .i64 (L.getD j 0))) := by rw [hz]; exact hcell
  rw [← hz] at HV ⊢
  have b0 := balloc w (.cells #[.int .i64 (n : Int), .slice (some ⟨a, off, none⟩) z cap] 31)
  have hx0 : (w.alloc (.cells #[.int .i64 (n : Int), .slice (some ⟨a, off, none⟩) z cap] 31)).cell? ⟨w.heap.size, 0, none⟩ = some (.int .i64 (n : Int)) := by rw [cell_of_row _ _ _ _ _ _ (heap_alloc_new w _)]; rfl
  have hx1 : (w.alloc (.cells #[.int .i64 (n : Int), .slice (some ⟨a, off, none⟩) z cap] 31)).cell? ⟨w.heap.size, 1, none⟩ = some (.slice (some ⟨a, off, none⟩) z cap) := by rw [cell_of_row _ _ _ _ _ _ (heap_alloc_new w _)]; rfl
  have hsz : w.heap.size < (w.alloc (.cells #[.int .i64 (n : Int), .slice (some ⟨a, off, none⟩) z cap] 31)).heap.size := by simp
  clear hs hcell hl hz hu
  go_enter Tryz.func8, Tryz.ntmps8
  go_wp2_with (go_at_call 31; refine (C _).mono ?_; rintro e w1 ⟨rfl, rfl⟩)
  clear C
  go_loopw [21] (fun i wr => ∃ j : Nat, i = .int .i64 (j : Int) ∧ j ≤ z ∧ Hid (∀ q, q < j → 0 ≤ L.getD q 0 ∧ L.getD q 0 < n) ∧ wr.cell? ⟨w.heap.size, 0, none⟩ = some (.int .i64 (n : Int)) ∧ wr.cell? ⟨w.heap.size, 1, none⟩ = some (.slice (some ⟨a, off, none⟩) z cap) ∧ w.heap.size < wr.heap.size ∧ Below w.heap.size w wr) (fun i _ => (z - intOf i).toNat)
  case atStart => exact ⟨0, rfl, by omega, (fun q h => by omega : ∀ q, q < 0 → _), hx0, hx1, hsz, b0⟩
  case round =>
    clear hx0 hx1 b0 hsz
    obtain ⟨j, rfl, hj, HJ, hx0, hx1, hsz, b0⟩ := hrel
    by_cases hlt : j < z
    · have hdj : decide ((j : Int) < (z : Int)) = true := by simp; omega
      have hji : (j : Int) < z := by omega
      have hj0 : (0 : Int) ≤ (j : Int) := by omega
      have hcj := (b0.cell (p := ⟨a, off + j, none⟩) ha).trans (HC.out j hlt)
      obtain ⟨x, hx⟩ : ∃ x, x = L.getD j 0 := ⟨_, rfl⟩
      rw [← hx] at hcj
      have C2 := fun W => isOf_any n x W
      by_cases hin : 0 ≤ x ∧ x < n
      · have ho : ofB n x = true := by unfold ofB; simp; omega
        have HJ2 : Hid (∀ q, q < j + 1 → 0 ≤ L.getD q 0 ∧ L.getD q 0 < n) := fun q hq => by
          by_cases e : q = j
          · subst e; rw [← hx]; exact hin
          · exact HJ.out q (by omega)
        rw [ho] at C2
        clear hin HJ hx
        go_wp2_with (go_at_call 32; refine (C2 _).mono ?_; rintro e w1 ⟨rfl, rfl⟩)
        go_roundw
        case rel => exact ⟨j + 1, by go_num, by omega, HJ2, hx0, hx1, hsz, b0⟩
        case measure => simp [intOf]; omega
      · have ho : ofB n x = false := by unfold ofB; simp; omega
        have hu1 : u = 1 := by rw [HU.out]; exact lF_out h1 h8 HL.out (by rw [← HZ.out]; exact hlt) (by rw [← hx]; exact hin)
        subst hu1
        rw [ho] at C2
        clear hin HJ hx
        go_wp2_with (go_at_call 32; refine (C2 _).mono ?_; rintro e w1 ⟨rfl, rfl⟩)
        go_ret
        exact ⟨rfl, b0⟩
    · have hdj : decide ((j : Int) < (z : Int)) = false := by simp; omega
      obtain rfl : j = z := by omega
      have hon := lF_on h1 h8 HL.out (by rw [← HZ.out]; exact HJ.out)
      rw [← HU.out] at hon
      have A1 := fun W (b : Below w.heap.size w W) => asked_any n n L _ W (HV.out.below b) HL.out h8 h8 (by rw [← HZ.out]; exact fun q hq => (HJ.out q hq).1)
      have A2 := fun y W (hT : Teller y n n (sq n L) W) => apart_any n n (sq n L) y W (onB n L) h8 h8 (fun r c hr hc => by
        have := (HJ.out _ (by rw [HZ.out]; exact cell_lt hr hc)).2
        unfold sq; omega) hT (onB_ap HL.out (by rw [HL.out, ← HZ.out]; exact fun q hq => (HJ.out q hq).1))
      have HON : Hid (u = if onB n L then 0 else 6) := hon
      have HS : Hid (w.heap.size < wr.heap.size) := hsz
      have hrg := range_two wr w.heap.size _ _ hx0 hx1
      generalize onB n L = o at *
      clear hon HJ HU
      go_wp2_with fail
      refine wp_region_noPanic ?_
      refine wp_region_held_drew (S := fun w' => w'.cell? ⟨w.heap.size, 0, none⟩ = some (.int .i64 (n : Int)) ∧ w'.rangeAt w.heap.size 0 [.int .i64 (n : Int), .slice (some ⟨a, off, none⟩) j cap]) (by kernel_rfl) (⟨hx0, hrg⟩) (fun hSx => ?_)
      refine wpAnyH_take (i := 0) (v := .pointer (some ⟨w.heap.size, 0, none⟩)) rfl (by kernel_rfl) (by kernel_rfl) (by kernel_rfl) (fun _ _ _ h => h) (Or.inl ⟨by rfl, fun w' hSw => by (try dsimp only at hSw); go_simp⟩) hSx ?_
      try simp only [Act.put, List.setIfInBounds_toArray]
      refine wpAnyH_take (i := 1) (v := .int .i64 (n : Int)) rfl (by kernel_rfl) (by kernel_rfl) (by kernel_rfl) (fun _ _ _ h => h) (Or.inl ⟨by rfl, fun w' hSw => by (try dsimp only at hSw); have hSw1 := hSw.1; go_simp⟩) hSx ?_
      try simp only [Act.put]
      refine wpAnyH_take (i := 2) (v := .pointer (some ⟨w.heap.size, 0, none⟩)) rfl (by kernel_rfl) (by kernel_rfl) (by kernel_rfl) (fun _ _ _ h => h) (Or.inl ⟨by rfl, fun w' hSw => by (try dsimp only at hSw); go_simp⟩) hSx ?_
      try simp only [Act.put]
      refine wpAnyH_take (i := 3) (v := .int .i64 (n : Int)) rfl (by kernel_rfl) (by kernel_rfl) (by kernel_rfl) (fun _ _ _ h => h) (Or.inl ⟨by rfl, fun w' hSw => by (try dsimp only at hSw); have hSw1 := hSw.1; go_simp⟩) hSx ?_
      try simp only [Act.put]
      refine wpAnyH_take (i := 4) (v := .agg #[.int .i64 (n : Int), .slice (some ⟨a, off, none⟩) j cap]) rfl (by kernel_rfl) (by kernel_rfl) (by kernel_rfl) (fun _ _ _ h => h) (yieldsIf_load_mid (by rfl) 31 _ rfl w.heap.size 0 rfl [.int .i64 (n : Int), .slice (some ⟨a, off, none⟩) j cap] _ (fun _ h => h.2) Tryz.underlying31 rfl inf24) hSx ?_
      try simp only [Act.put]
      refine wpAnyH_ready (rs := [5]) (by kernel_rfl) (by simp) ?_
      refine AllReadyH.cons rfl (fun J hJ => ?_) AllReadyH.nil
      go_simp
      refine (A1 _ b0.drew).mono ?_
      rintro e w5 ⟨⟨y, rfl, hT⟩, b5⟩
      have hS5 : w5.cell? ⟨w.heap.size, 0, none⟩ = some (.int .i64 (n : Int)) ∧ w5.rangeAt w.heap.size 0 [.int .i64 (n : Int), .slice (some ⟨a, off, none⟩) j cap] := by
        have k : ∀ o, w5.cell? ⟨w.heap.size, o, none⟩ = wr.cell? ⟨w.heap.size, o, none⟩ := fun o => b5.cell (p := ⟨w.heap.size, o, none⟩) HS.out
        exact ⟨(k 0).trans hx0, range_two w5 _ _ _ ((k 0).trans hx0) ((k 1).trans hx1)⟩
      have b15 := Below.next b0.drew b5
      go_wp2_with fail
      refine hJ.out _ _ hS5 (fun hSy => ?_)
      clear hJ J
      try simp only [Act.put, List.setIfInBounds_toArray, List.set_cons_zero, List.set_cons_succ]
      refine wpAnyH_ready (rs := [6]) (by kernel_rfl) (by simp) ?_
      refine AllReadyH.cons rfl (fun J hJ => ?_) AllReadyH.nil
      go_simp
      refine (A2 y w5 hT).mono ?_
      rintro e w6 ⟨rfl, b6⟩
      have hS6 : w6.cell? ⟨w.heap.size, 0, none⟩ = some (.int .i64 (n : Int)) ∧ w6.rangeAt w.heap.size 0 [.int .i64 (n : Int), .slice (some ⟨a, off, none⟩) j cap] := by
        have k : ∀ o, w6.cell? ⟨w.heap.size, o, none⟩ = w5.cell? ⟨w.heap.size, o, none⟩ := fun o => b6.cell (p := ⟨w.heap.size, o, none⟩) (Nat.lt_of_lt_of_le HS.out b5.size)
        have k2 : ∀ o, w5.cell? ⟨w.heap.size, o, none⟩ = wr.cell? ⟨w.heap.size, o, none⟩ := fun o => b5.cell (p := ⟨w.heap.size, o, none⟩) HS.out
        exact ⟨(k 0).trans ((k2 0).trans hx0), range_two w6 _ _ _ ((k 0).trans ((k2 0).trans hx0)) ((k 1).trans ((k2 1).trans hx1))⟩
      have b16 := Below.next b15 b6
      go_wp2_with fail
      refine hJ.out _ _ hS6 (fun hSz => ?_)
      clear hJ J
      try simp only [Act.put, List.setIfInBounds_toArray, List.set_cons_zero, List.set_cons_succ]
      refine wpAnyH_take (i := 7) (v := .bool (!o)) rfl (by kernel_rfl) (by kernel_rfl) (by kernel_rfl) (fun _ _ _ h => h) (Or.inl ⟨by rfl, fun w' hSw => by (try dsimp only at hSw); go_simp⟩) hSz ?_
      try simp only [Act.put, List.setIfInBounds_toArray]
      refine wpAnyH_done (by kernel_rfl) ?_ _
      refine NoPanic.normal ?_
      clear hSx hSy hSz hS5 hS6 hx0 hx1 hrg A1 A2
      cases o with
      | true =>
        have hu0 : u = 0 := HON.out
        subst hu0
        go_wp2
        go_ret
        exact ⟨rfl, b16⟩
      | false =>
        have hu0 : u = 6 := HON.out
        subst hu0
        go_wp2
        go_ret
        exact ⟨rfl, b16⟩
theorem Check_any (s : Int) (L : List Int) (v : Value) (w : World) (hv : Sl w v L) (hll : L.length ≤ maxLen) :
    Calls Tryz.prog 8 #[.agg #[.int .i64 s, v]] w fun e w' => e = .returned (.int .i64 (lF s L : Int)) ∧ Below w.heap.size w w' := by
  by_cases h : s < 1 ∨ 8 < s
  · rw [lF_far h]; exact Check_far s v w h
  · obtain ⟨n, rfl⟩ : ∃ n : Nat, s = n := ⟨s.toNat, by omega⟩
    by_cases hl : L.length = n * n
    · exact Check_main n L v w (by omega) (by omega) hv hl
    · rw [lF_shape (by omega) (by omega) hl]; exact Check_shape n L v w (by omega) (by omega) hv hll hl

end Go.Proofs.YtgpkhfpejopacabGreatDoor.Ql

/- The walks of the document's once, LatinFault. -/
namespace Go.Proofs.YtgpkhfpejopacabGreatDoor.Ql
open Go.RowKit

theorem wrap99 {q : Nat} (h : q ≤ 99) : IntKind.i64.wrap (q : Int) = (q : Int) := by rw [IntKind.wrap_i64]; omega

end Go.Proofs.YtgpkhfpejopacabGreatDoor.Ql

/- The walks of productOf and of what it makes. -/
namespace Go.Proofs.YtgpkhfpejopacabGreatDoor.Ql
open Go.RowKit

/-- Block g holds a table of eight rows of eight. -/
def Tab8 (w : World) (g : Nat) (f : Nat → Int) : Prop := ∃ cur t, w.heap[g]? = some (.cells cur t (0, 0)) ∧ ∀ j, j < 8 * 8 → cur[j]? = some (.int .i64 (f j))
theorem Tab8.lt {w : World} {g : Nat} {f : Nat → Int} (h : Tab8 w g f) : g < w.heap.size := by
  obtain ⟨cur, t, h, _⟩ := h
  exact (Array.getElem?_eq_some_iff.1 h).1
theorem Tab8.cell {w : World} {g : Nat} {f : Nat → Int} (h : Tab8 w g f) (j : Nat) (hj : j < 8 * 8) : w.cell? ⟨g, j, none⟩ = some (.int .i64 (f j)) := by
  obtain ⟨cur, t, h, hc⟩ := h
  rw [cell_of_row w g j _ _ _ h, hc j hj]
theorem Tab8.frozen {w : World} {g : Nat} {f : Nat → Int} (h : Tab8 w g f) (j : Nat) : w.frozen? ⟨g, j, none⟩ = false := by
  obtain ⟨cur, t, h, _⟩ := h
  exact frozen_of_row w g j _ _ h
theorem Tab8.set {w : World} {g : Nat} {f : Nat → Int} (h : Tab8 w g f) (i : Nat) (v : Int) : Tab8 (w.setCell ⟨g, i, none⟩ (.int .i64 v)) g (upd f i v) := by
  obtain ⟨cur, t, h, hc⟩ := h
  refine ⟨_, t, heap_setCell_same w g i _ _ _ h, fun j hj => ?_⟩
  have hcj := hc j hj
  have hlt : j < cur.size := (Array.getElem?_eq_some_iff.1 hcj).1
  rw [Array.getElem?_setIfInBounds]
  by_cases e : i = j
  · subst e; rw [if_pos rfl, if_pos hlt]; simp [upd]
  · rw [if_neg e, hcj]; simp [upd, Ne.symm e]
theorem Tab8.below {w w' : World} {g : Nat} {f : Nat → Int} (h : Tab8 w g f) (hb : Below w.heap.size w w') : Tab8 w' g f := by
  have hl := h.lt
  obtain ⟨cur, t, h, hc⟩ := h
  exact ⟨cur, t, (hb.block g hl).trans h, hc⟩
theorem tab8_new (w : World) (o : Obj) (cs : Array Value) (t : TypeId) (hc : ∀ j, j < 8 * 8 → cs[j]? = some (.int .i64 0)) : Tab8 ((w.alloc o).alloc (.cells cs t)) (w.heap.size + 1) (fun _ => 0) := by
  refine ⟨cs, t, ?_, hc⟩
  have := heap_alloc_new (w.alloc o) (.cells cs t)
  simpa using this
theorem zero64 (j : Nat) (hj : j < 8 * 8) : (#[.int .i64 0, .int .i64 0, .int .i64 0, .int .i64 0, .int .i64 0, .int .i64 0, .int .i64 0, .int .i64 0, .int .i64 0, .int .i64 0, .int .i64 0, .int .i64 0, .int .i64 0, .int .i64 0, .int .i64 0, .int .i64 0, .int .i64 0, .int .i64 0, .int .i64 0, .int .i64 0, .int .i64 0, .int .i64 0, .int .i64 0, .int .i64 0, .int .i64 0, .int .i64 0, .int .i64 0, .int .i64 0, .int .i64 0, .int .i64 0, .int .i64 0, .int .i64 0, .int .i64 0, .int .i64 0, .int .i64 0, .int .i64 0, .int .i64 0, .int .i64 0, .int .i64 0, .int .i64 0, .int .i64 0, .int .i64 0, .int .i64 0, .int .i64 0, .int .i64 0, .int .i64 0, .int .i64 0, .int .i64 0, .int .i64 0, .int .i64 0, .int .i64 0, .int .i64 0, .int .i64 0, .int .i64 0, .int .i64 0, .int .i64 0, .int .i64 0, .int .i64 0, .int .i64 0, .int .i64 0, .int .i64 0, .int .i64 0, .int .i64 0, .int .i64 0] : Array Value)[j]? = some (.int .i64 0) := by
  have h : (((List.range (8 * 8)).map fun _ => Value.int .i64 0).toArray)[j]? = some (.int .i64 0) := by
    rw [List.getElem?_toArray, List.getElem?_map, List.getElem?_range hj]
    rfl
  exact h
set_option maxRecDepth 100000 in
theorem e52 : ∀ args w, (callFunc 81 args).run Tryz.prog w = .ok (.enter 81 args) w := enters_of Tryz.func81 (by kernel_rfl) rfl
set_option maxRecDepth 100000 in
set_option maxHeartbeats 1000000 in
theorem product1_any (g r c : Nat) (f : Nat → Int) (W : World) (hr : r < 8) (hc : c < 8) (hL : Tab8 W g f) :
    Calls Tryz.prog 81 #[.int .i64 (r : Int), .int .i64 (c : Int), .pointer (some ⟨g, 0, none⟩)] W fun e w' => e = .returned (.int .i64 (f (r * 8 + c))) ∧ Below W.heap.size W w' := by
  have h1 := hL.cell (r * 8 + c) (by omega)
  have h3 : (r : Int) < 8 := by omega
  have h4 : (c : Int) < 8 := by omega
  generalize f (r * 8 + c) = x at *
  clear hL
  go_enter Tryz.func81, Tryz.ntmps81
  go_wp2
  go_ret
  exact ⟨rfl, Below.refl _ _⟩
/-- What lies where, so far. -/
def LieI (n : Nat) (L : List Int) (k : Nat) (f : Nat → Int) : Prop := ∀ j, j < k → f (j / n * 8 + j % n) = L.getD j 0
theorem LieI.step {n : Nat} {L : List Int} {k : Nat} {f : Nat → Int} (h1 : 0 < n) (h8 : n ≤ 8) (h : LieI n L k f) : LieI n L (k + 1) (upd f (k / n * 8 + k % n) (L.getD k 0)) := fun j hj => by
  unfold upd
  by_cases e : j = k
  · subst e; rw [if_pos rfl]
  · have m1 := Nat.mod_lt j h1
    have m2 := Nat.mod_lt k h1
    rw [if_neg, h j (by omega)]
    intro e2
    have a1 : j / n = k / n := by omega
    have a2 : j % n = k % n := by omega
    have b1 := Nat.div_add_mod j n
    have b2 := Nat.div_add_mod k n
    rw [a1, a2] at b1
    omega
set_option maxRecDepth 100000 in
set_option maxHeartbeats 8000000 in
theorem productOf_any (n : Nat) (L : List Int) (v : Value) (w : World) (hv : Sl w v L) (G : GoodS n L) :
    Calls Tryz.prog 36 #[.agg #[.int .i64 (n : Int), v]] w fun e w' => (∃ y, e = .returned y ∧ Teller y n n (sq n L) w') ∧ Below w.heap.size w w' := by
  have h1 := G.pos
  have h8 := G.le
  have hpos : 0 < n * n := Nat.mul_pos h1 h1
  obtain ⟨a, off, cap, rfl, ha, hcell⟩ := hv.form G.len hpos
  obtain ⟨z, hz⟩ : ∃ z, z = n * n := ⟨_, rfl⟩
  have HZ : Hid (z = n * n) := hz
  have hz99 : z ≤ 8 * 8 := by rw [hz]; exact Nat.mul_le_mul h8 h8
  have HC : Hid (∀ j, j < z → w.cell? ⟨a, off + j, none⟩ = some (.int .i64 (L.getD j 0))) := by rw [hz]; exact hcell
  have HG : Hid (GoodS n L) := G
  rw [← hz]
  have hx1 : ∀ t cs u, ((w.alloc (.cells #[.int .i64 (n : Int), .slice (some ⟨a, off, none⟩) z cap] t)).alloc (.cells cs u)).cell? ⟨w.heap.size, 1, none⟩ = some (.slice (some ⟨a, off, none⟩) z cap) := fun t cs u => by
    rw [cell_of_row _ _ _ _ _ _ ((Below.heap_alloc _ _ _ (by simp)).trans (heap_alloc_new w _))]; rfl
  have HX0 : Hid (∀ t cs u, ((w.alloc (.cells #[.int .i64 (n : Int), .slice (some ⟨a, off, none⟩) z cap] t)).alloc (.cells cs u)).cell? ⟨w.heap.size, 0, none⟩ = some (.int .i64 (n : Int))) := fun t cs u => by
    rw [cell_of_row _ _ _ _ _ _ ((Below.heap_alloc _ _ _ (by simp)).trans (heap_alloc_new w _))]; rfl
  clear hcell hz hv hpos G
  have hn0 : ¬ n = 0 := by omega
  have hni : (n : Int) ≠ 0 := by omega
  go_enter Tryz.func36, Tryz.ntmps36
  go_wp2
  go_loopw [9] (fun i wr => ∃ (k : Nat) (f : Nat → Int), i = .int .i64 (k : Int) ∧ k ≤ z ∧ Tab8 wr (w.heap.size + 1) f ∧ Hid (LieI n L k f) ∧ wr.cell? ⟨w.heap.size, 0, none⟩ = some (.int .i64 (n : Int)) ∧ Below w.heap.size w wr) (fun i _ => (z - intOf i).toNat)
  case atStart => exact ⟨0, _, rfl, by omega, tab8_new w _ _ _ zero64, (show LieI n L 0 _ from fun j h => by omega), HX0.out _ _ _, Below.next (balloc _ _) (balloc _ _)⟩
  case round =>
    clear hx1 HX0
    obtain ⟨k, f, rfl, hk, hT, HI, hx0, hB⟩ := hrel
    by_cases hlt : k < z
    · have hdk : decide ((k : Int) < (z : Int)) = true := by simp; omega
      have hki : (k : Int) < z := by omega
      have hck := (hB.cell (p := ⟨a, off + k, none⟩) ha).trans (HC.out k hlt)
      have HI2 : Hid (LieI n L (k + 1) (upd f (k / n * 8 + k % n) (L.getD k 0))) := HI.out.step h1 h8
      have hdiv : (k : Int) / (n : Int) = ((k / n : Nat) : Int) := by simp
      have hmod : (k : Int) % (n : Int) = ((k % n : Nat) : Int) := by simp
      have htd : (k : Int).tdiv (n : Int) = ((k / n : Nat) : Int) := rfl
      have htm : (k : Int).tmod (n : Int) = ((k % n : Nat) : Int) := rfl
      have hq8 : k / n < 8 := Nat.lt_of_lt_of_le (Nat.div_lt_of_lt_mul (by rw [← HZ.out]; exact hlt)) h8
      have hr8 : k % n < 8 := Nat.lt_of_lt_of_le (Nat.mod_lt _ h1) h8
      generalize k / n = q at *
      generalize k % n = r at *
      generalize L.getD k 0 = x at *
      have hc := hT.cell (q * 8 + r) (by omega)
      have hf := hT.frozen (q * 8 + r)
      have hwq : IntKind.i64.wrap (q : Int) = (q : Int) := by rw [IntKind.wrap_i64]; omega
      have hwr : IntKind.i64.wrap (r : Int) = (r : Int) := by rw [IntKind.wrap_i64]; omega
      have hq8i : (q : Int) < 8 := by omega
      have hr8i : (r : Int) < 8 := by omega
      clear HI
      go_wp2_with fail
      refine wp_region_noPanic ?_
      refine wp_region_held_drew (S := fun w' => w'.cell? ⟨w.heap.size, 0, none⟩ = some (.int .i64 (n : Int))) (by kernel_rfl) (hx0) (fun hSx => ?_)
      refine wpAnyH_take (i := 0) (v := .int .i64 (k : Int)) rfl (by kernel_rfl) (by kernel_rfl) (by kernel_rfl) (fun _ _ _ h => h) (Or.inl ⟨by rfl, fun w' hSw => by (try dsimp only at hSw); go_simp⟩) hSx ?_
      try simp only [Act.put, List.setIfInBounds_toArray]
      refine wpAnyH_take (i := 1) (v := .pointer (some ⟨w.heap.size, 0, none⟩)) rfl (by kernel_rfl) (by kernel_rfl) (by kernel_rfl) (fun _ _ _ h => h) (Or.inl ⟨by rfl, fun w' hSw => by (try dsimp only at hSw); go_simp⟩) hSx ?_
      try simp only [Act.put]
      refine wpAnyH_take (i := 2) (v := .int .i64 (n : Int)) rfl (by kernel_rfl) (by kernel_rfl) (by kernel_rfl) (fun _ _ _ h => h) (Or.inl ⟨by rfl, fun w' hSw => by (try dsimp only at hSw); go_simp⟩) hSx ?_
      try simp only [Act.put]
      refine wpAnyH_take (i := 3) (v := .int .i64 (q : Int)) rfl (by kernel_rfl) (by kernel_rfl) (by kernel_rfl) (fun _ _ _ h => h) (Or.inl ⟨by rfl, fun w' hSw => by (try dsimp only at hSw); go_simp⟩) hSx ?_
      try simp only [Act.put]
      refine wpAnyH_take (i := 4) (v := .int .i64 (k : Int)) rfl (by kernel_rfl) (by kernel_rfl) (by kernel_rfl) (fun _ _ _ h => h) (Or.inl ⟨by rfl, fun w' hSw => by (try dsimp only at hSw); go_simp⟩) hSx ?_
      try simp only [Act.put]
      refine wpAnyH_take (i := 5) (v := .pointer (some ⟨w.heap.size, 0, none⟩)) rfl (by kernel_rfl) (by kernel_rfl) (by kernel_rfl) (fun _ _ _ h => h) (Or.inl ⟨by rfl, fun w' hSw => by (try dsimp only at hSw); go_simp⟩) hSx ?_
      try simp only [Act.put]
      refine wpAnyH_take (i := 6) (v := .int .i64 (n : Int)) rfl (by kernel_rfl) (by kernel_rfl) (by kernel_rfl) (fun _ _ _ h => h) (Or.inl ⟨by rfl, fun w' hSw => by (try dsimp only at hSw); go_simp⟩) hSx ?_
      try simp only [Act.put]
      refine wpAnyH_take (i := 7) (v := .int .i64 (r : Int)) rfl (by kernel_rfl) (by kernel_rfl) (by kernel_rfl) (fun _ _ _ h => h) (Or.inl ⟨by rfl, fun w' hSw => by (try dsimp only at hSw); go_simp⟩) hSx ?_
      try simp only [Act.put]
      refine wpAnyH_take (i := 8) (v := .int .i64 x) rfl (by kernel_rfl) (by kernel_rfl) (by kernel_rfl) (fun _ _ _ h => h) (Or.inl ⟨by rfl, fun w' hSw => by (try dsimp only at hSw); go_simp⟩) hSx ?_
      try simp only [Act.put]
      refine wpAnyH_take (i := 9) (v := .pointer (some ⟨w.heap.size + 1, q * 8, none⟩)) rfl (by kernel_rfl) (by kernel_rfl) (by kernel_rfl) (fun _ _ _ h => h) (Or.inl ⟨by rfl, fun w' hSw => by (try dsimp only at hSw); go_simp⟩) hSx ?_
      try simp only [Act.put]
      refine wpAnyH_take (i := 10) (v := .pointer (some ⟨w.heap.size + 1, q * 8 + r, none⟩)) rfl (by kernel_rfl) (by kernel_rfl) (by kernel_rfl) (fun _ _ _ h => h) (Or.inl ⟨by rfl, fun w' hSw => by (try dsimp only at hSw); go_simp⟩) hSx ?_
      try simp only [Act.put]
      refine wpAnyH_ready (rs := [11]) (by kernel_rfl) (by simp) ?_
      refine AllReadyH.cons rfl (fun J hJ => ?_) AllReadyH.nil
      go_simp
      refine hJ.out _ _ ((World.cell?_setCell_far wr.drew ⟨w.heap.size + 1, q * 8 + r, none⟩ ⟨w.heap.size, 0, none⟩ (.int .i64 x) (by show w.heap.size + 1 ≠ w.heap.size; omega)).trans hx0) (fun hSx => ?_)
      clear hJ J
      try simp only [Act.put, List.setIfInBounds_toArray, List.set_cons_zero, List.set_cons_succ]
      refine wpAnyH_done (by kernel_rfl) ?_ _
      refine NoPanic.normal ?_
      go_simp
      go_wp2
      go_roundw
      case rel => exact ⟨k + 1, _, by go_num, by omega, Tab8.set (w := wr.drew) hT _ _, HI2, hSx, (hB.drew).setCell (by show w.heap.size ≤ w.heap.size + 1; omega) _⟩
      case measure => simp [intOf]; omega
    · have hdk : decide ((k : Int) < (z : Int)) = false := by simp; omega
      obtain rfl : k = z := by omega
      go_wp2
      go_ret
      refine ⟨⟨_, rfl, _, _, rfl, e52, fun W b r c hr hc => ?_⟩, hB⟩
      have G := HG.out
      have hlt := cell_lt hr hc
      have e := HI.out (r * n + c) (by rw [HZ.out]; exact hlt)
      rw [(divmod hc).1, (divmod hc).2, G.val hr hc] at e
      rw [← e]
      exact product1_any (w.heap.size + 1) r c f W (by omega) (by omega) (hT.below b)
end Go.Proofs.YtgpkhfpejopacabGreatDoor.Ql

/- The walk of what Idempotent asks. -/
/- The walks of what unit, commutes, associates, Idempotent, Left and Right ask. -/
namespace Go.Proofs.YtgpkhfpejopacabGreatDoor.Ql
open Go.RowKit

theorem Teller.form {v : Value} {m n : Nat} {t : Nat → Nat → Nat} {w : World} (h : Teller v m n t w) : ∃ g lb, v = .func (.func g) #[] lb := by
  obtain ⟨g, lb, rfl, _⟩ := h
  exact ⟨g, lb, rfl⟩
theorem nat_beq (a b : Nat) : ((a : Int) == (b : Int)) = (a == b) := by
  by_cases h : a = b
  · subst h; simp
  · have h1 : ((a : Int) == (b : Int)) = false := beq_eq_false_iff_ne.2 (by omega)
    have h2 : (a == b) = false := beq_eq_false_iff_ne.2 h
    rw [h1, h2]
set_option maxRecDepth 100000 in
theorem e54 : ∀ args w, (callFunc 80 args).run Tryz.prog w = .ok (.enter 80 args) w := enters_of Tryz.func80 (by kernel_rfl) rfl
set_option maxRecDepth 100000 in
set_option maxHeartbeats 4000000 in
theorem commutes1_any (n i x y : Nat) (t : Nat → Nat → Nat) (v : Value) (w W : World) (hT : Teller v n n t w) (hB : Below w.heap.size w W) (hi : Bx W i v) (hx : x < n) (hy : y < n) :
    Calls Tryz.prog 80 #[.int .i64 (x : Int), .int .i64 (y : Int), .pointer (some ⟨i, 0, none⟩)] W fun e w' => e = .returned (.bool (t x y == t y x)) ∧ Below W.heap.size W w' := by
  obtain ⟨g, lb, rfl, eg, hT⟩ := hT
  have C1 : ∀ W', Below W.heap.size W W' → Calls Tryz.prog g (#[.int .i64 (x : Int), .int .i64 (y : Int)] ++ lb) W' fun e w' => e = .returned (.int .i64 (t x y : Int)) ∧ Below W'.heap.size W' w' := fun W' b' => hT W' (Below.next hB b') x y hx hy
  have C2 : ∀ W', Below W.heap.size W W' → Calls Tryz.prog g (#[.int .i64 (y : Int), .int .i64 (x : Int)] ++ lb) W' fun e w' => e = .returned (.int .i64 (t y x : Int)) ∧ Below W'.heap.size W' w' := fun W' b' => hT W' (Below.next hB b') y x hy hx
  have HS : Hid (∀ w', Below W.heap.size W w' → w'.cell? ⟨i, 0, none⟩ = some (.func (.func g) #[] lb)) := fun w' b' => (hi.below b').2
  rw [← nat_beq]
  obtain ⟨X, hX⟩ : ∃ X : Int, X = ((t x y : Nat) : Int) := ⟨_, rfl⟩
  rw [← hX] at C1 ⊢
  obtain ⟨Y, hY⟩ : ∃ Y : Int, Y = ((t y x : Nat) : Int) := ⟨_, rfl⟩
  rw [← hY] at C2 ⊢
  obtain ⟨q, hq⟩ : ∃ q, (X == Y) = q := ⟨_, rfl⟩
  rw [hq]
  clear hT hi hX hY
  go_enter Tryz.func80, Tryz.ntmps80
  go_wp2_with fail
  refine wp_region_noPanic ?_
  refine wp_region_held_drew (S := fun w' => w'.cell? ⟨i, 0, none⟩ = some (.func (.func g) #[] lb)) (by kernel_rfl) (HS.out _ (Below.refl _ W).drew) (fun hSx => ?_)
  have d0 : Below W.heap.size W W.drew := (Below.refl _ W).drew
  refine wpAnyH_take (i := 0) (v := .func (.func g) #[] lb) rfl (by kernel_rfl) (by kernel_rfl) (by kernel_rfl) (fun _ _ _ h => h) (Or.inl ⟨by rfl, fun w' hSw => by (try dsimp only at hSw); have hs0 := hSw; go_simp⟩) hSx ?_
  try simp only [Act.put, List.setIfInBounds_toArray]
  refine wpAnyH_take (i := 1) (v := .int .i64 (x : Int)) rfl (by kernel_rfl) (by kernel_rfl) (by kernel_rfl) (fun _ _ _ h => h) (Or.inl ⟨by rfl, fun w' hSw => by (try dsimp only at hSw); have hs0 := hSw; go_simp⟩) hSx ?_
  try simp only [Act.put]
  refine wpAnyH_take (i := 2) (v := .int .i64 (y : Int)) rfl (by kernel_rfl) (by kernel_rfl) (by kernel_rfl) (fun _ _ _ h => h) (Or.inl ⟨by rfl, fun w' hSw => by (try dsimp only at hSw); have hs0 := hSw; go_simp⟩) hSx ?_
  try simp only [Act.put]
  refine wpAnyH_take (i := 4) (v := .func (.func g) #[] lb) rfl (by kernel_rfl) (by kernel_rfl) (by kernel_rfl) (fun _ _ _ h => h) (Or.inl ⟨by rfl, fun w' hSw => by (try dsimp only at hSw); have hs0 := hSw; go_simp⟩) hSx ?_
  try simp only [Act.put]
  refine wpAnyH_take (i := 5) (v := .int .i64 (y : Int)) rfl (by kernel_rfl) (by kernel_rfl) (by kernel_rfl) (fun _ _ _ h => h) (Or.inl ⟨by rfl, fun w' hSw => by (try dsimp only at hSw); have hs0 := hSw; go_simp⟩) hSx ?_
  try simp only [Act.put]
  refine wpAnyH_take (i := 6) (v := .int .i64 (x : Int)) rfl (by kernel_rfl) (by kernel_rfl) (by kernel_rfl) (fun _ _ _ h => h) (Or.inl ⟨by rfl, fun w' hSw => by (try dsimp only at hSw); have hs0 := hSw; go_simp⟩) hSx ?_
  try simp only [Act.put]
  refine wpAnyH_ready (rs := [3]) (by kernel_rfl) (by simp) ?_
  refine AllReadyH.cons rfl (fun J hJ => ?_) AllReadyH.nil
  go_simp
  go_at_fn g
  refine (C1 _ d0).mono ?_
  rintro e w1 ⟨rfl, b1⟩
  have d1 := Below.next d0 b1
  go_wp2_with fail
  refine hJ.out _ _ (HS.out _ d1) (fun hSx => ?_)
  clear hJ J
  try simp only [Act.put, List.setIfInBounds_toArray, List.set_cons_zero, List.set_cons_succ]
  refine wpAnyH_ready (rs := [7]) (by kernel_rfl) (by simp) ?_
  refine AllReadyH.cons rfl (fun J hJ => ?_) AllReadyH.nil
  go_simp
  go_at_fn g
  refine (C2 _ d1).mono ?_
  rintro e w2 ⟨rfl, b2⟩
  have d2 := Below.next d1 b2
  go_wp2_with fail
  refine hJ.out _ _ (HS.out _ d2) (fun hSx => ?_)
  clear hJ J
  try simp only [Act.put, List.setIfInBounds_toArray, List.set_cons_zero, List.set_cons_succ]
  refine wpAnyH_take (i := 8) (v := .bool q) rfl (by kernel_rfl) (by kernel_rfl) (by kernel_rfl) (fun _ _ _ h => h) (Or.inl ⟨by rfl, fun w' hSw => by (try dsimp only at hSw); have hs0 := hSw; go_simp⟩) hSx ?_
  try simp only [Act.put, List.setIfInBounds_toArray]
  refine wpAnyH_take (i := 9) (v := .bool q) rfl (by kernel_rfl) (by kernel_rfl) (by kernel_rfl) (fun _ _ _ h => h) (Or.inl ⟨by rfl, fun w' hSw => by (try dsimp only at hSw); have hs0 := hSw; go_simp⟩) hSx ?_
  try simp only [Act.put]
  refine wpAnyH_done (by kernel_rfl) ?_ _
  refine NoPanic.normal ?_
  go_simp
  go_wp2
  go_ret
  exact ⟨rfl, d2⟩
end Go.Proofs.YtgpkhfpejopacabGreatDoor.Ql

/- The walks of unit, commutes, associates and of what Idempotent asks. -/
namespace Go.Proofs.YtgpkhfpejopacabGreatDoor.Ql
open Go.RowKit

theorem size_one (w : World) (o : Obj) : (w.alloc o).heap.size = w.heap.size + 1 := by simp
theorem bx_two (w : World) (x y : Value) (t u : TypeId) : Bx ((w.alloc (.cells #[x] t)).alloc (.cells #[y] u)) w.heap.size x ∧ Bx ((w.alloc (.cells #[x] t)).alloc (.cells #[y] u)) (w.heap.size + 1) y := by
  refine ⟨(bx_new w x t).below (balloc _ _), ?_⟩
  have := bx_new (w.alloc (.cells #[x] t)) y u
  rw [size_one] at this
  exact this
theorem two_below (w : World) (o o' : Obj) : Below w.heap.size w ((w.alloc o).alloc o') := Below.next (balloc _ _) (balloc _ _)

set_option maxRecDepth 100000 in
set_option maxHeartbeats 4000000 in
theorem commutes_any (n : Nat) (t : Nat → Nat → Nat) (q : Bool) (v : Value) (w : World) (hn : n ≤ 8) (hT : Teller v n n t w) (hq : comB n t = q) :
    Calls Tryz.prog 35 #[.int .i64 (n : Int), v] w fun e w' => e = .returned (.bool q) ∧ Below w.heap.size w w' := by
  have C : ∀ a, Calls Tryz.prog 79 #[.int .i64 (n : Int), .func (.func 80) #[] #[.pointer (some ⟨w.heap.size, 0, none⟩)]] (w.alloc (.cells #[v] a)) fun e w' => e = .returned (.bool q) ∧ Below (w.alloc (.cells #[v] a)).heap.size (w.alloc (.cells #[v] a)) w' := fun a =>
    alwaysOfTwo_any n (fun x y => t x y == t y x) q _ _ hn ⟨_, _, rfl, e54, fun W hB x y hx hy => commutes1_any n w.heap.size x y t v _ W (hT.below (balloc w _)) hB ((bx_new w v a).below hB) hx hy⟩ hq
  obtain ⟨g, lb, rfl⟩ := hT.form
  clear hT hq
  go_enter Tryz.func35, Tryz.ntmps35
  go_wp2_with (go_at_call 79; refine (C _).mono ?_; rintro e w3 ⟨rfl, b3⟩)
  go_ret
  exact ⟨rfl, Below.next (balloc w _) b3⟩
end Go.Proofs.YtgpkhfpejopacabGreatDoor.Ql

namespace Go.Proofs.YtgpkhfpejopacabGreatDoor.Ql
open Go.RowKit

set_option maxRecDepth 100000 in
theorem e36i : ∀ args w, (callFunc 38 args).run Tryz.prog w = .ok (.enter 38 args) w := enters_of Tryz.func38 (by kernel_rfl) rfl
set_option maxRecDepth 100000 in
set_option maxHeartbeats 4000000 in
theorem idem1_any (n i x : Nat) (t : Nat → Nat → Nat) (v : Value) (w W : World) (hT : Teller v n n t w) (hB : Below w.heap.size w W) (hi : Bx W i v) (hx : x < n) :
    Calls Tryz.prog 38 #[.int .i64 (x : Int), .pointer (some ⟨i, 0, none⟩)] W fun e w' => e = .returned (.bool (t x x == x)) ∧ Below W.heap.size W w' := by
  obtain ⟨g, lb, rfl, eg, hT⟩ := hT
  have C1 := hT W hB x x hx hx
  have h1 := hi.2
  rw [← nat_beq (t x x)]
  obtain ⟨X, hX⟩ : ∃ X : Int, X = ((t x x : Nat) : Int) := ⟨_, rfl⟩
  rw [← hX] at C1 ⊢
  obtain ⟨p, hp⟩ : ∃ p, (X == (x : Int)) = p := ⟨_, rfl⟩
  rw [hp]
  clear hT hi hX
  go_enter Tryz.func38, Tryz.ntmps38
  go_wp2_with (go_at_fn g; refine C1.mono ?_; rintro e w1 ⟨rfl, b1⟩)
  go_ret
  exact ⟨rfl, b1⟩
end Go.Proofs.YtgpkhfpejopacabGreatDoor.Ql

namespace Go.Proofs.YtgpkhfpejopacabGreatDoor.Ql
open Go.RowKit

/-- A square in a box, as it is read later. -/
theorem one_box (s : Int) (u : Value) (w : World) : ∀ W, Below (w.alloc (.cells #[.int .i64 s, u] 31)).heap.size (w.alloc (.cells #[.int .i64 s, u] 31)) W →
    W.cell? ⟨w.heap.size, 0, none⟩ = some (.int .i64 s) ∧ W.cell? ⟨w.heap.size, 1, none⟩ = some u ∧ W.rangeAt w.heap.size 0 [.int .i64 s, u] := fun W b => by
  have k1 := (b.block w.heap.size (by simp)).trans (heap_alloc_new w (.cells #[.int .i64 s, u] 31))
  have c0 : W.cell? ⟨w.heap.size, 0, none⟩ = some (.int .i64 s) := by rw [cell_of_row _ _ _ _ _ _ k1]; rfl
  have c1 : W.cell? ⟨w.heap.size, 1, none⟩ = some u := by rw [cell_of_row _ _ _ _ _ _ k1]; rfl
  exact ⟨c0, c1, range_two W _ _ _ c0 c1⟩
theorem good_len {n : Nat} {L : List Int} (G : GoodS n L) : L.length ≤ maxLen := by rw [G.len]; exact Nat.le_trans (Nat.mul_le_mul G.le G.le) (by unfold maxLen; omega)
set_option maxRecDepth 100000 in
set_option maxHeartbeats 4000000 in
theorem Commutes_bad (s : Int) (L : List Int) (v : Value) (w : World) (hv : Sl w v L) (hl : L.length ≤ maxLen) (h : lF s L ≠ 0) :
    Calls Tryz.prog 9 #[.agg #[.int .i64 s, v]] w fun e w' => e = .returned (.tuple #[.bool false, .int .i64 (lF s L : Int)]) ∧ Below w.heap.size w w' := by
  have C := fun W (b : Below w.heap.size w W) => Check_any s L v W (hv.below b) hl
  have hz : ((lF s L : Int) != 0) = true := by simp; omega
  generalize lF s L = z at *
  clear hv
  go_enter Tryz.func9, Tryz.ntmps9
  go_wp2_with (go_at_call 8; refine (C _ (balloc w _)).mono ?_; rintro e w0 ⟨rfl, b0⟩)
  go_ret2
  exact ⟨rfl, Below.next (balloc w _) b0⟩
set_option maxRecDepth 100000 in
set_option maxHeartbeats 8000000 in
theorem Commutes_ok (n : Nat) (L : List Int) (v : Value) (w : World) (hv : Sl w v L) (G : GoodS n L) :
    Calls Tryz.prog 9 #[.agg #[.int .i64 (n : Int), v]] w fun e w' => e = .returned (.tuple #[.bool (comB n (sq n L)), .int .i64 0]) ∧ Below w.heap.size w w' := by
  have h8 := G.le
  have C := fun W (b : Below w.heap.size w W) => Check_any n L v W (hv.below b) (good_len G)
  rw [lF_good G] at C
  have A1 := fun W (b : Below w.heap.size w W) => productOf_any n L v W (hv.below b) G
  have A2 := fun y W (hT : Teller y n n (sq n L) W) => commutes_any n (sq n L) _ y W h8 hT rfl
  have SS : Hid (∀ W, Below (w.alloc (.cells #[.int .i64 (n : Int), v] 31)).heap.size (w.alloc (.cells #[.int .i64 (n : Int), v] 31)) W → W.cell? ⟨w.heap.size, 0, none⟩ = some (.int .i64 (n : Int)) ∧ W.cell? ⟨w.heap.size, 1, none⟩ = some v ∧ W.rangeAt w.heap.size 0 [.int .i64 (n : Int), v]) := one_box n v w
  generalize comB n (sq n L) = q at *
  clear hv G
  go_enter Tryz.func9, Tryz.ntmps9
  go_wp2_with (go_at_call 8; refine (C _ (balloc w _)).mono ?_; rintro e w0 ⟨rfl, b0⟩; obtain ⟨x0, x1, x2⟩ := SS.out _ b0)
  have hB := Below.next (balloc w _) b0
  have HS : Hid (∀ w', Below w0.heap.size w0 w' → w'.cell? ⟨w.heap.size, 0, none⟩ = some (.int .i64 (n : Int)) ∧ w'.cell? ⟨w.heap.size, 1, none⟩ = some v ∧ w'.rangeAt w.heap.size 0 [.int .i64 (n : Int), v]) := fun w' b' => SS.out _ (Below.next b0 b')
  clear C SS x0 x1 x2
  refine wp_region_noPanic ?_
  refine wp_region_held_drew (S := fun w' => w'.cell? ⟨w.heap.size, 0, none⟩ = some (.int .i64 (n : Int)) ∧ w'.cell? ⟨w.heap.size, 1, none⟩ = some v ∧ w'.rangeAt w.heap.size 0 [.int .i64 (n : Int), v]) (by kernel_rfl) (HS.out _ (Below.refl _ w0).drew) (fun hSx => ?_)
  have d0 : Below w0.heap.size w0 w0.drew := (Below.refl _ w0).drew
  refine wpAnyH_take (i := 0) (v := .pointer (some ⟨w.heap.size, 0, none⟩)) rfl (by kernel_rfl) (by kernel_rfl) (by kernel_rfl) (fun _ _ _ h => h) (Or.inl ⟨by rfl, fun w' hSw => by (try dsimp only at hSw); obtain ⟨hs0, hs1, hs2⟩ := hSw; go_simp⟩) hSx ?_
  try simp only [Act.put, List.setIfInBounds_toArray]
  refine wpAnyH_take (i := 1) (v := .int .i64 (n : Int)) rfl (by kernel_rfl) (by kernel_rfl) (by kernel_rfl) (fun _ _ _ h => h) (Or.inl ⟨by rfl, fun w' hSw => by (try dsimp only at hSw); obtain ⟨hs0, hs1, hs2⟩ := hSw; go_simp⟩) hSx ?_
  try simp only [Act.put]
  refine wpAnyH_take (i := 2) (v := .agg #[.int .i64 (n : Int), v]) rfl (by kernel_rfl) (by kernel_rfl) (by kernel_rfl) (fun _ _ _ h => h) (yieldsIf_load_mid (by rfl) 31 _ rfl w.heap.size 0 rfl [.int .i64 (n : Int), v] _ (fun _ h => h.2.2) Tryz.underlying31 rfl inf24) hSx ?_
  try simp only [Act.put]
  refine wpAnyH_ready (rs := [3]) (by kernel_rfl) (by simp) ?_
  refine AllReadyH.cons rfl (fun J hJ => ?_) AllReadyH.nil
  go_simp
  refine (A1 _ (Below.next hB d0)).mono ?_
  rintro e w1 ⟨⟨y, rfl, hT⟩, b1⟩
  have d1 := Below.next d0 b1
  go_wp2_with fail
  refine hJ.out _ _ (HS.out _ d1) (fun hSx => ?_)
  clear hJ J
  try simp only [Act.put, List.setIfInBounds_toArray, List.set_cons_zero, List.set_cons_succ]
  refine wpAnyH_ready (rs := [4]) (by kernel_rfl) (by simp) ?_
  refine AllReadyH.cons rfl (fun J hJ => ?_) AllReadyH.nil
  go_simp
  refine (A2 y _ hT).mono ?_
  rintro e w2 ⟨rfl, b2⟩
  have d2 := Below.next d1 b2
  go_wp2_with fail
  refine hJ.out _ _ (HS.out _ d2) (fun hSx => ?_)
  clear hJ J
  try simp only [Act.put, List.setIfInBounds_toArray, List.set_cons_zero, List.set_cons_succ]
  refine wpAnyH_take (i := 5) (v := .bool q) rfl (by kernel_rfl) (by kernel_rfl) (by kernel_rfl) (fun _ _ _ h => h) (Or.inl ⟨by rfl, fun w' hSw => by (try dsimp only at hSw); obtain ⟨hs0, hs1, hs2⟩ := hSw; go_simp⟩) hSx ?_
  try simp only [Act.put, List.setIfInBounds_toArray]
  refine wpAnyH_take (i := 6) (v := .int .i64 0) rfl (by kernel_rfl) (by kernel_rfl) (by kernel_rfl) (fun _ _ _ h => h) (Or.inl ⟨by rfl, fun w' hSw => by (try dsimp only at hSw); obtain ⟨hs0, hs1, hs2⟩ := hSw; go_simp⟩) hSx ?_
  try simp only [Act.put]
  refine wpAnyH_done (by kernel_rfl) ?_ _
  refine NoPanic.normal ?_
  go_simp
  go_wp2
  go_ret2
  exact ⟨rfl, Below.next hB d2⟩
set_option maxRecDepth 100000 in
set_option maxHeartbeats 4000000 in
theorem Idempotent_bad (s : Int) (L : List Int) (v : Value) (w : World) (hv : Sl w v L) (hl : L.length ≤ maxLen) (h : lF s L ≠ 0) :
    Calls Tryz.prog 10 #[.agg #[.int .i64 s, v]] w fun e w' => e = .returned (.tuple #[.bool false, .int .i64 (lF s L : Int)]) ∧ Below w.heap.size w w' := by
  have C := fun W (b : Below w.heap.size w W) => Check_any s L v W (hv.below b) hl
  have hz : ((lF s L : Int) != 0) = true := by simp; omega
  generalize lF s L = z at *
  clear hv
  go_enter Tryz.func10, Tryz.ntmps10
  go_wp2_with (go_at_call 8; refine (C _ (balloc w _)).mono ?_; rintro e w0 ⟨rfl, b0⟩)
  go_ret2
  exact ⟨rfl, Below.next (balloc w _) b0⟩
end Go.Proofs.YtgpkhfpejopacabGreatDoor.Ql
