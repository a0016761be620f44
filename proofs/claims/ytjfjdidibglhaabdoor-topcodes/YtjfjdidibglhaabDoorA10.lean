/- The walk of arrayFact. -/
import Derived.RowKit
import Derived.Test.YtjfjdidibglhaabDoorArP
import Derived.Test.YtjfjdidibglhaabDoorPBase
import Derived.Test.YtjfjdidibglhaabDoorSpQ
import Derived.Test.YtjfjdidibglhaabDoorE1
import Derived.Test.YtjfjdidibglhaabDoorDFa
import Derived.Maps.RangeWalk
import Derived.Maps.OwnSet
import Derived.DeepKeys4
import Derived.WideKeyEntry
import Derived.Test.YtjfjdidibglhaabDoorArT
/- The walks of sum, product and power (cut off above a bound), choose, OnesCount. -/
/- Rao's bound, counted. Nothing of the program. -/
/- Runs of a strength: sums of products over their columns. Nothing of the program. -/
/- Lists that are orthogonal to each other are no more than their length. Nothing of the program. -/
/- Sums of integers. Nothing of the program. -/
namespace Go.Proofs.YtjfjdidibglhaabDoor

end Go.Proofs.YtjfjdidibglhaabDoor

namespace Go.Proofs.YtjfjdidibglhaabDoor
end Go.Proofs.YtjfjdidibglhaabDoor

/- Contrasts of s levels (Helmert's): orthogonal to each other. Nothing of the program. -/
namespace Go.Proofs.YtjfjdidibglhaabDoor
end Go.Proofs.YtjfjdidibglhaabDoor

namespace Go.Proofs.YtjfjdidibglhaabDoor
end Go.Proofs.YtjfjdidibglhaabDoor

/- Rao's bound. Nothing of the program. -/
namespace Go.Proofs.YtjfjdidibglhaabDoor

end Go.Proofs.YtjfjdidibglhaabDoor

namespace Go.Proofs.YtjfjdidibglhaabDoor

end Go.Proofs.YtjfjdidibglhaabDoor

namespace Go.Proofs.YtjfjdidibglhaabDoor
open Go.RowKit

set_option maxHeartbeats 1000000 in
theorem aprod_any (a b : Nat) (w : World) (ha1 : 1 ≤ a) (ha : a ≤ 1000000000000000001) (_hb : b ≤ 1000000000000000001) (s : Nat) (hs : Hid (prO a b = s)) :
    Calls Tryd.prog 40 #[.int .i64 (a : Int), .int .i64 (b : Int)] w fun e w' => e = .returned (.int .i64 (s : Int)) ∧ w' = w := by
  · have h0 : 0 < a := ha1
    have hne : (a : Int) ≠ 0 := by omega
    obtain ⟨D, hD⟩ : ∃ D, D = 1000000000000000001 / a := ⟨_, rfl⟩
    have hq : (1000000000000000001 : Int).tdiv (a : Int) = (D : Int) := by rw [hD]; rfl
    have hDl : D ≤ 1000000000000000001 := by rw [hD]; exact Nat.div_le_self _ _
    by_cases hb2 : D < b
    · have hdb : decide ((D : Int) < (b : Int)) = true := by simp; omega
      have HS : Hid (s = 1000000000000000001) := by
        show _ = _
        rw [← hs.out]; unfold prO; rw [if_pos ⟨h0, by rw [← hD]; exact hb2⟩]
      clear hD hs
      go_enter Tryd.func40, Tryd.ntmps40
      go_wp2
      go_ret
      refine ⟨ret_int ?_, rfl⟩
      rw [HS.out]; rfl
    · have hdb : decide ((D : Int) < (b : Int)) = false := by simp; omega
      have HS : Hid (a * b = s) := by
        show _ = _
        rw [← hs.out]; unfold prO; rw [if_neg fun h => hb2 (by rw [hD]; exact h.2)]
      have hm : (a : Int) * (b : Int) = (s : Int) := by rw [← HS.out]; simp
      have hle : s ≤ 1000000000000000001 := by
        rw [← HS.out]
        have : ¬ 1000000000000000001 < a * b := fun h => hb2 (by rw [hD]; exact (gt_div h0).2 h)
        omega
      clear hD hs
      go_enter Tryd.func40, Tryd.ntmps40
      go_wp2
      go_ret
      exact ⟨rfl, rfl⟩
set_option maxHeartbeats 2000000 in
theorem apow_any (q n : Nat) (w : World) (hq1 : 1 ≤ q) (hq : q ≤ 64) (hn : n ≤ 64) (s : Nat) (hs : Hid (cO (q ^ n) = s)) :
    Calls Tryd.prog 18 #[.int .i64 (q : Int), .int .i64 (n : Int)] w fun e w' => e = .returned (.int .i64 (s : Int)) ∧ w' = w := by
  have HP : Hid (∀ i, prO (cO (q ^ i)) q = cO (q ^ (i + 1))) := fun i => by
    have := cO_pow q i
    rwa [cO_small (x := q) (by omega)] at this
  have HL : Hid (∀ i, cO (q ^ i) ≤ 1000000000000000001 ∧ 1 ≤ cO (q ^ i)) := fun i => ⟨cO_le _, by have : 0 < q ^ i := Nat.pow_pos hq1; unfold cO; omega⟩
  have H0 : Hid (cO (q ^ 0) = 1) := by show _ = _; rw [Nat.pow_zero]; rfl
  obtain ⟨f, Hf⟩ : ∃ f : Nat → Nat, Hid (∀ i, cO (q ^ i) = f i) := ⟨fun i => cO (q ^ i), fun i => rfl⟩
  simp only [Hf.out] at HP HL H0 hs
  go_enter Tryd.func18, Tryd.ntmps18
  go_wp2
  go_loopw [5, 7] (fun o iv wr => ∃ i x : Nat, iv = .int .i64 (i : Int) ∧ i ≤ n ∧ o = .int .i64 (x : Int) ∧ Hid (f i = x) ∧ wr = w) (fun _ iv _ => (n - intOf iv).toNat)
  case atStart => exact ⟨0, 1, rfl, by omega, rfl, H0, rfl⟩
  case round =>
    obtain ⟨i, x, rfl, hi, rfl, Hx, hw⟩ := hrel
    subst hw
    by_cases hlt : i < n
    · have hdi : decide ((i : Int) < (n : Int)) = true := by simp; omega
      have hii : (i : Int) < (n : Int) := by omega
      have hxl : x ≤ 1000000000000000001 := by rw [← Hx.out]; exact (HL.out i).1
      have hx1 : 1 ≤ x := by rw [← Hx.out]; exact (HL.out i).2
      have C := aprod_any x q wr hx1 hxl (by omega) (f (i + 1)) (by show _ = _; rw [← Hx.out]; exact HP.out i)
      obtain ⟨y, Hy⟩ : ∃ y, Hid (f (i + 1) = y) := ⟨_, rfl⟩
      rw [Hy.out] at C
      go_wp2_with (go_at_call 40; refine C.mono ?_; rintro e w1 ⟨rfl, rfl⟩)
      go_roundw
      case rel => exact ⟨i + 1, y, by go_num, by omega, rfl, Hy, by first | rfl | trivial⟩
      case measure => simp [intOf]; omega
    · have hdi : decide ((i : Int) < (n : Int)) = false := by simp; omega
      obtain rfl : i = n := by omega
      go_wp2
      go_ret
      refine ⟨ret_int ?_, rfl⟩
      rw [← Hx.out, hs.out]
theorem apow_small (q n : Nat) (w : World) (hq1 : 1 ≤ q) (hq : q ≤ 64) (hn : n ≤ 8) (s : Nat) (hs : Hid (q ^ n = s)) :
    Calls Tryd.prog 18 #[.int .i64 (q : Int), .int .i64 (n : Int)] w fun e w' => e = .returned (.int .i64 (s : Int)) ∧ w' = w :=
  apow_any q n w hq1 hq (by omega) s (by
    show _ = _
    rw [← hs.out]
    refine cO_small ?_
    have h1 : q ^ n ≤ 64 ^ n := Nat.pow_le_pow_left hq n
    have h2 : 64 ^ n ≤ 64 ^ 8 := Nat.pow_le_pow_right (by decide) hn
    have h3 : (64 : Nat) ^ 8 = 281474976710656 := by decide
    omega)
end Go.Proofs.YtjfjdidibglhaabDoor

/- Rows of 8 numbers; as keys of a map; 'm[k]++' at such a map, whichever is done first: the look-up, or the entry. -/
/- The walks of isLevels, isBelow, Check. -/
namespace Go.Proofs.YtjfjdidibglhaabDoor
open Go.RowKit

theorem Rw.at {w : World} {v : Value} {ls : List (List Int)} (h : Rw w v ls) {i : Nat} {l : List Int} (hi : ls[i]? = some l) {a : Option Addr} {n cap : Nat} (e : v = .slice a n cap) : ∃ b off u, a = some ⟨b, off, none⟩ ∧ w.cell? ⟨b, off + i, none⟩ = some u ∧ Sl w u l := by
  obtain ⟨a', cap', e', hr⟩ := h
  rw [e] at e'
  simp only [Value.slice.injEq] at e'
  obtain ⟨rfl, _, _⟩ := e'
  exact hr i l hi
end Go.Proofs.YtjfjdidibglhaabDoor

namespace Go.Proofs.YtjfjdidibglhaabDoor
open Go.RowKit Go.Maps Go.ChangeMaps Go.WideElems Go.MapKept

/-- A row of 8 numbers. -/
def erow (f : Nat → Int) : Array Value := ((List.range 8).map fun j => Value.int .i64 (f j)).toArray
@[simp] theorem erow_size (f : Nat → Int) : (erow f).size = 8 := by simp [erow]
theorem erow_at (f : Nat → Int) (j : Nat) (h : j < 8) : (erow f)[j]? = some (.int .i64 (f j)) := by simp [erow, h]
theorem erow_set (f : Nat → Int) (i : Nat) (v : Int) : (erow f).setIfInBounds i (.int .i64 v) = erow (upd f i v) := by
  apply Array.ext_getElem?
  intro j
  rw [Array.getElem?_setIfInBounds]
  by_cases hj : j < 8
  · rw [erow_at _ _ hj]
    by_cases e : i = j
    · subst e; rw [if_pos rfl, erow_at _ _ hj, if_pos (by simpa using hj)]; simp [upd]
    · rw [if_neg e, erow_at _ _ hj]; simp [upd, Ne.symm e]
  · simp [erow, hj]; omega
theorem erow_congr {f g : Nat → Int} (h : ∀ j, j < 8 → f j = g j) : erow f = erow g := by
  unfold erow
  congr 1
  apply List.map_congr_left
  intro j hj
  rw [h j (by simpa using hj)]
theorem erow_inj {f g : Nat → Int} (h : erow f = erow g) {j : Nat} (hj : j < 8) : f j = g j := by
  have h1 := erow_at f j hj
  rw [h, erow_at g j hj] at h1
  simpa using h1.symm
/-- Block g holds the row f, laid as type T. -/
def ERow (T : Nat) (w : World) (g : Nat) (f : Nat → Int) : Prop := w.heap[g]? = some (.cells (erow f) T (0, 0))
theorem ERow.lt {T : Nat} {w : World} {g : Nat} {f : Nat → Int} (h : ERow T w g f) : g < w.heap.size := (Array.getElem?_eq_some_iff.1 h).1
theorem ERow.cell {T : Nat} {w : World} {g : Nat} {f : Nat → Int} (h : ERow T w g f) (j : Nat) (hj : j < 8) : w.cell? ⟨g, j, none⟩ = some (.int .i64 (f j)) := by
  rw [cell_of_row w g j _ _ _ h, erow_at _ _ hj]
theorem ERow.frozen {T : Nat} {w : World} {g : Nat} {f : Nat → Int} (h : ERow T w g f) (j : Nat) : w.frozen? ⟨g, j, none⟩ = false := frozen_of_row w g j _ _ h
theorem ERow.set {T : Nat} {w : World} {g : Nat} {f : Nat → Int} (h : ERow T w g f) (i : Nat) (v : Int) : ERow T (w.setCell ⟨g, i, none⟩ (.int .i64 v)) g (upd f i v) := by
  unfold ERow
  rw [heap_setCell_same w g i _ _ _ h, erow_set]
theorem ERow.other {T : Nat} {w : World} {g : Nat} {f : Nat → Int} (h : ERow T w g f) (a : Addr) (v : Value) (hne : g ≠ a.block) : ERow T (w.setCell a v) g f := by
  unfold ERow
  rw [heap_setCell_other w a g v hne]; exact h
theorem ERow.below {T : Nat} {w w' : World} {g : Nat} {f : Nat → Int} (h : ERow T w g f) (hb : Below w.heap.size w w') : ERow T w' g f := (hb.block g h.lt).trans h
theorem ERow.congr {T : Nat} {w : World} {g : Nat} {f f' : Nat → Int} (h : ERow T w g f) (e : ∀ j, j < 8 → f j = f' j) : ERow T w g f' := by
  unfold ERow; rw [← erow_congr e]; exact h
theorem ERow.whole {T : Nat} {w : World} {g : Nat} {f : Nat → Int} (h : ERow T w g f) (f' : Nat → Int) : ERow T (w.setRow g (erow f')) g f' := setRow_heap w g _ _ _ _ h
theorem ERow.made (T : Nat) (w : World) (f : Nat → Int) : ERow T (w.alloc (.cells (erow f) T)) w.heap.size f := heap_alloc_new w _
theorem ERow.alloc {T : Nat} {w : World} {g : Nat} {f : Nat → Int} (h : ERow T w g f) (o : Obj) : ERow T (w.alloc o) g f := h.below (balloc _ _)
/-- The row of noughts, as it is laid at first. -/
theorem erow_zero : (#[.int .i64 0, .int .i64 0, .int .i64 0, .int .i64 0, .int .i64 0, .int .i64 0, .int .i64 0, .int .i64 0] : Array Value) = erow fun _ => 0 := rfl
theorem ERow.made0 (T : Nat) (w : World) : ERow T (w.alloc (.cells #[.int .i64 0, .int .i64 0, .int .i64 0, .int .i64 0, .int .i64 0, .int .i64 0, .int .i64 0, .int .i64 0] T)) w.heap.size (fun _ => 0) := by rw [erow_zero]; exact ERow.made T w _
theorem und61 : Tryd.prog.underlying 127 = some (.array 8 3) := by kernel_rfl
theorem laidOutG : laidOutB Tryd.prog = true := by kernel_rfl
theorem keyLawE : Go.WideMaps.KeyLaw Tryd.prog 127 := deep_law_laid laidOutG (m := 2) (by omega) (of_decide_eq_true (by kernel_rfl)) (by kernel_rfl) (by rw [und61])
theorem keyedE : Keyed Tryd.prog 127 := Keyed.of_law keyLawE
theorem cells61 : Tryd.prog.cellsOf 127 = 8 := by kernel_rfl
theorem cells3' : Tryd.prog.cellsOf 3 = 1 := by kernel_rfl
theorem keyType61 : Tryd.prog.keyType 127 = true := by kernel_rfl
theorem types_pos : ∃ m, Tryd.prog.types.size = m + 1 := by
  have h : decide (0 < Tryd.prog.types.size) = true := by kernel_rfl
  have := of_decide_eq_true h
  exact ⟨Tryd.prog.types.size - 1, by omega⟩
theorem key_erow (f : Nat → Int) (hf : ∀ j, j < 8 → (Lit.int .i64 (f j)).wf = true) : ∃ kl, keyOf Tryd.prog 127 (.agg (erow f)) = some kl := by
  unfold keyOf
  rw [und61]
  have hfm : (Value.agg (erow f)).formed Tryd.prog 127 = true := by simp [Value.formed, cells61]
  simp only [keyType61, hfm, Bool.and_self, if_true]
  have h3 : ∀ (d : Nat) (n : Int), (Lit.int .i64 n).wf = true → Tryd.prog.keyLits (d + 1) 3 [.int .i64 n] = some [.int .i64 n] := by
    intro d n hn
    unfold Program.keyLits
    rw [und3]
    simp [hn]
  have hl : (Value.agg (erow f)).cells.toList = (List.range 8).map fun j => Value.int .i64 (f j) := by simp [Value.cells, erow]
  rw [hl]
  have hmain : ∀ m, Tryd.prog.keyLits (m + 1 + 1) 127 ((List.range 8).map fun j => Value.int .i64 (f j)) = some ((List.range 8).map fun j => Lit.int .i64 (f j)) := by
    intro m
    unfold Program.keyLits
    rw [und61]
    simp only [cells61, cells3', List.length_map, List.length_range, if_true]
    simp [List.range_succ, h3 _ _ (hf 0 (by omega)), h3 _ _ (hf 1 (by omega)), h3 _ _ (hf 2 (by omega)), h3 _ _ (hf 3 (by omega)), h3 _ _ (hf 4 (by omega)), h3 _ _ (hf 5 (by omega)), h3 _ _ (hf 6 (by omega)), h3 _ _ (hf 7 (by omega))]
  obtain ⟨m, hm⟩ := types_pos
  rw [hm, hmain m]
  exact ⟨_, rfl⟩
/-- Eight small numbers as a value, and as a key. -/
def eV (x : List Int) : Value := .agg (erow fun j => x.getD j 0)
def EOk (x : List Int) : Prop := x.length = 8 ∧ ∀ i, i < 8 → 0 ≤ x.getD i 0 ∧ x.getD i 0 < 64
theorem eV_inj {x y : List Int} (hx : x.length = 8) (hy : y.length = 8) (h : eV x = eV y) : x = y := by
  unfold eV at h
  simp only [Value.agg.injEq] at h
  refine List.ext_getElem (by omega) fun j h1 h2 => ?_
  have := erow_inj h (j := j) (by omega)
  rw [List.getD_eq_getElem?_getD, List.getD_eq_getElem?_getD, List.getElem?_eq_getElem h1, List.getElem?_eq_getElem h2] at this
  exact this
noncomputable def eK (x : List Int) : Lit := @Classical.epsilon Lit ⟨.bool false⟩ fun kl => keyOf Tryd.prog 127 (eV x) = some kl
theorem eK_of {x : List Int} (h : EOk x) : keyOf Tryd.prog 127 (eV x) = some (eK x) :=
  @Classical.epsilon_spec_aux Lit ⟨.bool false⟩ (fun kl => keyOf Tryd.prog 127 (eV x) = some kl) (key_erow _ fun j hj => WalkArith.wf_i64 (by have := h.2 j hj; omega))
theorem eK_lit {x : List Int} (h : EOk x) : WideAt.IsKeyLit (eK x) := keyedE.key (eK_of h)
theorem eK_inj {x y : List Int} (hx : EOk x) (hy : EOk y) (e : eK x = eK y) : x = y :=
  eV_inj hx.1 hy.1 (keyedE.inj (eK_of hx) (by rw [e]; exact eK_of hy))
/-- What a map reads as: each stands there as often. -/
def EntIs (D : DataW Unit) (T : List Int → Int) : Prop := ∀ c, EOk c → D.atKey (eK c) (.lit (.int .i64 0)) = .lit (.int .i64 (T c))
theorem EntIs.empty : EntIs (.map []) (fun _ => 0) := fun c _ => by simp [DataW.atKey]
theorem EntIs.look {D : DataW Unit} {T : List Int → Int} (h : EntIs D T) {c : List Int} (hc : EOk c) {x : Int} (hat : D.atKey (eK c) (.lit (.int .i64 0)) = .lit (.int .i64 x)) : x = T c := by
  rw [h c hc] at hat
  simp only [DataW.lit.injEq, Lit.int.injEq, true_and] at hat
  exact hat.symm
theorem EntIs.put {D : DataW Unit} {T T' : List Int → Int} (h : EntIs D T) (hD : IsMap D) {c : List Int} (hc : EOk c) {x : Int} (h1 : T' c = x) (h2 : ∀ d, d ≠ c → T' d = T d) : EntIs (D.put (eK c) (.lit (.int .i64 x))) T' := fun d hd => by
  by_cases e : d = c
  · subst e
    rw [atKey_put_same hD (eK_lit hc), h1]
  · rw [atKey_put_other (fun e1 => e (eK_inj hd hc e1)), h d hd, h2 d e]

end Go.Proofs.YtjfjdidibglhaabDoor

/- The walk of noneAbove. -/
/- The walk of what a run has in some columns. -/
namespace Go.Proofs.YtjfjdidibglhaabDoor
open Go.RowKit Go.Maps

end Go.Proofs.YtjfjdidibglhaabDoor

namespace Go.Proofs.YtjfjdidibglhaabDoor
open Go.RowKit Go.Maps Go.ChangeMaps Go.WideElems Go.MapKept

end Go.Proofs.YtjfjdidibglhaabDoor

/- The walks of triesAll and Strength. -/
namespace Go.Proofs.YtjfjdidibglhaabDoor
open Go.RowKit

end Go.Proofs.YtjfjdidibglhaabDoor

/- The walk of Strength. -/
namespace Go.Proofs.YtjfjdidibglhaabDoor
open Go.RowKit

end Go.Proofs.YtjfjdidibglhaabDoor

namespace Go.Proofs.YtjfjdidibglhaabDoor
open Go.RowKit

end Go.Proofs.YtjfjdidibglhaabDoor
