/- Rows of 8 numbers; as keys of a map; 'm[k]++' at such a map, whichever is done first: the look-up, or the entry. -/
import Derived.Test.YtjfjdidibglhaabDoorA1
import Derived.Maps.RangeWalk
import Derived.Maps.OwnSet
import Derived.DeepKeys4
import Derived.WideKeyEntry
namespace Go.Proofs.YtjfjdidibglhaabDoor
open Go.RowKit Go.Maps Go.ChangeMaps Go.WideElems Go.MapKept

/-- A row of 8 numbers. -/
def erow (f : Nat → Int) : Array Value := ((List.range 8).map fun j => Value.int .i64 (f j)).toArray
@[simp] theorem erow_size (f : Nat → Int) : (erow f).size = 8 := by simp [erow]
theorem erow_at (f : Nat → Int) (j : Nat) (h : j < 8) : (erow f)[j]? = some (.int .i64 (f j)) := by simp [erow, h]
theorem erow_set (f : Nat → Int) (i : Nat) (v : Int) : (erow f).setIfInBounds i (.int .i64 v) = erow (upd f i v) := by
  apply Array.ext_getElem?
  intro j
  rw [Array.getElem?_setIfInBounds]
  by_cases hj : j < 8
  · rw [erow_at _ _ hj]
    by_cases e : i = j
    · subst e; rw [if_pos rfl, erow_at _ _ hj, if_pos (by simpa using hj)]; simp [upd]
    · rw [if_neg e, erow_at _ _ hj]; simp [upd, Ne.symm e]
  · simp [erow, hj]; omega
theorem erow_congr {f g : Nat → Int} (h : ∀ j, j < 8 → f j = g j) : erow f = erow g := by
  unfold erow
  congr 1
  apply List.map_congr_left
  intro j hj
  rw [h j (by simpa using hj)]
theorem erow_inj {f g : Nat → Int} (h : erow f = erow g) {j : Nat} (hj : j < 8) : f j = g j := by
  have h1 := erow_at f j hj
  rw [h, erow_at g j hj] at h1
  simpa using h1.symm
/-- Block g holds the row f, laid as type T. -/
def ERow (T : Nat) (w : World) (g : Nat) (f : Nat → Int) : Prop := w.heap[g]? = some (.cells (erow f) T (0, 0))
theorem ERow.lt {T : Nat} {w : World} {g : Nat} {f : Nat → Int} (h : ERow T w g f) : g < w.heap.size := (Array.getElem?_eq_some_iff.1 h).1
theorem ERow.cell {T : Nat} {w : World} {g : Nat} {f : Nat → Int} (h : ERow T w g f) (j : Nat) (hj : j < 8) : w.cell? ⟨g, j, none⟩ = some (.int .i64 (f j)) := by
  rw [cell_of_row w g j _ _ _ h, erow_at _ _ hj]
theorem ERow.frozen {T : Nat} {w : World} {g : Nat} {f : Nat → Int} (h : ERow T w g f) (j : Nat) : w.frozen? ⟨g, j, none⟩ = false := frozen_of_row w g j _ _ h
theorem ERow.set {T : Nat} {w : World} {g : Nat} {f : Nat → Int} (h : ERow T w g f) (i : Nat) (v : Int) : ERow T (w.setCell ⟨g, i, none⟩ (.int .i64 v)) g (upd f i v) := by
  unfold ERow
  rw [heap_setCell_same w g i _ _ _ h, erow_set]
theorem ERow.other {T : Nat} {w : World} {g : Nat} {f : Nat → Int} (h : ERow T w g f) (a : Addr) (v : Value) (hne : g ≠ a.block) : ERow T (w.setCell a v) g f := by
  unfold ERow
  rw [heap_setCell_other w a g v hne]; exact h
theorem ERow.below {T : Nat} {w w' : World} {g : Nat} {f : Nat → Int} (h : ERow T w g f) (hb : Below w.heap.size w w') : ERow T w' g f := (hb.block g h.lt).trans h
theorem ERow.congr {T : Nat} {w : World} {g : Nat} {f f' : Nat → Int} (h : ERow T w g f) (e : ∀ j, j < 8 → f j = f' j) : ERow T w g f' := by
  unfold ERow; rw [← erow_congr e]; exact h
theorem ERow.whole {T : Nat} {w : World} {g : Nat} {f : Nat → Int} (h : ERow T w g f) (f' : Nat → Int) : ERow T (w.setRow g (erow f')) g f' := setRow_heap w g _ _ _ _ h
theorem ERow.wother {T : Nat} {w : World} {g g' : Nat} {f : Nat → Int} (h : ERow T w g f) (hne : g ≠ g') (cs : Array Value) : ERow T (w.setRow g' cs) g f := (setRow_other w g' g cs hne).trans h
theorem ERow.made (T : Nat) (w : World) (f : Nat → Int) : ERow T (w.alloc (.cells (erow f) T)) w.heap.size f := heap_alloc_new w _
theorem ERow.alloc {T : Nat} {w : World} {g : Nat} {f : Nat → Int} (h : ERow T w g f) (o : Obj) : ERow T (w.alloc o) g f := h.below (balloc _ _)
theorem bsetRw {B g : Nat} {w0 w : World} (hb : Below B w0 w) (hBg : B ≤ g) (cs : Array Value) : Below B w0 (w.setRow g cs) :=
  ⟨hb.os, hb.tape, hb.output, by simpa using hb.size, fun k hk => (setRow_other w g k cs (by omega)).trans (hb.block k hk)⟩
theorem erow_one (f : Nat → Int) : (erow f).all (·.oneCell') = true := by
  rw [Array.all_eq_true]
  intro i hi
  have h := erow_at f i (by simpa using hi)
  rw [Array.getElem?_eq_getElem hi] at h
  rw [Option.some.inj h]; rfl
/-- The row of noughts, as it is laid at first. -/
theorem erow_zero : (#[.int .i64 0, .int .i64 0, .int .i64 0, .int .i64 0, .int .i64 0, .int .i64 0, .int .i64 0, .int .i64 0] : Array Value) = erow fun _ => 0 := rfl
theorem ERow.made0 (T : Nat) (w : World) : ERow T (w.alloc (.cells #[.int .i64 0, .int .i64 0, .int .i64 0, .int .i64 0, .int .i64 0, .int .i64 0, .int .i64 0, .int .i64 0] T)) w.heap.size (fun _ => 0) := by rw [erow_zero]; exact ERow.made T w _
theorem und61 : Tryd.prog.underlying 127 = some (.array 8 3) := by kernel_rfl
theorem inf61 (f : Nat → Int) : (Tryd.prog.info? 127).map (·.size) = some (erow f).size := by rw [erow_size]; kernel_rfl
theorem post_erow {fn : Func} {R : Ending → World → Prop} {a : Act} {w : World} {g : Nat} {f : Nat → Int} (slot : Tmp) (hres : fn.results = #[.cell slot 127])
    (hp : a.tmps.getD slot undef = .pointer (some ⟨g, 0, none⟩)) (hr : ERow 127 w g f) (hd : a.defers = []) (hR : R (.returned (.agg (erow f))) w) : bodyPost Tryd.prog fn R .ret a w :=
  bodyPost_ret (results_cell_row hres a.tmps w g 127 (erow f) (0, 0) _ hp hr und61 rfl (inf61 f)) hd hR
theorem undE : Tryd.prog.underlying 125 = some (.map 127 3) := by kernel_rfl
theorem laidOutG : laidOutB Tryd.prog = true := by kernel_rfl
theorem keyLawE : Go.WideMaps.KeyLaw Tryd.prog 127 := deep_law_laid laidOutG (m := 2) (by omega) (of_decide_eq_true (by kernel_rfl)) (by kernel_rfl) (by rw [und61])
theorem keyedE : Keyed Tryd.prog 127 := Keyed.of_law keyLawE
theorem cells61 : Tryd.prog.cellsOf 127 = 8 := by kernel_rfl
theorem cells3' : Tryd.prog.cellsOf 3 = 1 := by kernel_rfl
theorem keyType61 : Tryd.prog.keyType 127 = true := by kernel_rfl
theorem types_pos : ∃ m, Tryd.prog.types.size = m + 1 := by
  have h : decide (0 < Tryd.prog.types.size) = true := by kernel_rfl
  have := of_decide_eq_true h
  exact ⟨Tryd.prog.types.size - 1, by omega⟩
theorem key_erow (f : Nat → Int) (hf : ∀ j, j < 8 → (Lit.int .i64 (f j)).wf = true) : ∃ kl, keyOf Tryd.prog 127 (.agg (erow f)) = some kl := by
  unfold keyOf
  rw [und61]
  have hfm : (Value.agg (erow f)).formed Tryd.prog 127 = true := by simp [Value.formed, cells61]
  simp only [keyType61, hfm, Bool.and_self, if_true]
  have h3 : ∀ (d : Nat) (n : Int), (Lit.int .i64 n).wf = true → Tryd.prog.keyLits (d + 1) 3 [.int .i64 n] = some [.int .i64 n] := by
    intro d n hn
    unfold Program.keyLits
    rw [und3]
    simp [hn]
  have hl : (Value.agg (erow f)).cells.toList = (List.range 8).map fun j => Value.int .i64 (f j) := by simp [Value.cells, erow]
  rw [hl]
  have hmain : ∀ m, Tryd.prog.keyLits (m + 1 + 1) 127 ((List.range 8).map fun j => Value.int .i64 (f j)) = some ((List.range 8).map fun j => Lit.int .i64 (f j)) := by
    intro m
    unfold Program.keyLits
    rw [und61]
    simp only [cells61, cells3', List.length_map, List.length_range, if_true]
    simp [List.range_succ, h3 _ _ (hf 0 (by omega)), h3 _ _ (hf 1 (by omega)), h3 _ _ (hf 2 (by omega)), h3 _ _ (hf 3 (by omega)), h3 _ _ (hf 4 (by omega)), h3 _ _ (hf 5 (by omega)), h3 _ _ (hf 6 (by omega)), h3 _ _ (hf 7 (by omega))]
  obtain ⟨m, hm⟩ := types_pos
  rw [hm, hmain m]
  exact ⟨_, rfl⟩
/-- Eight small numbers as a value, and as a key. -/
def eV (x : List Int) : Value := .agg (erow fun j => x.getD j 0)
def EOk (x : List Int) : Prop := x.length = 8 ∧ ∀ i, i < 8 → 0 ≤ x.getD i 0 ∧ x.getD i 0 < 64
theorem eV_inj {x y : List Int} (hx : x.length = 8) (hy : y.length = 8) (h : eV x = eV y) : x = y := by
  unfold eV at h
  simp only [Value.agg.injEq] at h
  refine List.ext_getElem (by omega) fun j h1 h2 => ?_
  have := erow_inj h (j := j) (by omega)
  rw [List.getD_eq_getElem?_getD, List.getD_eq_getElem?_getD, List.getElem?_eq_getElem h1, List.getElem?_eq_getElem h2] at this
  exact this
noncomputable def eK (x : List Int) : Lit := @Classical.epsilon Lit ⟨.bool false⟩ fun kl => keyOf Tryd.prog 127 (eV x) = some kl
theorem eK_of {x : List Int} (h : EOk x) : keyOf Tryd.prog 127 (eV x) = some (eK x) :=
  @Classical.epsilon_spec_aux Lit ⟨.bool false⟩ (fun kl => keyOf Tryd.prog 127 (eV x) = some kl) (key_erow _ fun j hj => WalkArith.wf_i64 (by have := h.2 j hj; omega))
theorem eK_lit {x : List Int} (h : EOk x) : WideAt.IsKeyLit (eK x) := keyedE.key (eK_of h)
theorem eK_inj {x y : List Int} (hx : EOk x) (hy : EOk y) (e : eK x = eK y) : x = y :=
  eV_inj hx.1 hy.1 (keyedE.inj (eK_of hx) (by rw [e]; exact eK_of hy))
/-- What a map reads as: each stands there as often. -/
def EntIs (D : DataW Unit) (T : List Int → Int) : Prop := ∀ c, EOk c → D.atKey (eK c) (.lit (.int .i64 0)) = .lit (.int .i64 (T c))
theorem EntIs.empty : EntIs (.map []) (fun _ => 0) := fun c _ => by simp [DataW.atKey]
theorem EntIs.look {D : DataW Unit} {T : List Int → Int} (h : EntIs D T) {c : List Int} (hc : EOk c) {x : Int} (hat : D.atKey (eK c) (.lit (.int .i64 0)) = .lit (.int .i64 x)) : x = T c := by
  rw [h c hc] at hat
  simp only [DataW.lit.injEq, Lit.int.injEq, true_and] at hat
  exact hat.symm
theorem EntIs.put {D : DataW Unit} {T T' : List Int → Int} (h : EntIs D T) (hD : IsMap D) {c : List Int} (hc : EOk c) {x : Int} (h1 : T' c = x) (h2 : ∀ d, d ≠ c → T' d = T d) : EntIs (D.put (eK c) (.lit (.int .i64 x))) T' := fun d hd => by
  by_cases e : d = c
  · subst e
    rw [atKey_put_same hD (eK_lit hc), h1]
  · rw [atKey_put_other (fun e1 => e (eK_inj hd hc e1)), h d hd, h2 d e]

theorem zero3' (u : World) : (zeroValue 3).run Tryd.prog u = .ok (.int .i64 0) u := by kernel_rfl
theorem entry_any {w : World} {b n : Nat} {D : DataW Unit} (hown : w.ownsMap Tryd.prog 127 (plainElem Tryd.prog 3) b n D) (hn : n < maxLen) {key : Value} {kl : Lit} (hkey : keyOf Tryd.prog 127 key = some kl) :
    ∃ (c : Int) (v0 : Value) (st : Nat) (w1 : World), D.atKey kl (.lit (.int .i64 0)) = .lit (.int .i64 c) ∧ (Instr.lookup 125 (.map (some b)) key false).run Tryd.prog w = .ok (.int .i64 c) w ∧
      (Instr.mapEntry 125 (.map (some b)) key).run Tryd.prog w = .ok (.tuple #[v0, goInt st]) w1 ∧ (Instr.lookup 125 (.map (some b)) key false).run Tryd.prog w1 = .ok (.int .i64 c) w1 ∧ w.grownBy w1 (some b) ∧ w1.heap.size = w.heap.size ∧
      ∀ val : Int, (Lit.int .i64 val).wf = true → ∃ w2, (Instr.entryStore 125 (.map (some b)) (goInt st) (.int .i64 val)).run Tryd.prog w1 = .ok () w2 ∧ w2.ownsMap Tryd.prog 127 (plainElem Tryd.prog 3) b (n + 1) (D.put kl (.lit (.int .i64 val))) ∧ w.grownBy w2 (some b) ∧ w2.heap.size = w.heap.size := by
  obtain ⟨c, hlook, hat, hwc⟩ := hown.lookup_int keyedE undE und3 (zero3' w) hkey
  obtain ⟨es, clock, hb, F, hs, hD⟩ := id hown
  obtain ⟨v0, st, es1, clock1, hrun, _, hst⟩ := entry_then_store keyLawE undE zero3' hb F hkey
  have hgrow : ∀ o, w.grownBy (setBlock w b o) (some b) := fun o => ⟨rfl, rfl, rfl, by simp [setBlock], fun i _ hi => heap_setBlock_other hb _ (fun e => hi (by rw [e]))⟩
  have hsame := heap_setBlock_same hb (.map es1 clock1)
  -- the look-up behind the entry
  have hlook2 : (Instr.lookup 125 (.map (some b)) key false).run Tryd.prog (setBlock w b (.map es1 clock1)) = .ok (.int .i64 c) (setBlock w b (.map es1 clock1)) := by
    rcases keyLawE.find w hkey es.toList F.keys with ⟨h1, h2⟩ | ⟨j, e0, h1, h2, h3⟩
    · have hr : (Instr.mapEntry 125 (.map (some b)) key).run Tryd.prog w = .ok (.tuple #[.int .i64 0, goInt clock]) (setBlock w b (.map (es.push ⟨key, .int .i64 0, clock⟩) (clock + 1))) := by
        simp [Instr.mapEntry, run_underlying undE, MapKept.run_getObj_map hb, keyLawE.check w false hkey, h1, MapKept.run_setObj_map _ hb, Result.andThen, setBlock]
      have hu : (Instr.mapUpdate 125 (.map (some b)) key (.int .i64 0)).run Tryd.prog w = .ok () (setBlock w b (.map (es.push ⟨key, .int .i64 0, clock⟩) (clock + 1))) := by
        simp [Instr.mapUpdate, run_underlying undE, MapKept.run_getObj_map hb, keyLawE.check w false hkey, h1, MapKept.run_setObj_map _ hb, Result.andThen, setBlock]
      rw [hrun] at hr
      have ew := (Result.ok.inj hr).2
      rw [ew]
      obtain ⟨w', hu', hown', _⟩ := hown.update keyedE undE hn hkey (plainElem_int (H := Unit) und3 (a := 0) (by decide))
      rw [hu] at hu'
      have ew' := (Result.ok.inj hu').2
      rw [← ew'] at hown'
      obtain ⟨c', hl', hat', _⟩ := hown'.lookup_int keyedE undE und3 (zero3' _) hkey
      rw [atKey_put_same hown.isMap (keyedE.key hkey)] at hat'
      have hc' : c' = 0 := by
        simp only [DataW.lit.injEq, Lit.int.injEq, true_and] at hat'
        exact hat'.symm
      have hc0 : c = 0 := by
        rcases Maps.fit_look false keyedE undE (zero3' w) hb F hkey with ⟨hl0, _, _⟩ | ⟨e0, y, he, hk, _⟩
        · rw [hlook] at hl0
          have := (Result.ok.inj hl0).1
          simpa using this
        · exact absurd hk (h2 e0 he)
      rw [hl', hc', hc0]
    · have hj : es[j]? = some e0 := by simpa using h2
      have hsm : es.modify j (fun e => { e with key := key }) = es := by
        apply Array.ext'
        rw [Array.toList_modify, modify_eq_set _ _ _ _ h2]
        have : ({ e0 with key := key } : MapEntry) = e0 := by rw [← h3]
        rw [this]
        exact set_self _ _ _ h2
      have hr : (Instr.mapEntry 125 (.map (some b)) key).run Tryd.prog w = .ok (.tuple #[e0.val, goInt e0.born]) (setBlock w b (.map es clock)) := by
        simp [Instr.mapEntry, run_underlying undE, MapKept.run_getObj_map hb, keyLawE.check w false hkey, h1, hj, h3, keyLawE.stays w hkey, hsm, MapKept.run_setObj_map _ hb, Result.andThen, setBlock]
      rw [hrun] at hr
      have ew := (Result.ok.inj hr).2
      rw [ew]
      have hown' : (setBlock w b (.map es clock)).ownsMap Tryd.prog 127 (plainElem Tryd.prog 3) b n D := ⟨es, clock, heap_setBlock_same hb _, F, hs, hD⟩
      obtain ⟨c', hl', hat', _⟩ := hown'.lookup_int keyedE undE und3 (zero3' _) hkey
      rw [hat] at hat'
      have hc' : c = c' := by
        simp only [DataW.lit.injEq, Lit.int.injEq, true_and] at hat'
        exact hat'
      rw [hl', hc']
  refine ⟨c, v0, st, _, hat, hlook, hrun, hlook2, hgrow _, by simp [setBlock], fun val hval => ?_⟩
  obtain ⟨es', clock', hr1, hr2⟩ := hst _ (.int .i64 val) hsame
  obtain ⟨w', hu', hown', _⟩ := hown.update keyedE undE hn hkey (plainElem_int (H := Unit) und3 hval)
  rw [hr2] at hu'
  have ew' := (Result.ok.inj hu').2
  rw [← ew'] at hown'
  have hss : setBlock (setBlock w b (.map es1 clock1)) b (.map es' clock') = setBlock w b (.map es' clock') := by simp [setBlock]
  rw [hss] at hr1
  exact ⟨_, hr1, hown', hgrow _, by simp [setBlock]⟩

end Go.Proofs.YtjfjdidibglhaabDoor
