/- The walk of put: a number at the end, and whether none of its gaps was there. -/
import Derived.Test.YtmiinhbffiodmaaDoorR1
import Derived.Maps.RangeWalk
import Derived.Maps.OwnSet
import Derived.DeepKeys4
import Derived.WideKeyEntry
import Derived.Laws.EntriesVeiled
import Derived.Deep.MidRow
import Derived.Deep.RegionHeld3
import Derived.Deep.QuietTactic
import Derived.BigQuiet
import Derived.Shelf.Abstract
/- A row that grows and shrinks at its end, and knows how often each gap is there: what it is in memory; the walks of newRow and byMuch. -/
/- Gaps as keys of a map; 'm[k]++' and 'm[k]--' at such a map, whichever is done first: the look-up, or the entry. -/
namespace Go.Proofs.YtmiinhbffiodmaaDoor
open Go.RowKit Go.Maps Go.ChangeMaps Go.WideElems Go.MapKept

theorem undM : Tryd.prog.underlying 62 = some (.map 55 3) := by kernel_rfl
theorem laidOutG : laidOutB Tryd.prog = true := by kernel_rfl
theorem keyLawG : Go.WideMaps.KeyLaw Tryd.prog 55 := deep_law_laid laidOutG (m := 2) (by omega) (of_decide_eq_true (by kernel_rfl)) (by kernel_rfl) (by rw [Tryd.underlying55])
theorem keyedG : Keyed Tryd.prog 55 := Keyed.of_law keyLawG
theorem cellsG : Tryd.prog.cellsOf 55 = 2 := by kernel_rfl
theorem cells3' : Tryd.prog.cellsOf 3 = 1 := by kernel_rfl
theorem keyTypeG : Tryd.prog.keyType 55 = true := by kernel_rfl
theorem types_pos : ∃ m, Tryd.prog.types.size = m + 1 := by
  have h : decide (0 < Tryd.prog.types.size) = true := by kernel_rfl
  have := of_decide_eq_true h
  exact ⟨Tryd.prog.types.size - 1, by omega⟩
/-- A gap as a value. -/
def gV (c : Int × Int) : Value := .agg #[.int .i64 c.1, .int .i64 c.2]
/-- Numbers that a gap may have. -/
def GOk (c : Int × Int) : Prop := (Lit.int .i64 c.1).wf = true ∧ (Lit.int .i64 c.2).wf = true
theorem gV_inj {c d : Int × Int} (h : gV c = gV d) : c = d := by
  unfold gV at h
  simp only [Value.agg.injEq, Array.mk.injEq, List.cons.injEq, Value.int.injEq, true_and, and_true] at h
  exact Prod.ext h.1 h.2
theorem key_gap (c : Int × Int) (hc : GOk c) : ∃ kl, keyOf Tryd.prog 55 (gV c) = some kl := by
  unfold keyOf
  rw [Tryd.underlying55]
  have hfm : (gV c).formed Tryd.prog 55 = true := by simp [gV, Value.formed, cellsG]
  simp only [keyTypeG, hfm, Bool.and_self, if_true]
  have h3 : ∀ (d : Nat) (n : Int), (Lit.int .i64 n).wf = true → Tryd.prog.keyLits (d + 1) 3 [.int .i64 n] = some [.int .i64 n] := by
    intro d n hn
    unfold Program.keyLits
    rw [und3]
    simp [hn]
  have hl : (gV c).cells.toList = [.int .i64 c.1, .int .i64 c.2] := by simp [Value.cells, gV]
  rw [hl]
  have hmain : ∀ m, Tryd.prog.keyLits (m + 1 + 1) 55 [.int .i64 c.1, .int .i64 c.2] = some [.int .i64 c.1, .int .i64 c.2] := by
    intro m
    unfold Program.keyLits
    rw [Tryd.underlying55]
    simp [cellsG, cells3', h3 _ _ hc.1, h3 _ _ hc.2]
  obtain ⟨m, hm⟩ := types_pos
  rw [hm, hmain m]
  exact ⟨_, rfl⟩
noncomputable def gK (c : Int × Int) : Lit := @Classical.epsilon Lit ⟨.bool false⟩ fun kl => keyOf Tryd.prog 55 (gV c) = some kl
theorem gK_of {c : Int × Int} (h : GOk c) : keyOf Tryd.prog 55 (gV c) = some (gK c) :=
  @Classical.epsilon_spec_aux Lit ⟨.bool false⟩ (fun kl => keyOf Tryd.prog 55 (gV c) = some kl) (key_gap c h)
theorem gK_lit {c : Int × Int} (h : GOk c) : WideAt.IsKeyLit (gK c) := keyedG.key (gK_of h)
theorem gK_inj {c d : Int × Int} (hc : GOk c) (hd : GOk d) (e : gK c = gK d) : c = d :=
  gV_inj (keyedG.inj (gK_of hc) (by rw [e]; exact gK_of hd))

/-- What a map of gaps reads as: each stands there as often as in the list. -/
def GapsIs (D : DataW Unit) (T : Int × Int → Int) : Prop := ∀ c, GOk c → D.atKey (gK c) (.lit (.int .i64 0)) = .lit (.int .i64 (T c))
theorem GapsIs.empty : GapsIs (.map []) (fun _ => 0) := fun c _ => by simp [DataW.atKey]
theorem GapsIs.look {D : DataW Unit} {T : Int × Int → Int} (h : GapsIs D T) {c : Int × Int} (hc : GOk c) {x : Int} (hat : D.atKey (gK c) (.lit (.int .i64 0)) = .lit (.int .i64 x)) : x = T c := by
  rw [h c hc] at hat
  simp only [DataW.lit.injEq, Lit.int.injEq, true_and] at hat
  exact hat.symm
theorem GapsIs.put {D : DataW Unit} {T T' : Int × Int → Int} (h : GapsIs D T) (hD : IsMap D) {c : Int × Int} (hc : GOk c) {x : Int} (h1 : T' c = x) (h2 : ∀ d, d ≠ c → T' d = T d) : GapsIs (D.put (gK c) (.lit (.int .i64 x))) T' := fun d hd => by
  by_cases e : d = c
  · subst e
    rw [atKey_put_same hD (gK_lit hc), h1]
  · rw [atKey_put_other (fun e1 => e (gK_inj hd hc e1)), h d hd, h2 d e]
theorem GapsIs.congr {D : DataW Unit} {T T' : Int × Int → Int} (h : GapsIs D T) (e : ∀ c, T c = T' c) : GapsIs D T' := fun c hc => by rw [h c hc, e]

theorem zero3' (u : World) : (zeroValue 3).run Tryd.prog u = .ok (.int .i64 0) u := by kernel_rfl
theorem entry_any {w : World} {b n : Nat} {D : DataW Unit} (hown : w.ownsMap Tryd.prog 55 (plainElem Tryd.prog 3) b n D) (hn : n < maxLen) {key : Value} {kl : Lit} (hkey : keyOf Tryd.prog 55 key = some kl) :
    ∃ (c : Int) (v0 : Value) (st : Nat) (w1 : World), D.atKey kl (.lit (.int .i64 0)) = .lit (.int .i64 c) ∧ (Instr.lookup 62 (.map (some b)) key false).run Tryd.prog w = .ok (.int .i64 c) w ∧
      (Instr.mapEntry 62 (.map (some b)) key).run Tryd.prog w = .ok (.tuple #[v0, goInt st]) w1 ∧ (Instr.lookup 62 (.map (some b)) key false).run Tryd.prog w1 = .ok (.int .i64 c) w1 ∧ w.grownBy w1 (some b) ∧ w1.heap.size = w.heap.size ∧
      ∀ val : Int, (Lit.int .i64 val).wf = true → ∃ w2, (Instr.entryStore 62 (.map (some b)) (goInt st) (.int .i64 val)).run Tryd.prog w1 = .ok () w2 ∧ w2.ownsMap Tryd.prog 55 (plainElem Tryd.prog 3) b (n + 1) (D.put kl (.lit (.int .i64 val))) ∧ w.grownBy w2 (some b) ∧ w2.heap.size = w.heap.size := by
  obtain ⟨c, hlook, hat, hwc⟩ := hown.lookup_int keyedG undM und3 (zero3' w) hkey
  obtain ⟨es, clock, hb, F, hs, hD⟩ := id hown
  obtain ⟨v0, st, es1, clock1, hrun, _, hst⟩ := entry_then_store keyLawG undM zero3' hb F hkey
  have hgrow : ∀ o, w.grownBy (setBlock w b o) (some b) := fun o => ⟨rfl, rfl, rfl, by simp [setBlock], fun i _ hi => heap_setBlock_other hb _ (fun e => hi (by rw [e]))⟩
  have hsame := heap_setBlock_same hb (.map es1 clock1)
  -- the look-up behind the entry
  have hlook2 : (Instr.lookup 62 (.map (some b)) key false).run Tryd.prog (setBlock w b (.map es1 clock1)) = .ok (.int .i64 c) (setBlock w b (.map es1 clock1)) := by
    rcases keyLawG.find w hkey es.toList F.keys with ⟨h1, h2⟩ | ⟨j, e0, h1, h2, h3⟩
    · have hr : (Instr.mapEntry 62 (.map (some b)) key).run Tryd.prog w = .ok (.tuple #[.int .i64 0, goInt clock]) (setBlock w b (.map (es.push ⟨key, .int .i64 0, clock⟩) (clock + 1))) := by
        simp [Instr.mapEntry, run_underlying undM, MapKept.run_getObj_map hb, keyLawG.check w false hkey, h1, MapKept.run_setObj_map _ hb, Result.andThen, setBlock]
      have hu : (Instr.mapUpdate 62 (.map (some b)) key (.int .i64 0)).run Tryd.prog w = .ok () (setBlock w b (.map (es.push ⟨key, .int .i64 0, clock⟩) (clock + 1))) := by
        simp [Instr.mapUpdate, run_underlying undM, MapKept.run_getObj_map hb, keyLawG.check w false hkey, h1, MapKept.run_setObj_map _ hb, Result.andThen, setBlock]
      rw [hrun] at hr
      have ew := (Result.ok.inj hr).2
      rw [ew]
      obtain ⟨w', hu', hown', _⟩ := hown.update keyedG undM hn hkey (plainElem_int (H := Unit) und3 (a := 0) (by decide))
      rw [hu] at hu'
      have ew' := (Result.ok.inj hu').2
      rw [← ew'] at hown'
      obtain ⟨c', hl', hat', _⟩ := hown'.lookup_int keyedG undM und3 (zero3' _) hkey
      rw [atKey_put_same hown.isMap (keyedG.key hkey)] at hat'
      have hc' : c' = 0 := by
        simp only [DataW.lit.injEq, Lit.int.injEq, true_and] at hat'
        exact hat'.symm
      have hc0 : c = 0 := by
        rcases Maps.fit_look false keyedG undM (zero3' w) hb F hkey with ⟨hl0, _, _⟩ | ⟨e0, y, he, hk, _⟩
        · rw [hlook] at hl0
          have := (Result.ok.inj hl0).1
          simpa using this
        · exact absurd hk (h2 e0 he)
      rw [hl', hc', hc0]
    · have hj : es[j]? = some e0 := by simpa using h2
      have hsm : es.modify j (fun e => { e with key := key }) = es := by
        apply Array.ext'
        rw [Array.toList_modify, modify_eq_set _ _ _ _ h2]
        have : ({ e0 with key := key } : MapEntry) = e0 := by rw [← h3]
        rw [this]
        exact set_self _ _ _ h2
      have hr : (Instr.mapEntry 62 (.map (some b)) key).run Tryd.prog w = .ok (.tuple #[e0.val, goInt e0.born]) (setBlock w b (.map es clock)) := by
        simp [Instr.mapEntry, run_underlying undM, MapKept.run_getObj_map hb, keyLawG.check w false hkey, h1, hj, h3, keyLawG.stays w hkey, hsm, MapKept.run_setObj_map _ hb, Result.andThen, setBlock]
      rw [hrun] at hr
      have ew := (Result.ok.inj hr).2
      rw [ew]
      have hown' : (setBlock w b (.map es clock)).ownsMap Tryd.prog 55 (plainElem Tryd.prog 3) b n D := ⟨es, clock, heap_setBlock_same hb _, F, hs, hD⟩
      obtain ⟨c', hl', hat', _⟩ := hown'.lookup_int keyedG undM und3 (zero3' _) hkey
      rw [hat] at hat'
      have hc' : c = c' := by
        simp only [DataW.lit.injEq, Lit.int.injEq, true_and] at hat'
        exact hat'
      rw [hl', hc']
  refine ⟨c, v0, st, _, hat, hlook, hrun, hlook2, hgrow _, by simp [setBlock], fun val hval => ?_⟩
  obtain ⟨es', clock', hr1, hr2⟩ := hst _ (.int .i64 val) hsame
  obtain ⟨w', hu', hown', _⟩ := hown.update keyedG undM hn hkey (plainElem_int (H := Unit) und3 hval)
  rw [hr2] at hu'
  have ew' := (Result.ok.inj hu').2
  rw [← ew'] at hown'
  have hss : setBlock (setBlock w b (.map es1 clock1)) b (.map es' clock') = setBlock w b (.map es' clock') := by simp [setBlock]
  rw [hss] at hr1
  exact ⟨_, hr1, hown', hgrow _, by simp [setBlock]⟩

end Go.Proofs.YtmiinhbffiodmaaDoor

namespace Go.Proofs.YtmiinhbffiodmaaDoor
open Go.RowKit Go.Maps

/-- How often a gap is there when these have come. -/
def upT (T : Int × Int → Int) (L : List (Int × Int)) (c : Int × Int) : Int := T c + (L.count c : Int)
theorem upT_nil (T : Int × Int → Int) : upT T [] = T := by funext c; simp [upT]
theorem upT_app (T : Int × Int → Int) (L M : List (Int × Int)) (c : Int × Int) : upT T (L ++ M) c = upT (upT T L) M c := by simp [upT, List.count_append]; omega
/-- Was none of them there, and none twice? -/
def ftB (T : Int × Int → Int) (L : List (Int × Int)) : Nat → Bool
  | 0 => true
  | i + 1 => ftB T L i && (upT T (L.take i) (L.getD i (0, 0)) == 0)
/-- The gaps that a number makes at the end of a list. -/
def nwG (ap : Int → Int → Int × Int) (l : List Int) (x : Int) : List (Int × Int) := (List.range l.length).map fun (i : Nat) => ap ((l.length : Int) - (i : Int)) (x - l.getD i 0)
theorem nwG_len (ap : Int → Int → Int × Int) (l : List Int) (x : Int) : (nwG ap l x).length = l.length := by simp [nwG]
theorem nwG_at (ap : Int → Int → Int × Int) (l : List Int) (x : Int) {i : Nat} (h : i < l.length) : (nwG ap l x).getD i (0, 0) = ap ((l.length : Int) - (i : Int)) (x - l.getD i 0) := by
  simp [nwG, h]
theorem take_upG {L : List (Int × Int)} {i : Nat} (h : i < L.length) : L.take (i + 1) = L.take i ++ [L.getD i (0, 0)] := by
  rw [List.take_add_one, List.getElem?_eq_getElem h, List.getD_eq_getElem?_getD, List.getElem?_eq_getElem h]; rfl
theorem upT_put {T : Int × Int → Int} {L : List (Int × Int)} {i : Nat} (h : i < L.length) : upT T (L.take (i + 1)) (L.getD i (0, 0)) = upT T (L.take i) (L.getD i (0, 0)) + 1 ∧ ∀ d, d ≠ L.getD i (0, 0) → upT T (L.take (i + 1)) d = upT T (L.take i) d := by
  rw [take_upG h]
  refine ⟨?_, fun d hd => ?_⟩
  · unfold upT
    rw [List.count_append, List.count_singleton]
    simp
    omega
  · unfold upT
    rw [List.count_append, List.count_singleton, if_neg (by simpa using fun h => hd h.symm)]
    simp
theorem upT_bd {T : Int × Int → Int} {L : List (Int × Int)} {i : Nat} (c : Int × Int) (hT : 0 ≤ T c ∧ T c ≤ 100000) (hL : L.length ≤ 100) : 0 ≤ upT T (L.take i) c ∧ upT T (L.take i) c ≤ 100100 := by
  have := List.count_le_length (a := c) (l := L.take i)
  rw [List.length_take] at this
  unfold upT
  omega
theorem wfI {x : Int} (h1 : -9223372036854775808 ≤ x) (h2 : x ≤ 9223372036854775807) : (Lit.int .i64 x).wf = true := WalkArith.wf_i64 (by omega)

/-- A function that tells a gap. -/
structure ApF (f : Nat) (ap : Int → Int → Int × Int) : Prop where
  ent : ∀ args w, (callFunc f args).run Tryd.prog w = .ok (.enter f args) w
  call : ∀ (a b : Int) (W : World), Calls Tryd.prog f #[.int .i64 a, .int .i64 b] W fun e w' => e = .returned (gV (ap a b)) ∧ Below W.heap.size W w'
  ok : ∀ a b : Int, -9223372036854775808 ≤ a → a ≤ 9223372036854775807 → -9223372036854775808 ≤ b → b ≤ 9223372036854775807 → GOk (ap a b)
/-- The row in memory: its block g, its map's block m, its function f, its numbers l, how often the gaps are there T. -/
structure RowS (w : World) (base g m f : Nat) (l : List Int) (T : Int × Int → Int) (n : Nat) : Prop where
  box : ∃ v, w.heap[g]? = some (.cells #[v, .map (some m), .func (.func f) #[] #[]] 64 (0, 0)) ∧ w.ownsRow base 3 1 v l.length (l.map (Value.int .i64))
  map : ∃ D : DataW Unit, w.ownsMap Tryd.prog 55 (plainElem Tryd.prog 3) m n D ∧ GapsIs D T
  bg : base ≤ g
  bm : base ≤ m
/-- What is kept: all below the base, and whatever is neither numbers, nor a map, nor the row's own block. -/
structure Kr (base g : Nat) (w w' : World) : Prop where
  os : w'.os = w.os
  tape : w'.tape = w.tape
  output : w'.output = w.output
  size : w.heap.size ≤ w'.heap.size
  low : ∀ k, k < base → w'.heap[k]? = w.heap[k]?
  cells : ∀ k c t fz, w.heap[k]? = some (.cells c t fz) → t ≠ 3 → k ≠ g → w'.heap[k]? = w.heap[k]?
theorem Kr.refl (base g : Nat) (w : World) : Kr base g w w := ⟨rfl, rfl, rfl, Nat.le_refl _, fun _ _ => rfl, fun _ _ _ _ _ _ _ => rfl⟩
theorem Kr.trans {base g : Nat} {a b c : World} (h : Kr base g a b) (k : Kr base g b c) : Kr base g a c :=
  ⟨k.os.trans h.os, k.tape.trans h.tape, k.output.trans h.output, Nat.le_trans h.size k.size, fun j hj => (k.low j hj).trans (h.low j hj), fun j cs t fz e ht hg => by
    have e1 := h.cells j cs t fz e ht hg
    exact (k.cells j cs t fz (e1.trans e) ht hg).trans e1⟩
theorem blk_lt {w : World} {k : Nat} {o : Obj} (h : w.heap[k]? = some o) : k < w.heap.size := (Array.getElem?_eq_some_iff.1 h).1
theorem Kr.of_below {base g : Nat} {w w' : World} (hb : base ≤ w.heap.size) (h : Below w.heap.size w w') : Kr base g w w' :=
  ⟨h.os, h.tape, h.output, h.size, fun k hk => h.block k (by omega), fun k c t fz e _ _ => h.block k (blk_lt e)⟩
theorem Kr.below {base g : Nat} {w w' : World} (h : Kr base g w w') : Below base w w' := ⟨h.os, h.tape, h.output, h.size, h.low⟩
theorem grownB {A B : World} (h : Below A.heap.size A B) : A.grownBy B none := ⟨h.os, h.tape, h.output, h.size, fun k hk _ => h.block k hk⟩
theorem RowS.below {w w' : World} {base g m f n : Nat} {l : List Int} {T : Int × Int → Int} (h : RowS w base g m f l T n) (hb : Below w.heap.size w w') : RowS w' base g m f l T n := by
  obtain ⟨v, h1, h2⟩ := h.box
  obtain ⟨D, h3, h4⟩ := h.map
  exact ⟨⟨v, (hb.block g (blk_lt h1)).trans h1, h2.kept (grownB hb) (Classical.em _)⟩, ⟨D, h3.kept (grownB hb) (by simp), h4⟩, h.bg, h.bm⟩
set_option maxHeartbeats 1000000 in
theorem byMuch_any (a b : Int) (w : World) : Calls Tryd.prog 32 #[.int .i64 a, .int .i64 b] w fun e w' => e = .returned (gV (0, b)) ∧ Below w.heap.size w w' := by
  go_enter Tryd.func32, Tryd.ntmps32
  go_wp2
  exact bodyPost_ret (v := gV (0, b)) (by simp [results, Tryd.results32, go_sem, gV]) rfl ⟨rfl, (Below.refl _ _).alloc (Nat.le_refl _) _⟩
theorem byMuch_ap : ApF 32 (fun _ b => (0, b)) := ⟨fun _ _ => rfl, fun a b W => byMuch_any a b W, fun _ b _ _ h1 h2 => ⟨by show (Lit.int .i64 0).wf = true; decide, wfI h1 h2⟩⟩
set_option maxHeartbeats 1000000 in
theorem newRow_any (f : Nat) (w : World) : Calls Tryd.prog 38 #[.func (.func f) #[] #[]] w fun e w' => e = .returned (.pointer (some ⟨w.heap.size + 1, 0, none⟩)) ∧ RowS w' w.heap.size (w.heap.size + 1) w.heap.size f [] (fun _ => 0) 0 ∧ Below w.heap.size w w' := by
  have hmm := @run_makeMap Tryd.prog
  go_enter Tryd.func38, Tryd.ntmps38
  go_wp2
  go_ret
  have e1 : (w.alloc (.map #[] 0)).heap.size = w.heap.size + 1 := by simp
  have hb1 : Below w.heap.size w (w.alloc (.map #[] 0)) := (Below.refl _ _).alloc (Nat.le_refl _) _
  have hb2 : Below (w.heap.size + 1) (w.alloc (.map #[] 0)) ((w.alloc (.map #[] 0)).alloc (.cells #[.slice none 0 0, .map (some w.heap.size), .func (.func f) #[] #[]] 64)) := by
    have := (Below.refl (w.alloc (.map #[] 0)).heap.size (w.alloc (.map #[] 0))).alloc (Nat.le_refl _) (.cells #[.slice none 0 0, .map (some w.heap.size), .func (.func f) #[] #[]] 64)
    rwa [e1] at this
  refine ⟨rfl, ⟨⟨.slice none 0 0, ?_, World.ownsRow_nil _ _ _ _⟩, ⟨.map [], ?_, GapsIs.empty⟩, by omega, Nat.le_refl _⟩, hb1.trans (hb2.mono (by omega))⟩
  · have := heap_alloc_new (w.alloc (.map #[] 0)) (.cells #[.slice none 0 0, .map (some w.heap.size), .func (.func f) #[] #[]] 64)
    rwa [e1] at this
  · exact (World.ownsMap_made w _ _ _).kept (grownB (by rw [e1]; exact hb2)) (by simp)

theorem step_store_row {P : Program} {ops : Array Oper} {o : Oper} {a : Act} {w : World} {K : Act → World → Prop} {Q : Exit → Act → World → Prop} {E : Prop} (hgd : o.guard = none) (ty : TypeId) (x y : Operand) (ho : o.op = .store ty x y)
    (g : Nat) (cells : Array Value) (hx : a.eval x = .pointer (some ⟨g, 0, none⟩)) (hy : a.eval y = .agg cells)
    (t : TypeId) (old : Array Value) (hg : w.heap[g]? = some (.cells old t (0, 0))) (hi : (P.info? ty).map (·.size) = some cells.size)
    (hold : old.size = cells.size) (h1 : cells.all (·.oneCell') = true)
    (h : K (a.put o.dst undef) (w.setRow g cells)) : if Region.wanted o (yielded ops a.tmps) = true then Oper.wp P o a w K Q else E := by
  have hw : Region.wanted o (yielded ops a.tmps) = true := by simp [Region.wanted, hgd]
  rw [if_pos hw]
  exact wp_store_row ty x y ho g cells hx hy t old hg hi hold h1 h
theorem range_setRow {w : World} {b o g : Nat} {cs : List Value} (h : w.rangeAt b o cs) (hne : b ≠ g) (cells : Array Value) : (w.setRow g cells).rangeAt b o cs := fun j v hv => (World.cell?_of_block (w := w) (a := ⟨b, o + j, none⟩) (setRow_other w g b cells hne)).trans (h j v hv)

end Go.Proofs.YtmiinhbffiodmaaDoor

namespace Go.Proofs.YtmiinhbffiodmaaDoor
open Go.RowKit Go.Maps

theorem infG (c : Int × Int) : (Tryd.prog.info? 55).map (·.size) = some ([.int .i64 c.1, .int .i64 c.2] : List Value).length := by kernel_rfl
theorem one2 (a b : Int) : (#[.int .i64 a, .int .i64 b] : Array Value).all (·.oneCell') = true := by
  have h1 : ∀ z : Int, (Value.int .i64 z).oneCell' = true := fun _ => rfl
  simp [h1]
theorem gBox {w : World} {a : Nat} {c : Int × Int} (h : w.heap[a]? = some (.cells #[.int .i64 c.1, .int .i64 c.2] 55 (0, 0))) : w.rangeAt a 0 [.int .i64 c.1, .int .i64 c.2] := by
  intro j z hz
  rw [Nat.zero_add, cell_of_row w _ j _ _ _ h]
  simpa using hz
theorem rowAt {w : World} {base : Nat} {a : Option Addr} {k cap : Nat} {l : List Int} (h : w.ownsRow base 3 1 (.slice a k cap) l.length (l.map (Value.int .i64))) (hk : l.length = k) {i : Nat} (hi : i < k) : ∃ b, a = some ⟨b, 0, none⟩ ∧ w.cell? ⟨b, i, none⟩ = some (.int .i64 (l.getD i 0)) := by
  subst hk
  obtain ⟨h1, ⟨h2, h3⟩ | ⟨g, c, cur, e, hb, hg, hc, hm, hs, ht⟩⟩ := h
  · omega
  · simp only [Value.slice.injEq] at e
    refine ⟨g, e.1, ?_⟩
    rw [cell_of_row w g i cur 3 (0, 0) hg, ← Array.getElem?_toList]
    have e2 : (cur.toList.take (l.length * 1))[i]? = some (.int .i64 (l.getD i 0)) := by
      rw [ht, List.getElem?_map, List.getElem?_eq_getElem hi, List.getD_eq_getElem?_getD, List.getElem?_eq_getElem hi]; rfl
    rwa [List.getElem?_take, if_pos (by omega)] at e2
theorem own_ne {w : World} {base g k : Nat} {v : Value} {xs : List Value} {cs : Array Value} {t : TypeId} (h : w.ownsRow base 3 1 v k xs) (hg : w.heap[g]? = some (.cells cs t (0, 0))) (ht : t ≠ 3) : v.ownBlock ≠ some g := fun e => by
  obtain ⟨h1, ⟨h2, h3⟩ | ⟨b, c, cur, rfl, hb, hb2, _⟩⟩ := h
  · subst h2; cases e
  · simp only [Value.ownBlock, Option.some.injEq] at e
    subst e
    rw [hb2] at hg
    simp only [Option.some.injEq, Obj.cells.injEq] at hg
    exact ht hg.2.1.symm
theorem own_kind {w : World} {base k : Nat} {v : Value} {xs : List Value} (h : w.ownsRow base 3 1 v k xs) : ∀ g, v.ownBlock = some g → ∃ c fz, w.heap[g]? = some (.cells c 3 fz) := fun g e => by
  obtain ⟨h1, ⟨h2, h3⟩ | ⟨b, c, cur, rfl, hb, hb2, _⟩⟩ := h
  · subst h2; cases e
  · simp only [Value.ownBlock, Option.some.injEq] at e
    subst e
    exact ⟨_, _, hb2⟩
theorem own_nemap {w : World} {base m n k : Nat} {v : Value} {xs : List Value} {D : DataW Unit} (h : w.ownsRow base 3 1 v k xs) (hm : w.ownsMap Tryd.prog 55 (plainElem Tryd.prog 3) m n D) : v.ownBlock ≠ some m := fun e => by
  obtain ⟨es, clock, hb0, _⟩ := hm
  obtain ⟨h1, ⟨h2, h3⟩ | ⟨b, c, cur, rfl, hb, hb2, _⟩⟩ := h
  · subst h2; cases e
  · simp only [Value.ownBlock, Option.some.injEq] at e
    subst e
    rw [hb2] at hb0
    cases hb0
theorem map_neg {w : World} {g m n : Nat} {D : DataW Unit} {cs : Array Value} {t : TypeId} {fz : Nat × Nat} (hm : w.ownsMap Tryd.prog 55 (plainElem Tryd.prog 3) m n D) (hg : w.heap[g]? = some (.cells cs t fz)) : g ≠ m := fun e => by
  obtain ⟨es, clock, hb0, _⟩ := hm
  subst e
  rw [hg] at hb0
  cases hb0
theorem Kr.grown {base g m n : Nat} {w w1 w2 : World} {D : DataW Unit} (h : Kr base g w w1) (hm : w1.ownsMap Tryd.prog 55 (plainElem Tryd.prog 3) m n D) (hbm : base ≤ m) (hg : w1.grownBy w2 (some m)) : Kr base g w w2 :=
  h.trans ⟨hg.os, hg.tape, hg.output, hg.size, fun k hk => by
    by_cases e : k < w1.heap.size
    · exact hg.block k e (by simp; omega)
    · have := blk_lt hm.choose_spec.choose_spec.1
      omega, fun k c t fz e _ _ => hg.block k (blk_lt e) (by simpa using map_neg hm e)⟩
theorem bsetRw {B g : Nat} {w0 w : World} (hb : Below B w0 w) (hBg : B ≤ g) (cs : Array Value) : Below B w0 (w.setRow g cs) :=
  ⟨hb.os, hb.tape, hb.output, by simpa using hb.size, fun k hk => (setRow_other w g k cs (by omega)).trans (hb.block k hk)⟩
theorem Kr.drew {base g : Nat} {w w1 : World} (h : Kr base g w w1) : Kr base g w w1.drew := h.trans ⟨rfl, rfl, rfl, Nat.le_refl _, fun _ _ => rfl, fun _ _ _ _ _ _ _ => rfl⟩

set_option maxRecDepth 100000 in
set_option maxHeartbeats 16000000 in
theorem put_any (ap : Int → Int → Int × Int) (base g m f n : Nat) (l : List Int) (T : Int × Int → Int) (x : Int) (w : World) (hA : ApF f ap) (hR : RowS w base g m f l T n)
    (hx : 0 ≤ x ∧ x ≤ 1000000000) (hl : ∀ i, i < l.length → 0 ≤ l.getD i 0 ∧ l.getD i 0 ≤ 1000000000) (h60 : l.length ≤ 60) (hT : ∀ c, 0 ≤ T c ∧ T c ≤ 100000) (hn : n ≤ 1000000000000000000) :
    Calls Tryd.prog 39 #[.pointer (some ⟨g, 0, none⟩), .int .i64 x] w fun e w' => e = .returned (.bool (ftB T (nwG ap l x) l.length)) ∧ RowS w' base g m f (l ++ [x]) (upT T (nwG ap l x)) (n + l.length) ∧ Kr base g w w' := by
  obtain ⟨v, hbox, hown⟩ := hR.box
  obtain ⟨D0, hmap, hgap⟩ := hR.map
  have hbg := hR.bg
  have hbm := hR.bm
  obtain ⟨va, vc, rfl⟩ := own_form hown
  have c0 : w.cell? ⟨g, 0, none⟩ = some (.slice va l.length vc) := by rw [cell_of_row w g 0 _ _ _ hbox]; rfl
  obtain ⟨k, Hk⟩ : ∃ k, Hid (l.length = k) := ⟨_, rfl⟩
  have HLEN : Hid ((nwG ap l x).length = k) := (nwG_len ap l x).trans Hk.out
  have HNW : Hid (∀ i : Nat, i < k → (nwG ap l x).getD i (0, 0) = ap ((k : Int) - (i : Int)) (x - l.getD i 0)) := fun i hi => by
    have h := nwG_at ap l x (i := i) (by rw [Hk.out]; exact hi)
    rw [Hk.out] at h; exact h
  have HLB : Hid (∀ i : Nat, i < k → 0 ≤ l.getD i 0 ∧ l.getD i 0 ≤ 1000000000) := fun i hi => hl i (by rw [Hk.out]; exact hi)
  obtain ⟨L, HL⟩ : ∃ L, Hid (nwG ap l x = L) := ⟨_, rfl⟩
  rw [HL.out] at HLEN HNW ⊢
  have HBD : Hid (∀ (i : Nat) (c : Int × Int), 0 ≤ upT T (L.take i) c ∧ upT T (L.take i) c ≤ 100100) := fun i c => upT_bd c (hT c) (by have := HLEN.out; have := Hk.out; omega)
  have HRW : Hid (∀ W : World, W.ownsRow base 3 1 (.slice va k vc) l.length (l.map (Value.int .i64)) → ∀ i : Nat, i < k → ∃ b, va = some ⟨b, 0, none⟩ ∧ W.cell? ⟨b, i, none⟩ = some (.int .i64 (l.getD i 0))) := fun W hW i hi => rowAt hW Hk.out hi
  have HAP : Hid (ApF f ap) := hA
  have eg := hA.ent
  rw [Hk.out] at c0 hbox hown h60 ⊢
  have hown1 : w.ownsRow base 3 1 (.slice va k vc) l.length (l.map (Value.int .i64)) := by rw [Hk.out]; exact hown
  clear hR hl hT hA hown
  go_enter Tryd.func39, Tryd.ntmps39
  go_wp2
  go_loopw [5, 14] (fun fv iv wr => ∃ (i : Nat) (D : DataW Unit), iv = .int .i64 (i : Int) ∧ i ≤ k ∧ fv = .bool (ftB T L i) ∧ wr.heap[g]? = some (.cells #[.slice va k vc, .map (some m), .func (.func f) #[] #[]] 64 (0, 0)) ∧
      wr.ownsRow base 3 1 (.slice va k vc) l.length (l.map (Value.int .i64)) ∧ wr.ownsMap Tryd.prog 55 (plainElem Tryd.prog 3) m (n + i) D ∧ Hid (GapsIs D (upT T (L.take i))) ∧ Hid (Kr base g w wr)) (fun _ iv _ => (k - intOf iv).toNat)
  case atStart => exact ⟨0, D0, rfl, by omega, rfl, hbox, hown1, hmap, (show GapsIs D0 (upT T (L.take 0)) by rw [List.take_zero, upT_nil]; exact hgap), (show Kr base g w w from Kr.refl _ _ _)⟩
  case round =>
    clear c0 hbox hown1 hmap hgap
    obtain ⟨i, D, rfl, hi, rfl, hbox, hown, hmap, HG, HK⟩ := hrel
    by_cases hlt : i < k
    · have hdi : decide ((i : Int) < (k : Int)) = true := by simp; omega
      have hii : (i : Int) < (k : Int) := by omega
      obtain ⟨b, rfl, hcell⟩ := HRW.out _ hown i hlt
      have hyb := HLB.out i hlt
      have HC := HNW.out i hlt
      obtain ⟨y, Hy⟩ : ∃ y, Hid (l.getD i 0 = y) := ⟨_, rfl⟩
      rw [Hy.out] at hcell hyb HC
      have hc0 : wr.cell? ⟨g, 0, none⟩ = some (.slice (some ⟨b, 0, none⟩) k vc) := by rw [cell_of_row wr g 0 _ _ _ hbox]; rfl
      have hc1 : wr.cell? ⟨g, 1, none⟩ = some (.map (some m)) := by rw [cell_of_row wr g 1 _ _ _ hbox]; rfl
      have hc2 : wr.cell? ⟨g, 2, none⟩ = some (.func (.func f) #[] #[]) := by rw [cell_of_row wr g 2 _ _ _ hbox]; rfl
      have hgl := blk_lt hbox
      have HS : Hid (∀ W, Below wr.heap.size wr W → W.cell? ⟨g, 0, none⟩ = some (.slice (some ⟨b, 0, none⟩) k vc) ∧ W.cell? ⟨g, 2, none⟩ = some (.func (.func f) #[] #[])) := fun W hW => ⟨(hW.cell (p := ⟨g, 0, none⟩) hgl).trans hc0, (hW.cell (p := ⟨g, 2, none⟩) hgl).trans hc2⟩
      have C := fun W => HAP.out.call ((k : Int) - (i : Int)) (x - y) W
      have hok := HAP.out.ok ((k : Int) - (i : Int)) (x - y) (by omega) (by omega) (by omega) (by omega)
      obtain ⟨⟨c1, c2⟩, Hc⟩ : ∃ c, Hid (ap ((k : Int) - (i : Int)) (x - y) = c) := ⟨_, rfl⟩
      rw [Hc.out] at hok HC
      have C : ∀ W, Calls Tryd.prog f #[.int .i64 ((k : Int) - (i : Int)), .int .i64 (x - y)] W fun e w' => e = .returned (.agg #[.int .i64 c1, .int .i64 c2]) ∧ Below W.heap.size W w' := fun W => by
        have := C W
        rw [Hc.out] at this
        exact this
      have HOK : Hid (GOk (c1, c2)) := hok
      have HCC : Hid (L.getD i (0, 0) = (c1, c2)) := HC
      obtain ⟨hx1, hx2⟩ := hx
      obtain ⟨hy1, hy2⟩ := hyb
      clear hok HC hc0 hc2
      go_wp2
      refine wp_region_noPanic ?_
      refine wp_region_held_drew (S := fun w' => w'.cell? ⟨g, 0, none⟩ = some (.slice (some ⟨b, 0, none⟩) k vc) ∧ w'.cell? ⟨g, 2, none⟩ = some (.func (.func f) #[] #[])) (by kernel_rfl) (HS.out _ (Below.refl _ wr).drew) (fun hSx => ?_)
      refine wpAnyH_take (i := 0) (v := .pointer (some ⟨g, 0, none⟩)) rfl (by kernel_rfl) (by kernel_rfl) (by kernel_rfl) (fun _ _ _ h => h) (Or.inl ⟨by rfl, fun w' hSw => by (try dsimp only at hSw); obtain ⟨hs0, hs1⟩ := hSw; go_simp⟩) hSx ?_
      try simp only [Act.put, List.setIfInBounds_toArray]
      refine wpAnyH_take (i := 1) (v := .pointer (some ⟨g, 0, none⟩)) rfl (by kernel_rfl) (by kernel_rfl) (by kernel_rfl) (fun _ _ _ h => h) (Or.inl ⟨by rfl, fun w' hSw => by (try dsimp only at hSw); obtain ⟨hs0, hs1⟩ := hSw; go_simp⟩) hSx ?_
      try simp only [Act.put]
      refine wpAnyH_take (i := 2) (v := .pointer (some ⟨g, 2, none⟩)) rfl (by kernel_rfl) (by kernel_rfl) (by kernel_rfl) (fun _ _ _ h => h) (Or.inl ⟨by rfl, fun w' hSw => by (try dsimp only at hSw); obtain ⟨hs0, hs1⟩ := hSw; go_simp⟩) hSx ?_
      try simp only [Act.put]
      refine wpAnyH_take (i := 3) (v := .func (.func f) #[] #[]) rfl (by kernel_rfl) (by kernel_rfl) (by kernel_rfl) (fun _ _ _ h => h) (Or.inl ⟨by rfl, fun w' hSw => by (try dsimp only at hSw); obtain ⟨hs0, hs1⟩ := hSw; go_simp⟩) hSx ?_
      try simp only [Act.put]
      refine wpAnyH_take (i := 4) (v := .pointer (some ⟨g, 0, none⟩)) rfl (by kernel_rfl) (by kernel_rfl) (by kernel_rfl) (fun _ _ _ h => h) (Or.inl ⟨by rfl, fun w' hSw => by (try dsimp only at hSw); obtain ⟨hs0, hs1⟩ := hSw; go_simp⟩) hSx ?_
      try simp only [Act.put]
      refine wpAnyH_take (i := 5) (v := .pointer (some ⟨g, 0, none⟩)) rfl (by kernel_rfl) (by kernel_rfl) (by kernel_rfl) (fun _ _ _ h => h) (Or.inl ⟨by rfl, fun w' hSw => by (try dsimp only at hSw); obtain ⟨hs0, hs1⟩ := hSw; go_simp⟩) hSx ?_
      try simp only [Act.put]
      refine wpAnyH_take (i := 6) (v := .pointer (some ⟨g, 0, none⟩)) rfl (by kernel_rfl) (by kernel_rfl) (by kernel_rfl) (fun _ _ _ h => h) (Or.inl ⟨by rfl, fun w' hSw => by (try dsimp only at hSw); obtain ⟨hs0, hs1⟩ := hSw; go_simp⟩) hSx ?_
      try simp only [Act.put]
      refine wpAnyH_take (i := 7) (v := .slice (some ⟨b, 0, none⟩) k vc) rfl (by kernel_rfl) (by kernel_rfl) (by kernel_rfl) (fun _ _ _ h => h) (Or.inl ⟨by rfl, fun w' hSw => by (try dsimp only at hSw); obtain ⟨hs0, hs1⟩ := hSw; go_simp⟩) hSx ?_
      try simp only [Act.put]
      refine wpAnyH_take (i := 8) (v := .int .i64 (k : Int)) rfl (by kernel_rfl) (by kernel_rfl) (by kernel_rfl) (fun _ _ _ h => h) (Or.inl ⟨by rfl, fun w' hSw => by (try dsimp only at hSw); obtain ⟨hs0, hs1⟩ := hSw; go_simp⟩) hSx ?_
      try simp only [Act.put]
      refine wpAnyH_take (i := 9) (v := .int .i64 (i : Int)) rfl (by kernel_rfl) (by kernel_rfl) (by kernel_rfl) (fun _ _ _ h => h) (Or.inl ⟨by rfl, fun w' hSw => by (try dsimp only at hSw); obtain ⟨hs0, hs1⟩ := hSw; go_simp⟩) hSx ?_
      try simp only [Act.put]
      refine wpAnyH_take (i := 10) (v := .int .i64 ((k : Int) - (i : Int))) rfl (by kernel_rfl) (by kernel_rfl) (by kernel_rfl) (fun _ _ _ h => h) (Or.inl ⟨by rfl, fun w' hSw => by (try dsimp only at hSw); obtain ⟨hs0, hs1⟩ := hSw; go_simp; rw [IntKind.wrap_i64]; omega⟩) hSx ?_
      try simp only [Act.put]
      refine wpAnyH_take (i := 11) (v := .int .i64 x) rfl (by kernel_rfl) (by kernel_rfl) (by kernel_rfl) (fun _ _ _ h => h) (Or.inl ⟨by rfl, fun w' hSw => by (try dsimp only at hSw); obtain ⟨hs0, hs1⟩ := hSw; go_simp⟩) hSx ?_
      try simp only [Act.put]
      refine wpAnyH_take (i := 12) (v := .int .i64 y) rfl (by kernel_rfl) (by kernel_rfl) (by kernel_rfl) (fun _ _ _ h => h) (Or.inl ⟨by rfl, fun w' hSw => by (try dsimp only at hSw); obtain ⟨hs0, hs1⟩ := hSw; go_simp⟩) hSx ?_
      try simp only [Act.put]
      refine wpAnyH_take (i := 13) (v := .int .i64 (x - y)) rfl (by kernel_rfl) (by kernel_rfl) (by kernel_rfl) (fun _ _ _ h => h) (Or.inl ⟨by rfl, fun w' hSw => by (try dsimp only at hSw); obtain ⟨hs0, hs1⟩ := hSw; go_simp; rw [IntKind.wrap_i64]; omega⟩) hSx ?_
      try simp only [Act.put]
      have d0 : Below wr.heap.size wr wr.drew := (Below.refl _ wr).drew
      refine wpAnyH_ready (rs := [14, 15]) (by kernel_rfl) (by simp) ?_
      refine (AllReadyH.cons rfl (fun J hJ => ?_) (AllReadyH.cons rfl (fun J hJ => ?_) AllReadyH.nil))
      · go_simp
        go_at_fn f
        refine (C _).mono ?_
        rintro e w1 ⟨rfl, b1⟩
        have d1 : Below wr.heap.size wr w1 := Below.next d0 b1
        go_wp2_with fail
        refine hJ.out _ _ (HS.out _ d1) (fun hSx => ?_)
        clear hJ J
        try simp only [Act.put, List.setIfInBounds_toArray, List.set_cons_zero, List.set_cons_succ]
        refine wpAnyH_ready (rs := [15]) (by kernel_rfl) (by simp) ?_
        refine (AllReadyH.cons rfl (fun J hJ => ?_) AllReadyH.nil)
        go_simp
        have d2 : Below wr.heap.size wr (w1.alloc (.cells #[.int .i64 0, .int .i64 0] 55)) := d1.alloc d1.size _
        refine hJ.out _ _ (HS.out _ d2) (fun hSx => ?_)
        clear hJ J
        try simp only [Act.put, List.setIfInBounds_toArray, List.set_cons_zero, List.set_cons_succ]
        refine wpAnyH_ready (rs := [16]) (by kernel_rfl) (by simp) ?_
        refine (AllReadyH.cons rfl (fun J hJ => ?_) AllReadyH.nil)
        have hz := heap_alloc_new w1 (.cells #[.int .i64 0, .int .i64 0] 55)
        have d3 : Below wr.heap.size wr ((w1.alloc (.cells #[.int .i64 0, .int .i64 0] 55)).setRow w1.heap.size #[.int .i64 c1, .int .i64 c2]) := bsetRw d2 d1.size _
        have hG5 : ((w1.alloc (.cells #[.int .i64 0, .int .i64 0] 55)).setRow w1.heap.size #[.int .i64 c1, .int .i64 c2]).heap[w1.heap.size]? = some (.cells #[.int .i64 c1, .int .i64 c2] 55 (0, 0)) := setRow_heap _ _ _ _ _ _ hz
        refine step_store_row (by rfl) 55 _ _ (by rfl) w1.heap.size #[.int .i64 c1, .int .i64 c2] (by rfl) (by rfl) 55 _ hz (infG (c1, c2)) (by simp) (one2 _ _) ?_
        refine hJ.out _ _ (HS.out _ d3) (fun hSx => ?_)
        clear hJ J
        try simp only [Act.put, List.setIfInBounds_toArray]
        refine wpAnyH_done (by kernel_rfl) ?_ _
        refine NoPanic.normal ?_
        have ha5 : wr.heap.size ≤ w1.heap.size := d1.size
        obtain ⟨a5, Ha5⟩ : ∃ a, Hid (w1.heap.size = a) := ⟨_, rfl⟩
        obtain ⟨W5, HW5⟩ : ∃ W, Hid ((w1.alloc (.cells #[.int .i64 0, .int .i64 0] 55)).setRow w1.heap.size #[.int .i64 c1, .int .i64 c2] = W) := ⟨_, rfl⟩
        rw [HW5.out] at hG5 d3 ⊢
        rw [Ha5.out] at hG5 ha5 ⊢
        clear hSx hz d2 d1 b1 d0 C HS Ha5 HW5
        have hb5 := (d3.block g hgl).trans hbox
        have ho5 := hown.kept (grownB d3) (Classical.em _)
        have hm5 := hmap.kept (grownB d3) (by simp)
        have HK5 : Hid (Kr base g w W5) := HK.out.trans (Kr.of_below (Nat.le_trans hbg (Nat.le_of_lt hgl)) d3)
        have q0 : W5.cell? ⟨a5, 0, none⟩ = some (.int .i64 c1) := gBox (c := (c1, c2)) hG5 0 _ rfl
        have q1 : W5.cell? ⟨a5, 1, none⟩ = some (.int .i64 c2) := gBox (c := (c1, c2)) hG5 1 _ rfl
        have HG5 : Hid (W5.heap[a5]? = some (.cells #[.int .i64 c1, .int .i64 c2] 55 (0, 0))) := hG5
        have hc15 : W5.cell? ⟨g, 1, none⟩ = some (.map (some m)) := by rw [cell_of_row W5 g 1 _ _ _ hb5]; rfl
        have HB5 : Hid (W5.heap[g]? = some (.cells #[.slice (some ⟨b, 0, none⟩) k vc, .map (some m), .func (.func f) #[] #[]] 64 (0, 0))) := hb5
        have HO5 : Hid (W5.ownsRow base 3 1 (.slice (some ⟨b, 0, none⟩) k vc) l.length (l.map (Value.int .i64))) := ho5
        have HM5 : Hid (W5.ownsMap Tryd.prog 55 (plainElem Tryd.prog 3) m (n + i) D) := hm5
        clear hbox hown hmap HK d3 hc1 hgl ha5 hcell hG5 hb5 ho5 hm5
        obtain ⟨t, HTX⟩ : ∃ t, Hid (t = upT T (L.take i) (c1, c2)) := ⟨_, rfl⟩
        have htb := HBD.out i (c1, c2)
        rw [← HTX.out] at htb
        have hlk : ∀ nn, (Instr.lookup 62 (.map (some m)) (.agg #[.int .i64 c1, .int .i64 c2]) false).run Tryd.prog (W5.drewN nn) = .ok (.int .i64 t) (W5.drewN nn) := fun nn => by
          have hmn : (W5.drewN nn).ownsMap Tryd.prog 55 (plainElem Tryd.prog 3) m (n + i) D := HM5.out
          obtain ⟨t', h1, h2, h3⟩ := hmn.lookup_int keyedG undM und3 (zero3' _) (gK_of HOK.out)
          rw [HTX.out, ← HG.out.look HOK.out h2]
          exact h1
        obtain ⟨fb, Hfb⟩ : ∃ fb, Hid (ftB T L i = fb) := ⟨_, rfl⟩
        have HFT : Hid (ftB T L (i + 1) = (fb && (t == 0))) := by show (ftB T L i && _) = _; rw [HCC.out, HTX.out, Hfb.out]
        rw [Hfb.out]
        obtain ⟨ht0, ht1⟩ := htb
        go_wp2
        cases fb
        · go_quiet (fail)
          obtain ⟨W6, HW6⟩ : ∃ W, Hid (W5.drewN nq = W) := ⟨_, rfl⟩
          have hb5 : W6.heap[g]? = some (.cells #[.slice (some ⟨b, 0, none⟩) k vc, .map (some m), .func (.func f) #[] #[]] 64 (0, 0)) := by rw [← HW6.out]; exact HB5.out
          have hG5 : W6.heap[a5]? = some (.cells #[.int .i64 c1, .int .i64 c2] 55 (0, 0)) := by rw [← HW6.out]; exact HG5.out
          have ho5 : W6.ownsRow base 3 1 (.slice (some ⟨b, 0, none⟩) k vc) l.length (l.map (Value.int .i64)) := by rw [← HW6.out]; exact HO5.out
          have hm5 : W6.ownsMap Tryd.prog 55 (plainElem Tryd.prog 3) m (n + i) D := by rw [← HW6.out]; exact HM5.out
          have HK6 : Hid (Kr base g w W6) := by show Kr base g w W6; rw [← HW6.out]; exact HK5.out.trans ⟨rfl, rfl, rfl, Nat.le_refl _, fun _ _ => rfl, fun _ _ _ _ _ _ _ => rfl⟩
          have hR5 : W6.rangeAt a5 0 [.int .i64 c1, .int .i64 c2] := gBox (c := (c1, c2)) hG5
          have hc16 : W6.cell? ⟨g, 1, none⟩ = some (.map (some m)) := by rw [cell_of_row W6 g 1 _ _ _ hb5]; rfl
          rw [HW6.out]
          have hgm := map_neg hm5 hb5
          have ham := map_neg hm5 hG5
          clear hlk q0 q1 hc15 HW6 HB5 HG5 HO5 HM5 HK5
          obtain ⟨c, v0, st, w4, hat7, hlook, hent, hlook2, hg4, hs4, hst⟩ := entry_any hm5.drew (by unfold maxLen; omega) (gK_of HOK.out)
          obtain rfl : t = c := HTX.out.trans (HG.out.look HOK.out hat7).symm
          obtain ⟨w5, hsto, hm6, hg5, hs5⟩ := hst (t + 1) (wfI (by omega) (by omega))
          rw [show goInt (st : Int) = Value.int .i64 (st : Int) from rfl] at hsto hent
          rw [show gV (c1, c2) = .agg #[.int .i64 c1, .int .i64 c2] from rfl] at hlook hent hlook2
          have hb6 := (hg5.block g (by exact blk_lt hb5) (by simpa using hgm)).trans hb5
          have ho6 := ho5.drew.kept hg5 (.inr (own_nemap ho5 hm5))
          have HK7 : Hid (Kr base g w w5) := HK6.out.drew.grown hm5.drew hbm hg5
          have hR4 : w4.rangeAt a5 0 [.int .i64 c1, .int .i64 c2] ∧ w4.cell? ⟨g, 1, none⟩ = some (.map (some m)) := ⟨fun j z hz => (World.cell?_of_block (w := W6.drew) (a := ⟨a5, 0 + j, none⟩) (hg4.block a5 (by exact blk_lt hG5) (by simpa using ham))).trans (hR5 j z hz), (World.cell?_of_block (w := W6.drew) (a := ⟨g, 1, none⟩) (hg4.block g (by exact blk_lt hb5) (by simpa using hgm))).trans hc16⟩
          have hR6 : w5.rangeAt a5 0 [.int .i64 c1, .int .i64 c2] ∧ w5.cell? ⟨g, 1, none⟩ = some (.map (some m)) := ⟨fun j z hz => (World.cell?_of_block (w := W6.drew) (a := ⟨a5, 0 + j, none⟩) (hg5.block a5 (by exact blk_lt hG5) (by simpa using ham))).trans (hR5 j z hz), (World.cell?_of_block (w := W6.drew) (a := ⟨g, 1, none⟩) (hg5.block g (by exact blk_lt hb5) (by simpa using hgm))).trans hc16⟩
          have hGP := HG.out.put (T' := upT T (L.take (i + 1))) hm5.isMap HOK.out (x := t + 1) (by rw [← HCC.out, (upT_put (by rw [HLEN.out]; exact hlt)).1, HCC.out, ← HTX.out]) (fun d hd => (upT_put (by rw [HLEN.out]; exact hlt)).2 d (by rw [HCC.out]; exact hd))
          obtain ⟨D6, HD6⟩ : ∃ D6, Hid (D.put (gK (c1, c2)) (.lit (.int .i64 (t + 1))) = D6) := ⟨_, rfl⟩
          rw [HD6.out] at hGP hm6
          have HGP : Hid (GapsIs D6 (upT T (L.take (i + 1)))) := hGP
          clear hat7 hst hGP hg4 hg5 hs4 hs5 HG hm5 HK6 ho5 hb5 hG5 HD6
          go_wp2
          refine wp_region_noPanic ?_
          refine wp_region_held_drew (S := fun w' => w'.rangeAt a5 0 [.int .i64 c1, .int .i64 c2] ∧ w'.cell? ⟨g, 1, none⟩ = some (.map (some m))) (by kernel_rfl) (⟨hR5, hc16⟩) (fun hSx => ?_)
          refine wpAnyH_take (i := 0) (v := .pointer (some ⟨g, 0, none⟩)) rfl (by kernel_rfl) (by kernel_rfl) (by kernel_rfl) (fun _ _ _ h => h) (Or.inl ⟨by rfl, fun w' hSw => by (try dsimp only at hSw); obtain ⟨hs0, hs1⟩ := hSw; go_simp⟩) hSx ?_
          try simp only [Act.put, List.setIfInBounds_toArray]
          refine wpAnyH_take (i := 1) (v := .pointer (some ⟨g, 0, none⟩)) rfl (by kernel_rfl) (by kernel_rfl) (by kernel_rfl) (fun _ _ _ h => h) (Or.inl ⟨by rfl, fun w' hSw => by (try dsimp only at hSw); obtain ⟨hs0, hs1⟩ := hSw; go_simp⟩) hSx ?_
          try simp only [Act.put]
          refine wpAnyH_take (i := 2) (v := .pointer (some ⟨g, 1, none⟩)) rfl (by kernel_rfl) (by kernel_rfl) (by kernel_rfl) (fun _ _ _ h => h) (Or.inl ⟨by rfl, fun w' hSw => by (try dsimp only at hSw); obtain ⟨hs0, hs1⟩ := hSw; go_simp⟩) hSx ?_
          try simp only [Act.put]
          refine wpAnyH_take (i := 3) (v := .map (some m)) rfl (by kernel_rfl) (by kernel_rfl) (by kernel_rfl) (fun _ _ _ h => h) (Or.inl ⟨by rfl, fun w' hSw => by (try dsimp only at hSw); obtain ⟨hs0, hs1⟩ := hSw; go_simp⟩) hSx ?_
          try simp only [Act.put]
          refine wpAnyH_take (i := 4) (v := .agg #[.int .i64 c1, .int .i64 c2]) rfl (by kernel_rfl) (by kernel_rfl) (by kernel_rfl) (fun _ _ _ h => h) (yieldsIf_load_mid (by rfl) 55 _ rfl a5 0 rfl [.int .i64 c1, .int .i64 c2] _ (fun w' h => h.1) Tryd.underlying55 rfl (infG (c1, c2))) hSx ?_
          try simp only [Act.put]
          refine wpAnyH_ready (rs := [5, 7]) (by kernel_rfl) (by simp) ?_
          refine (AllReadyH.cons rfl (fun J hJ => ?_) (AllReadyH.cons rfl (fun J hJ => ?_) AllReadyH.nil))
          · go_simp
            refine hJ.out _ _ (hSx) (fun hSx => ?_)
            clear hJ J
            try simp only [Act.put, List.setIfInBounds_toArray, List.set_cons_zero, List.set_cons_succ]
            refine wpAnyH_take (i := 6) (v := .int .i64 (t + 1)) rfl (by kernel_rfl) (by kernel_rfl) (by kernel_rfl) (fun _ _ _ h => h) (Or.inl ⟨by rfl, fun w' hSw => by (try dsimp only at hSw); go_simp; rw [IntKind.wrap_i64]; omega⟩) hSx ?_
            try simp only [Act.put, List.setIfInBounds_toArray]
            refine wpAnyH_ready (rs := [7]) (by kernel_rfl) (by simp) ?_
            refine (AllReadyH.cons rfl (fun J hJ => ?_) AllReadyH.nil)
            go_simp
            refine hJ.out _ _ (hR4) (fun hSx => ?_)
            clear hJ J
            try simp only [Act.put, List.setIfInBounds_toArray, List.set_cons_zero, List.set_cons_succ]
            refine wpAnyH_take (i := 8) (v := .int .i64 (st : Int)) rfl (by kernel_rfl) (by kernel_rfl) (by kernel_rfl) (fun _ _ _ h => h) (Or.inl ⟨by rfl, fun w' hSw => by (try dsimp only at hSw); go_simp⟩) hSx ?_
            try simp only [Act.put, List.setIfInBounds_toArray]
            refine wpAnyH_ready (rs := [9]) (by kernel_rfl) (by simp) ?_
            refine (AllReadyH.cons rfl (fun J hJ => ?_) AllReadyH.nil)
            go_simp
            refine hJ.out _ _ (hR6) (fun hSx => ?_)
            clear hJ J
            try simp only [Act.put, List.setIfInBounds_toArray, List.set_cons_zero, List.set_cons_succ]
            refine wpAnyH_done (by kernel_rfl) ?_ _
            refine NoPanic.normal ?_
            clear hlook hent hlook2 hsto hSx
            go_wp2
            go_roundw
            case rel => exact ⟨i + 1, D6, by go_num, by omega, by rw [HFT.out]; simp, hb6, ho6, hm6, HGP, HK7⟩
            case measure => simp [intOf]; omega
          · go_simp
            refine hJ.out _ _ (hR4) (fun hSx => ?_)
            clear hJ J
            try simp only [Act.put, List.setIfInBounds_toArray, List.set_cons_zero, List.set_cons_succ]
            refine wpAnyH_take (i := 8) (v := .int .i64 (st : Int)) rfl (by kernel_rfl) (by kernel_rfl) (by kernel_rfl) (fun _ _ _ h => h) (Or.inl ⟨by rfl, fun w' hSw => by (try dsimp only at hSw); go_simp⟩) hSx ?_
            try simp only [Act.put, List.setIfInBounds_toArray]
            refine wpAnyH_ready (rs := [5]) (by kernel_rfl) (by simp) ?_
            refine (AllReadyH.cons rfl (fun J hJ => ?_) AllReadyH.nil)
            go_simp
            refine hJ.out _ _ (hR4) (fun hSx => ?_)
            clear hJ J
            try simp only [Act.put, List.setIfInBounds_toArray, List.set_cons_zero, List.set_cons_succ]
            refine wpAnyH_take (i := 6) (v := .int .i64 (t + 1)) rfl (by kernel_rfl) (by kernel_rfl) (by kernel_rfl) (fun _ _ _ h => h) (Or.inl ⟨by rfl, fun w' hSw => by (try dsimp only at hSw); go_simp; rw [IntKind.wrap_i64]; omega⟩) hSx ?_
            try simp only [Act.put, List.setIfInBounds_toArray]
            refine wpAnyH_ready (rs := [9]) (by kernel_rfl) (by simp) ?_
            refine (AllReadyH.cons rfl (fun J hJ => ?_) AllReadyH.nil)
            go_simp
            refine hJ.out _ _ (hR6) (fun hSx => ?_)
            clear hJ J
            try simp only [Act.put, List.setIfInBounds_toArray, List.set_cons_zero, List.set_cons_succ]
            refine wpAnyH_done (by kernel_rfl) ?_ _
            refine NoPanic.normal ?_
            clear hlook hent hlook2 hsto hSx
            go_wp2
            go_roundw
            case rel => exact ⟨i + 1, D6, by go_num, by omega, by rw [HFT.out]; simp, hb6, ho6, hm6, HGP, HK7⟩
            case measure => simp [intOf]; omega
        · go_quiet (fail)
          obtain ⟨W6, HW6⟩ : ∃ W, Hid (W5.drewN nq = W) := ⟨_, rfl⟩
          have hb5 : W6.heap[g]? = some (.cells #[.slice (some ⟨b, 0, none⟩) k vc, .map (some m), .func (.func f) #[] #[]] 64 (0, 0)) := by rw [← HW6.out]; exact HB5.out
          have hG5 : W6.heap[a5]? = some (.cells #[.int .i64 c1, .int .i64 c2] 55 (0, 0)) := by rw [← HW6.out]; exact HG5.out
          have ho5 : W6.ownsRow base 3 1 (.slice (some ⟨b, 0, none⟩) k vc) l.length (l.map (Value.int .i64)) := by rw [← HW6.out]; exact HO5.out
          have hm5 : W6.ownsMap Tryd.prog 55 (plainElem Tryd.prog 3) m (n + i) D := by rw [← HW6.out]; exact HM5.out
          have HK6 : Hid (Kr base g w W6) := by show Kr base g w W6; rw [← HW6.out]; exact HK5.out.trans ⟨rfl, rfl, rfl, Nat.le_refl _, fun _ _ => rfl, fun _ _ _ _ _ _ _ => rfl⟩
          have hR5 : W6.rangeAt a5 0 [.int .i64 c1, .int .i64 c2] := gBox (c := (c1, c2)) hG5
          have hc16 : W6.cell? ⟨g, 1, none⟩ = some (.map (some m)) := by rw [cell_of_row W6 g 1 _ _ _ hb5]; rfl
          rw [HW6.out]
          have hgm := map_neg hm5 hb5
          have ham := map_neg hm5 hG5
          clear hlk q0 q1 hc15 HW6 HB5 HG5 HO5 HM5 HK5
          obtain ⟨c, v0, st, w4, hat7, hlook, hent, hlook2, hg4, hs4, hst⟩ := entry_any hm5.drew (by unfold maxLen; omega) (gK_of HOK.out)
          obtain rfl : t = c := HTX.out.trans (HG.out.look HOK.out hat7).symm
          obtain ⟨w5, hsto, hm6, hg5, hs5⟩ := hst (t + 1) (wfI (by omega) (by omega))
          rw [show goInt (st : Int) = Value.int .i64 (st : Int) from rfl] at hsto hent
          rw [show gV (c1, c2) = .agg #[.int .i64 c1, .int .i64 c2] from rfl] at hlook hent hlook2
          have hb6 := (hg5.block g (by exact blk_lt hb5) (by simpa using hgm)).trans hb5
          have ho6 := ho5.drew.kept hg5 (.inr (own_nemap ho5 hm5))
          have HK7 : Hid (Kr base g w w5) := HK6.out.drew.grown hm5.drew hbm hg5
          have hR4 : w4.rangeAt a5 0 [.int .i64 c1, .int .i64 c2] ∧ w4.cell? ⟨g, 1, none⟩ = some (.map (some m)) := ⟨fun j z hz => (World.cell?_of_block (w := W6.drew) (a := ⟨a5, 0 + j, none⟩) (hg4.block a5 (by exact blk_lt hG5) (by simpa using ham))).trans (hR5 j z hz), (World.cell?_of_block (w := W6.drew) (a := ⟨g, 1, none⟩) (hg4.block g (by exact blk_lt hb5) (by simpa using hgm))).trans hc16⟩
          have hR6 : w5.rangeAt a5 0 [.int .i64 c1, .int .i64 c2] ∧ w5.cell? ⟨g, 1, none⟩ = some (.map (some m)) := ⟨fun j z hz => (World.cell?_of_block (w := W6.drew) (a := ⟨a5, 0 + j, none⟩) (hg5.block a5 (by exact blk_lt hG5) (by simpa using ham))).trans (hR5 j z hz), (World.cell?_of_block (w := W6.drew) (a := ⟨g, 1, none⟩) (hg5.block g (by exact blk_lt hb5) (by simpa using hgm))).trans hc16⟩
          have hGP := HG.out.put (T' := upT T (L.take (i + 1))) hm5.isMap HOK.out (x := t + 1) (by rw [← HCC.out, (upT_put (by rw [HLEN.out]; exact hlt)).1, HCC.out, ← HTX.out]) (fun d hd => (upT_put (by rw [HLEN.out]; exact hlt)).2 d (by rw [HCC.out]; exact hd))
          obtain ⟨D6, HD6⟩ : ∃ D6, Hid (D.put (gK (c1, c2)) (.lit (.int .i64 (t + 1))) = D6) := ⟨_, rfl⟩
          rw [HD6.out] at hGP hm6
          have HGP : Hid (GapsIs D6 (upT T (L.take (i + 1)))) := hGP
          clear hat7 hst hGP hg4 hg5 hs4 hs5 HG hm5 HK6 ho5 hb5 hG5 HD6
          go_wp2
          refine wp_region_noPanic ?_
          refine wp_region_held_drew (S := fun w' => w'.rangeAt a5 0 [.int .i64 c1, .int .i64 c2] ∧ w'.cell? ⟨g, 1, none⟩ = some (.map (some m))) (by kernel_rfl) (⟨hR5, hc16⟩) (fun hSx => ?_)
          refine wpAnyH_take (i := 0) (v := .pointer (some ⟨g, 0, none⟩)) rfl (by kernel_rfl) (by kernel_rfl) (by kernel_rfl) (fun _ _ _ h => h) (Or.inl ⟨by rfl, fun w' hSw => by (try dsimp only at hSw); obtain ⟨hs0, hs1⟩ := hSw; go_simp⟩) hSx ?_
          try simp only [Act.put, List.setIfInBounds_toArray]
          refine wpAnyH_take (i := 1) (v := .pointer (some ⟨g, 0, none⟩)) rfl (by kernel_rfl) (by kernel_rfl) (by kernel_rfl) (fun _ _ _ h => h) (Or.inl ⟨by rfl, fun w' hSw => by (try dsimp only at hSw); obtain ⟨hs0, hs1⟩ := hSw; go_simp⟩) hSx ?_
          try simp only [Act.put]
          refine wpAnyH_take (i := 2) (v := .pointer (some ⟨g, 1, none⟩)) rfl (by kernel_rfl) (by kernel_rfl) (by kernel_rfl) (fun _ _ _ h => h) (Or.inl ⟨by rfl, fun w' hSw => by (try dsimp only at hSw); obtain ⟨hs0, hs1⟩ := hSw; go_simp⟩) hSx ?_
          try simp only [Act.put]
          refine wpAnyH_take (i := 3) (v := .map (some m)) rfl (by kernel_rfl) (by kernel_rfl) (by kernel_rfl) (fun _ _ _ h => h) (Or.inl ⟨by rfl, fun w' hSw => by (try dsimp only at hSw); obtain ⟨hs0, hs1⟩ := hSw; go_simp⟩) hSx ?_
          try simp only [Act.put]
          refine wpAnyH_take (i := 4) (v := .agg #[.int .i64 c1, .int .i64 c2]) rfl (by kernel_rfl) (by kernel_rfl) (by kernel_rfl) (fun _ _ _ h => h) (yieldsIf_load_mid (by rfl) 55 _ rfl a5 0 rfl [.int .i64 c1, .int .i64 c2] _ (fun w' h => h.1) Tryd.underlying55 rfl (infG (c1, c2))) hSx ?_
          try simp only [Act.put]
          refine wpAnyH_ready (rs := [5, 7]) (by kernel_rfl) (by simp) ?_
          refine (AllReadyH.cons rfl (fun J hJ => ?_) (AllReadyH.cons rfl (fun J hJ => ?_) AllReadyH.nil))
          · go_simp
            refine hJ.out _ _ (hSx) (fun hSx => ?_)
            clear hJ J
            try simp only [Act.put, List.setIfInBounds_toArray, List.set_cons_zero, List.set_cons_succ]
            refine wpAnyH_take (i := 6) (v := .int .i64 (t + 1)) rfl (by kernel_rfl) (by kernel_rfl) (by kernel_rfl) (fun _ _ _ h => h) (Or.inl ⟨by rfl, fun w' hSw => by (try dsimp only at hSw); go_simp; rw [IntKind.wrap_i64]; omega⟩) hSx ?_
            try simp only [Act.put, List.setIfInBounds_toArray]
            refine wpAnyH_ready (rs := [7]) (by kernel_rfl) (by simp) ?_
            refine (AllReadyH.cons rfl (fun J hJ => ?_) AllReadyH.nil)
            go_simp
            refine hJ.out _ _ (hR4) (fun hSx => ?_)
            clear hJ J
            try simp only [Act.put, List.setIfInBounds_toArray, List.set_cons_zero, List.set_cons_succ]
            refine wpAnyH_take (i := 8) (v := .int .i64 (st : Int)) rfl (by kernel_rfl) (by kernel_rfl) (by kernel_rfl) (fun _ _ _ h => h) (Or.inl ⟨by rfl, fun w' hSw => by (try dsimp only at hSw); go_simp⟩) hSx ?_
            try simp only [Act.put, List.setIfInBounds_toArray]
            refine wpAnyH_ready (rs := [9]) (by kernel_rfl) (by simp) ?_
            refine (AllReadyH.cons rfl (fun J hJ => ?_) AllReadyH.nil)
            go_simp
            refine hJ.out _ _ (hR6) (fun hSx => ?_)
            clear hJ J
            try simp only [Act.put, List.setIfInBounds_toArray, List.set_cons_zero, List.set_cons_succ]
            refine wpAnyH_done (by kernel_rfl) ?_ _
            refine NoPanic.normal ?_
            clear hlook hent hlook2 hsto hSx
            go_wp2
            go_roundw
            case rel => exact ⟨i + 1, D6, by go_num, by omega, by rw [HFT.out]; simp, hb6, ho6, hm6, HGP, HK7⟩
            case measure => simp [intOf]; omega
          · go_simp
            refine hJ.out _ _ (hR4) (fun hSx => ?_)
            clear hJ J
            try simp only [Act.put, List.setIfInBounds_toArray, List.set_cons_zero, List.set_cons_succ]
            refine wpAnyH_take (i := 8) (v := .int .i64 (st : Int)) rfl (by kernel_rfl) (by kernel_rfl) (by kernel_rfl) (fun _ _ _ h => h) (Or.inl ⟨by rfl, fun w' hSw => by (try dsimp only at hSw); go_simp⟩) hSx ?_
            try simp only [Act.put, List.setIfInBounds_toArray]
            refine wpAnyH_ready (rs := [5]) (by kernel_rfl) (by simp) ?_
            refine (AllReadyH.cons rfl (fun J hJ => ?_) AllReadyH.nil)
            go_simp
            refine hJ.out _ _ (hR4) (fun hSx => ?_)
            clear hJ J
            try simp only [Act.put, List.setIfInBounds_toArray, List.set_cons_zero, List.set_cons_succ]
            refine wpAnyH_take (i := 6) (v := .int .i64 (t + 1)) rfl (by kernel_rfl) (by kernel_rfl) (by kernel_rfl) (fun _ _ _ h => h) (Or.inl ⟨by rfl, fun w' hSw => by (try dsimp only at hSw); go_simp; rw [IntKind.wrap_i64]; omega⟩) hSx ?_
            try simp only [Act.put, List.setIfInBounds_toArray]
            refine wpAnyH_ready (rs := [9]) (by kernel_rfl) (by simp) ?_
            refine (AllReadyH.cons rfl (fun J hJ => ?_) AllReadyH.nil)
            go_simp
            refine hJ.out _ _ (hR6) (fun hSx => ?_)
            clear hJ J
            try simp only [Act.put, List.setIfInBounds_toArray, List.set_cons_zero, List.set_cons_succ]
            refine wpAnyH_done (by kernel_rfl) ?_ _
            refine NoPanic.normal ?_
            clear hlook hent hlook2 hsto hSx
            go_wp2
            go_roundw
            case rel => exact ⟨i + 1, D6, by go_num, by omega, by rw [HFT.out]; simp, hb6, ho6, hm6, HGP, HK7⟩
            case measure => simp [intOf]; omega
      · go_simp
        have d1 : Below wr.heap.size wr (wr.drew.alloc (.cells #[.int .i64 0, .int .i64 0] 55)) := d0.alloc (by exact Nat.le_refl _) _
        refine hJ.out _ _ (HS.out _ d1) (fun hSx => ?_)
        clear hJ J
        try simp only [Act.put, List.setIfInBounds_toArray, List.set_cons_zero, List.set_cons_succ]
        refine wpAnyH_ready (rs := [14]) (by kernel_rfl) (by simp) ?_
        refine (AllReadyH.cons rfl (fun J hJ => ?_) AllReadyH.nil)
        go_simp
        go_at_fn f
        refine (C _).mono ?_
        rintro e w1 ⟨rfl, b1⟩
        have hz : w1.heap[wr.heap.size]? = some (.cells #[.int .i64 0, .int .i64 0] 55) := (b1.block wr.heap.size (by simp)).trans (heap_alloc_new wr.drew _)
        have d2 : Below wr.heap.size wr w1 := Below.next d1 b1
        go_wp2_with fail
        refine hJ.out _ _ (HS.out _ d2) (fun hSx => ?_)
        clear hJ J
        try simp only [Act.put, List.setIfInBounds_toArray, List.set_cons_zero, List.set_cons_succ]
        refine wpAnyH_ready (rs := [16]) (by kernel_rfl) (by simp) ?_
        refine (AllReadyH.cons rfl (fun J hJ => ?_) AllReadyH.nil)
        have d3 : Below wr.heap.size wr (w1.setRow wr.heap.size #[.int .i64 c1, .int .i64 c2]) := bsetRw d2 (Nat.le_refl _) _
        have hG5 : (w1.setRow wr.heap.size #[.int .i64 c1, .int .i64 c2]).heap[wr.heap.size]? = some (.cells #[.int .i64 c1, .int .i64 c2] 55 (0, 0)) := setRow_heap _ _ _ _ _ _ hz
        refine step_store_row (by rfl) 55 _ _ (by rfl) wr.heap.size #[.int .i64 c1, .int .i64 c2] (by rfl) (by rfl) 55 _ hz (infG (c1, c2)) (by simp) (one2 _ _) ?_
        refine hJ.out _ _ (HS.out _ d3) (fun hSx => ?_)
        clear hJ J
        try simp only [Act.put, List.setIfInBounds_toArray]
        refine wpAnyH_done (by kernel_rfl) ?_ _
        refine NoPanic.normal ?_
        have ha5 : wr.heap.size ≤ wr.heap.size := Nat.le_refl _
        obtain ⟨W5, HW5⟩ : ∃ W, Hid (w1.setRow wr.heap.size #[.int .i64 c1, .int .i64 c2] = W) := ⟨_, rfl⟩
        rw [HW5.out] at hG5 d3 ⊢
        obtain ⟨a5, Ha5⟩ : ∃ a, Hid (wr.heap.size = a) := ⟨_, rfl⟩
        have ha5 : wr.heap.size ≤ a5 := by rw [Ha5.out]; exact Nat.le_refl _
        rw [Ha5.out] at hG5
        rw [Ha5.out]
        clear hSx hz d2 d1 b1 d0 C HS Ha5 HW5
        have hb5 := (d3.block g hgl).trans hbox
        have ho5 := hown.kept (grownB d3) (Classical.em _)
        have hm5 := hmap.kept (grownB d3) (by simp)
        have HK5 : Hid (Kr base g w W5) := HK.out.trans (Kr.of_below (Nat.le_trans hbg (Nat.le_of_lt hgl)) d3)
        have q0 : W5.cell? ⟨a5, 0, none⟩ = some (.int .i64 c1) := gBox (c := (c1, c2)) hG5 0 _ rfl
        have q1 : W5.cell? ⟨a5, 1, none⟩ = some (.int .i64 c2) := gBox (c := (c1, c2)) hG5 1 _ rfl
        have HG5 : Hid (W5.heap[a5]? = some (.cells #[.int .i64 c1, .int .i64 c2] 55 (0, 0))) := hG5
        have hc15 : W5.cell? ⟨g, 1, none⟩ = some (.map (some m)) := by rw [cell_of_row W5 g 1 _ _ _ hb5]; rfl
        have HB5 : Hid (W5.heap[g]? = some (.cells #[.slice (some ⟨b, 0, none⟩) k vc, .map (some m), .func (.func f) #[] #[]] 64 (0, 0))) := hb5
        have HO5 : Hid (W5.ownsRow base 3 1 (.slice (some ⟨b, 0, none⟩) k vc) l.length (l.map (Value.int .i64))) := ho5
        have HM5 : Hid (W5.ownsMap Tryd.prog 55 (plainElem Tryd.prog 3) m (n + i) D) := hm5
        clear hbox hown hmap HK d3 hc1 hgl ha5 hcell hG5 hb5 ho5 hm5
        obtain ⟨t, HTX⟩ : ∃ t, Hid (t = upT T (L.take i) (c1, c2)) := ⟨_, rfl⟩
        have htb := HBD.out i (c1, c2)
        rw [← HTX.out] at htb
        have hlk : ∀ nn, (Instr.lookup 62 (.map (some m)) (.agg #[.int .i64 c1, .int .i64 c2]) false).run Tryd.prog (W5.drewN nn) = .ok (.int .i64 t) (W5.drewN nn) := fun nn => by
          have hmn : (W5.drewN nn).ownsMap Tryd.prog 55 (plainElem Tryd.prog 3) m (n + i) D := HM5.out
          obtain ⟨t', h1, h2, h3⟩ := hmn.lookup_int keyedG undM und3 (zero3' _) (gK_of HOK.out)
          rw [HTX.out, ← HG.out.look HOK.out h2]
          exact h1
        obtain ⟨fb, Hfb⟩ : ∃ fb, Hid (ftB T L i = fb) := ⟨_, rfl⟩
        have HFT : Hid (ftB T L (i + 1) = (fb && (t == 0))) := by show (ftB T L i && _) = _; rw [HCC.out, HTX.out, Hfb.out]
        rw [Hfb.out]
        obtain ⟨ht0, ht1⟩ := htb
        go_wp2
        cases fb
        · go_quiet (fail)
          obtain ⟨W6, HW6⟩ : ∃ W, Hid (W5.drewN nq = W) := ⟨_, rfl⟩
          have hb5 : W6.heap[g]? = some (.cells #[.slice (some ⟨b, 0, none⟩) k vc, .map (some m), .func (.func f) #[] #[]] 64 (0, 0)) := by rw [← HW6.out]; exact HB5.out
          have hG5 : W6.heap[a5]? = some (.cells #[.int .i64 c1, .int .i64 c2] 55 (0, 0)) := by rw [← HW6.out]; exact HG5.out
          have ho5 : W6.ownsRow base 3 1 (.slice (some ⟨b, 0, none⟩) k vc) l.length (l.map (Value.int .i64)) := by rw [← HW6.out]; exact HO5.out
          have hm5 : W6.ownsMap Tryd.prog 55 (plainElem Tryd.prog 3) m (n + i) D := by rw [← HW6.out]; exact HM5.out
          have HK6 : Hid (Kr base g w W6) := by show Kr base g w W6; rw [← HW6.out]; exact HK5.out.trans ⟨rfl, rfl, rfl, Nat.le_refl _, fun _ _ => rfl, fun _ _ _ _ _ _ _ => rfl⟩
          have hR5 : W6.rangeAt a5 0 [.int .i64 c1, .int .i64 c2] := gBox (c := (c1, c2)) hG5
          have hc16 : W6.cell? ⟨g, 1, none⟩ = some (.map (some m)) := by rw [cell_of_row W6 g 1 _ _ _ hb5]; rfl
          rw [HW6.out]
          have hgm := map_neg hm5 hb5
          have ham := map_neg hm5 hG5
          clear hlk q0 q1 hc15 HW6 HB5 HG5 HO5 HM5 HK5
          obtain ⟨c, v0, st, w4, hat7, hlook, hent, hlook2, hg4, hs4, hst⟩ := entry_any hm5.drew (by unfold maxLen; omega) (gK_of HOK.out)
          obtain rfl : t = c := HTX.out.trans (HG.out.look HOK.out hat7).symm
          obtain ⟨w5, hsto, hm6, hg5, hs5⟩ := hst (t + 1) (wfI (by omega) (by omega))
          rw [show goInt (st : Int) = Value.int .i64 (st : Int) from rfl] at hsto hent
          rw [show gV (c1, c2) = .agg #[.int .i64 c1, .int .i64 c2] from rfl] at hlook hent hlook2
          have hb6 := (hg5.block g (by exact blk_lt hb5) (by simpa using hgm)).trans hb5
          have ho6 := ho5.drew.kept hg5 (.inr (own_nemap ho5 hm5))
          have HK7 : Hid (Kr base g w w5) := HK6.out.drew.grown hm5.drew hbm hg5
          have hR4 : w4.rangeAt a5 0 [.int .i64 c1, .int .i64 c2] ∧ w4.cell? ⟨g, 1, none⟩ = some (.map (some m)) := ⟨fun j z hz => (World.cell?_of_block (w := W6.drew) (a := ⟨a5, 0 + j, none⟩) (hg4.block a5 (by exact blk_lt hG5) (by simpa using ham))).trans (hR5 j z hz), (World.cell?_of_block (w := W6.drew) (a := ⟨g, 1, none⟩) (hg4.block g (by exact blk_lt hb5) (by simpa using hgm))).trans hc16⟩
          have hR6 : w5.rangeAt a5 0 [.int .i64 c1, .int .i64 c2] ∧ w5.cell? ⟨g, 1, none⟩ = some (.map (some m)) := ⟨fun j z hz => (World.cell?_of_block (w := W6.drew) (a := ⟨a5, 0 + j, none⟩) (hg5.block a5 (by exact blk_lt hG5) (by simpa using ham))).trans (hR5 j z hz), (World.cell?_of_block (w := W6.drew) (a := ⟨g, 1, none⟩) (hg5.block g (by exact blk_lt hb5) (by simpa using hgm))).trans hc16⟩
          have hGP := HG.out.put (T' := upT T (L.take (i + 1))) hm5.isMap HOK.out (x := t + 1) (by rw [← HCC.out, (upT_put (by rw [HLEN.out]; exact hlt)).1, HCC.out, ← HTX.out]) (fun d hd => (upT_put (by rw [HLEN.out]; exact hlt)).2 d (by rw [HCC.out]; exact hd))
          obtain ⟨D6, HD6⟩ : ∃ D6, Hid (D.put (gK (c1, c2)) (.lit (.int .i64 (t + 1))) = D6) := ⟨_, rfl⟩
          rw [HD6.out] at hGP hm6
          have HGP : Hid (GapsIs D6 (upT T (L.take (i + 1)))) := hGP
          clear hat7 hst hGP hg4 hg5 hs4 hs5 HG hm5 HK6 ho5 hb5 hG5 HD6
          go_wp2
          refine wp_region_noPanic ?_
          refine wp_region_held_drew (S := fun w' => w'.rangeAt a5 0 [.int .i64 c1, .int .i64 c2] ∧ w'.cell? ⟨g, 1, none⟩ = some (.map (some m))) (by kernel_rfl) (⟨hR5, hc16⟩) (fun hSx => ?_)
          refine wpAnyH_take (i := 0) (v := .pointer (some ⟨g, 0, none⟩)) rfl (by kernel_rfl) (by kernel_rfl) (by kernel_rfl) (fun _ _ _ h => h) (Or.inl ⟨by rfl, fun w' hSw => by (try dsimp only at hSw); obtain ⟨hs0, hs1⟩ := hSw; go_simp⟩) hSx ?_
          try simp only [Act.put, List.setIfInBounds_toArray]
          refine wpAnyH_take (i := 1) (v := .pointer (some ⟨g, 0, none⟩)) rfl (by kernel_rfl) (by kernel_rfl) (by kernel_rfl) (fun _ _ _ h => h) (Or.inl ⟨by rfl, fun w' hSw => by (try dsimp only at hSw); obtain ⟨hs0, hs1⟩ := hSw; go_simp⟩) hSx ?_
          try simp only [Act.put]
          refine wpAnyH_take (i := 2) (v := .pointer (some ⟨g, 1, none⟩)) rfl (by kernel_rfl) (by kernel_rfl) (by kernel_rfl) (fun _ _ _ h => h) (Or.inl ⟨by rfl, fun w' hSw => by (try dsimp only at hSw); obtain ⟨hs0, hs1⟩ := hSw; go_simp⟩) hSx ?_
          try simp only [Act.put]
          refine wpAnyH_take (i := 3) (v := .map (some m)) rfl (by kernel_rfl) (by kernel_rfl) (by kernel_rfl) (fun _ _ _ h => h) (Or.inl ⟨by rfl, fun w' hSw => by (try dsimp only at hSw); obtain ⟨hs0, hs1⟩ := hSw; go_simp⟩) hSx ?_
          try simp only [Act.put]
          refine wpAnyH_take (i := 4) (v := .agg #[.int .i64 c1, .int .i64 c2]) rfl (by kernel_rfl) (by kernel_rfl) (by kernel_rfl) (fun _ _ _ h => h) (yieldsIf_load_mid (by rfl) 55 _ rfl a5 0 rfl [.int .i64 c1, .int .i64 c2] _ (fun w' h => h.1) Tryd.underlying55 rfl (infG (c1, c2))) hSx ?_
          try simp only [Act.put]
          refine wpAnyH_ready (rs := [5, 7]) (by kernel_rfl) (by simp) ?_
          refine (AllReadyH.cons rfl (fun J hJ => ?_) (AllReadyH.cons rfl (fun J hJ => ?_) AllReadyH.nil))
          · go_simp
            refine hJ.out _ _ (hSx) (fun hSx => ?_)
            clear hJ J
            try simp only [Act.put, List.setIfInBounds_toArray, List.set_cons_zero, List.set_cons_succ]
            refine wpAnyH_take (i := 6) (v := .int .i64 (t + 1)) rfl (by kernel_rfl) (by kernel_rfl) (by kernel_rfl) (fun _ _ _ h => h) (Or.inl ⟨by rfl, fun w' hSw => by (try dsimp only at hSw); go_simp; rw [IntKind.wrap_i64]; omega⟩) hSx ?_
            try simp only [Act.put, List.setIfInBounds_toArray]
            refine wpAnyH_ready (rs := [7]) (by kernel_rfl) (by simp) ?_
            refine (AllReadyH.cons rfl (fun J hJ => ?_) AllReadyH.nil)
            go_simp
            refine hJ.out _ _ (hR4) (fun hSx => ?_)
            clear hJ J
            try simp only [Act.put, List.setIfInBounds_toArray, List.set_cons_zero, List.set_cons_succ]
            refine wpAnyH_take (i := 8) (v := .int .i64 (st : Int)) rfl (by kernel_rfl) (by kernel_rfl) (by kernel_rfl) (fun _ _ _ h => h) (Or.inl ⟨by rfl, fun w' hSw => by (try dsimp only at hSw); go_simp⟩) hSx ?_
            try simp only [Act.put, List.setIfInBounds_toArray]
            refine wpAnyH_ready (rs := [9]) (by kernel_rfl) (by simp) ?_
            refine (AllReadyH.cons rfl (fun J hJ => ?_) AllReadyH.nil)
            go_simp
            refine hJ.out _ _ (hR6) (fun hSx => ?_)
            clear hJ J
            try simp only [Act.put, List.setIfInBounds_toArray, List.set_cons_zero, List.set_cons_succ]
            refine wpAnyH_done (by kernel_rfl) ?_ _
            refine NoPanic.normal ?_
            clear hlook hent hlook2 hsto hSx
            go_wp2
            go_roundw
            case rel => exact ⟨i + 1, D6, by go_num, by omega, by rw [HFT.out]; simp, hb6, ho6, hm6, HGP, HK7⟩
            case measure => simp [intOf]; omega
          · go_simp
            refine hJ.out _ _ (hR4) (fun hSx => ?_)
            clear hJ J
            try simp only [Act.put, List.setIfInBounds_toArray, List.set_cons_zero, List.set_cons_succ]
            refine wpAnyH_take (i := 8) (v := .int .i64 (st : Int)) rfl (by kernel_rfl) (by kernel_rfl) (by kernel_rfl) (fun _ _ _ h => h) (Or.inl ⟨by rfl, fun w' hSw => by (try dsimp only at hSw); go_simp⟩) hSx ?_
            try simp only [Act.put, List.setIfInBounds_toArray]
            refine wpAnyH_ready (rs := [5]) (by kernel_rfl) (by simp) ?_
            refine (AllReadyH.cons rfl (fun J hJ => ?_) AllReadyH.nil)
            go_simp
            refine hJ.out _ _ (hR4) (fun hSx => ?_)
            clear hJ J
            try simp only [Act.put, List.setIfInBounds_toArray, List.set_cons_zero, List.set_cons_succ]
            refine wpAnyH_take (i := 6) (v := .int .i64 (t + 1)) rfl (by kernel_rfl) (by kernel_rfl) (by kernel_rfl) (fun _ _ _ h => h) (Or.inl ⟨by rfl, fun w' hSw => by (try dsimp only at hSw); go_simp; rw [IntKind.wrap_i64]; omega⟩) hSx ?_
            try simp only [Act.put, List.setIfInBounds_toArray]
            refine wpAnyH_ready (rs := [9]) (by kernel_rfl) (by simp) ?_
            refine (AllReadyH.cons rfl (fun J hJ => ?_) AllReadyH.nil)
            go_simp
            refine hJ.out _ _ (hR6) (fun hSx => ?_)
            clear hJ J
            try simp only [Act.put, List.setIfInBounds_toArray, List.set_cons_zero, List.set_cons_succ]
            refine wpAnyH_done (by kernel_rfl) ?_ _
            refine NoPanic.normal ?_
            clear hlook hent hlook2 hsto hSx
            go_wp2
            go_roundw
            case rel => exact ⟨i + 1, D6, by go_num, by omega, by rw [HFT.out]; simp, hb6, ho6, hm6, HGP, HK7⟩
            case measure => simp [intOf]; omega
        · go_quiet (fail)
          obtain ⟨W6, HW6⟩ : ∃ W, Hid (W5.drewN nq = W) := ⟨_, rfl⟩
          have hb5 : W6.heap[g]? = some (.cells #[.slice (some ⟨b, 0, none⟩) k vc, .map (some m), .func (.func f) #[] #[]] 64 (0, 0)) := by rw [← HW6.out]; exact HB5.out
          have hG5 : W6.heap[a5]? = some (.cells #[.int .i64 c1, .int .i64 c2] 55 (0, 0)) := by rw [← HW6.out]; exact HG5.out
          have ho5 : W6.ownsRow base 3 1 (.slice (some ⟨b, 0, none⟩) k vc) l.length (l.map (Value.int .i64)) := by rw [← HW6.out]; exact HO5.out
          have hm5 : W6.ownsMap Tryd.prog 55 (plainElem Tryd.prog 3) m (n + i) D := by rw [← HW6.out]; exact HM5.out
          have HK6 : Hid (Kr base g w W6) := by show Kr base g w W6; rw [← HW6.out]; exact HK5.out.trans ⟨rfl, rfl, rfl, Nat.le_refl _, fun _ _ => rfl, fun _ _ _ _ _ _ _ => rfl⟩
          have hR5 : W6.rangeAt a5 0 [.int .i64 c1, .int .i64 c2] := gBox (c := (c1, c2)) hG5
          have hc16 : W6.cell? ⟨g, 1, none⟩ = some (.map (some m)) := by rw [cell_of_row W6 g 1 _ _ _ hb5]; rfl
          rw [HW6.out]
          have hgm := map_neg hm5 hb5
          have ham := map_neg hm5 hG5
          clear hlk q0 q1 hc15 HW6 HB5 HG5 HO5 HM5 HK5
          obtain ⟨c, v0, st, w4, hat7, hlook, hent, hlook2, hg4, hs4, hst⟩ := entry_any hm5.drew (by unfold maxLen; omega) (gK_of HOK.out)
          obtain rfl : t = c := HTX.out.trans (HG.out.look HOK.out hat7).symm
          obtain ⟨w5, hsto, hm6, hg5, hs5⟩ := hst (t + 1) (wfI (by omega) (by omega))
          rw [show goInt (st : Int) = Value.int .i64 (st : Int) from rfl] at hsto hent
          rw [show gV (c1, c2) = .agg #[.int .i64 c1, .int .i64 c2] from rfl] at hlook hent hlook2
          have hb6 := (hg5.block g (by exact blk_lt hb5) (by simpa using hgm)).trans hb5
          have ho6 := ho5.drew.kept hg5 (.inr (own_nemap ho5 hm5))
          have HK7 : Hid (Kr base g w w5) := HK6.out.drew.grown hm5.drew hbm hg5
          have hR4 : w4.rangeAt a5 0 [.int .i64 c1, .int .i64 c2] ∧ w4.cell? ⟨g, 1, none⟩ = some (.map (some m)) := ⟨fun j z hz => (World.cell?_of_block (w := W6.drew) (a := ⟨a5, 0 + j, none⟩) (hg4.block a5 (by exact blk_lt hG5) (by simpa using ham))).trans (hR5 j z hz), (World.cell?_of_block (w := W6.drew) (a := ⟨g, 1, none⟩) (hg4.block g (by exact blk_lt hb5) (by simpa using hgm))).trans hc16⟩
          have hR6 : w5.rangeAt a5 0 [.int .i64 c1, .int .i64 c2] ∧ w5.cell? ⟨g, 1, none⟩ = some (.map (some m)) := ⟨fun j z hz => (World.cell?_of_block (w := W6.drew) (a := ⟨a5, 0 + j, none⟩) (hg5.block a5 (by exact blk_lt hG5) (by simpa using ham))).trans (hR5 j z hz), (World.cell?_of_block (w := W6.drew) (a := ⟨g, 1, none⟩) (hg5.block g (by exact blk_lt hb5) (by simpa using hgm))).trans hc16⟩
          have hGP := HG.out.put (T' := upT T (L.take (i + 1))) hm5.isMap HOK.out (x := t + 1) (by rw [← HCC.out, (upT_put (by rw [HLEN.out]; exact hlt)).1, HCC.out, ← HTX.out]) (fun d hd => (upT_put (by rw [HLEN.out]; exact hlt)).2 d (by rw [HCC.out]; exact hd))
          obtain ⟨D6, HD6⟩ : ∃ D6, Hid (D.put (gK (c1, c2)) (.lit (.int .i64 (t + 1))) = D6) := ⟨_, rfl⟩
          rw [HD6.out] at hGP hm6
          have HGP : Hid (GapsIs D6 (upT T (L.take (i + 1)))) := hGP
          clear hat7 hst hGP hg4 hg5 hs4 hs5 HG hm5 HK6 ho5 hb5 hG5 HD6
          go_wp2
          refine wp_region_noPanic ?_
          refine wp_region_held_drew (S := fun w' => w'.rangeAt a5 0 [.int .i64 c1, .int .i64 c2] ∧ w'.cell? ⟨g, 1, none⟩ = some (.map (some m))) (by kernel_rfl) (⟨hR5, hc16⟩) (fun hSx => ?_)
          refine wpAnyH_take (i := 0) (v := .pointer (some ⟨g, 0, none⟩)) rfl (by kernel_rfl) (by kernel_rfl) (by kernel_rfl) (fun _ _ _ h => h) (Or.inl ⟨by rfl, fun w' hSw => by (try dsimp only at hSw); obtain ⟨hs0, hs1⟩ := hSw; go_simp⟩) hSx ?_
          try simp only [Act.put, List.setIfInBounds_toArray]
          refine wpAnyH_take (i := 1) (v := .pointer (some ⟨g, 0, none⟩)) rfl (by kernel_rfl) (by kernel_rfl) (by kernel_rfl) (fun _ _ _ h => h) (Or.inl ⟨by rfl, fun w' hSw => by (try dsimp only at hSw); obtain ⟨hs0, hs1⟩ := hSw; go_simp⟩) hSx ?_
          try simp only [Act.put]
          refine wpAnyH_take (i := 2) (v := .pointer (some ⟨g, 1, none⟩)) rfl (by kernel_rfl) (by kernel_rfl) (by kernel_rfl) (fun _ _ _ h => h) (Or.inl ⟨by rfl, fun w' hSw => by (try dsimp only at hSw); obtain ⟨hs0, hs1⟩ := hSw; go_simp⟩) hSx ?_
          try simp only [Act.put]
          refine wpAnyH_take (i := 3) (v := .map (some m)) rfl (by kernel_rfl) (by kernel_rfl) (by kernel_rfl) (fun _ _ _ h => h) (Or.inl ⟨by rfl, fun w' hSw => by (try dsimp only at hSw); obtain ⟨hs0, hs1⟩ := hSw; go_simp⟩) hSx ?_
          try simp only [Act.put]
          refine wpAnyH_take (i := 4) (v := .agg #[.int .i64 c1, .int .i64 c2]) rfl (by kernel_rfl) (by kernel_rfl) (by kernel_rfl) (fun _ _ _ h => h) (yieldsIf_load_mid (by rfl) 55 _ rfl a5 0 rfl [.int .i64 c1, .int .i64 c2] _ (fun w' h => h.1) Tryd.underlying55 rfl (infG (c1, c2))) hSx ?_
          try simp only [Act.put]
          refine wpAnyH_ready (rs := [5, 7]) (by kernel_rfl) (by simp) ?_
          refine (AllReadyH.cons rfl (fun J hJ => ?_) (AllReadyH.cons rfl (fun J hJ => ?_) AllReadyH.nil))
          · go_simp
            refine hJ.out _ _ (hSx) (fun hSx => ?_)
            clear hJ J
            try simp only [Act.put, List.setIfInBounds_toArray, List.set_cons_zero, List.set_cons_succ]
            refine wpAnyH_take (i := 6) (v := .int .i64 (t + 1)) rfl (by kernel_rfl) (by kernel_rfl) (by kernel_rfl) (fun _ _ _ h => h) (Or.inl ⟨by rfl, fun w' hSw => by (try dsimp only at hSw); go_simp; rw [IntKind.wrap_i64]; omega⟩) hSx ?_
            try simp only [Act.put, List.setIfInBounds_toArray]
            refine wpAnyH_ready (rs := [7]) (by kernel_rfl) (by simp) ?_
            refine (AllReadyH.cons rfl (fun J hJ => ?_) AllReadyH.nil)
            go_simp
            refine hJ.out _ _ (hR4) (fun hSx => ?_)
            clear hJ J
            try simp only [Act.put, List.setIfInBounds_toArray, List.set_cons_zero, List.set_cons_succ]
            refine wpAnyH_take (i := 8) (v := .int .i64 (st : Int)) rfl (by kernel_rfl) (by kernel_rfl) (by kernel_rfl) (fun _ _ _ h => h) (Or.inl ⟨by rfl, fun w' hSw => by (try dsimp only at hSw); go_simp⟩) hSx ?_
            try simp only [Act.put, List.setIfInBounds_toArray]
            refine wpAnyH_ready (rs := [9]) (by kernel_rfl) (by simp) ?_
            refine (AllReadyH.cons rfl (fun J hJ => ?_) AllReadyH.nil)
            go_simp
            refine hJ.out _ _ (hR6) (fun hSx => ?_)
            clear hJ J
            try simp only [Act.put, List.setIfInBounds_toArray, List.set_cons_zero, List.set_cons_succ]
            refine wpAnyH_done (by kernel_rfl) ?_ _
            refine NoPanic.normal ?_
            clear hlook hent hlook2 hsto hSx
            go_wp2
            go_roundw
            case rel => exact ⟨i + 1, D6, by go_num, by omega, by rw [HFT.out]; simp, hb6, ho6, hm6, HGP, HK7⟩
            case measure => simp [intOf]; omega
          · go_simp
            refine hJ.out _ _ (hR4) (fun hSx => ?_)
            clear hJ J
            try simp only [Act.put, List.setIfInBounds_toArray, List.set_cons_zero, List.set_cons_succ]
            refine wpAnyH_take (i := 8) (v := .int .i64 (st : Int)) rfl (by kernel_rfl) (by kernel_rfl) (by kernel_rfl) (fun _ _ _ h => h) (Or.inl ⟨by rfl, fun w' hSw => by (try dsimp only at hSw); go_simp⟩) hSx ?_
            try simp only [Act.put, List.setIfInBounds_toArray]
            refine wpAnyH_ready (rs := [5]) (by kernel_rfl) (by simp) ?_
            refine (AllReadyH.cons rfl (fun J hJ => ?_) AllReadyH.nil)
            go_simp
            refine hJ.out _ _ (hR4) (fun hSx => ?_)
            clear hJ J
            try simp only [Act.put, List.setIfInBounds_toArray, List.set_cons_zero, List.set_cons_succ]
            refine wpAnyH_take (i := 6) (v := .int .i64 (t + 1)) rfl (by kernel_rfl) (by kernel_rfl) (by kernel_rfl) (fun _ _ _ h => h) (Or.inl ⟨by rfl, fun w' hSw => by (try dsimp only at hSw); go_simp; rw [IntKind.wrap_i64]; omega⟩) hSx ?_
            try simp only [Act.put, List.setIfInBounds_toArray]
            refine wpAnyH_ready (rs := [9]) (by kernel_rfl) (by simp) ?_
            refine (AllReadyH.cons rfl (fun J hJ => ?_) AllReadyH.nil)
            go_simp
            refine hJ.out _ _ (hR6) (fun hSx => ?_)
            clear hJ J
            try simp only [Act.put, List.setIfInBounds_toArray, List.set_cons_zero, List.set_cons_succ]
            refine wpAnyH_done (by kernel_rfl) ?_ _
            refine NoPanic.normal ?_
            clear hlook hent hlook2 hsto hSx
            go_wp2
            go_roundw
            case rel => exact ⟨i + 1, D6, by go_num, by omega, by rw [HFT.out]; simp, hb6, ho6, hm6, HGP, HK7⟩
            case measure => simp [intOf]; omega
    · obtain rfl : i = k := by omega
      have hdi : decide ((i : Int) < (i : Int)) = false := by simp
      have hc0 : wr.cell? ⟨g, 0, none⟩ = some (.slice va i vc) := by rw [cell_of_row wr g 0 _ _ _ hbox]; rfl
      have hgl := blk_lt hbox
      have hbs : base ≤ wr.heap.size := Nat.le_trans hbg (Nat.le_of_lt hgl)
      have hL60 : l.length ≤ 60 := by rw [Hk.out]; exact h60
      obtain ⟨hx1, hx2⟩ := hx
      obtain ⟨i3, hi3, hz0, hz1, hz2⟩ := info3
      have hne := own_ne hown hbox (by decide)
      have hnm := own_nemap hown hmap
      obtain ⟨o1, Ho1⟩ : ∃ o, Hid (Obj.cells #[.int .i64 x] 3 (0, 0) = o) := ⟨_, rfl⟩
      have HFB : Hid (∀ (v' : Value) (w4 : World), w4.ownsRow base 3 1 v' (l.length + 1) (l.map (Value.int .i64) ++ [.int .i64 x]) → (wr.alloc o1).grownBy w4 (Value.slice va i vc).ownBlock → w4.cell? ⟨g, 0, none⟩ = some (.slice va i vc) ∧ w4.frozen? ⟨g, 0, none⟩ = false ∧
          RowS (w4.setCell ⟨g, 0, none⟩ v') base g m f (l ++ [x]) (upT T L) (n + i) ∧ Kr base g w (w4.setCell ⟨g, 0, none⟩ v')) := fun v' w4 h1 h2 => by
        have hb4 : w4.heap[g]? = some (.cells #[.slice va i vc, .map (some m), .func (.func f) #[] #[]] 64 (0, 0)) := (h2.block g (by rw [World.size_alloc]; omega) (fun e => hne e.symm)).trans ((((Below.refl wr.heap.size wr).alloc (Nat.le_refl _) o1).block g hgl).trans hbox)
        have hs := heap_setCell_same w4 g 0 _ _ v' hb4
        have hvn := own_ne h1 hb4 (by decide)
        have hm4 : w4.ownsMap Tryd.prog 55 (plainElem Tryd.prog 3) m (n + i) D := (hmap.alloc _).kept h2 (fun e => hnm e.symm)
        refine ⟨by rw [cell_of_row w4 g 0 _ _ _ hb4]; rfl, frozen_of_row w4 g 0 _ _ hb4, ⟨⟨v', by simpa using hs, ?_⟩, ⟨D, hm4.kept (row := some g) ⟨rfl, rfl, rfl, by simp, fun k hk hne => heap_setCell_other w4 ⟨g, 0, none⟩ k v' (fun e => hne (by rw [e]))⟩ (by simpa using fun e => map_neg hm4 hb4 e.symm), ?_⟩, hbg, hbm⟩, HK.out.trans ⟨h2.os, h2.tape, h2.output, ?_, fun k hk => ?_, fun k c t fz e ht hkg => ?_⟩⟩
        · have := ownsRow_setCell_other h1 (a := ⟨g, 0, none⟩) hvn v'
          simpa using this
        · have h := HG.out
          rwa [List.take_of_length_le (by rw [HLEN.out]; exact Nat.le_refl _)] at h
        · have := h2.size
          rw [World.size_alloc] at this
          simp
          omega
        · rw [heap_setCell_other w4 ⟨g, 0, none⟩ k v' (by show k ≠ g; omega), h2.block k (by rw [World.size_alloc]; omega) (fun e => by have := (hown.lt k e.symm).1; omega), ((Below.refl wr.heap.size wr).alloc (Nat.le_refl _) o1).block k (by omega)]
        · rw [heap_setCell_other w4 ⟨g, 0, none⟩ k v' hkg, h2.block k (by rw [World.size_alloc]; have := blk_lt e; omega) (fun e' => ?_), ((Below.refl wr.heap.size wr).alloc (Nat.le_refl _) o1).block k (blk_lt e)]
          obtain ⟨c', fz', e2⟩ := own_kind hown k e'.symm
          rw [e] at e2
          simp only [Option.some.injEq, Obj.cells.injEq] at e2
          exact ht e2.2.1
      have hownA := hown.alloc o1
      rw [← Ho1.out] at hownA HFB
      clear hbox hmap HG HK hne hnm
      go_wp2_with (first
        | (at_builtin; refine wpList_append_own _ rfl _ _ 22 rfl base 3 i3 (.int .i64 0) 1 8 und22 hi3 hz0 hz1 hz2 rfl (by decide) _ _ _ rfl hownA ⟨wr.heap.size, 0, none⟩ 1 1 [.int .i64 x] rfl rfl (fun j u hj => by (match j, hj with | 0, hj => simp at hj; subst hj; simp [Addr.add])) (fun u hu => by (simp at hu; subst hu; rfl)) (by (unfold maxLen; omega)) (by omega) (by (simp; omega)) ?_; intro v' w4 hown' hgrow _; obtain ⟨f1, f2, f3, f4⟩ := HFB.out v' w4 hown' hgrow; obtain ⟨va', vc', rfl⟩ := own_form hown'
           have HF3 : Hid (RowS (w4.setCell ⟨g, 0, none⟩ (.slice va' (l.length + 1) vc')) base g m f (l ++ [x]) (upT T L) (n + i) ∧ Kr base g w (w4.setCell ⟨g, 0, none⟩ (.slice va' (l.length + 1) vc'))) := ⟨f3, f4⟩
           clear f3 f4 hown' hgrow)
        | go_in)
      go_ret
      exact ⟨rfl, HF3.out⟩

end Go.Proofs.YtmiinhbffiodmaaDoor
