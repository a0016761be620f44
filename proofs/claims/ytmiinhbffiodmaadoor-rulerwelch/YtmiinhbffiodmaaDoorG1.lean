/- Gaps as keys of a map; 'm[k]++' and 'm[k]--' at such a map, whichever is done first: the look-up, or the entry. -/
import Derived.Test.YtmiinhbffiodmaaDoorR1
import Derived.Maps.RangeWalk
import Derived.Maps.OwnSet
import Derived.DeepKeys4
import Derived.WideKeyEntry
namespace Go.Proofs.YtmiinhbffiodmaaDoor
open Go.RowKit Go.Maps Go.ChangeMaps Go.WideElems Go.MapKept

theorem undM : Tryd.prog.underlying 62 = some (.map 55 3) := by kernel_rfl
theorem laidOutG : laidOutB Tryd.prog = true := by kernel_rfl
theorem keyLawG : Go.WideMaps.KeyLaw Tryd.prog 55 := deep_law_laid laidOutG (m := 2) (by omega) (of_decide_eq_true (by kernel_rfl)) (by kernel_rfl) (by rw [Tryd.underlying55])
theorem keyedG : Keyed Tryd.prog 55 := Keyed.of_law keyLawG
theorem cellsG : Tryd.prog.cellsOf 55 = 2 := by kernel_rfl
theorem cells3' : Tryd.prog.cellsOf 3 = 1 := by kernel_rfl
theorem keyTypeG : Tryd.prog.keyType 55 = true := by kernel_rfl
theorem types_pos : ∃ m, Tryd.prog.types.size = m + 1 := by
  have h : decide (0 < Tryd.prog.types.size) = true := by kernel_rfl
  have := of_decide_eq_true h
  exact ⟨Tryd.prog.types.size - 1, by omega⟩
/-- A gap as a value. -/
def gV (c : Int × Int) : Value := .agg #[.int .i64 c.1, .int .i64 c.2]
/-- Numbers that a gap may have. -/
def GOk (c : Int × Int) : Prop := (Lit.int .i64 c.1).wf = true ∧ (Lit.int .i64 c.2).wf = true
theorem gV_inj {c d : Int × Int} (h : gV c = gV d) : c = d := by
  unfold gV at h
  simp only [Value.agg.injEq, Array.mk.injEq, List.cons.injEq, Value.int.injEq, true_and, and_true] at h
  exact Prod.ext h.1 h.2
theorem key_gap (c : Int × Int) (hc : GOk c) : ∃ kl, keyOf Tryd.prog 55 (gV c) = some kl := by
  unfold keyOf
  rw [Tryd.underlying55]
  have hfm : (gV c).formed Tryd.prog 55 = true := by simp [gV, Value.formed, cellsG]
  simp only [keyTypeG, hfm, Bool.and_self, if_true]
  have h3 : ∀ (d : Nat) (n : Int), (Lit.int .i64 n).wf = true → Tryd.prog.keyLits (d + 1) 3 [.int .i64 n] = some [.int .i64 n] := by
    intro d n hn
    unfold Program.keyLits
    rw [und3]
    simp [hn]
  have hl : (gV c).cells.toList = [.int .i64 c.1, .int .i64 c.2] := by simp [Value.cells, gV]
  rw [hl]
  have hmain : ∀ m, Tryd.prog.keyLits (m + 1 + 1) 55 [.int .i64 c.1, .int .i64 c.2] = some [.int .i64 c.1, .int .i64 c.2] := by
    intro m
    unfold Program.keyLits
    rw [Tryd.underlying55]
    simp [cellsG, cells3', h3 _ _ hc.1, h3 _ _ hc.2]
  obtain ⟨m, hm⟩ := types_pos
  rw [hm, hmain m]
  exact ⟨_, rfl⟩
noncomputable def gK (c : Int × Int) : Lit := @Classical.epsilon Lit ⟨.bool false⟩ fun kl => keyOf Tryd.prog 55 (gV c) = some kl
theorem gK_of {c : Int × Int} (h : GOk c) : keyOf Tryd.prog 55 (gV c) = some (gK c) :=
  @Classical.epsilon_spec_aux Lit ⟨.bool false⟩ (fun kl => keyOf Tryd.prog 55 (gV c) = some kl) (key_gap c h)
theorem gK_lit {c : Int × Int} (h : GOk c) : WideAt.IsKeyLit (gK c) := keyedG.key (gK_of h)
theorem gK_inj {c d : Int × Int} (hc : GOk c) (hd : GOk d) (e : gK c = gK d) : c = d :=
  gV_inj (keyedG.inj (gK_of hc) (by rw [e]; exact gK_of hd))

/-- What a map of gaps reads as: each stands there as often as in the list. -/
def GapsIs (D : DataW Unit) (T : Int × Int → Int) : Prop := ∀ c, GOk c → D.atKey (gK c) (.lit (.int .i64 0)) = .lit (.int .i64 (T c))
theorem GapsIs.empty : GapsIs (.map []) (fun _ => 0) := fun c _ => by simp [DataW.atKey]
theorem GapsIs.look {D : DataW Unit} {T : Int × Int → Int} (h : GapsIs D T) {c : Int × Int} (hc : GOk c) {x : Int} (hat : D.atKey (gK c) (.lit (.int .i64 0)) = .lit (.int .i64 x)) : x = T c := by
  rw [h c hc] at hat
  simp only [DataW.lit.injEq, Lit.int.injEq, true_and] at hat
  exact hat.symm
theorem GapsIs.put {D : DataW Unit} {T T' : Int × Int → Int} (h : GapsIs D T) (hD : IsMap D) {c : Int × Int} (hc : GOk c) {x : Int} (h1 : T' c = x) (h2 : ∀ d, d ≠ c → T' d = T d) : GapsIs (D.put (gK c) (.lit (.int .i64 x))) T' := fun d hd => by
  by_cases e : d = c
  · subst e
    rw [atKey_put_same hD (gK_lit hc), h1]
  · rw [atKey_put_other (fun e1 => e (gK_inj hd hc e1)), h d hd, h2 d e]
theorem GapsIs.congr {D : DataW Unit} {T T' : Int × Int → Int} (h : GapsIs D T) (e : ∀ c, T c = T' c) : GapsIs D T' := fun c hc => by rw [h c hc, e]

theorem zero3' (u : World) : (zeroValue 3).run Tryd.prog u = .ok (.int .i64 0) u := by kernel_rfl
theorem entry_any {w : World} {b n : Nat} {D : DataW Unit} (hown : w.ownsMap Tryd.prog 55 (plainElem Tryd.prog 3) b n D) (hn : n < maxLen) {key : Value} {kl : Lit} (hkey : keyOf Tryd.prog 55 key = some kl) :
    ∃ (c : Int) (v0 : Value) (st : Nat) (w1 : World), D.atKey kl (.lit (.int .i64 0)) = .lit (.int .i64 c) ∧ (Instr.lookup 62 (.map (some b)) key false).run Tryd.prog w = .ok (.int .i64 c) w ∧
      (Instr.mapEntry 62 (.map (some b)) key).run Tryd.prog w = .ok (.tuple #[v0, goInt st]) w1 ∧ (Instr.lookup 62 (.map (some b)) key false).run Tryd.prog w1 = .ok (.int .i64 c) w1 ∧ w.grownBy w1 (some b) ∧ w1.heap.size = w.heap.size ∧
      ∀ val : Int, (Lit.int .i64 val).wf = true → ∃ w2, (Instr.entryStore 62 (.map (some b)) (goInt st) (.int .i64 val)).run Tryd.prog w1 = .ok () w2 ∧ w2.ownsMap Tryd.prog 55 (plainElem Tryd.prog 3) b (n + 1) (D.put kl (.lit (.int .i64 val))) ∧ w.grownBy w2 (some b) ∧ w2.heap.size = w.heap.size := by
  obtain ⟨c, hlook, hat, hwc⟩ := hown.lookup_int keyedG undM und3 (zero3' w) hkey
  obtain ⟨es, clock, hb, F, hs, hD⟩ := id hown
  obtain ⟨v0, st, es1, clock1, hrun, _, hst⟩ := entry_then_store keyLawG undM zero3' hb F hkey
  have hgrow : ∀ o, w.grownBy (setBlock w b o) (some b) := fun o => ⟨rfl, rfl, rfl, by simp [setBlock], fun i _ hi => heap_setBlock_other hb _ (fun e => hi (by rw [e]))⟩
  have hsame := heap_setBlock_same hb (.map es1 clock1)
  -- the look-up behind the entry
  have hlook2 : (Instr.lookup 62 (.map (some b)) key false).run Tryd.prog (setBlock w b (.map es1 clock1)) = .ok (.int .i64 c) (setBlock w b (.map es1 clock1)) := by
    rcases keyLawG.find w hkey es.toList F.keys with ⟨h1, h2⟩ | ⟨j, e0, h1, h2, h3⟩
    · have hr : (Instr.mapEntry 62 (.map (some b)) key).run Tryd.prog w = .ok (.tuple #[.int .i64 0, goInt clock]) (setBlock w b (.map (es.push ⟨key, .int .i64 0, clock⟩) (clock + 1))) := by
        simp [Instr.mapEntry, run_underlying undM, MapKept.run_getObj_map hb, keyLawG.check w false hkey, h1, MapKept.run_setObj_map _ hb, Result.andThen, setBlock]
      have hu : (Instr.mapUpdate 62 (.map (some b)) key (.int .i64 0)).run Tryd.prog w = .ok () (setBlock w b (.map (es.push ⟨key, .int .i64 0, clock⟩) (clock + 1))) := by
        simp [Instr.mapUpdate, run_underlying undM, MapKept.run_getObj_map hb, keyLawG.check w false hkey, h1, MapKept.run_setObj_map _ hb, Result.andThen, setBlock]
      rw [hrun] at hr
      have ew := (Result.ok.inj hr).2
      rw [ew]
      obtain ⟨w', hu', hown', _⟩ := hown.update keyedG undM hn hkey (plainElem_int (H := Unit) und3 (a := 0) (by decide))
      rw [hu] at hu'
      have ew' := (Result.ok.inj hu').2
      rw [← ew'] at hown'
      obtain ⟨c', hl', hat', _⟩ := hown'.lookup_int keyedG undM und3 (zero3' _) hkey
      rw [atKey_put_same hown.isMap (keyedG.key hkey)] at hat'
      have hc' : c' = 0 := by
        simp only [DataW.lit.injEq, Lit.int.injEq, true_and] at hat'
        exact hat'.symm
      have hc0 : c = 0 := by
        rcases Maps.fit_look false keyedG undM (zero3' w) hb F hkey with ⟨hl0, _, _⟩ | ⟨e0, y, he, hk, _⟩
        · rw [hlook] at hl0
          have := (Result.ok.inj hl0).1
          simpa using this
        · exact absurd hk (h2 e0 he)
      rw [hl', hc', hc0]
    · have hj : es[j]? = some e0 := by simpa using h2
      have hsm : es.modify j (fun e => { e with key := key }) = es := by
        apply Array.ext'
        rw [Array.toList_modify, modify_eq_set _ _ _ _ h2]
        have : ({ e0 with key := key } : MapEntry) = e0 := by rw [← h3]
        rw [this]
        exact set_self _ _ _ h2
      have hr : (Instr.mapEntry 62 (.map (some b)) key).run Tryd.prog w = .ok (.tuple #[e0.val, goInt e0.born]) (setBlock w b (.map es clock)) := by
        simp [Instr.mapEntry, run_underlying undM, MapKept.run_getObj_map hb, keyLawG.check w false hkey, h1, hj, h3, keyLawG.stays w hkey, hsm, MapKept.run_setObj_map _ hb, Result.andThen, setBlock]
      rw [hrun] at hr
      have ew := (Result.ok.inj hr).2
      rw [ew]
      have hown' : (setBlock w b (.map es clock)).ownsMap Tryd.prog 55 (plainElem Tryd.prog 3) b n D := ⟨es, clock, heap_setBlock_same hb _, F, hs, hD⟩
      obtain ⟨c', hl', hat', _⟩ := hown'.lookup_int keyedG undM und3 (zero3' _) hkey
      rw [hat] at hat'
      have hc' : c = c' := by
        simp only [DataW.lit.injEq, Lit.int.injEq, true_and] at hat'
        exact hat'
      rw [hl', hc']
  refine ⟨c, v0, st, _, hat, hlook, hrun, hlook2, hgrow _, by simp [setBlock], fun val hval => ?_⟩
  obtain ⟨es', clock', hr1, hr2⟩ := hst _ (.int .i64 val) hsame
  obtain ⟨w', hu', hown', _⟩ := hown.update keyedG undM hn hkey (plainElem_int (H := Unit) und3 hval)
  rw [hr2] at hu'
  have ew' := (Result.ok.inj hu').2
  rw [← ew'] at hown'
  have hss : setBlock (setBlock w b (.map es1 clock1)) b (.map es' clock') = setBlock w b (.map es' clock') := by simp [setBlock]
  rw [hss] at hr1
  exact ⟨_, hr1, hown', hgrow _, by simp [setBlock]⟩

end Go.Proofs.YtmiinhbffiodmaaDoor
