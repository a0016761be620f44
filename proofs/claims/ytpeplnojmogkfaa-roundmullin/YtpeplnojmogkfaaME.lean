/- 'm[k]++' at a map of cells, whichever is done first: the look-up, or the entry. -/
import Derived.Test.YtpeplnojmogkfaaMM
import Derived.Laws.EntriesVeiled
namespace Go.Proofs.Ytpeplnojmogkfaa
open Go.RowKit Go.Maps Go.ChangeMaps Go.WideElems Go.MapKept

theorem entryC_any {w : World} {b n : Nat} {D : DataW Unit} (hown : w.ownsMap Try.prog 55 (plainElem Try.prog 3) b n D) (hn : n < maxLen) {key : Value} {kl : Lit} (hkey : keyOf Try.prog 55 key = some kl) :
    ∃ (c : Int) (v0 : Value) (st : Nat) (w1 : World), D.atKey kl (.lit (.int .i64 0)) = .lit (.int .i64 c) ∧ (Instr.lookup 53 (.map (some b)) key false).run Try.prog w = .ok (.int .i64 c) w ∧
      (Instr.mapEntry 53 (.map (some b)) key).run Try.prog w = .ok (.tuple #[v0, goInt st]) w1 ∧ (Instr.lookup 53 (.map (some b)) key false).run Try.prog w1 = .ok (.int .i64 c) w1 ∧ w.grownBy w1 (some b) ∧ w1.heap.size = w.heap.size ∧
      ∀ val : Int, (Lit.int .i64 val).wf = true → ∃ w2, (Instr.entryStore 53 (.map (some b)) (goInt st) (.int .i64 val)).run Try.prog w1 = .ok () w2 ∧ w2.ownsMap Try.prog 55 (plainElem Try.prog 3) b (n + 1) (D.put kl (.lit (.int .i64 val))) ∧ w.grownBy w2 (some b) ∧ w2.heap.size = w.heap.size := by
  obtain ⟨c, hlook, hat, hwc⟩ := hown.lookup_int keyedC undMC und3 (zero3' w) hkey
  obtain ⟨es, clock, hb, F, hs, hD⟩ := id hown
  obtain ⟨v0, st, es1, clock1, hrun, _, hst⟩ := entry_then_store keyLawC undMC zero3' hb F hkey
  have hgrow : ∀ o, w.grownBy (setBlock w b o) (some b) := fun o => ⟨rfl, rfl, rfl, by simp [setBlock], fun i _ hi => heap_setBlock_other hb _ (fun e => hi (by rw [e]))⟩
  have hsame := heap_setBlock_same hb (.map es1 clock1)
  -- the look-up behind the entry
  have hlook2 : (Instr.lookup 53 (.map (some b)) key false).run Try.prog (setBlock w b (.map es1 clock1)) = .ok (.int .i64 c) (setBlock w b (.map es1 clock1)) := by
    rcases keyLawC.find w hkey es.toList F.keys with ⟨h1, h2⟩ | ⟨j, e0, h1, h2, h3⟩
    · have hr : (Instr.mapEntry 53 (.map (some b)) key).run Try.prog w = .ok (.tuple #[.int .i64 0, goInt clock]) (setBlock w b (.map (es.push ⟨key, .int .i64 0, clock⟩) (clock + 1))) := by
        simp [Instr.mapEntry, run_underlying undMC, MapKept.run_getObj_map hb, keyLawC.check w false hkey, h1, MapKept.run_setObj_map _ hb, Result.andThen, setBlock]
      have hu : (Instr.mapUpdate 53 (.map (some b)) key (.int .i64 0)).run Try.prog w = .ok () (setBlock w b (.map (es.push ⟨key, .int .i64 0, clock⟩) (clock + 1))) := by
        simp [Instr.mapUpdate, run_underlying undMC, MapKept.run_getObj_map hb, keyLawC.check w false hkey, h1, MapKept.run_setObj_map _ hb, Result.andThen, setBlock]
      rw [hrun] at hr
      have ew := (Result.ok.inj hr).2
      rw [ew]
      obtain ⟨w', hu', hown', _⟩ := hown.update keyedC undMC hn hkey (plainElem_int (H := Unit) und3 (a := 0) (by decide))
      rw [hu] at hu'
      have ew' := (Result.ok.inj hu').2
      rw [← ew'] at hown'
      obtain ⟨c', hl', hat', _⟩ := hown'.lookup_int keyedC undMC und3 (zero3' _) hkey
      rw [atKey_put_same hown.isMap (keyedC.key hkey)] at hat'
      have hc' : c' = 0 := by
        simp only [DataW.lit.injEq, Lit.int.injEq, true_and] at hat'
        exact hat'.symm
      have hc0 : c = 0 := by
        rcases Maps.fit_look false keyedC undMC (zero3' w) hb F hkey with ⟨hl0, _, _⟩ | ⟨e0, y, he, hk, _⟩
        · rw [hlook] at hl0
          have := (Result.ok.inj hl0).1
          simpa using this
        · exact absurd hk (h2 e0 he)
      rw [hl', hc', hc0]
    · have hj : es[j]? = some e0 := by simpa using h2
      have hsm : es.modify j (fun e => { e with key := key }) = es := by
        apply Array.ext'
        rw [Array.toList_modify, modify_eq_set _ _ _ _ h2]
        have : ({ e0 with key := key } : MapEntry) = e0 := by rw [← h3]
        rw [this]
        exact set_self _ _ _ h2
      have hr : (Instr.mapEntry 53 (.map (some b)) key).run Try.prog w = .ok (.tuple #[e0.val, goInt e0.born]) (setBlock w b (.map es clock)) := by
        simp [Instr.mapEntry, run_underlying undMC, MapKept.run_getObj_map hb, keyLawC.check w false hkey, h1, hj, h3, keyLawC.stays w hkey, hsm, MapKept.run_setObj_map _ hb, Result.andThen, setBlock]
      rw [hrun] at hr
      have ew := (Result.ok.inj hr).2
      rw [ew]
      have hown' : (setBlock w b (.map es clock)).ownsMap Try.prog 55 (plainElem Try.prog 3) b n D := ⟨es, clock, heap_setBlock_same hb _, F, hs, hD⟩
      obtain ⟨c', hl', hat', _⟩ := hown'.lookup_int keyedC undMC und3 (zero3' _) hkey
      rw [hat] at hat'
      have hc' : c = c' := by
        simp only [DataW.lit.injEq, Lit.int.injEq, true_and] at hat'
        exact hat'
      rw [hl', hc']
  refine ⟨c, v0, st, _, hat, hlook, hrun, hlook2, hgrow _, by simp [setBlock], fun val hval => ?_⟩
  obtain ⟨es', clock', hr1, hr2⟩ := hst _ (.int .i64 val) hsame
  obtain ⟨w', hu', hown', _⟩ := hown.update keyedC undMC hn hkey (plainElem_int (H := Unit) und3 hval)
  rw [hr2] at hu'
  have ew' := (Result.ok.inj hu').2
  rw [← ew'] at hown'
  have hss : setBlock (setBlock w b (.map es1 clock1)) b (.map es' clock') = setBlock w b (.map es' clock') := by simp [setBlock]
  rw [hss] at hr1
  exact ⟨_, hr1, hown', hgrow _, by simp [setBlock]⟩

/-- A look-up of what is there. -/
theorem lookP {W : World} {B m : Nat} {D : DataW Unit} {p : Nat × Nat} {j : Int} (h : W.ownsMap Try.prog 50 (plainElem Try.prog 3) B m D) (hp : POk p) (hj : ∀ z, D.atKey (kP p) z = .lit (.int .i64 j)) : (Instr.lookup 40 (.map (some B)) (pV p) false).run Try.prog W = .ok (.int .i64 j) W := by
  obtain ⟨c, h1, h2, _⟩ := h.lookup_int keyedP undMP und3 (zero3' W) (kP_of hp)
  rw [hj] at h2
  simp only [DataW.lit.injEq, Lit.int.injEq, true_and] at h2
  rw [h1, h2]
end Go.Proofs.Ytpeplnojmogkfaa
