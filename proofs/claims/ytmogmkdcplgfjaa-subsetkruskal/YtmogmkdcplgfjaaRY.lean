/- The range law, where the body is told that the loop's own blocks are no cells. -/
import Derived.Test.YtmogmkdcplgfjaaRX
namespace Go.Proofs.Ytmogmkdcplgfjaa
open Go.RowKit

theorem wpIn_runs2 {n : Nat} {P : Program} {g : Operand} {ps : Array Tmp} {assign body : Code} {Q : Exit → Act → World → Prop} {a : Act} {w : World} {gf : Nat} {lb : Array Value}
    (hg : a.eval g = .func (.func gf) #[] lb) (eg : ∀ args w, (callFunc gf args).run P w = .ok (.enter gf args) w) {ys : List Nat} {enc : Nat → Array Value} {Kp : Nat → World → World → Prop} {Ab : World → World → World → Prop}
    (hseq : Runs (n - 1) P gf lb ys enc Kp Ab w) (hps : ∀ x, (enc x).size = ps.size)
    (hKt : ∀ {A B C : World}, Kp (w.heap.size + 1) A B → Kp (w.heap.size + 1) B C → Kp (w.heap.size + 1) A C) (hKb : ∀ (A : World) (o : Obj), w.heap.size + 1 < A.heap.size → Kp (w.heap.size + 1) A (A.putObj (w.heap.size + 1) o))
    (hAb : ∀ V A B : World, w.heap.size + 2 ≤ V.heap.size → w.heap.size + 2 ≤ A.heap.size → Ab V A B → ∀ b, b < w.heap.size + 2 → B.heap[b]? = A.heap[b]?)
    (I Ix : Nat → World → Prop) (hIp : ∀ i A o o', I i A → A.heap[w.heap.size + 1]? = some o → o.isCells = false → I i (A.putObj (w.heap.size + 1) o')) (hXp : ∀ i A o o', Ix i A → A.heap[w.heap.size + 1]? = some o → o.isCells = false → Ix i (A.putObj (w.heap.size + 1) o'))
    (hIa : ∀ i V A B, I i A → Below w.heap.size w V → w.heap.size + 2 ≤ V.heap.size → Ab V A B → I i B) (hXa : ∀ i V A B, Ix i A → Below w.heap.size w V → w.heap.size + 2 ≤ V.heap.size → Ab V A B → Ix i B)
    (h0 : ∀ V, Below w.heap.size w V → I 0 V) (a₁ : Nat → Act)
    (hassign : ∀ (l x : Nat) (W : World) (K : Act → World → Prop), x ∈ ys → K (a₁ x) W →
      assign.wpIn (Fence.wide.inRound l) (n - 1 - 1) P (Exit.then K (fun _ _ _ => False)) { tmps := (ps.zip (enc x)).foldl (fun t (p, v) => t.setIfInBounds p v) a.tmps, defers := [] } W)
    (hbody : ∀ (i x : Nat) (W : World), ys[i]? = some x → I i W → w.heap.size + 1 < W.heap.size → (∀ b, b = w.heap.size ∨ b = w.heap.size + 1 → ∃ o, W.heap[b]? = some o ∧ o.isCells = false) → body.wpIn (Fence.wide.inRound (w.heap.size + 1)) (n - 1 - 1) P (rEnds w.heap.size (Kp (w.heap.size + 1)) I Ix i W) (a₁ x) W)
    (hdone : ∀ (W : World), I ys.length W → W.heap[w.heap.size]? = some (.deferred (some [])) → Q .normal { a with defers := { target := .collected w.heap.size, args := #[] } :: a.defers } W)
    (hstop : ∀ (i : Nat) (W : World), Ix i W → W.heap[w.heap.size]? = some (.deferred (some [])) → Code.ret.wpIn Fence.wide n P Q { a with defers := { target := .collected w.heap.size, args := #[] } :: a.defers } W) :
    (Code.rangeFunc g ps assign body).wpIn Fence.wide n P Q a w := by
  refine wpIn_rangeFunc fun fn hfn => ?_
  obtain ⟨D, hD⟩ : ∃ D, D = w.heap.size := ⟨_, rfl⟩
  obtain ⟨lp, hlp⟩ : ∃ lp : LoopState → Option Code → Obj, lp = fun st pe => .loop { state := st, pending := pe, fn, tmps := a.tmps, params := ps, assign, body, defers := D } := ⟨_, rfl⟩
  obtain ⟨V, hV⟩ : ∃ V, V = (w.alloc (.deferred (some []))).alloc (lp .ready none) := ⟨_, rfl⟩
  have sV : V.heap.size = D + 2 := by rw [hV, hD]; simp
  have bV : Below w.heap.size w V := by rw [hV]; exact ((Below.refl _ w).alloc (Nat.le_refl _) _).alloc (by simp) _
  have rV : V.heap[D + 1]? = some (lp .ready none) := by
    have h := World.alloc_heap_new (w.alloc (.deferred (some []))) (lp .ready none)
    rw [World.size_alloc] at h
    rw [hV, hD]; exact h
  have dV : V.heap[D]? = some (.deferred (some [])) := by
    rw [hV, hD]; exact (Below.heap_alloc _ _ _ (by simp)).trans (World.alloc_heap_new w _)
  rw [← hD] at hKt hKb hAb hIp hXp hIa hXa h0 hbody hdone hstop bV
  have hbV : Below w.heap.size w V := by rw [← hD]; exact bV
  refine ⟨D + 1, [{ target := .collected D, args := #[] }], V, { target := .fn (.func gf) lb, args := #[.func (.yield (D + 1)) #[] #[]] }, V, gf, #[.func (.yield (D + 1)) #[] #[]] ++ lb, V, ?_, ?_, fun _ _ => trivial, ?_, (fun h => by cases h), ?_⟩
  · rw [hV, hlp, hD]; exact run_enterLoop_outer _ _ _ _ _
  · simp only [resolve, hg]
    simp [go_sem]
  · simp [invoke, go_sem, eg]
  · have lt2 : ∀ {A : World} {o : Obj}, A.heap[D + 1]? = some o → D + 2 ≤ A.heap.size := fun h => (Array.getElem?_eq_some_iff.1 h).1
    refine (hseq (D + 1) (fun i A => I i A ∧ A.heap[D + 1]? = some (lp .ready none) ∧ A.heap[D]? = some (.deferred (some [])))
      (fun i A => Ix i A ∧ A.heap[D + 1]? = some (lp .done (some .ret)) ∧ A.heap[D]? = some (.deferred (some []))) V hbV (by omega) (by omega) ?_ ?_ ?_ ⟨h0 V bV, rV, dV⟩).mono ?_
    · rintro i A B ⟨h1, h2, h3⟩ hb
      have k := hAb V A B (by omega) (lt2 h2) hb
      exact ⟨hIa i V A B h1 bV (by omega) hb, (k _ (by omega)).trans h2, (k _ (by omega)).trans h3⟩
    · rintro i A B ⟨h1, h2, h3⟩ hb
      have k := hAb V A B (by omega) (lt2 h2) hb
      exact ⟨hXa i V A B h1 bV (by omega) hb, (k _ (by omega)).trans h2, (k _ (by omega)).trans h3⟩
    · -- one round
      rintro i x A hx ⟨hi, hl, hk⟩
      have hmem : x ∈ ys := List.mem_of_getElem? hx
      have hlt : D + 1 < A.heap.size := (Array.getElem?_eq_some_iff.1 hl).1
      have hy := run_yield (P := P) (args := enc x) (by rw [hlp] at hl; exact hl) (hps x)
      obtain ⟨busy, hbusy⟩ : ∃ o, o = Obj.loop { state := .busy, pending := none, fn, tmps := a.tmps, params := ps, assign, body, defers := D } := ⟨_, rfl⟩
      have hbeg := run_beginRound (P := P) (by rw [hlp] at hl; exact hl) rfl
      refine ⟨fn, _, assign, body, hy, roundIn_of_wpIn hfn (hassign _ x A _ hmem ⟨_, hbeg, ?_⟩)⟩
      rw [show (Obj.loop { state := .busy, pending := none, fn, tmps := a.tmps, params := ps, assign, body, defers := D }) = busy from hbusy.symm]
      have hl2 : (A.putObj (D + 1) busy).heap[D + 1]? = some busy := World.putObj_heap_same hlt
      have hk2 : (A.putObj (D + 1) busy).heap[D]? = some (.deferred (some [])) := (World.putObj_heap_other (by omega)).trans hk
      have hob : busy.isCells = false := by rw [hbusy]; rfl
      refine wpIn_mono (hbody i x _ hx (hIp i A _ _ hi hl (by rw [hlp]; rfl)) (by have := lt2 hl2; omega) (fun b hb => hb.elim (fun e => ⟨.deferred (some []), by rw [e]; exact hk2, rfl⟩) (fun e => ⟨busy, by rw [e]; exact hl2, hob⟩))) ?_
      have fin : ∀ (jump : Option Code) (B : World), B.heap[D]? = (A.putObj (D + 1) busy).heap[D]? ∧ B.heap[D + 1]? = (A.putObj (D + 1) busy).heap[D + 1]? →
          (Instr.endRound (D + 1) jump).run P B = .ok (.bool jump.isNone) (B.putObj (D + 1) (lp (if jump.isNone then .ready else .done) jump)) ∧ B.heap[D + 1]? = some busy ∧
          (B.putObj (D + 1) (lp (if jump.isNone then .ready else .done) jump)).heap[D + 1]? = some (lp (if jump.isNone then .ready else .done) jump) ∧
          (B.putObj (D + 1) (lp (if jump.isNone then .ready else .done) jump)).heap[D]? = some (.deferred (some [])) := by
        intro jump B hB
        have hl3 := hB.2.trans hl2
        refine ⟨?_, hl3, World.putObj_heap_same (Array.getElem?_eq_some_iff.1 hl3).1, (World.putObj_heap_other (by omega)).trans (hB.1.trans hk2)⟩
        rw [hbusy] at hl3
        have he := run_endRound (P := P) jump hl3
        rw [hlp]; exact he
      rintro e a3 B hp
      cases e with
      | normal =>
        obtain ⟨h1, h2, h3⟩ := hp
        obtain ⟨r1, r2, r3, r4⟩ := fin none B h1
        exact ⟨_, _, r1, .inl ⟨rfl, ⟨hIp _ _ _ _ h3 r2 hob, r3, r4⟩, hKt (hKt (hKb _ _ hlt) h2) (hKb _ _ (lt2 r2))⟩⟩
      | ret =>
        obtain ⟨h1, h2, h3⟩ := hp
        obtain ⟨r1, r2, r3, r4⟩ := fin (some .ret) B h1
        exact ⟨_, _, r1, .inr ⟨rfl, ⟨hXp _ _ _ _ h3 r2 hob, r3, r4⟩, hKt (hKt (hKb _ _ hlt) h2) (hKb _ _ (lt2 r2))⟩⟩
      | exit id => exact hp.elim
      | goto t => exact hp.elim
      | panic ch => exact hp.elim
      | outgrown => exact hp.elim
    · rintro e B ⟨⟨v, rfl⟩, (⟨hi, hl, hk⟩ | ⟨i, hi, hl, hk⟩)⟩
      · have hl0 := hl
        rw [hlp] at hl
        exact ⟨none, _, run_endLoop (P := P) hl (by simp), hdone _ (hIp _ _ _ _ hi hl0 (by rw [hlp]; rfl)) ((World.putObj_heap_other (by omega)).trans hk)⟩
      · have hl0 := hl
        rw [hlp] at hl
        exact ⟨some .ret, _, run_endLoop (P := P) hl (by simp), hstop i _ (hXp _ _ _ _ hi hl0 (by rw [hlp]; rfl)) ((World.putObj_heap_other (by omega)).trans hk)⟩

end Go.Proofs.Ytmogmkdcplgfjaa
