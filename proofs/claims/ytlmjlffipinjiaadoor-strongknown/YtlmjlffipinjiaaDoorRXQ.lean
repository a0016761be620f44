/- A range over the pairs of places, where a round may write above what was there: one law more. -/
import Derived.Test.YtlmjlffipinjiaaDoorRXP
namespace Go.Proofs.YtlmjlffipinjiaaDoor
open Go.RowKit

theorem wpIn_pairs2 {n : Nat} {P : Program} {g : Operand} {ps : Array Tmp} {assign body : Code} {Q : Exit → Act → World → Prop} {a : Act} {w : World} {gf N : Nat}
    (hg : a.eval g = .func (.func gf) #[.int .i64 (N : Int)] #[]) (eg : ∀ args w, (callFunc gf args).run P w = .ok (.enter gf args) w) (hps : ps.size = 2) (hseq : PrRuns (n - 1) P gf N)
    (I : Nat → World → Prop) (Ix : World → Prop) (hI : ∀ i A o, I i A → I i (A.putObj (w.heap.size + 1) o)) (hX : ∀ A o, Ix A → Ix (A.putObj (w.heap.size + 1) o))
    (h0 : ∀ V, Below w.heap.size w V → I 0 V) (a₁ : Nat → Act)
    (hassign : ∀ (l x : Nat) (W : World) (K : Act → World → Prop), x ∈ prL N → K (a₁ x) W →
      assign.wpIn (Fence.wide.inRound l) (n - 1 - 1) P (Exit.then K (fun _ _ _ => False)) { tmps := (ps.zip (encP x)).foldl (fun t (p, v) => t.setIfInBounds p v) a.tmps, defers := [] } W)
    (hbody : ∀ (i x : Nat) (W : World), (prL N)[i]? = some x → I i W → w.heap.size + 1 < W.heap.size → body.wpIn (Fence.wide.inRound (w.heap.size + 1)) (n - 1 - 1) P (pEnds w.heap.size I Ix i W) (a₁ x) W)
    (hdone : ∀ (W : World), I (prL N).length W → W.heap[w.heap.size]? = some (.deferred (some [])) → Q .normal { a with defers := { target := .collected w.heap.size, args := #[] } :: a.defers } W)
    (hstop : ∀ (W : World), Ix W → W.heap[w.heap.size]? = some (.deferred (some [])) → Code.ret.wpIn Fence.wide n P Q { a with defers := { target := .collected w.heap.size, args := #[] } :: a.defers } W) :
    (Code.rangeFunc g ps assign body).wpIn Fence.wide n P Q a w := by
  refine wpIn_rangeFunc fun fn hfn => ?_
  obtain ⟨D, hD⟩ : ∃ D, D = w.heap.size := ⟨_, rfl⟩
  obtain ⟨lp, hlp⟩ : ∃ lp : LoopState → Option Code → Obj, lp = fun st pe => .loop { state := st, pending := pe, fn, tmps := a.tmps, params := ps, assign, body, defers := D } := ⟨_, rfl⟩
  obtain ⟨V, hV⟩ : ∃ V, V = (w.alloc (.deferred (some []))).alloc (lp .ready none) := ⟨_, rfl⟩
  have sV : V.heap.size = D + 2 := by rw [hV, hD]; simp
  have bV : Below w.heap.size w V := by rw [hV]; exact ((Below.refl _ w).alloc (Nat.le_refl _) _).alloc (by simp) _
  have rV : V.heap[D + 1]? = some (lp .ready none) := by
    have h := World.alloc_heap_new (w.alloc (.deferred (some []))) (lp .ready none)
    rw [World.size_alloc] at h
    rw [hV, hD]; exact h
  have dV : V.heap[D]? = some (.deferred (some [])) := by
    rw [hV, hD]; exact (Below.heap_alloc _ _ _ (by simp)).trans (World.alloc_heap_new w _)
  rw [← hD] at hI hX h0 hbody hdone hstop bV
  refine ⟨D + 1, [{ target := .collected D, args := #[] }], V, { target := .fn (.func gf) #[], args := #[.int .i64 (N : Int)] ++ #[.func (.yield (D + 1)) #[] #[]] }, V, gf, #[.int .i64 (N : Int)] ++ #[.func (.yield (D + 1)) #[] #[]], V, ?_, ?_, fun _ _ => trivial, ?_, (fun h => by cases h), ?_⟩
  · rw [hV, hlp, hD]; exact run_enterLoop_outer _ _ _ _ _
  · simp only [resolve, hg]
    simp [go_sem]
  · simp [invoke, go_sem, eg]
  · have lt2 : ∀ {A : World} {o : Obj}, A.heap[D + 1]? = some o → D + 2 ≤ A.heap.size := fun h => (Array.getElem?_eq_some_iff.1 h).1
    refine (hseq (D + 1) (fun i A => I i A ∧ A.heap[D + 1]? = some (lp .ready none) ∧ A.heap[D]? = some (.deferred (some [])))
      (fun A => Ix A ∧ A.heap[D + 1]? = some (lp .done (some .ret)) ∧ A.heap[D]? = some (.deferred (some []))) V ?_ ⟨h0 _ bV, rV, dV⟩).mono ?_
    · -- one round
      rintro i x A hx ⟨hi, hl, hk⟩
      have hmem : x ∈ prL N := List.mem_of_getElem? hx
      have hlt : D + 1 < A.heap.size := (Array.getElem?_eq_some_iff.1 hl).1
      have hy := run_yield (P := P) (args := encP x) (by rw [hlp] at hl; exact hl) (show (encP x).size = ps.size from hps.symm)
      obtain ⟨busy, hbusy⟩ : ∃ o, o = Obj.loop { state := .busy, pending := none, fn, tmps := a.tmps, params := ps, assign, body, defers := D } := ⟨_, rfl⟩
      have hbeg := run_beginRound (P := P) (by rw [hlp] at hl; exact hl) rfl
      refine ⟨fn, _, assign, body, hy, roundIn_of_wpIn hfn (hassign _ x A _ hmem ⟨_, hbeg, ?_⟩)⟩
      rw [show (Obj.loop { state := .busy, pending := none, fn, tmps := a.tmps, params := ps, assign, body, defers := D }) = busy from hbusy.symm]
      have hl2 : (A.putObj (D + 1) busy).heap[D + 1]? = some busy := World.putObj_heap_same hlt
      have hk2 : (A.putObj (D + 1) busy).heap[D]? = some (.deferred (some [])) := (World.putObj_heap_other (by omega)).trans hk
      refine wpIn_mono (hbody i x _ hx (hI i A _ hi) (by have := lt2 hl2; omega)) ?_
      have fin : ∀ (jump : Option Code) (B : World), B.heap[D]? = (A.putObj (D + 1) busy).heap[D]? ∧ B.heap[D + 1]? = (A.putObj (D + 1) busy).heap[D + 1]? →
          (Instr.endRound (D + 1) jump).run P B = .ok (.bool jump.isNone) (B.putObj (D + 1) (lp (if jump.isNone then .ready else .done) jump)) ∧ B.heap[D + 1]? = some busy ∧
          (B.putObj (D + 1) (lp (if jump.isNone then .ready else .done) jump)).heap[D + 1]? = some (lp (if jump.isNone then .ready else .done) jump) ∧
          (B.putObj (D + 1) (lp (if jump.isNone then .ready else .done) jump)).heap[D]? = some (.deferred (some [])) := by
        intro jump B hB
        have hl3 := hB.2.trans hl2
        refine ⟨?_, hl3, World.putObj_heap_same (Array.getElem?_eq_some_iff.1 hl3).1, (World.putObj_heap_other (by omega)).trans (hB.1.trans hk2)⟩
        rw [hbusy] at hl3
        have he := run_endRound (P := P) jump hl3
        rw [hlp]; exact he
      rintro e a3 B hp
      cases e with
      | normal =>
        obtain ⟨h1, h3⟩ := hp
        obtain ⟨r1, r2, r3, r4⟩ := fin none B h1
        exact ⟨_, _, r1, .inl ⟨rfl, hI _ _ _ h3, r3, r4⟩⟩
      | ret =>
        obtain ⟨h1, h3⟩ := hp
        obtain ⟨r1, r2, r3, r4⟩ := fin (some .ret) B h1
        exact ⟨_, _, r1, .inr ⟨rfl, hX _ _ h3, r3, r4⟩⟩
      | exit id => exact hp.elim
      | goto t => exact hp.elim
      | panic ch => exact hp.elim
      | outgrown => exact hp.elim
    · rintro e B ⟨⟨v, rfl⟩, (⟨hi, hl, hk⟩ | ⟨hi, hl, hk⟩)⟩
      · rw [hlp] at hl
        exact ⟨none, _, run_endLoop (P := P) hl (by simp), hdone _ (hI _ _ _ hi) ((World.putObj_heap_other (by omega)).trans hk)⟩
      · rw [hlp] at hl
        exact ⟨some .ret, _, run_endLoop (P := P) hl (by simp), hstop _ (hX _ _ hi) ((World.putObj_heap_other (by omega)).trans hk)⟩

end Go.Proofs.YtlmjlffipinjiaaDoor
