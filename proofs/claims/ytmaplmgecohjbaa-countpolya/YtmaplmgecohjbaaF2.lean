/- A range over a function that is run to its end, where a round begins with a variable of its own in memory. -/
import Derived.Test.YtmaplmgecohjbaaE4
namespace Go.Proofs.Ytmaplmgecohjbaa
open Go.RowKit

theorem wpIn_rangeFunc_asg {α : Type} {n : Nat} {P : Program} {g : Operand} {ps : Array Tmp} {assign body : Code} {Q : Exit → Act → World → Prop} {a : Act} {w : World} {gf : Nat} {lb : Array Value}
    (hg : a.eval g = .func (.func gf) #[] lb) (eg : ∀ args w, (callFunc gf args).run P w = .ok (.enter gf args) w) {encs : α → Array Value} {Kp : World → World → Prop} {S Sp : List α → Prop} {N : Nat}
    (hseq : SeqStopsK Fence.wide (n - 1) P gf lb encs Kp S Sp N w) (hps : ∀ x, (encs x).size = ps.size)
    (hKt : ∀ {A B C : World}, Kp A B → Kp B C → Kp A C) (hKb : ∀ (W : World) (l : Nat) (o o' : Obj), w.heap.size ≤ l → W.heap[l]? = some o → o.isCells = false → o.isWalk = false → Kp W (W.putObj l o')) (hKw : ∀ A B : World, Below A.heap.size A B → Kp A B)
    (I : List α → World → Prop) (hI : OwnFrom w.heap.size I) (h0 : I [] w) (a₁ : α → Nat → Act)
    (E : α → Nat → World → Prop) (hE : ∀ x b W l o o', E x b W → W.heap[l]? = some o → o.isCells = false → E x b (W.putObj l o'))
    (hassign : ∀ (l : Nat) (x : α) (W : World) (K : Act → World → Prop), (∀ W1, Below W.heap.size W W1 → E x W.heap.size W1 → K (a₁ x W.heap.size) W1) →
      assign.wpIn (Fence.wide.inRound l) (n - 1 - 1) P (Exit.then K (fun _ _ _ => False)) { tmps := (ps.zip (encs x)).foldl (fun t (p, v) => t.setIfInBounds p v) a.tmps, defers := [] } W)
    (hbody : ∀ (l : Nat) (pre : List α) (x : α) (b : Nat) (W : World), I pre W → pre.length < N → E x b W → body.wpIn (Fence.wide.inRound l) (n - 1 - 1) P (fun e _ W' => e = .normal ∧ KeepsOthers W W' ∧ Kp W W' ∧ I (pre ++ [x]) W') (a₁ x b) W)
    (hdone : ∀ (D : Nat) (xs : List α) (W : World), w.heap.size ≤ D → S xs → I xs W → W.heap[D]? = some (.deferred (some [])) → Q .normal { a with defers := { target := .collected D, args := #[] } :: a.defers } W) :
    (Code.rangeFunc g ps assign body).wpIn Fence.wide n P Q a w := by
  refine wpIn_rangeFunc fun fn hfn => ?_
  obtain ⟨D, hD⟩ : ∃ D, D = w.heap.size := ⟨_, rfl⟩
  obtain ⟨lp, hlp⟩ : ∃ lp : LoopState → Option Code → Obj, lp = fun st pe => .loop { state := st, pending := pe, fn, tmps := a.tmps, params := ps, assign, body, defers := D } := ⟨_, rfl⟩
  obtain ⟨V, hV⟩ : ∃ V, V = (w.alloc (.deferred (some []))).alloc (lp .ready none) := ⟨_, rfl⟩
  have sV : V.heap.size = D + 2 := by rw [hV, hD]; simp
  have bV : Below w.heap.size w V := by rw [hV]; exact ((Below.refl _ w).alloc (Nat.le_refl _) _).alloc (by simp) _
  have rV : V.heap[D + 1]? = some (lp .ready none) := by
    have h := World.alloc_heap_new (w.alloc (.deferred (some []))) (lp .ready none)
    rw [World.size_alloc] at h
    rw [hV, hD]; exact h
  have dV : V.heap[D]? = some (.deferred (some [])) := by
    rw [hV, hD]; exact (Below.heap_alloc _ _ _ (by simp)).trans (World.alloc_heap_new w _)
  have gB : ∀ {A B : World}, Below A.heap.size A B → A.grownBy B none := fun h => ⟨h.os, h.tape, h.output, h.size, fun k hk _ => h.block k hk⟩
  refine ⟨D + 1, [{ target := .collected D, args := #[] }], V, { target := .fn (.func gf) lb, args := #[.func (.yield (D + 1)) #[] #[]] }, V, gf, #[.func (.yield (D + 1)) #[] #[]] ++ lb, V, ?_, ?_, fun _ _ => trivial, ?_, (fun h => by cases h), ?_⟩
  · rw [hV, hlp, hD]; exact run_enterLoop_outer _ _ _ _ _
  · simp only [resolve, hg]
    simp [go_sem]
  · simp [invoke, go_sem, eg]
  · have hnw : ∀ {A : World} {row : Option Nat}, (∀ r, row = some r → V.heap.size ≤ r ∧ ∃ o : Obj, A.heap[r]? = some o ∧ o.isWalk = true) → (∀ r, row = some r → w.heap.size ≤ r ∧ ∃ o : Obj, A.heap[r]? = some o ∧ o.isCells = false) :=
      fun hr r e => by obtain ⟨hB, o, ho, hw⟩ := hr r e; exact ⟨by omega, o, ho, Obj.not_cells_of_walk hw⟩
    refine (hseq (D + 1) (fun i A => I i A ∧ A.heap[D + 1]? = some (lp .ready none) ∧ A.heap[D]? = some (.deferred (some []))) (fun _ _ => False) V bV ?_ (fun _ _ _ _ h _ _ => h) ?_ ⟨?_, rV, dV⟩).mono ?_
    · rintro i A B row ⟨h1, h2, h3⟩ hb hr
      exact ⟨hI i A B row h1 hb (hnw hr), (grownBy_keeps hb (fun r e => (hr r e).2) h2 (by rw [hlp]; rfl)).trans h2, (grownBy_keeps hb (fun r e => (hr r e).2) h3 rfl).trans h3⟩
    · rintro pre x A ⟨hi, hl, hk⟩ hlen
      have hlt : D + 1 < A.heap.size := (Array.getElem?_eq_some_iff.1 hl).1
      have hy := run_yield (P := P) (args := encs x) (by rw [hlp] at hl; exact hl) (hps x)
      obtain ⟨busy, hbusy⟩ : ∃ o, o = Obj.loop { state := .busy, pending := none, fn, tmps := a.tmps, params := ps, assign, body, defers := D } := ⟨_, rfl⟩
      have hob : busy.isCells = false := by rw [hbusy]; rfl
      have how : busy.isWalk = false := by rw [hbusy]; rfl
      refine ⟨fn, _, assign, body, hy, roundIn_of_wpIn hfn (hassign _ x A _ fun A1 hb1 hE1 => ?_)⟩
      have hl1 : A1.heap[D + 1]? = some (lp .ready none) := (hb1.block _ hlt).trans hl
      have hk1 : A1.heap[D]? = some (.deferred (some [])) := (hb1.block _ (by omega)).trans hk
      have hi1 : I pre A1 := hI pre A A1 none hi (gB hb1) (fun _ e => by cases e)
      have hlt1 : D + 1 < A1.heap.size := (Array.getElem?_eq_some_iff.1 hl1).1
      have hbeg := run_beginRound (P := P) (by rw [hlp] at hl1; exact hl1) rfl
      refine ⟨_, hbeg, ?_⟩
      rw [show (Obj.loop { state := .busy, pending := none, fn, tmps := a.tmps, params := ps, assign, body, defers := D }) = busy from hbusy.symm]
      have hl2 : (A1.putObj (D + 1) busy).heap[D + 1]? = some busy := World.putObj_heap_same hlt1
      have hk2 : (A1.putObj (D + 1) busy).heap[D]? = some (.deferred (some [])) := (World.putObj_heap_other (by omega)).trans hk1
      have hlc : (lp .ready none).isCells = false := by rw [hlp]; rfl
      have hlw : (lp .ready none).isWalk = false := by rw [hlp]; rfl
      refine wpIn_mono (hbody _ pre x A.heap.size _ (hI.putObj _ hi1 (by omega) hl1 hlc) hlen (hE _ _ _ _ _ _ hE1 hl1 hlc)) ?_
      rintro e a3 B ⟨rfl, h1, h2, h3⟩
      have hl3 := h1.same _ _ hl2 hob
      have he := run_endRound (P := P) none (by rw [hbusy] at hl3; exact hl3)
      refine ⟨_, _, he, .inl ⟨rfl, ⟨hI.putObj _ h3 (by omega) hl3 hob, ?_, ?_⟩, hKt (hKw _ _ hb1) (hKt (hKt (hKb _ _ _ _ (by omega) hl1 hlc hlw) h2) (hKb _ _ _ _ (by omega) hl3 hob how))⟩⟩
      · rw [hlp]; exact World.putObj_heap_same (Array.getElem?_eq_some_iff.1 hl3).1
      · exact (World.putObj_heap_other (by omega)).trans (h1.same _ _ hk2 rfl)
    · exact hI [] w V none h0 (gB bV) (fun _ e => by cases e)
    · rintro e B ⟨⟨v, rfl⟩, (⟨xs, hS, hi, hl, hk⟩ | ⟨_, _, h⟩)⟩
      · rw [hlp] at hl
        exact ⟨none, _, run_endLoop (P := P) hl (by simp), hdone D xs _ (by omega) hS (hI.putObj _ hi (by omega) hl rfl) ((World.putObj_heap_other (by omega)).trans hk)⟩
      · exact h.elim

end Go.Proofs.Ytmaplmgecohjbaa
