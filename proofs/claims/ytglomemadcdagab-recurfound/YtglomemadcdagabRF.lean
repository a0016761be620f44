/- A range over a function that has no end of its own: whoever ranges over it leaves it ahead of round N. One law for such a loop, over a contract of the iterator that names its rounds by their numbers. -/
import Derived.RangeFuncNested
import Derived.RangeFuncBox
import Derived.RangeFuncLeaves
namespace Go.Proofs.Ytglomemadcdagab
open Go.RowKit

/-- What lies in these blocks lies there as it lay. -/
def Same (S : Nat → Prop) (A B : World) : Prop := ∀ b, S b → B.heap[b]? = A.heap[b]?
theorem Same.refl (S : Nat → Prop) (A : World) : Same S A A := fun _ _ => rfl
theorem Same.trans {S : Nat → Prop} {A B C : World} (h : Same S A B) (k : Same S B C) : Same S A C := fun b hb => (k b hb).trans (h b hb)
theorem Same.put {S : Nat → Prop} {n : Nat} (hS : ∀ b, S b → b < n) (A : World) {l : Nat} (o : Obj) (hl : n ≤ l) : Same S A (A.putObj l o) :=
  fun b hb => World.putObj_heap_other (by have := hS b hb; omega)

/-- The iterator g, with what it has captured: its round number i is handed enc i; it asks that rounds leave the blocks of S alone, and that no more than N rounds come. -/
def Goes (n : Nat) (P : Program) (g : Nat) (lb : Array Value) (enc : Nat → Array Value) (S : Nat → Prop) (N : Nat) (w : World) : Prop :=
  ∀ (l : Nat) (J Jx : Nat → World → Prop) (W : World), Below w.heap.size w W → (∀ i A B, J i A → Below A.heap.size A B → J i B) → (∀ i A, J i A → i < N) →
    (∀ i A, J i A → YieldAt Fence.wide (n - 1) P l (enc i) A fun e B => (e = .returned (.bool true) ∧ J (i + 1) B ∧ Same S A B) ∨ (e = .returned (.bool false) ∧ Jx i B)) →
    J 0 W → CallsIn Fence.wide n P g (#[.func (.yield l) #[] #[]] ++ lb) W fun e B => (∃ v, e = .returned v) ∧ ∃ i, Jx i B

/-- How a round of the caller's may end: it goes on to the next, or it leaves by a jump. -/
def roundEnds (S : Nat → Prop) (I : Nat → World → Prop) (Ix : Code → Nat → World → Prop) (i : Nat) (W : World) : Exit → Act → World → Prop
  | .normal, _, W' => KeepsOthers W W' ∧ Same S W W' ∧ I (i + 1) W'
  | .ret, _, W' => KeepsOthers W W' ∧ Ix .ret i W'
  | .exit id, _, W' => KeepsOthers W W' ∧ Ix (.exit id) i W'
  | _, _, _ => False

theorem grown_of_below {A B : World} (h : Below A.heap.size A B) : A.grownBy B none := ⟨h.os, h.tape, h.output, h.size, fun k hk _ => h.block k hk⟩

theorem wpIn_goes {n : Nat} {P : Program} {g : Operand} {ps : Array Tmp} {assign body : Code} {Q : Exit → Act → World → Prop} {a : Act} {w : World} {gf : Nat} {lb : Array Value}
    (hg : a.eval g = .func (.func gf) #[] lb) (eg : ∀ args w, (callFunc gf args).run P w = .ok (.enter gf args) w) {enc : Nat → Array Value} {S : Nat → Prop} {N : Nat}
    (hS : ∀ b, S b → b < w.heap.size) (hseq : Goes (n - 1) P gf lb enc S N w) (hps : ∀ i, (enc i).size = ps.size)
    (I : Nat → World → Prop) (Ix : Code → Nat → World → Prop) (hI : OwnFrom w.heap.size I) (hIx : ∀ c, OwnFrom w.heap.size (Ix c)) (hN : ∀ i A, I i A → i < N) (h0 : I 0 w) (a₁ : Nat → Act)
    (hassign : ∀ (l i : Nat) (W : World) (K : Act → World → Prop), K (a₁ i) W →
      assign.wpIn (Fence.wide.inRound l) (n - 1 - 1) P (Exit.then K (fun _ _ _ => False)) { tmps := (ps.zip (enc i)).foldl (fun t (p, v) => t.setIfInBounds p v) a.tmps, defers := [] } W)
    (hbody : ∀ (l i : Nat) (W : World), I i W → body.wpIn (Fence.wide.inRound l) (n - 1 - 1) P (roundEnds S I Ix i W) (a₁ i) W)
    (hstop : ∀ (D : Nat) (c : Code) (i : Nat) (W : World), w.heap.size ≤ D → Ix c i W → W.heap[D]? = some (.deferred (some [])) → c.wpIn Fence.wide n P Q { a with defers := { target := .collected D, args := #[] } :: a.defers } W) :
    (Code.rangeFunc g ps assign body).wpIn Fence.wide n P Q a w := by
  refine wpIn_rangeFunc fun fn hfn => ?_
  obtain ⟨D, hD⟩ : ∃ D, D = w.heap.size := ⟨_, rfl⟩
  obtain ⟨lp, hlp⟩ : ∃ lp : LoopState → Option Code → Obj, lp = fun st pe => .loop { state := st, pending := pe, fn, tmps := a.tmps, params := ps, assign, body, defers := D } := ⟨_, rfl⟩
  -- the world that the loop begins in: the block of deferred calls, the loop's own record
  obtain ⟨V, hV⟩ : ∃ V, V = (w.alloc (.deferred (some []))).alloc (lp .ready none) := ⟨_, rfl⟩
  have sV : V.heap.size = D + 2 := by rw [hV, hD]; simp
  have bV : Below w.heap.size w V := by rw [hV]; exact ((Below.refl _ w).alloc (Nat.le_refl _) _).alloc (by simp) _
  have rV : V.heap[D + 1]? = some (lp .ready none) := by
    have h := World.alloc_heap_new (w.alloc (.deferred (some []))) (lp .ready none)
    rw [World.size_alloc] at h
    rw [hV, hD]; exact h
  have dV : V.heap[D]? = some (.deferred (some [])) := by
    rw [hV, hD]; exact (Below.heap_alloc _ _ _ (by simp)).trans (World.alloc_heap_new w _)
  refine ⟨D + 1, [{ target := .collected D, args := #[] }], V, { target := .fn (.func gf) lb, args := #[.func (.yield (D + 1)) #[] #[]] }, V, gf, #[.func (.yield (D + 1)) #[] #[]] ++ lb, V, ?_, ?_, fun _ _ => trivial, ?_, (fun h => by cases h), ?_⟩
  · rw [hV, hlp, hD]; exact run_enterLoop_outer _ _ _ _ _
  · simp only [resolve, hg]
    simp [go_sem]
  · simp [invoke, go_sem, eg]
  · refine (hseq (D + 1) (fun i A => I i A ∧ A.heap[D + 1]? = some (lp .ready none) ∧ A.heap[D]? = some (.deferred (some [])))
      (fun i A => ∃ c, Ix c i A ∧ A.heap[D + 1]? = some (lp .done (some c)) ∧ A.heap[D]? = some (.deferred (some []))) V bV ?_ (fun i A h => hN i A h.1) ?_ ⟨?_, rV, dV⟩).mono ?_
    · rintro i A B ⟨h1, h2, h3⟩ hb
      exact ⟨hI i A B none h1 (grown_of_below hb) (fun _ e => by cases e), (hb.block _ (Array.getElem?_eq_some_iff.1 h2).1).trans h2, (hb.block _ (Array.getElem?_eq_some_iff.1 h3).1).trans h3⟩
    · -- one round
      rintro i A ⟨hi, hl, hk⟩
      have hlt : D + 1 < A.heap.size := (Array.getElem?_eq_some_iff.1 hl).1
      have hy := run_yield (P := P) (args := enc i) (by rw [hlp] at hl; exact hl) (hps i)
      obtain ⟨busy, hbusy⟩ : ∃ o, o = Obj.loop { state := .busy, pending := none, fn, tmps := a.tmps, params := ps, assign, body, defers := D } := ⟨_, rfl⟩
      have hbeg := run_beginRound (P := P) (by rw [hlp] at hl; exact hl) rfl
      refine ⟨fn, _, assign, body, hy, roundIn_of_wpIn hfn (hassign _ i A _ ⟨_, hbeg, ?_⟩)⟩
      rw [show (Obj.loop { state := .busy, pending := none, fn, tmps := a.tmps, params := ps, assign, body, defers := D }) = busy from hbusy.symm]
      have hl2 : (A.putObj (D + 1) busy).heap[D + 1]? = some busy := World.putObj_heap_same hlt
      have hk2 : (A.putObj (D + 1) busy).heap[D]? = some (.deferred (some [])) := (World.putObj_heap_other (by omega)).trans hk
      have hob : busy.isCells = false := by rw [hbusy]; rfl
      refine wpIn_mono (hbody _ i _ (hI.putObj _ hi (by omega) hl (by rw [hlp]; rfl))) ?_
      -- what the round's end does with the record
      have fin : ∀ (jump : Option Code) (B : World), KeepsOthers (A.putObj (D + 1) busy) B →
          (Instr.endRound (D + 1) jump).run P B = .ok (.bool jump.isNone) (B.putObj (D + 1) (lp (if jump.isNone then .ready else .done) jump)) ∧ B.heap[D + 1]? = some busy ∧
          (B.putObj (D + 1) (lp (if jump.isNone then .ready else .done) jump)).heap[D + 1]? = some (lp (if jump.isNone then .ready else .done) jump) ∧
          (B.putObj (D + 1) (lp (if jump.isNone then .ready else .done) jump)).heap[D]? = some (.deferred (some [])) := by
        intro jump B hB
        have hl3 := hB.same _ _ hl2 hob
        refine ⟨?_, hl3, World.putObj_heap_same (Array.getElem?_eq_some_iff.1 hl3).1, (World.putObj_heap_other (by omega)).trans (hB.same _ _ hk2 rfl)⟩
        rw [hbusy] at hl3
        have he := run_endRound (P := P) jump hl3
        rw [hlp]; exact he
      rintro e a3 B hp
      cases e with
      | normal =>
        obtain ⟨h1, h2, h3⟩ := hp
        obtain ⟨r1, r2, r3, r4⟩ := fin none B h1
        exact ⟨_, _, r1, .inl ⟨rfl, ⟨hI.putObj _ h3 (by omega) r2 hob, r3, r4⟩, ((Same.put hS A busy (by omega)).trans h2).trans (Same.put hS B _ (by omega))⟩⟩
      | ret =>
        obtain ⟨h1, h2⟩ := hp
        obtain ⟨r1, r2, r3, r4⟩ := fin (some .ret) B h1
        exact ⟨_, _, r1, .inr ⟨rfl, .ret, (hIx _).putObj _ h2 (by omega) r2 hob, r3, r4⟩⟩
      | exit id =>
        obtain ⟨h1, h2⟩ := hp
        obtain ⟨r1, r2, r3, r4⟩ := fin (some (.exit id)) B h1
        exact ⟨_, _, r1, .inr ⟨rfl, .exit id, (hIx _).putObj _ h2 (by omega) r2 hob, r3, r4⟩⟩
      | goto t => exact hp.elim
      | panic ch => exact hp.elim
      | outgrown => exact hp.elim
    · exact hI 0 w V none h0 (grown_of_below bV) (fun _ e => by cases e)
    · -- behind the iterator
      rintro e B ⟨⟨v, rfl⟩, i, c, hi, hl, hk⟩
      rw [hlp] at hl
      exact ⟨some c, _, run_endLoop (P := P) hl (by simp), hstop D c i _ (by omega) ((hIx c).putObj _ hi (by omega) hl rfl) ((World.putObj_heap_other (by omega)).trans hk)⟩

end Go.Proofs.Ytglomemadcdagab
