/- A range over the pairs of places: one law. The iterator has a number at hand, keeps nothing in memory, hands its rounds two numbers. -/
import Derived.Test.YtlmjlffipinjiaaDoorSrD
import Derived.RangeFuncNested
import Derived.RangeFuncBox
import Derived.RangeFuncLeaves
namespace Go.Proofs.YtlmjlffipinjiaaDoor
open Go.RowKit

theorem YieldAt.anyP {P : Program} {l n : Nat} {args : Array Value} {W : World} {R : Ending → World → Prop} (h : YieldAt Fence.wide n P l args W R) (m : Nat) : YieldAt Fence.wide m P l args W R := by
  obtain ⟨fn, tmps, assign, body, hy, h1, h2⟩ := h
  exact ⟨fn, tmps, assign, body, hy, h1, fun c cs _ => h2 c cs (fun d hd => by cases hd)⟩

def encP (x : Nat) : Array Value := #[.int .i64 ((x / 32 : Nat) : Int), .int .i64 ((x % 32 : Nat) : Int)]
/-- The iterator g, over N places. -/
def PrRuns (n : Nat) (P : Program) (g N : Nat) : Prop :=
  ∀ (l : Nat) (J : Nat → World → Prop) (Jx : World → Prop) (W : World),
    (∀ i x A, (prL N)[i]? = some x → J i A → YieldAt Fence.wide (n - 1) P l (encP x) A fun e B => (e = .returned (.bool true) ∧ J (i + 1) B) ∨ (e = .returned (.bool false) ∧ Jx B)) →
    J 0 W → CallsIn Fence.wide n P g (#[.int .i64 (N : Int)] ++ #[.func (.yield l) #[] #[]]) W fun e B => (∃ v, e = .returned v) ∧ (J (prL N).length B ∨ Jx B)

/-- How a round of the caller's may end. -/
def pEnds (D : Nat) (I : Nat → World → Prop) (Ix : World → Prop) (i : Nat) (W : World) : Exit → Act → World → Prop
  | .normal, _, W' => (W'.heap[D]? = W.heap[D]? ∧ W'.heap[D + 1]? = W.heap[D + 1]?) ∧ I (i + 1) W'
  | .ret, _, W' => (W'.heap[D]? = W.heap[D]? ∧ W'.heap[D + 1]? = W.heap[D + 1]?) ∧ Ix W'
  | _, _, _ => False
theorem bput {n l : Nat} (A : World) (o : Obj) (h : n ≤ l) : Below n A (A.putObj l o) := ⟨rfl, rfl, rfl, by simp [World.putObj], fun b hb => World.putObj_heap_other (by omega)⟩

theorem wpIn_pairs {n : Nat} {P : Program} {g : Operand} {ps : Array Tmp} {assign body : Code} {Q : Exit → Act → World → Prop} {a : Act} {w : World} {gf N : Nat}
    (hg : a.eval g = .func (.func gf) #[.int .i64 (N : Int)] #[]) (eg : ∀ args w, (callFunc gf args).run P w = .ok (.enter gf args) w) (hps : ps.size = 2) (hseq : PrRuns (n - 1) P gf N)
    (I : Nat → World → Prop) (Ix : World → Prop) (hI : ∀ i A B, I i A → Below w.heap.size A B → I i B) (hX : ∀ A B, Ix A → Below w.heap.size A B → Ix B)
    (h0 : I 0 w) (a₁ : Nat → Act)
    (hassign : ∀ (l x : Nat) (W : World) (K : Act → World → Prop), x ∈ prL N → K (a₁ x) W →
      assign.wpIn (Fence.wide.inRound l) (n - 1 - 1) P (Exit.then K (fun _ _ _ => False)) { tmps := (ps.zip (encP x)).foldl (fun t (p, v) => t.setIfInBounds p v) a.tmps, defers := [] } W)
    (hbody : ∀ (i x : Nat) (W : World), (prL N)[i]? = some x → I i W → w.heap.size + 1 < W.heap.size → body.wpIn (Fence.wide.inRound (w.heap.size + 1)) (n - 1 - 1) P (pEnds w.heap.size I Ix i W) (a₁ x) W)
    (hdone : ∀ (W : World), I (prL N).length W → W.heap[w.heap.size]? = some (.deferred (some [])) → Q .normal { a with defers := { target := .collected w.heap.size, args := #[] } :: a.defers } W)
    (hstop : ∀ (W : World), Ix W → W.heap[w.heap.size]? = some (.deferred (some [])) → Code.ret.wpIn Fence.wide n P Q { a with defers := { target := .collected w.heap.size, args := #[] } :: a.defers } W) :
    (Code.rangeFunc g ps assign body).wpIn Fence.wide n P Q a w := by
  refine wpIn_rangeFunc fun fn hfn => ?_
  obtain ⟨D, hD⟩ : ∃ D, D = w.heap.size := ⟨_, rfl⟩
  obtain ⟨lp, hlp⟩ : ∃ lp : LoopState → Option Code → Obj, lp = fun st pe => .loop { state := st, pending := pe, fn, tmps := a.tmps, params := ps, assign, body, defers := D } := ⟨_, rfl⟩
  obtain ⟨V, hV⟩ : ∃ V, V = (w.alloc (.deferred (some []))).alloc (lp .ready none) := ⟨_, rfl⟩
  have sV : V.heap.size = D + 2 := by rw [hV, hD]; simp
  have bV : Below w.heap.size w V := by rw [hV]; exact ((Below.refl _ w).alloc (Nat.le_refl _) _).alloc (by simp) _
  have rV : V.heap[D + 1]? = some (lp .ready none) := by
    have h := World.alloc_heap_new (w.alloc (.deferred (some []))) (lp .ready none)
    rw [World.size_alloc] at h
    rw [hV, hD]; exact h
  have dV : V.heap[D]? = some (.deferred (some [])) := by
    rw [hV, hD]; exact (Below.heap_alloc _ _ _ (by simp)).trans (World.alloc_heap_new w _)
  rw [← hD] at hI hX hbody hdone hstop bV
  refine ⟨D + 1, [{ target := .collected D, args := #[] }], V, { target := .fn (.func gf) #[], args := #[.int .i64 (N : Int)] ++ #[.func (.yield (D + 1)) #[] #[]] }, V, gf, #[.int .i64 (N : Int)] ++ #[.func (.yield (D + 1)) #[] #[]], V, ?_, ?_, fun _ _ => trivial, ?_, (fun h => by cases h), ?_⟩
  · rw [hV, hlp, hD]; exact run_enterLoop_outer _ _ _ _ _
  · simp only [resolve, hg]
    simp [go_sem]
  · simp [invoke, go_sem, eg]
  · have lt2 : ∀ {A : World} {o : Obj}, A.heap[D + 1]? = some o → D + 2 ≤ A.heap.size := fun h => (Array.getElem?_eq_some_iff.1 h).1
    refine (hseq (D + 1) (fun i A => I i A ∧ A.heap[D + 1]? = some (lp .ready none) ∧ A.heap[D]? = some (.deferred (some [])))
      (fun A => Ix A ∧ A.heap[D + 1]? = some (lp .done (some .ret)) ∧ A.heap[D]? = some (.deferred (some []))) V ?_ ⟨hI _ _ _ h0 bV, rV, dV⟩).mono ?_
    · -- one round
      rintro i x A hx ⟨hi, hl, hk⟩
      have hmem : x ∈ prL N := List.mem_of_getElem? hx
      have hlt : D + 1 < A.heap.size := (Array.getElem?_eq_some_iff.1 hl).1
      have hy := run_yield (P := P) (args := encP x) (by rw [hlp] at hl; exact hl) (show (encP x).size = ps.size from hps.symm)
      obtain ⟨busy, hbusy⟩ : ∃ o, o = Obj.loop { state := .busy, pending := none, fn, tmps := a.tmps, params := ps, assign, body, defers := D } := ⟨_, rfl⟩
      have hbeg := run_beginRound (P := P) (by rw [hlp] at hl; exact hl) rfl
      refine ⟨fn, _, assign, body, hy, roundIn_of_wpIn hfn (hassign _ x A _ hmem ⟨_, hbeg, ?_⟩)⟩
      rw [show (Obj.loop { state := .busy, pending := none, fn, tmps := a.tmps, params := ps, assign, body, defers := D }) = busy from hbusy.symm]
      have hl2 : (A.putObj (D + 1) busy).heap[D + 1]? = some busy := World.putObj_heap_same hlt
      have hk2 : (A.putObj (D + 1) busy).heap[D]? = some (.deferred (some [])) := (World.putObj_heap_other (by omega)).trans hk
      refine wpIn_mono (hbody i x _ hx (hI i A _ hi (bput _ _ (by omega))) (by have := lt2 hl2; omega)) ?_
      have fin : ∀ (jump : Option Code) (B : World), B.heap[D]? = (A.putObj (D + 1) busy).heap[D]? ∧ B.heap[D + 1]? = (A.putObj (D + 1) busy).heap[D + 1]? →
          (Instr.endRound (D + 1) jump).run P B = .ok (.bool jump.isNone) (B.putObj (D + 1) (lp (if jump.isNone then .ready else .done) jump)) ∧ B.heap[D + 1]? = some busy ∧
          (B.putObj (D + 1) (lp (if jump.isNone then .ready else .done) jump)).heap[D + 1]? = some (lp (if jump.isNone then .ready else .done) jump) ∧
          (B.putObj (D + 1) (lp (if jump.isNone then .ready else .done) jump)).heap[D]? = some (.deferred (some [])) := by
        intro jump B hB
        have hl3 := hB.2.trans hl2
        refine ⟨?_, hl3, World.putObj_heap_same (Array.getElem?_eq_some_iff.1 hl3).1, (World.putObj_heap_other (by omega)).trans (hB.1.trans hk2)⟩
        rw [hbusy] at hl3
        have he := run_endRound (P := P) jump hl3
        rw [hlp]; exact he
      rintro e a3 B hp
      cases e with
      | normal =>
        obtain ⟨h1, h3⟩ := hp
        obtain ⟨r1, r2, r3, r4⟩ := fin none B h1
        exact ⟨_, _, r1, .inl ⟨rfl, hI _ _ _ h3 (bput _ _ (by omega)), r3, r4⟩⟩
      | ret =>
        obtain ⟨h1, h3⟩ := hp
        obtain ⟨r1, r2, r3, r4⟩ := fin (some .ret) B h1
        exact ⟨_, _, r1, .inr ⟨rfl, hX _ _ h3 (bput _ _ (by omega)), r3, r4⟩⟩
      | exit id => exact hp.elim
      | goto t => exact hp.elim
      | panic ch => exact hp.elim
      | outgrown => exact hp.elim
    · rintro e B ⟨⟨v, rfl⟩, (⟨hi, hl, hk⟩ | ⟨hi, hl, hk⟩)⟩
      · rw [hlp] at hl
        exact ⟨none, _, run_endLoop (P := P) hl (by simp), hdone _ (hI _ _ _ hi (bput _ _ (by omega))) ((World.putObj_heap_other (by omega)).trans hk)⟩
      · rw [hlp] at hl
        exact ⟨some .ret, _, run_endLoop (P := P) hl (by simp), hstop _ (hX _ _ hi (bput _ _ (by omega))) ((World.putObj_heap_other (by omega)).trans hk)⟩

end Go.Proofs.YtlmjlffipinjiaaDoor
