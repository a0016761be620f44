/- Marks of rounds, and orders inside a round. -/
import Derived.Test.YtmogmkdcplgfjabY9
namespace Go.Proofs.Ytmogmkdcplgfjab
open Go.RowKit Go.Shelf

/-- What lies in cells lies there as it lay. -/
def CK (A B : World) : Prop := A.heap.size ≤ B.heap.size ∧ ∀ (b : Nat) (o : Obj), A.heap[b]? = some o → o.isCells = true → B.heap[b]? = some o
theorem CK.refl (A : World) : CK A A := ⟨Nat.le_refl _, fun _ _ h _ => h⟩
theorem CK.trans {A B C : World} (h : CK A B) (k : CK B C) : CK A C := ⟨Nat.le_trans h.1 k.1, fun b o h1 h2 => k.2 b o (h.2 b o h1 h2) h2⟩
theorem CK.put {A : World} {l : Nat} {o : Obj} (h : A.heap[l]? = some o) (hc : o.isCells = false) (o' : Obj) : CK A (A.putObj l o') :=
  ⟨by simp [World.putObj], fun b q h1 h2 => (World.putObj_heap_other (fun e => by subst e; rw [h] at h1; cases h1; rw [hc] at h2; cases h2)).trans h1⟩
theorem CK.row {A B : World} (k : CK A B) {base : Nat} {e : TypeId} {v : Value} {n : Nat} {xs : List Value} (h : A.ownsRow base e 1 v n xs) : B.ownsRow base e 1 v n xs := by
  obtain ⟨h3, h4 | ⟨g, cap, cur, h5, h6, h7, h8⟩⟩ := h
  · exact ⟨h3, .inl h4⟩
  · exact ⟨h3, .inr ⟨g, cap, cur, h5, h6, k.2 g _ h7 rfl, h8⟩⟩
/-- All marks are taken over, at the function's end; what it hands back is told behind them. -/
theorem marks_leave2 {F : Fence} {n : Nat} {P : Program} {fn : Func} {tmps : Array Value} {R : Ending → World → Prop} {m : Nat} : ∀ (rs : List Nat) (A : World), rs.Nodup → (∀ r ∈ rs, m ≤ r ∧ A.heap[r]? = some (.deferred (some []))) → (∀ B, Below m A B → CK A B → ∃ v, (results fn tmps).run P B = .ok v B ∧ R (.returned v) B) → LeavesInM F n P fn tmps R (rs.map markOf) .returning A := by
  intro rs
  induction rs with
  | nil =>
    intro A _ _ hR
    exact hR A (Below.refl _ _) (CK.refl _)
  | cons r rs ih =>
    intro A hn hm hR
    obtain ⟨h1, h2⟩ := hm r List.mem_cons_self
    obtain ⟨h3, h4⟩ := List.nodup_cons.1 hn
    refine ⟨by simp, .inl ⟨r, _, rfl, run_takeDeferred h2, ih _ h4 (fun q hq => ?_) fun B hb hc => hR B ((below_put A _ h1).trans hb) ((CK.put h2 rfl _).trans hc)⟩⟩
    refine ⟨(hm q (List.mem_cons_of_mem _ hq)).1, (World.putObj_heap_other (show q ≠ r from fun e => h3 (e ▸ hq))).trans (hm q (List.mem_cons_of_mem _ hq)).2⟩

/-- In a round operations that defer nothing are carried out as everywhere. -/
theorem wpAnyIn_round {F : Fence} {n : Nat} {P : Program} {md : Region.Mode} {ops : Array Oper} {Q : Exit → Act → World → Prop} (l : Nat) (hd : ∀ (i : Nat) (o : Oper), ops[i]? = some o → ∀ c, o.op ≠ .defer c) :
    ∀ (fuel : Nat) (listed : Array Bool) (a : Act) (w : World), F.round = none → wpAnyIn F n P md ops Q fuel listed a w → wpAnyIn (F.inRound l) n P md ops Q fuel listed a w := by
  intro fuel
  induction fuel with
  | zero => intro listed a w _ h; exact h
  | succ fuel ih =>
    intro listed a w hro h
    refine ⟨h.1, fun i hi => ?_⟩
    have h2 := h.2 i hi
    unfold wpOpIn at h2 ⊢
    cases ho : ops[i]? with
    | none => rw [ho] at h2; exact ih _ _ _ hro h2
    | some o =>
      rw [ho] at h2
      simp only at h2 ⊢
      by_cases hw : Region.wanted o (yielded ops a.tmps) = true
      · rw [if_pos hw] at h2 ⊢
        have h3 := Oper.wpIn_mono (fun a w h => ih _ a w hro h) h2
        refine ⟨h3.1, ?_⟩
        have h4 := h3.2
        rw [Oper.semAt_eq _ _ _ (hd i o ho)] at h4 ⊢
        exact h4
      · rw [if_neg hw] at h2 ⊢
        exact ⟨h2.1, ih _ _ _ hro h2.2⟩
theorem operIn_of {n : Nat} {P : Program} {o : Oper} {a : Act} {w : World} {K : Act → World → Prop} {Q : Exit → Act → World → Prop} (h : Oper.wp P o a w K Q) : Oper.wpIn Fence.wide n P o a w K Q := by
  unfold Oper.wp at h
  refine ⟨fun _ _ => trivial, ?_⟩
  show Oper.uponIn Fence.wide n P o a K Q ((execOp a.eval o).run P w)
  generalize (execOp a.eval o).run P w = r at *
  cases r with
  | ok x w' =>
    cases x <;> simp only [Oper.upon, Oper.uponIn] at h ⊢ <;>
      first
        | exact h
        | exact ⟨fun h => wide_no h, callsIn_wide.2 h⟩
        | exact ⟨fun h => wide_no h, fun c cs _ => let ⟨v, w'', r, s⟩ := h c cs; ⟨v, w'', r, stepsIn_wide.2 s⟩⟩
  | halt x w' => cases x <;> simp only [Oper.upon, Oper.uponIn] at h ⊢ <;> exact h
/-- What holds of all orders, inside a fence that bars nothing. -/
theorem anyIn_of {n : Nat} {P : Program} {md : Region.Mode} {ops : Array Oper} {Q : Exit → Act → World → Prop} (hL : ¬ LetsOut Q) :
    ∀ (fuel : Nat) (listed : Array Bool) (a : Act) (w : World), wpAny P md ops Q fuel listed a w → wpAnyIn Fence.wide n P md ops Q fuel listed a w := by
  intro fuel
  induction fuel with
  | zero => intro listed a w h; exact h
  | succ fuel ih =>
    intro listed a w h
    refine ⟨h.1, fun i hi => ?_⟩
    have h2 := h.2 i hi
    unfold wpOp at h2
    unfold wpOpIn
    cases ho : ops[i]? with
    | none => rw [ho] at h2; exact ih _ _ _ h2
    | some o =>
      rw [ho] at h2
      simp only at h2 ⊢
      by_cases hw : Region.wanted o (yielded ops a.tmps) = true
      · rw [if_pos hw] at h2 ⊢
        rcases h2 with h2 | ⟨-, h2⟩
        · exact operIn_of (Oper.wp_mono (fun a w h => ih _ a w h) h2)
        · exact absurd h2 hL
      · rw [if_neg hw] at h2 ⊢
        exact ⟨fun _ _ => trivial, ih _ _ _ h2⟩
/-- A region in a round, by a condition that its operations keep. -/
theorem wpIn_region_round {n l : Nat} {P : Program} {id : Nat} {ops : Array Oper} {S : World → Prop} {Q : Exit → Act → World → Prop} {a : Act} {w : World} (hm : P.follows .mixedOrders = true) (hd : ∀ (i : Nat) (o : Oper), ops[i]? = some o → ∀ c, o.op ≠ .defer c) (hL : ¬ LetsOut Q) (hS : S w.drew)
    (h : S w.drew → wpAnyH P .any ops Q S ops.size (Array.replicate ops.size false) a w.drew) : (Code.region id ops true).wpIn (Fence.wide.inRound l) n P Q a w :=
  wpIn_region_any hm (wpAnyIn_round l hd _ _ _ _ rfl (anyIn_of hL _ _ _ _ (wpAny_of_held _ _ _ _ (h hS))))

/-- Rows of truths that are being marked, the box that leads to them, and the marks that runs of rounds have left. -/
structure MI (w : World) (g A : Nat) (f : Nat → Bool) (rs : List Nat) (W : World) : Prop where
  o : OwV 4 Value.bool W g A f
  b : Boxed W (g + 1) 33 (.slice (some ⟨g, 0, none⟩) A A)
  nd : rs.Nodup
  mks : ∀ q ∈ rs, g + 2 ≤ q ∧ W.heap[q]? = some (.deferred (some []))
  bw : Below g w W
theorem MI.size {w : World} {g A : Nat} {f : Nat → Bool} {rs : List Nat} {W : World} (h : MI w g A f rs W) : g + 2 ≤ W.heap.size := h.b.lt
theorem MI.below {w : World} {g A : Nat} {f : Nat → Bool} {rs : List Nat} {W B : World} (h : MI w g A f rs W) (b : Below W.heap.size W B) : MI w g A f rs B := by
  have hs := h.size
  exact ⟨h.o.low b (by omega), boxLow h.b b h.b.lt, h.nd, fun q hq => ⟨(h.mks q hq).1, (b.block _ (Array.getElem?_eq_some_iff.1 (h.mks q hq).2).1).trans (h.mks q hq).2⟩, h.bw.trans (b.mono (by omega))⟩
theorem MI.put {w : World} {g A : Nat} {f : Nat → Bool} {rs : List Nat} {W : World} (h : MI w g A f rs W) {l : Nat} (o' : Obj) (hl : g + 2 ≤ l) (hr : l ∉ rs) : MI w g A f rs (W.putObj l o') := by
  have b : Below (g + 1 + 1) W (W.putObj l o') := below_put _ _ hl
  exact ⟨h.o.low b (by omega), boxLow h.b b (by omega), h.nd, fun q hq => ⟨(h.mks q hq).1, (World.putObj_heap_other (show q ≠ l from fun e => hr (e ▸ hq))).trans (h.mks q hq).2⟩, h.bw.trans (b.mono (by omega))⟩
theorem MI.set {w : World} {g A : Nat} {f : Nat → Bool} {rs : List Nat} {W : World} (h : MI w g A f rs W) (x : Nat) (r : Bool) : MI w g A (updV f x r) rs (W.setCell ⟨g, x, none⟩ (.bool r)) :=
  ⟨h.o.set x r, boxAway h.b _ _ (by show g ≠ g + 1; omega), h.nd, fun q hq => ⟨(h.mks q hq).1, (heap_setCell_other W ⟨g, x, none⟩ _ _ (by show q ≠ g; have := (h.mks q hq).1; omega)).trans (h.mks q hq).2⟩, h.bw.setCell (p := ⟨g, x, none⟩) (Nat.le_refl _) _⟩
theorem MI.more {w : World} {g A : Nat} {f : Nat → Bool} {rs : List Nat} {W : World} (h : MI w g A f rs W) {q : Nat} (hq : q ∉ rs) (h2 : g + 2 ≤ q) (hk : W.heap[q]? = some (.deferred (some []))) : MI w g A f (q :: rs) W :=
  ⟨h.o, h.b, List.nodup_cons.2 ⟨hq, h.nd⟩, fun p hp => (List.mem_cons.1 hp).elim (fun e => e ▸ ⟨h2, hk⟩) (fun hp => h.mks p hp), h.bw⟩
theorem MI.new {w : World} {g A : Nat} {f : Nat → Bool} {rs : List Nat} {W : World} (h : MI w g A f rs W) {l : Nat} (hl : W.heap.size ≤ l) : l ∉ rs := fun hm => by
  have := (Array.getElem?_eq_some_iff.1 (h.mks l hm).2).1
  omega
theorem MI.made (A : Nat) (w : World) (f : Nat → Bool) (hf : ∀ j, false = f j) : MI w w.heap.size A f [] ((w.alloc (.cells (madeCells #[.bool false] A) 4)).alloc (.cells #[.slice (some ⟨w.heap.size, 0, none⟩) A A] 33)) := by
  have f1 := Boxed.new (w.alloc (.cells (madeCells #[.bool false] A) 4)) 33 (.slice (some ⟨w.heap.size, 0, none⟩) A A)
  rw [World.size_alloc] at f1
  have h := OwV.made (t := 4) (en := Value.bool) A w f (.bool false) (fun {j} => by rw [hf j])
  exact ⟨h.below (balloc _ _), f1, List.nodup_nil, fun q hq => by simp at hq, (balloc w _).alloc (by simp) _⟩
end Go.Proofs.Ytmogmkdcplgfjab
