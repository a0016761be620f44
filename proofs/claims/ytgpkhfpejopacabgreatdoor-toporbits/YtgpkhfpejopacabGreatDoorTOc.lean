/- The walk of TopOrbits. -/
import Derived.Sort.MapsRangeIn
import Derived.Sort.KeysCollected
import Derived.RegionIn
import Derived.Test.YtgpkhfpejopacabGreatDoorZG57
import Derived.Test.YtgpkhfpejopacabGreatDoorZE2
import Derived.Test.YtgpkhfpejopacabGreatDoorZC14
import Derived.Test.YtgpkhfpejopacabGreatDoorZG41
import Derived.Test.YtgpkhfpejopacabGreatDoorZF5
import Derived.Test.YtgpkhfpejopacabGreatDoorZF7
import Derived.Test.YtgpkhfpejopacabGreatDoorTOa
import Derived.Test.YtgpkhfpejopacabGreatDoorZG11
import Derived.Test.YtgpkhfpejopacabGreatDoorZG19
import Derived.Test.YtgpkhfpejopacabGreatDoorZP10
import Derived.Test.YtgpkhfpejopacabGreatDoorZGL8
import Derived.Test.YtgpkhfpejopacabGreatDoorTO2
/- The walks of the library's AppendSeq and Collect, at kinds. -/
/- A range over a function that is run to its end, where a round begins with a variable of its own in memory. -/
namespace Go.Proofs.YtgpkhfpejopacabGreatDoor.Gc
open Go.RowKit

theorem wpIn_rangeFunc_asg {α : Type} {n : Nat} {P : Program} {g : Operand} {ps : Array Tmp} {assign body : Code} {Q : Exit → Act → World → Prop} {a : Act} {w : World} {gf : Nat} {lb : Array Value}
    (hg : a.eval g = .func (.func gf) #[] lb) (eg : ∀ args w, (callFunc gf args).run P w = .ok (.enter gf args) w) {encs : α → Array Value} {Kp : World → World → Prop} {S Sp : List α → Prop} {N : Nat}
    (hseq : SeqStopsK Fence.wide (n - 1) P gf lb encs Kp S Sp N w) (hps : ∀ x, (encs x).size = ps.size)
    (hKt : ∀ {A B C : World}, Kp A B → Kp B C → Kp A C) (hKb : ∀ (W : World) (l : Nat) (o o' : Obj), w.heap.size ≤ l → W.heap[l]? = some o → o.isCells = false → o.isWalk = false → Kp W (W.putObj l o')) (hKw : ∀ A B : World, Below A.heap.size A B → Kp A B)
    (I : List α → World → Prop) (hI : OwnFrom w.heap.size I) (h0 : I [] w) (a₁ : α → Nat → Act)
    (E : α → Nat → World → Prop) (hE : ∀ x b W l o o', E x b W → W.heap[l]? = some o → o.isCells = false → E x b (W.putObj l o'))
    (hassign : ∀ (l : Nat) (x : α) (W : World) (K : Act → World → Prop), (∀ W1, Below W.heap.size W W1 → E x W.heap.size W1 → K (a₁ x W.heap.size) W1) →
      assign.wpIn (Fence.wide.inRound l) (n - 1 - 1) P (Exit.then K (fun _ _ _ => False)) { tmps := (ps.zip (encs x)).foldl (fun t (p, v) => t.setIfInBounds p v) a.tmps, defers := [] } W)
    (hbody : ∀ (l : Nat) (pre : List α) (x : α) (b : Nat) (W : World), I pre W → pre.length < N → E x b W → body.wpIn (Fence.wide.inRound l) (n - 1 - 1) P (fun e _ W' => e = .normal ∧ KeepsOthers W W' ∧ Kp W W' ∧ I (pre ++ [x]) W') (a₁ x b) W)
    (hdone : ∀ (D : Nat) (xs : List α) (W : World), w.heap.size ≤ D → S xs → I xs W → W.heap[D]? = some (.deferred (some [])) → Q .normal { a with defers := { target := .collected D, args := #[] } :: a.defers } W) :
    (Code.rangeFunc g ps assign body).wpIn Fence.wide n P Q a w := by
  refine wpIn_rangeFunc fun fn hfn => ?_
  obtain ⟨D, hD⟩ : ∃ D, D = w.heap.size := ⟨_, rfl⟩
  obtain ⟨lp, hlp⟩ : ∃ lp : LoopState → Option Code → Obj, lp = fun st pe => .loop { state := st, pending := pe, fn, tmps := a.tmps, params := ps, assign, body, defers := D } := ⟨_, rfl⟩
  obtain ⟨V, hV⟩ : ∃ V, V = (w.alloc (.deferred (some []))).alloc (lp .ready none) := ⟨_, rfl⟩
  have sV : V.heap.size = D + 2 := by rw [hV, hD]; simp
  have bV : Below w.heap.size w V := by rw [hV]; exact ((Below.refl _ w).alloc (Nat.le_refl _) _).alloc (by simp) _
  have rV : V.heap[D + 1]? = some (lp .ready none) := by
    have h := World.alloc_heap_new (w.alloc (.deferred (some []))) (lp .ready none)
    rw [World.size_alloc] at h
    rw [hV, hD]; exact h
  have dV : V.heap[D]? = some (.deferred (some [])) := by
    rw [hV, hD]; exact (Below.heap_alloc _ _ _ (by simp)).trans (World.alloc_heap_new w _)
  have gB : ∀ {A B : World}, Below A.heap.size A B → A.grownBy B none := fun h => ⟨h.os, h.tape, h.output, h.size, fun k hk _ => h.block k hk⟩
  refine ⟨D + 1, [{ target := .collected D, args := #[] }], V, { target := .fn (.func gf) lb, args := #[.func (.yield (D + 1)) #[] #[]] }, V, gf, #[.func (.yield (D + 1)) #[] #[]] ++ lb, V, ?_, ?_, fun _ _ => trivial, ?_, (fun h => by cases h), ?_⟩
  · rw [hV, hlp, hD]; exact run_enterLoop_outer _ _ _ _ _
  · simp only [resolve, hg]
    simp [go_sem]
  · simp [invoke, go_sem, eg]
  · have hnw : ∀ {A : World} {row : Option Nat}, (∀ r, row = some r → V.heap.size ≤ r ∧ ∃ o : Obj, A.heap[r]? = some o ∧ o.isWalk = true) → (∀ r, row = some r → w.heap.size ≤ r ∧ ∃ o : Obj, A.heap[r]? = some o ∧ o.isCells = false) :=
      fun hr r e => by obtain ⟨hB, o, ho, hw⟩ := hr r e; exact ⟨by omega, o, ho, Obj.not_cells_of_walk hw⟩
    refine (hseq (D + 1) (fun i A => I i A ∧ A.heap[D + 1]? = some (lp .ready none) ∧ A.heap[D]? = some (.deferred (some []))) (fun _ _ => False) V bV ?_ (fun _ _ _ _ h _ _ => h) ?_ ⟨?_, rV, dV⟩).mono ?_
    · rintro i A B row ⟨h1, h2, h3⟩ hb hr
      exact ⟨hI i A B row h1 hb (hnw hr), (grownBy_keeps hb (fun r e => (hr r e).2) h2 (by rw [hlp]; rfl)).trans h2, (grownBy_keeps hb (fun r e => (hr r e).2) h3 rfl).trans h3⟩
    · rintro pre x A ⟨hi, hl, hk⟩ hlen
      have hlt : D + 1 < A.heap.size := (Array.getElem?_eq_some_iff.1 hl).1
      have hy := run_yield (P := P) (args := encs x) (by rw [hlp] at hl; exact hl) (hps x)
      obtain ⟨busy, hbusy⟩ : ∃ o, o = Obj.loop { state := .busy, pending := none, fn, tmps := a.tmps, params := ps, assign, body, defers := D } := ⟨_, rfl⟩
      have hob : busy.isCells = false := by rw [hbusy]; rfl
      have how : busy.isWalk = false := by rw [hbusy]; rfl
      refine ⟨fn, _, assign, body, hy, roundIn_of_wpIn hfn (hassign _ x A _ fun A1 hb1 hE1 => ?_)⟩
      have hl1 : A1.heap[D + 1]? = some (lp .ready none) := (hb1.block _ hlt).trans hl
      have hk1 : A1.heap[D]? = some (.deferred (some [])) := (hb1.block _ (by omega)).trans hk
      have hi1 : I pre A1 := hI pre A A1 none hi (gB hb1) (fun _ e => by cases e)
      have hlt1 : D + 1 < A1.heap.size := (Array.getElem?_eq_some_iff.1 hl1).1
      have hbeg := run_beginRound (P := P) (by rw [hlp] at hl1; exact hl1) rfl
      refine ⟨_, hbeg, ?_⟩
      rw [show (Obj.loop { state := .busy, pending := none, fn, tmps := a.tmps, params := ps, assign, body, defers := D }) = busy from hbusy.symm]
      have hl2 : (A1.putObj (D + 1) busy).heap[D + 1]? = some busy := World.putObj_heap_same hlt1
      have hk2 : (A1.putObj (D + 1) busy).heap[D]? = some (.deferred (some [])) := (World.putObj_heap_other (by omega)).trans hk1
      have hlc : (lp .ready none).isCells = false := by rw [hlp]; rfl
      have hlw : (lp .ready none).isWalk = false := by rw [hlp]; rfl
      refine wpIn_mono (hbody _ pre x A.heap.size _ (hI.putObj _ hi1 (by omega) hl1 hlc) hlen (hE _ _ _ _ _ _ hE1 hl1 hlc)) ?_
      rintro e a3 B ⟨rfl, h1, h2, h3⟩
      have hl3 := h1.same _ _ hl2 hob
      have he := run_endRound (P := P) none (by rw [hbusy] at hl3; exact hl3)
      refine ⟨_, _, he, .inl ⟨rfl, ⟨hI.putObj _ h3 (by omega) hl3 hob, ?_, ?_⟩, hKt (hKw _ _ hb1) (hKt (hKt (hKb _ _ _ _ (by omega) hl1 hlc hlw) h2) (hKb _ _ _ _ (by omega) hl3 hob how))⟩⟩
      · rw [hlp]; exact World.putObj_heap_same (Array.getElem?_eq_some_iff.1 hl3).1
      · exact (World.putObj_heap_other (by omega)).trans (h1.same _ _ hk2 rfl)
    · exact hI [] w V none h0 (gB bV) (fun _ e => by cases e)
    · rintro e B ⟨⟨v, rfl⟩, (⟨xs, hS, hi, hl, hk⟩ | ⟨_, _, h⟩)⟩
      · rw [hlp] at hl
        exact ⟨none, _, run_endLoop (P := P) hl (by simp), hdone D xs _ (by omega) hS (hI.putObj _ hi (by omega) hl rfl) ((World.putObj_heap_other (by omega)).trans hk)⟩
      · exact h.elim

end Go.Proofs.YtgpkhfpejopacabGreatDoor.Gc

/- The walks of the library's Keys, at kinds. -/
namespace Go.Proofs.YtgpkhfpejopacabGreatDoor.Gc
open Go.RowKit Go.Shelf Go.Maps Go.Sort

attribute [local go_sem] Oper.semAt_some

theorem wpListIn_load_row {F : Fence} {n : Nat} {P : Program} {ops : Array Oper} {rest : List Oper} {o : Oper} {a : Act} {w : World} {Q : Exit → Act → World → Prop} (hgd : o.guard = none) (ty : TypeId) (x : Operand) (ho : o.op = .load ty x)
    (g : Nat) (hx : a.eval x = .pointer (some ⟨g, 0, none⟩)) (t : TypeId) (cs : Array Value) (fr : Nat × Nat) (d : TypeDesc) (hg : w.heap[g]? = some (.cells cs t fr))
    (hu : P.underlying ty = some d) (hd : (match d with | .struct _ | .array _ _ => true | _ => false) = true) (hi : (P.info? ty).map (·.size) = some cs.size)
    (h : wpListIn F n P ops Q rest (a.put o.dst (.agg cs)) w) : wpListIn F n P ops Q (o :: rest) a w := by
  refine wpListIn_plain hgd fun K hK' => ?_
  unfold Oper.wpIn
  refine ⟨?_, ?_⟩
  · simp [Oper.about, ho]
  · rw [Oper.semAt_plain F _ _ (by rw [ho]; intro c hc'; cases hc')]
    unfold execOp
    simp only [ho, hx, Instr.loadAt, Instr.sureAddr, Sem.run_bind, Sem.run_pure, Result.andThen_ok, run_loadVar_row w g t ty cs fr d hg hu hd hi]
    exact hK' _ _ h
theorem wpListIn_store_row {F : Fence} {n : Nat} {P : Program} {ops : Array Oper} {rest : List Oper} {o : Oper} {a : Act} {w : World} {Q : Exit → Act → World → Prop} (hgd : o.guard = none) (ty : TypeId) (x y : Operand) (ho : o.op = .store ty x y)
    (g : Nat) (cells : Array Value) (hx : a.eval x = .pointer (some ⟨g, 0, none⟩)) (hy : a.eval y = .agg cells)
    (t : TypeId) (old : Array Value) (hg : w.heap[g]? = some (.cells old t (0, 0))) (hi : (P.info? ty).map (·.size) = some cells.size)
    (hold : old.size = cells.size) (h1 : cells.all (·.oneCell') = true)
    (h : wpListIn F n P ops Q rest (a.put o.dst undef) (w.setRow g cells)) : wpListIn F n P ops Q (o :: rest) a w := by
  refine wpListIn_plain hgd fun K hK' => ?_
  unfold Oper.wpIn
  refine ⟨?_, ?_⟩
  · simp [Oper.about, ho]
  · rw [Oper.semAt_plain F _ _ (by rw [ho]; intro c hc'; cases hc')]
    unfold execOp
    simp only [ho, hx, hy, Instr.storeAt, Instr.sureAddr, Sem.run_bind, Sem.run_pure, Result.andThen_ok, run_storeVar_row w g t ty old cells hg hi hold h1]
    exact hK' _ _ h

/-- A kind that is handed out. -/
abbrev KK := {x : List Nat // SmK x}
def kkE (x : KK) : Array Value := #[mv x.1]
def kkL (l : List KK) : List (List Nat) := l.map fun x => x.1
/-- What has come: each once, all of L that is no longer left. -/
def KColl (L : List (List Nat)) (left : Lit → Bool) (ss : List (List Nat)) : Prop := ss.Nodup ∧ ∀ y, y ∈ ss ↔ y ∈ L ∧ left (keyK y) = false
theorem KColl.start {D : DataW Unit} {L : List (List Nat)} (h : KindsIs D L) : KColl L (Maps.has D) [] := ⟨List.nodup_nil, fun y => ⟨fun q => absurd q (by simp), fun q => by rw [h.mem y q.1] at q; exact absurd q.2 (by simp)⟩⟩
theorem KColl.step {L : List (List Nat)} {left : Lit → Bool} {ss : List (List Nat)} (h : KColl L left ss) (hL : ∀ y ∈ L, SmK y) {x : List Nat} (hx : x ∈ L) (hl : left (keyK x) = true) : KColl L (fun z => left z && !z.sameKey (keyK x)) (ss ++ [x]) := by
  have hs : (keyK x).sameKey (keyK x) = true := WideAt.sameKey_self (keyK_lit (hL x hx))
  refine ⟨List.nodup_append.2 ⟨h.1, by simp, fun a ha b hb => ?_⟩, fun y => ?_⟩
  · obtain rfl : b = x := by simpa using hb
    rintro rfl
    have := ((h.2 a).1 ha).2
    rw [hl] at this; cases this
  · rw [List.mem_append, h.2 y, List.mem_singleton]
    by_cases e : y = x
    · subst e
      simp [hx, hl, hs]
    · constructor
      · rintro (⟨h1, h2⟩ | h1)
        · exact ⟨h1, by simp [h2]⟩
        · exact absurd h1 e
      · rintro ⟨h1, h2⟩
        have hne : (keyK y).sameKey (keyK x) = false := sameKey_ne fun e1 => e (keyK_inj (hL y h1) (hL x hx) e1)
        simp only [hne, Bool.not_false, Bool.and_true] at h2
        exact .inl ⟨h1, h2⟩

set_option maxRecDepth 100000 in
set_option maxHeartbeats 1000000 in
theorem Keys_any (B : Nat) (w : World) : Calls Tryz.prog 94 #[.map (some B)] w fun e w' => e = .returned (.func (.func 131) #[] #[.pointer (some ⟨w.heap.size, 0, none⟩)]) ∧ w' = w.alloc (.cells #[.map (some B)] 89) := by
  go_enter Tryz.func94, Tryz.ntmps94
  go_wp2
  go_ret
  exact ⟨rfl, rfl⟩

set_option maxRecDepth 100000 in
set_option maxHeartbeats 4000000 in
theorem keys_seq (n Bm B nn : Nat) (D : DataW Unit) (L : List (List Nat)) (w : World) (hm : w.cell? ⟨Bm, 0, none⟩ = some (.map (some B))) (hown : w.ownsMap Tryz.prog 136 (plainElem Tryz.prog 3) B nn D) (hD : KindsIs D L) (hL : ∀ y ∈ L, SmK y) :
    SeqStopsK Fence.wide n Tryz.prog 131 #[.pointer (some ⟨Bm, 0, none⟩)] kkE KeepsWalks (fun xs => KColl L (fun _ => false) (kkL xs)) (fun _ => True) (Maps.size D) w := by
  intro l J Jx W hbW hJ _ hY hJ0
  have hm1 : W.cell? ⟨Bm, 0, none⟩ = some (.map (some B)) := (hbW.cell (p := ⟨Bm, 0, none⟩) (block_lt_of_cell hm)).trans hm
  have hown1 := kinds_below hown hbW
  clear hm hown
  obtain ⟨S0, HS0⟩ : ∃ S0, Hid (Maps.size D = S0) := ⟨_, rfl⟩
  rw [HS0.out] at hY
  have HY : Hid (∀ pre x W1, J pre W1 → pre.length < S0 → YieldAt Fence.wide (n - 1) Tryz.prog l (kkE x) W1 fun e W' => (e = .returned (.bool true) ∧ J (pre ++ [x]) W' ∧ KeepsWalks W1 W') ∨ (e = .returned (.bool false) ∧ Jx (pre ++ [x]) W')) := hY
  have HJ : Hid (AbidesFrom W.heap.size J) := hJ
  have HL : Hid (∀ y ∈ L, SmK y) := hL
  have HD : Hid (KindsIs D L) := hD
  clear hY hJ hL hD
  refine callsIn_of_wp Tryz.func131 rfl trivial ?_ rfl
  simp only [Tryz.ntmps131, List.size_toArray, List.length_cons, List.length_nil, Nat.reduceAdd, Nat.reduceSub, Array.replicate_succ, Array.replicate_zero, List.push_toArray, List.append_toArray, List.nil_append, List.cons_append]
  gi_wp2_with (first
    | (gi_at_range; refine wpListIn_range_own _ rfl _ 89 rfl 136 3 keyed75 und52k _ B nn _ rfl hown1 ?_; intro w0 hrg0 hg0 hs0)
    | gi_in)
  go_frame
  rw [HS0.out] at hrg0
  gi_loopw [3] (fun _ wr => ∃ (left : Lit → Bool) (cnt : Nat) (ss : List KK), wr.ranges (Tryz.prog) 136 (plainElem Tryz.prog 3) B W.heap.size nn D left cnt ∧ ss.length + cnt ≤ S0 ∧ KColl L left (kkL ss) ∧ J ss wr)
    (fun _ wr => wr.rangeLeft B W.heap.size)
  case atStart =>
    exact ⟨_, _, [], hrg0, by simp, KColl.start HD.out, HJ.out [] W w0 none hJ0 hg0 (fun r e => by cases e)⟩
  case round =>
    clear hrg0 hg0 hs0 hJ0 hm1
    obtain ⟨left, cnt, ss, hrg, hcs, hC, hJs⟩ := hrel
    gi_wp2_with (first
      | (gi_at_next; refine wpListIn_next_ranges _ rfl _ rfl 136 keyed75 (plainElem Tryz.prog 3) (fun v : Value => v) id (fun key kl _ => ⟨key, rfl⟩) (fun v _ _ => ⟨v, rfl⟩) B W.heap.size nn _ _ _ rfl hrg ?_ ?_)
      | gi_in)
    · intro hc0 hl0
      have HC : Hid (KColl L (fun _ => false) (kkL ss)) := by
        have e : left = fun _ => false := funext hl0
        rw [e] at hC; exact hC
      clear hC hl0
      gi_wp2
      go_end0
      exact ⟨⟨_, rfl⟩, .inl ⟨ss, HC.out, hJs⟩⟩
    · intro key c kl yd yp w2 cnt2 hkey hlk hv hat hrg2 hlt hg2 hs2 hen
      obtain ⟨x, hxL, ekl⟩ := HD.out.has kl (has_true_of_atKey hat)
      subst ekl
      have hxs := HL.out x hxL
      have ek : key = mv x := keyed75.inj hkey (keyK_of hxs)
      subst ek
      have hJ2 : J ss w2 := HJ.out ss wr w2 (some W.heap.size) hJs hg2 (fun r e => by cases e; exact ⟨Nat.le_refl _, hrg.iter_walk⟩)
      have HC2 : Hid (KColl L (fun z => left z && !z.sameKey (keyK x)) (kkL (ss ++ [⟨x, hxs⟩]))) := by
        have := hC.step HL.out hxL hlk
        show KColl _ _ _
        unfold kkL at this ⊢
        rw [List.map_append]
        exact this
      clear hC
      have HYx := fun W1 (h : J ss W1) => HY.out ss ⟨x, hxs⟩ W1 h (by omega)
      unfold kkE at HYx
      unfold mv at hen HYx ⊢
      obtain ⟨G, HG⟩ : ∃ G : Nat → Int, Hid ((fun j => (x.getD j 0 : Int)) = G) := ⟨_, rfl⟩
      simp only [HG.out] at HYx
      rw [HG.out] at hen ⊢
      have hk0 := MRow.made 136 w2 (fun _ => 0)
      have hB0 := balloc w2 (.cells (mrow fun _ => 0) 136)
      have hk1 := hk0.whole G
      have hB1 : Below w2.heap.size w2 ((w2.alloc (.cells (mrow fun _ => 0) 136)).setRow w2.heap.size (mrow G)) := bsetRow hB0 (Nat.le_refl _) _
      have hJ3 : J ss ((w2.alloc (.cells (mrow fun _ => 0) 136)).setRow w2.heap.size (mrow G)) := HJ.out ss w2 _ none hJ2 (grown_of_below hB1) (fun r e => by cases e)
      have hrg3 := hrg2.kept (grown_of_below hB1) (by simp) (by simp)
      obtain ⟨fn, tmps, assign, body, hy, hR⟩ := HYx _ hJ3
      rw [← mrow_zero] at hk0
      have HR := hR
      clear hkey hv hat hxL hs2 HYx hR
      gi_wp2_with (first
        | (refine wpListIn_store_row rfl 136 _ _ rfl w2.heap.size _ rfl rfl 136 _ hk0 (inf75 _) (by simp) (mrow_one _) ?_; rw [mrow_zero])
        | (refine wpListIn_load_row rfl 136 _ rfl w2.heap.size rfl 136 _ (0, 0) _ hk1 und75 rfl (inf75 _) ?_)
        | gi_in)
      refine ⟨(fun h => by cases h), HR.mono ?_⟩
      rintro e W3 (⟨rfl, hJ4, hk4⟩ | ⟨rfl, hJx4⟩)
      · gi_wp2
        have hrg4 := hrg3.of_walks hk4
        go_roundw
        case rel => exact ⟨_, cnt2, _, hrg4, by simp; omega, HC2.out, hJ4⟩
        case measure => rw [hrg4.left_eq, hrg.left_eq]; exact hlt
      · gi_wp2
        refine bodyPost_ret (results_none rfl _ _ _) rfl ?_
        exact ⟨⟨_, rfl⟩, .inr ⟨_, trivial, hJx4⟩⟩

end Go.Proofs.YtgpkhfpejopacabGreatDoor.Gc

namespace Go.Proofs.YtgpkhfpejopacabGreatDoor.Gc
open Go.RowKit Go.Shelf Go.Maps Go.Sort

attribute [local go_sem] Oper.semAt_some

set_option maxRecDepth 100000 in
theorem und76s : Tryz.prog.underlying 138 = some (.slice 136) := by kernel_rfl
set_option maxRecDepth 100000 in
theorem info75 : ∃ i, Tryz.prog.info? 136 = some i ∧ i.zero = some (.agg (mrow fun _ => 0)) ∧ i.size = 7 ∧ i.bytes = 56 := by
  cases h : Tryz.prog.info? 136 with
  | none => exact absurd (show (Tryz.prog.info? 136).isSome = true by kernel_rfl) (by simp [h])
  | some i =>
    have h1 : (Tryz.prog.info? 136).bind (·.zero) = some (.agg (mrow fun _ => 0)) := by kernel_rfl
    have h2 : (Tryz.prog.info? 136).map (·.size) = some 7 := by kernel_rfl
    have h3 : (Tryz.prog.info? 136).map (·.bytes) = some 56 := by kernel_rfl
    rw [h] at h1 h2 h3
    exact ⟨i, rfl, by simpa using h1, by simpa using h2, by simpa using h3⟩
theorem kkL_snoc (l : List KK) (x : KK) : (kkL (l ++ [x])).flatMap mvL = (kkL l).flatMap mvL ++ mvL x.1 := by simp [kkL]

set_option maxRecDepth 100000 in
set_option maxHeartbeats 4000000 in
theorem AppendSeq_any (Bm B nn : Nat) (D : DataW Unit) (L : List (List Nat)) (w : World) (hm : w.cell? ⟨Bm, 0, none⟩ = some (.map (some B))) (hown : w.ownsMap Tryz.prog 136 (plainElem Tryz.prog 3) B nn D) (hD : KindsIs D L) (hL : ∀ y ∈ L, SmK y) (hnn : nn ≤ 6000) :
    Calls Tryz.prog 158 #[.slice none 0 0, .func (.func 131) #[] #[.pointer (some ⟨Bm, 0, none⟩)]] w fun e w' => ∃ u xs, e = .returned u ∧ KColl L (fun _ => false) xs ∧ w'.ownsRow w.heap.size 136 7 u xs.length (xs.flatMap mvL) ∧ Below w.heap.size w w' := by
  obtain ⟨i75, ti, tz0, tz1, tz2⟩ := info75
  have hsz := hown.size_le
  refine (callsIn_wide (n := 4)).1 ?_
  obtain ⟨w1, Hw1⟩ : ∃ w1, Hid (w1 = w.alloc (.cells #[.slice none 0 0] 138)) := ⟨_, rfl⟩
  have hB1 : Below w.heap.size w w1 := by rw [Hw1.out]; exact balloc w _
  have hs1 : w1.heap.size = w.heap.size + 1 := by rw [Hw1.out]; simp
  have hob : Boxed w1 w.heap.size 138 (.slice none 0 0) := by rw [Hw1.out]; exact Boxed.new w 138 (.slice none 0 0)
  have hm1 : w1.cell? ⟨Bm, 0, none⟩ = some (.map (some B)) := (hB1.cell (p := ⟨Bm, 0, none⟩) (block_lt_of_cell hm)).trans hm
  have HSQ := keys_seq 3 Bm B nn D L w1 hm1 (kinds_below hown hB1) hD hL
  refine callsIn_of_wp_marks Tryz.func158 rfl trivial ?_ rfl
  simp only [Tryz.ntmps158, List.size_toArray, List.length_cons, List.length_nil, Nat.reduceAdd, Nat.reduceSub, Array.replicate_succ, Array.replicate_zero, List.push_toArray, List.append_toArray, List.nil_append, List.cons_append]
  gi_wp2
  rw [← Hw1.out]
  refine wpIn_rangeFunc_asg (gf := 131) (lb := #[.pointer (some ⟨Bm, 0, none⟩)]) rfl (enters_of Tryz.func131 (by kernel_rfl) rfl) HSQ (fun _ => rfl) (fun h k => h.trans k) (fun W l o o' _ h _ hw => KeepsWalks.putObj _ h hw) (fun A B h => (keepsOthers_below h).walks)
    (fun pre W => (∃ u, Boxed W w.heap.size 138 u ∧ W.ownsRow w1.heap.size 136 7 u pre.length ((kkL pre).flatMap mvL) ∧ True) ∧ w1.heap.size ≤ W.heap.size ∧ Below w.heap.size w W)
    (OwnFrom.and (Own.from (holdsRow_own w1.heap.size w.heap.size 138 136 7 (fun pre => pre.length) (fun pre => (kkL pre).flatMap mvL) (fun _ _ => True)) _) (OwnFrom.and ownFrom_size (ownFrom_below (Nat.le_refl _) (by omega))))
    ⟨⟨_, hob, World.ownsRow_nil _ _ _ _, trivial⟩, Nat.le_refl _, hB1⟩
    (fun x b => { tmps := #[.slice none 0 0, .func (.func 131) #[] #[.pointer (some ⟨Bm, 0, none⟩)], .pointer (some ⟨w.heap.size, 0, none⟩), undef, .slice none 0 0, .pointer (some ⟨b, 0, none⟩), .func (.func 131) #[] #[.pointer (some ⟨Bm, 0, none⟩)], mv x.1, undef, undef, undef, undef, undef], defers := [] })
    (fun x b W => MRow 136 W b (fun j => (x.1.getD j 0 : Int))) ?he ?assign ?body ?done
  case he =>
    intro x b W l o o' h ho hc
    refine (World.putObj_heap_other (fun e => ?_)).trans h
    subst e
    have h' : W.heap[b]? = _ := h
    rw [h'] at ho
    cases ho
    cases hc
  case assign =>
    rintro l ⟨x, hx⟩ W K hK
    simp only [kkE]
    unfold mv at hK ⊢
    obtain ⟨G, HG⟩ : ∃ G : Nat → Int, Hid ((fun j => (x.getD j 0 : Int)) = G) := ⟨_, rfl⟩
    simp only [HG.out] at hK ⊢
    have hk0 := MRow.made 136 W (fun _ => 0)
    have hB0 := balloc W (.cells (mrow fun _ => 0) 136)
    have hk1 := hk0.whole G
    have hB2 : Below W.heap.size W ((W.alloc (.cells (mrow fun _ => 0) 136)).setRow W.heap.size (mrow G)) := bsetRow hB0 (Nat.le_refl _) _
    have HK := hK _ hB2 hk1
    rw [← mrow_zero] at hk0
    clear hK hk1 hB2 hB0 HSQ
    gi_wp2_with (first
      | (refine wpListIn_store_row rfl 136 _ _ rfl W.heap.size _ rfl rfl 136 _ hk0 (inf75 _) (by simp) (mrow_one _) ?_; rw [mrow_zero])
      | gi_in)
    exact HK
  case body =>
    rintro l pre ⟨x, hx⟩ b W ⟨⟨u, hu, hrow, _⟩, hsz1, hbw⟩ hlen hE
    obtain ⟨a', c', rfl⟩ : ∃ a' c', u = .slice a' pre.length c' := by
      rcases hrow.2 with ⟨rfl, h0⟩ | ⟨g, c, cur, rfl, _⟩
      · exact ⟨none, 0, by rw [h0]⟩
      · exact ⟨_, c, rfl⟩
    have hoc := hu.cell
    obtain ⟨X, HX⟩ : ∃ X, Hid (mvL x = X) := ⟨_, rfl⟩
    have hE' : W.heap[b]? = some (.cells (mvL x).toArray 136 (0, 0)) := hE
    have hX7 : X.length = 7 := by rw [← HX.out]; exact mvL_len x
    have hX1 : ∀ v ∈ X, v.oneCell' = true := by rw [← HX.out]; exact mvL_one x
    have hsn := kkL_snoc pre ⟨x, hx⟩
    simp only [mv_eq]
    simp only [HX.out] at hE' hsn ⊢
    have hi75 : (Tryz.prog.info? 136).map (·.size) = some X.toArray.size := by rw [List.size_toArray, hX7]; kernel_rfl
    obtain ⟨k, Hk⟩ : ∃ k, Hid (pre.length = k) := ⟨_, rfl⟩
    have hk6 : k < 6000 := by rw [← Hk.out]; omega
    rw [Hk.out] at hu hrow hoc
    have hb5 := balloc W (.cells X.toArray 136)
    have hrow5 := hrow.alloc (.cells X.toArray 136)
    have hnew : ∀ j v, X[j]? = some v → (W.alloc (.cells X.toArray 136)).cell? ((⟨W.heap.size, 0, none⟩ : Addr).add j) = some v := fun j v hv => by
      rw [Addr.add_mid, Nat.zero_add, cell_of_row _ _ _ _ _ _ (heap_alloc_new W (.cells X.toArray 136)), List.getElem?_toArray]
      exact hv
    clear hE hm hown hD hL HSQ
    gi_wp2_with (first
      | (refine wpListIn_load_row rfl 136 _ rfl b rfl 136 _ (0, 0) _ hE' und75 rfl hi75 ?_)
      | (rw [fill7 hX7])
      | (gi_at_builtin; refine wpListIn_append_own _ rfl _ _ 138 rfl w1.heap.size 136 i75 (.agg (mrow fun _ => 0)) 7 56 und76s ti tz0 tz1 tz2 (by simp [Value.cells]) (by omega) (.slice a' k c') k ((kkL pre).flatMap mvL) rfl hrow5 ⟨W.heap.size, 0, none⟩ 1 1 X rfl (by rw [hX7]) hnew hX1 (by unfold maxLen; omega) (by omega) (by simp; omega) ?_; intro v' w2 hown' hgrow _; obtain ⟨g2, cap2, rfl⟩ := ownsRow_succ hown'; obtain ⟨f1, f2, f3, f4, f5, f6⟩ := appFacts (S := fun _ => False) (lo := w.heap.size) (by decide) hu hrow hb5 (fun _ h => h.elim) (fun h => h) hsz1 ⟨Nat.le_refl _, hB1.size⟩ hown' hgrow; have f1c := f1.cell; have f1f := f1.frozen)
      | gi_in)
    refine ⟨f4.walks, ⟨_, f2, ?_⟩, ?_, hbw.trans f6⟩
    · rw [← hs1, Hk.out]
      exact f3
    · have h9 := Nat.le_trans hsz1 f4.size
      rw [hs1] at h9
      simpa using h9
  case done =>
    rintro D2 xs W hD2 hxs ⟨⟨u, hu, hrow, _⟩, hsz1, hbw⟩ hK
    have hc := hu.cell
    gi_wp2
    refine ⟨by simp, .inl ⟨_, _, rfl, run_takeDeferred hK, ?_⟩⟩
    refine ⟨_, results_tmp rfl _ _ _, u, kkL xs, rfl, hxs, ?_, hbw.trans (belowK_b (w := w) (Nat.le_refl _) W D2 _ _ (by omega) hK rfl rfl)⟩
    have := ownsRow_putObj (ownsRow_base hrow hB1.size) (.deferred none) hK rfl
    rw [show (kkL xs).length = xs.length by simp [kkL]]
    exact this

set_option maxRecDepth 100000 in
set_option maxHeartbeats 1000000 in
theorem Collect_any (Bm B nn : Nat) (D : DataW Unit) (L : List (List Nat)) (w : World) (hm : w.cell? ⟨Bm, 0, none⟩ = some (.map (some B))) (hown : w.ownsMap Tryz.prog 136 (plainElem Tryz.prog 3) B nn D) (hD : KindsIs D L) (hL : ∀ y ∈ L, SmK y) (hnn : nn ≤ 6000) :
    Calls Tryz.prog 129 #[.func (.func 131) #[] #[.pointer (some ⟨Bm, 0, none⟩)]] w fun e w' => ∃ u xs, e = .returned u ∧ KColl L (fun _ => false) xs ∧ w'.ownsRow w.heap.size 136 7 u xs.length (xs.flatMap mvL) ∧ Below w.heap.size w w' := by
  have C := AppendSeq_any Bm B nn D L w hm hown hD hL hnn
  clear hm hown hD hL
  go_enter Tryz.func129, Tryz.ntmps129
  go_wp2_with (go_at_call 158; refine C.mono ?_; rintro e w1 ⟨u, xs, rfl, h1, h2, b1⟩)
  go_ret
  exact ⟨_, xs, rfl, h1, h2, b1⟩

end Go.Proofs.YtgpkhfpejopacabGreatDoor.Gc

/- What TopOrbits asks beside its calls: conjugates are alike, and stay in the group; the index's sum. -/
/- The walk of Content. -/
/- The walk of filled. -/
namespace Go.Proofs.YtgpkhfpejopacabGreatDoor.Gc
open Go.RowKit Go.Maps Go.Shelf

theorem clone_room (many : List Nat) (u : Value) (w : World) (hu : Sl w u (many.map Int.ofNat)) (h1 : 1 ≤ many.length) (h8 : many.length ≤ 8) :
    Calls Tryz.prog 92 #[u] w fun e w' => (∃ g cap, e = .returned (.slice (some ⟨g, 0, none⟩) many.length cap) ∧ w.heap.size ≤ g ∧ Own w' g many.length (fun j => (many.getD j 0 : Int))) ∧ Below w.heap.size w w' := by
  obtain ⟨i3, ti, tz0, tz1, tz2⟩ := info3
  obtain ⟨a, cap, rfl, hc⟩ := hu
  rw [List.length_map] at hc ⊢
  obtain ⟨b, off, rfl, _⟩ := hc 0 (by omega)
  have hnews : ∀ j v, (vl many)[j]? = some v → w.cell? ⟨b, off + j, none⟩ = some v := fun j v hv => by
    have hj : j < many.length := by have := (List.getElem?_eq_some_iff.1 hv).1; simpa [vl] using this
    obtain ⟨b', off', e, h⟩ := hc j hj
    simp only [Option.some.injEq, Addr.mk.injEq, and_true] at e
    obtain ⟨rfl, rfl⟩ := e
    rw [h]
    simp [vl, hj] at hv ⊢
    exact hv
  have C := AnyE.slices_Clone cloneInt i3 (.int .i64 0) 1 8 ti tz0 tz1 tz2 (by simp [Value.cells]) (by omega) sizeOf3' b off many.length cap (vl many) w (by simp [vl]) (by unfold maxLen; omega) (by omega) hnews (fun u hu => by
    simp only [vl, List.mem_map] at hu
    obtain ⟨x, _, rfl⟩ := hu
    rfl)
  change Calls Tryz.prog 92 _ _ _ at C
  refine C.mono (fun e w' ⟨v', e1, e2, _, e4⟩ => ?_)
  obtain ⟨g, cap, rfl, hg, hO⟩ := Own.of (l := many.map Int.ofNat) e2 h1
  refine ⟨⟨g, cap, e1, hg, hO.congr fun j hj => ?_⟩, e4⟩
  simp [hj]

theorem lenIs_of_own {w w' : World} {base g : Nat} {u : Value} {ls : List Nat} (h : w.ownsRow base 3 1 u ls.length (intL ls)) (hb : Below w.heap.size w w') (hg : w.heap.size ≤ g) : LenIs w' g u ls := by
  obtain ⟨_, ⟨rfl, h0⟩ | ⟨b, cap, cur, rfl, _, hcur, hle, _, hsz, ht⟩⟩ := h
  · exact ⟨none, 0, by rw [h0], by omega, fun j hj => absurd hj (by omega)⟩
  · have hbl : b < w.heap.size := (Array.getElem?_eq_some_iff.1 hcur).1
    refine ⟨_, cap, rfl, hle, fun j hj => ⟨b, 0, rfl, by omega, ?_⟩⟩
    rw [hb.cell (p := ⟨b, 0 + j, none⟩) hbl, cell_of_row w b _ cur 3 (0, 0) hcur]
    have h2 : (cur.toList.take (ls.length * 1))[j]? = (intL ls)[j]? := by rw [ht]
    rw [List.getElem?_take, if_pos (by omega)] at h2
    rw [Nat.zero_add, ← Array.getElem?_toList, h2]
    simp [intL, hj]
theorem desc_mem {x : List Nat} {v : Nat} (h : v ∈ desc x 7) : v ≤ 7 := by
  have := List.count_pos_iff.2 h
  rw [count_desc] at this
  split at this <;> omega
theorem desc_len7 {x : List Nat} (h : SmK x) (h7 : x.sum ≤ 7) : (desc x 7).length ≤ 7 := by
  rw [desc_len]
  have := all7_sum h.1
  unfold all7 at this
  omega
theorem Only.grown {g : Nat} {w w' : World} (h : Only g w w') : w.grownBy w' (some g) := ⟨h.1.os, h.1.tape, h.1.output, Nat.le_of_eq h.2.1.symm, fun k _ hk => h.2.2 k (fun e => hk (by rw [e]))⟩
theorem sum_one (L : List (List Nat)) : (L.map fun _ => (1 : Int)).sum = L.length := by
  induction L with
  | nil => rfl
  | cons a l ih => rw [List.map_cons, List.sum_cons, ih, List.length_cons]; omega
theorem sum_bd {L : List (List Nat)} {F : List Nat → Int} {M : Int} (h : ∀ y ∈ L, F y ≤ M) : (L.map F).sum ≤ L.length * M := by
  induction L with
  | nil => simp
  | cons a l ih =>
    have h1 := ih fun y hy => h y (by simp [hy])
    have h2 := h a (by simp)
    rw [List.map_cons, List.sum_cons, List.length_cons, Int.natCast_succ, Int.add_mul, Int.one_mul]
    omega

set_option maxRecDepth 100000 in
set_option maxHeartbeats 4000000 in
theorem filled_any (B n : Nat) (D : DataW Unit) (L : List (List Nat)) (many : List Nat) (u : Value) (w : World) (hown : w.ownsMap Tryz.prog 136 (plainElem Tryz.prog 3) B n D) (hD : KindsIs D L) (hL : ∀ y ∈ L, SmK y ∧ y.sum ≤ 7) (hLl : L.length ≤ 6000) (hL1 : 1 ≤ L.length)
    (hu : Sl w u (many.map Int.ofNat)) (h1 : 1 ≤ many.length) (h8 : many.length ≤ 8) (h7 : ∀ c, many.getD c 0 ≤ 7) :
    Calls Tryz.prog 46 #[.map (some B), u] w fun e w' => e = .returned (.int .i64 ((L.map fun y => (fillsN many.length (desc y 7) (fun c => many.getD c 0) : Int)).sum.tdiv (L.length : Int))) ∧ Below w.heap.size w w' := by
  have hbl := hown.lt
  have hsz := hown.size_le
  have HL : Hid (∀ y ∈ L, SmK y ∧ y.sum ≤ 7) := hL
  have HL' : Hid (∀ y ∈ L, SmK y) := fun y hy => (hL y hy).1
  have HD : Hid (KindsIs D L) := hD
  obtain ⟨S0, HS0⟩ : ∃ S0, Hid (Maps.size D = S0) := ⟨_, rfl⟩
  rw [HS0.out] at hsz
  obtain ⟨k, Hk⟩ : ∃ k, Hid (many.length = k) := ⟨_, rfl⟩
  have HC := fun (W : World) (b : Below w.heap.size w W) => clone_room many u W (hu.below b) h1 h8
  rw [Hk.out] at HC h1 h8 ⊢
  obtain ⟨room, Hroom⟩ : ∃ room : Nat → Nat, Hid ((fun c => many.getD c 0) = room) := ⟨_, rfl⟩
  have er : (fun j => (many.getD j 0 : Int)) = fun j => (room j : Int) := by rw [← Hroom.out]
  rw [er] at HC
  replace h7 : ∀ c, room c ≤ 7 := by rw [← Hroom.out]; exact h7
  rw [Hroom.out]
  obtain ⟨F, HF⟩ : ∃ F : List Nat → Int, Hid ((fun y => (fillsN k (desc y 7) room : Int)) = F) := ⟨_, rfl⟩
  rw [HF.out]
  have HFe : Hid (∀ y, F y = (fillsN k (desc y 7) room : Int)) := fun y => by rw [← HF.out]
  have HF0 : ∀ y, 0 ≤ F y := fun y => by rw [HFe.out]; exact Int.natCast_nonneg _
  have HF9 : ∀ y ∈ L, F y ≤ 2097152 := fun y hy => by
    rw [HFe.out]
    have h2 := fills_le k (desc y 7) room
    have h3 := pow8 h8 (desc_len7 (hL y hy).1 (hL y hy).2)
    omega
  have hsF := sum_bd HF9
  have hs1 := sum_one L
  have HST : Hid (sumK L (Maps.has D) (fun _ => 1) = 0 ∧ sumK L (Maps.has D) F = 0) := ⟨sumK_start hD _, sumK_start hD _⟩
  have HBD : Hid (∀ left, 0 ≤ sumK L left (fun _ => 1) ∧ sumK L left (fun _ => 1) ≤ 6000 ∧ 0 ≤ sumK L left F ∧ sumK L left F ≤ 12582912000) := fun left => by
    have e1 := sumK_bd (L := L) (left := left) (F := fun _ => (1 : Int)) (fun _ => by omega)
    have e2 := sumK_bd (L := L) (left := left) (F := F) HF0
    have : (L.length : Int) * 2097152 ≤ 6000 * 2097152 := Int.mul_le_mul_of_nonneg_right (by omega) (by omega)
    omega
  have HFF : Hid (∀ y ∈ L, 0 ≤ F y ∧ F y ≤ 2097152) := fun y hy => ⟨HF0 y, HF9 y hy⟩
  obtain ⟨tot, Htot⟩ : ∃ tot, Hid ((L.map F).sum = tot) := ⟨_, rfl⟩
  obtain ⟨len, Hlen⟩ : ∃ len : Nat, Hid (L.length = len) := ⟨_, rfl⟩
  rw [Htot.out, Hlen.out]
  rw [Hlen.out] at hLl hL1
  obtain ⟨R, HR⟩ : ∃ R : Int, Hid (tot.tdiv (len : Int) = R) := ⟨_, rfl⟩
  rw [HR.out]
  have H7 : Hid (∀ c, room c ≤ 7) := h7
  have Hfill : Hid (FillsP k = FillsP k ∧ ∀ ls, FillsP k ls) := ⟨rfl, fills_any k h8⟩
  clear hL hD h7 HF0 HF9 hsF hs1 er
  obtain ⟨ua, um, uc, rfl⟩ : ∃ a m c, u = .slice a m c := by obtain ⟨a, c, e, _⟩ := hu; exact ⟨a, _, c, e⟩
  go_enter Tryz.func46, Tryz.ntmps46
  go_wp2_with (first
    | (at_range; refine wpList_range_own _ rfl _ 89 rfl 136 3 keyed75 und52k _ B n _ rfl hown ?_; intro w0 hrg0 hg0 hs0)
    | go_in)
  try go_frame
  go_loopw [5, 6] (fun a b wr => ∃ (left : Lit → Bool) (cnt : Nat), wr.ranges (Tryz.prog) 136 (plainElem Tryz.prog 3) B w.heap.size n D left cnt ∧ a = .int .i64 (sumK L left (fun _ => 1)) ∧ b = .int .i64 (sumK L left F) ∧ Below w.heap.size w wr)
    (fun _ _ wr => wr.rangeLeft B w.heap.size)
  case atStart =>
    exact ⟨_, _, hrg0, by rw [HST.out.1], by rw [HST.out.2], (Below.refl _ _).grown hg0 (Nat.le_refl _) (fun j hj => by cases hj)⟩
  case round =>
    clear HST hrg0 hg0 hs0
    obtain ⟨left, cnt, hrg, rfl, rfl, hnx⟩ := hrel
    obtain ⟨t, Ht⟩ : ∃ t, Hid (sumK L left (fun _ => 1) = t) := ⟨_, rfl⟩
    obtain ⟨s, Hs⟩ : ∃ s, Hid (sumK L left F = s) := ⟨_, rfl⟩
    obtain ⟨hb1, hb2, hb3, hb4⟩ := HBD.out left
    rw [Ht.out] at hb1 hb2
    rw [Hs.out] at hb3 hb4
    rw [Ht.out, Hs.out]
    go_wp2_with (first
      | (at_next; refine wpList_next_ranges _ rfl _ rfl 136 keyed75 (plainElem Tryz.prog 3) (fun v : Value => v) (Value.int .i64) (fun key kl _ => ⟨key, rfl⟩) (fun v y hv => by obtain ⟨c, rfl, _⟩ := plainElem_int_inv und3 hv; exact ⟨c, rfl⟩) B w.heap.size n _ _ _ rfl hrg ?_ ?_)
      | go_in)
    · intro hc0 hl0
      have e1 : t = (len : Int) := by rw [← Ht.out, sumK_all hl0, sum_one, Hlen.out]
      have e2 : s = tot := by rw [← Hs.out, sumK_all hl0, Htot.out]
      have HRR : Hid (s / t = R) := by
        show s / t = R
        rw [← HR.out, ← e1, ← e2, Int.tdiv_eq_ediv_of_nonneg (by omega)]
      have hRb : R ≤ s := by rw [← HRR.out]; exact Int.ediv_le_self _ (by omega)
      have hR0 : 0 ≤ R := by rw [← HRR.out]; exact Int.ediv_nonneg (by omega) (by omega)
      have ht0 : t ≠ 0 := by omega
      have hRR := HRR.out
      clear e1 e2 hl0
      go_wp2
      go_ret
      exact ⟨ret_int hRR, hnx⟩
    · intro key c kl yd yp w1 cnt1 hkey hlk hv hat hrg1 hlt hg1 hs1 hen
      obtain ⟨x, hxL, ekl⟩ := HD.out.has kl (has_true_of_atKey hat)
      subst ekl
      obtain ⟨hxs, hx7⟩ := HL.out x hxL
      have ek : key = mv x := keyed75.inj hkey (keyK_of hxs)
      subst ek
      obtain ⟨c', ec, ey, hwc⟩ := plainElem_int_inv und3 hv
      cases ec
      have hcx : c = (L.count x : Int) := by
        have h1 := hat (.lit (.int .i64 0))
        have ey1 : yd = .lit (.int .i64 c) := (Prod.mk.inj ey).1
        rw [HD.out.at_ x hxL, ey1] at h1
        simp only [DataW.lit.injEq, Lit.int.injEq, true_and] at h1
        exact h1.symm
      have hc1 : 1 ≤ c := by
        have := List.count_pos_iff.2 hxL
        omega
      have hc2 : c ≤ 6000 := by
        have := List.count_le_length (a := x) (l := L)
        rw [Hlen.out] at this
        omega
      have hnx1 : Below w.heap.size w w1 := hnx.grown hg1 hnx.size (fun j hj => by cases hj; omega)
      have hsize1 : w.heap.size < w1.heap.size := hrg1.lt
      unfold mv at hen ⊢
      obtain ⟨G, HG⟩ : ∃ G : Nat → Int, Hid ((fun j => (x.getD j 0 : Int)) = G) := ⟨_, rfl⟩
      rw [HG.out] at hen ⊢
      have hk0 := MRow.made 136 w1 (fun _ => 0)
      have hB0 := balloc w1 (.cells (mrow fun _ => 0) 136)
      have hk1 := hk0.whole G
      have hB1 : Below w1.heap.size w1 ((w1.alloc (.cells (mrow fun _ => 0) 136)).setRow w1.heap.size (mrow G)) := bsetRow hB0 (Nat.le_refl _) _
      have hCl := fun W => lengths_any x W hxs
      unfold mv at hCl
      rw [HG.out] at hCl
      obtain ⟨ls, Hls⟩ : ∃ ls, Hid (desc x 7 = ls) := ⟨_, rfl⟩
      have hfx := HFF.out x hxL
      have hls7 := desc_len7 hxs hx7
      have hlsm : ∀ v ∈ desc x 7, v ≤ 7 := fun v hv => desc_mem hv
      have hFx := HFe.out x
      rw [Hls.out] at hCl hls7 hlsm hFx
      obtain ⟨f, Hf⟩ : ∃ f : Nat, Hid (fillsN k ls room = f) := ⟨_, rfl⟩
      rw [Hf.out] at hFx
      rw [hFx] at hfx
      have hC3 := fun (g rc : Nat) (lv : Value) (W : World) (hl : LenIs W g lv ls) (ho : Own W g k (fun c => (room c : Int))) => Hfill.out.2 ls room g rc lv W hls7 hlsm H7.out hl ho
      rw [Hf.out] at hC3
      have hmb : 0 ≤ c * (f : Int) ∧ c * (f : Int) ≤ 6000 * 2097152 := ⟨Int.mul_nonneg (by omega) (by omega), Int.mul_le_mul hc2 hfx.2 (by omega) (by omega)⟩
      obtain ⟨m, Hm⟩ : ∃ m, Hid (c * (f : Int) = m) := ⟨_, rfl⟩
      have hmf := Hm.out
      rw [hmf] at hmb
      have hrg2 := hrg1.kept (grown_of_below hB1) (by simp) (by simp)
      rw [← mrow_zero] at hk0
      have HX : Hid (sumK L (fun z => left z && !z.sameKey (keyK x)) (fun _ => 1) = t + c ∧ sumK L (fun z => left z && !z.sameKey (keyK x)) F = s + m) := by
        refine ⟨?_, ?_⟩
        · rw [sumK_strike hxs hlk _ HL'.out, Ht.out, Int.mul_one, hcx]
        · rw [sumK_strike hxs hlk _ HL'.out, Hs.out, ← hcx, hFx, hmf]
      clear hkey hlk hv hat ey hwc hxs hcx hxL hs1 hFx hls7 hlsm
      go_wp2_with (first
        | (refine wpList_store_row rfl 136 _ _ rfl w1.heap.size _ rfl rfl 136 _ hk0 (inf75 _) (by simp) (mrow_one _) ?_; rw [mrow_zero])
        | (refine wpList_load_row rfl 136 _ rfl w1.heap.size rfl 136 _ (0, 0) _ hk1 und75 rfl (inf75 _) ?_)
        | (go_at_call 91; refine (hCl _).mono ?_; rintro e w3 ⟨lv, rfl, hlv, b3⟩; have hrg3 := hrg2.kept (grown_of_below b3) (by simp) (by simp); have hnx3 := Below.trans hnx1 ((Below.next hB1 b3).mono hnx1.size); obtain ⟨la, lm, lc, rfl⟩ := ownsRow_slice hlv; have hC2 := HC w3 hnx3)
        | (go_at_call 92; refine hC2.mono ?_; rintro e w4 ⟨⟨g, cap, rfl, hg, hO⟩, b4⟩; have hrg4 := hrg3.kept (grown_of_below b4) (by simp) (by simp); have hC4 := hC3 g cap _ w4 (lenIs_of_own hlv b4 hg) hO)
        | (go_at_call 90; refine hC4.mono ?_; rintro e w5 ⟨rfl, _, hOn⟩)
        | go_in)
      have hl3 := hrg3.lt
      have hrg5 := hrg4.kept hOn.grown (fun e => by have := Option.some.inj e; omega) (fun e => by have := Option.some.inj e; omega)
      have hnx4 := hnx3.trans (b4.mono hnx3.size)
      have hnx5 : Below w.heap.size w w5 := hnx4.trans (hOn.1.mono (by have := hnx3.size; omega))
      go_roundw
      case rel =>
        exact ⟨_, cnt1, hrg5, by rw [HX.out.1], by rw [HX.out.2], hnx5⟩
      case measure => rw [hrg5.left_eq, hrg.left_eq]; exact hlt

end Go.Proofs.YtgpkhfpejopacabGreatDoor.Gc

namespace Go.Proofs.YtgpkhfpejopacabGreatDoor.Gc
open Go.RowKit Go.Maps

theorem conF_ok {n : Nat} {l : List Int} (h : conF n l = 0) : ∃ many : List Nat, l = many.map Int.ofNat ∧ many.length ≤ 8 ∧ (∀ c, many.getD c 0 ≤ n) ∧ many.sum = n := by
  unfold conF at h
  by_cases h1 : 8 < l.length
  · rw [if_pos h1] at h; omega
  · rw [if_neg h1] at h
    by_cases h2 : badI n l = true
    · rw [if_pos h2] at h; omega
    · rw [if_neg h2] at h
      by_cases h3 : l.sum = (n : Int)
      · have h4 : ∀ x ∈ l, 0 ≤ x ∧ x ≤ (n : Int) := fun x hx => by
          unfold badI at h2
          rw [List.any_eq_true] at h2
          have : ¬ (x < 0 ∨ (n : Int) < x) := fun q => h2 ⟨x, hx, by simpa using q⟩
          omega
        have e : l = (l.map Int.toNat).map Int.ofNat := by
          rw [List.map_map]
          have : l.map (Int.ofNat ∘ Int.toNat) = l.map id := List.map_congr_left fun x hx => by
            have := (h4 x hx).1
            simp [Function.comp]
            omega
          rw [this, List.map_id]
        refine ⟨l.map Int.toNat, e, by rw [List.length_map]; omega, fun c => ?_, ?_⟩
        · by_cases hc : c < l.length
          · have := (h4 l[c] (List.getElem_mem hc)).2
            simp [hc]
            omega
          · simp [List.getD_eq_getElem?_getD, hc]
        · have hs : ∀ L : List Nat, (L.map Int.ofNat).sum = (L.sum : Int) := by
            intro L
            induction L with
            | nil => rfl
            | cons a L ih => rw [List.map_cons, List.sum_cons, List.sum_cons, ih, Int.natCast_add]; rfl
          have h5 := hs (l.map Int.toNat)
          rw [← e, h3] at h5
          omega
      · rw [if_neg h3] at h; omega
theorem sR_many (many : List Nat) : sR (fun c => many.getD c 0) many.length = many.sum := by
  rw [← sR_list]
  congr 1
  refine List.ext_getElem (by simp) fun i h1 h2 => by simp [h2]
theorem one_le_of_sum {many : List Nat} (h : 1 ≤ many.sum) : 1 ≤ many.length := by
  cases many with
  | nil => simp at h
  | cons a l => simp

set_option maxRecDepth 100000 in
set_option maxHeartbeats 1000000 in
theorem Content_ok (n : Nat) (ms : List (List Nat)) (many : List Nat) (v u : Value) (w : World) (h : Mk n ms v w) (hu : Sl w u (many.map Int.ofNat)) (hc : conF n (many.map Int.ofNat) = 0) :
    Calls Tryz.prog 13 #[.int .i64 (n : Int), v, u] w fun e w' => e = .returned (.tuple #[.int .i64 (conG n many.length ms many : Int), .int .i64 0]) ∧ Below w.heap.size w w' := by
  have hn7 := h.n7
  have hn1 := h.n1
  have hbd := gen_bound h.isP hn7 (els_nodup n (Gen n ms)) (fun a => (gen_grp h.isP).mem)
  obtain ⟨many', e1, h8, hmn, hsum⟩ := conF_ok hc
  obtain rfl : many = many' := by
    exact (List.map_inj_right (f := Int.ofNat) (fun x y h => Int.ofNat.inj h)).1 e1
  have hm1 : 1 ≤ many.length := one_le_of_sum (by omega)
  have C0 := h.check
  have C1 := fun W (b : Below w.heap.size w W) => kindsOf_any n ms v W (h.below b)
  have C8 := fun W (b : Below w.heap.size w W) => checkContent_any n (many.map Int.ofNat) u W hn7 (hu.below b) (by rw [List.length_map]; unfold maxLen; omega)
  rw [hc] at C8
  have hdiv : ∀ L : List (List Nat), L.Perm ((els n (Gen n ms)).map (kd n)) → (L.map fun y => (fillsN many.length (desc y 7) (fun c => many.getD c 0) : Int)).sum.tdiv (L.length : Int) = (conG n many.length ms many : Int) := fun L hp => by
    rw [int_perm_sum hp, hp.length_eq, List.length_map]
    have e := fills_sum (n := n) (k := many.length) (ms := ms) (many := many) hn7 (by omega) h.isP rfl (by rw [sR_many, hsum])
    have e2 : (((els n (Gen n ms)).map (kd n)).map fun y => (fillsN many.length (desc y 7) (fun c => many.getD c 0) : Int)).sum = ((conG n many.length ms many * (els n (Gen n ms)).length : Nat) : Int) := by
      rw [← e, natcast_sum, List.map_map, List.map_map, List.map_map]
      rfl
    rw [e2, Int.natCast_mul, Int.mul_tdiv_cancel _ (by omega)]
  have C3 := fun (L : List (List Nat)) (hp : L.Perm ((els n (Gen n ms)).map (kd n))) (B m : Nat) (D : DataW Unit) (W : World) (b : Below w.heap.size w W) (ho : W.ownsMap Tryz.prog 136 (plainElem Tryz.prog 3) B m D) (hD : KindsIs D L) =>
    filled_any B m D L many u W ho hD (kinds_sm hn7 hp) (by rw [hp.length_eq, List.length_map]; omega) (by rw [hp.length_eq, List.length_map]; omega) (hu.below b) hm1 h8 (fun c => Nat.le_trans (hmn c) hn7)
  obtain ⟨ua, uc, rfl, _⟩ := id hu
  have HDIV : Hid (∀ L : List (List Nat), L.Perm ((els n (Gen n ms)).map (kd n)) → (L.map fun y => (fillsN many.length (desc y 7) (fun c => many.getD c 0) : Int)).sum.tdiv (L.length : Int) = (conG n many.length ms many : Int)) := hdiv
  obtain ⟨len, Hlen⟩ : ∃ len, Hid ((many.map Int.ofNat).length = len) := ⟨_, rfl⟩
  rw [Hlen.out] at C8 C3 ⊢
  obtain ⟨z, Hz⟩ : ∃ z, Hid (conG n many.length ms many = z) := ⟨_, rfl⟩
  rw [Hz.out] at HDIV ⊢
  have HC3 : Hid (∀ (L : List (List Nat)) (hp : L.Perm ((els n (Gen n ms)).map (kd n))) (B m : Nat) (D : DataW Unit) (W : World) (b : Below w.heap.size w W) (ho : W.ownsMap Tryz.prog 136 (plainElem Tryz.prog 3) B m D) (hD : KindsIs D L), _) := C3
  clear hdiv hc e1 hmn hsum hbd h8 hm1 C3 hn7 hn1 h hu
  go_enter Tryz.func13, Tryz.ntmps13
  go_wp2_with (first
    | (go_at_call 40; refine C0.mono ?_; rintro e w1 ⟨rfl, b1⟩)
    | (go_at_call 44; refine (C8 _ b1).mono ?_; rintro e w2 ⟨rfl, hw⟩; replace hw := hw.symm; subst hw)
    | (go_at_call 45; refine (C1 _ b1).mono ?_; rintro e w2 ⟨B, m, D, L, rfl, hwB, hm, hown, hD, hp, b2⟩; have b2' := Below.next b1 b2; have C4 := HC3.out L hp B m D w2 b2' hown hD; rw [HDIV.out L hp] at C4; clear hp hD)
    | (go_at_call 46; refine C4.mono ?_; rintro e w4 ⟨rfl, b4⟩))
  go_ret2
  exact ⟨rfl, Below.next b2' b4⟩

end Go.Proofs.YtgpkhfpejopacabGreatDoor.Gc

/- The walk of Index. -/
/- The walks of the library's SortFunc and SortedFunc, at kinds, the greatest first. -/
namespace Go.Proofs.YtgpkhfpejopacabGreatDoor.Gc
open Go.RowKit Go.Shelf Go.Maps

set_option maxRecDepth 100000 in
set_option maxHeartbeats 1000000 in
theorem closureK_any (x y : List Nat) (W : World) :
    Calls Tryz.prog 95 #[.agg (mvL x).toArray, .agg (mvL y).toArray] W fun e w' => e = .returned (.int .i64 (cmpM y x)) ∧ ∃ q os', w' = Go.Sort.grow (W.drewN q) os' := by
  have hB : Below W.heap.size W ((W.alloc (.cells (mvL x).toArray 136)).alloc (.cells (mvL y).toArray 136)) := (balloc W _).alloc (by simp) _
  have C := fun W' (h1 : ∀ j, j < 7 → W'.cell? ⟨W.heap.size, j, none⟩ = some (.int .i64 ((x.getD j 0 : Nat) : Int))) (h2 : ∀ j, j < 7 → W'.cell? ⟨W.heap.size + 1, j, none⟩ = some (.int .i64 ((y.getD j 0 : Nat) : Int))) => Compare_any (fun j => y.getD j 0) (fun j => x.getD j 0) (W.heap.size + 1) W.heap.size W' h2 h1
  have H1 : Hid (∀ j, j < 7 → ((W.alloc (.cells (mvL x).toArray 136)).alloc (.cells (mvL y).toArray 136)).cell? ⟨W.heap.size, j, none⟩ = some (.int .i64 ((x.getD j 0 : Nat) : Int))) := fun j hj => by
    have h := (MRow.made 136 W (fun j => (x.getD j 0 : Int))).alloc (.cells (mvL y).toArray 136)
    exact h.cell j hj
  have H2 : Hid (∀ j, j < 7 → ((W.alloc (.cells (mvL x).toArray 136)).alloc (.cells (mvL y).toArray 136)).cell? ⟨W.heap.size + 1, j, none⟩ = some (.int .i64 ((y.getD j 0 : Nat) : Int))) := fun j hj => by
    have h := MRow.made 136 (W.alloc (.cells (mvL x).toArray 136)) (fun j => (y.getD j 0 : Int))
    rw [World.size_alloc] at h
    exact h.cell j hj
  have e0 : cmpM y x = lexc (fun j => y.getD j 0) (fun j => x.getD j 0) 7 0 := rfl
  rw [e0]
  obtain ⟨z, Hz⟩ : ∃ z, Hid (lexc (fun j => y.getD j 0) (fun j => x.getD j 0) 7 0 = z) := ⟨_, rfl⟩
  rw [Hz.out] at C ⊢
  obtain ⟨X, HX⟩ : ∃ X, Hid (mvL x = X) := ⟨_, rfl⟩
  obtain ⟨Y, HY⟩ : ∃ Y, Hid (mvL y = Y) := ⟨_, rfl⟩
  rw [HX.out, HY.out] at H1 H2 ⊢
  have hlx : X.length = 7 := by rw [← HX.out]; exact mvL_len x
  have hly : Y.length = 7 := by rw [← HY.out]; exact mvL_len y
  clear e0 hB
  go_enter Tryz.func95, Tryz.ntmps95
  go_wp2_with fail
  refine wp_region_noPanic ?_
  refine wp_region_held_drew (S := fun _ => True) (by kernel_rfl) (trivial) (fun hSx => ?_)
  refine wpAnyH_take (i := 0) (v := .slice (some ⟨W.heap.size + 1, 0, none⟩) 7 7) rfl (by kernel_rfl) (by kernel_rfl) (by kernel_rfl) (fun _ _ _ h => h) (Or.inl ⟨by rfl, fun w' hSw => by (try dsimp only at hSw); go_simp⟩) trivial ?_
  try simp only [Act.put, List.setIfInBounds_toArray]
  refine wpAnyH_take (i := 1) (v := .slice (some ⟨W.heap.size, 0, none⟩) 7 7) rfl (by kernel_rfl) (by kernel_rfl) (by kernel_rfl) (fun _ _ _ h => h) (Or.inl ⟨by rfl, fun w' hSw => by (try dsimp only at hSw); go_simp⟩) trivial ?_
  try simp only [Act.put]
  refine wpAnyH_ready (rs := [2]) (by kernel_rfl) (by simp) ?_
  refine AllReadyH.cons rfl (fun J hJ => ?_) AllReadyH.nil
  go_simp
  refine (C (World.drew _) (by exact H1.out) (by exact H2.out)).mono ?_
  rintro e w1 ⟨rfl, h⟩
  replace h := h.symm
  subst h
  go_wp2_with fail
  refine hJ.out _ _ trivial (fun _ => ?_)
  clear hJ J
  try simp only [Act.put, List.setIfInBounds_toArray, List.set_cons_zero, List.set_cons_succ]
  refine wpAnyH_ready (rs := [3]) (by kernel_rfl) (by simp) ?_
  refine AllReadyH.cons rfl (fun J hJ => ?_) AllReadyH.nil
  go_simp
  refine hJ.out _ _ trivial (fun _ => ?_)
  clear hJ J
  try simp only [Act.put, List.setIfInBounds_toArray, List.set_cons_zero, List.set_cons_succ]
  refine wpAnyH_done (by kernel_rfl) ?_ _
  refine NoPanic.normal ?_
  go_wp2_with fail
  go_ret
  refine ⟨rfl, 1, #[.cells X.toArray 136, .cells Y.toArray 136], ?_⟩
  rw [Go.Sort.alloc_eq_grow, Go.Sort.alloc_eq_grow, Go.Sort.grow_grow]
  rfl

theorem nodup_sub_len {α : Type} [DecidableEq α] : ∀ {A B : List α}, A.Nodup → (∀ x ∈ A, x ∈ B) → A.length ≤ B.length
  | [], _, _, _ => Nat.zero_le _
  | a :: A, B, nd, h => by
    have ha := h a (by simp)
    have hn := List.nodup_cons.1 nd
    have ih := nodup_sub_len (A := A) (B := B.erase a) hn.2 fun x hx => (List.mem_erase_of_ne (show x ≠ a from fun e => hn.1 (by rw [← e]; exact hx))).2 (h x (by simp [hx]))
    rw [List.length_erase_of_mem ha] at ih
    have := List.length_pos_of_mem ha
    rw [List.length_cons]
    omega
theorem ltK_no (x y : List Nat) : ltOf (fun x y => cmpM y x) x y = false ↔ ¬ LexLt 7 (fun j => y.getD j 0) (fun j => x.getD j 0) := by
  rw [← lt_no y x]
  rfl
theorem ltK_iff (x y : List Nat) : ltOf (fun x y => cmpM y x) x y = true ↔ LexLt 7 (fun j => y.getD j 0) (fun j => x.getD j 0) := by
  rw [← lt_iff y x]
  rfl
theorem swoK : Go.Sort.SWO (ltOf fun x y => cmpM y x) where
  irrefl x := (ltK_no x x).2 LexLt.irrefl
  trans x y z h1 h2 := (ltK_iff x z).2 (((ltK_iff y z).1 h2).trans ((ltK_iff x y).1 h1))
  ntrans x y z h1 h2 := by
    rw [ltK_no] at h1 h2 ⊢
    intro h
    by_cases h3 : LexLt 7 (fun j => z.getD j 0) (fun j => y.getD j 0)
    · exact h2 h3
    · by_cases h4 : LexLt 7 (fun j => y.getD j 0) (fun j => z.getD j 0)
      · exact h1 (h4.trans h)
      · exact h1 (lex_congr (fun i hi => lex_total h3 h4 i hi) h)
set_option maxRecDepth 100000 in
theorem isAgg75k (w : World) : (isAgg 136).run Tryz.prog w = .ok true w := by kernel_rfl
set_option maxRecDepth 100000 in
theorem sizeOf75k (w : World) : (Go.sizeOf 136).run Tryz.prog w = .ok 7 w := by kernel_rfl

set_option maxRecDepth 100000 in
set_option maxHeartbeats 2000000 in
theorem SortFunc_any (base g' cap' : Nat) (M : List (List Nat)) (W : World) (hown : W.ownsRow base 136 7 (.slice (some ⟨g', 0, none⟩) M.length cap') M.length (M.flatMap mvL)) (hbW : base ≤ W.heap.size) (h6 : M.length ≤ 6000) :
    Calls Tryz.prog 130 #[.slice (some ⟨g', 0, none⟩) M.length cap', .func (.func 95) #[] #[]] W fun e w' => e = .returned (.tuple #[]) ∧ (∃ M' : List (List Nat), M'.length = M.length ∧ Mvs w' (.slice (some ⟨g', 0, none⟩) M.length cap') M' ∧ M'.Perm M ∧ M'.Pairwise fun a b => ¬ LexLt 7 (fun i => a.getD i 0) (fun i => b.getD i 0)) ∧ Below base W w' := by
  obtain ⟨hl', ⟨e, _⟩ | ⟨g2, cap2, cur, e, hb, h7, h8, h9, h10, ht⟩⟩ := hown
  · cases e
  · cases e
    have hH : Go.Sort.HoldsK mvL 7 W g' 0 M.toArray := fun t htt => by
      rw [Go.Sort.size_flatK] at htt
      have htt : t < M.length * 7 := by simpa using htt
      rw [Go.Sort.get_flatK _ _ _ _ (by simpa using htt)]
      refine ⟨?_, frozen_of_row W g' _ _ _ h7⟩
      rw [Nat.zero_add, cell_of_row W g' _ _ _ _ h7]
      have h3 := flat_at htt
      rw [← ht, List.getElem?_take, if_pos (by omega)] at h3
      rw [← Array.getElem?_toList]; exact h3
    have hblk : g' < W.heap.size := (Array.getElem?_eq_some_iff.1 h7).1
    have eg : ∀ args w, (callFunc 95 args).run Tryz.prog w = .ok (.enter 95 args) w := enters_of Tryz.func95 (by kernel_rfl) rfl
    have h := AnyQ.slices_SortFunc sortKd 7 isAgg75k sizeOf75k mvL mvL_len mvL_one (fun x y => cmpM y x) swoK 95 #[] g' 0 cap' M.toArray W eg (fun m os dk _ x y => closureK_any x y _) hH hblk (by simp; omega)
    change Calls Tryz.prog 130 _ _ _ at h
    have hsz0 : M.toArray.size = M.length := by simp
    rw [hsz0] at h
    exact h.mono (fun e w' ⟨he, d', n, os, hp, hs, hw⟩ => by
      have hsz : d'.size = M.length := by simpa using hp.1
      refine ⟨he, ⟨d'.toList, by simpa using hsz, ?_, ?_, ?_⟩, ?_⟩
      · have hH' : Go.Sort.HoldsK mvL 7 w' g' 0 d' := by
          rw [hw]
          exact Go.Sort.holdsK_grow mvL 7 _ _ _ _ _ (by simp [Go.Sort.putRowK, Go.Sort.putRow, Go.Sort.mapBlock, Go.Sort.ahead]; exact hblk) (Go.Sort.holdsK_putRowK mvL 7 _ _ _ M.toArray d' (Go.Sort.holdsK_ahead mvL 7 _ _ _ _ _ hH) (by simpa using hsz))
        refine ⟨_, cap', by simp [hsz], fun i x hx => ⟨g', 0, rfl, ?_, fun j u hu => ?_⟩⟩
        · rw [hw]
          show g' < (Go.Sort.grow (Go.Sort.putRowK mvL 7 (Go.Sort.ahead W n) g' 0 d') os).heap.size
          simp [Go.Sort.grow, Go.Sort.putRowK, Go.Sort.putRow, Go.Sort.mapBlock, Go.Sort.ahead]; omega
        · have hi' : i < d'.size := by have := (List.getElem?_eq_some_iff.1 hx).1; simpa using this
          have hj : j < 7 := by have := (List.getElem?_eq_some_iff.1 hu).1; rwa [mvL_len] at this
          have hc := (hH'.cell hi' hj).1
          have e1 : d'[i]! = x := by
            have : d'.toList[i]? = some x := hx
            rw [Array.getElem?_toList, Array.getElem?_eq_getElem hi'] at this
            rw [getElem!_pos d' i hi']
            exact Option.some.inj this
          rw [hc, e1, getElem!_pos (mvL x) j (by rw [mvL_len]; exact hj)]
          rw [List.getElem?_eq_getElem (by rw [mvL_len]; exact hj)] at hu
          exact hu
      · have h2 := hp.2.2
        have e1 : d'.extract 0 M.length = d' := by rw [← hsz]; simp
        have e2 : M.toArray.extract 0 M.length = M.toArray := by simp
        rw [e1, e2] at h2
        exact h2
      · rw [List.pairwise_iff_getElem]
        intro a b ha hb' hab
        have ha' : a < d'.size := by simpa using ha
        have hb2 : b < d'.size := by simpa using hb'
        have h3 := hs a b (Nat.zero_le _) hab (by omega)
        rw [ltK_no, getElem!_pos d' a ha', getElem!_pos d' b hb2] at h3
        exact h3
      · rw [hw]; exact sort_below hb hbW)

set_option maxRecDepth 100000 in
set_option maxHeartbeats 1000000 in
theorem SortedFunc_any (Bm B nn : Nat) (D : DataW Unit) (L : List (List Nat)) (w : World) (hm : w.cell? ⟨Bm, 0, none⟩ = some (.map (some B))) (hown : w.ownsMap Tryz.prog 136 (plainElem Tryz.prog 3) B nn D) (hD : KindsIs D L) (hL : ∀ y ∈ L, SmK y) (hnn : nn ≤ 6000) (hL1 : L ≠ []) (hLl : L.length ≤ 6000) :
    Calls Tryz.prog 93 #[.func (.func 131) #[] #[.pointer (some ⟨Bm, 0, none⟩)], .func (.func 95) #[] #[]] w fun e w' => (∃ g cap M, e = .returned (.slice (some ⟨g, 0, none⟩) M.length cap) ∧ Mvs w' (.slice (some ⟨g, 0, none⟩) M.length cap) M ∧ KColl L (fun _ => false) M ∧ M.length ≤ 6000 ∧ M.Pairwise fun a b => ¬ LexLt 7 (fun i => a.getD i 0) (fun i => b.getD i 0)) ∧ Below w.heap.size w w' := by
  have C := Collect_any Bm B nn D L w hm hown hD hL hnn
  have C' := C.mono (R' := fun e w' => (∃ g cap xs, e = .returned (.slice (some ⟨g, 0, none⟩) xs.length cap) ∧ KColl L (fun _ => false) xs ∧ xs.length ≤ 6000 ∧ w'.ownsRow w.heap.size 136 7 (.slice (some ⟨g, 0, none⟩) xs.length cap) xs.length (xs.flatMap mvL)) ∧ Below w.heap.size w w') (fun e w' ⟨u, xs, h1, h2, h3, h4⟩ => by
    have hx0 : xs ≠ [] := fun e => by
      obtain ⟨y, hy⟩ := List.exists_mem_of_ne_nil L hL1
      have := (h2.2 y).2 ⟨hy, rfl⟩
      rw [e] at this; simp at this
    have hxl : xs.length ≤ 6000 := Nat.le_trans (nodup_sub_len h2.1 fun y hy => ((h2.2 y).1 hy).1) hLl
    obtain ⟨k1, ⟨e1, e2⟩ | ⟨g2, cap2, cur, e1, k2⟩⟩ := id h3
    · exact absurd (List.length_eq_zero_iff.1 e2) hx0
    · exact ⟨⟨g2, cap2, xs, by rw [h1, e1], h2, hxl, by rw [← e1]; exact h3⟩, h4⟩)
  have C2 := fun (g cap : Nat) (xs : List (List Nat)) (W : World) h1 h2 h3 => SortFunc_any w.heap.size g cap xs W h1 h2 h3
  clear C hm hown hD
  go_enter Tryz.func93, Tryz.ntmps93
  go_wp2_with (first
    | (go_at_call 129; refine C'.mono ?_; rintro e w1 ⟨⟨g, cap, xs, rfl, hK, hxl, how⟩, b1⟩; replace C2 := C2 g cap xs w1 how b1.size hxl; obtain ⟨r, Hr⟩ : ∃ r, Hid (xs.length = r) := ⟨_, rfl⟩; rw [Hr.out] at C2 hxl ⊢)
    | (go_at_call 130; refine C2.mono ?_; rintro e w2 ⟨rfl, ⟨M', hl, hm, hp, hs⟩, b2⟩))
  go_ret
  refine ⟨⟨g, cap, M', by rw [hl]; rfl, by rw [hl]; exact hm, ⟨hp.nodup_iff.2 hK.1, fun y => by rw [hp.mem_iff]; exact hK.2 y⟩, by omega, hs⟩, b1.trans b2⟩

end Go.Proofs.YtgpkhfpejopacabGreatDoor.Gc

/- The walk of rows. -/
namespace Go.Proofs.YtgpkhfpejopacabGreatDoor.Gc
open Go.RowKit Go.Shelf Go.Maps

/-- Block g is a row of r slices of one's own; the first of them are these rows. -/
def RowsO (w : World) (g r : Nat) (ls : List (List Nat)) : Prop :=
  ∃ cur : Array Value, w.heap[g]? = some (.cells cur 29 (0, 0)) ∧ cur.size = r ∧ ∀ (j : Nat) (l : List Nat), ls[j]? = some l → ∃ (gj cj : Nat), cur[j]? = some (Value.slice (some ⟨gj, 0, none⟩) l.length cj) ∧ gj ≠ g ∧ Own w gj l.length (fun q => (l.getD q 0 : Int))
theorem RowsO.lt {w : World} {g r : Nat} {ls : List (List Nat)} (h : RowsO w g r ls) : g < w.heap.size := by
  obtain ⟨cur, h, _⟩ := h
  exact (Array.getElem?_eq_some_iff.1 h).1
theorem RowsO.below {w w' : World} {g r : Nat} {ls : List (List Nat)} (h : RowsO w g r ls) (hb : Below w.heap.size w w') : RowsO w' g r ls := by
  have hl := h.lt
  obtain ⟨cur, h1, h2, h3⟩ := h
  refine ⟨cur, (hb.block g hl).trans h1, h2, fun j l hj => ?_⟩
  obtain ⟨gj, cj, e1, e2, e3⟩ := h3 j l hj
  exact ⟨gj, cj, e1, e2, e3.below hb⟩
theorem RowsO.cell {w : World} {g r : Nat} {ls : List (List Nat)} (h : RowsO w g r ls) {k : Nat} (hk : k < r) : ∃ v, w.cell? ⟨g, k, none⟩ = some v ∧ w.frozen? ⟨g, k, none⟩ = false := by
  obtain ⟨cur, h1, h2, _⟩ := h
  refine ⟨cur[k], ?_, frozen_of_row w g k _ _ h1⟩
  rw [cell_of_row w g k _ _ _ h1]
  simp [h2, hk]
theorem RowsO.store {w : World} {g r k gn cap : Nat} {ls : List (List Nat)} {l : List Nat} (h : RowsO w g r ls) (hk : ls.length = k) (hkr : k < r) (hO : Own w gn l.length (fun q => (l.getD q 0 : Int))) (hne : gn ≠ g) :
    RowsO (w.setCell ⟨g, k, none⟩ (.slice (some ⟨gn, 0, none⟩) l.length cap)) g r (ls ++ [l]) := by
  obtain ⟨cur, h1, h2, h3⟩ := h
  refine ⟨_, heap_setCell_same w g k _ _ _ h1, by simpa using h2, fun j l' hj => ?_⟩
  by_cases e : j = k
  · subst e
    have : l' = l := by
      rw [List.getElem?_append_right (by omega), hk, Nat.sub_self] at hj
      simpa using hj.symm
    subst this
    refine ⟨gn, cap, ?_, hne, hO.other _ _ hne⟩
    rw [Array.getElem?_setIfInBounds, if_pos rfl, if_pos (by omega)]
  · have hj' : j < ls.length := by
      have := (List.getElem?_eq_some_iff.1 hj).1
      rw [List.length_append, List.length_singleton] at this
      omega
    rw [List.getElem?_append_left hj'] at hj
    obtain ⟨gj, cj, e1, e2, e3⟩ := h3 j l' hj
    exact ⟨gj, cj, by rw [Array.getElem?_setIfInBounds, if_neg (by omega)]; exact e1, e2, e3.other _ _ e2⟩
theorem RowsO.sl {w : World} {g r : Nat} {ls : List (List Nat)} (h : RowsO w g r ls) (hl : ls.length = r) : SlSl w (.slice (some ⟨g, 0, none⟩) r r) ls := by
  obtain ⟨cur, h1, h2, h3⟩ := h
  refine ⟨_, r, by rw [hl], fun i l hi => ?_⟩
  obtain ⟨gj, cj, e1, e2, e3⟩ := h3 i l hi
  refine ⟨g, 0, _, rfl, by rw [Nat.zero_add, cell_of_row w g i _ _ _ h1]; exact e1, _, cj, by rw [List.length_map], fun j hj => ⟨gj, 0, rfl, ?_⟩⟩
  rw [List.length_map] at hj
  rw [Nat.zero_add, e3.cell j hj]
  simp [hj]
set_option maxRecDepth 100000 in
theorem run_make28 (r : Nat) (hr : r ≤ 10000) (w : World) : (Instr.makeSlice 22 (.int .i64 (r : Int)) (.int .i64 (r : Int))).run Tryz.prog w = .ok (.slice (some ⟨w.heap.size, 0, none⟩) r r) (w.alloc (.cells (madeCells #[.slice none 0 0] r) 29)) := by
  obtain ⟨i, hi, hz0, hz1, hz2⟩ := info22
  have h := run_make (P := Tryz.prog) w 22 29 i (.slice none 0 0) und54 hi hz0 .i64 .i64 r r (by omega) (by omega) (by rw [hz2]; omega) (by omega)
  simpa [hz1, Value.cells] using h
theorem RowsO.made (r : Nat) (w : World) : RowsO (w.alloc (.cells (madeCells #[.slice none 0 0] r) 29)) w.heap.size r [] :=
  ⟨_, heap_alloc_new w _, size_madeCells _ _, fun j l h => by simp at h⟩

/-- The rows that the program tells. -/
def idxR (n : Nat) (L : List (List Nat)) (x : List Nat) : List Nat := L.count x :: x.take n
/-- What rows answers. -/
def RowsAns (w : World) (n : Nat) (L : List (List Nat)) (e : Ending) (w' : World) : Prop :=
  (∃ v M, e = .returned v ∧ KColl L (fun _ => false) M ∧ (M.Pairwise fun a b => ¬ LexLt 7 (fun i => a.getD i 0) (fun i => b.getD i 0)) ∧ SlSl w' v (M.map (idxR n L))) ∧ Below w.heap.size w w'

set_option maxRecDepth 100000 in
set_option maxHeartbeats 4000000 in
theorem rows_any (B nn n : Nat) (D : DataW Unit) (L : List (List Nat)) (w : World) (hown : w.ownsMap Tryz.prog 136 (plainElem Tryz.prog 3) B nn D) (hD : KindsIs D L) (hL : ∀ y ∈ L, SmK y) (hnn : nn ≤ 6000) (hL1 : L ≠ []) (hLl : L.length ≤ 6000) (hn1 : 1 ≤ n) (hn7 : n ≤ 7) :
    Calls Tryz.prog 47 #[.map (some B), .int .i64 (n : Int)] w fun e w' => RowsAns w n L e w' := by
  have CK := Keys_any B w
  have hB1 := balloc w (.cells #[.map (some B)] 89)
  have hm1 : (w.alloc (.cells #[.map (some B)] 89)).cell? ⟨w.heap.size, 0, none⟩ = some (.map (some B)) := (Boxed.new w 89 (.map (some B))).cell
  have CS := SortedFunc_any w.heap.size B nn D L (w.alloc (.cells #[.map (some B)] 89)) hm1 (kinds_below hown hB1) hD hL hnn hL1 hLl
  have hmk := run_make28
  have HL : Hid (∀ y ∈ L, SmK y) := hL
  have HD : Hid (KindsIs D L) := hD
  have HOWN : Hid (∀ W, Below w.heap.size w W → W.ownsMap Tryz.prog 136 (plainElem Tryz.prog 3) B nn D) := fun W b => kinds_below hown b
  clear hm1 hL hD hown
  go_enter Tryz.func47, Tryz.ntmps47
  go_wp2_with (first
    | (go_at_call 94; refine CK.mono ?_; rintro e w1 ⟨rfl, hw⟩; replace hw := hw.symm; subst hw)
    | (go_at_call 93; refine CS.mono ?_; rintro e w2 ⟨⟨gO, capO, M, rfl, hMv, hK, hM6, hP⟩, b2⟩; have b2' := Below.next hB1 b2; obtain ⟨r, Hr⟩ : ∃ r, Hid (M.length = r) := ⟨_, rfl⟩; rw [Hr.out] at hMv hM6 ⊢; replace hmk := hmk r (by omega) w2))
  obtain ⟨r', hr'⟩ : ∃ r', r' = r := ⟨_, rfl⟩
  have hs2 := b2'.size
  have HMV : Hid (Mvs w2 (.slice (some ⟨gO, 0, none⟩) r capO) M) := hMv
  have HK : Hid (KColl L (fun _ => false) M) := hK
  have HPW : Hid (M.Pairwise fun a b => ¬ LexLt 7 (fun i => a.getD i 0) (fun i => b.getD i 0)) := hP
  have HB2 : Hid (Below w.heap.size w w2) := b2'
  clear hMv hK hP b2' b2 CS CK hB1 hr' r'
  have hR0 := RowsO.made r w2
  have hb0 := balloc w2 (.cells (madeCells #[.slice none 0 0] r) 29)
  go_loopw [17] (fun i wr => ∃ (k : Nat) (A : List (List Nat)), i = .int .i64 (k : Int) ∧ k ≤ r ∧ RowsO wr w2.heap.size r A ∧ Hid (A = (M.take k).map (idxR n L)) ∧ Below w2.heap.size w2 wr) (fun i _ => (r - intOf i).toNat)
  case atStart => exact ⟨0, [], rfl, by omega, hR0, (by simp : ([] : List (List Nat)) = (M.take 0).map (idxR n L)), hb0⟩
  case round =>
    clear hR0 hb0
    obtain ⟨k, A, rfl, hk, hR, HA, hB⟩ := hrel
    by_cases hlt : k < r
    · have hki : (k : Int) < r := by omega
      have hk0 : (0 : Int) ≤ (k : Int) := by omega
      have hdec : decide ((k : Int) < r) = true := by simp; omega
      obtain ⟨x, hx⟩ : ∃ x, M[k]? = some x := ⟨M[k]'(by rw [Hr.out]; exact hlt), by simp⟩
      have hxL : x ∈ L := ((HK.out.2 x).1 (List.mem_of_getElem? hx)).1
      have hxs := HL.out x hxL
      have HTK : Hid ((M.take (k + 1)).map (idxR n L) = (M.take k).map (idxR n L) ++ [idxR n L x]) := by show _ = _; rw [List.take_add_one, hx, List.map_append]; rfl
      obtain ⟨b, off, hya, hbl, hrM0⟩ := HMV.out.at hx
      have hAl : A.length = k := by rw [HA.out, List.length_map, List.length_take, Hr.out]; omega
      simp only [Option.some.injEq, Addr.mk.injEq, and_true] at hya
      obtain ⟨rfl, rfl⟩ := hya
      rw [Nat.zero_add] at hrM0
      have hrM := range_below hrM0 hB hbl
      have hsz := hB.size
      have hwr : Below w.heap.size w wr := HB2.out.trans (hB.mono hs2)
      have hkey := keyK_of hxs
      rw [mv_eq] at hkey
      have hinX : (Tryz.prog.info? 136).map (·.size) = some (mvL x).length := inf75L _
      have hlX : (mvL x).length = 7 := mvL_len _
      have h1X : ∀ u ∈ mvL x, u.oneCell' = true := mvL_one _
      have hxX : ∀ j, j < 7 → (mvL x)[j]? = some (.int .i64 (x.getD j 0 : Int)) := fun j hj => by simp [mvL, hj]
      obtain ⟨X, HX⟩ : ∃ X, Hid (mvL x = X) := ⟨_, rfl⟩
      rw [HX.out] at hinX hrM hlX h1X hkey hxX
      have honeX := all_oneCell_toArray h1X
      have hinX' : (Tryz.prog.info? 136).map (·.size) = some X.toArray.size := by simpa using hinX
      have hthX : (wr.alloc (.cells #[.int .i64 0, .int .i64 0, .int .i64 0, .int .i64 0, .int .i64 0, .int .i64 0, .int .i64 0] 136)).there wr.heap.size 0 X.toArray.size := by
        intro q hq
        rw [Nat.zero_add, cell_of_row _ _ q _ _ _ (heap_alloc_new wr _), frozen_of_row _ _ q _ _ (heap_alloc_new wr _)]
        have hq7 : q < 7 := by simpa [hlX] using hq
        exact ⟨by simp [hq7], rfl⟩
      have hBX : Below wr.heap.size wr ((wr.alloc (.cells #[.int .i64 0, .int .i64 0, .int .i64 0, .int .i64 0, .int .i64 0, .int .i64 0, .int .i64 0] 136)).setCells wr.heap.size 0 X) := (balloc wr (.cells #[.int .i64 0, .int .i64 0, .int .i64 0, .int .i64 0, .int .i64 0, .int .i64 0, .int .i64 0] 136)).trans (bsets (Nat.le_refl _) _ _ _)
      have hrX2 : ((wr.alloc (.cells #[.int .i64 0, .int .i64 0, .int .i64 0, .int .i64 0, .int .i64 0, .int .i64 0, .int .i64 0] 136)).setCells wr.heap.size 0 X).rangeAt wr.heap.size 0 X := World.rangeAt_setCells_same _ _ _ _ (by simpa using hthX)
      have hszW : ((wr.alloc (.cells #[.int .i64 0, .int .i64 0, .int .i64 0, .int .i64 0, .int .i64 0, .int .i64 0, .int .i64 0] 136)).setCells wr.heap.size 0 X).heap.size = wr.heap.size + 1 := by simp
      obtain ⟨W, HW⟩ : ∃ W, Hid ((wr.alloc (.cells #[.int .i64 0, .int .i64 0, .int .i64 0, .int .i64 0, .int .i64 0, .int .i64 0, .int .i64 0] 136)).setCells wr.heap.size 0 X = W) := ⟨_, rfl⟩
      rw [HW.out] at hBX hrX2 hszW
      have hWB : Below w.heap.size w W := hwr.trans (hBX.mono hwr.size)
      obtain ⟨c, hlook, hat, _⟩ := (HOWN.out W hWB).drew.lookup_int keyed75 und52k und3 (zero3' _) hkey
      have hcx := HD.out.look HL.out hxs hat
      clear hrM0 hx hxL hat hkey
      have hRW : RowsO W w2.heap.size r A := hR.below hBX
      have hW0 : (((W.alloc (.cells #[.int .i64 c] 3)).alloc (.cells #[.slice (some ⟨W.heap.size, 0, none⟩) 1 1, .slice (some ⟨wr.heap.size, 0, none⟩) n 7] 29)).drew).heap.size = W.heap.size + 2 := by
        show ((W.alloc _).alloc _).heap.size = _
        simp
      have hb2 : Below W.heap.size W (((W.alloc (.cells #[.int .i64 c] 3)).alloc (.cells #[.slice (some ⟨W.heap.size, 0, none⟩) 1 1, .slice (some ⟨wr.heap.size, 0, none⟩) n 7] 29)).drew) := ((balloc W _).alloc (by simp) _).drew
      have hl1 : Sls (((W.alloc (.cells #[.int .i64 c] 3)).alloc (.cells #[.slice (some ⟨W.heap.size, 0, none⟩) 1 1, .slice (some ⟨wr.heap.size, 0, none⟩) n 7] 29)).drew) (.slice (some ⟨W.heap.size + 1, 0, none⟩) 2 2) [[c], (x.take n).map Int.ofNat] := by
        have hN := heap_alloc_new (W.alloc (.cells #[.int .i64 c] 3)) (.cells #[.slice (some ⟨W.heap.size, 0, none⟩) 1 1, .slice (some ⟨wr.heap.size, 0, none⟩) n 7] 29)
        rw [World.size_alloc] at hN
        have hC : (((W.alloc (.cells #[.int .i64 c] 3)).alloc (.cells #[.slice (some ⟨W.heap.size, 0, none⟩) 1 1, .slice (some ⟨wr.heap.size, 0, none⟩) n 7] 29)).drew).cell? ⟨W.heap.size, 0, none⟩ = some (.int .i64 c) := ((Boxed.new W 3 (.int .i64 c)).alloc (.cells #[.slice (some ⟨W.heap.size, 0, none⟩) 1 1, .slice (some ⟨wr.heap.size, 0, none⟩) n 7] 29)).cell
        have hxl : x.length = 7 := hxs.1
        refine ⟨_, 2, rfl, fun i l hi => ?_⟩
        match i, hi with
        | 0, hi =>
          obtain rfl : [c] = l := by simpa using hi
          refine ⟨W.heap.size + 1, 0, _, rfl, cell_of_row _ _ 0 _ _ _ hN, _, 1, rfl, fun j hj => ⟨W.heap.size, 0, rfl, ?_⟩⟩
          obtain rfl : j = 0 := by simpa using hj
          exact hC
        | 1, hi =>
          obtain rfl : (x.take n).map Int.ofNat = l := by simpa using hi
          refine ⟨W.heap.size + 1, 0, _, rfl, cell_of_row _ _ 1 _ _ _ hN, _, 7, by simp; omega, fun j hj => ⟨wr.heap.size, 0, rfl, ?_⟩⟩
          have hjn : j < n := by simp at hj; omega
          have h7 := hrX2 j _ (hxX j (by omega))
          rw [hb2.cell (p := ⟨wr.heap.size, 0 + j, none⟩) (by show wr.heap.size < W.heap.size; omega), h7]
          have hj7 : j < x.length := by omega
          simp [hjn, hj7]
      have hlen : ([[c], (x.take n).map Int.ofNat] : List (List Int)).flatten.length = n + 1 := by
        have hxl : x.length = 7 := hxs.1
        simp
        omega
      have C9 := Concat_any [[c], (x.take n).map Int.ofNat] (.slice (some ⟨W.heap.size + 1, 0, none⟩) 2 2) _ hl1 (fun l hl => by
        have hxl : x.length = 7 := hxs.1
        rcases List.mem_cons.1 hl with rfl | hl
        · simp
        · obtain rfl := List.mem_singleton.1 hl
          simp
          omega) (by simp) (by rw [hlen]; omega) (by rw [hlen]; omega)
      rw [hlen] at C9
      have C9' := C9.mono (R' := fun e w' => (∃ gn cap, e = .returned (.slice (some ⟨gn, 0, none⟩) (n + 1) cap) ∧ W.heap.size + 2 ≤ gn ∧ Own w' gn (n + 1) (fun q => ((idxR n L x).getD q 0 : Int))) ∧ Below W.heap.size W w') (fun e w' ⟨u, e1, e2, e3⟩ => by
        obtain ⟨g, cap, rfl, hg, hO⟩ := Own.of e2 (by omega)
        rw [hW0] at hg
        refine ⟨⟨g, cap, e1, hg, hO.congr fun j hj => ?_⟩, hb2.trans (e3.mono (by rw [hW0]; omega))⟩
        unfold idxR
        rw [hcx]
        cases j with
        | zero => simp
        | succ j =>
          have hxl : x.length = 7 := hxs.1
          have hj7 : j < x.length := by omega
          have hjn : j < n := by omega
          simp [hjn, hj7])
      have hcell := hRW.cell hlt
      have hni0 : (0 : Int) ≤ (n : Int) := by omega
      have hni7 : (n : Int) ≤ 7 := by omega
      have HS5 : Hid ((W.alloc (.cells #[.int .i64 c] 3)).drew.rangeAt wr.heap.size 0 X) := range_below hrX2 (balloc W (.cells #[.int .i64 c] 3)).drew (by omega)
      have HS8 : Hid ((((W.alloc (.cells #[.int .i64 c] 3)).alloc (.cells #[.slice (some ⟨W.heap.size, 0, none⟩) 1 1, .slice (some ⟨wr.heap.size, 0, none⟩) n 7] 29)).drew).rangeAt wr.heap.size 0 X) := range_below hrX2 hb2 (by omega)
      have HSZ : Hid (W.heap.size = wr.heap.size + 1) := hszW
      clear C9 hl1 hlen hb2 HOWN hxX hcx hszW hW0 hcell
      go_wp2_with (first
        | (refine wpList_load_mid rfl 136 _ rfl gO (k * 7) rfl X _ hrM und75 rfl hinX ?_)
        | (refine wpList_store_mid rfl 136 _ _ rfl wr.heap.size 0 X.toArray rfl rfl hthX hinX' honeX ?_; rw [show X.toArray.toList = X from rfl, HW.out]))
      refine wp_region_noPanic ?_
      refine wp_region_held_drew (S := fun w_ => w_.rangeAt wr.heap.size 0 X) (by kernel_rfl) (by exact hrX2) (fun hSx => ?_)
      refine wpAnyH_take (i := 0) (v := .slice (some ⟨w2.heap.size, 0, none⟩) r r) rfl (by kernel_rfl) (by kernel_rfl) (by kernel_rfl) (fun _ _ _ h => h) (Or.inl ⟨by rfl, fun w_ hSw => by clear hSw; go_simp⟩) hSx ?_
      try simp only [Act.put, List.setIfInBounds_toArray]
      refine wpAnyH_take (i := 1) (v := .int .i64 (k : Int)) rfl (by kernel_rfl) (by kernel_rfl) (by kernel_rfl) (fun _ _ _ h => h) (Or.inl ⟨by rfl, fun w_ hSw => by clear hSw; go_simp⟩) hSx ?_
      try simp only [Act.put]
      refine wpAnyH_take (i := 2) (v := .map (some B)) rfl (by kernel_rfl) (by kernel_rfl) (by kernel_rfl) (fun _ _ _ h => h) (Or.inl ⟨by rfl, fun w_ hSw => by clear hSw; go_simp⟩) hSx ?_
      try simp only [Act.put]
      refine wpAnyH_take (i := 3) (v := .agg X.toArray) rfl (by kernel_rfl) (by kernel_rfl) (by kernel_rfl) (fun _ _ _ h => h) (yieldsIf_load_mid (by rfl) 136 _ rfl wr.heap.size 0 rfl X _ (fun _ h => h) und75 rfl hinX) hSx ?_
      try simp only [Act.put]
      refine wpAnyH_take (i := 6) (v := .int .i64 (n : Int)) rfl (by kernel_rfl) (by kernel_rfl) (by kernel_rfl) (fun _ _ _ h => h) (Or.inl ⟨by rfl, fun w_ hSw => by clear hSw; go_simp⟩) hSx ?_
      try simp only [Act.put]
      refine wpAnyH_take (i := 7) (v := .slice (some ⟨wr.heap.size, 0, none⟩) n 7) rfl (by kernel_rfl) (by kernel_rfl) (by kernel_rfl) (fun _ _ _ h => h) (Or.inl ⟨by rfl, fun w_ hSw => by clear hSw; go_simp⟩) hSx ?_
      try simp only [Act.put]
      refine wpAnyH_ready (rs := [4]) (by kernel_rfl) (by simp) ?_
      refine AllReadyH.cons rfl (fun J hJ => ?_) AllReadyH.nil
      go_simp
      refine hJ.out _ _ hSx (fun hS4 => ?_)
      clear hJ J
      try simp only [Act.put, List.setIfInBounds_toArray, List.set_cons_zero, List.set_cons_succ]
      refine wpAnyH_ready (rs := [5]) (by kernel_rfl) (by simp) ?_
      refine AllReadyH.cons rfl (fun J hJ => ?_) AllReadyH.nil
      go_simp
      refine hJ.out _ _ HS5.out (fun hS5 => ?_)
      clear hJ J
      try simp only [Act.put, List.setIfInBounds_toArray, List.set_cons_zero, List.set_cons_succ]
      refine wpAnyH_ready (rs := [8]) (by kernel_rfl) (by simp) ?_
      refine AllReadyH.cons rfl (fun J hJ => ?_) AllReadyH.nil
      go_simp
      refine hJ.out _ _ HS8.out (fun hS8 => ?_)
      clear hJ J
      try simp only [Act.put, List.setIfInBounds_toArray, List.set_cons_zero, List.set_cons_succ]
      refine wpAnyH_ready (rs := [9]) (by kernel_rfl) (by simp) ?_
      refine AllReadyH.cons rfl (fun J hJ => ?_) AllReadyH.nil
      go_simp
      refine C9'.mono ?_
      rintro e w9 ⟨⟨gn, capn, rfl, hgn, hOn⟩, b9⟩
      have hR9 := hRW.below b9
      obtain ⟨v9, hc9, hf9⟩ := hR9.cell hlt
      have hS9 : w9.rangeAt wr.heap.size 0 X := range_below hrX2 b9 (by have := HSZ.out; omega)
      have hgn2 : gn ≠ w2.heap.size := by have := HSZ.out; omega
      have hOl : Own w9 gn (idxR n L x).length (fun q => ((idxR n L x).getD q 0 : Int)) := by
        have e : (idxR n L x).length = n + 1 := by
          have hxl : x.length = 7 := hxs.1
          simp [idxR]
          omega
        rw [e]; exact hOn
      have HR11 : Hid (RowsO (w9.setCell ⟨w2.heap.size, k, none⟩ (.slice (some ⟨gn, 0, none⟩) (n + 1) capn)) w2.heap.size r (A ++ [idxR n L x])) := by
        have h := hR9.store (cap := capn) hAl hlt hOl hgn2
        have e : (idxR n L x).length = n + 1 := by
          have hxl : x.length = 7 := hxs.1
          simp [idxR]
          omega
        rw [e] at h; exact h
      have hS11 : (w9.setCell ⟨w2.heap.size, k, none⟩ (.slice (some ⟨gn, 0, none⟩) (n + 1) capn)).rangeAt wr.heap.size 0 X := fun j z hz => by
        rw [World.cell?_of_block (w := w9) (a := ⟨wr.heap.size, 0 + j, none⟩) (heap_setCell_other w9 _ wr.heap.size _ (by show wr.heap.size ≠ w2.heap.size; have := hR.lt; omega))]
        exact hS9 j z hz
      have HB11 : Hid (Below w2.heap.size w2 (w9.setCell ⟨w2.heap.size, k, none⟩ (.slice (some ⟨gn, 0, none⟩) (n + 1) capn))) := ((hB.trans (hBX.mono hsz)).trans (b9.mono (by have := HSZ.out; omega))).setCell (p := ⟨w2.heap.size, k, none⟩) (Nat.le_refl _) _
      clear hOn hOl hR9 hRW C9'
      refine hJ.out _ _ hS9 (fun hSy => ?_)
      clear hJ J
      try simp only [Act.put, List.setIfInBounds_toArray, List.set_cons_zero, List.set_cons_succ]
      refine wpAnyH_ready (rs := [10]) (by kernel_rfl) (by simp) ?_
      refine AllReadyH.cons rfl (fun J hJ => ?_) AllReadyH.nil
      go_simp
      refine hJ.out _ _ hS9 (fun hSz => ?_)
      clear hJ J
      try simp only [Act.put, List.setIfInBounds_toArray, List.set_cons_zero, List.set_cons_succ]
      refine wpAnyH_ready (rs := [11]) (by kernel_rfl) (by simp) ?_
      refine AllReadyH.cons rfl (fun J hJ => ?_) AllReadyH.nil
      go_simp
      refine hJ.out _ _ hS11 (fun _ => ?_)
      clear hJ J
      try simp only [Act.put, List.setIfInBounds_toArray, List.set_cons_zero, List.set_cons_succ]
      refine wpAnyH_done (by kernel_rfl) ?_ _
      refine NoPanic.normal ?_
      go_wp2
      go_roundw
      case rel =>
        refine ⟨k + 1, A ++ [idxR n L x], by go_num, by omega, HR11.out, ?_, HB11.out⟩
        show _ = _
        rw [HTK.out, HA.out]
      case measure => simp [intOf]; omega
    · have hdec : decide ((k : Int) < r) = false := by simp; omega
      obtain rfl : k = r := by omega
      go_wp2
      go_ret
      have hAM : A = M.map (idxR n L) := by rw [HA.out, List.take_of_length_le (by rw [Hr.out]; omega)]
      refine ⟨⟨_, M, rfl, HK.out, HPW.out, ?_⟩, HB2.out.trans (hB.mono hs2)⟩
      rw [← hAM]
      exact hR.sl (by rw [hAM, List.length_map, Hr.out])

end Go.Proofs.YtgpkhfpejopacabGreatDoor.Gc

namespace Go.Proofs.YtgpkhfpejopacabGreatDoor.Gc
open Go.RowKit Go.Shelf Go.Maps

/-- What Index tells: rows by their kinds, the greatest first. -/
def IdxIs (n : Nat) (ms : List (List Nat)) (R : List (List Nat)) : Prop :=
  ∃ L M : List (List Nat), L.Perm ((els n (Gen n ms)).map (kd n)) ∧ M.Nodup ∧ (∀ y, y ∈ M ↔ y ∈ L) ∧ (M.Pairwise fun a b => ¬ LexLt 7 (fun i => a.getD i 0) (fun i => b.getD i 0)) ∧ R = M.map (idxR n L)

set_option maxRecDepth 100000 in
set_option maxHeartbeats 1000000 in
theorem Index_ok (n : Nat) (ms : List (List Nat)) (v : Value) (w : World) (h : Mk n ms v w) :
    Calls Tryz.prog 14 #[.int .i64 (n : Int), v] w fun e w' => (∃ y R, e = .returned (.tuple #[y, .int .i64 0]) ∧ SlSl w' y R ∧ IdxIs n ms R) ∧ Below w.heap.size w w' := by
  have hn7 := h.n7
  have hn1 := h.n1
  have hbd := gen_bound h.isP hn7 (els_nodup n (Gen n ms)) (fun a => (gen_grp h.isP).mem)
  have C0 := h.check
  have C1 := fun W (b : Below w.heap.size w W) => kindsOf_any n ms v W (h.below b)
  have C3 := fun (L : List (List Nat)) (hp : L.Perm ((els n (Gen n ms)).map (kd n))) (B m : Nat) (D : DataW Unit) (W : World) (ho : W.ownsMap Tryz.prog 136 (plainElem Tryz.prog 3) B m D) (hD : KindsIs D L) (hm : m ≤ 6000) =>
    rows_any B m n D L W ho hD (fun y hy => (kinds_sm hn7 hp y hy).1) hm (fun e => by have := hp.length_eq; rw [e, List.length_map] at this; simp at this; omega) (by rw [hp.length_eq, List.length_map]; omega) hn1 hn7
  have HC3 : Hid (∀ (L : List (List Nat)) (hp : L.Perm ((els n (Gen n ms)).map (kd n))) (B m : Nat) (D : DataW Unit) (W : World) (ho : W.ownsMap Tryz.prog 136 (plainElem Tryz.prog 3) B m D) (hD : KindsIs D L) (hm : m ≤ 6000), _) := C3
  clear C3 hbd h
  go_enter Tryz.func14, Tryz.ntmps14
  go_wp2_with (first
    | (go_at_call 40; refine C0.mono ?_; rintro e w1 ⟨rfl, b1⟩)
    | (go_at_call 45; refine (C1 _ b1).mono ?_; rintro e w2 ⟨B, m, D, L, rfl, hwB, hm, hown, hD, hp, b2⟩; have b2' := Below.next b1 b2; have C4 := HC3.out L hp B m D w2 hown hD (by omega); have HP : Hid (L.Perm ((els n (Gen n ms)).map (kd n))) := hp; clear hp hD)
    | (go_at_call 47; refine C4.mono ?_; rintro e w4 ⟨⟨y, M, rfl, hK, hS, hy⟩, b4⟩; obtain ⟨ya, yc, ey⟩ : ∃ a c, y = .slice a (M.map (idxR n L)).length c := by obtain ⟨a, c, e, _⟩ := hy; exact ⟨a, c, e⟩))
  go_ret2
  have hy' := hy
  rw [ey, List.length_map] at hy'
  exact ⟨⟨_, _, rfl, hy', L, M, HP.out, hK.1, fun z => by rw [hK.2 z]; simp, hS, rfl⟩, Below.next b2' b4⟩

end Go.Proofs.YtgpkhfpejopacabGreatDoor.Gc

namespace Go.Proofs.YtgpkhfpejopacabGreatDoor.Gc
open Go.RowKit

theorem conj_itr {n : Nat} {a c : Nat → Nat} (P : Pm n a) (Q : Pm n c) (k : Nat) {x : Nat} (hx : x < n) : itr (fun i => c (a (iv c i))) k (c x) = c (itr a k x) := by
  induction k with
  | zero => rfl
  | succ k ih =>
    show c (a (iv c (itr (fun i => c (a (iv c i))) k (c x)))) = c (a (itr a k x))
    rw [ih, Q.iv_f (P.itr_lt hx k)]
theorem conj_pm {n : Nat} {a c : Nat → Nat} (P : Pm n a) (Q : Pm n c) : Pm n (fun i => c (a (iv c i))) := (Q.iv_pm.comp P).comp Q
theorem conj_per {n : Nat} {a c : Nat → Nat} (P : Pm n a) (Q : Pm n c) {x : Nat} (hx : x < n) : per (fun i => c (a (iv c i))) (c x) = per a x := by
  have h : ∀ N, per (fun i => c (a (iv c i))) (c x) ∣ N ↔ per a x ∣ N := by
    intro N
    rw [← (conj_pm P Q).dvd (Q.lt x hx), ← P.dvd hx, conj_itr P Q N hx]
    exact ⟨fun h => Q.inj _ _ (P.itr_lt hx N) hx h, fun h => by rw [h]⟩
  exact Nat.dvd_antisymm ((h _).2 (Nat.dvd_refl _)) ((h _).1 (Nat.dvd_refl _))
theorem conj_alike {n : Nat} {a c : Nat → Nat} (P : Pm n a) (Q : Pm n c) : alikeB n a (fun i => c (a (iv c i))) = true := by
  rw [alikeB_iff]
  intro L _
  have R := conj_pm P Q
  have h1 := P.lens_count L
  have h2 := R.lens_count L
  rw [← Q.map_range.countP_eq, List.countP_map] at h2
  have e : (List.range n).countP ((fun x => per (fun i => c (a (iv c i))) x == L) ∘ c) = (List.range n).countP (fun x => per a x == L) := List.countP_congr fun x hx => by
    show (per (fun i => c (a (iv c i))) (c x) == L) = true ↔ _
    rw [conj_per P Q (List.mem_range.1 hx)]
  rw [e, h1] at h2
  rcases Nat.eq_zero_or_pos L with h0 | h0
  · subst h0; rw [kn_zero P, kn_zero R]
  · exact Nat.eq_of_mul_eq_mul_left h0 h2
/-- What a maker moves, as a list. -/
theorem conj_list {n : Nat} {m x : List Nat} (hm : IsP n m) : (pl n fun i => m.getD (x.getD (iv (fun i => m.getD i 0) i) 0) 0) = (thenL (thenL (invL n m) x) m).map Int.ofNat := by
  have hi := invL_isP hm
  have hl : (thenL (thenL (invL n m) x) m).length = n := by simp [thenL, hi.len]
  rw [← pl_map hl]
  refine pl_congr fun i hi' => ?_
  have h1 : (thenL (invL n m) x).length = n := by simp [thenL, hi.len]
  rw [thenL_at h1 hi', thenL_at hi.len hi']
  have e : iv (fun i => m.getD i 0) i = (invL n m).getD i 0 := by
    have Q := hm.pm
    refine Q.inj _ _ (Q.iv_lt hi') (hi.at hi') ?_
    show m.getD _ 0 = m.getD _ 0
    have h2 : m.getD (iv (fun i => m.getD i 0) i) 0 = i := Q.f_iv hi'
    rw [h2, a_inv hm hi']
  rw [e]
/-- So far the first numbers of the rows. -/
def sumR (R : List (List Nat)) (j : Nat) : Nat := ((R.take j).map fun r => r.getD 0 0).sum
theorem sumR_succ {R : List (List Nat)} {j : Nat} {r : List Nat} (h : R[j]? = some r) : sumR R (j + 1) = sumR R j + r.getD 0 0 := by
  unfold sumR
  rw [List.take_add_one, h]
  simp
theorem len_sum {α : Type} (f : α → Nat) : ∀ M : List α, (∀ y ∈ M, 1 ≤ f y) → M.length ≤ (M.map f).sum
  | [], _ => Nat.le_refl _
  | y :: M, h => by
    have h1 := h y (by simp)
    have h2 := len_sum f M fun z hz => h z (by simp [hz])
    rw [List.map_cons, List.sum_cons, List.length_cons]
    omega
theorem idx_sum {n : Nat} {ms R : List (List Nat)} (h : IdxIs n ms R) : sumR R R.length = ordG n ms ∧ (∀ r ∈ R, 1 ≤ r.length) ∧ R.length ≤ ordG n ms := by
  obtain ⟨L, M, hp, nd, hm, _, rfl⟩ := h
  have hs : (M.map fun y => L.count y).sum = ordG n ms := by
    unfold ordG
    rw [count_len M L nd fun y hy => (hm y).2 hy, hp.length_eq, List.length_map]
  refine ⟨?_, fun r hr => ?_, ?_⟩
  · unfold sumR
    rw [List.take_length, List.map_map]
    have e : (M.map ((fun r : List Nat => r.getD 0 0) ∘ idxR n L)) = M.map fun y => L.count y := List.map_congr_left fun y _ => rfl
    rw [e, hs]
  · obtain ⟨y, _, rfl⟩ := List.mem_map.1 hr
    simp [idxR]
  · rw [List.length_map, ← hs]
    exact len_sum _ M fun y hy => List.count_pos_iff.2 ((hm y).1 hy)
theorem sumR_mono (R : List (List Nat)) (j k : Nat) : sumR R j ≤ sumR R (j + k) := by
  induction k with
  | zero => exact Nat.le_refl _
  | succ k ih =>
    cases h : R[j + k]? with
    | none =>
      have e : sumR R (j + k + 1) = sumR R (j + k) := by
        unfold sumR
        rw [List.take_add_one, h]
        simp
      rw [← Nat.add_assoc, e]; exact ih
    | some r => rw [← Nat.add_assoc, sumR_succ h]; omega
end Go.Proofs.YtgpkhfpejopacabGreatDoor.Gc

namespace Go.Proofs.YtgpkhfpejopacabGreatDoor.Gc
open Go.RowKit Go.Maps

set_option maxRecDepth 100000 in
set_option maxHeartbeats 4000000 in
theorem Orbits_none (n i : Int) (ls : List (List Int)) (v : Value) (w : World) (hT : Tab w) (hF : Fd.Tab w) (hv : Came ls v w) (h0 : gF n ls ≠ 0) :
    Calls Tryz.prog 4 #[.int .i64 n, v, .int .i64 i] w fun e w' => e = .returned (.bool true) ∧ Below w.heap.size w w' := by
  have C0 := one_any w hT hF
  obtain ⟨z, Hz⟩ : ∃ z, Hid (gF n ls = z) := ⟨_, rfl⟩
  have hz : z ≠ 0 := by rw [← Hz.out]; exact h0
  have C1 := fun W (h : Below w.heap.size w W) => Orbits_bad n ls v W (hv.below h).sls hv.each hv.len z Hz.out hz
  have hzd : (z != 0) = true := by simpa using hz
  obtain ⟨a, cap, rfl, _⟩ := hv.sls
  clear hv h0 hz
  go_enter Tryz.func4, Tryz.ntmps4
  go_wp2_with (first
    | (go_at_call 5; refine C0.mono ?_; rintro e w1 ⟨rfl, b1⟩)
    | (go_at_call 12; refine (C1 _ b1).mono ?_; rintro e w2 ⟨rfl, b2⟩; clear C1; replace b2 := Below.next b1 b2))
  go_ret
  exact ⟨rfl, b2⟩

theorem con_two' {k : Nat} (h : 2 ≤ k) (h7 : k ≤ 7) : conF k (([1, k - 1] : List Nat).map Int.ofNat) = 0 := by
  have : k = 2 ∨ k = 3 ∨ k = 4 ∨ k = 5 ∨ k = 6 ∨ k = 7 := by omega
  rcases this with rfl | rfl | rfl | rfl | rfl | rfl <;> decide +kernel
theorem getD_map0 (l : List Nat) : (l.map Int.ofNat).getD 0 0 = ((l.getD 0 0 : Nat) : Int) := by cases l <;> rfl
theorem two_sl (w : World) (x : Int) (t : TypeId) : Sl (w.alloc (.cells #[.int .i64 1, .int .i64 x] t)) (.slice (some ⟨w.heap.size, 0, none⟩) 2 2) [1, x] := by
  refine ⟨_, _, rfl, fun j hj => ⟨_, _, rfl, ?_⟩⟩
  rw [cell_of_row _ _ _ _ _ _ (heap_alloc_new w _)]
  match j, hj with
  | 0, _ => rfl
  | 1, _ => rfl

set_option maxRecDepth 100000 in
set_option maxHeartbeats 8000000 in
theorem Orbits_one_far (k : Nat) (i : Int) (ms : List (List Nat)) (a : Option Addr) (cap : Nat) (w : World) (hT : Tab w) (hF : Fd.Tab w) (hM : Mk k ms (.slice a ms.length cap) w) (hk : k = 1) (hi : i < 0 ∨ (ordG k ms : Int) ≤ i) :
    Calls Tryz.prog 4 #[.int .i64 (k : Int), .slice a ms.length cap, .int .i64 i] w fun e w' => e = .returned (.bool true) ∧ Below w.heap.size w w' := by
  have C0 := one_any w hT hF
  have C1 := fun W (h : Below w.heap.size w W) => Orbits_ok k ms _ W (hM.below h)
  have C3 := fun W (h : Below w.heap.size w W) => Index_ok k ms _ W (hM.below h)
  have C4 := fun W (h : Below w.heap.size w W) => Order_ok k ms _ W (hM.below h)
  have C5 := fun W (h : Below w.heap.size w W) => Element_far k i ms _ W (hM.below h) hi
  have HMK : Hid (Mk k ms (.slice a ms.length cap) w) := hM
  have hk7 := hM.n7
  have hob := (ord_le hM.isP hM.n7).2
  have hr4 := hM.len
  have HRP : Hid ((orbs k ms).length = (reps k (Gen k ms)).length) := by show _ = _; unfold orbs; rw [List.length_map]
  have hrb := reps_len k (Gen k ms)
  obtain ⟨r, Hr⟩ : ∃ r, Hid (ms.length = r) := ⟨_, rfl⟩
  obtain ⟨o, Ho⟩ : ∃ o, Hid (ordG k ms = o) := ⟨_, rfl⟩
  obtain ⟨ob, Hob⟩ : ∃ ob, Hid ((reps k (Gen k ms)).length = ob) := ⟨_, rfl⟩
  rw [Hr.out] at C1 C3 C4 C5 HMK hr4 ⊢
  rw [Ho.out] at C4 hob
  rw [Hob.out] at hrb HRP
  have C1' := fun W (h : Below w.heap.size w W) => (C1 W h).mono (R' := fun e w' => (∃ a c, e = .returned (.tuple #[.slice a ob c, .int .i64 0])) ∧ Below W.heap.size W w') (fun e w' ⟨⟨y, h1, h2⟩, h3⟩ => by
    obtain ⟨a, c, e2, _⟩ := h2
    exact ⟨⟨a, c, by rw [h1, e2, HRP.out]⟩, h3⟩)
  have C3' := fun W (h : Below w.heap.size w W) => (C3 W h).mono (R' := fun e w' => (∃ ya yc R rl, e = .returned (.tuple #[.slice ya rl yc, .int .i64 0]) ∧ Hid (SlSl w' (.slice ya rl yc) R) ∧ Hid (R.length = rl) ∧ Hid (sumR R R.length = o ∧ ∀ r ∈ R, 1 ≤ r.length) ∧ rl ≤ 5040) ∧ Below W.heap.size W w') (fun e w' ⟨⟨y, R, h1, h2, h4⟩, h3⟩ => by
    obtain ⟨ya, yc, e2, _⟩ := id h2
    have q := idx_sum h4
    rw [Ho.out] at q
    rw [e2] at h1 h2
    exact ⟨⟨ya, yc, R, _, h1, h2, (rfl : R.length = R.length), ⟨q.1, q.2.1⟩, by have := q.2.2; omega⟩, h3⟩)
  clear C1 C3 hM
  have hk1d : decide ((1 : Int) < (k : Int)) = false := by simp; omega
  have hk1i : ¬ (1 : Int) < (k : Int) := by omega
  have hk1n : decide (1 < k) = false := by simp; omega
  clear hk hi
  go_enter Tryz.func4, Tryz.ntmps4
  go_wp2_with (first
    | (go_at_call 5; refine C0.mono ?_; rintro e w1 ⟨rfl, b1⟩)
    | (go_at_call 12; refine (C1' _ b1).mono ?_; rintro e w2 ⟨⟨oa, oc, rfl⟩, b2⟩; clear C1'; replace b2 := Below.next b1 b2)
    | (go_at_call 14; refine (C3' _ b2).mono ?_; rintro e w4 ⟨⟨ya, yc, R, rl, rfl, HY, HRL, HQ, hrl5⟩, b4⟩; clear C3'; replace b4 := Below.next b2 b4)
    | (go_at_call 15; refine (C4 _ b4).mono ?_; rintro e w5 ⟨rfl, b5⟩; replace HY : Hid (SlSl w5 (.slice ya rl yc) R) := HY.out.below b5; clear C4; replace b5 := Below.next b4 b5))
  clear C0
  go_loopw [15, 16] (fun sv jv wr => ∃ j : Nat, jv = .int .i64 j ∧ j ≤ rl ∧ sv = .int .i64 (sumR R j : Int) ∧ Below w5.heap.size w5 wr) (fun _ jv _ => (rl - intOf jv).toNat)
  case atStart => exact ⟨0, rfl, by omega, rfl, Below.refl _ _⟩
  case round =>
    obtain ⟨j, rfl, hj, rfl, hB⟩ := hrel
    by_cases hlt : j < rl
    · have hji : (j : Int) < (rl : Int) := by omega
      have hjd : decide ((j : Int) < (rl : Int)) = true := by simp; omega
      obtain ⟨row, Hrow⟩ : ∃ row, Hid (R[j]? = some row) := ⟨R[j]'(by rw [HRL.out]; exact hlt), (List.getElem?_eq_getElem _ : _)⟩
      have hr1 := HQ.out.2 row (List.mem_of_getElem? Hrow.out)
      obtain ⟨b, off, u, rfl, hbw, hcu, hsu⟩ := HY.out.at Hrow.out
      obtain ⟨g, og, gc, rfl, hg, hgc⟩ := hsu.form (n := row.length) (by simp) (by omega)
      have hc0 := (hB.cell (World.block_lt_of_cell? _ _ (hgc 0 (by omega)))).trans (hgc 0 (by omega))
      have hcu' := (hB.cell (p := ⟨b, off + j, none⟩) hbw).trans hcu
      have hsu1 := sumR_succ Hrow.out
      have hle : sumR R (j + 1) ≤ o := by
        have := sumR_mono R (j + 1) (R.length - (j + 1))
        rw [show j + 1 + (R.length - (j + 1)) = R.length by rw [HRL.out]; omega, HQ.out.1] at this
        exact this
      obtain ⟨h, Hh⟩ : ∃ h, Hid (row.getD 0 0 = h) := ⟨_, rfl⟩
      have e0 : (row.map Int.ofNat).getD 0 0 = (h : Int) := by rw [← Hh.out, getD_map0]
      rw [e0] at hc0
      rw [Hh.out] at hsu1
      obtain ⟨s0, Hs0⟩ : ∃ s, Hid (sumR R j = s) := ⟨_, rfl⟩
      obtain ⟨s1, Hs1⟩ : ∃ s, Hid (sumR R (j + 1) = s) := ⟨_, rfl⟩
      rw [Hs0.out, Hs1.out] at hsu1
      rw [Hs1.out] at hle
      rw [Hs0.out]
      have hadd : (s0 : Int) + (h : Int) = (s1 : Int) := by omega
      have hrl : (0 : Int) < ((row.length : Nat) : Int) := by omega
      obtain ⟨rw', Hrw⟩ : ∃ q, Hid (row.length = q) := ⟨_, rfl⟩
      rw [Hrw.out] at hcu' hrl hr1
      clear hcu hsu hgc e0 hsu1 hg hbw
      rw [Nat.add_zero] at hc0
      go_wp2
      go_roundw
      case rel => exact ⟨j + 1, by go_num, by omega, by rw [Hs1.out], hB⟩
      case measure => simp [intOf]; omega
    · obtain rfl : j = rl := by omega
      have hjd : decide ((j : Int) < (j : Int)) = false := by simp
      have hso : sumR R j = o := by have := HQ.out.1; rw [HRL.out] at this; exact this
      rw [hso]
      have hB5 := Below.next b5 hB
      have hoo : ((o : Int) == (o : Int)) = true := by simp
      clear hso hj hlt HY HQ HRL hB
      go_wp2_with (first
        | (go_at_call 16; refine (C5 _ hB5).mono ?_; rintro e w6 ⟨rfl, b6⟩; clear C5; replace b6 := Below.next hB5 b6))
      go_ret
      exact ⟨rfl, b6⟩

set_option maxRecDepth 100000 in
set_option maxHeartbeats 8000000 in
theorem Orbits_one_el (k : Nat) (i : Int) (ms : List (List Nat)) (a : Option Addr) (cap : Nat) (w : World) (hT : Tab w) (hF : Fd.Tab w) (hM : Mk k ms (.slice a ms.length cap) w) (hk : k = 1) (hi : 0 ≤ i ∧ i < (ordG k ms : Int)) :
    Calls Tryz.prog 4 #[.int .i64 (k : Int), .slice a ms.length cap, .int .i64 i] w fun e w' => e = .returned (.bool true) ∧ Below w.heap.size w w' := by
  have C0 := one_any w hT hF
  have C1 := fun W (h : Below w.heap.size w W) => Orbits_ok k ms _ W (hM.below h)
  have C3 := fun W (h : Below w.heap.size w W) => Index_ok k ms _ W (hM.below h)
  have C4 := fun W (h : Below w.heap.size w W) => Order_ok k ms _ W (hM.below h)
  obtain ⟨p, rfl⟩ : ∃ p : Nat, i = p := ⟨i.toNat, by omega⟩
  obtain ⟨x, hx1, hx2, hx3⟩ := els_at (n := k) (ms := ms) (k := p) (by omega)
  have C5 := fun W (h : Below w.heap.size w W) => Element_ok k p ms x _ W (hM.below h) (by omega) hx1 hx2
  have HMK : Hid (Mk k ms (.slice a ms.length cap) w) := hM
  have hk7 := hM.n7
  have hob := (ord_le hM.isP hM.n7).2
  have hr4 := hM.len
  have HRP : Hid ((orbs k ms).length = (reps k (Gen k ms)).length) := by show _ = _; unfold orbs; rw [List.length_map]
  have hrb := reps_len k (Gen k ms)
  obtain ⟨r, Hr⟩ : ∃ r, Hid (ms.length = r) := ⟨_, rfl⟩
  obtain ⟨o, Ho⟩ : ∃ o, Hid (ordG k ms = o) := ⟨_, rfl⟩
  obtain ⟨ob, Hob⟩ : ∃ ob, Hid ((reps k (Gen k ms)).length = ob) := ⟨_, rfl⟩
  rw [Hr.out] at C1 C3 C4 C5 HMK hr4 ⊢
  rw [Ho.out] at C4 hob
  rw [Hob.out] at hrb HRP
  have C1' := fun W (h : Below w.heap.size w W) => (C1 W h).mono (R' := fun e w' => (∃ a c, e = .returned (.tuple #[.slice a ob c, .int .i64 0])) ∧ Below W.heap.size W w') (fun e w' ⟨⟨y, h1, h2⟩, h3⟩ => by
    obtain ⟨a, c, e2, _⟩ := h2
    exact ⟨⟨a, c, by rw [h1, e2, HRP.out]⟩, h3⟩)
  have C3' := fun W (h : Below w.heap.size w W) => (C3 W h).mono (R' := fun e w' => (∃ ya yc R rl, e = .returned (.tuple #[.slice ya rl yc, .int .i64 0]) ∧ Hid (SlSl w' (.slice ya rl yc) R) ∧ Hid (R.length = rl) ∧ Hid (sumR R R.length = o ∧ ∀ r ∈ R, 1 ≤ r.length) ∧ rl ≤ 5040) ∧ Below W.heap.size W w') (fun e w' ⟨⟨y, R, h1, h2, h4⟩, h3⟩ => by
    obtain ⟨ya, yc, e2, _⟩ := id h2
    have q := idx_sum h4
    rw [Ho.out] at q
    rw [e2] at h1 h2
    exact ⟨⟨ya, yc, R, _, h1, h2, (rfl : R.length = R.length), ⟨q.1, q.2.1⟩, by have := q.2.2; omega⟩, h3⟩)
  clear C1 C3 hM
  have hk1d : decide ((1 : Int) < (k : Int)) = false := by simp; omega
  have hk1i : ¬ (1 : Int) < (k : Int) := by omega
  have hk1n : decide (1 < k) = false := by simp; omega
  clear hk hi
  go_enter Tryz.func4, Tryz.ntmps4
  go_wp2_with (first
    | (go_at_call 5; refine C0.mono ?_; rintro e w1 ⟨rfl, b1⟩)
    | (go_at_call 12; refine (C1' _ b1).mono ?_; rintro e w2 ⟨⟨oa, oc, rfl⟩, b2⟩; clear C1'; replace b2 := Below.next b1 b2)
    | (go_at_call 14; refine (C3' _ b2).mono ?_; rintro e w4 ⟨⟨ya, yc, R, rl, rfl, HY, HRL, HQ, hrl5⟩, b4⟩; clear C3'; replace b4 := Below.next b2 b4)
    | (go_at_call 15; refine (C4 _ b4).mono ?_; rintro e w5 ⟨rfl, b5⟩; replace HY : Hid (SlSl w5 (.slice ya rl yc) R) := HY.out.below b5; clear C4; replace b5 := Below.next b4 b5))
  clear C0
  go_loopw [15, 16] (fun sv jv wr => ∃ j : Nat, jv = .int .i64 j ∧ j ≤ rl ∧ sv = .int .i64 (sumR R j : Int) ∧ Below w5.heap.size w5 wr) (fun _ jv _ => (rl - intOf jv).toNat)
  case atStart => exact ⟨0, rfl, by omega, rfl, Below.refl _ _⟩
  case round =>
    obtain ⟨j, rfl, hj, rfl, hB⟩ := hrel
    by_cases hlt : j < rl
    · have hji : (j : Int) < (rl : Int) := by omega
      have hjd : decide ((j : Int) < (rl : Int)) = true := by simp; omega
      obtain ⟨row, Hrow⟩ : ∃ row, Hid (R[j]? = some row) := ⟨R[j]'(by rw [HRL.out]; exact hlt), (List.getElem?_eq_getElem _ : _)⟩
      have hr1 := HQ.out.2 row (List.mem_of_getElem? Hrow.out)
      obtain ⟨b, off, u, rfl, hbw, hcu, hsu⟩ := HY.out.at Hrow.out
      obtain ⟨g, og, gc, rfl, hg, hgc⟩ := hsu.form (n := row.length) (by simp) (by omega)
      have hc0 := (hB.cell (World.block_lt_of_cell? _ _ (hgc 0 (by omega)))).trans (hgc 0 (by omega))
      have hcu' := (hB.cell (p := ⟨b, off + j, none⟩) hbw).trans hcu
      have hsu1 := sumR_succ Hrow.out
      have hle : sumR R (j + 1) ≤ o := by
        have := sumR_mono R (j + 1) (R.length - (j + 1))
        rw [show j + 1 + (R.length - (j + 1)) = R.length by rw [HRL.out]; omega, HQ.out.1] at this
        exact this
      obtain ⟨h, Hh⟩ : ∃ h, Hid (row.getD 0 0 = h) := ⟨_, rfl⟩
      have e0 : (row.map Int.ofNat).getD 0 0 = (h : Int) := by rw [← Hh.out, getD_map0]
      rw [e0] at hc0
      rw [Hh.out] at hsu1
      obtain ⟨s0, Hs0⟩ : ∃ s, Hid (sumR R j = s) := ⟨_, rfl⟩
      obtain ⟨s1, Hs1⟩ : ∃ s, Hid (sumR R (j + 1) = s) := ⟨_, rfl⟩
      rw [Hs0.out, Hs1.out] at hsu1
      rw [Hs1.out] at hle
      rw [Hs0.out]
      have hadd : (s0 : Int) + (h : Int) = (s1 : Int) := by omega
      have hrl : (0 : Int) < ((row.length : Nat) : Int) := by omega
      obtain ⟨rw', Hrw⟩ : ∃ q, Hid (row.length = q) := ⟨_, rfl⟩
      rw [Hrw.out] at hcu' hrl hr1
      clear hcu hsu hgc e0 hsu1 hg hbw
      rw [Nat.add_zero] at hc0
      go_wp2
      go_roundw
      case rel => exact ⟨j + 1, by go_num, by omega, by rw [Hs1.out], hB⟩
      case measure => simp [intOf]; omega
    · obtain rfl : j = rl := by omega
      have hjd : decide ((j : Int) < (j : Int)) = false := by simp
      have hso : sumR R j = o := by have := HQ.out.1; rw [HRL.out] at this; exact this
      rw [hso]
      have hB5 := Below.next b5 hB
      have hoo : ((o : Int) == (o : Int)) = true := by simp
      clear hso hj hlt HY HQ HRL hB
      go_wp2_with (first
        | (go_at_call 16; refine (C5 _ hB5).mono ?_; rintro e w6 ⟨⟨y, rfl, hy⟩, b6⟩; clear C5; replace b6 := Below.next hB5 b6))
      have HX : Hid (Sl w6 y (x.map Int.ofNat)) := hy
      have HXP : Hid (IsP k x ∧ Gen k ms x) := ⟨hx2, hx3⟩
      obtain ⟨xa, xc, rfl⟩ : ∃ xa xc, y = .slice xa k xc := by
        obtain ⟨xa, xc, e, _⟩ := hy
        exact ⟨xa, xc, by rw [e, List.length_map, hx2.len]⟩
      clear hy hx1 hx2 hx3
      go_loopw [18] (fun jv wr => ∃ t : Nat, jv = .int .i64 t ∧ t ≤ r ∧ Below w6.heap.size w6 wr) (fun jv _ => (r - intOf jv).toNat)
      case atStart => exact ⟨0, rfl, by omega, Below.refl _ _⟩
      case round =>
        obtain ⟨t, rfl, ht, hB⟩ := hrel
        by_cases hlt : t < r
        · have hti : (t : Int) < r := by omega
          have hdec : decide ((t : Int) < r) = true := by simp; omega
          obtain ⟨m, hm⟩ : ∃ m, ms[t]? = some m := ⟨ms[t]'(by have := Hr.out; omega), by simp⟩
          have hmm := List.mem_of_getElem? hm
          have hPm := HMK.out.isP m hmm
          have hB6 := Below.next b6 hB
          obtain ⟨b, off, u, rfl, hbw, hcu, hsu⟩ := HMK.out.sl.at hm
          have hcu3 : wr.cell? ⟨b, off + t, none⟩ = some u := (hB6.cell (p := ⟨b, off + t, none⟩) hbw).trans hcu
          rw [← pl_map hPm.len] at hsu
          have hx6 := HX.out
          rw [← pl_map HXP.out.1.len] at hx6
          have D1 := fun W (h : Below wr.heap.size wr W) => Inverse_ok k _ u W (by omega) (hsu.below (Below.next hB6 h)) hPm.pm
          have D2 := fun q W (h : Below wr.heap.size wr W) (hq : Sl W q (pl k (iv fun i => m.getD i 0))) => Compose_ok k _ _ q (.slice xa k xc) W (by omega) hq (hx6.below (Below.next hB h)) hPm.pm.iv_pm HXP.out.1.pm
          have D3 := fun q W (h : Below wr.heap.size wr W) (hq : Sl W q (pl k fun i => x.getD (iv (fun i => m.getD i 0) i) 0)) => Compose_ok k _ _ q u W (by omega) hq (hsu.below (Below.next hB6 h)) (hPm.pm.iv_pm.comp HXP.out.1.pm) hPm.pm
          have D4 := fun q W (h : Below wr.heap.size wr W) (hq : Sl W q (pl k fun i => m.getD (x.getD (iv (fun i => m.getD i 0) i) 0) 0)) => Alike_ok k _ _ (.slice xa k xc) q W (by omega) (hx6.below (Below.next hB h)) hq HXP.out.1.pm (conj_pm HXP.out.1.pm hPm.pm)
          have D5 := fun q W (h : Below wr.heap.size wr W) (hq : Sl W q (pl k fun i => m.getD (x.getD (iv (fun i => m.getD i 0) i) 0) 0)) => Has_yes k ms _ _ q W (HMK.out.below (Below.next hB6 h)) (by rw [conj_list hPm] at hq; exact hq) ((((Gen.maker HMK.out.isP hmm).inv HMK.out.isP).then HMK.out.isP HXP.out.2).then HMK.out.isP (Gen.maker HMK.out.isP hmm))
          have eA : alikeB k (fun i => x.getD i 0) (fun i => m.getD (x.getD (iv (fun i => m.getD i 0) i) 0) 0) = true := conj_alike HXP.out.1.pm hPm.pm
          rw [eA] at D4
          obtain ⟨ua, uc, rfl⟩ : ∃ ua uc, u = .slice ua k uc := by
            obtain ⟨ua, uc, e, _⟩ := hsu
            exact ⟨ua, uc, by rw [e, pl_len]⟩
          have HCU : Hid (∀ W, Below wr.heap.size wr W → W.cell? ⟨b, off + t, none⟩ = some (.slice ua k uc)) := fun W h => (h.cell (World.block_lt_of_cell? _ _ hcu3)).trans hcu3
          clear hcu hm hsu hPm hx6 eA hmm hbw
          go_wp2_with (first
            | (go_at_call 17; refine (D1 _ (Below.refl _ _)).mono ?_; rintro e w7 ⟨q1, rfl, hq1, b7⟩; clear D1)
            | (go_at_call 18; refine (D2 _ _ b7 hq1).mono ?_; rintro e w8 ⟨q2, rfl, hq2, b8⟩; clear D2; replace b8 := Below.next b7 b8; have hcu8 := HCU.out _ b8)
            | (go_at_call 18; refine (D3 _ _ b8 hq2).mono ?_; rintro e w9 ⟨q3, rfl, hq3, b9⟩; clear D3; replace b9 := Below.next b8 b9)
            | (go_at_call 19; refine (D4 _ _ b9 hq3).mono ?_; rintro e wA ⟨rfl, bA⟩; clear D4; replace hq3 := hq3.below bA; replace bA := Below.next b9 bA)
            | (go_at_call 20; refine (D5 _ _ bA hq3).mono ?_; rintro e wB ⟨rfl, bB⟩; clear D5; replace bB := Below.next bA bB))
          go_roundw
          case rel => exact ⟨t + 1, by go_num, by omega, Below.next hB bB⟩
          case measure => simp [intOf]; omega
        · have hdec : decide ((t : Int) < (r : Int)) = false := by simp; omega
          have hdn : decide (t < r) = false := by simp; omega
          have hbE := Below.next b6 hB
          go_wp2
          go_ret
          exact ⟨rfl, hbE⟩

set_option maxRecDepth 100000 in
set_option maxHeartbeats 8000000 in
theorem Orbits_more_far (k : Nat) (i : Int) (ms : List (List Nat)) (a : Option Addr) (cap : Nat) (w : World) (hT : Tab w) (hF : Fd.Tab w) (hM : Mk k ms (.slice a ms.length cap) w) (hk : 2 ≤ k) (hi : i < 0 ∨ (ordG k ms : Int) ≤ i) :
    Calls Tryz.prog 4 #[.int .i64 (k : Int), .slice a ms.length cap, .int .i64 i] w fun e w' => e = .returned (.bool true) ∧ Below w.heap.size w w' := by
  have C0 := one_any w hT hF
  have C1 := fun W (h : Below w.heap.size w W) => Orbits_ok k ms _ W (hM.below h)
  have C2 := fun u W (h : Below w.heap.size w W) (hu : Sl W u (([1, k - 1] : List Nat).map Int.ofNat)) => Content_ok k ms [1, k - 1] _ u W (hM.below h) hu (con_two' (by omega) hM.n7)
  rw [show ([1, k - 1] : List Nat).length = 2 from rfl, orbits_con hk hM.n7 hM.isP] at C2
  have C3 := fun W (h : Below w.heap.size w W) => Index_ok k ms _ W (hM.below h)
  have C4 := fun W (h : Below w.heap.size w W) => Order_ok k ms _ W (hM.below h)
  have C5 := fun W (h : Below w.heap.size w W) => Element_far k i ms _ W (hM.below h) hi
  have HMK : Hid (Mk k ms (.slice a ms.length cap) w) := hM
  have hk7 := hM.n7
  have hob := (ord_le hM.isP hM.n7).2
  have hr4 := hM.len
  have HRP : Hid ((orbs k ms).length = (reps k (Gen k ms)).length) := by show _ = _; unfold orbs; rw [List.length_map]
  have hrb := reps_len k (Gen k ms)
  obtain ⟨r, Hr⟩ : ∃ r, Hid (ms.length = r) := ⟨_, rfl⟩
  obtain ⟨o, Ho⟩ : ∃ o, Hid (ordG k ms = o) := ⟨_, rfl⟩
  obtain ⟨ob, Hob⟩ : ∃ ob, Hid ((reps k (Gen k ms)).length = ob) := ⟨_, rfl⟩
  rw [Hr.out] at C1 C2 C3 C4 C5 HMK hr4 ⊢
  rw [Ho.out] at C4 hob
  rw [Hob.out] at C2 hrb HRP
  have C1' := fun W (h : Below w.heap.size w W) => (C1 W h).mono (R' := fun e w' => (∃ a c, e = .returned (.tuple #[.slice a ob c, .int .i64 0])) ∧ Below W.heap.size W w') (fun e w' ⟨⟨y, h1, h2⟩, h3⟩ => by
    obtain ⟨a, c, e2, _⟩ := h2
    exact ⟨⟨a, c, by rw [h1, e2, HRP.out]⟩, h3⟩)
  have C3' := fun W (h : Below w.heap.size w W) => (C3 W h).mono (R' := fun e w' => (∃ ya yc R rl, e = .returned (.tuple #[.slice ya rl yc, .int .i64 0]) ∧ Hid (SlSl w' (.slice ya rl yc) R) ∧ Hid (R.length = rl) ∧ Hid (sumR R R.length = o ∧ ∀ r ∈ R, 1 ≤ r.length) ∧ rl ≤ 5040) ∧ Below W.heap.size W w') (fun e w' ⟨⟨y, R, h1, h2, h4⟩, h3⟩ => by
    obtain ⟨ya, yc, e2, _⟩ := id h2
    have q := idx_sum h4
    rw [Ho.out] at q
    rw [e2] at h1 h2
    exact ⟨⟨ya, yc, R, _, h1, h2, (rfl : R.length = R.length), ⟨q.1, q.2.1⟩, by have := q.2.2; omega⟩, h3⟩)
  clear C1 C3 hM
  have hk1d : decide ((1 : Int) < (k : Int)) = true := by simp; omega
  have hk1i : (1 : Int) < (k : Int) := by omega
  obtain ⟨km, Hkm⟩ : ∃ km, Hid (k - 1 = km) := ⟨_, rfl⟩
  rw [Hkm.out] at C2
  have hkm : (k : Int) - 1 = (km : Int) := by have := Hkm.out; omega
  have hkm7 : km ≤ 7 := by have := Hkm.out; omega
  have C2' := fun u W (h : Below w.heap.size w W) (hu : Sl W u [(1 : Int), (km : Int)]) => C2 u W h hu
  clear C2
  clear hk hi
  go_enter Tryz.func4, Tryz.ntmps4
  go_wp2_with (first
    | (go_at_call 5; refine C0.mono ?_; rintro e w1 ⟨rfl, b1⟩)
    | (go_at_call 12; refine (C1' _ b1).mono ?_; rintro e w2 ⟨⟨oa, oc, rfl⟩, b2⟩; clear C1'; replace b2 := Below.next b1 b2)
    | (go_at_call 13; refine (C2' _ _ (Below.next b2 (balloc _ _)) (two_sl _ _ _)).mono ?_; rintro e w3 ⟨rfl, b3⟩; clear C2'; replace b3 := Below.next (Below.next b2 (balloc _ _)) b3)
    | (go_at_call 14; refine (C3' _ b3).mono ?_; rintro e w4 ⟨⟨ya, yc, R, rl, rfl, HY, HRL, HQ, hrl5⟩, b4⟩; clear C3'; replace b4 := Below.next b3 b4)
    | (go_at_call 15; refine (C4 _ b4).mono ?_; rintro e w5 ⟨rfl, b5⟩; replace HY : Hid (SlSl w5 (.slice ya rl yc) R) := HY.out.below b5; clear C4; replace b5 := Below.next b4 b5))
  clear C0
  go_loopw [15, 16] (fun sv jv wr => ∃ j : Nat, jv = .int .i64 j ∧ j ≤ rl ∧ sv = .int .i64 (sumR R j : Int) ∧ Below w5.heap.size w5 wr) (fun _ jv _ => (rl - intOf jv).toNat)
  case atStart => exact ⟨0, rfl, by omega, rfl, Below.refl _ _⟩
  case round =>
    obtain ⟨j, rfl, hj, rfl, hB⟩ := hrel
    by_cases hlt : j < rl
    · have hji : (j : Int) < (rl : Int) := by omega
      have hjd : decide ((j : Int) < (rl : Int)) = true := by simp; omega
      obtain ⟨row, Hrow⟩ : ∃ row, Hid (R[j]? = some row) := ⟨R[j]'(by rw [HRL.out]; exact hlt), (List.getElem?_eq_getElem _ : _)⟩
      have hr1 := HQ.out.2 row (List.mem_of_getElem? Hrow.out)
      obtain ⟨b, off, u, rfl, hbw, hcu, hsu⟩ := HY.out.at Hrow.out
      obtain ⟨g, og, gc, rfl, hg, hgc⟩ := hsu.form (n := row.length) (by simp) (by omega)
      have hc0 := (hB.cell (World.block_lt_of_cell? _ _ (hgc 0 (by omega)))).trans (hgc 0 (by omega))
      have hcu' := (hB.cell (p := ⟨b, off + j, none⟩) hbw).trans hcu
      have hsu1 := sumR_succ Hrow.out
      have hle : sumR R (j + 1) ≤ o := by
        have := sumR_mono R (j + 1) (R.length - (j + 1))
        rw [show j + 1 + (R.length - (j + 1)) = R.length by rw [HRL.out]; omega, HQ.out.1] at this
        exact this
      obtain ⟨h, Hh⟩ : ∃ h, Hid (row.getD 0 0 = h) := ⟨_, rfl⟩
      have e0 : (row.map Int.ofNat).getD 0 0 = (h : Int) := by rw [← Hh.out, getD_map0]
      rw [e0] at hc0
      rw [Hh.out] at hsu1
      obtain ⟨s0, Hs0⟩ : ∃ s, Hid (sumR R j = s) := ⟨_, rfl⟩
      obtain ⟨s1, Hs1⟩ : ∃ s, Hid (sumR R (j + 1) = s) := ⟨_, rfl⟩
      rw [Hs0.out, Hs1.out] at hsu1
      rw [Hs1.out] at hle
      rw [Hs0.out]
      have hadd : (s0 : Int) + (h : Int) = (s1 : Int) := by omega
      have hrl : (0 : Int) < ((row.length : Nat) : Int) := by omega
      obtain ⟨rw', Hrw⟩ : ∃ q, Hid (row.length = q) := ⟨_, rfl⟩
      rw [Hrw.out] at hcu' hrl hr1
      clear hcu hsu hgc e0 hsu1 hg hbw
      rw [Nat.add_zero] at hc0
      go_wp2
      go_roundw
      case rel => exact ⟨j + 1, by go_num, by omega, by rw [Hs1.out], hB⟩
      case measure => simp [intOf]; omega
    · obtain rfl : j = rl := by omega
      have hjd : decide ((j : Int) < (j : Int)) = false := by simp
      have hso : sumR R j = o := by have := HQ.out.1; rw [HRL.out] at this; exact this
      rw [hso]
      have hB5 := Below.next b5 hB
      have hoo : ((o : Int) == (o : Int)) = true := by simp
      clear hso hj hlt HY HQ HRL hB
      go_wp2_with (first
        | (go_at_call 16; refine (C5 _ hB5).mono ?_; rintro e w6 ⟨rfl, b6⟩; clear C5; replace b6 := Below.next hB5 b6))
      go_ret
      exact ⟨rfl, b6⟩

set_option maxRecDepth 100000 in
set_option maxHeartbeats 8000000 in
theorem Orbits_more_el (k : Nat) (i : Int) (ms : List (List Nat)) (a : Option Addr) (cap : Nat) (w : World) (hT : Tab w) (hF : Fd.Tab w) (hM : Mk k ms (.slice a ms.length cap) w) (hk : 2 ≤ k) (hi : 0 ≤ i ∧ i < (ordG k ms : Int)) :
    Calls Tryz.prog 4 #[.int .i64 (k : Int), .slice a ms.length cap, .int .i64 i] w fun e w' => e = .returned (.bool true) ∧ Below w.heap.size w w' := by
  have C0 := one_any w hT hF
  have C1 := fun W (h : Below w.heap.size w W) => Orbits_ok k ms _ W (hM.below h)
  have C2 := fun u W (h : Below w.heap.size w W) (hu : Sl W u (([1, k - 1] : List Nat).map Int.ofNat)) => Content_ok k ms [1, k - 1] _ u W (hM.below h) hu (con_two' (by omega) hM.n7)
  rw [show ([1, k - 1] : List Nat).length = 2 from rfl, orbits_con hk hM.n7 hM.isP] at C2
  have C3 := fun W (h : Below w.heap.size w W) => Index_ok k ms _ W (hM.below h)
  have C4 := fun W (h : Below w.heap.size w W) => Order_ok k ms _ W (hM.below h)
  obtain ⟨p, rfl⟩ : ∃ p : Nat, i = p := ⟨i.toNat, by omega⟩
  obtain ⟨x, hx1, hx2, hx3⟩ := els_at (n := k) (ms := ms) (k := p) (by omega)
  have C5 := fun W (h : Below w.heap.size w W) => Element_ok k p ms x _ W (hM.below h) (by omega) hx1 hx2
  have HMK : Hid (Mk k ms (.slice a ms.length cap) w) := hM
  have hk7 := hM.n7
  have hob := (ord_le hM.isP hM.n7).2
  have hr4 := hM.len
  have HRP : Hid ((orbs k ms).length = (reps k (Gen k ms)).length) := by show _ = _; unfold orbs; rw [List.length_map]
  have hrb := reps_len k (Gen k ms)
  obtain ⟨r, Hr⟩ : ∃ r, Hid (ms.length = r) := ⟨_, rfl⟩
  obtain ⟨o, Ho⟩ : ∃ o, Hid (ordG k ms = o) := ⟨_, rfl⟩
  obtain ⟨ob, Hob⟩ : ∃ ob, Hid ((reps k (Gen k ms)).length = ob) := ⟨_, rfl⟩
  rw [Hr.out] at C1 C2 C3 C4 C5 HMK hr4 ⊢
  rw [Ho.out] at C4 hob
  rw [Hob.out] at C2 hrb HRP
  have C1' := fun W (h : Below w.heap.size w W) => (C1 W h).mono (R' := fun e w' => (∃ a c, e = .returned (.tuple #[.slice a ob c, .int .i64 0])) ∧ Below W.heap.size W w') (fun e w' ⟨⟨y, h1, h2⟩, h3⟩ => by
    obtain ⟨a, c, e2, _⟩ := h2
    exact ⟨⟨a, c, by rw [h1, e2, HRP.out]⟩, h3⟩)
  have C3' := fun W (h : Below w.heap.size w W) => (C3 W h).mono (R' := fun e w' => (∃ ya yc R rl, e = .returned (.tuple #[.slice ya rl yc, .int .i64 0]) ∧ Hid (SlSl w' (.slice ya rl yc) R) ∧ Hid (R.length = rl) ∧ Hid (sumR R R.length = o ∧ ∀ r ∈ R, 1 ≤ r.length) ∧ rl ≤ 5040) ∧ Below W.heap.size W w') (fun e w' ⟨⟨y, R, h1, h2, h4⟩, h3⟩ => by
    obtain ⟨ya, yc, e2, _⟩ := id h2
    have q := idx_sum h4
    rw [Ho.out] at q
    rw [e2] at h1 h2
    exact ⟨⟨ya, yc, R, _, h1, h2, (rfl : R.length = R.length), ⟨q.1, q.2.1⟩, by have := q.2.2; omega⟩, h3⟩)
  clear C1 C3 hM
  have hk1d : decide ((1 : Int) < (k : Int)) = true := by simp; omega
  have hk1i : (1 : Int) < (k : Int) := by omega
  obtain ⟨km, Hkm⟩ : ∃ km, Hid (k - 1 = km) := ⟨_, rfl⟩
  rw [Hkm.out] at C2
  have hkm : (k : Int) - 1 = (km : Int) := by have := Hkm.out; omega
  have hkm7 : km ≤ 7 := by have := Hkm.out; omega
  have C2' := fun u W (h : Below w.heap.size w W) (hu : Sl W u [(1 : Int), (km : Int)]) => C2 u W h hu
  clear C2
  clear hk hi
  go_enter Tryz.func4, Tryz.ntmps4
  go_wp2_with (first
    | (go_at_call 5; refine C0.mono ?_; rintro e w1 ⟨rfl, b1⟩)
    | (go_at_call 12; refine (C1' _ b1).mono ?_; rintro e w2 ⟨⟨oa, oc, rfl⟩, b2⟩; clear C1'; replace b2 := Below.next b1 b2)
    | (go_at_call 13; refine (C2' _ _ (Below.next b2 (balloc _ _)) (two_sl _ _ _)).mono ?_; rintro e w3 ⟨rfl, b3⟩; clear C2'; replace b3 := Below.next (Below.next b2 (balloc _ _)) b3)
    | (go_at_call 14; refine (C3' _ b3).mono ?_; rintro e w4 ⟨⟨ya, yc, R, rl, rfl, HY, HRL, HQ, hrl5⟩, b4⟩; clear C3'; replace b4 := Below.next b3 b4)
    | (go_at_call 15; refine (C4 _ b4).mono ?_; rintro e w5 ⟨rfl, b5⟩; replace HY : Hid (SlSl w5 (.slice ya rl yc) R) := HY.out.below b5; clear C4; replace b5 := Below.next b4 b5))
  clear C0
  go_loopw [15, 16] (fun sv jv wr => ∃ j : Nat, jv = .int .i64 j ∧ j ≤ rl ∧ sv = .int .i64 (sumR R j : Int) ∧ Below w5.heap.size w5 wr) (fun _ jv _ => (rl - intOf jv).toNat)
  case atStart => exact ⟨0, rfl, by omega, rfl, Below.refl _ _⟩
  case round =>
    obtain ⟨j, rfl, hj, rfl, hB⟩ := hrel
    by_cases hlt : j < rl
    · have hji : (j : Int) < (rl : Int) := by omega
      have hjd : decide ((j : Int) < (rl : Int)) = true := by simp; omega
      obtain ⟨row, Hrow⟩ : ∃ row, Hid (R[j]? = some row) := ⟨R[j]'(by rw [HRL.out]; exact hlt), (List.getElem?_eq_getElem _ : _)⟩
      have hr1 := HQ.out.2 row (List.mem_of_getElem? Hrow.out)
      obtain ⟨b, off, u, rfl, hbw, hcu, hsu⟩ := HY.out.at Hrow.out
      obtain ⟨g, og, gc, rfl, hg, hgc⟩ := hsu.form (n := row.length) (by simp) (by omega)
      have hc0 := (hB.cell (World.block_lt_of_cell? _ _ (hgc 0 (by omega)))).trans (hgc 0 (by omega))
      have hcu' := (hB.cell (p := ⟨b, off + j, none⟩) hbw).trans hcu
      have hsu1 := sumR_succ Hrow.out
      have hle : sumR R (j + 1) ≤ o := by
        have := sumR_mono R (j + 1) (R.length - (j + 1))
        rw [show j + 1 + (R.length - (j + 1)) = R.length by rw [HRL.out]; omega, HQ.out.1] at this
        exact this
      obtain ⟨h, Hh⟩ : ∃ h, Hid (row.getD 0 0 = h) := ⟨_, rfl⟩
      have e0 : (row.map Int.ofNat).getD 0 0 = (h : Int) := by rw [← Hh.out, getD_map0]
      rw [e0] at hc0
      rw [Hh.out] at hsu1
      obtain ⟨s0, Hs0⟩ : ∃ s, Hid (sumR R j = s) := ⟨_, rfl⟩
      obtain ⟨s1, Hs1⟩ : ∃ s, Hid (sumR R (j + 1) = s) := ⟨_, rfl⟩
      rw [Hs0.out, Hs1.out] at hsu1
      rw [Hs1.out] at hle
      rw [Hs0.out]
      have hadd : (s0 : Int) + (h : Int) = (s1 : Int) := by omega
      have hrl : (0 : Int) < ((row.length : Nat) : Int) := by omega
      obtain ⟨rw', Hrw⟩ : ∃ q, Hid (row.length = q) := ⟨_, rfl⟩
      rw [Hrw.out] at hcu' hrl hr1
      clear hcu hsu hgc e0 hsu1 hg hbw
      rw [Nat.add_zero] at hc0
      go_wp2
      go_roundw
      case rel => exact ⟨j + 1, by go_num, by omega, by rw [Hs1.out], hB⟩
      case measure => simp [intOf]; omega
    · obtain rfl : j = rl := by omega
      have hjd : decide ((j : Int) < (j : Int)) = false := by simp
      have hso : sumR R j = o := by have := HQ.out.1; rw [HRL.out] at this; exact this
      rw [hso]
      have hB5 := Below.next b5 hB
      have hoo : ((o : Int) == (o : Int)) = true := by simp
      clear hso hj hlt HY HQ HRL hB
      go_wp2_with (first
        | (go_at_call 16; refine (C5 _ hB5).mono ?_; rintro e w6 ⟨⟨y, rfl, hy⟩, b6⟩; clear C5; replace b6 := Below.next hB5 b6))
      have HX : Hid (Sl w6 y (x.map Int.ofNat)) := hy
      have HXP : Hid (IsP k x ∧ Gen k ms x) := ⟨hx2, hx3⟩
      obtain ⟨xa, xc, rfl⟩ : ∃ xa xc, y = .slice xa k xc := by
        obtain ⟨xa, xc, e, _⟩ := hy
        exact ⟨xa, xc, by rw [e, List.length_map, hx2.len]⟩
      clear hy hx1 hx2 hx3
      go_loopw [18] (fun jv wr => ∃ t : Nat, jv = .int .i64 t ∧ t ≤ r ∧ Below w6.heap.size w6 wr) (fun jv _ => (r - intOf jv).toNat)
      case atStart => exact ⟨0, rfl, by omega, Below.refl _ _⟩
      case round =>
        obtain ⟨t, rfl, ht, hB⟩ := hrel
        by_cases hlt : t < r
        · have hti : (t : Int) < r := by omega
          have hdec : decide ((t : Int) < r) = true := by simp; omega
          obtain ⟨m, hm⟩ : ∃ m, ms[t]? = some m := ⟨ms[t]'(by have := Hr.out; omega), by simp⟩
          have hmm := List.mem_of_getElem? hm
          have hPm := HMK.out.isP m hmm
          have hB6 := Below.next b6 hB
          obtain ⟨b, off, u, rfl, hbw, hcu, hsu⟩ := HMK.out.sl.at hm
          have hcu3 : wr.cell? ⟨b, off + t, none⟩ = some u := (hB6.cell (p := ⟨b, off + t, none⟩) hbw).trans hcu
          rw [← pl_map hPm.len] at hsu
          have hx6 := HX.out
          rw [← pl_map HXP.out.1.len] at hx6
          have D1 := fun W (h : Below wr.heap.size wr W) => Inverse_ok k _ u W (by omega) (hsu.below (Below.next hB6 h)) hPm.pm
          have D2 := fun q W (h : Below wr.heap.size wr W) (hq : Sl W q (pl k (iv fun i => m.getD i 0))) => Compose_ok k _ _ q (.slice xa k xc) W (by omega) hq (hx6.below (Below.next hB h)) hPm.pm.iv_pm HXP.out.1.pm
          have D3 := fun q W (h : Below wr.heap.size wr W) (hq : Sl W q (pl k fun i => x.getD (iv (fun i => m.getD i 0) i) 0)) => Compose_ok k _ _ q u W (by omega) hq (hsu.below (Below.next hB6 h)) (hPm.pm.iv_pm.comp HXP.out.1.pm) hPm.pm
          have D4 := fun q W (h : Below wr.heap.size wr W) (hq : Sl W q (pl k fun i => m.getD (x.getD (iv (fun i => m.getD i 0) i) 0) 0)) => Alike_ok k _ _ (.slice xa k xc) q W (by omega) (hx6.below (Below.next hB h)) hq HXP.out.1.pm (conj_pm HXP.out.1.pm hPm.pm)
          have D5 := fun q W (h : Below wr.heap.size wr W) (hq : Sl W q (pl k fun i => m.getD (x.getD (iv (fun i => m.getD i 0) i) 0) 0)) => Has_yes k ms _ _ q W (HMK.out.below (Below.next hB6 h)) (by rw [conj_list hPm] at hq; exact hq) ((((Gen.maker HMK.out.isP hmm).inv HMK.out.isP).then HMK.out.isP HXP.out.2).then HMK.out.isP (Gen.maker HMK.out.isP hmm))
          have eA : alikeB k (fun i => x.getD i 0) (fun i => m.getD (x.getD (iv (fun i => m.getD i 0) i) 0) 0) = true := conj_alike HXP.out.1.pm hPm.pm
          rw [eA] at D4
          obtain ⟨ua, uc, rfl⟩ : ∃ ua uc, u = .slice ua k uc := by
            obtain ⟨ua, uc, e, _⟩ := hsu
            exact ⟨ua, uc, by rw [e, pl_len]⟩
          have HCU : Hid (∀ W, Below wr.heap.size wr W → W.cell? ⟨b, off + t, none⟩ = some (.slice ua k uc)) := fun W h => (h.cell (World.block_lt_of_cell? _ _ hcu3)).trans hcu3
          clear hcu hm hsu hPm hx6 eA hmm hbw
          go_wp2_with (first
            | (go_at_call 17; refine (D1 _ (Below.refl _ _)).mono ?_; rintro e w7 ⟨q1, rfl, hq1, b7⟩; clear D1)
            | (go_at_call 18; refine (D2 _ _ b7 hq1).mono ?_; rintro e w8 ⟨q2, rfl, hq2, b8⟩; clear D2; replace b8 := Below.next b7 b8; have hcu8 := HCU.out _ b8)
            | (go_at_call 18; refine (D3 _ _ b8 hq2).mono ?_; rintro e w9 ⟨q3, rfl, hq3, b9⟩; clear D3; replace b9 := Below.next b8 b9)
            | (go_at_call 19; refine (D4 _ _ b9 hq3).mono ?_; rintro e wA ⟨rfl, bA⟩; clear D4; replace hq3 := hq3.below bA; replace bA := Below.next b9 bA)
            | (go_at_call 20; refine (D5 _ _ bA hq3).mono ?_; rintro e wB ⟨rfl, bB⟩; clear D5; replace bB := Below.next bA bB))
          go_roundw
          case rel => exact ⟨t + 1, by go_num, by omega, Below.next hB bB⟩
          case measure => simp [intOf]; omega
        · have hdec : decide ((t : Int) < (r : Int)) = false := by simp; omega
          have hdn : decide (t < r) = false := by simp; omega
          have hbE := Below.next b6 hB
          go_wp2
          go_ret
          exact ⟨rfl, hbE⟩

theorem Orbits_any (n i : Int) (ls : List (List Int)) (v : Value) (w : World) (hT : Tab w) (hF : Fd.Tab w) (hv : Came ls v w) :
    Calls Tryz.prog 4 #[.int .i64 n, v, .int .i64 i] w fun e w' => e = .returned (.bool true) ∧ Below w.heap.size w w' := by
  by_cases h0 : gF n ls = 0
  · obtain ⟨k, ms, rfl, hM, _⟩ := hv.mk' h0
    obtain ⟨a, cap, rfl, _⟩ := id hM.sl
    have h1 := hM.n1
    by_cases hi : i < 0 ∨ (ordG k ms : Int) ≤ i
    · by_cases hk : k = 1
      · exact Orbits_one_far k i ms a cap w hT hF hM hk hi
      · exact Orbits_more_far k i ms a cap w hT hF hM (by omega) hi
    · by_cases hk : k = 1
      · exact Orbits_one_el k i ms a cap w hT hF hM hk (by omega)
      · exact Orbits_more_el k i ms a cap w hT hF hM (by omega) (by omega)
  · exact Orbits_none n i ls v w hT hF hv h0
end Go.Proofs.YtgpkhfpejopacabGreatDoor.Gc
