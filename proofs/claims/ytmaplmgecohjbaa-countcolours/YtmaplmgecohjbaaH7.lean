/- The law CountColours, walked. -/
import Derived.Test.YtmaplmgecohjbaaG57
import Derived.Test.YtmaplmgecohjbaaE5
import Derived.Shelf.Spec.SlicesGrow
import Derived.Test.YtmaplmgecohjbaaE4
import Derived.Test.YtmaplmgecohjbaaC9
import Derived.Sort.MapsRangeIn
import Derived.Sort.KeysCollected
import Derived.RegionIn
import Derived.Test.YtmaplmgecohjbaaG12
import Derived.Test.YtmaplmgecohjbaaC13
import Derived.Test.YtmaplmgecohjbaaF7
import Derived.Test.YtmaplmgecohjbaaC14
import Derived.Test.YtmaplmgecohjbaaH3
import Derived.Test.YtmaplmgecohjbaaH6
import Derived.Test.YtmaplmgecohjbaaH2
import Derived.Test.YtmaplmgecohjbaaD3
import Derived.Test.YtmaplmgecohjbaaGLM
import Derived.Test.YtmaplmgecohjbaaGL3
/- The library's Grow by its contract; the walk of its Concat, at one number and some others. -/
namespace Go.Proofs.Ytmaplmgecohjbaa
open Go.Shelf Go.RowKit

def growInt_ren : Go.Shelf.Ren := ⟨fun | 4 => 83 | n => n, fun | 22 => 40 | 25 => 3 | 3 => 3 | 4 => 4 | 9 => 9 | 20 => 20 | 0 => 0 | n => n, fun | n => n⟩
theorem growInt : Go.Proofs.Lays8.n4 Try.prog growInt_ren := {
  mixed := by kernel_rfl
  f4 := ⟨Try.f83.name, by decide, Try.func83.trans (congrArg some (by kernel_rfl))⟩
  t0 := Try.underlying0
  a0 := Try.isAgg0
  z0 := Try.sizeOf0
  v0 := Try.zeroValue0
  t3 := Try.underlying3
  a3 := Try.isAgg3
  z3 := Try.sizeOf3
  v3 := Try.zeroValue3
  t4 := Try.underlying4
  a4 := Try.isAgg4
  z4 := Try.sizeOf4
  v4 := Try.zeroValue4
  t9 := Try.underlying9
  a9 := Try.isAgg9
  z9 := Try.sizeOf9
  v9 := Try.zeroValue9
  t20 := Try.underlying20
  a20 := Try.isAgg20
  z20 := Try.sizeOf20
  v20 := Try.zeroValue20
  t22 := Try.underlying40
  a22 := Try.isAgg40
  z22 := Try.sizeOf40
  v22 := Try.zeroValue40 }

/-- Grow of nothing: a row of one's own with room for n. -/
theorem Grow_any (n : Nat) (w : World) (h1 : 1 ≤ n) (h9 : n ≤ 100) :
    Calls Try.prog 83 #[.slice none 0 0, .int .i64 (n : Int)] w fun e w' => ∃ cap, e = .returned (.slice (some ⟨w.heap.size, 0, none⟩) 0 cap) ∧ w'.ownsRow w.heap.size 3 1 (.slice (some ⟨w.heap.size, 0, none⟩) 0 cap) 0 [] ∧ Below w.heap.size w w' := by
  obtain ⟨i3, hi, hz0, hz1, hz2⟩ := info3
  have C := Any8.slices_Grow_grow growInt i3 (.int .i64 0) hi hz0 (by omega) none 0 0 n [] w (Nat.le_refl _) (by omega) (by rw [hz2]; omega) (by omega) (by simp) (fun _ => rfl) (fun a h => by cases h)
  change Calls Try.prog 83 _ _ _ at C
  refine C.mono ?_
  rintro e w' ⟨rfl, rfl⟩
  obtain ⟨G, hG⟩ : ∃ G, G = grownCap w (0 + n) 0 (growInt_ren.t 25) := ⟨_, rfl⟩
  have hge : 0 + n ≤ G := by rw [hG]; exact grownCap_ge w _ _ _
  have hle : G ≤ maxLen := by rw [hG]; exact grownCap_le_maxLen w (0 + n) 0 _ (by unfold maxLen; omega)
  rw [← hG]
  refine ⟨G, rfl, ⟨by simp, .inr ⟨w.heap.size, G, _, rfl, Nat.le_refl _, heap_alloc_new w.drew _, Nat.zero_le _, hle, ?_, by simp⟩⟩, (Below.refl _ w).drew.alloc (Nat.le_refl _) _⟩
  simp [size_zeroCells, Value.cells]
  omega

theorem lenF_take {ls : List (List Int)} {j : Nat} {l : List Int} (h : ls[j]? = some l) : (ls.take (j + 1)).flatten = (ls.take j).flatten ++ l := by
  have hj := (List.getElem?_eq_some_iff.1 h).1
  rw [List.take_add_one, h, Option.toList_some, List.flatten_append]
  simp
theorem lenF_le (ls : List (List Int)) (j : Nat) : (ls.take j).flatten.length ≤ ls.flatten.length := by
  conv => rhs; rw [← List.take_append_drop j ls, List.flatten_append, List.length_append]
  omega

set_option maxRecDepth 100000 in
set_option maxHeartbeats 2000000 in
theorem Concat_any (ls : List (List Int)) (v : Value) (w : World) (hv : Sls w v ls) (hne : ∀ l ∈ ls, 1 ≤ l.length) (hl : ls.length ≤ 100) (h1 : 1 ≤ ls.flatten.length) (h9 : ls.flatten.length ≤ 100) :
    Calls Try.prog 64 #[v] w fun e w' => ∃ u, e = .returned u ∧ w'.ownsRow w.heap.size 3 1 u ls.flatten.length (ls.flatten.map (Value.int .i64)) ∧ Below w.heap.size w w' := by
  obtain ⟨i3, ti, tz0, tz1, tz2⟩ := info3
  obtain ⟨r, Hr⟩ : ∃ r, Hid (ls.length = r) := ⟨_, rfl⟩
  obtain ⟨T, HT⟩ : ∃ T, Hid (ls.flatten.length = T) := ⟨_, rfl⟩
  have HV : Hid (Sls w v ls) := hv
  obtain ⟨a, cap, rfl, hc⟩ := hv
  have HC : Hid (∀ j, j < r → ∃ b off va n c l, a = some ⟨b, off, none⟩ ∧ ls[j]? = some l ∧ l.length = n ∧ 1 ≤ n ∧ (∀ W, Below w.heap.size w W → W.cell? ⟨b, off + j, none⟩ = some (.slice (some va) n c) ∧ ∀ q z, (l.map (Value.int .i64))[q]? = some z → W.cell? (va.add q) = some z)) := fun j hj => by
    have hj' : j < ls.length := by rw [Hr.out]; exact hj
    obtain ⟨b, off, u, e1, e2, a2, c2, rfl, h3⟩ := hc j ls[j] (List.getElem?_eq_getElem hj')
    have hn1 := hne ls[j] (List.getElem_mem hj')
    obtain ⟨b2, o2, rfl, _⟩ := h3 0 (by omega)
    refine ⟨b, off, ⟨b2, o2, none⟩, ls[j].length, c2, ls[j], e1, List.getElem?_eq_getElem hj', rfl, hn1, fun W hW => ⟨?_, fun q z hz => ?_⟩⟩
    · rw [hW.cell (p := ⟨b, off + j, none⟩) (block_lt_of_cell e2)]; exact e2
    · have hq : q < ls[j].length := by have := (List.getElem?_eq_some_iff.1 hz).1; simpa using this
      obtain ⟨b3, o3, e3, h4⟩ := h3 q hq
      simp only [Option.some.injEq, Addr.mk.injEq, and_true] at e3
      obtain ⟨rfl, rfl⟩ := e3
      rw [Addr.add_mid, hW.cell (p := ⟨b2, o2 + q, none⟩) (block_lt_of_cell h4), h4]
      simp [hq] at hz ⊢
      exact hz
  have HLE : Hid (∀ j, (ls.take j).flatten.length ≤ T) := fun j => by rw [← HT.out]; exact lenF_le ls j
  rw [HT.out] at h1 h9 ⊢
  rw [Hr.out] at hl ⊢
  have C := fun W => Grow_any T W h1 h9
  clear hc hne
  go_enter Try.func64, Try.ntmps64
  go_wp2
  go_loopw [3, 11] (fun s i wr => ∃ j m : Nat, i = .int .i64 (j : Int) ∧ j ≤ r ∧ s = .int .i64 (m : Int) ∧ Hid ((ls.take j).flatten.length = m) ∧ wr = w) (fun _ i _ => (r - intOf i).toNat)
  case atStart => exact ⟨0, 0, rfl, by omega, rfl, (by simp : (ls.take 0).flatten.length = 0), rfl⟩
  case round =>
    obtain ⟨j, m, rfl, hj, rfl, HM, hw⟩ := hrel
    replace hw := hw.symm
    subst hw
    by_cases hlt : j < r
    · have hji : (j : Int) < r := by omega
      have hj0 : (0 : Int) ≤ (j : Int) := by omega
      have hdec : decide ((j : Int) < r) = true := by simp; omega
      obtain ⟨b, off, va, n, c, l, rfl, hlj, hln, hn1, hcell⟩ := HC.out j hlt
      have hc1 := (hcell _ (Below.refl _ _)).1
      have hm2 := HLE.out (j + 1)
      rw [lenF_take hlj, List.length_append, HM.out, hln] at hm2
      have HM2 : Hid ((ls.take (j + 1)).flatten.length = m + n) := by
        show _ = _
        rw [lenF_take hlj, List.length_append, HM.out, hln]
      have hd0 : decide ((m : Int) + (n : Int) < 0) = false := by simp; omega
      clear hcell hlj
      go_wp2
      go_roundw
      case rel => exact ⟨j + 1, m + n, by go_num, by omega, by go_num, HM2, trivial⟩
      case measure => simp [intOf]; omega
    · have hdec : decide ((j : Int) < r) = false := by simp; omega
      obtain rfl : r = j := by omega
      have hmT : m = T := by
        rw [← HM.out, ← HT.out, List.take_of_length_le (by rw [Hr.out]; omega)]
      subst hmT
      go_wp2_with (go_at_call 83; refine (C _).mono ?_; rintro e w1 ⟨gc, rfl, hown, b1⟩)
      go_loopw [6, 27] (fun u i wr => ∃ j : Nat, i = .int .i64 (j : Int) ∧ j ≤ r ∧ wr.ownsRow w.heap.size 3 1 u (ls.take j).flatten.length ((ls.take j).flatten.map (Value.int .i64)) ∧ Below w.heap.size w wr) (fun _ i _ => (r - intOf i).toNat)
      case atStart => exact ⟨0, rfl, by omega, hown, b1⟩
      case round =>
        clear hown b1
        obtain ⟨j, rfl, hj2, hown, b2⟩ := hrel
        obtain ⟨sa, sl, sc, rfl⟩ := ownsRow_slice hown
        have HM0 := HLE.out j
        obtain ⟨m2, Hm2⟩ : ∃ m2, Hid ((ls.take j).flatten.length = m2) := ⟨_, rfl⟩
        rw [Hm2.out] at hown HM0
        by_cases hlt2 : j < r
        · have hji : (j : Int) < r := by omega
          have hj0 : (0 : Int) ≤ (j : Int) := by omega
          have hdec2 : decide ((j : Int) < r) = true := by simp; omega
          obtain ⟨b, off, va, n, c, l, rfl, hlj, hln, hn1, hcell⟩ := HC.out j hlt2
          obtain ⟨hc1, hnews⟩ := hcell _ b2
          have hm3 := HLE.out (j + 1)
          rw [lenF_take hlj, List.length_append, Hm2.out, hln] at hm3
          have HF : Hid ((ls.take (j + 1)).flatten.length = m2 + n ∧ (ls.take (j + 1)).flatten.map (Value.int .i64) = (ls.take j).flatten.map (Value.int .i64) ++ l.map (Value.int .i64)) := by
            refine ⟨?_, ?_⟩
            · rw [lenF_take hlj, List.length_append, Hm2.out, hln]
            · rw [lenF_take hlj, List.map_append]
          have hs2 := b2.size
          have hnl : (l.map (Value.int .i64)).length = n * 1 := by rw [List.length_map, hln, Nat.mul_one]
          have hn1c : ∀ z ∈ l.map (Value.int .i64), z.oneCell' = true := fun z hz => by
            obtain ⟨x, _, rfl⟩ := List.mem_map.1 hz
            rfl
          clear hcell hlj
          go_wp2_with (first
            | (at_builtin; refine wpList_append_own _ rfl _ _ 40 rfl w.heap.size 3 i3 (.int .i64 0) 1 8 und22 ti tz0 tz1 tz2 rfl (by decide) (.slice sa sl sc) m2 _ rfl hown va n c (l.map (Value.int .i64)) rfl hnl hnews hn1c (by unfold maxLen; omega) (by omega) hs2 ?_; intro v' w4 hown4 hgrow _; obtain ⟨a4, l4, c4, rfl⟩ := ownsRow_slice hown4))
          go_roundw
          case rel =>
            refine ⟨j + 1, by go_num, by omega, by rw [HF.out.1, HF.out.2]; exact hown4, b2.grown hgrow b2.size (fun q hq => (hown.lt q hq).1)⟩
          case measure => simp [intOf]; omega
        · have hdec2 : decide ((j : Int) < r) = false := by simp; omega
          have HE : Hid ((ls.take j).flatten = ls.flatten) := by
            show _ = _
            rw [List.take_of_length_le (by rw [Hr.out]; omega)]
          go_wp2
          go_ret
          refine ⟨_, rfl, ?_, b2⟩
          rw [HE.out] at hown
          have e : m2 = m := by rw [← Hm2.out, HE.out, HT.out]
          rw [← e]
          exact hown

end Go.Proofs.Ytmaplmgecohjbaa

/- The walks of the library's AppendSeq and Collect, at kinds. -/
/- A range over a function that is run to its end, where a round begins with a variable of its own in memory. -/
namespace Go.Proofs.Ytmaplmgecohjbaa
open Go.RowKit

theorem wpIn_rangeFunc_asg {α : Type} {n : Nat} {P : Program} {g : Operand} {ps : Array Tmp} {assign body : Code} {Q : Exit → Act → World → Prop} {a : Act} {w : World} {gf : Nat} {lb : Array Value}
    (hg : a.eval g = .func (.func gf) #[] lb) (eg : ∀ args w, (callFunc gf args).run P w = .ok (.enter gf args) w) {encs : α → Array Value} {Kp : World → World → Prop} {S Sp : List α → Prop} {N : Nat}
    (hseq : SeqStopsK Fence.wide (n - 1) P gf lb encs Kp S Sp N w) (hps : ∀ x, (encs x).size = ps.size)
    (hKt : ∀ {A B C : World}, Kp A B → Kp B C → Kp A C) (hKb : ∀ (W : World) (l : Nat) (o o' : Obj), w.heap.size ≤ l → W.heap[l]? = some o → o.isCells = false → o.isWalk = false → Kp W (W.putObj l o')) (hKw : ∀ A B : World, Below A.heap.size A B → Kp A B)
    (I : List α → World → Prop) (hI : OwnFrom w.heap.size I) (h0 : I [] w) (a₁ : α → Nat → Act)
    (E : α → Nat → World → Prop) (hE : ∀ x b W l o o', E x b W → W.heap[l]? = some o → o.isCells = false → E x b (W.putObj l o'))
    (hassign : ∀ (l : Nat) (x : α) (W : World) (K : Act → World → Prop), (∀ W1, Below W.heap.size W W1 → E x W.heap.size W1 → K (a₁ x W.heap.size) W1) →
      assign.wpIn (Fence.wide.inRound l) (n - 1 - 1) P (Exit.then K (fun _ _ _ => False)) { tmps := (ps.zip (encs x)).foldl (fun t (p, v) => t.setIfInBounds p v) a.tmps, defers := [] } W)
    (hbody : ∀ (l : Nat) (pre : List α) (x : α) (b : Nat) (W : World), I pre W → pre.length < N → E x b W → body.wpIn (Fence.wide.inRound l) (n - 1 - 1) P (fun e _ W' => e = .normal ∧ KeepsOthers W W' ∧ Kp W W' ∧ I (pre ++ [x]) W') (a₁ x b) W)
    (hdone : ∀ (D : Nat) (xs : List α) (W : World), w.heap.size ≤ D → S xs → I xs W → W.heap[D]? = some (.deferred (some [])) → Q .normal { a with defers := { target := .collected D, args := #[] } :: a.defers } W) :
    (Code.rangeFunc g ps assign body).wpIn Fence.wide n P Q a w := by
  refine wpIn_rangeFunc fun fn hfn => ?_
  obtain ⟨D, hD⟩ : ∃ D, D = w.heap.size := ⟨_, rfl⟩
  obtain ⟨lp, hlp⟩ : ∃ lp : LoopState → Option Code → Obj, lp = fun st pe => .loop { state := st, pending := pe, fn, tmps := a.tmps, params := ps, assign, body, defers := D } := ⟨_, rfl⟩
  obtain ⟨V, hV⟩ : ∃ V, V = (w.alloc (.deferred (some []))).alloc (lp .ready none) := ⟨_, rfl⟩
  have sV : V.heap.size = D + 2 := by rw [hV, hD]; simp
  have bV : Below w.heap.size w V := by rw [hV]; exact ((Below.refl _ w).alloc (Nat.le_refl _) _).alloc (by simp) _
  have rV : V.heap[D + 1]? = some (lp .ready none) := by
    have h := World.alloc_heap_new (w.alloc (.deferred (some []))) (lp .ready none)
    rw [World.size_alloc] at h
    rw [hV, hD]; exact h
  have dV : V.heap[D]? = some (.deferred (some [])) := by
    rw [hV, hD]; exact (Below.heap_alloc _ _ _ (by simp)).trans (World.alloc_heap_new w _)
  have gB : ∀ {A B : World}, Below A.heap.size A B → A.grownBy B none := fun h => ⟨h.os, h.tape, h.output, h.size, fun k hk _ => h.block k hk⟩
  refine ⟨D + 1, [{ target := .collected D, args := #[] }], V, { target := .fn (.func gf) lb, args := #[.func (.yield (D + 1)) #[] #[]] }, V, gf, #[.func (.yield (D + 1)) #[] #[]] ++ lb, V, ?_, ?_, fun _ _ => trivial, ?_, (fun h => by cases h), ?_⟩
  · rw [hV, hlp, hD]; exact run_enterLoop_outer _ _ _ _ _
  · simp only [resolve, hg]
    simp [go_sem]
  · simp [invoke, go_sem, eg]
  · have hnw : ∀ {A : World} {row : Option Nat}, (∀ r, row = some r → V.heap.size ≤ r ∧ ∃ o : Obj, A.heap[r]? = some o ∧ o.isWalk = true) → (∀ r, row = some r → w.heap.size ≤ r ∧ ∃ o : Obj, A.heap[r]? = some o ∧ o.isCells = false) :=
      fun hr r e => by obtain ⟨hB, o, ho, hw⟩ := hr r e; exact ⟨by omega, o, ho, Obj.not_cells_of_walk hw⟩
    refine (hseq (D + 1) (fun i A => I i A ∧ A.heap[D + 1]? = some (lp .ready none) ∧ A.heap[D]? = some (.deferred (some []))) (fun _ _ => False) V bV ?_ (fun _ _ _ _ h _ _ => h) ?_ ⟨?_, rV, dV⟩).mono ?_
    · rintro i A B row ⟨h1, h2, h3⟩ hb hr
      exact ⟨hI i A B row h1 hb (hnw hr), (grownBy_keeps hb (fun r e => (hr r e).2) h2 (by rw [hlp]; rfl)).trans h2, (grownBy_keeps hb (fun r e => (hr r e).2) h3 rfl).trans h3⟩
    · rintro pre x A ⟨hi, hl, hk⟩ hlen
      have hlt : D + 1 < A.heap.size := (Array.getElem?_eq_some_iff.1 hl).1
      have hy := run_yield (P := P) (args := encs x) (by rw [hlp] at hl; exact hl) (hps x)
      obtain ⟨busy, hbusy⟩ : ∃ o, o = Obj.loop { state := .busy, pending := none, fn, tmps := a.tmps, params := ps, assign, body, defers := D } := ⟨_, rfl⟩
      have hob : busy.isCells = false := by rw [hbusy]; rfl
      have how : busy.isWalk = false := by rw [hbusy]; rfl
      refine ⟨fn, _, assign, body, hy, roundIn_of_wpIn hfn (hassign _ x A _ fun A1 hb1 hE1 => ?_)⟩
      have hl1 : A1.heap[D + 1]? = some (lp .ready none) := (hb1.block _ hlt).trans hl
      have hk1 : A1.heap[D]? = some (.deferred (some [])) := (hb1.block _ (by omega)).trans hk
      have hi1 : I pre A1 := hI pre A A1 none hi (gB hb1) (fun _ e => by cases e)
      have hlt1 : D + 1 < A1.heap.size := (Array.getElem?_eq_some_iff.1 hl1).1
      have hbeg := run_beginRound (P := P) (by rw [hlp] at hl1; exact hl1) rfl
      refine ⟨_, hbeg, ?_⟩
      rw [show (Obj.loop { state := .busy, pending := none, fn, tmps := a.tmps, params := ps, assign, body, defers := D }) = busy from hbusy.symm]
      have hl2 : (A1.putObj (D + 1) busy).heap[D + 1]? = some busy := World.putObj_heap_same hlt1
      have hk2 : (A1.putObj (D + 1) busy).heap[D]? = some (.deferred (some [])) := (World.putObj_heap_other (by omega)).trans hk1
      have hlc : (lp .ready none).isCells = false := by rw [hlp]; rfl
      have hlw : (lp .ready none).isWalk = false := by rw [hlp]; rfl
      refine wpIn_mono (hbody _ pre x A.heap.size _ (hI.putObj _ hi1 (by omega) hl1 hlc) hlen (hE _ _ _ _ _ _ hE1 hl1 hlc)) ?_
      rintro e a3 B ⟨rfl, h1, h2, h3⟩
      have hl3 := h1.same _ _ hl2 hob
      have he := run_endRound (P := P) none (by rw [hbusy] at hl3; exact hl3)
      refine ⟨_, _, he, .inl ⟨rfl, ⟨hI.putObj _ h3 (by omega) hl3 hob, ?_, ?_⟩, hKt (hKw _ _ hb1) (hKt (hKt (hKb _ _ _ _ (by omega) hl1 hlc hlw) h2) (hKb _ _ _ _ (by omega) hl3 hob how))⟩⟩
      · rw [hlp]; exact World.putObj_heap_same (Array.getElem?_eq_some_iff.1 hl3).1
      · exact (World.putObj_heap_other (by omega)).trans (h1.same _ _ hk2 rfl)
    · exact hI [] w V none h0 (gB bV) (fun _ e => by cases e)
    · rintro e B ⟨⟨v, rfl⟩, (⟨xs, hS, hi, hl, hk⟩ | ⟨_, _, h⟩)⟩
      · rw [hlp] at hl
        exact ⟨none, _, run_endLoop (P := P) hl (by simp), hdone D xs _ (by omega) hS (hI.putObj _ hi (by omega) hl rfl) ((World.putObj_heap_other (by omega)).trans hk)⟩
      · exact h.elim

end Go.Proofs.Ytmaplmgecohjbaa

/- The walks of the library's Keys, at kinds. -/
namespace Go.Proofs.Ytmaplmgecohjbaa
open Go.RowKit Go.Shelf Go.Maps Go.Sort

attribute [local go_sem] Oper.semAt_some

theorem wpListIn_load_row {F : Fence} {n : Nat} {P : Program} {ops : Array Oper} {rest : List Oper} {o : Oper} {a : Act} {w : World} {Q : Exit → Act → World → Prop} (hgd : o.guard = none) (ty : TypeId) (x : Operand) (ho : o.op = .load ty x)
    (g : Nat) (hx : a.eval x = .pointer (some ⟨g, 0, none⟩)) (t : TypeId) (cs : Array Value) (fr : Nat × Nat) (d : TypeDesc) (hg : w.heap[g]? = some (.cells cs t fr))
    (hu : P.underlying ty = some d) (hd : (match d with | .struct _ | .array _ _ => true | _ => false) = true) (hi : (P.info? ty).map (·.size) = some cs.size)
    (h : wpListIn F n P ops Q rest (a.put o.dst (.agg cs)) w) : wpListIn F n P ops Q (o :: rest) a w := by
  refine wpListIn_plain hgd fun K hK' => ?_
  unfold Oper.wpIn
  refine ⟨?_, ?_⟩
  · simp [Oper.about, ho]
  · rw [Oper.semAt_plain F _ _ (by rw [ho]; intro c hc'; cases hc')]
    unfold execOp
    simp only [ho, hx, Instr.loadAt, Instr.sureAddr, Sem.run_bind, Sem.run_pure, Result.andThen_ok, run_loadVar_row w g t ty cs fr d hg hu hd hi]
    exact hK' _ _ h
theorem wpListIn_store_row {F : Fence} {n : Nat} {P : Program} {ops : Array Oper} {rest : List Oper} {o : Oper} {a : Act} {w : World} {Q : Exit → Act → World → Prop} (hgd : o.guard = none) (ty : TypeId) (x y : Operand) (ho : o.op = .store ty x y)
    (g : Nat) (cells : Array Value) (hx : a.eval x = .pointer (some ⟨g, 0, none⟩)) (hy : a.eval y = .agg cells)
    (t : TypeId) (old : Array Value) (hg : w.heap[g]? = some (.cells old t (0, 0))) (hi : (P.info? ty).map (·.size) = some cells.size)
    (hold : old.size = cells.size) (h1 : cells.all (·.oneCell') = true)
    (h : wpListIn F n P ops Q rest (a.put o.dst undef) (w.setRow g cells)) : wpListIn F n P ops Q (o :: rest) a w := by
  refine wpListIn_plain hgd fun K hK' => ?_
  unfold Oper.wpIn
  refine ⟨?_, ?_⟩
  · simp [Oper.about, ho]
  · rw [Oper.semAt_plain F _ _ (by rw [ho]; intro c hc'; cases hc')]
    unfold execOp
    simp only [ho, hx, hy, Instr.storeAt, Instr.sureAddr, Sem.run_bind, Sem.run_pure, Result.andThen_ok, run_storeVar_row w g t ty old cells hg hi hold h1]
    exact hK' _ _ h

/-- A kind that is handed out. -/
abbrev KK := {x : List Nat // SmK x}
def kkE (x : KK) : Array Value := #[mv x.1]
def kkL (l : List KK) : List (List Nat) := l.map fun x => x.1
/-- What has come: each once, all of L that is no longer left. -/
def KColl (L : List (List Nat)) (left : Lit → Bool) (ss : List (List Nat)) : Prop := ss.Nodup ∧ ∀ y, y ∈ ss ↔ y ∈ L ∧ left (keyK y) = false
theorem KColl.start {D : DataW Unit} {L : List (List Nat)} (h : KindsIs D L) : KColl L (Maps.has D) [] := ⟨List.nodup_nil, fun y => ⟨fun q => absurd q (by simp), fun q => by rw [h.mem y q.1] at q; exact absurd q.2 (by simp)⟩⟩
theorem KColl.step {L : List (List Nat)} {left : Lit → Bool} {ss : List (List Nat)} (h : KColl L left ss) (hL : ∀ y ∈ L, SmK y) {x : List Nat} (hx : x ∈ L) (hl : left (keyK x) = true) : KColl L (fun z => left z && !z.sameKey (keyK x)) (ss ++ [x]) := by
  have hs : (keyK x).sameKey (keyK x) = true := WideAt.sameKey_self (keyK_lit (hL x hx))
  refine ⟨List.nodup_append.2 ⟨h.1, by simp, fun a ha b hb => ?_⟩, fun y => ?_⟩
  · obtain rfl : b = x := by simpa using hb
    rintro rfl
    have := ((h.2 a).1 ha).2
    rw [hl] at this; cases this
  · rw [List.mem_append, h.2 y, List.mem_singleton]
    by_cases e : y = x
    · subst e
      simp [hx, hl, hs]
    · constructor
      · rintro (⟨h1, h2⟩ | h1)
        · exact ⟨h1, by simp [h2]⟩
        · exact absurd h1 e
      · rintro ⟨h1, h2⟩
        have hne : (keyK y).sameKey (keyK x) = false := sameKey_ne fun e1 => e (keyK_inj (hL y h1) (hL x hx) e1)
        simp only [hne, Bool.not_false, Bool.and_true] at h2
        exact .inl ⟨h1, h2⟩

set_option maxRecDepth 100000 in
set_option maxHeartbeats 1000000 in
theorem Keys_any (B : Nat) (w : World) : Calls Try.prog 61 #[.map (some B)] w fun e w' => e = .returned (.func (.func 81) #[] #[.pointer (some ⟨w.heap.size, 0, none⟩)]) ∧ w' = w.alloc (.cells #[.map (some B)] 52) := by
  go_enter Try.func61, Try.ntmps61
  go_wp2
  go_ret
  exact ⟨rfl, rfl⟩

set_option maxRecDepth 100000 in
set_option maxHeartbeats 4000000 in
theorem keys_seq (n Bm B nn : Nat) (D : DataW Unit) (L : List (List Nat)) (w : World) (hm : w.cell? ⟨Bm, 0, none⟩ = some (.map (some B))) (hown : w.ownsMap Try.prog 75 (plainElem Try.prog 3) B nn D) (hD : KindsIs D L) (hL : ∀ y ∈ L, SmK y) :
    SeqStopsK Fence.wide n Try.prog 81 #[.pointer (some ⟨Bm, 0, none⟩)] kkE KeepsWalks (fun xs => KColl L (fun _ => false) (kkL xs)) (fun _ => True) (Maps.size D) w := by
  intro l J Jx W hbW hJ _ hY hJ0
  have hm1 : W.cell? ⟨Bm, 0, none⟩ = some (.map (some B)) := (hbW.cell (p := ⟨Bm, 0, none⟩) (block_lt_of_cell hm)).trans hm
  have hown1 := kinds_below hown hbW
  clear hm hown
  obtain ⟨S0, HS0⟩ : ∃ S0, Hid (Maps.size D = S0) := ⟨_, rfl⟩
  rw [HS0.out] at hY
  have HY : Hid (∀ pre x W1, J pre W1 → pre.length < S0 → YieldAt Fence.wide (n - 1) Try.prog l (kkE x) W1 fun e W' => (e = .returned (.bool true) ∧ J (pre ++ [x]) W' ∧ KeepsWalks W1 W') ∨ (e = .returned (.bool false) ∧ Jx (pre ++ [x]) W')) := hY
  have HJ : Hid (AbidesFrom W.heap.size J) := hJ
  have HL : Hid (∀ y ∈ L, SmK y) := hL
  have HD : Hid (KindsIs D L) := hD
  clear hY hJ hL hD
  refine callsIn_of_wp Try.func81 rfl trivial ?_ rfl
  simp only [Try.ntmps81, List.size_toArray, List.length_cons, List.length_nil, Nat.reduceAdd, Nat.reduceSub, Array.replicate_succ, Array.replicate_zero, List.push_toArray, List.append_toArray, List.nil_append, List.cons_append]
  gi_wp2_with (first
    | (gi_at_range; refine wpListIn_range_own _ rfl _ 52 rfl 75 3 keyed75 und52k _ B nn _ rfl hown1 ?_; intro w0 hrg0 hg0 hs0)
    | gi_in)
  go_frame
  rw [HS0.out] at hrg0
  gi_loopw [3] (fun _ wr => ∃ (left : Lit → Bool) (cnt : Nat) (ss : List KK), wr.ranges Try.prog 75 (plainElem Try.prog 3) B W.heap.size nn D left cnt ∧ ss.length + cnt ≤ S0 ∧ KColl L left (kkL ss) ∧ J ss wr)
    (fun _ wr => wr.rangeLeft B W.heap.size)
  case atStart =>
    exact ⟨_, _, [], hrg0, by simp, KColl.start HD.out, HJ.out [] W w0 none hJ0 hg0 (fun r e => by cases e)⟩
  case round =>
    clear hrg0 hg0 hs0 hJ0 hm1
    obtain ⟨left, cnt, ss, hrg, hcs, hC, hJs⟩ := hrel
    gi_wp2_with (first
      | (gi_at_next; refine wpListIn_next_ranges _ rfl _ rfl 75 keyed75 (plainElem Try.prog 3) (fun v : Value => v) id (fun key kl _ => ⟨key, rfl⟩) (fun v _ _ => ⟨v, rfl⟩) B W.heap.size nn _ _ _ rfl hrg ?_ ?_)
      | gi_in)
    · intro hc0 hl0
      have HC : Hid (KColl L (fun _ => false) (kkL ss)) := by
        have e : left = fun _ => false := funext hl0
        rw [e] at hC; exact hC
      clear hC hl0
      gi_wp2
      go_end0
      exact ⟨⟨_, rfl⟩, .inl ⟨ss, HC.out, hJs⟩⟩
    · intro key c kl yd yp w2 cnt2 hkey hlk hv hat hrg2 hlt hg2 hs2 hen
      obtain ⟨x, hxL, ekl⟩ := HD.out.has kl (has_true_of_atKey hat)
      subst ekl
      have hxs := HL.out x hxL
      have ek : key = mv x := keyed75.inj hkey (keyK_of hxs)
      subst ek
      have hJ2 : J ss w2 := HJ.out ss wr w2 (some W.heap.size) hJs hg2 (fun r e => by cases e; exact ⟨Nat.le_refl _, hrg.iter_walk⟩)
      have HC2 : Hid (KColl L (fun z => left z && !z.sameKey (keyK x)) (kkL (ss ++ [⟨x, hxs⟩]))) := by
        have := hC.step HL.out hxL hlk
        show KColl _ _ _
        unfold kkL at this ⊢
        rw [List.map_append]
        exact this
      clear hC
      have HYx := fun W1 (h : J ss W1) => HY.out ss ⟨x, hxs⟩ W1 h (by omega)
      unfold kkE at HYx
      unfold mv at hen HYx ⊢
      obtain ⟨G, HG⟩ : ∃ G : Nat → Int, Hid ((fun j => (x.getD j 0 : Int)) = G) := ⟨_, rfl⟩
      simp only [HG.out] at HYx
      rw [HG.out] at hen ⊢
      have hk0 := MRow.made 75 w2 (fun _ => 0)
      have hB0 := balloc w2 (.cells (mrow fun _ => 0) 75)
      have hk1 := hk0.whole G
      have hB1 : Below w2.heap.size w2 ((w2.alloc (.cells (mrow fun _ => 0) 75)).setRow w2.heap.size (mrow G)) := bsetRow hB0 (Nat.le_refl _) _
      have hJ3 : J ss ((w2.alloc (.cells (mrow fun _ => 0) 75)).setRow w2.heap.size (mrow G)) := HJ.out ss w2 _ none hJ2 (grown_of_below hB1) (fun r e => by cases e)
      have hrg3 := hrg2.kept (grown_of_below hB1) (by simp) (by simp)
      obtain ⟨fn, tmps, assign, body, hy, hR⟩ := HYx _ hJ3
      rw [← mrow_zero] at hk0
      have HR := hR
      clear hkey hv hat hxL hs2 HYx hR
      gi_wp2_with (first
        | (refine wpListIn_store_row rfl 75 _ _ rfl w2.heap.size _ rfl rfl 75 _ hk0 (inf75 _) (by simp) (mrow_one _) ?_; rw [mrow_zero])
        | (refine wpListIn_load_row rfl 75 _ rfl w2.heap.size rfl 75 _ (0, 0) _ hk1 und75 rfl (inf75 _) ?_)
        | gi_in)
      refine ⟨(fun h => by cases h), HR.mono ?_⟩
      rintro e W3 (⟨rfl, hJ4, hk4⟩ | ⟨rfl, hJx4⟩)
      · gi_wp2
        have hrg4 := hrg3.of_walks hk4
        go_roundw
        case rel => exact ⟨_, cnt2, _, hrg4, by simp; omega, HC2.out, hJ4⟩
        case measure => rw [hrg4.left_eq, hrg.left_eq]; exact hlt
      · gi_wp2
        refine bodyPost_ret (results_none rfl _ _ _) rfl ?_
        exact ⟨⟨_, rfl⟩, .inr ⟨_, trivial, hJx4⟩⟩

end Go.Proofs.Ytmaplmgecohjbaa

namespace Go.Proofs.Ytmaplmgecohjbaa
open Go.RowKit Go.Shelf Go.Maps Go.Sort

attribute [local go_sem] Oper.semAt_some

theorem und76s : Try.prog.underlying 76 = some (.slice 75) := by kernel_rfl
theorem info75 : ∃ i, Try.prog.info? 75 = some i ∧ i.zero = some (.agg (mrow fun _ => 0)) ∧ i.size = 7 ∧ i.bytes = 56 := by
  cases h : Try.prog.info? 75 with
  | none => exact absurd (show (Try.prog.info? 75).isSome = true by kernel_rfl) (by simp [h])
  | some i =>
    have h1 : (Try.prog.info? 75).bind (·.zero) = some (.agg (mrow fun _ => 0)) := by kernel_rfl
    have h2 : (Try.prog.info? 75).map (·.size) = some 7 := by kernel_rfl
    have h3 : (Try.prog.info? 75).map (·.bytes) = some 56 := by kernel_rfl
    rw [h] at h1 h2 h3
    exact ⟨i, rfl, by simpa using h1, by simpa using h2, by simpa using h3⟩
theorem kkL_snoc (l : List KK) (x : KK) : (kkL (l ++ [x])).flatMap mvL = (kkL l).flatMap mvL ++ mvL x.1 := by simp [kkL]

set_option maxRecDepth 100000 in
set_option maxHeartbeats 4000000 in
theorem AppendSeq_any (Bm B nn : Nat) (D : DataW Unit) (L : List (List Nat)) (w : World) (hm : w.cell? ⟨Bm, 0, none⟩ = some (.map (some B))) (hown : w.ownsMap Try.prog 75 (plainElem Try.prog 3) B nn D) (hD : KindsIs D L) (hL : ∀ y ∈ L, SmK y) (hnn : nn ≤ 6000) :
    Calls Try.prog 94 #[.slice none 0 0, .func (.func 81) #[] #[.pointer (some ⟨Bm, 0, none⟩)]] w fun e w' => ∃ u xs, e = .returned u ∧ KColl L (fun _ => false) xs ∧ w'.ownsRow w.heap.size 75 7 u xs.length (xs.flatMap mvL) ∧ Below w.heap.size w w' := by
  obtain ⟨i75, ti, tz0, tz1, tz2⟩ := info75
  have hsz := hown.size_le
  refine (callsIn_wide (n := 4)).1 ?_
  obtain ⟨w1, Hw1⟩ : ∃ w1, Hid (w1 = w.alloc (.cells #[.slice none 0 0] 76)) := ⟨_, rfl⟩
  have hB1 : Below w.heap.size w w1 := by rw [Hw1.out]; exact balloc w _
  have hs1 : w1.heap.size = w.heap.size + 1 := by rw [Hw1.out]; simp
  have hob : Boxed w1 w.heap.size 76 (.slice none 0 0) := by rw [Hw1.out]; exact Boxed.new w 76 (.slice none 0 0)
  have hm1 : w1.cell? ⟨Bm, 0, none⟩ = some (.map (some B)) := (hB1.cell (p := ⟨Bm, 0, none⟩) (block_lt_of_cell hm)).trans hm
  have HSQ := keys_seq 3 Bm B nn D L w1 hm1 (kinds_below hown hB1) hD hL
  refine callsIn_of_wp_marks Try.func94 rfl trivial ?_ rfl
  simp only [Try.ntmps94, List.size_toArray, List.length_cons, List.length_nil, Nat.reduceAdd, Nat.reduceSub, Array.replicate_succ, Array.replicate_zero, List.push_toArray, List.append_toArray, List.nil_append, List.cons_append]
  gi_wp2
  rw [← Hw1.out]
  refine wpIn_rangeFunc_asg (gf := 81) (lb := #[.pointer (some ⟨Bm, 0, none⟩)]) rfl (enters_of Try.func81 (by kernel_rfl) rfl) HSQ (fun _ => rfl) (fun h k => h.trans k) (fun W l o o' _ h _ hw => KeepsWalks.putObj _ h hw) (fun A B h => (keepsOthers_below h).walks)
    (fun pre W => (∃ u, Boxed W w.heap.size 76 u ∧ W.ownsRow w1.heap.size 75 7 u pre.length ((kkL pre).flatMap mvL) ∧ True) ∧ w1.heap.size ≤ W.heap.size ∧ Below w.heap.size w W)
    (OwnFrom.and (Own.from (holdsRow_own w1.heap.size w.heap.size 76 75 7 (fun pre => pre.length) (fun pre => (kkL pre).flatMap mvL) (fun _ _ => True)) _) (OwnFrom.and ownFrom_size (ownFrom_below (Nat.le_refl _) (by omega))))
    ⟨⟨_, hob, World.ownsRow_nil _ _ _ _, trivial⟩, Nat.le_refl _, hB1⟩
    (fun x b => { tmps := #[.slice none 0 0, .func (.func 81) #[] #[.pointer (some ⟨Bm, 0, none⟩)], .pointer (some ⟨w.heap.size, 0, none⟩), undef, .slice none 0 0, .pointer (some ⟨b, 0, none⟩), .func (.func 81) #[] #[.pointer (some ⟨Bm, 0, none⟩)], mv x.1, undef, undef, undef, undef, undef], defers := [] })
    (fun x b W => MRow 75 W b (fun j => (x.1.getD j 0 : Int))) ?he ?assign ?body ?done
  case he =>
    intro x b W l o o' h ho hc
    refine (World.putObj_heap_other (fun e => ?_)).trans h
    subst e
    have h' : W.heap[b]? = _ := h
    rw [h'] at ho
    cases ho
    cases hc
  case assign =>
    rintro l ⟨x, hx⟩ W K hK
    simp only [kkE]
    unfold mv at hK ⊢
    obtain ⟨G, HG⟩ : ∃ G : Nat → Int, Hid ((fun j => (x.getD j 0 : Int)) = G) := ⟨_, rfl⟩
    simp only [HG.out] at hK ⊢
    have hk0 := MRow.made 75 W (fun _ => 0)
    have hB0 := balloc W (.cells (mrow fun _ => 0) 75)
    have hk1 := hk0.whole G
    have hB2 : Below W.heap.size W ((W.alloc (.cells (mrow fun _ => 0) 75)).setRow W.heap.size (mrow G)) := bsetRow hB0 (Nat.le_refl _) _
    have HK := hK _ hB2 hk1
    rw [← mrow_zero] at hk0
    clear hK hk1 hB2 hB0 HSQ
    gi_wp2_with (first
      | (refine wpListIn_store_row rfl 75 _ _ rfl W.heap.size _ rfl rfl 75 _ hk0 (inf75 _) (by simp) (mrow_one _) ?_; rw [mrow_zero])
      | gi_in)
    exact HK
  case body =>
    rintro l pre ⟨x, hx⟩ b W ⟨⟨u, hu, hrow, _⟩, hsz1, hbw⟩ hlen hE
    obtain ⟨a', c', rfl⟩ : ∃ a' c', u = .slice a' pre.length c' := by
      rcases hrow.2 with ⟨rfl, h0⟩ | ⟨g, c, cur, rfl, _⟩
      · exact ⟨none, 0, by rw [h0]⟩
      · exact ⟨_, c, rfl⟩
    have hoc := hu.cell
    obtain ⟨X, HX⟩ : ∃ X, Hid (mvL x = X) := ⟨_, rfl⟩
    have hE' : W.heap[b]? = some (.cells (mvL x).toArray 75 (0, 0)) := hE
    have hX7 : X.length = 7 := by rw [← HX.out]; exact mvL_len x
    have hX1 : ∀ v ∈ X, v.oneCell' = true := by rw [← HX.out]; exact mvL_one x
    have hsn := kkL_snoc pre ⟨x, hx⟩
    simp only [mv_eq]
    simp only [HX.out] at hE' hsn ⊢
    have hi75 : (Try.prog.info? 75).map (·.size) = some X.toArray.size := by rw [List.size_toArray, hX7]; kernel_rfl
    obtain ⟨k, Hk⟩ : ∃ k, Hid (pre.length = k) := ⟨_, rfl⟩
    have hk6 : k < 6000 := by rw [← Hk.out]; omega
    rw [Hk.out] at hu hrow hoc
    have hb5 := balloc W (.cells X.toArray 75)
    have hrow5 := hrow.alloc (.cells X.toArray 75)
    have hnew : ∀ j v, X[j]? = some v → (W.alloc (.cells X.toArray 75)).cell? ((⟨W.heap.size, 0, none⟩ : Addr).add j) = some v := fun j v hv => by
      rw [Addr.add_mid, Nat.zero_add, cell_of_row _ _ _ _ _ _ (heap_alloc_new W (.cells X.toArray 75)), List.getElem?_toArray]
      exact hv
    clear hE hm hown hD hL HSQ
    gi_wp2_with (first
      | (refine wpListIn_load_row rfl 75 _ rfl b rfl 75 _ (0, 0) _ hE' und75 rfl hi75 ?_)
      | (rw [fill7 hX7])
      | (gi_at_builtin; refine wpListIn_append_own _ rfl _ _ 76 rfl w1.heap.size 75 i75 (.agg (mrow fun _ => 0)) 7 56 und76s ti tz0 tz1 tz2 (by simp [Value.cells]) (by omega) (.slice a' k c') k ((kkL pre).flatMap mvL) rfl hrow5 ⟨W.heap.size, 0, none⟩ 1 1 X rfl (by rw [hX7]) hnew hX1 (by unfold maxLen; omega) (by omega) (by simp; omega) ?_; intro v' w2 hown' hgrow _; obtain ⟨g2, cap2, rfl⟩ := ownsRow_succ hown'; obtain ⟨f1, f2, f3, f4, f5, f6⟩ := appFacts (S := fun _ => False) (lo := w.heap.size) (by decide) hu hrow hb5 (fun _ h => h.elim) (fun h => h) hsz1 ⟨Nat.le_refl _, hB1.size⟩ hown' hgrow; have f1c := f1.cell; have f1f := f1.frozen)
      | gi_in)
    refine ⟨f4.walks, ⟨_, f2, ?_⟩, ?_, hbw.trans f6⟩
    · rw [← hs1, Hk.out]
      exact f3
    · have h9 := Nat.le_trans hsz1 f4.size
      rw [hs1] at h9
      simpa using h9
  case done =>
    rintro D2 xs W hD2 hxs ⟨⟨u, hu, hrow, _⟩, hsz1, hbw⟩ hK
    have hc := hu.cell
    gi_wp2
    refine ⟨by simp, .inl ⟨_, _, rfl, run_takeDeferred hK, ?_⟩⟩
    refine ⟨_, results_tmp rfl _ _ _, u, kkL xs, rfl, hxs, ?_, hbw.trans (belowK_b (w := w) (Nat.le_refl _) W D2 _ _ (by omega) hK rfl rfl)⟩
    have := ownsRow_putObj (ownsRow_base hrow hB1.size) (.deferred none) hK rfl
    rw [show (kkL xs).length = xs.length by simp [kkL]]
    exact this

set_option maxRecDepth 100000 in
set_option maxHeartbeats 1000000 in
theorem Collect_any (Bm B nn : Nat) (D : DataW Unit) (L : List (List Nat)) (w : World) (hm : w.cell? ⟨Bm, 0, none⟩ = some (.map (some B))) (hown : w.ownsMap Try.prog 75 (plainElem Try.prog 3) B nn D) (hD : KindsIs D L) (hL : ∀ y ∈ L, SmK y) (hnn : nn ≤ 6000) :
    Calls Try.prog 79 #[.func (.func 81) #[] #[.pointer (some ⟨Bm, 0, none⟩)]] w fun e w' => ∃ u xs, e = .returned u ∧ KColl L (fun _ => false) xs ∧ w'.ownsRow w.heap.size 75 7 u xs.length (xs.flatMap mvL) ∧ Below w.heap.size w w' := by
  have C := AppendSeq_any Bm B nn D L w hm hown hD hL hnn
  clear hm hown hD hL
  go_enter Try.func79, Try.ntmps79
  go_wp2_with (go_at_call 94; refine C.mono ?_; rintro e w1 ⟨u, xs, rfl, h1, h2, b1⟩)
  go_ret
  exact ⟨_, xs, rfl, h1, h2, b1⟩

end Go.Proofs.Ytmaplmgecohjbaa

/- The walk of Index. -/
/- The walks of the library's SortFunc and SortedFunc, at kinds, the greatest first. -/
namespace Go.Proofs.Ytmaplmgecohjbaa
open Go.RowKit Go.Shelf Go.Maps

set_option maxRecDepth 100000 in
set_option maxHeartbeats 1000000 in
theorem closureK_any (x y : List Nat) (W : World) :
    Calls Try.prog 62 #[.agg (mvL x).toArray, .agg (mvL y).toArray] W fun e w' => e = .returned (.int .i64 (cmpM y x)) ∧ ∃ q os', w' = Go.Sort.grow (W.drewN q) os' := by
  have hB : Below W.heap.size W ((W.alloc (.cells (mvL x).toArray 75)).alloc (.cells (mvL y).toArray 75)) := (balloc W _).alloc (by simp) _
  have C := fun W' (h1 : ∀ j, j < 7 → W'.cell? ⟨W.heap.size, j, none⟩ = some (.int .i64 ((x.getD j 0 : Nat) : Int))) (h2 : ∀ j, j < 7 → W'.cell? ⟨W.heap.size + 1, j, none⟩ = some (.int .i64 ((y.getD j 0 : Nat) : Int))) => Compare_any (fun j => y.getD j 0) (fun j => x.getD j 0) (W.heap.size + 1) W.heap.size W' h2 h1
  have H1 : Hid (∀ j, j < 7 → ((W.alloc (.cells (mvL x).toArray 75)).alloc (.cells (mvL y).toArray 75)).cell? ⟨W.heap.size, j, none⟩ = some (.int .i64 ((x.getD j 0 : Nat) : Int))) := fun j hj => by
    have h := (MRow.made 75 W (fun j => (x.getD j 0 : Int))).alloc (.cells (mvL y).toArray 75)
    exact h.cell j hj
  have H2 : Hid (∀ j, j < 7 → ((W.alloc (.cells (mvL x).toArray 75)).alloc (.cells (mvL y).toArray 75)).cell? ⟨W.heap.size + 1, j, none⟩ = some (.int .i64 ((y.getD j 0 : Nat) : Int))) := fun j hj => by
    have h := MRow.made 75 (W.alloc (.cells (mvL x).toArray 75)) (fun j => (y.getD j 0 : Int))
    rw [World.size_alloc] at h
    exact h.cell j hj
  have e0 : cmpM y x = lexc (fun j => y.getD j 0) (fun j => x.getD j 0) 7 0 := rfl
  rw [e0]
  obtain ⟨z, Hz⟩ : ∃ z, Hid (lexc (fun j => y.getD j 0) (fun j => x.getD j 0) 7 0 = z) := ⟨_, rfl⟩
  rw [Hz.out] at C ⊢
  obtain ⟨X, HX⟩ : ∃ X, Hid (mvL x = X) := ⟨_, rfl⟩
  obtain ⟨Y, HY⟩ : ∃ Y, Hid (mvL y = Y) := ⟨_, rfl⟩
  rw [HX.out, HY.out] at H1 H2 ⊢
  have hlx : X.length = 7 := by rw [← HX.out]; exact mvL_len x
  have hly : Y.length = 7 := by rw [← HY.out]; exact mvL_len y
  clear e0 hB
  go_enter Try.func62, Try.ntmps62
  go_wp2_with fail
  refine wp_region_noPanic ?_
  refine wp_region_held_drew (S := fun _ => True) (by kernel_rfl) (trivial) (fun hSx => ?_)
  refine wpAnyH_take (i := 0) (v := .slice (some ⟨W.heap.size + 1, 0, none⟩) 7 7) rfl (by kernel_rfl) (by kernel_rfl) (by kernel_rfl) (fun _ _ _ h => h) (Or.inl ⟨by rfl, fun w' hSw => by (try dsimp only at hSw); go_simp⟩) trivial ?_
  try simp only [Act.put, List.setIfInBounds_toArray]
  refine wpAnyH_take (i := 1) (v := .slice (some ⟨W.heap.size, 0, none⟩) 7 7) rfl (by kernel_rfl) (by kernel_rfl) (by kernel_rfl) (fun _ _ _ h => h) (Or.inl ⟨by rfl, fun w' hSw => by (try dsimp only at hSw); go_simp⟩) trivial ?_
  try simp only [Act.put]
  refine wpAnyH_ready (rs := [2]) (by kernel_rfl) (by simp) ?_
  refine AllReadyH.cons rfl (fun J hJ => ?_) AllReadyH.nil
  go_simp
  refine (C (World.drew _) (by exact H1.out) (by exact H2.out)).mono ?_
  rintro e w1 ⟨rfl, h⟩
  replace h := h.symm
  subst h
  go_wp2_with fail
  refine hJ.out _ _ trivial (fun _ => ?_)
  clear hJ J
  try simp only [Act.put, List.setIfInBounds_toArray, List.set_cons_zero, List.set_cons_succ]
  refine wpAnyH_ready (rs := [3]) (by kernel_rfl) (by simp) ?_
  refine AllReadyH.cons rfl (fun J hJ => ?_) AllReadyH.nil
  go_simp
  refine hJ.out _ _ trivial (fun _ => ?_)
  clear hJ J
  try simp only [Act.put, List.setIfInBounds_toArray, List.set_cons_zero, List.set_cons_succ]
  refine wpAnyH_done (by kernel_rfl) ?_ _
  refine NoPanic.normal ?_
  go_wp2_with fail
  go_ret
  refine ⟨rfl, 1, #[.cells X.toArray 75, .cells Y.toArray 75], ?_⟩
  rw [Go.Sort.alloc_eq_grow, Go.Sort.alloc_eq_grow, Go.Sort.grow_grow]
  rfl

theorem nodup_sub_len {α : Type} [DecidableEq α] : ∀ {A B : List α}, A.Nodup → (∀ x ∈ A, x ∈ B) → A.length ≤ B.length
  | [], _, _, _ => Nat.zero_le _
  | a :: A, B, nd, h => by
    have ha := h a (by simp)
    have hn := List.nodup_cons.1 nd
    have ih := nodup_sub_len (A := A) (B := B.erase a) hn.2 fun x hx => (List.mem_erase_of_ne (show x ≠ a from fun e => hn.1 (by rw [← e]; exact hx))).2 (h x (by simp [hx]))
    rw [List.length_erase_of_mem ha] at ih
    have := List.length_pos_of_mem ha
    rw [List.length_cons]
    omega
theorem ltK_no (x y : List Nat) : ltOf (fun x y => cmpM y x) x y = false ↔ ¬ LexLt 7 (fun j => y.getD j 0) (fun j => x.getD j 0) := by
  rw [← lt_no y x]
  rfl
theorem ltK_iff (x y : List Nat) : ltOf (fun x y => cmpM y x) x y = true ↔ LexLt 7 (fun j => y.getD j 0) (fun j => x.getD j 0) := by
  rw [← lt_iff y x]
  rfl
theorem swoK : Go.Sort.SWO (ltOf fun x y => cmpM y x) where
  irrefl x := (ltK_no x x).2 LexLt.irrefl
  trans x y z h1 h2 := (ltK_iff x z).2 (((ltK_iff y z).1 h2).trans ((ltK_iff x y).1 h1))
  ntrans x y z h1 h2 := by
    rw [ltK_no] at h1 h2 ⊢
    intro h
    by_cases h3 : LexLt 7 (fun j => z.getD j 0) (fun j => y.getD j 0)
    · exact h2 h3
    · by_cases h4 : LexLt 7 (fun j => y.getD j 0) (fun j => z.getD j 0)
      · exact h1 (h4.trans h)
      · exact h1 (lex_congr (fun i hi => lex_total h3 h4 i hi) h)
theorem isAgg75k (w : World) : (isAgg 75).run Try.prog w = .ok true w := by kernel_rfl
theorem sizeOf75k (w : World) : (Go.sizeOf 75).run Try.prog w = .ok 7 w := by kernel_rfl

set_option maxRecDepth 100000 in
set_option maxHeartbeats 2000000 in
theorem SortFunc_any (base g' cap' : Nat) (M : List (List Nat)) (W : World) (hown : W.ownsRow base 75 7 (.slice (some ⟨g', 0, none⟩) M.length cap') M.length (M.flatMap mvL)) (hbW : base ≤ W.heap.size) (h6 : M.length ≤ 6000) :
    Calls Try.prog 80 #[.slice (some ⟨g', 0, none⟩) M.length cap', .func (.func 62) #[] #[]] W fun e w' => e = .returned (.tuple #[]) ∧ (∃ M' : List (List Nat), M'.length = M.length ∧ Mvs w' (.slice (some ⟨g', 0, none⟩) M.length cap') M' ∧ M'.Perm M ∧ M'.Pairwise fun a b => ¬ LexLt 7 (fun i => a.getD i 0) (fun i => b.getD i 0)) ∧ Below base W w' := by
  obtain ⟨hl', ⟨e, _⟩ | ⟨g2, cap2, cur, e, hb, h7, h8, h9, h10, ht⟩⟩ := hown
  · cases e
  · cases e
    have hH : Go.Sort.HoldsK mvL 7 W g' 0 M.toArray := fun t htt => by
      rw [Go.Sort.size_flatK] at htt
      have htt : t < M.length * 7 := by simpa using htt
      rw [Go.Sort.get_flatK _ _ _ _ (by simpa using htt)]
      refine ⟨?_, frozen_of_row W g' _ _ _ h7⟩
      rw [Nat.zero_add, cell_of_row W g' _ _ _ _ h7]
      have h3 := flat_at htt
      rw [← ht, List.getElem?_take, if_pos (by omega)] at h3
      rw [← Array.getElem?_toList]; exact h3
    have hblk : g' < W.heap.size := (Array.getElem?_eq_some_iff.1 h7).1
    have eg : ∀ args w, (callFunc 62 args).run Try.prog w = .ok (.enter 62 args) w := enters_of Try.func62 (by kernel_rfl) rfl
    have h := AnyQ.slices_SortFunc sortKd 7 isAgg75k sizeOf75k mvL mvL_len mvL_one (fun x y => cmpM y x) swoK 62 #[] g' 0 cap' M.toArray W eg (fun m os dk _ x y => closureK_any x y _) hH hblk (by simp; omega)
    change Calls Try.prog 80 _ _ _ at h
    have hsz0 : M.toArray.size = M.length := by simp
    rw [hsz0] at h
    exact h.mono (fun e w' ⟨he, d', n, os, hp, hs, hw⟩ => by
      have hsz : d'.size = M.length := by simpa using hp.1
      refine ⟨he, ⟨d'.toList, by simpa using hsz, ?_, ?_, ?_⟩, ?_⟩
      · have hH' : Go.Sort.HoldsK mvL 7 w' g' 0 d' := by
          rw [hw]
          exact Go.Sort.holdsK_grow mvL 7 _ _ _ _ _ (by simp [Go.Sort.putRowK, Go.Sort.putRow, Go.Sort.mapBlock, Go.Sort.ahead]; exact hblk) (Go.Sort.holdsK_putRowK mvL 7 _ _ _ M.toArray d' (Go.Sort.holdsK_ahead mvL 7 _ _ _ _ _ hH) (by simpa using hsz))
        refine ⟨_, cap', by simp [hsz], fun i x hx => ⟨g', 0, rfl, ?_, fun j u hu => ?_⟩⟩
        · rw [hw]
          show g' < (Go.Sort.grow (Go.Sort.putRowK mvL 7 (Go.Sort.ahead W n) g' 0 d') os).heap.size
          simp [Go.Sort.grow, Go.Sort.putRowK, Go.Sort.putRow, Go.Sort.mapBlock, Go.Sort.ahead]; omega
        · have hi' : i < d'.size := by have := (List.getElem?_eq_some_iff.1 hx).1; simpa using this
          have hj : j < 7 := by have := (List.getElem?_eq_some_iff.1 hu).1; rwa [mvL_len] at this
          have hc := (hH'.cell hi' hj).1
          have e1 : d'[i]! = x := by
            have : d'.toList[i]? = some x := hx
            rw [Array.getElem?_toList, Array.getElem?_eq_getElem hi'] at this
            rw [getElem!_pos d' i hi']
            exact Option.some.inj this
          rw [hc, e1, getElem!_pos (mvL x) j (by rw [mvL_len]; exact hj)]
          rw [List.getElem?_eq_getElem (by rw [mvL_len]; exact hj)] at hu
          exact hu
      · have h2 := hp.2.2
        have e1 : d'.extract 0 M.length = d' := by rw [← hsz]; simp
        have e2 : M.toArray.extract 0 M.length = M.toArray := by simp
        rw [e1, e2] at h2
        exact h2
      · rw [List.pairwise_iff_getElem]
        intro a b ha hb' hab
        have ha' : a < d'.size := by simpa using ha
        have hb2 : b < d'.size := by simpa using hb'
        have h3 := hs a b (Nat.zero_le _) hab (by omega)
        rw [ltK_no, getElem!_pos d' a ha', getElem!_pos d' b hb2] at h3
        exact h3
      · rw [hw]; exact sort_below hb hbW)

set_option maxRecDepth 100000 in
set_option maxHeartbeats 1000000 in
theorem SortedFunc_any (Bm B nn : Nat) (D : DataW Unit) (L : List (List Nat)) (w : World) (hm : w.cell? ⟨Bm, 0, none⟩ = some (.map (some B))) (hown : w.ownsMap Try.prog 75 (plainElem Try.prog 3) B nn D) (hD : KindsIs D L) (hL : ∀ y ∈ L, SmK y) (hnn : nn ≤ 6000) (hL1 : L ≠ []) (hLl : L.length ≤ 6000) :
    Calls Try.prog 60 #[.func (.func 81) #[] #[.pointer (some ⟨Bm, 0, none⟩)], .func (.func 62) #[] #[]] w fun e w' => (∃ g cap M, e = .returned (.slice (some ⟨g, 0, none⟩) M.length cap) ∧ Mvs w' (.slice (some ⟨g, 0, none⟩) M.length cap) M ∧ KColl L (fun _ => false) M ∧ M.length ≤ 6000 ∧ M.Pairwise fun a b => ¬ LexLt 7 (fun i => a.getD i 0) (fun i => b.getD i 0)) ∧ Below w.heap.size w w' := by
  have C := Collect_any Bm B nn D L w hm hown hD hL hnn
  have C' := C.mono (R' := fun e w' => (∃ g cap xs, e = .returned (.slice (some ⟨g, 0, none⟩) xs.length cap) ∧ KColl L (fun _ => false) xs ∧ xs.length ≤ 6000 ∧ w'.ownsRow w.heap.size 75 7 (.slice (some ⟨g, 0, none⟩) xs.length cap) xs.length (xs.flatMap mvL)) ∧ Below w.heap.size w w') (fun e w' ⟨u, xs, h1, h2, h3, h4⟩ => by
    have hx0 : xs ≠ [] := fun e => by
      obtain ⟨y, hy⟩ := List.exists_mem_of_ne_nil L hL1
      have := (h2.2 y).2 ⟨hy, rfl⟩
      rw [e] at this; simp at this
    have hxl : xs.length ≤ 6000 := Nat.le_trans (nodup_sub_len h2.1 fun y hy => ((h2.2 y).1 hy).1) hLl
    obtain ⟨k1, ⟨e1, e2⟩ | ⟨g2, cap2, cur, e1, k2⟩⟩ := id h3
    · exact absurd (List.length_eq_zero_iff.1 e2) hx0
    · exact ⟨⟨g2, cap2, xs, by rw [h1, e1], h2, hxl, by rw [← e1]; exact h3⟩, h4⟩)
  have C2 := fun (g cap : Nat) (xs : List (List Nat)) (W : World) h1 h2 h3 => SortFunc_any w.heap.size g cap xs W h1 h2 h3
  clear C hm hown hD
  go_enter Try.func60, Try.ntmps60
  go_wp2_with (first
    | (go_at_call 79; refine C'.mono ?_; rintro e w1 ⟨⟨g, cap, xs, rfl, hK, hxl, how⟩, b1⟩; replace C2 := C2 g cap xs w1 how b1.size hxl; obtain ⟨r, Hr⟩ : ∃ r, Hid (xs.length = r) := ⟨_, rfl⟩; rw [Hr.out] at C2 hxl ⊢)
    | (go_at_call 80; refine C2.mono ?_; rintro e w2 ⟨rfl, ⟨M', hl, hm, hp, hs⟩, b2⟩))
  go_ret
  refine ⟨⟨g, cap, M', by rw [hl]; rfl, by rw [hl]; exact hm, ⟨hp.nodup_iff.2 hK.1, fun y => by rw [hp.mem_iff]; exact hK.2 y⟩, by omega, hs⟩, b1.trans b2⟩

end Go.Proofs.Ytmaplmgecohjbaa

/- The walk of rows. -/
namespace Go.Proofs.Ytmaplmgecohjbaa
open Go.RowKit Go.Shelf Go.Maps

/-- Block g is a row of r slices of one's own; the first of them are these rows. -/
def RowsO (w : World) (g r : Nat) (ls : List (List Nat)) : Prop :=
  ∃ cur : Array Value, w.heap[g]? = some (.cells cur 40 (0, 0)) ∧ cur.size = r ∧ ∀ (j : Nat) (l : List Nat), ls[j]? = some l → ∃ (gj cj : Nat), cur[j]? = some (Value.slice (some ⟨gj, 0, none⟩) l.length cj) ∧ gj ≠ g ∧ Own w gj l.length (fun q => (l.getD q 0 : Int))
theorem RowsO.lt {w : World} {g r : Nat} {ls : List (List Nat)} (h : RowsO w g r ls) : g < w.heap.size := by
  obtain ⟨cur, h, _⟩ := h
  exact (Array.getElem?_eq_some_iff.1 h).1
theorem RowsO.below {w w' : World} {g r : Nat} {ls : List (List Nat)} (h : RowsO w g r ls) (hb : Below w.heap.size w w') : RowsO w' g r ls := by
  have hl := h.lt
  obtain ⟨cur, h1, h2, h3⟩ := h
  refine ⟨cur, (hb.block g hl).trans h1, h2, fun j l hj => ?_⟩
  obtain ⟨gj, cj, e1, e2, e3⟩ := h3 j l hj
  exact ⟨gj, cj, e1, e2, e3.below hb⟩
theorem RowsO.cell {w : World} {g r : Nat} {ls : List (List Nat)} (h : RowsO w g r ls) {k : Nat} (hk : k < r) : ∃ v, w.cell? ⟨g, k, none⟩ = some v ∧ w.frozen? ⟨g, k, none⟩ = false := by
  obtain ⟨cur, h1, h2, _⟩ := h
  refine ⟨cur[k], ?_, frozen_of_row w g k _ _ h1⟩
  rw [cell_of_row w g k _ _ _ h1]
  simp [h2, hk]
theorem RowsO.store {w : World} {g r k gn cap : Nat} {ls : List (List Nat)} {l : List Nat} (h : RowsO w g r ls) (hk : ls.length = k) (hkr : k < r) (hO : Own w gn l.length (fun q => (l.getD q 0 : Int))) (hne : gn ≠ g) :
    RowsO (w.setCell ⟨g, k, none⟩ (.slice (some ⟨gn, 0, none⟩) l.length cap)) g r (ls ++ [l]) := by
  obtain ⟨cur, h1, h2, h3⟩ := h
  refine ⟨_, heap_setCell_same w g k _ _ _ h1, by simpa using h2, fun j l' hj => ?_⟩
  by_cases e : j = k
  · subst e
    have : l' = l := by
      rw [List.getElem?_append_right (by omega), hk, Nat.sub_self] at hj
      simpa using hj.symm
    subst this
    refine ⟨gn, cap, ?_, hne, hO.other _ _ hne⟩
    rw [Array.getElem?_setIfInBounds, if_pos rfl, if_pos (by omega)]
  · have hj' : j < ls.length := by
      have := (List.getElem?_eq_some_iff.1 hj).1
      rw [List.length_append, List.length_singleton] at this
      omega
    rw [List.getElem?_append_left hj'] at hj
    obtain ⟨gj, cj, e1, e2, e3⟩ := h3 j l' hj
    exact ⟨gj, cj, by rw [Array.getElem?_setIfInBounds, if_neg (by omega)]; exact e1, e2, e3.other _ _ e2⟩
theorem RowsO.sl {w : World} {g r : Nat} {ls : List (List Nat)} (h : RowsO w g r ls) (hl : ls.length = r) : SlSl w (.slice (some ⟨g, 0, none⟩) r r) ls := by
  obtain ⟨cur, h1, h2, h3⟩ := h
  refine ⟨_, r, by rw [hl], fun i l hi => ?_⟩
  obtain ⟨gj, cj, e1, e2, e3⟩ := h3 i l hi
  refine ⟨g, 0, _, rfl, by rw [Nat.zero_add, cell_of_row w g i _ _ _ h1]; exact e1, _, cj, by rw [List.length_map], fun j hj => ⟨gj, 0, rfl, ?_⟩⟩
  rw [List.length_map] at hj
  rw [Nat.zero_add, e3.cell j hj]
  simp [hj]
theorem run_make28 (r : Nat) (hr : r ≤ 10000) (w : World) : (Instr.makeSlice 28 (.int .i64 (r : Int)) (.int .i64 (r : Int))).run Try.prog w = .ok (.slice (some ⟨w.heap.size, 0, none⟩) r r) (w.alloc (.cells (madeCells #[.slice none 0 0] r) 40)) := by
  obtain ⟨i, hi, hz0, hz1, hz2⟩ := info22
  have h := run_make (P := Try.prog) w 28 40 i (.slice none 0 0) und54 hi hz0 .i64 .i64 r r (by omega) (by omega) (by rw [hz2]; omega) (by omega)
  simpa [hz1, Value.cells] using h
theorem RowsO.made (r : Nat) (w : World) : RowsO (w.alloc (.cells (madeCells #[.slice none 0 0] r) 40)) w.heap.size r [] :=
  ⟨_, heap_alloc_new w _, size_madeCells _ _, fun j l h => by simp at h⟩

/-- The rows that the program tells. -/
def idxR (n : Nat) (L : List (List Nat)) (x : List Nat) : List Nat := L.count x :: x.take n
/-- What rows answers. -/
def RowsAns (w : World) (n : Nat) (L : List (List Nat)) (e : Ending) (w' : World) : Prop :=
  (∃ v M, e = .returned v ∧ KColl L (fun _ => false) M ∧ (M.Pairwise fun a b => ¬ LexLt 7 (fun i => a.getD i 0) (fun i => b.getD i 0)) ∧ SlSl w' v (M.map (idxR n L))) ∧ Below w.heap.size w w'

set_option maxRecDepth 100000 in
set_option maxHeartbeats 4000000 in
theorem rows_any (B nn n : Nat) (D : DataW Unit) (L : List (List Nat)) (w : World) (hown : w.ownsMap Try.prog 75 (plainElem Try.prog 3) B nn D) (hD : KindsIs D L) (hL : ∀ y ∈ L, SmK y) (hnn : nn ≤ 6000) (hL1 : L ≠ []) (hLl : L.length ≤ 6000) (hn1 : 1 ≤ n) (hn7 : n ≤ 7) :
    Calls Try.prog 36 #[.map (some B), .int .i64 (n : Int)] w fun e w' => RowsAns w n L e w' := by
  have CK := Keys_any B w
  have hB1 := balloc w (.cells #[.map (some B)] 52)
  have hm1 : (w.alloc (.cells #[.map (some B)] 52)).cell? ⟨w.heap.size, 0, none⟩ = some (.map (some B)) := (Boxed.new w 52 (.map (some B))).cell
  have CS := SortedFunc_any w.heap.size B nn D L (w.alloc (.cells #[.map (some B)] 52)) hm1 (kinds_below hown hB1) hD hL hnn hL1 hLl
  have hmk := run_make28
  have HL : Hid (∀ y ∈ L, SmK y) := hL
  have HD : Hid (KindsIs D L) := hD
  have HOWN : Hid (∀ W, Below w.heap.size w W → W.ownsMap Try.prog 75 (plainElem Try.prog 3) B nn D) := fun W b => kinds_below hown b
  clear hm1 hL hD hown
  go_enter Try.func36, Try.ntmps36
  go_wp2_with (first
    | (go_at_call 61; refine CK.mono ?_; rintro e w1 ⟨rfl, hw⟩; replace hw := hw.symm; subst hw)
    | (go_at_call 60; refine CS.mono ?_; rintro e w2 ⟨⟨gO, capO, M, rfl, hMv, hK, hM6, hP⟩, b2⟩; have b2' := Below.next hB1 b2; obtain ⟨r, Hr⟩ : ∃ r, Hid (M.length = r) := ⟨_, rfl⟩; rw [Hr.out] at hMv hM6 ⊢; replace hmk := hmk r (by omega) w2))
  obtain ⟨r', hr'⟩ : ∃ r', r' = r := ⟨_, rfl⟩
  have hs2 := b2'.size
  have HMV : Hid (Mvs w2 (.slice (some ⟨gO, 0, none⟩) r capO) M) := hMv
  have HK : Hid (KColl L (fun _ => false) M) := hK
  have HPW : Hid (M.Pairwise fun a b => ¬ LexLt 7 (fun i => a.getD i 0) (fun i => b.getD i 0)) := hP
  have HB2 : Hid (Below w.heap.size w w2) := b2'
  clear hMv hK hP b2' b2 CS CK hB1 hr' r'
  have hR0 := RowsO.made r w2
  have hb0 := balloc w2 (.cells (madeCells #[.slice none 0 0] r) 40)
  go_loopw [17] (fun i wr => ∃ (k : Nat) (A : List (List Nat)), i = .int .i64 (k : Int) ∧ k ≤ r ∧ RowsO wr w2.heap.size r A ∧ Hid (A = (M.take k).map (idxR n L)) ∧ Below w2.heap.size w2 wr) (fun i _ => (r - intOf i).toNat)
  case atStart => exact ⟨0, [], rfl, by omega, hR0, (by simp : ([] : List (List Nat)) = (M.take 0).map (idxR n L)), hb0⟩
  case round =>
    clear hR0 hb0
    obtain ⟨k, A, rfl, hk, hR, HA, hB⟩ := hrel
    by_cases hlt : k < r
    · have hki : (k : Int) < r := by omega
      have hk0 : (0 : Int) ≤ (k : Int) := by omega
      have hdec : decide ((k : Int) < r) = true := by simp; omega
      obtain ⟨x, hx⟩ : ∃ x, M[k]? = some x := ⟨M[k]'(by rw [Hr.out]; exact hlt), by simp⟩
      have hxL : x ∈ L := ((HK.out.2 x).1 (List.mem_of_getElem? hx)).1
      have hxs := HL.out x hxL
      have HTK : Hid ((M.take (k + 1)).map (idxR n L) = (M.take k).map (idxR n L) ++ [idxR n L x]) := by show _ = _; rw [List.take_add_one, hx, List.map_append]; rfl
      obtain ⟨b, off, hya, hbl, hrM0⟩ := HMV.out.at hx
      have hAl : A.length = k := by rw [HA.out, List.length_map, List.length_take, Hr.out]; omega
      simp only [Option.some.injEq, Addr.mk.injEq, and_true] at hya
      obtain ⟨rfl, rfl⟩ := hya
      rw [Nat.zero_add] at hrM0
      have hrM := range_below hrM0 hB hbl
      have hsz := hB.size
      have hwr : Below w.heap.size w wr := HB2.out.trans (hB.mono hs2)
      have hkey := keyK_of hxs
      rw [mv_eq] at hkey
      have hinX : (Try.prog.info? 75).map (·.size) = some (mvL x).length := inf75L _
      have hlX : (mvL x).length = 7 := mvL_len _
      have h1X : ∀ u ∈ mvL x, u.oneCell' = true := mvL_one _
      have hxX : ∀ j, j < 7 → (mvL x)[j]? = some (.int .i64 (x.getD j 0 : Int)) := fun j hj => by simp [mvL, hj]
      obtain ⟨X, HX⟩ : ∃ X, Hid (mvL x = X) := ⟨_, rfl⟩
      rw [HX.out] at hinX hrM hlX h1X hkey hxX
      have honeX := all_oneCell_toArray h1X
      have hinX' : (Try.prog.info? 75).map (·.size) = some X.toArray.size := by simpa using hinX
      have hthX : (wr.alloc (.cells #[.int .i64 0, .int .i64 0, .int .i64 0, .int .i64 0, .int .i64 0, .int .i64 0, .int .i64 0] 75)).there wr.heap.size 0 X.toArray.size := by
        intro q hq
        rw [Nat.zero_add, cell_of_row _ _ q _ _ _ (heap_alloc_new wr _), frozen_of_row _ _ q _ _ (heap_alloc_new wr _)]
        have hq7 : q < 7 := by simpa [hlX] using hq
        exact ⟨by simp [hq7], rfl⟩
      have hBX : Below wr.heap.size wr ((wr.alloc (.cells #[.int .i64 0, .int .i64 0, .int .i64 0, .int .i64 0, .int .i64 0, .int .i64 0, .int .i64 0] 75)).setCells wr.heap.size 0 X) := (balloc wr (.cells #[.int .i64 0, .int .i64 0, .int .i64 0, .int .i64 0, .int .i64 0, .int .i64 0, .int .i64 0] 75)).trans (bsets (Nat.le_refl _) _ _ _)
      have hrX2 : ((wr.alloc (.cells #[.int .i64 0, .int .i64 0, .int .i64 0, .int .i64 0, .int .i64 0, .int .i64 0, .int .i64 0] 75)).setCells wr.heap.size 0 X).rangeAt wr.heap.size 0 X := World.rangeAt_setCells_same _ _ _ _ (by simpa using hthX)
      have hszW : ((wr.alloc (.cells #[.int .i64 0, .int .i64 0, .int .i64 0, .int .i64 0, .int .i64 0, .int .i64 0, .int .i64 0] 75)).setCells wr.heap.size 0 X).heap.size = wr.heap.size + 1 := by simp
      obtain ⟨W, HW⟩ : ∃ W, Hid ((wr.alloc (.cells #[.int .i64 0, .int .i64 0, .int .i64 0, .int .i64 0, .int .i64 0, .int .i64 0, .int .i64 0] 75)).setCells wr.heap.size 0 X = W) := ⟨_, rfl⟩
      rw [HW.out] at hBX hrX2 hszW
      have hWB : Below w.heap.size w W := hwr.trans (hBX.mono hwr.size)
      obtain ⟨c, hlook, hat, _⟩ := (HOWN.out W hWB).drew.lookup_int keyed75 und52k und3 (zero3' _) hkey
      have hcx := HD.out.look HL.out hxs hat
      clear hrM0 hx hxL hat hkey
      have hRW : RowsO W w2.heap.size r A := hR.below hBX
      have hW0 : (((W.alloc (.cells #[.int .i64 c] 3)).alloc (.cells #[.slice (some ⟨W.heap.size, 0, none⟩) 1 1, .slice (some ⟨wr.heap.size, 0, none⟩) n 7] 40)).drew).heap.size = W.heap.size + 2 := by
        show ((W.alloc _).alloc _).heap.size = _
        simp
      have hb2 : Below W.heap.size W (((W.alloc (.cells #[.int .i64 c] 3)).alloc (.cells #[.slice (some ⟨W.heap.size, 0, none⟩) 1 1, .slice (some ⟨wr.heap.size, 0, none⟩) n 7] 40)).drew) := ((balloc W _).alloc (by simp) _).drew
      have hl1 : Sls (((W.alloc (.cells #[.int .i64 c] 3)).alloc (.cells #[.slice (some ⟨W.heap.size, 0, none⟩) 1 1, .slice (some ⟨wr.heap.size, 0, none⟩) n 7] 40)).drew) (.slice (some ⟨W.heap.size + 1, 0, none⟩) 2 2) [[c], (x.take n).map Int.ofNat] := by
        have hN := heap_alloc_new (W.alloc (.cells #[.int .i64 c] 3)) (.cells #[.slice (some ⟨W.heap.size, 0, none⟩) 1 1, .slice (some ⟨wr.heap.size, 0, none⟩) n 7] 40)
        rw [World.size_alloc] at hN
        have hC : (((W.alloc (.cells #[.int .i64 c] 3)).alloc (.cells #[.slice (some ⟨W.heap.size, 0, none⟩) 1 1, .slice (some ⟨wr.heap.size, 0, none⟩) n 7] 40)).drew).cell? ⟨W.heap.size, 0, none⟩ = some (.int .i64 c) := ((Boxed.new W 3 (.int .i64 c)).alloc (.cells #[.slice (some ⟨W.heap.size, 0, none⟩) 1 1, .slice (some ⟨wr.heap.size, 0, none⟩) n 7] 40)).cell
        have hxl : x.length = 7 := hxs.1
        refine ⟨_, 2, rfl, fun i l hi => ?_⟩
        match i, hi with
        | 0, hi =>
          obtain rfl : [c] = l := by simpa using hi
          refine ⟨W.heap.size + 1, 0, _, rfl, cell_of_row _ _ 0 _ _ _ hN, _, 1, rfl, fun j hj => ⟨W.heap.size, 0, rfl, ?_⟩⟩
          obtain rfl : j = 0 := by simpa using hj
          exact hC
        | 1, hi =>
          obtain rfl : (x.take n).map Int.ofNat = l := by simpa using hi
          refine ⟨W.heap.size + 1, 0, _, rfl, cell_of_row _ _ 1 _ _ _ hN, _, 7, by simp; omega, fun j hj => ⟨wr.heap.size, 0, rfl, ?_⟩⟩
          have hjn : j < n := by simp at hj; omega
          have h7 := hrX2 j _ (hxX j (by omega))
          rw [hb2.cell (p := ⟨wr.heap.size, 0 + j, none⟩) (by show wr.heap.size < W.heap.size; omega), h7]
          have hj7 : j < x.length := by omega
          simp [hjn, hj7]
      have hlen : ([[c], (x.take n).map Int.ofNat] : List (List Int)).flatten.length = n + 1 := by
        have hxl : x.length = 7 := hxs.1
        simp
        omega
      have C9 := Concat_any [[c], (x.take n).map Int.ofNat] (.slice (some ⟨W.heap.size + 1, 0, none⟩) 2 2) _ hl1 (fun l hl => by
        have hxl : x.length = 7 := hxs.1
        rcases List.mem_cons.1 hl with rfl | hl
        · simp
        · obtain rfl := List.mem_singleton.1 hl
          simp
          omega) (by simp) (by rw [hlen]; omega) (by rw [hlen]; omega)
      rw [hlen] at C9
      have C9' := C9.mono (R' := fun e w' => (∃ gn cap, e = .returned (.slice (some ⟨gn, 0, none⟩) (n + 1) cap) ∧ W.heap.size + 2 ≤ gn ∧ Own w' gn (n + 1) (fun q => ((idxR n L x).getD q 0 : Int))) ∧ Below W.heap.size W w') (fun e w' ⟨u, e1, e2, e3⟩ => by
        obtain ⟨g, cap, rfl, hg, hO⟩ := Own.of e2 (by omega)
        rw [hW0] at hg
        refine ⟨⟨g, cap, e1, hg, hO.congr fun j hj => ?_⟩, hb2.trans (e3.mono (by rw [hW0]; omega))⟩
        unfold idxR
        rw [hcx]
        cases j with
        | zero => simp
        | succ j =>
          have hxl : x.length = 7 := hxs.1
          have hj7 : j < x.length := by omega
          have hjn : j < n := by omega
          simp [hjn, hj7])
      have hcell := hRW.cell hlt
      have hni0 : (0 : Int) ≤ (n : Int) := by omega
      have hni7 : (n : Int) ≤ 7 := by omega
      have HS5 : Hid ((W.alloc (.cells #[.int .i64 c] 3)).drew.rangeAt wr.heap.size 0 X) := range_below hrX2 (balloc W (.cells #[.int .i64 c] 3)).drew (by omega)
      have HS8 : Hid ((((W.alloc (.cells #[.int .i64 c] 3)).alloc (.cells #[.slice (some ⟨W.heap.size, 0, none⟩) 1 1, .slice (some ⟨wr.heap.size, 0, none⟩) n 7] 40)).drew).rangeAt wr.heap.size 0 X) := range_below hrX2 hb2 (by omega)
      have HSZ : Hid (W.heap.size = wr.heap.size + 1) := hszW
      clear C9 hl1 hlen hb2 HOWN hxX hcx hszW hW0 hcell
      go_wp2_with (first
        | (refine wpList_load_mid rfl 75 _ rfl gO (k * 7) rfl X _ hrM und75 rfl hinX ?_)
        | (refine wpList_store_mid rfl 75 _ _ rfl wr.heap.size 0 X.toArray rfl rfl hthX hinX' honeX ?_; rw [show X.toArray.toList = X from rfl, HW.out]))
      refine wp_region_noPanic ?_
      refine wp_region_held_drew (S := fun w_ => w_.rangeAt wr.heap.size 0 X) (by kernel_rfl) (by exact hrX2) (fun hSx => ?_)
      refine wpAnyH_take (i := 0) (v := .slice (some ⟨w2.heap.size, 0, none⟩) r r) rfl (by kernel_rfl) (by kernel_rfl) (by kernel_rfl) (fun _ _ _ h => h) (Or.inl ⟨by rfl, fun w_ hSw => by clear hSw; go_simp⟩) hSx ?_
      try simp only [Act.put, List.setIfInBounds_toArray]
      refine wpAnyH_take (i := 1) (v := .int .i64 (k : Int)) rfl (by kernel_rfl) (by kernel_rfl) (by kernel_rfl) (fun _ _ _ h => h) (Or.inl ⟨by rfl, fun w_ hSw => by clear hSw; go_simp⟩) hSx ?_
      try simp only [Act.put]
      refine wpAnyH_take (i := 2) (v := .map (some B)) rfl (by kernel_rfl) (by kernel_rfl) (by kernel_rfl) (fun _ _ _ h => h) (Or.inl ⟨by rfl, fun w_ hSw => by clear hSw; go_simp⟩) hSx ?_
      try simp only [Act.put]
      refine wpAnyH_take (i := 3) (v := .agg X.toArray) rfl (by kernel_rfl) (by kernel_rfl) (by kernel_rfl) (fun _ _ _ h => h) (yieldsIf_load_mid (by rfl) 75 _ rfl wr.heap.size 0 rfl X _ (fun _ h => h) und75 rfl hinX) hSx ?_
      try simp only [Act.put]
      refine wpAnyH_take (i := 6) (v := .int .i64 (n : Int)) rfl (by kernel_rfl) (by kernel_rfl) (by kernel_rfl) (fun _ _ _ h => h) (Or.inl ⟨by rfl, fun w_ hSw => by clear hSw; go_simp⟩) hSx ?_
      try simp only [Act.put]
      refine wpAnyH_take (i := 7) (v := .slice (some ⟨wr.heap.size, 0, none⟩) n 7) rfl (by kernel_rfl) (by kernel_rfl) (by kernel_rfl) (fun _ _ _ h => h) (Or.inl ⟨by rfl, fun w_ hSw => by clear hSw; go_simp⟩) hSx ?_
      try simp only [Act.put]
      refine wpAnyH_ready (rs := [4]) (by kernel_rfl) (by simp) ?_
      refine AllReadyH.cons rfl (fun J hJ => ?_) AllReadyH.nil
      go_simp
      refine hJ.out _ _ hSx (fun hS4 => ?_)
      clear hJ J
      try simp only [Act.put, List.setIfInBounds_toArray, List.set_cons_zero, List.set_cons_succ]
      refine wpAnyH_ready (rs := [5]) (by kernel_rfl) (by simp) ?_
      refine AllReadyH.cons rfl (fun J hJ => ?_) AllReadyH.nil
      go_simp
      refine hJ.out _ _ HS5.out (fun hS5 => ?_)
      clear hJ J
      try simp only [Act.put, List.setIfInBounds_toArray, List.set_cons_zero, List.set_cons_succ]
      refine wpAnyH_ready (rs := [8]) (by kernel_rfl) (by simp) ?_
      refine AllReadyH.cons rfl (fun J hJ => ?_) AllReadyH.nil
      go_simp
      refine hJ.out _ _ HS8.out (fun hS8 => ?_)
      clear hJ J
      try simp only [Act.put, List.setIfInBounds_toArray, List.set_cons_zero, List.set_cons_succ]
      refine wpAnyH_ready (rs := [9]) (by kernel_rfl) (by simp) ?_
      refine AllReadyH.cons rfl (fun J hJ => ?_) AllReadyH.nil
      go_simp
      refine C9'.mono ?_
      rintro e w9 ⟨⟨gn, capn, rfl, hgn, hOn⟩, b9⟩
      have hR9 := hRW.below b9
      obtain ⟨v9, hc9, hf9⟩ := hR9.cell hlt
      have hS9 : w9.rangeAt wr.heap.size 0 X := range_below hrX2 b9 (by have := HSZ.out; omega)
      have hgn2 : gn ≠ w2.heap.size := by have := HSZ.out; omega
      have hOl : Own w9 gn (idxR n L x).length (fun q => ((idxR n L x).getD q 0 : Int)) := by
        have e : (idxR n L x).length = n + 1 := by
          have hxl : x.length = 7 := hxs.1
          simp [idxR]
          omega
        rw [e]; exact hOn
      have HR11 : Hid (RowsO (w9.setCell ⟨w2.heap.size, k, none⟩ (.slice (some ⟨gn, 0, none⟩) (n + 1) capn)) w2.heap.size r (A ++ [idxR n L x])) := by
        have h := hR9.store (cap := capn) hAl hlt hOl hgn2
        have e : (idxR n L x).length = n + 1 := by
          have hxl : x.length = 7 := hxs.1
          simp [idxR]
          omega
        rw [e] at h; exact h
      have hS11 : (w9.setCell ⟨w2.heap.size, k, none⟩ (.slice (some ⟨gn, 0, none⟩) (n + 1) capn)).rangeAt wr.heap.size 0 X := fun j z hz => by
        rw [World.cell?_of_block (w := w9) (a := ⟨wr.heap.size, 0 + j, none⟩) (heap_setCell_other w9 _ wr.heap.size _ (by show wr.heap.size ≠ w2.heap.size; have := hR.lt; omega))]
        exact hS9 j z hz
      have HB11 : Hid (Below w2.heap.size w2 (w9.setCell ⟨w2.heap.size, k, none⟩ (.slice (some ⟨gn, 0, none⟩) (n + 1) capn))) := ((hB.trans (hBX.mono hsz)).trans (b9.mono (by have := HSZ.out; omega))).setCell (p := ⟨w2.heap.size, k, none⟩) (Nat.le_refl _) _
      clear hOn hOl hR9 hRW C9'
      refine hJ.out _ _ hS9 (fun hSy => ?_)
      clear hJ J
      try simp only [Act.put, List.setIfInBounds_toArray, List.set_cons_zero, List.set_cons_succ]
      refine wpAnyH_ready (rs := [10]) (by kernel_rfl) (by simp) ?_
      refine AllReadyH.cons rfl (fun J hJ => ?_) AllReadyH.nil
      go_simp
      refine hJ.out _ _ hS9 (fun hSz => ?_)
      clear hJ J
      try simp only [Act.put, List.setIfInBounds_toArray, List.set_cons_zero, List.set_cons_succ]
      refine wpAnyH_ready (rs := [11]) (by kernel_rfl) (by simp) ?_
      refine AllReadyH.cons rfl (fun J hJ => ?_) AllReadyH.nil
      go_simp
      refine hJ.out _ _ hS11 (fun _ => ?_)
      clear hJ J
      try simp only [Act.put, List.setIfInBounds_toArray, List.set_cons_zero, List.set_cons_succ]
      refine wpAnyH_done (by kernel_rfl) ?_ _
      refine NoPanic.normal ?_
      go_wp2
      go_roundw
      case rel =>
        refine ⟨k + 1, A ++ [idxR n L x], by go_num, by omega, HR11.out, ?_, HB11.out⟩
        show _ = _
        rw [HTK.out, HA.out]
      case measure => simp [intOf]; omega
    · have hdec : decide ((k : Int) < r) = false := by simp; omega
      obtain rfl : k = r := by omega
      go_wp2
      go_ret
      have hAM : A = M.map (idxR n L) := by rw [HA.out, List.take_of_length_le (by rw [Hr.out]; omega)]
      refine ⟨⟨_, M, rfl, HK.out, HPW.out, ?_⟩, HB2.out.trans (hB.mono hs2)⟩
      rw [← hAM]
      exact hR.sl (by rw [hAM, List.length_map, Hr.out])

end Go.Proofs.Ytmaplmgecohjbaa

namespace Go.Proofs.Ytmaplmgecohjbaa
open Go.RowKit Go.Shelf Go.Maps

/-- What Index tells: rows by their kinds, the greatest first. -/
def IdxIs (n : Nat) (ms : List (List Nat)) (R : List (List Nat)) : Prop :=
  ∃ L M : List (List Nat), L.Perm ((els n (Gen n ms)).map (kd n)) ∧ M.Nodup ∧ (∀ y, y ∈ M ↔ y ∈ L) ∧ (M.Pairwise fun a b => ¬ LexLt 7 (fun i => a.getD i 0) (fun i => b.getD i 0)) ∧ R = M.map (idxR n L)

set_option maxRecDepth 100000 in
set_option maxHeartbeats 1000000 in
theorem Index_ok (n : Nat) (ms : List (List Nat)) (v : Value) (w : World) (h : Mk n ms v w) :
    Calls Try.prog 15 #[.int .i64 (n : Int), v] w fun e w' => (∃ y R, e = .returned (.tuple #[y, .int .i64 0]) ∧ SlSl w' y R ∧ IdxIs n ms R) ∧ Below w.heap.size w w' := by
  have hn7 := h.n7
  have hn1 := h.n1
  have hbd := gen_bound h.isP hn7 (els_nodup n (Gen n ms)) (fun a => (gen_grp h.isP).mem)
  have C0 := h.check
  have C1 := fun W (b : Below w.heap.size w W) => kindsOf_any n ms v W (h.below b)
  have C3 := fun (L : List (List Nat)) (hp : L.Perm ((els n (Gen n ms)).map (kd n))) (B m : Nat) (D : DataW Unit) (W : World) (ho : W.ownsMap Try.prog 75 (plainElem Try.prog 3) B m D) (hD : KindsIs D L) (hm : m ≤ 6000) =>
    rows_any B m n D L W ho hD (fun y hy => (kinds_sm hn7 hp y hy).1) hm (fun e => by have := hp.length_eq; rw [e, List.length_map] at this; simp at this; omega) (by rw [hp.length_eq, List.length_map]; omega) hn1 hn7
  have HC3 : Hid (∀ (L : List (List Nat)) (hp : L.Perm ((els n (Gen n ms)).map (kd n))) (B m : Nat) (D : DataW Unit) (W : World) (ho : W.ownsMap Try.prog 75 (plainElem Try.prog 3) B m D) (hD : KindsIs D L) (hm : m ≤ 6000), _) := C3
  clear C3 hbd h
  go_enter Try.func15, Try.ntmps15
  go_wp2_with (first
    | (go_at_call 34; refine C0.mono ?_; rintro e w1 ⟨rfl, b1⟩)
    | (go_at_call 35; refine (C1 _ b1).mono ?_; rintro e w2 ⟨B, m, D, L, rfl, hwB, hm, hown, hD, hp, b2⟩; have b2' := Below.next b1 b2; have C4 := HC3.out L hp B m D w2 hown hD (by omega); have HP : Hid (L.Perm ((els n (Gen n ms)).map (kd n))) := hp; clear hp hD)
    | (go_at_call 36; refine C4.mono ?_; rintro e w4 ⟨⟨y, M, rfl, hK, hS, hy⟩, b4⟩; obtain ⟨ya, yc, ey⟩ : ∃ a c, y = .slice a (M.map (idxR n L)).length c := by obtain ⟨a, c, e, _⟩ := hy; exact ⟨a, c, e⟩))
  go_ret2
  have hy' := hy
  rw [ey, List.length_map] at hy'
  exact ⟨⟨_, _, rfl, hy', L, M, HP.out, hK.1, fun z => by rw [hK.2 z]; simp, hS, rfl⟩, Below.next b2' b4⟩

set_option maxHeartbeats 400000 in
theorem Index_bad (n z : Int) (v : Value) (w : World) (C0 : Calls Try.prog 34 #[.int .i64 n, v] w fun e w' => e = .returned (.int .i64 z) ∧ Below w.heap.size w w') (hz : z ≠ 0) :
    Calls Try.prog 15 #[.int .i64 n, v] w fun e w' => e = .returned (.tuple #[.slice none 0 0, .int .i64 z]) ∧ Below w.heap.size w w' := by
  have hzb : (z == 0) = false := by simpa using hz
  go_enter Try.func15, Try.ntmps15
  go_wp2_with (go_at_call 34; refine C0.mono ?_; rintro e w1 ⟨rfl, b1⟩)
  go_ret2
  exact ⟨rfl, b1⟩

end Go.Proofs.Ytmaplmgecohjbaa

/- What the rows of an index make together. -/
namespace Go.Proofs.Ytmaplmgecohjbaa
open Go.RowKit

/-- What a row of the index adds. -/
def rowP (k : Nat) (row : List Nat) : Nat := row.getD 0 0 * k ^ (row.drop 1).sum
/-- How many cycles the row's numbers ahead of place j make. -/
def preE (row : List Nat) (j : Nat) : Nat := ((row.drop 1).take (j - 1)).sum
theorem preE_one (row : List Nat) : preE row 1 = 0 := by simp [preE]
theorem preE_succ {row : List Nat} {j : Nat} (h1 : 1 ≤ j) (h : j < row.length) : preE row (j + 1) = preE row j + row.getD j 0 := by
  unfold preE
  obtain ⟨i, rfl⟩ : ∃ i, j = i + 1 := ⟨j - 1, by omega⟩
  have hi : i < (row.drop 1).length := by rw [List.length_drop]; omega
  rw [show i + 1 + 1 - 1 = i + 1 by omega, show i + 1 - 1 = i by omega, List.take_add_one, List.getElem?_eq_getElem hi, Option.toList_some, List.sum_append, List.sum_cons, List.sum_nil, Nat.add_zero, List.getElem_drop]
  congr 1
  simp [h, Nat.add_comm]
theorem preE_all (row : List Nat) {j : Nat} (h : row.length ≤ j) (h1 : 1 ≤ j) : preE row j = (row.drop 1).sum := by
  unfold preE
  rw [List.take_of_length_le (by rw [List.length_drop]; omega)]
theorem preE_le (row : List Nat) (j : Nat) : preE row j ≤ (row.drop 1).sum := by
  unfold preE
  conv => rhs; rw [← List.take_append_drop (j - 1) (row.drop 1), List.sum_append]
  omega
theorem sum_take_nat {l : List Nat} {i : Nat} (hi : i < l.length) : (l.take (i + 1)).sum = (l.take i).sum + l[i] := by
  rw [List.take_add_one, List.getElem?_eq_getElem hi, Option.toList_some, List.sum_append, List.sum_cons, List.sum_nil, Nat.add_zero]
theorem sum_take_le (l : List Nat) (i : Nat) : (l.take i).sum ≤ l.sum := by
  conv => rhs; rw [← List.take_append_drop i l, List.sum_append]
  omega

theorem perm_nsum {L M : List Nat} (h : L.Perm M) : L.sum = M.sum := by
  induction h with
  | nil => rfl
  | cons x _ ih => rw [List.sum_cons, List.sum_cons, ih]
  | swap x y l => simp only [List.sum_cons]; omega
  | trans _ _ ih1 ih2 => exact ih1.trans ih2
theorem IdxIs.facts {n : Nat} {ms R : List (List Nat)} (hn : n ≤ 7) (h : IdxIs n ms R) : (∀ row ∈ R, row.length = n + 1 ∧ (row.drop 1).sum ≤ 7) ∧ (R.map fun row => row.getD 0 0).sum = ordG n ms ∧ (∀ k, (R.map (rowP k)).sum = powS n k ms) ∧ R.length ≤ (els n (Gen n ms)).length := by
  obtain ⟨L, M, hp, nd, hm, _, rfl⟩ := h
  have hL : ∀ y ∈ M, ∃ a, IsP n a ∧ y = kd n a := fun y hy => by
    obtain ⟨a, ha, rfl⟩ := List.mem_map.1 (hp.mem_iff.1 ((hm y).1 hy))
    exact ⟨a, (mem_els.1 ha).1, rfl⟩
  refine ⟨fun row hr => ?_, ?_, fun k => ?_, ?_⟩
  · obtain ⟨x, hx, rfl⟩ := List.mem_map.1 hr
    obtain ⟨a, ha, rfl⟩ := hL x hx
    refine ⟨by simp [idxR, kd_len]; omega, ?_⟩
    simp only [idxR, List.drop_succ_cons, List.drop_zero, kd_take ha hn]
    exact kd_le ha hn
  · rw [List.map_map]
    have e : (M.map ((fun row : List Nat => row.getD 0 0) ∘ idxR n L)) = M.map fun x => L.count x * 1 := List.map_congr_left fun x _ => by simp [idxR]
    rw [e, count_sum (fun _ => 1) nd (fun y hy => (hm y).2 hy)]
    have : ∀ K : List (List Nat), (K.map fun _ => 1).sum = K.length := by
      intro K
      induction K with
      | nil => rfl
      | cons a K ih => rw [List.map_cons, List.sum_cons, ih, List.length_cons]; omega
    rw [this, hp.length_eq, List.length_map]
    rfl
  · rw [List.map_map]
    have e : (M.map (rowP k ∘ idxR n L)) = M.map fun x => L.count x * k ^ x.sum := List.map_congr_left fun x hx => by
      obtain ⟨a, ha, rfl⟩ := hL x hx
      simp [rowP, idxR, kd_take ha hn]
    rw [e, count_sum (fun x => k ^ x.sum) nd (fun y hy => (hm y).2 hy), perm_nsum (hp.map fun x => k ^ x.sum), List.map_map]
    rfl
  · rw [List.length_map]
    have := nodup_sub_len nd (B := L) fun y hy => (hm y).1 hy
    rw [hp.length_eq, List.length_map] at this
    exact this

end Go.Proofs.Ytmaplmgecohjbaa

/- What Index tells, as rows by their tails; nothing of the program. -/
namespace Go.Proofs.Ytmaplmgecohjbaa

theorem IdxIs.rowsT {n : Nat} {ms R : List (List Nat)} (hn : n ≤ 7) (h : IdxIs n ms R) : ∃ T, TIs n (ktL n ms) T ∧ R = rowsT (ktL n ms) T := by
  obtain ⟨L, M, hp, nd, hm, hs, rfl⟩ := h
  have hL : ∀ y ∈ M, ∃ a, IsP n a ∧ y = kd n a := fun y hy => by
    obtain ⟨a, ha, rfl⟩ := List.mem_map.1 (hp.mem_iff.1 ((hm y).1 hy))
    exact ⟨a, (mem_els.1 ha).1, rfl⟩
  have hmm : ∀ y, y ∈ M ↔ y ∈ (els n (Gen n ms)).map (kd n) := fun y => (hm y).trans hp.mem_iff
  have e0 : ktL n ms = ((els n (Gen n ms)).map (kd n)).map (List.take n) := by unfold ktL; rw [List.map_map]; rfl
  refine ⟨M.map (List.take n), ⟨?_, fun y => ?_, fun y hy => ?_⟩, ?_⟩
  · rw [List.pairwise_map]
    have h2 : M.Pairwise fun a b => a ≠ b ∧ ¬ LexLt 7 (fun i => a.getD i 0) (fun i => b.getD i 0) := nd.and hs
    refine List.Pairwise.imp_of_mem (fun {a b} ha hb hab => ?_) h2
    obtain ⟨x, hx, rfl⟩ := hL a ha
    obtain ⟨y, hy, rfl⟩ := hL b hb
    refine kt_lt hx (Classical.byContradiction fun e => hab.1 ?_)
    exact ltT_total (n := 7) (kd_len _ _) (kd_len _ _) hab.2 e
  · rw [e0, List.mem_map, List.mem_map]
    simp only [hmm]
  · obtain ⟨a, _, rfl⟩ := List.mem_map.1 hy
    exact kt_len hn a
  · unfold Go.Proofs.Ytmaplmgecohjbaa.rowsT
    rw [List.map_map]
    refine List.map_congr_left fun x hx => ?_
    show L.count x :: x.take n = _
    obtain ⟨a, ha, rfl⟩ := hL x hx
    simp only [Function.comp_apply]
    rw [e0, count_on (f := List.take n), hp.count_eq]
    intro y hy e
    obtain ⟨b, hb, rfl⟩ := List.mem_map.1 hy
    exact kt_inj (mem_els.1 hb).1 ha e

end Go.Proofs.Ytmaplmgecohjbaa

namespace Go.Proofs.Ytmaplmgecohjbaa
open Go.RowKit

set_option maxRecDepth 100000 in
set_option maxHeartbeats 4000000 in
theorem law4_bad (n k : Int) (ls : List (List Int)) (v : Value) (w : World) (hv : Came ls v w) (h0 : gF n ls ≠ 0) :
    Calls Try.prog 4 #[.int .i64 n, v, .int .i64 k] w fun e w' => e = .returned (.bool true) ∧ Below w.heap.size w w' := by
  obtain ⟨z, Hz⟩ : ∃ z, Hid (gF n ls = z) := ⟨_, rfl⟩
  have hz : z ≠ 0 := by rw [← Hz.out]; exact h0
  have C9 := GroupFault_any n ls v w hv.sls hv.each hv.len
  have CG := fun W (h : Below w.heap.size w W) => GCheck_any n ls v W (hv.below h).sls hv.each hv.len
  rw [Hz.out] at C9 CG
  have C15 := fun W (h : Below w.heap.size w W) => Index_bad n z v W (CG W h) hz
  have C20 := fun W (h : Below w.heap.size w W) => Colourings_bad n k z v W (CG W h) hz
  have hzd : (z == 0) = false := by simpa using hz
  have hzn : (z != 0) = true := by simpa using hz
  clear hv h0 CG
  go_enter Try.func4, Try.ntmps4
  go_wp2_with (first
    | (go_at_call 14; refine C9.mono ?_; rintro e w1 ⟨rfl, b1⟩)
    | (go_at_call 15; refine (C15 _ b1).mono ?_; rintro e w2 ⟨rfl, b2⟩; replace b2 := Below.next b1 b2)
    | (go_at_call 20; refine (C20 _ b2).mono ?_; rintro e w3 ⟨rfl, b3⟩))
  go_ret
  exact ⟨rfl, Below.next b2 b3⟩

theorem IndexOf_any (n : Nat) (ms : List (List Nat)) (lv : Value) (w : World) (hn1 : 1 ≤ n) (hn7 : n ≤ 7) (hlen : (els n (Gen n ms)).length ≤ 5040) (hv : SlSl w lv (els n (Gen n ms))) :
    Calls Try.prog 18 #[.int .i64 (n : Int), lv] w fun e w' => (∃ x T, e = .returned x ∧ TIs n (ktL n ms) T ∧ SlSl w' x (rowsT (ktL n ms) T)) ∧ Below w.heap.size w w' :=
  IndexOf_list n _ lv w hn1 hn7 (fun _ ha => (mem_els.1 ha).1) hlen hv
theorem idx_same {n : Nat} {ms R T : List (List Nat)} (hn : n ≤ 7) (h : IdxIs n ms R) (hT : TIs n (ktL n ms) T) : rowsT (ktL n ms) T = R := by
  obtain ⟨T', hT', rfl⟩ := h.rowsT hn
  rw [hT.one hT' fun _ => Iff.rfl]
theorem gen_len7 {n : Nat} {ms : List (List Nat)} {v : Value} {w : World} (h : Mk n ms v w) : (els n (Gen n ms)).length ≤ 5040 := by
  have hbd := gen_bound h.isP h.n7 (els_nodup n (Gen n ms)) (fun a => (gen_grp h.isP).mem)
  omega

set_option maxRecDepth 100000 in
set_option maxHeartbeats 4000000 in
theorem law4_far (n : Nat) (k : Int) (ms : List (List Nat)) (v : Value) (w : World) (hM : Mk n ms v w) (hk : k < 1 ∨ 200 < k) :
    Calls Try.prog 4 #[.int .i64 (n : Int), v, .int .i64 k] w fun e w' => e = .returned (.bool true) ∧ Below w.heap.size w w' := by
  have hn7 := hM.n7
  have hn1 := hM.n1
  have C9 := GroupFault_any n _ v w hM.sl.sls (hM.each) (hM.lenI)
  rw [gF_isP hM.n1 hM.n7 hM.len hM.isP] at C9
  have C15 := fun W (h : Below w.heap.size w W) => Index_ok n ms v W (hM.below h)
  obtain ⟨z, Hz⟩ : ∃ z, Hid (z = fac n) := ⟨_, rfl⟩
  have C16 := fun W (h : Below w.heap.size w W) => Members_any n ms v W hM.n7 hM.n1 (by have := hM.len; omega) (hM.below h).sl hM.isP
  have C17 : Hid (∀ (g : Nat) (L : List (List Nat)) (W : World) (_ : OwnB W g z (inB n L)) (_ : ∀ a, a ∈ L ↔ Gen n ms a), Calls Try.prog 17 #[.int .i64 (n : Int), .slice (some ⟨g, 0, none⟩) z z] W fun e w' => (∃ v, e = .returned v ∧ CycR w' W.heap.size v (els n (Gen n ms))) ∧ Below W.heap.size W w') := by
    rw [Hz.out]
    intro g L W hO hG
    have h := ListOf_any n g (inB n L) W hn7 hn1 hO
    rw [listF_els hG] at h
    exact h
  rw [← Hz.out] at C16
  have C20 := fun W (h : Below w.heap.size w W) => Colourings_far n k ms v W (hM.below h) hk
  have HM : Hid (Mk n ms v w) := hM
  clear hM
  rcases (show k < 1 ∨ (¬ k < 1 ∧ 200 < k) by omega) with hk1 | ⟨hk0, hk1⟩
  · have hd1 : decide (k < 1) = true := by simpa using hk1
    clear hk
    go_enter Try.func4, Try.ntmps4
    go_wp2_with (first
      | (go_at_call 14; refine C9.mono ?_; rintro e w1 ⟨rfl, b1⟩)
      | (go_at_call 15; refine (C15 _ b1).mono ?_; rintro e w2 ⟨⟨y, R, rfl, hy, hI⟩, b2⟩; replace b2 := Below.next b1 b2; have HI : Hid (IdxIs n ms R) := hI; have HY : Hid (SlSl w2 y R) := hy; obtain ⟨ya, yn, yc, hye⟩ : ∃ a m c, y = .slice a m c := (by obtain ⟨a, c, e, _⟩ := hy; exact ⟨a, _, c, e⟩); subst hye; clear hI hy)
      | (go_at_call 16; refine (C16 _ b2).mono ?_; rintro e w3 ⟨⟨g, L, rfl, hg, hO, hG⟩, b3⟩; have HY3 : Hid (SlSl w3 (.slice ya yn yc) R) := HY.out.below b3; replace b3 := Below.next b2 b3; have C17' := C17.out g L w3 hO hG; clear HY hO hG hg)
      | (go_at_call 17; refine C17'.mono ?_; rintro e w4 ⟨⟨lv, rfl, hcy⟩, b4⟩; have HY4 : Hid (SlSl w4 (.slice ya yn yc) R) := HY3.out.below b4; replace b4 := Below.next b3 b4; have C18 := IndexOf_any n ms lv w4 hn1 hn7 (gen_len7 HM.out) hcy.sl; obtain ⟨la, ln, lc, hle⟩ : ∃ a m c, lv = .slice a m c := (by obtain ⟨a, c, e⟩ := hcy.form; exact ⟨a, _, c, e⟩); subst hle; clear hcy HY3 C17')
      | (go_at_call 18; refine C18.mono ?_; rintro e w5 ⟨⟨x, T, rfl, hT, hx⟩, b5⟩; have hy5 := HY4.out.below b5; replace b5 := Below.next b4 b5; rw [idx_same hn7 HI.out hT] at hx; have C19 := Lists_wide R _ _ _ hy5 hx (fun m hm => by have := ((HI.out).facts hn7).1 m hm; omega) (by have := ((HI.out).facts hn7).2.2.2; have := gen_len7 HM.out; omega); obtain ⟨xa, xn, xc, hxe⟩ : ∃ a m c, x = .slice a m c := (by obtain ⟨a, c, e, _⟩ := hx; exact ⟨a, _, c, e⟩); subst hxe; clear hx hy5 hT C18 HY4)
      | (go_at_call 19; refine C19.mono ?_; rintro e w6 ⟨rfl, b6⟩; replace b6 := Below.next b5 b6)
      | (go_at_call 20; refine (C20 _ b6).mono ?_; rintro e w7 ⟨rfl, b7⟩))
    go_ret
    exact ⟨rfl, Below.next b6 b7⟩
  · have hd1 : decide (k < 1) = false := by simpa using hk0
    have hd2 : decide (200 < k) = true := by simpa using hk1
    clear hk
    go_enter Try.func4, Try.ntmps4
    go_wp2_with (first
      | (go_at_call 14; refine C9.mono ?_; rintro e w1 ⟨rfl, b1⟩)
      | (go_at_call 15; refine (C15 _ b1).mono ?_; rintro e w2 ⟨⟨y, R, rfl, hy, hI⟩, b2⟩; replace b2 := Below.next b1 b2; have HI : Hid (IdxIs n ms R) := hI; have HY : Hid (SlSl w2 y R) := hy; obtain ⟨ya, yn, yc, hye⟩ : ∃ a m c, y = .slice a m c := (by obtain ⟨a, c, e, _⟩ := hy; exact ⟨a, _, c, e⟩); subst hye; clear hI hy)
      | (go_at_call 16; refine (C16 _ b2).mono ?_; rintro e w3 ⟨⟨g, L, rfl, hg, hO, hG⟩, b3⟩; have HY3 : Hid (SlSl w3 (.slice ya yn yc) R) := HY.out.below b3; replace b3 := Below.next b2 b3; have C17' := C17.out g L w3 hO hG; clear HY hO hG hg)
      | (go_at_call 17; refine C17'.mono ?_; rintro e w4 ⟨⟨lv, rfl, hcy⟩, b4⟩; have HY4 : Hid (SlSl w4 (.slice ya yn yc) R) := HY3.out.below b4; replace b4 := Below.next b3 b4; have C18 := IndexOf_any n ms lv w4 hn1 hn7 (gen_len7 HM.out) hcy.sl; obtain ⟨la, ln, lc, hle⟩ : ∃ a m c, lv = .slice a m c := (by obtain ⟨a, c, e⟩ := hcy.form; exact ⟨a, _, c, e⟩); subst hle; clear hcy HY3 C17')
      | (go_at_call 18; refine C18.mono ?_; rintro e w5 ⟨⟨x, T, rfl, hT, hx⟩, b5⟩; have hy5 := HY4.out.below b5; replace b5 := Below.next b4 b5; rw [idx_same hn7 HI.out hT] at hx; have C19 := Lists_wide R _ _ _ hy5 hx (fun m hm => by have := ((HI.out).facts hn7).1 m hm; omega) (by have := ((HI.out).facts hn7).2.2.2; have := gen_len7 HM.out; omega); obtain ⟨xa, xn, xc, hxe⟩ : ∃ a m c, x = .slice a m c := (by obtain ⟨a, c, e, _⟩ := hx; exact ⟨a, _, c, e⟩); subst hxe; clear hx hy5 hT C18 HY4)
      | (go_at_call 19; refine C19.mono ?_; rintro e w6 ⟨rfl, b6⟩; replace b6 := Below.next b5 b6)
      | (go_at_call 20; refine (C20 _ b6).mono ?_; rintro e w7 ⟨rfl, b7⟩))
    go_ret
    exact ⟨rfl, Below.next b6 b7⟩

set_option maxRecDepth 100000 in
set_option maxHeartbeats 4000000 in
theorem law4_ok (n k : Nat) (ms : List (List Nat)) (v : Value) (w : World) (hM : Mk n ms v w) (hk1 : 1 ≤ k) (hk2 : k ≤ 200) :
    Calls Try.prog 4 #[.int .i64 (n : Int), v, .int .i64 (k : Int)] w fun e w' => e = .returned (.bool true) ∧ Below w.heap.size w w' := by
  have hn7 := hM.n7
  have hn1 := hM.n1
  have C9 := GroupFault_any n _ v w hM.sl.sls (hM.each) (hM.lenI)
  rw [gF_isP hM.n1 hM.n7 hM.len hM.isP] at C9
  have C15 := fun W (h : Below w.heap.size w W) => Index_ok n ms v W (hM.below h)
  obtain ⟨z, Hz⟩ : ∃ z, Hid (z = fac n) := ⟨_, rfl⟩
  have C16 := fun W (h : Below w.heap.size w W) => Members_any n ms v W hM.n7 hM.n1 (by have := hM.len; omega) (hM.below h).sl hM.isP
  have C17 : Hid (∀ (g : Nat) (L : List (List Nat)) (W : World) (_ : OwnB W g z (inB n L)) (_ : ∀ a, a ∈ L ↔ Gen n ms a), Calls Try.prog 17 #[.int .i64 (n : Int), .slice (some ⟨g, 0, none⟩) z z] W fun e w' => (∃ v, e = .returned v ∧ CycR w' W.heap.size v (els n (Gen n ms))) ∧ Below W.heap.size W w') := by
    rw [Hz.out]
    intro g L W hO hG
    have h := ListOf_any n g (inB n L) W hn7 hn1 hO
    rw [listF_els hG] at h
    exact h
  rw [← Hz.out] at C16
  have C20 := fun W (h : Below w.heap.size w W) => Colourings_ok n k ms v W (hM.below h) hk1 hk2
  have C21 := fun W (h : Below w.heap.size w W) (h3 : k ≤ 3) => ColouringsOf_any n k ms v W (hM.below h) hk1 h3
  have HM : Hid (Mk n ms v w) := hM
  clear hM
  obtain ⟨q, Hq⟩ : ∃ q, Hid (colG n k ms = q) := ⟨_, rfl⟩
  rw [Hq.out] at C20 C21
  have hd1 : decide ((k : Int) < 1) = false := by simp; omega
  have hd2 : decide (200 < (k : Int)) = false := by simp; omega
  by_cases h3 : k ≤ 3
  · have hd3 : decide (3 < (k : Int)) = false := by simp; omega
    have hqq : ((q : Int) == (q : Int)) = true := by simp
    replace C21 := fun W h => C21 W h h3
    go_enter Try.func4, Try.ntmps4
    go_wp2_with (first
      | (go_at_call 14; refine C9.mono ?_; rintro e w1 ⟨rfl, b1⟩)
      | (go_at_call 15; refine (C15 _ b1).mono ?_; rintro e w2 ⟨⟨y, R, rfl, hy, hI⟩, b2⟩; replace b2 := Below.next b1 b2; have HI : Hid (IdxIs n ms R) := hI; have HY : Hid (SlSl w2 y R) := hy; obtain ⟨ya, yn, yc, hye⟩ : ∃ a m c, y = .slice a m c := (by obtain ⟨a, c, e, _⟩ := hy; exact ⟨a, _, c, e⟩); subst hye; clear hI hy)
      | (go_at_call 16; refine (C16 _ b2).mono ?_; rintro e w3 ⟨⟨g, L, rfl, hg, hO, hG⟩, b3⟩; have HY3 : Hid (SlSl w3 (.slice ya yn yc) R) := HY.out.below b3; replace b3 := Below.next b2 b3; have C17' := C17.out g L w3 hO hG; clear HY hO hG hg)
      | (go_at_call 17; refine C17'.mono ?_; rintro e w4 ⟨⟨lv, rfl, hcy⟩, b4⟩; have HY4 : Hid (SlSl w4 (.slice ya yn yc) R) := HY3.out.below b4; replace b4 := Below.next b3 b4; have C18 := IndexOf_any n ms lv w4 hn1 hn7 (gen_len7 HM.out) hcy.sl; obtain ⟨la, ln, lc, hle⟩ : ∃ a m c, lv = .slice a m c := (by obtain ⟨a, c, e⟩ := hcy.form; exact ⟨a, _, c, e⟩); subst hle; clear hcy HY3 C17')
      | (go_at_call 18; refine C18.mono ?_; rintro e w5 ⟨⟨x, T, rfl, hT, hx⟩, b5⟩; have hy5 := HY4.out.below b5; replace b5 := Below.next b4 b5; rw [idx_same hn7 HI.out hT] at hx; have C19 := Lists_wide R _ _ _ hy5 hx (fun m hm => by have := ((HI.out).facts hn7).1 m hm; omega) (by have := ((HI.out).facts hn7).2.2.2; have := gen_len7 HM.out; omega); obtain ⟨xa, xn, xc, hxe⟩ : ∃ a m c, x = .slice a m c := (by obtain ⟨a, c, e, _⟩ := hx; exact ⟨a, _, c, e⟩); subst hxe; clear hx hy5 hT C18 HY4)
      | (go_at_call 19; refine C19.mono ?_; rintro e w6 ⟨rfl, b6⟩; replace b6 := Below.next b5 b6)
      | (go_at_call 20; refine (C20 _ b6).mono ?_; rintro e w7 ⟨rfl, b7⟩)
      | (go_at_call 21; refine (C21 _ (Below.next b6 b7)).mono ?_; rintro e w8 ⟨rfl, b8⟩))
    go_ret
    exact ⟨rfl, Below.next (Below.next b6 b7) b8⟩
  · have hd3 : decide (3 < (k : Int)) = true := by simp; omega
    clear C21
    go_enter Try.func4, Try.ntmps4
    go_wp2_with (first
      | (go_at_call 14; refine C9.mono ?_; rintro e w1 ⟨rfl, b1⟩)
      | (go_at_call 15; refine (C15 _ b1).mono ?_; rintro e w2 ⟨⟨y, R, rfl, hy, hI⟩, b2⟩; replace b2 := Below.next b1 b2; have HI : Hid (IdxIs n ms R) := hI; have HY : Hid (SlSl w2 y R) := hy; obtain ⟨ya, yn, yc, hye⟩ : ∃ a m c, y = .slice a m c := (by obtain ⟨a, c, e, _⟩ := hy; exact ⟨a, _, c, e⟩); subst hye; clear hI hy)
      | (go_at_call 16; refine (C16 _ b2).mono ?_; rintro e w3 ⟨⟨g, L, rfl, hg, hO, hG⟩, b3⟩; have HY3 : Hid (SlSl w3 (.slice ya yn yc) R) := HY.out.below b3; replace b3 := Below.next b2 b3; have C17' := C17.out g L w3 hO hG; clear HY hO hG hg)
      | (go_at_call 17; refine C17'.mono ?_; rintro e w4 ⟨⟨lv, rfl, hcy⟩, b4⟩; have HY4 : Hid (SlSl w4 (.slice ya yn yc) R) := HY3.out.below b4; replace b4 := Below.next b3 b4; have C18 := IndexOf_any n ms lv w4 hn1 hn7 (gen_len7 HM.out) hcy.sl; obtain ⟨la, ln, lc, hle⟩ : ∃ a m c, lv = .slice a m c := (by obtain ⟨a, c, e⟩ := hcy.form; exact ⟨a, _, c, e⟩); subst hle; clear hcy HY3 C17')
      | (go_at_call 18; refine C18.mono ?_; rintro e w5 ⟨⟨x, T, rfl, hT, hx⟩, b5⟩; have hy5 := HY4.out.below b5; replace b5 := Below.next b4 b5; rw [idx_same hn7 HI.out hT] at hx; have C19 := Lists_wide R _ _ _ hy5 hx (fun m hm => by have := ((HI.out).facts hn7).1 m hm; omega) (by have := ((HI.out).facts hn7).2.2.2; have := gen_len7 HM.out; omega); obtain ⟨xa, xn, xc, hxe⟩ : ∃ a m c, x = .slice a m c := (by obtain ⟨a, c, e, _⟩ := hx; exact ⟨a, _, c, e⟩); subst hxe; clear hx hy5 hT C18 HY4)
      | (go_at_call 19; refine C19.mono ?_; rintro e w6 ⟨rfl, b6⟩; replace b6 := Below.next b5 b6)
      | (go_at_call 20; refine (C20 _ b6).mono ?_; rintro e w7 ⟨rfl, b7⟩))
    go_ret
    exact ⟨rfl, Below.next b6 b7⟩

theorem CountColours_law (n k : Int) (ls : List (List Int)) (v : Value) (w : World) (_h : (Lit.int .i64 n).wf = true) (_h2 : (Lit.int .i64 k).wf = true) (hv : Came ls v w) :
    Calls Try.prog 4 #[.int .i64 n, v, .int .i64 k] w fun e w' => e = .returned (.bool true) ∧ Below w.heap.size w w' := by
  by_cases h0 : gF n ls = 0
  · obtain ⟨m, ms, rfl, hM, _⟩ := hv.mk' h0
    by_cases hk : k < 1 ∨ 200 < k
    · exact law4_far m k ms v w hM hk
    · obtain ⟨q, rfl⟩ : ∃ q : Nat, k = q := ⟨k.toNat, by omega⟩
      exact law4_ok m q ms v w hM (by omega) (by omega)
  · exact law4_bad n k ls v w hv h0

end Go.Proofs.Ytmaplmgecohjbaa
