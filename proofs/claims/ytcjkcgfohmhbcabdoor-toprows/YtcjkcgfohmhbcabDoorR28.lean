/- The walk of run: the first n numbers of a row. -/
import Derived.RangeFuncNested
import Derived.RangeFuncBox
import Derived.RangeFuncLeaves
import Derived.Test.YtcjkcgfohmhbcabDoorR27
import Derived.RangeFuncBound
import Derived.RangeFuncCalls
import Derived.Shelf.Abstract
import Derived.Shelf.RegionOpen
import Derived.OwnWalkIn
import Derived.TacticsInMore
import Derived.LoopNIn
import Derived.LoopIn
import Derived.Stop.RegionWithIn
import Derived.Maps.AppendAt
/- A range over a function that has no end of its own: whoever ranges over it leaves it ahead of round N. One law for such a loop, over a contract of the iterator that names its rounds by their numbers. -/
namespace Go.Proofs.YtcjkcgfohmhbcabDoor.Rc
open Go.RowKit

/-- What lies in these blocks lies there as it lay. -/
def Same (S : Nat → Prop) (A B : World) : Prop := ∀ b, S b → B.heap[b]? = A.heap[b]?
theorem Same.refl (S : Nat → Prop) (A : World) : Same S A A := fun _ _ => rfl
theorem Same.trans {S : Nat → Prop} {A B C : World} (h : Same S A B) (k : Same S B C) : Same S A C := fun b hb => (k b hb).trans (h b hb)
theorem Same.put {S : Nat → Prop} {n : Nat} (hS : ∀ b, S b → b < n) (A : World) {l : Nat} (o : Obj) (hl : n ≤ l) : Same S A (A.putObj l o) :=
  fun b hb => World.putObj_heap_other (by have := hS b hb; omega)

/-- The iterator g, with what it has captured: its round number i is handed enc i; it asks that rounds leave the blocks of S alone, and that no more than N rounds come. -/
def Goes (n : Nat) (P : Program) (g : Nat) (lb : Array Value) (enc : Nat → Array Value) (S : Nat → Prop) (N : Nat) (w : World) : Prop :=
  ∀ (l : Nat) (J Jx : Nat → World → Prop) (W : World), Below w.heap.size w W → (∀ i A B, J i A → Below A.heap.size A B → J i B) → (∀ i A, J i A → i < N) →
    (∀ i A, J i A → YieldAt Fence.wide (n - 1) P l (enc i) A fun e B => (e = .returned (.bool true) ∧ J (i + 1) B ∧ Same S A B) ∨ (e = .returned (.bool false) ∧ Jx i B)) →
    J 0 W → CallsIn Fence.wide n P g (#[.func (.yield l) #[] #[]] ++ lb) W fun e B => (∃ v, e = .returned v) ∧ ∃ i, Jx i B

/-- How a round of the caller's may end: it goes on to the next, or it leaves by a jump. -/
def roundEnds (S : Nat → Prop) (I : Nat → World → Prop) (Ix : Code → Nat → World → Prop) (i : Nat) (W : World) : Exit → Act → World → Prop
  | .normal, _, W' => KeepsOthers W W' ∧ Same S W W' ∧ I (i + 1) W'
  | .ret, _, W' => KeepsOthers W W' ∧ Ix .ret i W'
  | .exit id, _, W' => KeepsOthers W W' ∧ Ix (.exit id) i W'
  | _, _, _ => False

theorem grown_of_below {A B : World} (h : Below A.heap.size A B) : A.grownBy B none := ⟨h.os, h.tape, h.output, h.size, fun k hk _ => h.block k hk⟩

theorem wpIn_goes {n : Nat} {P : Program} {g : Operand} {ps : Array Tmp} {assign body : Code} {Q : Exit → Act → World → Prop} {a : Act} {w : World} {gf : Nat} {lb : Array Value}
    (hg : a.eval g = .func (.func gf) #[] lb) (eg : ∀ args w, (callFunc gf args).run P w = .ok (.enter gf args) w) {enc : Nat → Array Value} {S : Nat → Prop} {N : Nat}
    (hS : ∀ b, S b → b < w.heap.size) (hseq : Goes (n - 1) P gf lb enc S N w) (hps : ∀ i, (enc i).size = ps.size)
    (I : Nat → World → Prop) (Ix : Code → Nat → World → Prop) (hI : OwnFrom w.heap.size I) (hIx : ∀ c, OwnFrom w.heap.size (Ix c)) (hN : ∀ i A, I i A → i < N) (h0 : I 0 w) (a₁ : Nat → Act)
    (hassign : ∀ (l i : Nat) (W : World) (K : Act → World → Prop), K (a₁ i) W →
      assign.wpIn (Fence.wide.inRound l) (n - 1 - 1) P (Exit.then K (fun _ _ _ => False)) { tmps := (ps.zip (enc i)).foldl (fun t (p, v) => t.setIfInBounds p v) a.tmps, defers := [] } W)
    (hbody : ∀ (l i : Nat) (W : World), I i W → body.wpIn (Fence.wide.inRound l) (n - 1 - 1) P (roundEnds S I Ix i W) (a₁ i) W)
    (hstop : ∀ (D : Nat) (c : Code) (i : Nat) (W : World), w.heap.size ≤ D → Ix c i W → W.heap[D]? = some (.deferred (some [])) → c.wpIn Fence.wide n P Q { a with defers := { target := .collected D, args := #[] } :: a.defers } W) :
    (Code.rangeFunc g ps assign body).wpIn Fence.wide n P Q a w := by
  refine wpIn_rangeFunc fun fn hfn => ?_
  obtain ⟨D, hD⟩ : ∃ D, D = w.heap.size := ⟨_, rfl⟩
  obtain ⟨lp, hlp⟩ : ∃ lp : LoopState → Option Code → Obj, lp = fun st pe => .loop { state := st, pending := pe, fn, tmps := a.tmps, params := ps, assign, body, defers := D } := ⟨_, rfl⟩
  -- the world that the loop begins in: the block of deferred calls, the loop's own record
  obtain ⟨V, hV⟩ : ∃ V, V = (w.alloc (.deferred (some []))).alloc (lp .ready none) := ⟨_, rfl⟩
  have sV : V.heap.size = D + 2 := by rw [hV, hD]; simp
  have bV : Below w.heap.size w V := by rw [hV]; exact ((Below.refl _ w).alloc (Nat.le_refl _) _).alloc (by simp) _
  have rV : V.heap[D + 1]? = some (lp .ready none) := by
    have h := World.alloc_heap_new (w.alloc (.deferred (some []))) (lp .ready none)
    rw [World.size_alloc] at h
    rw [hV, hD]; exact h
  have dV : V.heap[D]? = some (.deferred (some [])) := by
    rw [hV, hD]; exact (Below.heap_alloc _ _ _ (by simp)).trans (World.alloc_heap_new w _)
  refine ⟨D + 1, [{ target := .collected D, args := #[] }], V, { target := .fn (.func gf) lb, args := #[.func (.yield (D + 1)) #[] #[]] }, V, gf, #[.func (.yield (D + 1)) #[] #[]] ++ lb, V, ?_, ?_, fun _ _ => trivial, ?_, (fun h => by cases h), ?_⟩
  · rw [hV, hlp, hD]; exact run_enterLoop_outer _ _ _ _ _
  · simp only [resolve, hg]
    simp [go_sem]
  · simp [invoke, go_sem, eg]
  · refine (hseq (D + 1) (fun i A => I i A ∧ A.heap[D + 1]? = some (lp .ready none) ∧ A.heap[D]? = some (.deferred (some [])))
      (fun i A => ∃ c, Ix c i A ∧ A.heap[D + 1]? = some (lp .done (some c)) ∧ A.heap[D]? = some (.deferred (some []))) V bV ?_ (fun i A h => hN i A h.1) ?_ ⟨?_, rV, dV⟩).mono ?_
    · rintro i A B ⟨h1, h2, h3⟩ hb
      exact ⟨hI i A B none h1 (grown_of_below hb) (fun _ e => by cases e), (hb.block _ (Array.getElem?_eq_some_iff.1 h2).1).trans h2, (hb.block _ (Array.getElem?_eq_some_iff.1 h3).1).trans h3⟩
    · -- one round
      rintro i A ⟨hi, hl, hk⟩
      have hlt : D + 1 < A.heap.size := (Array.getElem?_eq_some_iff.1 hl).1
      have hy := run_yield (P := P) (args := enc i) (by rw [hlp] at hl; exact hl) (hps i)
      obtain ⟨busy, hbusy⟩ : ∃ o, o = Obj.loop { state := .busy, pending := none, fn, tmps := a.tmps, params := ps, assign, body, defers := D } := ⟨_, rfl⟩
      have hbeg := run_beginRound (P := P) (by rw [hlp] at hl; exact hl) rfl
      refine ⟨fn, _, assign, body, hy, roundIn_of_wpIn hfn (hassign _ i A _ ⟨_, hbeg, ?_⟩)⟩
      rw [show (Obj.loop { state := .busy, pending := none, fn, tmps := a.tmps, params := ps, assign, body, defers := D }) = busy from hbusy.symm]
      have hl2 : (A.putObj (D + 1) busy).heap[D + 1]? = some busy := World.putObj_heap_same hlt
      have hk2 : (A.putObj (D + 1) busy).heap[D]? = some (.deferred (some [])) := (World.putObj_heap_other (by omega)).trans hk
      have hob : busy.isCells = false := by rw [hbusy]; rfl
      refine wpIn_mono (hbody _ i _ (hI.putObj _ hi (by omega) hl (by rw [hlp]; rfl))) ?_
      -- what the round's end does with the record
      have fin : ∀ (jump : Option Code) (B : World), KeepsOthers (A.putObj (D + 1) busy) B →
          (Instr.endRound (D + 1) jump).run P B = .ok (.bool jump.isNone) (B.putObj (D + 1) (lp (if jump.isNone then .ready else .done) jump)) ∧ B.heap[D + 1]? = some busy ∧
          (B.putObj (D + 1) (lp (if jump.isNone then .ready else .done) jump)).heap[D + 1]? = some (lp (if jump.isNone then .ready else .done) jump) ∧
          (B.putObj (D + 1) (lp (if jump.isNone then .ready else .done) jump)).heap[D]? = some (.deferred (some [])) := by
        intro jump B hB
        have hl3 := hB.same _ _ hl2 hob
        refine ⟨?_, hl3, World.putObj_heap_same (Array.getElem?_eq_some_iff.1 hl3).1, (World.putObj_heap_other (by omega)).trans (hB.same _ _ hk2 rfl)⟩
        rw [hbusy] at hl3
        have he := run_endRound (P := P) jump hl3
        rw [hlp]; exact he
      rintro e a3 B hp
      cases e with
      | normal =>
        obtain ⟨h1, h2, h3⟩ := hp
        obtain ⟨r1, r2, r3, r4⟩ := fin none B h1
        exact ⟨_, _, r1, .inl ⟨rfl, ⟨hI.putObj _ h3 (by omega) r2 hob, r3, r4⟩, ((Same.put hS A busy (by omega)).trans h2).trans (Same.put hS B _ (by omega))⟩⟩
      | ret =>
        obtain ⟨h1, h2⟩ := hp
        obtain ⟨r1, r2, r3, r4⟩ := fin (some .ret) B h1
        exact ⟨_, _, r1, .inr ⟨rfl, .ret, (hIx _).putObj _ h2 (by omega) r2 hob, r3, r4⟩⟩
      | exit id =>
        obtain ⟨h1, h2⟩ := hp
        obtain ⟨r1, r2, r3, r4⟩ := fin (some (.exit id)) B h1
        exact ⟨_, _, r1, .inr ⟨rfl, .exit id, (hIx _).putObj _ h2 (by omega) r2 hob, r3, r4⟩⟩
      | goto t => exact hp.elim
      | panic ch => exact hp.elim
      | outgrown => exact hp.elim
    · exact hI 0 w V none h0 (grown_of_below bV) (fun _ e => by cases e)
    · -- behind the iterator
      rintro e B ⟨⟨v, rfl⟩, i, c, hi, hl, hk⟩
      rw [hlp] at hl
      exact ⟨some c, _, run_endLoop (P := P) hl (by simp), hstop D c i _ (by omega) ((hIx c).putObj _ hi (by omega) hl rfl) ((World.putObj_heap_other (by omega)).trans hk)⟩

end Go.Proofs.YtcjkcgfohmhbcabDoor.Rc

/- The walks of begin where something is wrong, of states and behind. -/
namespace Go.Proofs.YtcjkcgfohmhbcabDoor.Rc
open Go.RowKit

set_option maxHeartbeats 600000 in
theorem states_any (P k : Nat) (a : Option Addr) (cap : Nat) (w : World) (hp : 2 ≤ P) (hp' : P ≤ 7) (hk : k ≤ 8) :
    Calls Tryd.prog 20 #[.agg #[.int .i64 P, .slice a k cap]] w fun e w' => e = .returned (.int .i64 ((P : Int) ^ k)) ∧ Below w.heap.size w w' := by
  have hB0 := balloc w (.cells #[.int .i64 P, .slice a k cap] 51)
  have hk9 : k ≤ 9223372036854775807 := by omega
  go_enter Tryd.func20, Tryd.ntmps20
  go_wp2_with (go_at_call 16; refine (power_any P k _ hp hp' hk).mono ?_; rintro e w' ⟨rfl, rfl⟩)
  go_ret
  exact ⟨rfl, hB0⟩

set_option maxHeartbeats 1000000 in
theorem behind_any (P k : Nat) (l : List Int) (v : Value) (f : Nat → Int) (x : Int) (w : World) (hl : Sl w v l) (hk' : l.length = k) (hp : 2 ≤ P) (hp' : P ≤ 7) (hk : k ≤ 8) (hb : belB P l = true) (hf : digs P f) (hx : x = numP P f k) :
    Calls Tryd.prog 57 #[.agg #[.int .i64 P, v], .int .i64 x] w fun e w' => e = .returned (.int .i64 (sumTo (fun j => l.getD j 0 * f (k - 1 - j)) k % P)) ∧ Below w.heap.size w w' := by
  have HT : Hid (∀ j, j < k → 0 ≤ l.getD j 0 ∧ l.getD j 0 < P) := by show ∀ j, j < k → _; rw [← hk']; exact belB_iff.1 hb
  obtain ⟨a, cap, rfl, hc⟩ := hl
  rw [hk'] at hc ⊢
  have HC : Hid (∀ j, j < k → ∃ b off, a = some ⟨b, off, none⟩ ∧ w.cell? ⟨b, off + j, none⟩ = some (.int .i64 (l.getD j 0))) := hc
  obtain ⟨res, Hres⟩ : ∃ z : Int, Hid (z = sumTo (fun j => l.getD j 0 * f (k - 1 - j)) k % P) := ⟨_, rfl⟩
  rw [← Hres.out]
  have HK : Hid (l.length = k) := hk'
  have HX : Hid (x = numP P f k) := hx
  clear hc hk' hx
  have hB0 := balloc w (.cells #[.int .i64 P, .slice a k cap] 51)
  have HB : Hid (∀ b o, b < w.heap.size → (w.alloc (.cells #[.int .i64 P, .slice a k cap] 51)).cell? ⟨b, o, none⟩ = w.cell? ⟨b, o, none⟩) := (bcell hB0).1
  go_enter Tryd.func57, Tryd.ntmps57
  go_wp2
  go_loopw [1, 5, 6] (fun y s i wr => ∃ (r t : Int) (j : Int), y = .int .i64 r ∧ s = .int .i64 t ∧ i = .int .i64 j ∧ -1 ≤ j ∧ j < k ∧ Hid (r = numP P (fun u => f ((k - 1 - j).toNat + u)) (j + 1).toNat) ∧ Hid (t = sumTo (fun u => l.getD (k - 1 - u) 0 * f u) (k - 1 - j).toNat) ∧ RB wr w.heap.size P (.slice a k cap) ∧ Below w.heap.size w wr) (fun _ _ i _ => (intOf i + 1).toNat)
  case atStart =>
    refine ⟨x, 0, (k : Int) - 1, rfl, rfl, by go_num, by omega, by omega, ?_, ?_, RB.made w _ _, hB0⟩
    · show x = numP P (fun u => f (((k : Int) - 1 - ((k : Int) - 1)).toNat + u)) ((k : Int) - 1 + 1).toNat
      rw [HX.out, show ((k : Int) - 1 + 1).toNat = k by omega]
      exact numP_congr (fun j _ => by rw [show ((k : Int) - 1 - ((k : Int) - 1)).toNat + j = j by omega])
    · show 0 = sumTo _ ((k : Int) - 1 - ((k : Int) - 1)).toNat
      rw [show ((k : Int) - 1 - ((k : Int) - 1)).toNat = 0 by omega]; rfl
  case round =>
    obtain ⟨r, t, j, rfl, rfl, rfl, hj1, hj2, HR, HS, hRB, hB⟩ := hrel
    have hrc := hRB.cells
    have hr1 := hrc.1
    have hr2 := hrc.2
    clear hrc
    by_cases hlt : 0 ≤ j
    · obtain ⟨i, rfl⟩ := Int.eq_ofNat_of_zero_le hlt
      obtain ⟨b, off, rfl, hca0⟩ := HC.out i (by omega)
      have hca := (hB.cell (p := ⟨b, off + i, none⟩) (block_lt_of_cell hca0)).trans hca0
      obtain ⟨z, Hz⟩ : ∃ z : Int, Hid (z = l.getD i 0) := ⟨_, rfl⟩
      have hz := HT.out i (by omega)
      rw [← Hz.out] at hz hca
      have hdg := hf.shift ((k : Int) - 1 - (i : Int)).toNat
      have hnb := numP_bd (p := (P : Int)) (by omega) hdg (i + 1)
      have hpw := pow_bd (p := (P : Int)) (k := i + 1) (by omega) (by omega) (by omega)
      have hmod := numP_mod hdg i
      have hdiv := numP_div (by omega) hdg i
      have HRe : Hid (r = numP P (fun u => f (((k : Int) - 1 - (i : Int)).toNat + u)) (i + 1)) := HR.out
      rw [← HRe.out] at hnb hmod hdiv
      have hr0 : 0 ≤ r := hnb.1
      have hr9 : r < 5764801 := by omega
      obtain ⟨q, Hq⟩ : ∃ q : Int, Hid (q = r % P) := ⟨_, rfl⟩
      have Hq2 : Hid (q = f ((k : Int) - 1 - (i : Int)).toNat) := by show q = _; rw [Hq.out, hmod]; rfl
      have hq0 : 0 ≤ q ∧ q < P := by rw [Hq2.out]; exact hf _
      obtain ⟨d, Hd⟩ : ∃ d : Int, Hid (d = r / P) := ⟨_, rfl⟩
      have hts := sumTo_bd (f := fun u => l.getD (k - 1 - u) 0 * f u) (n := ((k : Int) - 1 - (i : Int)).toNat) (B := 36) (fun u hu => by
        have h1 := HT.out (k - 1 - u) (by omega)
        have h2 := hf u
        exact ⟨Int.mul_nonneg h1.1 h2.1, Int.le_trans (Int.mul_le_mul (show _ ≤ 6 by omega) (show _ ≤ 6 by omega) h2.1 (by omega)) (by omega)⟩)
      rw [← HS.out] at hts
      have ht0 : 0 ≤ t := hts.1
      have ht9 : t ≤ 288 := by have := hts.2; omega
      have hzq0 : 0 ≤ z * q := Int.mul_nonneg hz.1 hq0.1
      have hzq9 : z * q ≤ 36 := Int.le_trans (Int.mul_le_mul (show z ≤ 6 by omega) (show q ≤ 6 by omega) hq0.1 (by omega)) (by omega)
      have hmr : r % (P : Int) = q := Hq.out.symm
      have hdr : r / (P : Int) = d := Hd.out.symm
      have HDV : Hid (d = numP P (fun u => f (((k : Int) - 1 - (i : Int)).toNat + (u + 1))) i) := by show d = _; rw [Hd.out, hdiv]
      have hd0 : 0 ≤ d := by rw [Hd.out]; exact Int.ediv_nonneg hr0 (by omega)
      have hd9 : d ≤ 5764801 := by rw [Hd.out]; exact Int.le_trans (Int.ediv_le_self _ hr0) (by omega)
      clear hnb hpw hmod hdiv hts HR
      go_wp2
      go_quiet (fail)
      go_wp2
      go_roundw
      case rel =>
        refine ⟨d, t + z * q, (i : Int) - 1, by go_num, by go_num, by go_num, by omega, by omega, ?_, ?_, hRB, bdrewN hB _⟩
        · show d = numP P (fun u => f (((k : Int) - 1 - ((i : Int) - 1)).toNat + u)) ((i : Int) - 1 + 1).toNat
          rw [HDV.out, show ((i : Int) - 1 + 1).toNat = i by omega]
          exact numP_congr (fun u _ => by rw [show ((k : Int) - 1 - ((i : Int) - 1)).toNat + u = ((k : Int) - 1 - (i : Int)).toNat + (u + 1) by omega])
        · show t + z * q = sumTo (fun u => l.getD (k - 1 - u) 0 * f u) ((k : Int) - 1 - ((i : Int) - 1)).toNat
          rw [show ((k : Int) - 1 - ((i : Int) - 1)).toNat = ((k : Int) - 1 - (i : Int)).toNat + 1 by omega, sumTo, ← HS.out, ← Hq2.out, show k - 1 - ((k : Int) - 1 - (i : Int)).toNat = i by omega, ← Hz.out]
      case measure => simp [intOf]
    · obtain rfl : j = -1 := by omega
      have hts := sumTo_bd (f := fun u => l.getD (k - 1 - u) 0 * f u) (n := k) (B := 36) (fun u hu => by
        have h1 := HT.out (k - 1 - u) (by omega)
        have h2 := hf u
        exact ⟨Int.mul_nonneg h1.1 h2.1, Int.le_trans (Int.mul_le_mul (show _ ≤ 6 by omega) (show _ ≤ 6 by omega) h2.1 (by omega)) (by omega)⟩)
      have HS2 : Hid (t = sumTo (fun u => l.getD (k - 1 - u) 0 * f u) k) := by show t = _; rw [HS.out, show ((k : Int) - 1 - (-1)).toNat = k by omega]
      rw [← HS2.out] at hts
      have ht0 : 0 ≤ t := hts.1
      have hres : t % (P : Int) = res := by
        rw [Hres.out, HS2.out, ← sumTo_rev (fun j => l.getD j 0 * f (k - 1 - j)) k]
        exact congrArg (· % (P : Int)) (sumTo_congr (fun u hu => by show _ = l.getD (k - 1 - u) 0 * f (k - 1 - (k - 1 - u)); rw [show k - 1 - (k - 1 - u) = u by omega]))
      clear hts
      go_wp2
      go_ret
      exact ⟨rfl, hB⟩

end Go.Proofs.YtcjkcgfohmhbcabDoor.Rc

/- The walk of windows itself: three boxes and the function that has captured them. -/
namespace Go.Proofs.YtcjkcgfohmhbcabDoor.Rc
open Go.RowKit

set_option maxHeartbeats 1000000 in
theorem windows_any (P k : Nat) (x : Int) (a : Option Addr) (cap : Nat) (w : World) (hp : 2 ≤ P) (hp' : P ≤ 7) (hk1 : 1 ≤ k) (hk : k ≤ 8) :
    Calls Tryd.prog 39 #[.agg #[.int .i64 P, .slice a k cap], .int .i64 x] w fun e w' => ∃ B0 B1 B2 : Nat, e = .returned (.func (.func 56) #[] #[.pointer (some ⟨B1, 0, none⟩), .pointer (some ⟨B0, 0, none⟩), .pointer (some ⟨B2, 0, none⟩)]) ∧
      w.heap.size ≤ B0 ∧ w.heap.size ≤ B1 ∧ w.heap.size ≤ B2 ∧ RB w' B0 P (.slice a k cap) ∧ w'.cell? ⟨B1, 0, none⟩ = some (.int .i64 x) ∧ w'.cell? ⟨B2, 0, none⟩ = some (.int .i64 ((P : Int) ^ (k - 1))) ∧ Below w.heap.size w w' := by
  obtain ⟨q, Hq⟩ : ∃ q : Int, Hid (q = (P : Int) ^ k) := ⟨_, rfl⟩
  obtain ⟨t, Ht⟩ : ∃ t : Int, Hid (t = (P : Int) ^ (k - 1)) := ⟨_, rfl⟩
  have hqt : q / (P : Int) = t := by
    rw [Hq.out, Ht.out, show k = k - 1 + 1 by omega, Int.pow_succ, Nat.add_sub_cancel]
    exact Int.mul_ediv_cancel _ (by omega)
  have hq0 : 0 ≤ q ∧ q ≤ 5764801 := by
    have := pow_bd (p := (P : Int)) (k := k) (by omega) (by omega) hk
    rw [Hq.out]; omega
  have ht0 : 0 ≤ t ∧ t ≤ 5764801 := by
    have := pow_bd (p := (P : Int)) (k := k - 1) (by omega) (by omega) (by omega)
    rw [Ht.out]; omega
  have hmf : ∀ (fn : Fn) (first cap : Array Value) (w : World), (Instr.makeFunc fn first cap).run Tryd.prog w = .ok (.func fn first cap) w := fun _ _ _ _ => rfl
  rw [← Ht.out]
  have hR0 := RB.made w P (.slice a k cap)
  have hB0 := balloc w (.cells #[.int .i64 P, .slice a k cap] 51)
  have hB1 : Below w.heap.size w ((w.alloc (.cells #[.int .i64 P, .slice a k cap] 51)).alloc (.cells #[.int .i64 x] 3)) := hB0.alloc hB0.size _
  have C : ∀ A, Calls Tryd.prog 20 #[.agg #[.int .i64 P, .slice a k cap]] A fun e B => e = .returned (.int .i64 q) ∧ Below A.heap.size A B := by
    intro A
    rw [Hq.out]; exact states_any P k a cap A hp hp' hk
  go_enter Tryd.func39, Tryd.ntmps39
  go_wp2
  have R1 : RB ((w.alloc (.cells #[.int .i64 P, .slice a k cap] 51)).alloc (.cells #[.int .i64 x] 3)).drew w.heap.size P (.slice a k cap) := hR0.below (balloc _ _).drew
  have R2 : RB (((w.alloc (.cells #[.int .i64 P, .slice a k cap] 51)).alloc (.cells #[.int .i64 x] 3)).alloc (.cells #[.int .i64 0] 3)).drew w.heap.size P (.slice a k cap) := (hR0.below (balloc _ _)).below (balloc _ _).drew
  have X1 : Boxed ((w.alloc (.cells #[.int .i64 P, .slice a k cap] 51)).alloc (.cells #[.int .i64 x] 3)).drew (w.heap.size + 1) 3 (.int .i64 x) := by
    have h := Boxed.new (w.alloc (.cells #[.int .i64 P, .slice a k cap] 51)) 3 (.int .i64 x)
    rw [World.size_alloc] at h; exact h
  have X2 : Boxed (((w.alloc (.cells #[.int .i64 P, .slice a k cap] 51)).alloc (.cells #[.int .i64 x] 3)).alloc (.cells #[.int .i64 0] 3)).drew (w.heap.size + 1) 3 (.int .i64 x) := Boxed.alloc X1 _
  have T2 : Boxed (((w.alloc (.cells #[.int .i64 P, .slice a k cap] 51)).alloc (.cells #[.int .i64 x] 3)).alloc (.cells #[.int .i64 0] 3)).drew (w.heap.size + 2) 3 (.int .i64 0) := by
    have h := Boxed.new ((w.alloc (.cells #[.int .i64 P, .slice a k cap] 51)).alloc (.cells #[.int .i64 x] 3)) 3 (.int .i64 0)
    rw [World.size_alloc, World.size_alloc] at h; exact h
  have hB2 : Below w.heap.size w (((w.alloc (.cells #[.int .i64 P, .slice a k cap] 51)).alloc (.cells #[.int .i64 x] 3)).alloc (.cells #[.int .i64 0] 3)) := hB1.alloc hB1.size _
  have e1 : ((w.alloc (.cells #[.int .i64 P, .slice a k cap] 51)).alloc (.cells #[.int .i64 x] 3)).cell? ⟨w.heap.size, 0, none⟩ = some (.int .i64 P) := R1.cells.1
  have e2 : (((w.alloc (.cells #[.int .i64 P, .slice a k cap] 51)).alloc (.cells #[.int .i64 x] 3)).alloc (.cells #[.int .i64 0] 3)).cell? ⟨w.heap.size, 0, none⟩ = some (.int .i64 P) := R2.cells.1
  have hP0 : ((P : Int) == 0) = false := by simp; omega
  have hwq : IntKind.i64.wrap q = q := by rw [IntKind.wrap_i64]; omega
  go_region_with (first
    | (go_at_call 20; refine (C ((w.alloc (.cells #[.int .i64 P, .slice a k cap] 51)).alloc (.cells #[.int .i64 x] 3)).drew).mono ?_; rintro e w1 ⟨rfl, hb1⟩
       have hRw := R1.below hb1
       have hXw := (hb1.block _ X1.lt).trans X1
       have hBw : Below w.heap.size w w1 := Below.next hB1.drew hb1
       have c1 := hRw.cells.1
       have c1a := (hRw.below (balloc w1 (.cells #[.int .i64 0] 3))).cells.1)
    | (go_at_call 20; refine (C (((w.alloc (.cells #[.int .i64 P, .slice a k cap] 51)).alloc (.cells #[.int .i64 x] 3)).alloc (.cells #[.int .i64 0] 3)).drew).mono ?_; rintro e w1 ⟨rfl, hb1⟩
       have hRw := R2.below hb1
       have hXw := (hb1.block _ X2.lt).trans X2
       have hTw : Boxed w1 (w.heap.size + 2) 3 (.int .i64 0) := (hb1.block _ T2.lt).trans T2
       have hBw : Below w.heap.size w w1 := Below.next hB2.drew hb1
       have c1 := hRw.cells.1
       have t1 := hTw.cell
       have t2 := hTw.frozen))
  all_goals
    go_wp2
    go_ret
    first
      | exact ⟨w.heap.size, w.heap.size + 1, w1.heap.size, rfl, Nat.le_refl _, by omega, hBw.size, hRw.below (balloc _ _), (Boxed.alloc hXw _).cell, (Boxed.new w1 3 _).cell, hBw.alloc hBw.size _⟩
      | exact ⟨w.heap.size, w.heap.size + 1, w.heap.size + 2, rfl, Nat.le_refl _, by omega, by omega, (heap_setCell_other w1 ⟨w.heap.size + 2, 0, none⟩ w.heap.size _ (by simp)).trans hRw,
          Boxed.cell (t := 3) ((heap_setCell_other w1 ⟨w.heap.size + 2, 0, none⟩ (w.heap.size + 1) _ (by simp)).trans hXw), (hTw.set _).cell, hBw.setCell (p := ⟨w.heap.size + 2, 0, none⟩) (by simp) _⟩

end Go.Proofs.YtcjkcgfohmhbcabDoor.Rc

/- The walks of windows and of what it hands back: the windows of a row, one after another. -/
namespace Go.Proofs.YtcjkcgfohmhbcabDoor.Rc
open Go.RowKit Go.Shelf

attribute [local go_sem] Oper.semAt_some

theorem wide_no {p : Prop} (h : Fence.wide.depth.isSome = true) : p := by cases h

theorem least_of (p : Nat → Prop) : ∀ n, p n → ∃ m, p m ∧ ∀ k, k < m → ¬ p k := by
  intro n
  induction n using Nat.strongRecOn with
  | _ n ih =>
    intro h
    by_cases hk : ∃ k, k < n ∧ p k
    · obtain ⟨k, h1, h2⟩ := hk
      exact ih k h1 h2
    · exact ⟨n, h, fun k h1 h2 => hk ⟨k, h1, h2⟩⟩
open Classical in
/-- How many rounds are left at the most, read off what holds. -/
noncomputable def leftN (N : Nat) (R : Nat → Prop) : Nat := if h : ∃ d, ∃ i, R i ∧ d = N - i then Classical.choose (least_of (fun d => ∃ i, R i ∧ d = N - i) _ (Classical.choose_spec h)) else 0
theorem leftN_is {N : Nat} {R : Nat → Prop} {i : Nat} (h : R i) : ∃ j, R j ∧ leftN N R = N - j := by
  have hex : ∃ d, ∃ i, R i ∧ d = N - i := ⟨_, i, h, rfl⟩
  unfold leftN
  rw [dif_pos hex]
  obtain ⟨⟨j, h1, h2⟩, _⟩ := Classical.choose_spec (least_of (fun d => ∃ i, R i ∧ d = N - i) _ (Classical.choose_spec hex))
  exact ⟨j, h1, h2⟩
theorem leftN_le {N : Nat} {R : Nat → Prop} {i : Nat} (h : R i) : leftN N R ≤ N - i := by
  have hex : ∃ d, ∃ i, R i ∧ d = N - i := ⟨_, i, h, rfl⟩
  unfold leftN
  rw [dif_pos hex]
  have h2 := (Classical.choose_spec (least_of (fun d => ∃ i, R i ∧ d = N - i) _ (Classical.choose_spec hex))).2
  exact Nat.le_of_not_lt fun hlt => h2 _ hlt ⟨i, h, rfl⟩

/-- What the iterator reads between two rounds. -/
def WinAt (S : Nat → Prop) (B0 B2 : Nat) (p t : Int) (v : Value) (l : List Int) (w : World) : Prop :=
  RB w B0 p v ∧ w.cell? ⟨B2, 0, none⟩ = some (.int .i64 t) ∧ Sl w v l ∧ S B0 ∧ S B2 ∧ ∀ b off n cap, v = .slice (some ⟨b, off, none⟩) n cap → S b
theorem WinAt.same {S : Nat → Prop} {B0 B2 : Nat} {p t : Int} {v : Value} {l : List Int} {w w' : World} (h : WinAt S B0 B2 p t v l w) (hs : Same S w w') : WinAt S B0 B2 p t v l w' := by
  obtain ⟨h1, h2, h3, h4, h5, h6⟩ := h
  refine ⟨(hs B0 h4).trans h1, (World.cell?_of_block (a := ⟨B2, 0, none⟩) (hs B2 h5)).trans h2, ?_, h4, h5, h6⟩
  obtain ⟨a, cap, rfl, hc⟩ := h3
  refine ⟨a, cap, rfl, fun j hj => ?_⟩
  obtain ⟨b, off, e, hcj⟩ := hc j hj
  refine ⟨b, off, e, (World.cell?_of_block (a := ⟨b, off + j, none⟩) (hs b ?_)).trans hcj⟩
  subst e
  exact h6 b off _ cap rfl
theorem WinAt.below {S : Nat → Prop} {B0 B2 : Nat} {p t : Int} {v : Value} {l : List Int} {w w' : World} (h : WinAt S B0 B2 p t v l w) (hb : Below w.heap.size w w') : WinAt S B0 B2 p t v l w' := by
  obtain ⟨h1, h2, h3, h4, h5, h6⟩ := h
  exact ⟨h1.below hb, (hb.cell (p := ⟨B2, 0, none⟩) (block_lt_of_cell h2)).trans h2, h3.below hb, h4, h5, h6⟩

set_option maxRecDepth 100000 in
set_option maxHeartbeats 2000000 in
theorem win_goes (n P N : Nat) (taps seed : List Int) (v : Value) (B0 B1 B2 : Nat) (S : Nat → Prop) (w : World)
    (hp : 2 ≤ P) (hp' : P ≤ 7) (hk1 : 1 ≤ taps.length) (hk : taps.length ≤ 8) (hbt : belB P taps = true) (hsl : seed.length = taps.length) (hbs : belB P seed = true)
    (h1 : w.cell? ⟨B1, 0, none⟩ = some (.int .i64 (winN P taps seed 0))) (hW0 : WinAt S B0 B2 P ((P : Int) ^ (taps.length - 1)) v taps w) :
    Goes n Tryd.prog 56 #[.pointer (some ⟨B1, 0, none⟩), .pointer (some ⟨B0, 0, none⟩), .pointer (some ⟨B2, 0, none⟩)] (fun i => #[.int .i64 (winN P taps seed i)]) S N w := by
  intro l J Jx W hbW hgrow hN hY hJ0
  have hc1 : W.cell? ⟨B1, 0, none⟩ = some (.int .i64 (winN P taps seed 0)) := (hbW.cell (p := ⟨B1, 0, none⟩) (block_lt_of_cell h1)).trans h1
  have hW1 := hW0.below hbW
  clear hW0 h1
  obtain ⟨k, Hk⟩ : ∃ k : Nat, Hid (taps.length = k) := ⟨_, rfl⟩
  obtain ⟨t, Ht⟩ : ∃ t : Int, Hid (t = (P : Int) ^ (taps.length - 1)) := ⟨_, rfl⟩
  obtain ⟨z, Hz⟩ : ∃ z : Nat → Int, Hid (z = winN P taps seed) := ⟨_, rfl⟩
  rw [← Ht.out] at hW1
  rw [← Hz.out] at hc1
  have hz : ∀ i, 0 ≤ z i ∧ z i < 5764801 := by
    intro i
    have h1 := winN_bd (taps := taps) (seed := seed) (p := (P : Int)) (by omega) hbs i
    have h2 := pow_bd (p := (P : Int)) (k := taps.length) (by omega) (by omega) hk
    rw [Hz.out]; omega
  have HY : Hid (∀ i A, J i A → YieldAt Fence.wide (n - 1) Tryd.prog l #[.int .i64 (z i)] A fun e B => (e = .returned (.bool true) ∧ J (i + 1) B ∧ Same S A B) ∨ (e = .returned (.bool false) ∧ Jx i B)) := by
    intro i A h
    rw [Hz.out]; exact hY i A h
  clear hY
  refine callsIn_of_wp Tryd.func56 rfl trivial ?_ rfl
  simp only [Tryd.ntmps56, List.size_toArray, List.length_cons, List.length_nil, Nat.reduceAdd, Nat.reduceSub, Array.replicate_succ, Array.replicate_zero, List.push_toArray, List.append_toArray, List.nil_append, List.cons_append]
  gi_wp2
  gi_loopw [5] (fun y wr => ∃ i, y = .int .i64 (z i) ∧ J i wr ∧ WinAt S B0 B2 P t v taps wr)
    (fun y wr => leftN N (fun i => y = .int .i64 (z i) ∧ J i wr ∧ WinAt S B0 B2 P t v taps wr))
  case atStart => exact ⟨0, rfl, hJ0, hW1⟩
  case round =>
    obtain ⟨i0, hi0⟩ := hrel
    obtain ⟨i, hi, hL⟩ := leftN_is (N := N) (R := fun j => u5 = Value.int .i64 (z j) ∧ J j wr ∧ WinAt S B0 B2 P t v taps wr) hi0
    clear hi0
    obtain ⟨rfl, hJ, hA⟩ := hi
    have HL : Hid (leftN N (fun j => Value.int .i64 (z i) = .int .i64 (z j) ∧ J j wr ∧ WinAt S B0 B2 P t v taps wr) = N - i) := hL
    clear hL
    have hiN := hN i wr hJ
    obtain ⟨fn, tmps, assign, body, hy, hR⟩ := HY.out i wr hJ
    gi_wp2
    refine ⟨(fun h => by cases h), hR.mono ?_⟩
    rintro e W3 (⟨rfl, hJ3, hs3⟩ | ⟨rfl, hJx3⟩)
    · have hA3 := hA.same hs3
      have hc3 := hA3.1.cells
      have c31 := hc3.1
      have c32 := hc3.2
      have ct3 := hA3.2.1
      clear hc3
      obtain ⟨q, Hq⟩ : ∃ q : Int, Hid (q = rowN P taps seed (i + taps.length)) := ⟨_, rfl⟩
      have hq : 0 ≤ q ∧ q < P := by rw [Hq.out]; exact rowN_bd (by omega) hbs _
      have hstep : z i / (P : Int) + q * t = z (i + 1) := by rw [Hz.out, Hq.out, Ht.out]; exact winN_step (by omega) hbs hk1 i
      have hz0 := hz i
      have hz1 := hz (i + 1)
      have ht0 : 0 ≤ t ∧ t ≤ 5764801 := by
        have h2 := pow_bd (p := (P : Int)) (k := taps.length - 1) (by omega) (by omega) (by omega)
        rw [Ht.out]; omega
      have hqt0 : 0 ≤ q * t := Int.mul_nonneg hq.1 ht0.1
      have hqt9 : q * t ≤ 7 * 5764801 := Int.mul_le_mul (by omega) ht0.2 ht0.1 (by omega)
      obtain ⟨d, Hd⟩ : ∃ d : Int, Hid (d = z i / (P : Int)) := ⟨_, rfl⟩
      have hd : z i / (P : Int) = d := Hd.out.symm
      have hd0 : 0 ≤ d ∧ d ≤ 5764801 := by rw [Hd.out]; exact ⟨Int.ediv_nonneg hz0.1 (by omega), Int.le_trans (Int.ediv_le_self _ hz0.1) (by omega)⟩
      rw [hd] at hstep
      have C : ∀ A, Sl A v taps → Calls Tryd.prog 57 #[.agg #[.int .i64 P, v], .int .i64 (z i)] A fun e B => e = .returned (.int .i64 q) ∧ Below A.heap.size A B := by
        intro A hsA
        have h := behind_any P taps.length taps v (fun j => rowN P taps seed (i + j)) (z i) A hsA rfl hp hp' hk hbt (row_digs (by omega) hbs i) (by rw [Hz.out]; rfl)
        rw [Hq.out, winN_next hsl i]; exact h
      have hw0 : IntKind.i64.wrap (q * t) = q * t := by rw [IntKind.wrap_i64]; omega
      have hw1 : wrap64 (q * t) = q * t := by simp only [wrap64]; omega
      have hw2 : IntKind.i64.wrap (d + q * t) = d + q * t := by rw [IntKind.wrap_i64]; omega
      have HE1 : Hid (IntKind.i64.wrap (d + IntKind.i64.wrap (q * t)) = z (i + 1)) := by
        show IntKind.i64.wrap (d + IntKind.i64.wrap (q * t)) = z (i + 1)
        rw [hw0, hw2, hstep]
      have HE2 : Hid (IntKind.i64.wrap (d + wrap64 (q * t)) = z (i + 1)) := by
        show IntKind.i64.wrap (d + wrap64 (q * t)) = z (i + 1)
        rw [hw1, hw2, hstep]
      have HE3 : Hid (IntKind.i64.wrap (d + q * t) = z (i + 1)) := by
        show IntKind.i64.wrap (d + q * t) = z (i + 1)
        rw [hw2, hstep]
      have HE4 : Hid (d + q * t = z (i + 1)) := by
        show d + q * t = z (i + 1)
        exact hstep
      clear hw0 hw1 hw2
      clear hstep hqt0 hqt9
      have HS3 : Hid (Sl W3 v taps) := hA3.2.2.1
      gi_wp2
      gi_region_with (refine ⟨trivial, (fun h => wide_no h), (callsIn_wide.2 (C _ (Sl.drew HS3.out))).mono ?_⟩; rintro e W4 ⟨rfl, hb4⟩; have hA4 := WinAt.below (w := W3.drew) hA3 hb4; have c41 := hA4.1.cells.1; have c42 := hA4.2.1)
      all_goals
        gi_wp2
        go_roundw
        case rel =>
          have hJ4 : J (i + 1) W4 := hgrow (i + 1) W3.drew _ (hgrow (i + 1) W3 _ hJ3 (Below.refl _ W3).drew) hb4
          first
            | ((repeat apply Exists.intro); exact ⟨(⟨i + 1, by rw [HE1.out], hJ4, hA4⟩ : ∃ j : Nat, Value.int .i64 (IntKind.i64.wrap (d + IntKind.i64.wrap (q * t))) = .int .i64 (z j) ∧ J j W4 ∧ WinAt S B0 B2 P t v taps W4), rfl⟩)
            | ((repeat apply Exists.intro); exact ⟨(⟨i + 1, by rw [HE2.out], hJ4, hA4⟩ : ∃ j : Nat, Value.int .i64 (IntKind.i64.wrap (d + wrap64 (q * t))) = .int .i64 (z j) ∧ J j W4 ∧ WinAt S B0 B2 P t v taps W4), rfl⟩)
            | ((repeat apply Exists.intro); exact ⟨(⟨i + 1, by rw [HE3.out], hJ4, hA4⟩ : ∃ j : Nat, Value.int .i64 (IntKind.i64.wrap (d + q * t)) = .int .i64 (z j) ∧ J j W4 ∧ WinAt S B0 B2 P t v taps W4), rfl⟩)
            | ((repeat apply Exists.intro); exact ⟨(⟨i + 1, by rw [HE4.out], hJ4, hA4⟩ : ∃ j : Nat, Value.int .i64 (d + q * t) = .int .i64 (z j) ∧ J j W4 ∧ WinAt S B0 B2 P t v taps W4), rfl⟩)
        case measure =>
          have hJ4 : J (i + 1) W4 := hgrow (i + 1) W3.drew _ (hgrow (i + 1) W3 _ hJ3 (Below.refl _ W3).drew) hb4
          first
            | exact Nat.lt_of_le_of_lt (leftN_le (N := N) (i := i + 1) (R := fun j => Value.int .i64 (IntKind.i64.wrap (d + IntKind.i64.wrap (q * t))) = .int .i64 (z j) ∧ J j W4 ∧ WinAt S B0 B2 P t v taps W4) ⟨by rw [HE1.out], hJ4, hA4⟩) (Nat.lt_of_lt_of_le (show N - (i + 1) < N - i by omega) (Nat.le_of_eq HL.out.symm))
            | exact Nat.lt_of_le_of_lt (leftN_le (N := N) (i := i + 1) (R := fun j => Value.int .i64 (IntKind.i64.wrap (d + wrap64 (q * t))) = .int .i64 (z j) ∧ J j W4 ∧ WinAt S B0 B2 P t v taps W4) ⟨by rw [HE2.out], hJ4, hA4⟩) (Nat.lt_of_lt_of_le (show N - (i + 1) < N - i by omega) (Nat.le_of_eq HL.out.symm))
            | exact Nat.lt_of_le_of_lt (leftN_le (N := N) (i := i + 1) (R := fun j => Value.int .i64 (IntKind.i64.wrap (d + q * t)) = .int .i64 (z j) ∧ J j W4 ∧ WinAt S B0 B2 P t v taps W4) ⟨by rw [HE3.out], hJ4, hA4⟩) (Nat.lt_of_lt_of_le (show N - (i + 1) < N - i by omega) (Nat.le_of_eq HL.out.symm))
            | exact Nat.lt_of_le_of_lt (leftN_le (N := N) (i := i + 1) (R := fun j => Value.int .i64 (d + q * t) = .int .i64 (z j) ∧ J j W4 ∧ WinAt S B0 B2 P t v taps W4) ⟨by rw [HE4.out], hJ4, hA4⟩) (Nat.lt_of_lt_of_le (show N - (i + 1) < N - i by omega) (Nat.le_of_eq HL.out.symm))
    · gi_wp2
      go_end0
      exact ⟨⟨_, rfl⟩, i, hJx3⟩

end Go.Proofs.YtcjkcgfohmhbcabDoor.Rc

namespace Go.Proofs.YtcjkcgfohmhbcabDoor.Rc
open Go.RowKit Go.Shelf

attribute [local go_sem] Oper.semAt_some

/-- An append onto a row of the call's own, as one step of a region that draws its order, inside a fence. -/
theorem stepIn_append_own {F : Fence} {n : Nat} {P : Program} {ops : Array Oper} {o : Oper} {a : Act} {w : World} {K : Act → World → Prop} {Q : Exit → Act → World → Prop} {E : Prop}
    (hg : o.guard = none) (s x : Operand) (t : TypeId) (hop : o.op = Op.call { callee := Callee.builtin Builtin.append, args := #[s, x], argTypes := #[t, t] })
    (base : Nat) (e : TypeId) (i : TypeInfo) (z : Value) (size bytes : Nat) (h1 : P.underlying t = some (.slice e)) (h2 : P.info? e = some i) (h3 : i.zero = some z) (h4 : i.size = size) (h5 : i.bytes = bytes) (h6 : z.cells.size = size) (h7 : 0 < size)
    (v : Value) (k : Nat) (xs : List Value) (hs : a.eval s = v) (hown : w.ownsRow base e size v k xs) (ad : Addr) (m c : Nat) (news : List Value) (hx : a.eval x = .slice (some ad) m c) (hn : news.length = m * size)
    (hc : ∀ j u, news[j]? = some u → w.cell? (ad.add j) = some u) (h1c : ∀ u ∈ news, u.oneCell' = true) (b1 : k + m ≤ maxLen) (b2 : (k + m) * bytes ≤ 140737488355328) (b3 : base ≤ w.heap.size)
    (hK : ∀ v' w', w'.ownsRow base e size v' (k + m) (xs ++ news) → w.grownBy w' v.ownBlock → K (a.put o.dst v') w') :
    if Region.wanted o (yielded ops a.tmps) = true then Oper.wpIn F n P o a w K Q else E := by
  have hw : Region.wanted o (yielded ops a.tmps) = true := by simp [Region.wanted, hg]
  rw [if_pos hw]
  obtain ⟨v', w', hrun, r1, r2, _⟩ := run_append_own (P := P) w base t o.type e i z size bytes h1 h2 h3 h4 h5 h6 h7 v k xs hown ad m c news hn hc h1c b1 b2 b3
  unfold Oper.wpIn
  refine ⟨?_, ?_⟩
  · simp [Oper.about, hop, resolve, Target.leads, Sem.run_pure]
  · rw [Oper.semAt_plain F _ _ (by rw [hop]; intro c hc'; cases hc')]
    simp [execOp, hop, resolve, invoke, builtin, hs, hx, hrun, Result.andThen]
    exact hK _ _ r1 r2

theorem boxBelow {W W' : World} {B : Nat} {t : TypeId} {v : Value} (h : Boxed W B t v) (hb : Below W.heap.size W W') : Boxed W' B t v := (hb.block B h.lt).trans h
theorem boxSame {S : Nat → Prop} {W W' : World} {B : Nat} {t : TypeId} {v : Value} (h : Boxed W B t v) (hs : Same S W W') (hB : S B) : Boxed W' B t v := (hs B hB).trans h
theorem RB.same {S : Nat → Prop} {w w' : World} {g : Nat} {p : Int} {v : Value} (h : RB w g p v) (hs : Same S w w') (hB : S g) : RB w' g p v := (hs g hB).trans h
theorem ownFrom_same {β : Type} {S : Nat → Prop} {w : World} (hS : ∀ b, S b → b < w.heap.size) : OwnFrom w.heap.size (fun (_ : β) W => Same S w W) := by
  intro s W W' row hs hg hr b hb
  have hlt := hS b hb
  have hw : W.heap[b]? = some w.heap[b] := (hs b hb).trans (Array.getElem?_eq_getElem hlt)
  refine (hg.block b (Array.getElem?_eq_some_iff.1 hw).1 (fun e => ?_)).trans (hs b hb)
  have := (hr b e.symm).1
  omega
/-- In a round operations that defer nothing are carried out as everywhere. -/
theorem wpAnyIn_round {F : Fence} {n : Nat} {P : Program} {md : Region.Mode} {ops : Array Oper} {Q : Exit → Act → World → Prop} (l : Nat) (hd : ∀ (i : Nat) (o : Oper), ops[i]? = some o → ∀ c, o.op ≠ .defer c) :
    ∀ (fuel : Nat) (listed : Array Bool) (a : Act) (w : World), F.round = none → wpAnyIn F n P md ops Q fuel listed a w → wpAnyIn (F.inRound l) n P md ops Q fuel listed a w := by
  intro fuel
  induction fuel with
  | zero => intro listed a w _ h; exact h
  | succ fuel ih =>
    intro listed a w hro h
    refine ⟨h.1, fun i hi => ?_⟩
    have h2 := h.2 i hi
    unfold wpOpIn at h2 ⊢
    cases ho : ops[i]? with
    | none => rw [ho] at h2; exact ih _ _ _ hro h2
    | some o =>
      rw [ho] at h2
      simp only at h2 ⊢
      by_cases hw : Region.wanted o (yielded ops a.tmps) = true
      · rw [if_pos hw] at h2 ⊢
        have h3 := Oper.wpIn_mono (fun a w h => ih _ a w hro h) h2
        refine ⟨h3.1, ?_⟩
        have h4 := h3.2
        rw [Oper.semAt_eq _ _ _ (hd i o ho)] at h4 ⊢
        exact h4
      · rw [if_neg hw] at h2 ⊢
        exact ⟨h2.1, ih _ _ _ hro h2.2⟩

theorem ownFrom_size {β : Type} {B n : Nat} : OwnFrom B (fun (_ : β) (W : World) => n ≤ W.heap.size) := fun _ _ _ _ h hg _ => Nat.le_trans h hg.size
theorem ownsRow_base {w : World} {b b' : Nat} {e : TypeId} {size : Nat} {v : Value} {n : Nat} {xs : List Value} (h : w.ownsRow b' e size v n xs) (hb : b ≤ b') : w.ownsRow b e size v n xs := by
  obtain ⟨h1, h2 | ⟨g, cap, cur, e1, e2, e3⟩⟩ := h
  · exact ⟨h1, .inl h2⟩
  · exact ⟨h1, .inr ⟨g, cap, cur, e1, by omega, e3⟩⟩
theorem ownFrom_le {B n : Nat} : OwnFrom B (fun (i : Nat) (_ : World) => i ≤ n) := fun _ _ _ _ h _ _ => h

theorem grown_undrew {A B : World} {row : Option Nat} (h : A.drew.grownBy B row) : A.grownBy B row := ⟨h.os, h.tape, h.output, h.size, h.block⟩
/-- What an append of one number to the row in the box leaves. -/
theorem appFacts {S : Nat → Prop} {W w1 w2 w : World} {ob : Nat} {u v' : Value} {k : Nat} {xs ys : List Value} {tmp : Obj} (hu : Boxed W ob 23 u) (hrow : W.ownsRow w1.heap.size 3 1 u k xs)
    (hSlt : ∀ b, S b → b < w1.heap.size) (hSo : ¬ S ob) (hsz : w1.heap.size ≤ W.heap.size) (hob : w.heap.size ≤ ob ∧ w.heap.size ≤ w1.heap.size) (hown' : w2.ownsRow w1.heap.size 3 1 v' (k + 1) ys) (hgrow0 : (W.alloc tmp).drew.grownBy w2 u.ownBlock) :
    Boxed w2 ob 23 u ∧ Boxed (w2.setCell ⟨ob, 0, none⟩ v') ob 23 v' ∧ (w2.setCell ⟨ob, 0, none⟩ v').ownsRow w1.heap.size 3 1 v' (k + 1) ys ∧ KeepsOthers W (w2.setCell ⟨ob, 0, none⟩ v') ∧ Same S W (w2.setCell ⟨ob, 0, none⟩ v') ∧ Below w.heap.size W (w2.setCell ⟨ob, 0, none⟩ v') := by
  have hgrow := grown_undrew hgrow0
  obtain ⟨h1, h2, _, h4, _⟩ := Boxed.appended hu (by decide) (ownsRow_base hrow (Nat.zero_le _)) (Nat.zero_le _) (Nat.zero_le _) (ownsRow_base hown' (Nat.zero_le _)) hgrow
  have hblk : ∀ b, b < w1.heap.size → b ≠ ob → (w2.setCell ⟨ob, 0, none⟩ v').heap[b]? = W.heap[b]? := by
    intro b hb hne
    refine (heap_setCell_other w2 ⟨ob, 0, none⟩ b v' hne).trans ((hgrow.block b (by simp; omega) (fun e => ?_)).trans (Below.heap_alloc W tmp b (by omega)))
    rcases hrow.2 with ⟨rfl, _⟩ | ⟨g, cap, cur, rfl, hg, _⟩
    · simp [Value.ownBlock] at e
    · simp [Value.ownBlock] at e
      omega
  refine ⟨h1, h2, hown'.kept (grownBy_setCell' w2 ob v') (.inr (h1.not_row (by decide) hown').symm), h4, fun b hb => hblk b (hSlt b hb) (fun e => hSo (e ▸ hb)), ?_⟩
  refine ⟨hgrow.os, hgrow.tape, hgrow.output, ?_, fun b hb => hblk b (by omega) (by omega)⟩
  have := hgrow.size
  simp at this ⊢
  omega

set_option maxRecDepth 100000 in
set_option maxHeartbeats 4000000 in
theorem run_any (P n : Nat) (taps seed : List Int) (v : Value) (w : World) (hp : 2 ≤ P) (hp' : P ≤ 7) (hk1 : 1 ≤ taps.length) (hk : taps.length ≤ 8) (hbt : belB P taps = true) (hsl : seed.length = taps.length) (hbs : belB P seed = true)
    (hl : Sl w v taps) (hn : n ≤ 5000) :
    Calls Tryd.prog 24 #[.agg #[.int .i64 P, v], .int .i64 (winN P taps seed 0), .int .i64 n] w fun e w' => ∃ u, e = .returned u ∧ w'.ownsRow w.heap.size 3 1 u n ((rowL P taps seed n).map (Value.int .i64)) ∧ Below w.heap.size w w' := by
  obtain ⟨i3, hi, hz0, hz1, hz2⟩ := info3
  refine (callsIn_wide (n := 4)).1 ?_
  obtain ⟨a, cap, rfl, hlc⟩ := id hl
  obtain ⟨k, Hk⟩ : ∃ k : Nat, Hid (taps.length = k) := ⟨_, rfl⟩
  obtain ⟨x0, Hx0⟩ : ∃ x : Int, Hid (x = winN P taps seed 0) := ⟨_, rfl⟩
  have hk1' : 1 ≤ k := by rw [← Hk.out]; exact hk1
  have hk' : k ≤ 8 := by rw [← Hk.out]; exact hk
  rw [Hk.out] at hl ⊢
  rw [← Hx0.out]
  have hB3 : Below w.heap.size w (((w.alloc (.cells #[.int .i64 P, .slice a k cap] 51)).alloc (.cells #[.int .i64 n] 3)).alloc (.cells #[.slice none 0 0] 23)) := ((balloc w _).alloc (by simp) _).alloc (by simp; omega) _
  obtain ⟨w3, Hw3⟩ : ∃ w3, Hid (w3 = ((w.alloc (.cells #[.int .i64 P, .slice a k cap] 51)).alloc (.cells #[.int .i64 n] 3)).alloc (.cells #[.slice none 0 0] 23)) := ⟨_, rfl⟩
  refine callsIn_of_wp_marks Tryd.func24 rfl trivial ?_ rfl
  simp only [Tryd.ntmps24, List.size_toArray, List.length_cons, List.length_nil, Nat.reduceAdd, Nat.reduceSub, Array.replicate_succ, Array.replicate_zero, List.push_toArray, List.append_toArray, List.nil_append, List.cons_append]
  have hs3 : w3.heap.size = w.heap.size + 3 := by rw [Hw3.out]; simp
  have RS : RB w3 w.heap.size P (.slice a k cap) := by rw [Hw3.out]; exact ((RB.made w P (.slice a k cap)).below (balloc _ _)).below (balloc _ _)
  have NS : Boxed w3 (w.heap.size + 1) 3 (.int .i64 n) := by
    rw [Hw3.out]
    have h := Boxed.new (w.alloc (.cells #[.int .i64 P, .slice a k cap] 51)) 3 (.int .i64 n)
    rw [World.size_alloc] at h
    exact h.alloc _
  have OS : Boxed w3 (w.heap.size + 1 + 1) 23 (.slice none 0 0) := by
    rw [Hw3.out]
    have h := Boxed.new ((w.alloc (.cells #[.int .i64 P, .slice a k cap] 51)).alloc (.cells #[.int .i64 n] 3)) 23 (.slice none 0 0)
    rw [World.size_alloc, World.size_alloc] at h
    exact h
  rw [← Hw3.out] at hB3
  gi_wp2_with (refine ⟨trivial, (callsIn_wide.2 (windows_any P k x0 a cap _ hp hp' hk1' hk')).mono ?_⟩; rw [← Hw3.out]; rintro e w1 ⟨B0, B1, B2, rfl, hB0, hB1, hB2, hR0, hc1, hc2, hb1⟩)
  have hbw1 : Below w.heap.size w w1 := hB3.trans (hb1.mono hB3.size)
  have hS1 := hb1.size
  obtain ⟨S, HS⟩ : ∃ S : Nat → Prop, Hid (S = fun b => b < w1.heap.size ∧ b ≠ w.heap.size + 1 + 1) := ⟨_, rfl⟩
  have hSlt : ∀ b, S b → b < w1.heap.size := fun b h => by rw [HS.out] at h; exact h.1
  have hSs : ∀ b, b < w.heap.size + 2 → S b := fun b h => by rw [HS.out]; exact ⟨by omega, by omega⟩
  have hWin : WinAt S B0 B2 P ((P : Int) ^ (taps.length - 1)) (.slice a k cap) taps w1 := by
    refine ⟨hR0, by rw [Hk.out]; exact hc2, hl.below hbw1, ?_, ?_, fun b off m c e => ?_⟩
    · rw [HS.out]; exact ⟨hR0.lt, by omega⟩
    · rw [HS.out]; exact ⟨block_lt_of_cell hc2, by omega⟩
    · obtain ⟨b', off', e', hc'⟩ := hlc 0 (by omega)
      rw [e'] at e
      simp only [Value.slice.injEq, Option.some.injEq, Addr.mk.injEq] at e
      rw [← e.1.1]
      exact hSs _ (by have : b' < w.heap.size := block_lt_of_cell hc'; omega)
  rw [Hx0.out] at hc1
  refine wpIn_goes (N := n + 1) (S := S) (gf := 56) (lb := #[.pointer (some ⟨B1, 0, none⟩), .pointer (some ⟨B0, 0, none⟩), .pointer (some ⟨B2, 0, none⟩)]) rfl (enters_of Tryd.func56 (by kernel_rfl) rfl)
    hSlt (win_goes 3 P (n + 1) taps seed (.slice a k cap) B0 B1 B2 S w1 hp hp' hk1 hk hbt hsl hbs hc1 hWin) (fun _ => rfl)
    (fun i W => i ≤ n ∧ (∃ u, Boxed W (w.heap.size + 1 + 1) 23 u ∧ W.ownsRow w1.heap.size 3 1 u i ((rowL P taps seed i).map (Value.int .i64)) ∧ True) ∧ Same S w1 W ∧ w1.heap.size ≤ W.heap.size ∧ Below w.heap.size w W)
    (fun c i W => (c = .exit 0 ∧ i = n) ∧ (∃ u, Boxed W (w.heap.size + 1 + 1) 23 u ∧ W.ownsRow w1.heap.size 3 1 u i ((rowL P taps seed i).map (Value.int .i64)) ∧ True) ∧ Below w.heap.size w W)
    (OwnFrom.and ownFrom_le (OwnFrom.and (Own.from (holdsRow_own w1.heap.size (w.heap.size + 1 + 1) 23 3 1 (fun i => i) (fun i => (rowL P taps seed i).map (Value.int .i64)) (fun _ _ => True)) _) (OwnFrom.and (ownFrom_same hSlt) (OwnFrom.and ownFrom_size (ownFrom_below (Nat.le_refl _) (by omega))))))
    (fun c => OwnFrom.and (fun _ _ _ _ h _ _ => h) (OwnFrom.and (Own.from (holdsRow_own w1.heap.size (w.heap.size + 1 + 1) 23 3 1 (fun i => i) (fun i => (rowL P taps seed i).map (Value.int .i64)) (fun _ _ => True)) _) (ownFrom_below (Nat.le_refl _) (by omega))))
    (fun i W h => by have := h.1; omega)
    ⟨by omega, ⟨_, boxBelow OS hb1, World.ownsRow_nil _ _ _ _, trivial⟩, Same.refl _ _, Nat.le_refl _, hbw1⟩
    (fun i => { tmps := #[.agg #[.int .i64 P, .slice a k cap], .int .i64 x0, .int .i64 n, .pointer (some ⟨w.heap.size, 0, none⟩), undef, .pointer (some ⟨w.heap.size + 1, 0, none⟩), .slice none 0 0, .pointer (some ⟨w.heap.size + 1 + 1, 0, none⟩), .int .i64 (winN P taps seed i), .agg #[.int .i64 P, .slice a k cap], .int .i64 x0, .func (.func 56) #[] #[.pointer (some ⟨B1, 0, none⟩), .pointer (some ⟨B0, 0, none⟩), .pointer (some ⟨B2, 0, none⟩)], .int .i64 (winN P taps seed i), undef, undef, undef, undef, undef, undef, undef, undef, undef, undef, undef, undef], defers := [] }) ?assign ?body ?stop
  case assign =>
    intro l i W K hK
    gi_wp2
    exact hK
  case body =>
    rintro l i W ⟨hin, ⟨u, hu, hrow, _⟩, hsm, hsz, hbw⟩
    obtain ⟨a', c', rfl⟩ : ∃ a' c', u = .slice a' i c' := by
      rcases hrow.2 with ⟨rfl, h0⟩ | ⟨g, c, cur, rfl, _⟩
      · exact ⟨none, 0, by rw [h0]⟩
      · exact ⟨_, c, rfl⟩
    have hoc := hu.cell
    have hnc := Boxed.cell (boxSame (boxBelow NS hb1) hsm (hSs _ (by omega)))
    have hrc := ((RS.below hb1).same hsm (hSs _ (by omega))).cells.1
    obtain ⟨x, Hx⟩ : ∃ x : Int, Hid (x = winN P taps seed i) := ⟨_, rfl⟩
    have hx0 := winN_bd (taps := taps) (seed := seed) (p := (P : Int)) (by omega) hbs i
    have hx1 := winN_mod (taps := taps) (seed := seed) (p := (P : Int)) (by omega) hbs hk1 i
    rw [← Hx.out] at hx0 hx1 ⊢
    have hxp : 0 ≤ x := hx0.1
    by_cases hne : i = n
    · subst hne
      have hd : ((i : Int) == (i : Int)) = true := by simp
      gi_wp2
      exact ⟨KeepsOthers.refl _, ⟨rfl, rfl⟩, ⟨_, hu, hrow, trivial⟩, hbw⟩
    · have hd : ((i : Int) == (n : Int)) = false := by simp; omega
      have hi5 : i < 5000 := by omega
      obtain ⟨r, Hr⟩ : ∃ r : Int, Hid (r = rowN P taps seed i) := ⟨_, rfl⟩
      rw [← Hr.out] at hx1
      have hu0 := hu.frozen
      have hu1 := (hu.alloc (.cells #[.int .i64 r] 3)).cell
      have hSo : ¬ S (w.heap.size + 1 + 1) := fun h => by rw [HS.out] at h; exact h.2 rfl
      have hnew : ∀ j u, ([Value.int .i64 r] : List Value)[j]? = some u → ((W.alloc (.cells #[.int .i64 r] 3)).drew).cell? ((⟨W.heap.size, 0, none⟩ : Addr).add j) = some u := by
        intro j u hj
        match j, hj with
        | 0, hj =>
          simp at hj
          subst hj
          exact (Boxed.new W 3 (.int .i64 r)).cell
      have hdr : ((W.alloc (.cells #[.int .i64 r] 3)).drew).ownsRow w1.heap.size 3 1 (.slice a' i c') i ((rowL P taps seed i).map (Value.int .i64)) := hrow.alloc _
      gi_wp2
      refine wpIn_region_any (by kernel_rfl) (wpAnyIn_round l (fun i o h c e => by revert h; revert i; intro i h; have hm := Array.mem_of_getElem? h; simp at hm; rcases hm with rfl | rfl | rfl | rfl | rfl | rfl | rfl | rfl <;> cases e) _ _ _ _ rfl ?_)
      try (change wpAnyIn _ _ _ _ _ _ _ _ _ (World.drew _))
      refine wpAnyIn_take (i := 1) (v := .int .i64 x) rfl rfl (by kernel_rfl) (by kernel_rfl) (by kernel_rfl) (fun _ _ _ h => h) ⟨Or.inl ⟨by rfl, fun w => by go_simp⟩, fun _ => rfl⟩ ?_
      refine wpAnyIn_take (i := 2) (v := .pointer (some ⟨w.heap.size, 0, none⟩)) rfl rfl (by kernel_rfl) (by kernel_rfl) (by kernel_rfl) (fun _ _ _ h => h) ⟨Or.inl ⟨by rfl, fun w => by go_simp⟩, fun _ => rfl⟩ ?_
      refine wpAnyIn_ready (rs := [0, 3]) (by kernel_rfl) (by simp) (AllReadyIn.cons rfl (fun K hK => ?_) (AllReadyIn.cons rfl (fun K hK => ?_) AllReadyIn.nil))
      · go_simp
        refine hK _ _ ?_
        clear hK K
        refine wpAnyIn_ready (rs := [3]) (by kernel_rfl) (by simp) (AllReadyIn.cons rfl (fun K hK => ?_) AllReadyIn.nil)
        go_simp
        refine hK _ _ ?_
        clear hK K
        refine wpAnyIn_ready (rs := [4]) (by kernel_rfl) (by simp) (AllReadyIn.cons rfl (fun K hK => ?_) AllReadyIn.nil)
        go_simp
        gi_wp2
        refine wpAnyIn_ready (rs := [5]) (by kernel_rfl) (by simp) (AllReadyIn.cons rfl (fun K hK => ?_) AllReadyIn.nil)
        go_simp
        refine hK _ _ ?_
        clear hK K
        refine wpAnyIn_ready (rs := [6]) (by kernel_rfl) (by simp) (AllReadyIn.cons rfl (fun K hK => ?_) AllReadyIn.nil)
        refine stepIn_append_own rfl (.tmp 17) (.tmp 22) 23 rfl w1.heap.size 3 i3 (.int .i64 0) 1 8 und22 hi hz0 hz1 hz2 rfl (by decide) (.slice a' i c') i ((rowL P taps seed i).map (Value.int .i64)) (by simp [Act.eval]) hdr ⟨W.heap.size, 0, none⟩ 1 1 [.int .i64 r] (by simp [Act.eval]) rfl hnew (by simp [Value.oneCell']) (by unfold maxLen; omega) (by omega) (by simp; omega) ?_
        intro v' w2 hown' hgrow
        obtain ⟨g', cap', rfl⟩ := ownsRow_succ hown'
        obtain ⟨f1, f2, f3, f4, f5, f6⟩ := appFacts hu hrow hSlt hSo hsz ⟨by omega, hbw1.size⟩ hown' hgrow
        have f1c := f1.cell
        have f1f := f1.frozen
        refine hK _ _ ?_
        clear hK K
        refine wpAnyIn_ready (rs := [7]) (by kernel_rfl) (by simp) (AllReadyIn.cons rfl (fun K hK => ?_) AllReadyIn.nil)
        go_simp
        refine hK _ _ ?_
        clear hK K
        refine wpAnyIn_done (by kernel_rfl) ?_ _
        gi_wp2
        exact ⟨f4, f5, by omega, ⟨_, f2, by rw [rowL_succ, List.map_append, ← Hr.out]; exact f3, trivial⟩, hsm.trans f5, Nat.le_trans hsz f6.size, hbw.trans f6⟩
      · go_simp
        refine hK _ _ ?_
        clear hK K
        refine wpAnyIn_ready (rs := [0, 4]) (by kernel_rfl) (by simp) (AllReadyIn.cons rfl (fun K hK => ?_) (AllReadyIn.cons rfl (fun K hK => ?_) AllReadyIn.nil))
        · go_simp
          refine hK _ _ ?_
          clear hK K
          refine wpAnyIn_ready (rs := [4]) (by kernel_rfl) (by simp) (AllReadyIn.cons rfl (fun K hK => ?_) AllReadyIn.nil)
          go_simp
          gi_wp2
          refine wpAnyIn_ready (rs := [5]) (by kernel_rfl) (by simp) (AllReadyIn.cons rfl (fun K hK => ?_) AllReadyIn.nil)
          go_simp
          refine hK _ _ ?_
          clear hK K
          refine wpAnyIn_ready (rs := [6]) (by kernel_rfl) (by simp) (AllReadyIn.cons rfl (fun K hK => ?_) AllReadyIn.nil)
          refine stepIn_append_own rfl (.tmp 17) (.tmp 22) 23 rfl w1.heap.size 3 i3 (.int .i64 0) 1 8 und22 hi hz0 hz1 hz2 rfl (by decide) (.slice a' i c') i ((rowL P taps seed i).map (Value.int .i64)) (by simp [Act.eval]) hdr ⟨W.heap.size, 0, none⟩ 1 1 [.int .i64 r] (by simp [Act.eval]) rfl hnew (by simp [Value.oneCell']) (by unfold maxLen; omega) (by omega) (by simp; omega) ?_
          intro v' w2 hown' hgrow
          obtain ⟨g', cap', rfl⟩ := ownsRow_succ hown'
          obtain ⟨f1, f2, f3, f4, f5, f6⟩ := appFacts hu hrow hSlt hSo hsz ⟨by omega, hbw1.size⟩ hown' hgrow
          have f1c := f1.cell
          have f1f := f1.frozen
          refine hK _ _ ?_
          clear hK K
          refine wpAnyIn_ready (rs := [7]) (by kernel_rfl) (by simp) (AllReadyIn.cons rfl (fun K hK => ?_) AllReadyIn.nil)
          go_simp
          refine hK _ _ ?_
          clear hK K
          refine wpAnyIn_done (by kernel_rfl) ?_ _
          gi_wp2
          exact ⟨f4, f5, by omega, ⟨_, f2, by rw [rowL_succ, List.map_append, ← Hr.out]; exact f3, trivial⟩, hsm.trans f5, Nat.le_trans hsz f6.size, hbw.trans f6⟩
        · go_simp
          gi_wp2
          refine wpAnyIn_ready (rs := [0, 5]) (by kernel_rfl) (by simp) (AllReadyIn.cons rfl (fun K hK => ?_) (AllReadyIn.cons rfl (fun K hK => ?_) AllReadyIn.nil))
          · go_simp
            refine hK _ _ ?_
            clear hK K
            refine wpAnyIn_ready (rs := [5]) (by kernel_rfl) (by simp) (AllReadyIn.cons rfl (fun K hK => ?_) AllReadyIn.nil)
            go_simp
            refine hK _ _ ?_
            clear hK K
            refine wpAnyIn_ready (rs := [6]) (by kernel_rfl) (by simp) (AllReadyIn.cons rfl (fun K hK => ?_) AllReadyIn.nil)
            refine stepIn_append_own rfl (.tmp 17) (.tmp 22) 23 rfl w1.heap.size 3 i3 (.int .i64 0) 1 8 und22 hi hz0 hz1 hz2 rfl (by decide) (.slice a' i c') i ((rowL P taps seed i).map (Value.int .i64)) (by simp [Act.eval]) hdr ⟨W.heap.size, 0, none⟩ 1 1 [.int .i64 r] (by simp [Act.eval]) rfl hnew (by simp [Value.oneCell']) (by unfold maxLen; omega) (by omega) (by simp; omega) ?_
            intro v' w2 hown' hgrow
            obtain ⟨g', cap', rfl⟩ := ownsRow_succ hown'
            obtain ⟨f1, f2, f3, f4, f5, f6⟩ := appFacts hu hrow hSlt hSo hsz ⟨by omega, hbw1.size⟩ hown' hgrow
            have f1c := f1.cell
            have f1f := f1.frozen
            refine hK _ _ ?_
            clear hK K
            refine wpAnyIn_ready (rs := [7]) (by kernel_rfl) (by simp) (AllReadyIn.cons rfl (fun K hK => ?_) AllReadyIn.nil)
            go_simp
            refine hK _ _ ?_
            clear hK K
            refine wpAnyIn_done (by kernel_rfl) ?_ _
            gi_wp2
            exact ⟨f4, f5, by omega, ⟨_, f2, by rw [rowL_succ, List.map_append, ← Hr.out]; exact f3, trivial⟩, hsm.trans f5, Nat.le_trans hsz f6.size, hbw.trans f6⟩
          · go_simp
            refine hK _ _ ?_
            clear hK K
            refine wpAnyIn_ready (rs := [0]) (by kernel_rfl) (by simp) (AllReadyIn.cons rfl (fun K hK => ?_) AllReadyIn.nil)
            go_simp
            refine hK _ _ ?_
            clear hK K
            refine wpAnyIn_ready (rs := [6]) (by kernel_rfl) (by simp) (AllReadyIn.cons rfl (fun K hK => ?_) AllReadyIn.nil)
            refine stepIn_append_own rfl (.tmp 17) (.tmp 22) 23 rfl w1.heap.size 3 i3 (.int .i64 0) 1 8 und22 hi hz0 hz1 hz2 rfl (by decide) (.slice a' i c') i ((rowL P taps seed i).map (Value.int .i64)) (by simp [Act.eval]) hdr ⟨W.heap.size, 0, none⟩ 1 1 [.int .i64 r] (by simp [Act.eval]) rfl hnew (by simp [Value.oneCell']) (by unfold maxLen; omega) (by omega) (by simp; omega) ?_
            intro v' w2 hown' hgrow
            obtain ⟨g', cap', rfl⟩ := ownsRow_succ hown'
            obtain ⟨f1, f2, f3, f4, f5, f6⟩ := appFacts hu hrow hSlt hSo hsz ⟨by omega, hbw1.size⟩ hown' hgrow
            have f1c := f1.cell
            have f1f := f1.frozen
            refine hK _ _ ?_
            clear hK K
            refine wpAnyIn_ready (rs := [7]) (by kernel_rfl) (by simp) (AllReadyIn.cons rfl (fun K hK => ?_) AllReadyIn.nil)
            go_simp
            refine hK _ _ ?_
            clear hK K
            refine wpAnyIn_done (by kernel_rfl) ?_ _
            gi_wp2
            exact ⟨f4, f5, by omega, ⟨_, f2, by rw [rowL_succ, List.map_append, ← Hr.out]; exact f3, trivial⟩, hsm.trans f5, Nat.le_trans hsz f6.size, hbw.trans f6⟩
  case stop =>
    rintro D c i W hD ⟨⟨rfl, rfl⟩, ⟨u, hu, hrow, _⟩, hbw⟩ hK
    have hc := hu.cell
    gi_wp2
    refine ⟨by simp, .inl ⟨_, _, rfl, run_takeDeferred hK, ?_⟩⟩
    exact ⟨_, results_tmp rfl _ _ _, u, rfl, ownsRow_putObj (ownsRow_base hrow hbw1.size) _ hK rfl, hbw.trans (belowK_b (w := w) (Nat.le_refl _) W D _ _ (by omega) hK rfl rfl)⟩

end Go.Proofs.YtcjkcgfohmhbcabDoor.Rc
