/- The walk of the library's Backward, at seven numbers. -/
import Derived.Test.YtmaplmgecohjbaaC8
import Derived.RangeFuncNested
import Derived.RangeFuncBox
import Derived.RangeFuncLeaves
import Derived.RangeFuncFrom
import Derived.RangeFuncBound
import Derived.RangeFuncCalls
import Derived.Shelf.Abstract
import Derived.Shelf.RegionOpen
import Derived.OwnWalkIn
import Derived.TacticsInMore
import Derived.LoopNIn
import Derived.LoopIn
import Derived.Stop.RegionWithIn
namespace Go.Proofs.Ytmaplmgecohjbaa
open Go.RowKit Go.Shelf

attribute [local go_sem] Oper.semAt_some

/-- What lies in these blocks lies there as it lay. -/
def Same (S : Nat → Prop) (A B : World) : Prop := ∀ b, S b → B.heap[b]? = A.heap[b]?
theorem Same.refl (S : Nat → Prop) (A : World) : Same S A A := fun _ _ => rfl
theorem Same.trans {S : Nat → Prop} {A B C : World} (h : Same S A B) (k : Same S B C) : Same S A C := fun b hb => (k b hb).trans (h b hb)
theorem Same.put {S : Nat → Prop} {n : Nat} (hS : ∀ b, S b → b < n) (A : World) {l : Nat} (o : Obj) (hl : n ≤ l) : Same S A (A.putObj l o) :=
  fun b hb => World.putObj_heap_other (by have := hS b hb; omega)
theorem wide_no {p : Prop} (h : Fence.wide.depth.isSome = true) : p := by cases h

/-- A pair that is handed out: a place and what stands there. -/
abbrev BP := {p : Nat × Nat // p.1 ≤ 6 ∧ p.2 ≤ 7}
def bpE (x : BP) : Array Value := #[.int .i64 (x.1.1 : Int), .int .i64 (x.1.2 : Int)]
/-- The first m pairs, from behind. -/
def bpL (x : List Nat) (hx : SmK x) : Nat → List BP
  | 0 => []
  | m + 1 => bpL x hx m ++ [⟨(6 - m, x.getD (6 - m) 0), by simp, hx.2 _ (by omega)⟩]
theorem bpL_len (x : List Nat) (hx : SmK x) : ∀ m, (bpL x hx m).length = m
  | 0 => rfl
  | m + 1 => by rw [bpL, List.length_append, bpL_len x hx m]; rfl

set_option maxRecDepth 100000 in
set_option maxHeartbeats 1000000 in
theorem Backward_any (a : Option Addr) (m c : Nat) (w : World) : Calls Try.prog 85 #[.slice a m c] w fun e w' => e = .returned (.func (.func 98) #[] #[.pointer (some ⟨w.heap.size, 0, none⟩)]) ∧ w' = w.alloc (.cells #[.slice a m c] 40) := by
  go_enter Try.func85, Try.ntmps85
  go_wp2
  go_ret
  exact ⟨rfl, rfl⟩

set_option maxRecDepth 100000 in
set_option maxHeartbeats 2000000 in
theorem back_seq (n A B : Nat) (x : List Nat) (hx : SmK x) (S : Nat → Prop) (w : World) (hA : MRow 75 w A (fun j => (x.getD j 0 : Int))) (hB : w.heap[B]? = some (.cells #[.slice (some ⟨A, 0, none⟩) 7 7] 40 (0, 0))) (hSA : S A) (hSB : S B) :
    SeqStopsK Fence.wide n Try.prog 98 #[.pointer (some ⟨B, 0, none⟩)] bpE (Same S) (fun xs => xs = bpL x hx 7) (fun _ => True) 7 w := by
  intro l J Jx W hbW _ _ hY hJ0
  have hAl : A < w.heap.size := (Array.getElem?_eq_some_iff.1 hA).1
  have hBl : B < w.heap.size := (Array.getElem?_eq_some_iff.1 hB).1
  have hA1 : MRow 75 W A (fun j => (x.getD j 0 : Int)) := (hbW.block A hAl).trans hA
  have hB1 : W.heap[B]? = some (.cells #[.slice (some ⟨A, 0, none⟩) 7 7] 40 (0, 0)) := (hbW.block B hBl).trans hB
  clear hA hB hAl hBl
  have HY : Hid (∀ pre x W1, J pre W1 → pre.length < 7 → YieldAt Fence.wide (n - 1) Try.prog l (bpE x) W1 fun e W' => (e = .returned (.bool true) ∧ J (pre ++ [x]) W' ∧ Same S W1 W') ∨ (e = .returned (.bool false) ∧ Jx (pre ++ [x]) W')) := hY
  have HX : Hid (SmK x) := hx
  clear hY
  refine callsIn_of_wp Try.func98 rfl trivial ?_ rfl
  simp only [Try.ntmps98, List.size_toArray, List.length_cons, List.length_nil, Nat.reduceAdd, Nat.reduceSub, Array.replicate_succ, Array.replicate_zero, List.push_toArray, List.append_toArray, List.nil_append, List.cons_append]
  have hBc : W.cell? ⟨B, 0, none⟩ = some (.slice (some ⟨A, 0, none⟩) 7 7) := by simpa using cell_of_row W B 0 _ _ _ hB1
  gi_wp2
  gi_loopw [3] (fun y wr => ∃ m : Nat, m ≤ 7 ∧ y = .int .i64 (6 - (m : Int)) ∧ J (bpL x hx m) wr ∧ Same S W wr) (fun y _ => (intOf y + 1).toNat)
  case atStart => exact ⟨0, by omega, rfl, hJ0, Same.refl _ _⟩
  case round =>
    clear hBc
    obtain ⟨m, hm, rfl, hJ, hS⟩ := hrel
    have hA2 : MRow 75 wr A (fun j => (x.getD j 0 : Int)) := (hS A hSA).trans hA1
    have hB2 : wr.heap[B]? = some (.cells #[.slice (some ⟨A, 0, none⟩) 7 7] 40 (0, 0)) := (hS B hSB).trans hB1
    have hBc : wr.cell? ⟨B, 0, none⟩ = some (.slice (some ⟨A, 0, none⟩) 7 7) := by simpa using cell_of_row wr B 0 _ _ _ hB2
    by_cases hlt : m < 7
    · have hd : decide ((0 : Int) ≤ 6 - (m : Int)) = true := by simp; omega
      obtain ⟨q, hq⟩ : ∃ q : Nat, q = 6 - m := ⟨_, rfl⟩
      have e6 : (6 : Int) - (m : Int) = (q : Int) := by omega
      have hq6 : q ≤ 6 := by omega
      have hq7 : q < 7 := by omega
      have hc := hA2.cell q hq7
      obtain ⟨c, Hc⟩ : ∃ c, Hid (x.getD q 0 = c) := ⟨_, rfl⟩
      have hc7 : c ≤ 7 := by rw [← Hc.out]; exact hx.2 q hq7
      rw [Hc.out] at hc
      obtain ⟨fn, tmps, assign, body, hy, hR⟩ := HY.out (bpL x hx m) ⟨(q, c), hq6, hc7⟩ wr hJ (by rw [bpL_len]; exact hlt)
      rw [e6] at hd ⊢
      have HQ : Hid (q = 6 - m ∧ (6 : Int) - (m : Int) = (q : Int)) := ⟨hq, e6⟩
      have hq0 : (0 : Int) ≤ (q : Int) := by omega
      have hqi : (q : Int) < 7 := by omega
      simp only [bpE] at hy
      clear hq e6
      gi_wp2
      refine ⟨(fun h => by cases h), hR.mono ?_⟩
      rintro e W3 (⟨rfl, hJ3, hs3⟩ | ⟨rfl, hJx3⟩)
      · gi_wp2
        go_roundw
        case rel =>
          obtain ⟨hq, e6⟩ := HQ.out
          refine ⟨m + 1, by omega, by go_num, ?_, hS.trans hs3⟩
          rw [bpL]
          have hcc := Hc.out
          subst hq
          subst hcc
          exact hJ3
        case measure => (simp [intOf]; try omega)
      · gi_wp2
        refine bodyPost_ret (results_none rfl _ _ _) rfl ?_
        exact ⟨⟨_, rfl⟩, .inr ⟨_, trivial, hJx3⟩⟩
    · have hd : decide ((0 : Int) ≤ 6 - (m : Int)) = false := by simp; omega
      obtain rfl : m = 7 := by omega
      gi_wp2
      go_end0
      exact ⟨⟨_, rfl⟩, .inl ⟨_, rfl, hJ⟩⟩

end Go.Proofs.Ytmaplmgecohjbaa
