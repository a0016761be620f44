/- The walk of friendly. -/
import Derived.Test.YtlmjlffipinjiaaDoorSP1
import Derived.RangeFuncBound
import Derived.RangeFuncCalls
import Derived.OwnWalkIn
import Derived.TacticsInMore
import Derived.LoopNIn
import Derived.LoopIn
import Derived.Shelf.Abstract
/- The walk of pairs. -/
namespace Go.Proofs.YtlmjlffipinjiaaDoor
open Go.RowKit

attribute [local go_sem] Oper.semAt_some
theorem wideNo {p : Prop} (h : Fence.wide.depth.isSome = true) : p := by cases h
def natOf : Value → Nat
  | .int _ n => n.toNat
  | _ => 0
set_option maxRecDepth 100000 in
set_option maxHeartbeats 4000000 in
theorem pairs_runs (N n : Nat) (hN : N ≤ 32) : PrRuns n Tryd.prog 26 N := by
  intro l J Jx W hY hJ0
  have HY : Hid (∀ (i x : Nat) (A : World) (m : Nat), (prL N)[i]? = some x → J i A → YieldAt Fence.wide m Tryd.prog l #[.int .i64 ((x / 32 : Nat) : Int), .int .i64 ((x % 32 : Nat) : Int)] A fun e B => (e = .returned (.bool true) ∧ J (i + 1) B) ∨ (e = .returned (.bool false) ∧ Jx B)) := fun i x A m hx hA => YieldAt.anyP (hY i x A hx hA) m
  clear hY
  refine callsIn_of_wp Tryd.func26 rfl trivial ?_ rfl
  simp only [Tryd.ntmps26, List.size_toArray, List.length_cons, List.length_nil, Nat.reduceAdd, Nat.reduceSub, Array.replicate_succ, Array.replicate_zero, List.push_toArray, List.append_toArray, List.nil_append, List.cons_append]
  gi_wp2
  refine wpIn_loop (fun a A => ∃ (u4 u5 u8 u9 u10 u11 u12 u13 u14 u15 u16 u17 u18 u19 u20 u21 u22 : Value) (c : Nat), a = { tmps := #[.int .i64 (N : Int), .func (.yield l) #[] #[], undef, undef, u4, u5, .int .i64 (N : Int), .int .i64 (c : Int), u8, u9, u10, u11, u12, u13, u14, u15, u16, u17, u18, u19, u20, u21, u22], defers := [] } ∧ c ≤ N ∧ J (prC N c) A) (fun a _ => N - natOf (a.tmps.getD 7 undef)) ?start ?round
  case start => exact ⟨undef, undef, undef, undef, undef, undef, undef, undef, undef, undef, undef, undef, undef, undef, undef, undef, undef, 0, rfl, Nat.zero_le _, hJ0⟩
  case round =>
    rintro a A ⟨u4, u5, u8, u9, u10, u11, u12, u13, u14, u15, u16, u17, u18, u19, u20, u21, u22, c, rfl, hc, hJA⟩
    by_cases hlt : c < N
    · have hd : decide ((c : Int) < (N : Int)) = true := by simp; omega
      have hc32 : (c : Int) + 1 ≤ 100 := by omega
      gi_wp2
      refine wpIn_loop (fun a A => ∃ (u12 u13 u14 u15 u16 u17 u18 u19 u20 u21 u22 : Value) (b : Nat), a = { tmps := #[.int .i64 (N : Int), .func (.yield l) #[] #[], undef, undef, .int .i64 (c : Int), .int .i64 (b : Int), .int .i64 (N : Int), .int .i64 (c : Int), .bool true, .int .i64 (c : Int), .int .i64 (c : Int), .int .i64 ((c : Int) + 1), u12, u13, u14, u15, u16, u17, u18, u19, u20, u21, u22], defers := [] } ∧ c < b ∧ b ≤ N ∧ J (prC N c + (b - c - 1)) A) (fun a _ => N - natOf (a.tmps.getD 5 undef)) ?start2 ?round2
      case start2 => exact ⟨u12, u13, u14, u15, u16, u17, u18, u19, u20, u21, u22, c + 1, by simp, by omega, by omega, by rw [show c + 1 - c - 1 = 0 by omega]; exact hJA⟩
      case round2 =>
        rintro a A ⟨u12, u13, u14, u15, u16, u17, u18, u19, u20, u21, u22, b, rfl, hb1, hb2, hJB⟩
        by_cases hlb : b < N
        · have hdb : decide ((b : Int) < (N : Int)) = true := by simp; omega
          have hb32 : (b : Int) + 1 ≤ 100 := by omega
          have hx := prL_at (n := N) (a := c) (i := b - c - 1) hlt (by omega)
          rw [show c * 32 + (c + 1 + (b - c - 1)) = c * 32 + b by omega] at hx
          have hR := HY.out _ _ A (n - 1) hx hJB
          rw [show (c * 32 + b) / 32 = c by omega, show (c * 32 + b) % 32 = b by omega] at hR
          obtain ⟨fn, tmps, assign, body, hy, hR⟩ := hR
          gi_wp2
          refine ⟨(fun h => wideNo h), hR.mono ?_⟩
          rintro e B (⟨rfl, hJ1⟩ | ⟨rfl, hJx1⟩)
          · gi_wp2
            refine ⟨⟨_, _, _, _, _, _, _, _, _, _, _, b + 1, rfl, by omega, by omega, ?_⟩, ?_⟩
            · rw [show prC N c + (b + 1 - c - 1) = prC N c + (b - c - 1) + 1 by omega]
              exact hJ1
            · simp [natOf]
              omega
          · gi_wp2
            exact bodyPost_ret (results_none rfl _ _ _) rfl ⟨⟨_, rfl⟩, .inr hJx1⟩
        · have hdb : decide ((b : Int) < (N : Int)) = false := by simp; omega
          obtain rfl : b = N := by omega
          gi_wp2
          refine ⟨⟨_, _, _, _, _, _, _, _, _, _, _, _, _, _, _, _, _, c + 1, rfl, by omega, ?_⟩, ?_⟩
          · rw [prC_succ, show b - 1 - c = b - c - 1 by omega]
            exact hJB
          · simp [natOf]
            omega
    · have hd : decide ((c : Int) < (N : Int)) = false := by simp; omega
      obtain rfl : c = N := by omega
      gi_wp2
      exact bodyPost_end (results_none rfl _ _ _) rfl ⟨⟨_, rfl⟩, .inl hJA⟩
end Go.Proofs.YtlmjlffipinjiaaDoor

namespace Go.Proofs.YtlmjlffipinjiaaDoor
open Go.RowKit Go.Shelf

attribute [local go_sem] Oper.semAt_some
theorem wpIn_loadRow {F : Fence} {n : Nat} {P : Program} {o : Oper} {a : Act} {w : World} {K : Act → World → Prop} {Q : Exit → Act → World → Prop} (ty : TypeId) (x : Operand) (ho : o.op = .load ty x)
    (g : Nat) (hx : a.eval x = .pointer (some ⟨g, 0, none⟩)) (t : TypeId) (cs : Array Value) (fr : Nat × Nat) (d : TypeDesc) (hg : w.heap[g]? = some (.cells cs t fr))
    (hu : P.underlying ty = some d) (hd : (match d with | .struct _ | .array _ _ => true | _ => false) = true) (hi : (P.info? ty).map (·.size) = some cs.size)
    (h : K (a.put o.dst (.agg cs)) w) : o.wpIn F n P a w K Q := by
  unfold Oper.wpIn
  refine ⟨fun f hf => ?_, ?_⟩
  · simp [Oper.about, ho] at hf
  · rw [Oper.semAt_plain F _ _ (by rw [ho]; intro c hc'; cases hc')]
    unfold execOp
    simp only [ho, hx, Instr.loadAt, Instr.sureAddr, Sem.run_bind, Sem.run_pure, Result.andThen_ok, run_loadVar_row w g t ty cs fr d hg hu hd hi]
    exact h
theorem wpListIn_loadRow {F : Fence} {n : Nat} {P : Program} {ops : Array Oper} {rest : List Oper} {o : Oper} {a : Act} {w : World} {Q : Exit → Act → World → Prop} (hgd : o.guard = none) (ty : TypeId) (x : Operand) (ho : o.op = .load ty x)
    (g : Nat) (hx : a.eval x = .pointer (some ⟨g, 0, none⟩)) (t : TypeId) (cs : Array Value) (fr : Nat × Nat) (d : TypeDesc) (hg : w.heap[g]? = some (.cells cs t fr))
    (hu : P.underlying ty = some d) (hd : (match d with | .struct _ | .array _ _ => true | _ => false) = true) (hi : (P.info? ty).map (·.size) = some cs.size)
    (h : wpListIn F n P ops Q rest (a.put o.dst (.agg cs)) w) : wpListIn F n P ops Q (o :: rest) a w :=
  wpListIn_plain hgd fun _ hK => wpIn_loadRow ty x ho g hx t cs fr d hg hu hd hi (hK _ _ h)
theorem und45 : ∃ fs, Tryd.prog.underlying 47 = some (.struct fs) := ⟨_, Tryd.underlying47⟩
theorem inf45 (n : Int) (f : Nat → Nat) : (Tryd.prog.info? 47).map (·.size) = some (gRow n f).size := by rw [gRow_size]; kernel_rfl
theorem res_bool {fn : Func} {a : Tmp} {tmps : Array Value} {w : World} {g : Nat} {q : Bool} (h : fn.results = #[.cell a 4]) (p : tmps.getD a undef = .pointer (some ⟨g, 0, none⟩)) (h1 : Boxed w g 4 (.bool q)) :
    (results fn tmps).run Tryd.prog w = .ok (.bool q) w := by
  have e1 := h1.cell
  rw [Array.getD_eq_getD_getElem?] at p
  simp [results, h, go_sem, p, e1]
theorem boxB {W W' : World} {B n : Nat} {t : TypeId} {v : Value} (h : Boxed W B t v) (hb : Below n W W') (hn : B < n) : Boxed W' B t v := (hb.block B hn).trans h
theorem GrW.below {W W' : World} {g n : Nat} {N : Int} {f : Nat → Nat} (h : GrW W g N f) (hb : Below n W W') (hn : g < n) : GrW W' g N f := (hb.block g hn).trans h
/-- What is kept while pairs are looked at: the graph's box, the answer's box. -/
structure PrI (w : World) (N : Int) (f : Nat → Nat) (q : Bool) (A : World) : Prop where
  gr : GrW A w.heap.size N f
  bx : Boxed A (w.heap.size + 1) 4 (.bool q)
  bw : Below w.heap.size w A
theorem PrI.mv {w A B : World} {N : Int} {f : Nat → Nat} {q : Bool} (h : PrI w N f q A) (hb : Below (w.heap.size + 2) A B) : PrI w N f q B :=
  ⟨h.gr.below hb (by omega), boxB h.bx hb (by omega), h.bw.trans (hb.mono (by omega))⟩
theorem PrI.put {w A : World} {N : Int} {f : Nat → Nat} {q : Bool} (h : PrI w N f q A) (r : Bool) : PrI w N f r (A.setCell ⟨w.heap.size + 1, 0, none⟩ (.bool r)) :=
  ⟨(heap_setCell_other A ⟨w.heap.size + 1, 0, none⟩ w.heap.size _ (by show w.heap.size ≠ w.heap.size + 1; omega)).trans h.gr, h.bx.set _, h.bw.setCell (p := ⟨w.heap.size + 1, 0, none⟩) (by show w.heap.size ≤ w.heap.size + 1; omega) _⟩

end Go.Proofs.YtlmjlffipinjiaaDoor
