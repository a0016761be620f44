/- What Other tells. -/
import Derived.Test.YtlmjlffipinjiabDoorSP1
import Derived.RangeFuncBound
import Derived.RangeFuncCalls
import Derived.OwnWalkIn
import Derived.TacticsInMore
import Derived.LoopNIn
import Derived.LoopIn
import Derived.Shelf.Abstract
import Derived.Shelf.RegionOpen
import Derived.Stop.RegionWithIn
import Derived.Deep.RegionWith
import Derived.Deep.RegionHeld3
/- The walk of open. -/
/- The walk of friendly. -/
/- The walk of pairs. -/
namespace Go.Proofs.YtlmjlffipinjiabDoor.Sg
open Go.RowKit

attribute [local go_sem] Oper.semAt_some
theorem wideNo {p : Prop} (h : Fence.wide.depth.isSome = true) : p := by cases h
def natOf : Value → Nat
  | .int _ n => n.toNat
  | _ => 0
set_option maxRecDepth 100000 in
set_option maxHeartbeats 4000000 in
theorem pairs_runs (N n : Nat) (hN : N ≤ 32) : PrRuns n Tryd.prog 66 N := by
  intro l J Jx W hY hJ0
  have HY : Hid (∀ (i x : Nat) (A : World) (m : Nat), (prL N)[i]? = some x → J i A → YieldAt Fence.wide m Tryd.prog l #[.int .i64 ((x / 32 : Nat) : Int), .int .i64 ((x % 32 : Nat) : Int)] A fun e B => (e = .returned (.bool true) ∧ J (i + 1) B) ∨ (e = .returned (.bool false) ∧ Jx B)) := fun i x A m hx hA => YieldAt.anyP (hY i x A hx hA) m
  clear hY
  refine callsIn_of_wp Tryd.func66 rfl trivial ?_ rfl
  simp only [Tryd.ntmps66, List.size_toArray, List.length_cons, List.length_nil, Nat.reduceAdd, Nat.reduceSub, Array.replicate_succ, Array.replicate_zero, List.push_toArray, List.append_toArray, List.nil_append, List.cons_append]
  gi_wp2
  refine wpIn_loop (fun a A => ∃ (u4 u5 u8 u9 u10 u11 u12 u13 u14 u15 u16 u17 u18 u19 u20 u21 u22 : Value) (c : Nat), a = { tmps := #[.int .i64 (N : Int), .func (.yield l) #[] #[], undef, undef, u4, u5, .int .i64 (N : Int), .int .i64 (c : Int), u8, u9, u10, u11, u12, u13, u14, u15, u16, u17, u18, u19, u20, u21, u22], defers := [] } ∧ c ≤ N ∧ J (prC N c) A) (fun a _ => N - natOf (a.tmps.getD 7 undef)) ?start ?round
  case start => exact ⟨undef, undef, undef, undef, undef, undef, undef, undef, undef, undef, undef, undef, undef, undef, undef, undef, undef, 0, rfl, Nat.zero_le _, hJ0⟩
  case round =>
    rintro a A ⟨u4, u5, u8, u9, u10, u11, u12, u13, u14, u15, u16, u17, u18, u19, u20, u21, u22, c, rfl, hc, hJA⟩
    by_cases hlt : c < N
    · have hd : decide ((c : Int) < (N : Int)) = true := by simp; omega
      have hc32 : (c : Int) + 1 ≤ 100 := by omega
      gi_wp2
      refine wpIn_loop (fun a A => ∃ (u12 u13 u14 u15 u16 u17 u18 u19 u20 u21 u22 : Value) (b : Nat), a = { tmps := #[.int .i64 (N : Int), .func (.yield l) #[] #[], undef, undef, .int .i64 (c : Int), .int .i64 (b : Int), .int .i64 (N : Int), .int .i64 (c : Int), .bool true, .int .i64 (c : Int), .int .i64 (c : Int), .int .i64 ((c : Int) + 1), u12, u13, u14, u15, u16, u17, u18, u19, u20, u21, u22], defers := [] } ∧ c < b ∧ b ≤ N ∧ J (prC N c + (b - c - 1)) A) (fun a _ => N - natOf (a.tmps.getD 5 undef)) ?start2 ?round2
      case start2 => exact ⟨u12, u13, u14, u15, u16, u17, u18, u19, u20, u21, u22, c + 1, by simp, by omega, by omega, by rw [show c + 1 - c - 1 = 0 by omega]; exact hJA⟩
      case round2 =>
        rintro a A ⟨u12, u13, u14, u15, u16, u17, u18, u19, u20, u21, u22, b, rfl, hb1, hb2, hJB⟩
        by_cases hlb : b < N
        · have hdb : decide ((b : Int) < (N : Int)) = true := by simp; omega
          have hb32 : (b : Int) + 1 ≤ 100 := by omega
          have hx := prL_at (n := N) (a := c) (i := b - c - 1) hlt (by omega)
          rw [show c * 32 + (c + 1 + (b - c - 1)) = c * 32 + b by omega] at hx
          have hR := HY.out _ _ A (n - 1) hx hJB
          rw [show (c * 32 + b) / 32 = c by omega, show (c * 32 + b) % 32 = b by omega] at hR
          obtain ⟨fn, tmps, assign, body, hy, hR⟩ := hR
          gi_wp2
          refine ⟨(fun h => wideNo h), hR.mono ?_⟩
          rintro e B (⟨rfl, hJ1⟩ | ⟨rfl, hJx1⟩)
          · gi_wp2
            refine ⟨⟨_, _, _, _, _, _, _, _, _, _, _, b + 1, rfl, by omega, by omega, ?_⟩, ?_⟩
            · rw [show prC N c + (b + 1 - c - 1) = prC N c + (b - c - 1) + 1 by omega]
              exact hJ1
            · simp [natOf]
              omega
          · gi_wp2
            exact bodyPost_ret (results_none rfl _ _ _) rfl ⟨⟨_, rfl⟩, .inr hJx1⟩
        · have hdb : decide ((b : Int) < (N : Int)) = false := by simp; omega
          obtain rfl : b = N := by omega
          gi_wp2
          refine ⟨⟨_, _, _, _, _, _, _, _, _, _, _, _, _, _, _, _, _, c + 1, rfl, by omega, ?_⟩, ?_⟩
          · rw [prC_succ, show b - 1 - c = b - c - 1 by omega]
            exact hJB
          · simp [natOf]
            omega
    · have hd : decide ((c : Int) < (N : Int)) = false := by simp; omega
      obtain rfl : c = N := by omega
      gi_wp2
      exact bodyPost_end (results_none rfl _ _ _) rfl ⟨⟨_, rfl⟩, .inl hJA⟩
end Go.Proofs.YtlmjlffipinjiabDoor.Sg

namespace Go.Proofs.YtlmjlffipinjiabDoor.Sg
open Go.RowKit Go.Shelf

attribute [local go_sem] Oper.semAt_some
theorem wpIn_loadRow {F : Fence} {n : Nat} {P : Program} {o : Oper} {a : Act} {w : World} {K : Act → World → Prop} {Q : Exit → Act → World → Prop} (ty : TypeId) (x : Operand) (ho : o.op = .load ty x)
    (g : Nat) (hx : a.eval x = .pointer (some ⟨g, 0, none⟩)) (t : TypeId) (cs : Array Value) (fr : Nat × Nat) (d : TypeDesc) (hg : w.heap[g]? = some (.cells cs t fr))
    (hu : P.underlying ty = some d) (hd : (match d with | .struct _ | .array _ _ => true | _ => false) = true) (hi : (P.info? ty).map (·.size) = some cs.size)
    (h : K (a.put o.dst (.agg cs)) w) : o.wpIn F n P a w K Q := by
  unfold Oper.wpIn
  refine ⟨fun f hf => ?_, ?_⟩
  · simp [Oper.about, ho] at hf
  · rw [Oper.semAt_plain F _ _ (by rw [ho]; intro c hc'; cases hc')]
    unfold execOp
    simp only [ho, hx, Instr.loadAt, Instr.sureAddr, Sem.run_bind, Sem.run_pure, Result.andThen_ok, run_loadVar_row w g t ty cs fr d hg hu hd hi]
    exact h
theorem wpListIn_loadRow {F : Fence} {n : Nat} {P : Program} {ops : Array Oper} {rest : List Oper} {o : Oper} {a : Act} {w : World} {Q : Exit → Act → World → Prop} (hgd : o.guard = none) (ty : TypeId) (x : Operand) (ho : o.op = .load ty x)
    (g : Nat) (hx : a.eval x = .pointer (some ⟨g, 0, none⟩)) (t : TypeId) (cs : Array Value) (fr : Nat × Nat) (d : TypeDesc) (hg : w.heap[g]? = some (.cells cs t fr))
    (hu : P.underlying ty = some d) (hd : (match d with | .struct _ | .array _ _ => true | _ => false) = true) (hi : (P.info? ty).map (·.size) = some cs.size)
    (h : wpListIn F n P ops Q rest (a.put o.dst (.agg cs)) w) : wpListIn F n P ops Q (o :: rest) a w :=
  wpListIn_plain hgd fun _ hK => wpIn_loadRow ty x ho g hx t cs fr d hg hu hd hi (hK _ _ h)
set_option maxRecDepth 100000 in
theorem und45 : ∃ fs, Tryd.prog.underlying 79 = some (.struct fs) := ⟨_, Tryd.underlying79⟩
set_option maxRecDepth 100000 in
theorem inf45 (n : Int) (f : Nat → Nat) : (Tryd.prog.info? 79).map (·.size) = some (gRow n f).size := by rw [gRow_size]; kernel_rfl
set_option maxRecDepth 100000 in
theorem res_bool {fn : Func} {a : Tmp} {tmps : Array Value} {w : World} {g : Nat} {q : Bool} (h : fn.results = #[.cell a 4]) (p : tmps.getD a undef = .pointer (some ⟨g, 0, none⟩)) (h1 : Boxed w g 4 (.bool q)) :
    (results fn tmps).run Tryd.prog w = .ok (.bool q) w := by
  have e1 := h1.cell
  rw [Array.getD_eq_getD_getElem?] at p
  simp [results, h, go_sem, p, e1]
theorem boxB {W W' : World} {B n : Nat} {t : TypeId} {v : Value} (h : Boxed W B t v) (hb : Below n W W') (hn : B < n) : Boxed W' B t v := (hb.block B hn).trans h
theorem GrW.below {W W' : World} {g n : Nat} {N : Int} {f : Nat → Nat} (h : GrW W g N f) (hb : Below n W W') (hn : g < n) : GrW W' g N f := (hb.block g hn).trans h
/-- What is kept while pairs are looked at: the graph's box, the answer's box. -/
structure PrI (w : World) (N : Int) (f : Nat → Nat) (q : Bool) (A : World) : Prop where
  gr : GrW A w.heap.size N f
  bx : Boxed A (w.heap.size + 1) 4 (.bool q)
  bw : Below w.heap.size w A
theorem PrI.mv {w A B : World} {N : Int} {f : Nat → Nat} {q : Bool} (h : PrI w N f q A) (hb : Below (w.heap.size + 2) A B) : PrI w N f q B :=
  ⟨h.gr.below hb (by omega), boxB h.bx hb (by omega), h.bw.trans (hb.mono (by omega))⟩
theorem PrI.put {w A : World} {N : Int} {f : Nat → Nat} {q : Bool} (h : PrI w N f q A) (r : Bool) : PrI w N f r (A.setCell ⟨w.heap.size + 1, 0, none⟩ (.bool r)) :=
  ⟨(heap_setCell_other A ⟨w.heap.size + 1, 0, none⟩ w.heap.size _ (by show w.heap.size ≠ w.heap.size + 1; omega)).trans h.gr, h.bx.set _, h.bw.setCell (p := ⟨w.heap.size + 1, 0, none⟩) (by show w.heap.size ≤ w.heap.size + 1; omega) _⟩

end Go.Proofs.YtlmjlffipinjiabDoor.Sg

/- The walk of mutual. -/
namespace Go.Proofs.YtlmjlffipinjiabDoor.Sg
open Go.RowKit Go.Shelf

attribute [local go_sem] Oper.semAt_some
theorem stepIn_loadRow {F : Fence} {n : Nat} {P : Program} {ops : Array Oper} {E : Prop} {o : Oper} {a : Act} {w : World} {K : Act → World → Prop} {Q : Exit → Act → World → Prop} (hgd : o.guard = none) (ty : TypeId) (x : Operand) (ho : o.op = .load ty x)
    (g : Nat) (hx : a.eval x = .pointer (some ⟨g, 0, none⟩)) (t : TypeId) (cs : Array Value) (fr : Nat × Nat) (d : TypeDesc) (hg : w.heap[g]? = some (.cells cs t fr))
    (hu : P.underlying ty = some d) (hd : (match d with | .struct _ | .array _ _ => true | _ => false) = true) (hi : (P.info? ty).map (·.size) = some cs.size)
    (h : K (a.put o.dst (.agg cs)) w) : if Region.wanted o (yielded ops a.tmps) = true then Oper.wpIn F n P o a w K Q else E := by
  rw [if_pos (by simp [Region.wanted, hgd])]
  exact wpIn_loadRow ty x ho g hx t cs fr d hg hu hd hi h
/-- In a round operations that defer nothing are carried out as everywhere. -/
theorem anyIn_round {F : Fence} {n : Nat} {P : Program} {md : Region.Mode} {ops : Array Oper} {Q : Exit → Act → World → Prop} (l : Nat) (hd : ∀ (i : Nat) (o : Oper), ops[i]? = some o → ∀ c, o.op ≠ .defer c) :
    ∀ (fuel : Nat) (listed : Array Bool) (a : Act) (w : World), F.round = none → wpAnyIn F n P md ops Q fuel listed a w → wpAnyIn (F.inRound l) n P md ops Q fuel listed a w := by
  intro fuel
  induction fuel with
  | zero => intro listed a w _ h; exact h
  | succ fuel ih =>
    intro listed a w hro h
    refine ⟨h.1, fun i hi => ?_⟩
    have h2 := h.2 i hi
    unfold wpOpIn at h2 ⊢
    cases ho : ops[i]? with
    | none => rw [ho] at h2; exact ih _ _ _ hro h2
    | some o =>
      rw [ho] at h2
      simp only at h2 ⊢
      by_cases hw : Region.wanted o (yielded ops a.tmps) = true
      · rw [if_pos hw] at h2 ⊢
        have h3 := Oper.wpIn_mono (fun a w h => ih _ a w hro h) h2
        refine ⟨h3.1, ?_⟩
        have h4 := h3.2
        rw [Oper.semAt_eq _ _ _ (hd i o ho)] at h4 ⊢
        exact h4
      · rw [if_neg hw] at h2 ⊢
        exact ⟨h2.1, ih _ _ _ hro h2.2⟩
/-- No place is joined to itself, and none to one that is not joined to it. -/
def MuB (N : Nat) (f : Nat → Nat) : Prop := (∀ a, a < N → (f a).testBit a = false) ∧ ∀ i y : Nat, (prL N)[i]? = some y → (f (y / 32)).testBit (y % 32) = (f (y % 32)).testBit (y / 32)

set_option maxRecDepth 100000 in
set_option maxHeartbeats 8000000 in
theorem mutual_any (N : Nat) (f : Nat → Nat) (w : World) (hN : N ≤ 24) (hf : ∀ a, a < 24 → f a < 2 ^ 32) :
    Calls Tryd.prog 69 #[.agg (gRow N f)] w fun e w' => (∃ q : Bool, e = .returned (.bool q) ∧ (q = true ↔ MuB N f)) ∧ Below w.heap.size w w' := by
  obtain ⟨fs, hu⟩ := und45
  refine (callsIn_wide (n := 9)).1 (callsIn_of_wp_marks Tryd.func69 rfl trivial (wpIn_wide.2 ?_) rfl)
  simp only [Tryd.ntmps69, List.size_toArray, List.length_cons, List.length_nil, Nat.reduceAdd, Nat.reduceSub, Array.replicate_succ, Array.replicate_zero, List.push_toArray, List.append_toArray, List.nil_append, List.cons_append]
  have hG0 := (GrW.made w N f)
  have c0 := (hG0.places)
  have c1 := (Below.cell (balloc (w.alloc (.cells (gRow N f) 79)) (.cells #[.bool false] 4)) (p := ⟨w.heap.size, 0, none⟩) (by simp)).trans c0
  have HP0 : Hid (PrI w N f false ((w.alloc (.cells (gRow N f) 79)).alloc (.cells #[.bool false] 4))) := by
    have h := Boxed.new (w.alloc (.cells (gRow N f) 79)) 4 (.bool false)
    rw [World.size_alloc] at h
    exact ⟨hG0.below (balloc _ _) (by simp), h, ((balloc w _).alloc (by simp) _)⟩
  go_wp2
  go_loopw [8] (fun av wr => ∃ (a : Nat), av = .int .i64 (a : Int) ∧ a ≤ N ∧ Hid (∀ a', a' < a → (f a').testBit a' = false) ∧ PrI w N f false wr) (fun av _ => (N - intOf av).toNat)
  case atStart => exact ⟨0, rfl, by omega, (fun a' h => absurd h (by omega) : ∀ a', a' < 0 → _), HP0.out⟩
  case round =>
    clear hG0 c0 c1 HP0
    obtain ⟨a, rfl, ha, HA, hP⟩ := hrel
    have hgr := hP.gr
    by_cases hlt : a < N
    · have hda : decide ((a : Int) < (N : Int)) = true := by simp; omega
      have CJ := joined_any N f a a wr (by omega) (by omega) (hf _ (by omega))
      obtain ⟨s, Hs⟩ : ∃ s, Hid ((f a).testBit a = s) := ⟨_, rfl⟩
      rw [Hs.out] at CJ
      have HP : Hid (PrI w N f false wr) := hP
      have hlw : w.heap.size + 1 < wr.heap.size := hP.bx.lt
      cases s with
      | true =>
        go_wp2_with (first
          | (refine wpList_load_row rfl 79 _ rfl w.heap.size rfl 79 _ (0, 0) _ hgr hu rfl (inf45 _ _) ?_)
          | (go_at_call 34; refine CJ.mono ?_; rintro e w2 ⟨rfl, hb2⟩; clear CJ; have hP2 := HP.out.mv (hb2.mono (by omega)); have k2 := hP2.bx.cell; have k3 := hP2.bx.frozen))
        have hP3 := hP2.put false
        exact ⟨_, res_bool rfl rfl hP3.bx, ⟨false, rfl, by simp; intro h; exact absurd (h.1 a hlt) (by rw [Hs.out]; simp)⟩, hP3.bw⟩
      | false =>
        go_wp2_with (first
          | (refine wpList_load_row rfl 79 _ rfl w.heap.size rfl 79 _ (0, 0) _ hgr hu rfl (inf45 _ _) ?_)
          | (go_at_call 34; refine CJ.mono ?_; rintro e w2 ⟨rfl, hb2⟩; clear CJ; have hP2 := HP.out.mv (hb2.mono (by omega))))
        go_roundw
        case rel =>
          refine ⟨a + 1, by go_num, by omega, (fun a' h => ?_ : ∀ a', a' < a + 1 → _), hP2⟩
          by_cases e : a' = a
          · subst e; exact Hs.out
          · exact HA.out a' (by omega)
        case measure => simp [intOf]; omega
    · have hda : decide ((a : Int) < (N : Int)) = false := by simp; omega
      obtain rfl : a = N := by omega
      have c2 := hgr.places
      have HP : Hid (PrI w a f false wr) := hP
      go_wp2
      have hS : w.heap.size + 2 ≤ wr.heap.size := hP.bx.lt
      refine (wpIn_wide (n := 9)).1 (wpIn_pairs (N := a) (gf := 66) rfl (enters_of Tryd.func66 (by kernel_rfl) rfl) rfl (pairs_runs a _ (by omega))
        (fun i B => (∀ j y : Nat, j < i → (prL a)[j]? = some y → (f (y / 32)).testBit (y % 32) = (f (y % 32)).testBit (y / 32)) ∧ PrI w a f false B)
        (fun B => (¬ MuB a f) ∧ PrI w a f false B)
        (fun i A B h hb => ⟨h.1, h.2.mv (hb.mono hS)⟩) (fun A B h hb => ⟨h.1, h.2.mv (hb.mono hS)⟩) ⟨fun j y h => absurd h (by omega), HP.out⟩
        ?a1 ?assign ?body ?done ?stop)
      case assign =>
        intro l x W K _ hK
        unfold encP
        gi_wp2
        exact hK
      case body =>
        rintro i x B hx ⟨g1, g2⟩ hlt2
        obtain ⟨p1, p2⟩ := prL_at' (by omega) hx
        have HX : Hid ((prL a)[i]? = some x) := hx
        have HG1 : Hid (∀ j y : Nat, j < i → (prL a)[j]? = some y → (f (y / 32)).testBit (y % 32) = (f (y % 32)).testBit (y / 32)) := g1
        obtain ⟨s, Hs⟩ : ∃ s, Hid ((f (x / 32)).testBit (x % 32) = s) := ⟨_, rfl⟩
        obtain ⟨t, Ht⟩ : ∃ t, Hid ((f (x % 32)).testBit (x / 32) = t) := ⟨_, rfl⟩
        have C1 := joined_any a f (x / 32) (x % 32) B.drew (by omega) (by omega) (hf _ (by omega))
        have HC2 : Hid (∀ W, Calls Tryd.prog 34 #[.agg (gRow a f), .int .i64 ((x % 32 : Nat) : Int), .int .i64 ((x / 32 : Nat) : Int)] W fun e w' => e = .returned (.bool t) ∧ Below W.heap.size W w') := fun W => by
          have := joined_any a f (x % 32) (x / 32) W (by omega) (by omega) (hf _ (by omega))
          rwa [Ht.out] at this
        rw [Hs.out] at C1
        have hgr1 : GrW B.drew w.heap.size a f := g2.gr
        have HG2 : Hid (PrI w a f false B.drew) := (⟨g2.gr, g2.bx, g2.bw.drew⟩ : PrI w a f false B.drew)
        have HL : Hid (w.heap.size + 2 ≤ B.drew.heap.size) := (g2.bx.lt : w.heap.size + 2 ≤ B.heap.size)
        have HL2 : Hid (wr.heap.size + 1 < B.drew.heap.size) := hlt2
        by_cases hst : s = t
        · have hd : (s != t) = false := by simp [hst]
          have HE : Hid (∀ A2 A3 : World, Below B.drew.heap.size B.drew A2 → Below A2.heap.size A2 A3 → (A3.heap[wr.heap.size]? = B.heap[wr.heap.size]? ∧ A3.heap[wr.heap.size + 1]? = B.heap[wr.heap.size + 1]?) ∧ (∀ j y : Nat, j < i + 1 → (prL a)[j]? = some y → (f (y / 32)).testBit (y % 32) = (f (y % 32)).testBit (y / 32)) ∧ PrI w a f false A3) := by
            intro A2 A3 h2 h3
            have h23 := Below.next h2 h3
            have q := HL2.out
            refine ⟨⟨h23.block _ (by omega), h23.block _ (by omega)⟩, fun j y hj hy => ?_, HG2.out.mv (h23.mono HL.out)⟩
            by_cases e : j = i
            · subst e
              rw [HX.out] at hy
              cases hy
              rw [Hs.out, Ht.out, hst]
            · exact HG1.out j y (by omega) hy
          clear hx g1 hlt2 g2
          gi_wp2
          refine wpIn_region_any (by kernel_rfl) (anyIn_round (wr.heap.size + 1) (fun i o h c e => by revert h; revert i; intro i h; have hm := Array.mem_of_getElem? h; simp at hm; rcases hm with rfl | rfl | rfl | rfl | rfl | rfl | rfl | rfl | rfl <;> cases e) _ _ _ _ rfl ?_)
          try (change wpAnyIn _ _ _ _ _ _ _ _ _ (World.drew _))
          refine wpAnyIn_take (i := 1) (v := .int .i64 ((x / 32 : Nat) : Int)) rfl rfl (by kernel_rfl) (by kernel_rfl) (by kernel_rfl) (by intro _ _ _ h; first | exact h | cases h.1) ⟨Or.inl ⟨by rfl, fun w => by go_simp⟩, fun _ => rfl⟩ ?_
          refine wpAnyIn_take (i := 2) (v := .int .i64 ((x % 32 : Nat) : Int)) rfl rfl (by kernel_rfl) (by kernel_rfl) (by kernel_rfl) (by intro _ _ _ h; first | exact h | cases h.1) ⟨Or.inl ⟨by rfl, fun w => by go_simp⟩, fun _ => rfl⟩ ?_
          refine wpAnyIn_take (i := 5) (v := .int .i64 ((x % 32 : Nat) : Int)) rfl rfl (by kernel_rfl) (by kernel_rfl) (by kernel_rfl) (by intro _ _ _ h; first | exact h | cases h.1) ⟨Or.inl ⟨by rfl, fun w => by go_simp⟩, fun _ => rfl⟩ ?_
          refine wpAnyIn_take (i := 6) (v := .int .i64 ((x / 32 : Nat) : Int)) rfl rfl (by kernel_rfl) (by kernel_rfl) (by kernel_rfl) (by intro _ _ _ h; first | exact h | cases h.1) ⟨Or.inl ⟨by rfl, fun w => by go_simp⟩, fun _ => rfl⟩ ?_
          refine wpAnyIn_ready (rs := [0, 4]) (by kernel_rfl) (by simp) (AllReadyIn.cons rfl (fun K hK => ?_) (AllReadyIn.cons rfl (fun K hK => ?_) AllReadyIn.nil))
          · refine stepIn_loadRow rfl 79 _ rfl w.heap.size rfl 79 _ (0, 0) _ hgr1 hu rfl (inf45 _ _) (hK _ _ ?_)
            clear hK K
            refine wpAnyIn_ready (rs := [3, 4]) (by kernel_rfl) (by simp) (AllReadyIn.cons rfl (fun K hK => ?_) (AllReadyIn.cons rfl (fun K hK => ?_) AllReadyIn.nil))
            · go_simp
              refine ⟨trivial, (callsIn_wide.2 C1).mono ?_⟩
              rintro e A2 ⟨rfl, hA2⟩
              refine hK _ _ ?_
              clear hK K
              have hP2 := HG2.out.mv (hA2.mono (by have := HL.out; omega))
              have hgr2 := hP2.gr
              have C2 := HC2.out A2
              refine wpAnyIn_ready (rs := [4]) (by kernel_rfl) (by simp) (AllReadyIn.cons rfl (fun K hK => ?_) AllReadyIn.nil)
              refine stepIn_loadRow rfl 79 _ rfl w.heap.size rfl 79 _ (0, 0) _ hgr2 hu rfl (inf45 _ _) (hK _ _ ?_)
              clear hK K
              refine wpAnyIn_ready (rs := [7]) (by kernel_rfl) (by simp) (AllReadyIn.cons rfl (fun K hK => ?_) AllReadyIn.nil)
              go_simp
              refine ⟨trivial, (callsIn_wide.2 C2).mono ?_⟩
              rintro e A3 ⟨rfl, hA3⟩
              refine hK _ _ ?_
              clear hK K
              refine wpAnyIn_take (i := 8) (v := .bool false) rfl rfl (by kernel_rfl) (by kernel_rfl) (by kernel_rfl) (by intro _ _ _ h; first | exact h | cases h.1) ⟨Or.inl ⟨by rfl, fun w => by first | (go_simp; exact hst) | go_simp⟩, fun _ => rfl⟩ ?_
              refine wpAnyIn_done (by kernel_rfl) ?_ _
              gi_wp2
              exact HE.out A2 A3 hA2 hA3
            · refine stepIn_loadRow rfl 79 _ rfl w.heap.size rfl 79 _ (0, 0) _ hgr1 hu rfl (inf45 _ _) (hK _ _ ?_)
              clear hK K
              refine wpAnyIn_ready (rs := [3]) (by kernel_rfl) (by simp) (AllReadyIn.cons rfl (fun K hK => ?_) AllReadyIn.nil)
              go_simp
              refine ⟨trivial, (callsIn_wide.2 C1).mono ?_⟩
              rintro e A2 ⟨rfl, hA2⟩
              refine hK _ _ ?_
              clear hK K
              have hP2 := HG2.out.mv (hA2.mono (by have := HL.out; omega))
              have hgr2 := hP2.gr
              have C2 := HC2.out A2
              refine wpAnyIn_ready (rs := [7]) (by kernel_rfl) (by simp) (AllReadyIn.cons rfl (fun K hK => ?_) AllReadyIn.nil)
              go_simp
              refine ⟨trivial, (callsIn_wide.2 C2).mono ?_⟩
              rintro e A3 ⟨rfl, hA3⟩
              refine hK _ _ ?_
              clear hK K
              refine wpAnyIn_take (i := 8) (v := .bool false) rfl rfl (by kernel_rfl) (by kernel_rfl) (by kernel_rfl) (by intro _ _ _ h; first | exact h | cases h.1) ⟨Or.inl ⟨by rfl, fun w => by first | (go_simp; exact hst) | go_simp⟩, fun _ => rfl⟩ ?_
              refine wpAnyIn_done (by kernel_rfl) ?_ _
              gi_wp2
              exact HE.out A2 A3 hA2 hA3
          · refine stepIn_loadRow rfl 79 _ rfl w.heap.size rfl 79 _ (0, 0) _ hgr1 hu rfl (inf45 _ _) (hK _ _ ?_)
            clear hK K
            refine wpAnyIn_ready (rs := [0]) (by kernel_rfl) (by simp) (AllReadyIn.cons rfl (fun K hK => ?_) AllReadyIn.nil)
            refine stepIn_loadRow rfl 79 _ rfl w.heap.size rfl 79 _ (0, 0) _ hgr1 hu rfl (inf45 _ _) (hK _ _ ?_)
            clear hK K
            refine wpAnyIn_ready (rs := [3]) (by kernel_rfl) (by simp) (AllReadyIn.cons rfl (fun K hK => ?_) AllReadyIn.nil)
            go_simp
            refine ⟨trivial, (callsIn_wide.2 C1).mono ?_⟩
            rintro e A2 ⟨rfl, hA2⟩
            refine hK _ _ ?_
            clear hK K
            have hP2 := HG2.out.mv (hA2.mono (by have := HL.out; omega))
            have hgr2 := hP2.gr
            have C2 := HC2.out A2
            refine wpAnyIn_ready (rs := [7]) (by kernel_rfl) (by simp) (AllReadyIn.cons rfl (fun K hK => ?_) AllReadyIn.nil)
            go_simp
            refine ⟨trivial, (callsIn_wide.2 C2).mono ?_⟩
            rintro e A3 ⟨rfl, hA3⟩
            refine hK _ _ ?_
            clear hK K
            refine wpAnyIn_take (i := 8) (v := .bool false) rfl rfl (by kernel_rfl) (by kernel_rfl) (by kernel_rfl) (by intro _ _ _ h; first | exact h | cases h.1) ⟨Or.inl ⟨by rfl, fun w => by first | (go_simp; exact hst) | go_simp⟩, fun _ => rfl⟩ ?_
            refine wpAnyIn_done (by kernel_rfl) ?_ _
            gi_wp2
            exact HE.out A2 A3 hA2 hA3
        · have hd : (s != t) = true := by simp [hst]
          have HE : Hid (∀ A2 A3 : World, Below B.drew.heap.size B.drew A2 → Below A2.heap.size A2 A3 → ((A3.setCell ⟨w.heap.size + 1, 0, none⟩ (.bool false)).heap[wr.heap.size]? = B.heap[wr.heap.size]? ∧ (A3.setCell ⟨w.heap.size + 1, 0, none⟩ (.bool false)).heap[wr.heap.size + 1]? = B.heap[wr.heap.size + 1]?) ∧ (¬ MuB a f) ∧ PrI w a f false (A3.setCell ⟨w.heap.size + 1, 0, none⟩ (.bool false))) := by
            intro A2 A3 h2 h3
            have h23 := Below.next h2 h3
            have q := HL2.out
            refine ⟨⟨(heap_setCell_other A3 ⟨w.heap.size + 1, 0, none⟩ _ _ (by show _ ≠ w.heap.size + 1; omega)).trans (h23.block _ (by omega)), (heap_setCell_other A3 ⟨w.heap.size + 1, 0, none⟩ _ _ (by show _ ≠ w.heap.size + 1; omega)).trans (h23.block _ (by omega))⟩, fun M => ?_, (HG2.out.mv (h23.mono HL.out)).put false⟩
            have := M.2 i x HX.out
            rw [Hs.out, Ht.out] at this
            exact hst this
          clear hx g1 hlt2 g2
          gi_wp2
          refine wpIn_region_any (by kernel_rfl) (anyIn_round (wr.heap.size + 1) (fun i o h c e => by revert h; revert i; intro i h; have hm := Array.mem_of_getElem? h; simp at hm; rcases hm with rfl | rfl | rfl | rfl | rfl | rfl | rfl | rfl | rfl <;> cases e) _ _ _ _ rfl ?_)
          try (change wpAnyIn _ _ _ _ _ _ _ _ _ (World.drew _))
          refine wpAnyIn_take (i := 1) (v := .int .i64 ((x / 32 : Nat) : Int)) rfl rfl (by kernel_rfl) (by kernel_rfl) (by kernel_rfl) (by intro _ _ _ h; first | exact h | cases h.1) ⟨Or.inl ⟨by rfl, fun w => by go_simp⟩, fun _ => rfl⟩ ?_
          refine wpAnyIn_take (i := 2) (v := .int .i64 ((x % 32 : Nat) : Int)) rfl rfl (by kernel_rfl) (by kernel_rfl) (by kernel_rfl) (by intro _ _ _ h; first | exact h | cases h.1) ⟨Or.inl ⟨by rfl, fun w => by go_simp⟩, fun _ => rfl⟩ ?_
          refine wpAnyIn_take (i := 5) (v := .int .i64 ((x % 32 : Nat) : Int)) rfl rfl (by kernel_rfl) (by kernel_rfl) (by kernel_rfl) (by intro _ _ _ h; first | exact h | cases h.1) ⟨Or.inl ⟨by rfl, fun w => by go_simp⟩, fun _ => rfl⟩ ?_
          refine wpAnyIn_take (i := 6) (v := .int .i64 ((x / 32 : Nat) : Int)) rfl rfl (by kernel_rfl) (by kernel_rfl) (by kernel_rfl) (by intro _ _ _ h; first | exact h | cases h.1) ⟨Or.inl ⟨by rfl, fun w => by go_simp⟩, fun _ => rfl⟩ ?_
          refine wpAnyIn_ready (rs := [0, 4]) (by kernel_rfl) (by simp) (AllReadyIn.cons rfl (fun K hK => ?_) (AllReadyIn.cons rfl (fun K hK => ?_) AllReadyIn.nil))
          · refine stepIn_loadRow rfl 79 _ rfl w.heap.size rfl 79 _ (0, 0) _ hgr1 hu rfl (inf45 _ _) (hK _ _ ?_)
            clear hK K
            refine wpAnyIn_ready (rs := [3, 4]) (by kernel_rfl) (by simp) (AllReadyIn.cons rfl (fun K hK => ?_) (AllReadyIn.cons rfl (fun K hK => ?_) AllReadyIn.nil))
            · go_simp
              refine ⟨trivial, (callsIn_wide.2 C1).mono ?_⟩
              rintro e A2 ⟨rfl, hA2⟩
              refine hK _ _ ?_
              clear hK K
              have hP2 := HG2.out.mv (hA2.mono (by have := HL.out; omega))
              have hgr2 := hP2.gr
              have C2 := HC2.out A2
              refine wpAnyIn_ready (rs := [4]) (by kernel_rfl) (by simp) (AllReadyIn.cons rfl (fun K hK => ?_) AllReadyIn.nil)
              refine stepIn_loadRow rfl 79 _ rfl w.heap.size rfl 79 _ (0, 0) _ hgr2 hu rfl (inf45 _ _) (hK _ _ ?_)
              clear hK K
              refine wpAnyIn_ready (rs := [7]) (by kernel_rfl) (by simp) (AllReadyIn.cons rfl (fun K hK => ?_) AllReadyIn.nil)
              go_simp
              refine ⟨trivial, (callsIn_wide.2 C2).mono ?_⟩
              rintro e A3 ⟨rfl, hA3⟩
              refine hK _ _ ?_
              clear hK K
              refine wpAnyIn_take (i := 8) (v := .bool true) rfl rfl (by kernel_rfl) (by kernel_rfl) (by kernel_rfl) (by intro _ _ _ h; first | exact h | cases h.1) ⟨Or.inl ⟨by rfl, fun w => by first | (go_simp; exact hst) | go_simp⟩, fun _ => rfl⟩ ?_
              refine wpAnyIn_done (by kernel_rfl) ?_ _
              have hP3 := hP2.mv (hA3.mono (by have := HL.out; have := hA2.size; omega))
              have k2 := hP3.bx.cell
              have k3 := hP3.bx.frozen
              gi_wp2
              exact HE.out A2 A3 hA2 hA3
            · refine stepIn_loadRow rfl 79 _ rfl w.heap.size rfl 79 _ (0, 0) _ hgr1 hu rfl (inf45 _ _) (hK _ _ ?_)
              clear hK K
              refine wpAnyIn_ready (rs := [3]) (by kernel_rfl) (by simp) (AllReadyIn.cons rfl (fun K hK => ?_) AllReadyIn.nil)
              go_simp
              refine ⟨trivial, (callsIn_wide.2 C1).mono ?_⟩
              rintro e A2 ⟨rfl, hA2⟩
              refine hK _ _ ?_
              clear hK K
              have hP2 := HG2.out.mv (hA2.mono (by have := HL.out; omega))
              have hgr2 := hP2.gr
              have C2 := HC2.out A2
              refine wpAnyIn_ready (rs := [7]) (by kernel_rfl) (by simp) (AllReadyIn.cons rfl (fun K hK => ?_) AllReadyIn.nil)
              go_simp
              refine ⟨trivial, (callsIn_wide.2 C2).mono ?_⟩
              rintro e A3 ⟨rfl, hA3⟩
              refine hK _ _ ?_
              clear hK K
              refine wpAnyIn_take (i := 8) (v := .bool true) rfl rfl (by kernel_rfl) (by kernel_rfl) (by kernel_rfl) (by intro _ _ _ h; first | exact h | cases h.1) ⟨Or.inl ⟨by rfl, fun w => by first | (go_simp; exact hst) | go_simp⟩, fun _ => rfl⟩ ?_
              refine wpAnyIn_done (by kernel_rfl) ?_ _
              have hP3 := hP2.mv (hA3.mono (by have := HL.out; have := hA2.size; omega))
              have k2 := hP3.bx.cell
              have k3 := hP3.bx.frozen
              gi_wp2
              exact HE.out A2 A3 hA2 hA3
          · refine stepIn_loadRow rfl 79 _ rfl w.heap.size rfl 79 _ (0, 0) _ hgr1 hu rfl (inf45 _ _) (hK _ _ ?_)
            clear hK K
            refine wpAnyIn_ready (rs := [0]) (by kernel_rfl) (by simp) (AllReadyIn.cons rfl (fun K hK => ?_) AllReadyIn.nil)
            refine stepIn_loadRow rfl 79 _ rfl w.heap.size rfl 79 _ (0, 0) _ hgr1 hu rfl (inf45 _ _) (hK _ _ ?_)
            clear hK K
            refine wpAnyIn_ready (rs := [3]) (by kernel_rfl) (by simp) (AllReadyIn.cons rfl (fun K hK => ?_) AllReadyIn.nil)
            go_simp
            refine ⟨trivial, (callsIn_wide.2 C1).mono ?_⟩
            rintro e A2 ⟨rfl, hA2⟩
            refine hK _ _ ?_
            clear hK K
            have hP2 := HG2.out.mv (hA2.mono (by have := HL.out; omega))
            have hgr2 := hP2.gr
            have C2 := HC2.out A2
            refine wpAnyIn_ready (rs := [7]) (by kernel_rfl) (by simp) (AllReadyIn.cons rfl (fun K hK => ?_) AllReadyIn.nil)
            go_simp
            refine ⟨trivial, (callsIn_wide.2 C2).mono ?_⟩
            rintro e A3 ⟨rfl, hA3⟩
            refine hK _ _ ?_
            clear hK K
            refine wpAnyIn_take (i := 8) (v := .bool true) rfl rfl (by kernel_rfl) (by kernel_rfl) (by kernel_rfl) (by intro _ _ _ h; first | exact h | cases h.1) ⟨Or.inl ⟨by rfl, fun w => by first | (go_simp; exact hst) | go_simp⟩, fun _ => rfl⟩ ?_
            refine wpAnyIn_done (by kernel_rfl) ?_ _
            have hP3 := hP2.mv (hA3.mono (by have := HL.out; have := hA2.size; omega))
            have k2 := hP3.bx.cell
            have k3 := hP3.bx.frozen
            gi_wp2
            exact HE.out A2 A3 hA2 hA3
      case done =>
        rintro B ⟨g1, g2⟩ hK
        have k2 := g2.bx.cell
        have k3 := g2.bx.frozen
        have HG1 : Hid (MuB a f) := ⟨HA.out, fun i y hy => g1 i y (prL_lt hy) hy⟩
        clear g1
        go_wp2
        have hK2 := (heap_setCell_other B ⟨w.heap.size + 1, 0, none⟩ wr.heap.size (.bool true) (by show _ ≠ w.heap.size + 1; omega)).trans hK
        refine ⟨by simp, .inl ⟨_, _, rfl, run_takeDeferred hK2, ?_⟩⟩
        have bP := (g2.put true).mv (bput (n := w.heap.size + 2) _ (.deferred none) (l := wr.heap.size) (by omega))
        exact ⟨_, res_bool rfl rfl bP.bx, ⟨true, rfl, by simpa using HG1.out⟩, bP.bw⟩
      case stop =>
        rintro B ⟨g1, g2⟩ hK
        refine wpIn_wide.2 ?_
        go_wp2
        refine ⟨by simp, .inl ⟨_, _, rfl, run_takeDeferred hK, ?_⟩⟩
        have bP := g2.mv (bput (n := w.heap.size + 2) _ (.deferred none) (l := wr.heap.size) (by omega))
        exact ⟨_, res_bool rfl rfl bP.bx, ⟨false, rfl, by simp; exact g1⟩, bP.bw⟩
end Go.Proofs.YtlmjlffipinjiabDoor.Sg

/- The walk of numbers. -/
namespace Go.Proofs.YtlmjlffipinjiabDoor.Sg
open Go.RowKit Go.Shelf

attribute [local go_sem] Oper.semAt_some
theorem wpListIn_storeRow {F : Fence} {n : Nat} {P : Program} {ops : Array Oper} {rest : List Oper} {o : Oper} {a : Act} {w : World} {Q : Exit → Act → World → Prop} (hgd : o.guard = none) (ty : TypeId) (x y : Operand) (ho : o.op = .store ty x y)
    (g : Nat) (cells : Array Value) (hx : a.eval x = .pointer (some ⟨g, 0, none⟩)) (hy : a.eval y = .agg cells)
    (t : TypeId) (old : Array Value) (hg : w.heap[g]? = some (.cells old t (0, 0))) (hi : (P.info? ty).map (·.size) = some cells.size)
    (hold : old.size = cells.size) (h1 : cells.all (·.oneCell') = true)
    (h : wpListIn F n P ops Q rest (a.put o.dst undef) (w.setRow g cells)) : wpListIn F n P ops Q (o :: rest) a w := by
  refine wpListIn_plain hgd fun K hK => ?_
  unfold Oper.wpIn
  refine ⟨fun f hf => ?_, ?_⟩
  · simp [Oper.about, ho] at hf
  · rw [Oper.semAt_plain F _ _ (by rw [ho]; intro c hc'; cases hc')]
    unfold execOp
    simp only [ho, hx, hy, Instr.storeAt, Instr.sureAddr, Sem.run_bind, Sem.run_pure, Result.andThen_ok, run_storeVar_row w g t ty old cells hg hi hold h1]
    exact hK _ _ h
set_option maxRecDepth 100000 in
theorem infSt (a b c d : Int) : (Tryd.prog.info? 45).map (·.size) = some (#[.int .i64 a, .int .i64 b, .int .i64 c, .int .i64 d] : Array Value).size := by kernel_rfl
theorem str_one (a b c d : Int) : (#[.int .i64 a, .int .i64 b, .int .i64 c, .int .i64 d] : Array Value).all (·.oneCell') = true := by simp [Value.oneCell']
/-- What is kept while pairs are looked at. -/
structure NmI (w : World) (N : Int) (f : Nat → Nat) (dz : Int) (ds : Bool) (nz : Int) (ns : Bool) (fz : Int) (fs : Bool) (A : World) : Prop where
  gr : GrW A w.heap.size N f
  r1 : A.heap[w.heap.size + 1]? = some (.cells #[.int .i64 0, .int .i64 0, .int .i64 0, .int .i64 0] 45 (0, 0))
  r2 : Boxed A (w.heap.size + 1 + 1) 4 (.bool false)
  dl : LvW A (w.heap.size + 1 + 1 + 1) dz ds
  nl : LvW A (w.heap.size + 1 + 1 + 1 + 1) nz ns
  fl : LvW A (w.heap.size + 1 + 1 + 1 + 1 + 1) fz fs
  bw : Below w.heap.size w A
section
variable {w A B : World} {N : Int} {f : Nat → Nat} {dz nz fz : Int} {ds ns fs : Bool}
theorem NmI.mv (h : NmI w N f dz ds nz ns fz fs A) (hb : Below (w.heap.size + 6) A B) : NmI w N f dz ds nz ns fz fs B :=
  ⟨h.gr.below hb (by omega), (hb.block _ (by omega)).trans h.r1, boxB h.r2 hb (by omega), (hb.block _ (by omega)).trans h.dl, (hb.block _ (by omega)).trans h.nl, (hb.block _ (by omega)).trans h.fl, h.bw.trans (hb.mono (by omega))⟩
theorem NmI.lt (h : NmI w N f dz ds nz ns fz fs A) : w.heap.size + 6 ≤ A.heap.size := h.fl.lt
theorem NmI.setD (h : NmI w N f dz ds nz ns fz fs A) (x : Int) : NmI w N f x true nz ns fz fs (A.setRow (w.heap.size + 1 + 1 + 1) #[.int .i64 x, .bool true]) :=
  ⟨(setRow_other A _ _ _ (by omega)).trans h.gr, (setRow_other A _ _ _ (by omega)).trans h.r1, (setRow_other A _ _ _ (by omega)).trans h.r2, setRow_heap A _ _ _ _ _ h.dl, (setRow_other A _ _ _ (by omega)).trans h.nl, (setRow_other A _ _ _ (by omega)).trans h.fl, bsetR h.bw (by omega) _⟩
theorem NmI.setN (h : NmI w N f dz ds nz ns fz fs A) (x : Int) : NmI w N f dz ds x true fz fs (A.setRow (w.heap.size + 1 + 1 + 1 + 1) #[.int .i64 x, .bool true]) :=
  ⟨(setRow_other A _ _ _ (by omega)).trans h.gr, (setRow_other A _ _ _ (by omega)).trans h.r1, (setRow_other A _ _ _ (by omega)).trans h.r2, (setRow_other A _ _ _ (by omega)).trans h.dl, setRow_heap A _ _ _ _ _ h.nl, (setRow_other A _ _ _ (by omega)).trans h.fl, bsetR h.bw (by omega) _⟩
theorem NmI.setF (h : NmI w N f dz ds nz ns fz fs A) (x : Int) : NmI w N f dz ds nz ns x true (A.setRow (w.heap.size + 1 + 1 + 1 + 1 + 1) #[.int .i64 x, .bool true]) :=
  ⟨(setRow_other A _ _ _ (by omega)).trans h.gr, (setRow_other A _ _ _ (by omega)).trans h.r1, (setRow_other A _ _ _ (by omega)).trans h.r2, (setRow_other A _ _ _ (by omega)).trans h.dl, (setRow_other A _ _ _ (by omega)).trans h.nl, setRow_heap A _ _ _ _ _ h.fl, bsetR h.bw (by omega) _⟩
end
/-- The answer in its two boxes. -/
structure AnW (w : World) (P D L M : Int) (q : Bool) (A : World) : Prop where
  r1 : A.heap[w.heap.size + 1]? = some (.cells #[.int .i64 P, .int .i64 D, .int .i64 L, .int .i64 M] 45 (0, 0))
  r2 : Boxed A (w.heap.size + 1 + 1) 4 (.bool q)
  bw : Below w.heap.size w A
theorem AnW.mv {w A B : World} {P D L M : Int} {q : Bool} (h : AnW w P D L M q A) (hb : Below (w.heap.size + 6) A B) : AnW w P D L M q B :=
  ⟨(hb.block _ (by omega)).trans h.r1, boxB h.r2 hb (by omega), h.bw.trans (hb.mono (by omega))⟩
theorem NmI.an {w A : World} {N : Int} {f : Nat → Nat} {dz nz fz : Int} {ds ns fs : Bool} (h : NmI w N f dz ds nz ns fz fs A) (P D L M : Int) (q : Bool) : AnW w P D L M q ((A.setRow (w.heap.size + 1) #[.int .i64 P, .int .i64 D, .int .i64 L, .int .i64 M]).setCell ⟨w.heap.size + 1 + 1, 0, none⟩ (.bool q)) := by
  have h2 : Boxed (A.setRow (w.heap.size + 1) #[.int .i64 P, .int .i64 D, .int .i64 L, .int .i64 M]) (w.heap.size + 1 + 1) 4 (.bool false) := (setRow_other A _ _ _ (by omega)).trans h.r2
  exact ⟨(heap_setCell_other _ ⟨w.heap.size + 1 + 1, 0, none⟩ _ _ (by show _ ≠ w.heap.size + 1 + 1; omega)).trans (setRow_heap A _ _ _ _ _ h.r1), h2.set _, (bsetR h.bw (by omega) _).setCell (p := ⟨w.heap.size + 1 + 1, 0, none⟩) (by show _ ≤ w.heap.size + 1 + 1; omega) _⟩
set_option maxRecDepth 100000 in
theorem res_nums {fn : Func} {a b : Tmp} {tmps : Array Value} {w A : World} {P D L M : Int} {q : Bool} (h : fn.results = #[.cell a 45, .cell b 4]) (p1 : tmps.getD a undef = .pointer (some ⟨w.heap.size + 1, 0, none⟩)) (p2 : tmps.getD b undef = .pointer (some ⟨w.heap.size + 1 + 1, 0, none⟩)) (hA : AnW w P D L M q A) :
    (results fn tmps).run Tryd.prog A = .ok (.tuple #[.agg #[.int .i64 P, .int .i64 D, .int .i64 L, .int .i64 M], .bool q]) A := by
  have e2 := hA.r2.cell
  have c0 : A.cell? ⟨w.heap.size + 1, 0, none⟩ = some (.int .i64 P) := cell_of_row _ _ 0 _ _ _ hA.r1
  have c1 : A.cell? ⟨w.heap.size + 1, 1, none⟩ = some (.int .i64 D) := cell_of_row _ _ 1 _ _ _ hA.r1
  have c2 : A.cell? ⟨w.heap.size + 1, 2, none⟩ = some (.int .i64 L) := cell_of_row _ _ 2 _ _ _ hA.r1
  have c3 : A.cell? ⟨w.heap.size + 1, 3, none⟩ = some (.int .i64 M) := cell_of_row _ _ 3 _ _ _ hA.r1
  rw [Array.getD_eq_getD_getElem?] at p1 p2
  simp [results, h, go_sem, p1, p2, e2, c0, c1, c2, c3]
/-- What is told of the numbers. -/
def NuT (N : Nat) (G : Nat → Nat → Int) (P D L M : Int) (q : Bool) : Prop := (q = true ∧ P = N ∧ StN N D L M G) ∨ (q = false ∧ P = 0 ∧ D = 0 ∧ L = 0 ∧ M = 0 ∧ ¬ ∃ k l m, StN N k l m G)
/-- One more number of a kind: it is held, or the graph is none. -/
theorem Lv.one {n i y : Nat} {G : Nat → Nat → Int} {x z : Int} {s : Bool} (K : Lv n G x i z s) (hn : n ≤ 32) (h : (prL n)[i]? = some y) (h01 : x = 0 ∨ x = 1) (e : G (y / 32) (y % 32) = x) :
    ((if s then z == cmG n G (y / 32) (y % 32) else true) = true → Lv n G x (i + 1) (if s then z else cmG n G (y / 32) (y % 32)) true) ∧ ((if s then z == cmG n G (y / 32) (y % 32) else true) = false → ¬ ∃ k l m, StN n k l m G) := by
  cases s with
  | false => exact ⟨fun _ => K.first h e, fun k => by simp at k⟩
  | true => exact ⟨fun k => K.again h (by simpa using (by simpa using k : z = _).symm), fun k => K.no hn h h01 e (by simpa using fun q => (by simpa using k : ¬ z = _) q.symm)⟩

set_option maxRecDepth 100000 in
set_option maxHeartbeats 16000000 in
theorem numbers_any (N : Nat) (G : Nat → Nat → Int) (f : Nat → Nat) (w : World) (hN1 : 1 ≤ N) (hN : N ≤ 24) (hG : Gr N G) (hfr : ∀ a, a < N → f a = rbG N G a) (hf : ∀ a, a < 24 → f a < 2 ^ 32) :
    Calls Tryd.prog 37 #[.agg (gRow N f)] w fun e w' => (∃ (P D L M : Int) (q : Bool), e = .returned (.tuple #[.agg #[.int .i64 P, .int .i64 D, .int .i64 L, .int .i64 M], .bool q]) ∧ NuT N G P D L M q) ∧ Below w.heap.size w w' := by
  obtain ⟨fs, hu⟩ := und45
  refine (callsIn_wide (n := 9)).1 (callsIn_of_wp_marks Tryd.func37 rfl trivial (wpIn_wide.2 ?_) rfl)
  simp only [Tryd.ntmps37, List.size_toArray, List.length_cons, List.length_nil, Nat.reduceAdd, Nat.reduceSub, Array.replicate_succ, Array.replicate_zero, List.push_toArray, List.append_toArray, List.nil_append, List.cons_append]
  have HDG : Hid (∀ a, a < N → dgG N G a = (pc (f a) : Nat)) := fun a ha => by rw [hfr a ha]; exact rb_deg hG (by omega) ha
  have HCM : Hid (∀ a b, a < N → b < N → cmG N G a b = (pc (f a &&& f b) : Nat)) := fun a b ha hb => by rw [hfr a ha, hfr b hb]; exact rb_cm hG (by omega) ha hb
  have HBT : Hid (∀ a b, a < N → b < N → ((f a).testBit b = true → G a b = 1) ∧ ((f a).testBit b = false → G a b = 0)) := fun a b ha hb => by
    rw [hfr a ha, rb_bit]
    rcases hG.bit a b ha hb with e | e <;> simp [hb, e]
  have HGR : Hid (Gr N G) := hG
  clear hG hfr
  obtain ⟨V, HV⟩ : ∃ V, Hid (V = (((((w.alloc (.cells (gRow N f) 79)).alloc (.cells #[.int .i64 0, .int .i64 0, .int .i64 0, .int .i64 0] 45)).alloc (.cells #[.bool false] 4)).alloc (.cells #[.int .i64 0, .bool false] 123)).alloc (.cells #[.int .i64 0, .bool false] 123)).alloc (.cells #[.int .i64 0, .bool false] 123)) := ⟨_, rfl⟩
  have hI0 : NmI w N f 0 false 0 false 0 false V := by
    have al : ∀ (W : World) (o : Obj) (k : Nat) (x : Obj), W.heap[k]? = some x → (W.alloc o).heap[k]? = some x := fun W o k x h => (Below.heap_alloc W o k (Array.getElem?_eq_some_iff.1 h).1).trans h
    have nw : ∀ (W : World) (cs : Array Value) (t : TypeId) (k : Nat), W.heap.size = k → (W.alloc (.cells cs t)).heap[k]? = some (.cells cs t (0, 0)) := fun W cs t k h => by subst h; exact heap_alloc_new W _
    rw [HV.out]
    refine ⟨?_, ?_, ?_, ?_, ?_, ?_, ?_⟩
    · exact al _ _ _ _ (al _ _ _ _ (al _ _ _ _ (al _ _ _ _ (al _ _ _ _ (GrW.made w N f)))))
    · exact al _ _ _ _ (al _ _ _ _ (al _ _ _ _ (al _ _ _ _ (nw _ _ _ _ (by simp)))))
    · exact al _ _ _ _ (al _ _ _ _ (al _ _ _ _ (nw _ _ _ _ (by simp))))
    · exact al _ _ _ _ (al _ _ _ _ (nw _ _ _ _ (by simp)))
    · exact al _ _ _ _ (nw _ _ _ _ (by simp))
    · exact nw _ _ _ _ (by simp)
    · exact (((((balloc w _).alloc (by simp) _).alloc (by simp; omega) _).alloc (by simp; omega) _).alloc (by simp; omega) _).alloc (by simp; omega) _
  have c1 := hI0.gr.places
  rw [HV.out] at c1
  go_wp2
  rw [← HV.out] at c1 ⊢
  go_loopw [13] (fun av wr => ∃ (a : Nat) (dz : Int) (ds : Bool), av = .int .i64 (a : Int) ∧ a ≤ N ∧ Hid (if ds then 0 < a ∧ ∀ a', a' < a → dgG N G a' = dz else a = 0) ∧ NmI w N f dz ds 0 false 0 false wr) (fun av _ => (N - intOf av).toNat)
  case atStart => exact ⟨0, 0, false, rfl, by omega, (rfl : 0 = 0), hI0⟩
  case round =>
    clear c1 hI0
    obtain ⟨a, dz, ds, rfl, ha, HA, hI⟩ := hrel
    have hgr := hI.gr
    by_cases hlt : a < N
    · have hda : decide ((a : Int) < (N : Int)) = true := by simp; omega
      have CD := degree_any N f a wr (by omega) (hf _ (by omega))
      rw [← HDG.out a hlt] at CD
      obtain ⟨c, Hc⟩ : ∃ c, Hid (dgG N G a = c) := ⟨_, rfl⟩
      rw [Hc.out] at CD
      have HI : Hid (NmI w N f dz ds 0 false 0 false wr) := hI
      have HCH : Hid (∀ A, NmI w N f dz ds 0 false 0 false A → Calls Tryd.prog 70 #[.pointer (some ⟨w.heap.size + 1 + 1 + 1, 0, none⟩), .int .i64 c] A fun e w' => e = .returned (.bool (if ds then dz == c else true)) ∧ Hid (w' = if ds then A else A.setRow (w.heap.size + 1 + 1 + 1) #[.int .i64 c, .bool true])) := fun A h => (holds_any _ _ _ _ A h.dl).mono fun _ _ h => h
      have HU : Hid (∀ A3 A4 : World, A4 = (if ds then A3 else A3.setRow (w.heap.size + 1 + 1 + 1) #[.int .i64 c, .bool true]) → NmI w N f dz ds 0 false 0 false A3 → NmI w N f (if ds then dz else c) true 0 false 0 false A4) := fun A3 A4 e h => by
        subst e
        cases ds
        · exact h.setD c
        · exact h
      obtain ⟨q, Hq⟩ : ∃ q : Bool, Hid ((if ds then dz == c else true) = q) := ⟨_, rfl⟩
      rw [Hq.out] at HCH
      have hlw := hI.lt
      have HLW : Hid (w.heap.size + 6 ≤ wr.heap.size) := hlw
      clear hI hlw
      cases q with
      | true =>
        have HN : Hid (if true then 0 < a + 1 ∧ ∀ a', a' < a + 1 → dgG N G a' = (if ds then dz else c) else a + 1 = 0) := by
          show 0 < a + 1 ∧ ∀ a', a' < a + 1 → dgG N G a' = (if ds then dz else c)
          refine ⟨by omega, fun a' h => ?_⟩
          have h1 := HA.out
          have h2 := Hq.out
          cases ds with
          | true =>
            simp at h1 h2 ⊢
            by_cases e : a' = a
            · subst e; rw [Hc.out, h2]
            · exact h1.2 a' (by omega)
          | false =>
            simp at h1 ⊢
            rw [show a' = a by omega]
            exact Hc.out
        go_wp2_with (first
          | (refine wpList_load_row rfl 79 _ rfl w.heap.size rfl 79 _ (0, 0) _ hgr hu rfl (inf45 _ _) ?_)
          | (go_at_call 71; refine CD.mono ?_; rintro e w2 ⟨rfl, hb2⟩; clear CD; have hI2 := HI.out.mv (hb2.mono HLW.out); have CH := HCH.out w2 hI2)
          | (go_at_call 70; refine CH.mono ?_; rintro e w3 ⟨rfl, hw3⟩; clear CH; have hI3 := HU.out w2 w3 hw3.out hI2))
        go_roundw
        case rel => exact ⟨a + 1, _, true, by go_num, by omega, HN, hI3⟩
        case measure => simp [intOf]; omega
      | false =>
        have HN : Hid (¬ ∃ k l m, StN N k l m G) := by
          rintro ⟨k, l, m, S⟩
          have h1 := HA.out
          have h2 := Hq.out
          cases ds with
          | true =>
            simp at h1 h2
            have := stn_deg S (show 0 < N by omega) hlt
            rw [h1.2 0 h1.1, Hc.out] at this
            exact h2 this
          | false => simp at h2
        go_wp2_with (first
          | (refine wpList_load_row rfl 79 _ rfl w.heap.size rfl 79 _ (0, 0) _ hgr hu rfl (inf45 _ _) ?_)
          | (refine wpList_store_row rfl 45 _ _ rfl (w.heap.size + 1) #[.int .i64 0, .int .i64 0, .int .i64 0, .int .i64 0] rfl rfl 45 _ k1 (infSt _ _ _ _) rfl (str_one _ _ _ _) ?_)
          | (go_at_call 71; refine CD.mono ?_; rintro e w2 ⟨rfl, hb2⟩; clear CD; have hI2 := HI.out.mv (hb2.mono HLW.out); have CH := HCH.out w2 hI2)
          | (go_at_call 70; refine CH.mono ?_; rintro e w3 ⟨rfl, hw3⟩; clear CH; have hI3 := HU.out w2 w3 hw3.out hI2; have k1 := hI3.r1; have k4 : Boxed (w3.setRow (w.heap.size + 1) #[.int .i64 0, .int .i64 0, .int .i64 0, .int .i64 0]) (w.heap.size + 1 + 1) 4 (.bool false) := (setRow_other w3 _ _ _ (by omega)).trans hI3.r2; have k2 := k4.cell; have k3 := k4.frozen))
        have hF := hI3.an 0 0 0 0 false
        exact ⟨_, res_nums rfl rfl rfl hF, ⟨0, 0, 0, 0, false, rfl, .inr ⟨rfl, rfl, rfl, rfl, rfl, HN.out⟩⟩, hF.bw⟩
    · have hda : decide ((a : Int) < (N : Int)) = false := by simp; omega
      obtain rfl : a = N := by omega
      obtain ⟨rfl, HD⟩ : ds = true ∧ Hid (∀ a', a' < a → dgG a G a' = dz) := by
        have h1 := HA.out
        cases ds with
        | true => simp at h1; exact ⟨rfl, h1.2⟩
        | false => simp at h1; omega
      have c2 := hgr.places
      have HP : Hid (NmI w a f dz true 0 false 0 false wr) := hI
      clear HA
      go_wp2
      have hS : w.heap.size + 6 ≤ wr.heap.size := hI.lt
      refine (wpIn_wide (n := 9)).1 (wpIn_pairs (N := a) (gf := 66) rfl (enters_of Tryd.func66 (by kernel_rfl) rfl) rfl (pairs_runs a _ (by omega))
        (fun i B => ∃ (nz : Int) (ns : Bool) (fz : Int) (fs : Bool), Lv a G 1 i nz ns ∧ Lv a G 0 i fz fs ∧ NmI w a f dz true nz ns fz fs B)
        (fun B => (¬ ∃ k l m, StN a k l m G) ∧ AnW w 0 0 0 0 false B)
        (fun i A B ⟨nz, ns, fz, fs, h1, h2, h3⟩ hb => ⟨nz, ns, fz, fs, h1, h2, h3.mv (hb.mono hS)⟩) (fun A B h hb => ⟨h.1, h.2.mv (hb.mono hS)⟩) ⟨0, false, 0, false, Lv.start, Lv.start, HP.out⟩
        ?a1 ?assign ?body ?done ?stop)
      case assign =>
        intro l x W K _ hK
        unfold encP
        gi_wp2
        exact hK
      case body =>
        rintro i x B hx ⟨nz, ns, fz, fs, L1, L0, hI⟩ hlt2
        obtain ⟨p1, p2⟩ := prL_at' (by omega) hx
        have hgr := hI.gr
        have CJ := joined_any a f (x / 32) (x % 32) B (by omega) (by omega) (hf _ (by omega))
        obtain ⟨c, Hc⟩ : ∃ c, Hid (cmG a G (x / 32) (x % 32) = c) := ⟨_, rfl⟩
        have HCC : Hid (∀ W, Calls Tryd.prog 72 #[.agg (gRow a f), .int .i64 ((x / 32 : Nat) : Int), .int .i64 ((x % 32 : Nat) : Int)] W fun e w' => e = .returned (.int .i64 c) ∧ Below W.heap.size W w') := fun W => by
          have := common_any a f (x / 32) (x % 32) W (by omega) (by omega) (hf _ (by omega)) (hf _ (by omega))
          rwa [← HCM.out _ _ (by omega) p2, Hc.out] at this
        have HI : Hid (NmI w a f dz true nz ns fz fs B) := hI
        have HL : Hid (w.heap.size + 6 ≤ B.heap.size) := hI.lt
        have HL2 : Hid (wr.heap.size + 1 < B.heap.size) := hlt2
        have HBI := HBT.out (x / 32) (x % 32) (by omega) p2
        have HX : Hid ((prL a)[i]? = some x) := hx
        have HKP : Hid (∀ (A2 A3 A4 : World) (k : Nat) (q : Bool), Below B.heap.size B A2 → Below A2.heap.size A2 A3 → k < wr.heap.size → (A4 = if q then A3 else A3.setRow k #[.int .i64 c, .bool true]) → A4.heap[wr.heap.size]? = B.heap[wr.heap.size]? ∧ A4.heap[wr.heap.size + 1]? = B.heap[wr.heap.size + 1]?) := by
          intro A2 A3 A4 k q h2 h3 hk e
          have h23 := Below.next h2 h3
          have q2 := HL2.out
          subst e
          cases q
          · exact ⟨(setRow_other A3 k _ _ (by omega)).trans (h23.block _ (by omega)), (setRow_other A3 k _ _ (by omega)).trans (h23.block _ (by omega))⟩
          · exact ⟨h23.block _ (by omega), h23.block _ (by omega)⟩
        have HST : Hid (∀ A4 : World, ((A4.setRow (w.heap.size + 1) #[.int .i64 0, .int .i64 0, .int .i64 0, .int .i64 0]).setCell ⟨w.heap.size + 1 + 1, 0, none⟩ (.bool false)).heap[wr.heap.size]? = A4.heap[wr.heap.size]? ∧ ((A4.setRow (w.heap.size + 1) #[.int .i64 0, .int .i64 0, .int .i64 0, .int .i64 0]).setCell ⟨w.heap.size + 1 + 1, 0, none⟩ (.bool false)).heap[wr.heap.size + 1]? = A4.heap[wr.heap.size + 1]?) := fun A4 =>
          ⟨(heap_setCell_other _ ⟨w.heap.size + 1 + 1, 0, none⟩ _ _ (by show _ ≠ w.heap.size + 1 + 1; omega)).trans (setRow_other A4 _ _ _ (by omega)), (heap_setCell_other _ ⟨w.heap.size + 1 + 1, 0, none⟩ _ _ (by show _ ≠ w.heap.size + 1 + 1; omega)).trans (setRow_other A4 _ _ _ (by omega))⟩
        obtain ⟨s, Hs⟩ : ∃ s, Hid ((f (x / 32)).testBit (x % 32) = s) := ⟨_, rfl⟩
        rw [Hs.out] at CJ HBI
        clear hx hI hlt2
        cases s with
        | true =>
          have hone := L1.one (by omega) HX.out (.inr rfl) (HBI.1 rfl)
          have HS0 : Hid (Lv a G 0 (i + 1) fz fs) := L0.skip HX.out (by rw [HBI.1 rfl]; decide)
          rw [Hc.out] at hone
          have HCH : Hid (∀ A, NmI w a f dz true nz ns fz fs A → Calls Tryd.prog 70 #[.pointer (some ⟨w.heap.size + 1 + 1 + 1 + 1, 0, none⟩), .int .i64 c] A fun e w' => e = .returned (.bool (if ns then nz == c else true)) ∧ Hid (w' = if ns then A else A.setRow (w.heap.size + 1 + 1 + 1 + 1) #[.int .i64 c, .bool true])) := fun A h => (holds_any _ _ _ _ A h.nl).mono fun _ _ h => h
          have HU : Hid (∀ A3 A4 : World, A4 = (if ns then A3 else A3.setRow (w.heap.size + 1 + 1 + 1 + 1) #[.int .i64 c, .bool true]) → NmI w a f dz true nz ns fz fs A3 → NmI w a f dz true (if ns then nz else c) true fz fs A4) := fun A3 A4 e h => by
            subst e
            cases ns
            · exact h.setN c
            · exact h
          have HRS : Hid (∀ A4 : World, NmI w a f dz true (if ns then nz else c) true fz fs A4 → (A4.setRow (w.heap.size + 1) #[.int .i64 0, .int .i64 0, .int .i64 0, .int .i64 0]).cell? ⟨w.heap.size + 1 + 1, 0, none⟩ = some (.bool false) ∧ (A4.setRow (w.heap.size + 1) #[.int .i64 0, .int .i64 0, .int .i64 0, .int .i64 0]).frozen? ⟨w.heap.size + 1 + 1, 0, none⟩ = false) := fun A4 h => by
            have k4 : Boxed (A4.setRow (w.heap.size + 1) #[.int .i64 0, .int .i64 0, .int .i64 0, .int .i64 0]) (w.heap.size + 1 + 1) 4 (.bool false) := (setRow_other A4 _ _ _ (by omega)).trans h.r2
            exact ⟨k4.cell, k4.frozen⟩
          obtain ⟨q, Hq⟩ : ∃ q : Bool, Hid ((if ns then nz == c else true) = q) := ⟨_, rfl⟩
          rw [Hq.out] at HCH hone
          have HON : Hid ((q = true → Lv a G 1 (i + 1) (if ns then nz else c) true) ∧ (q = false → ¬ ∃ k l m, StN a k l m G)) := hone
          clear hone HBI L1 L0
          cases q with
          | true =>
            gi_wp2_with (first
            | (refine wpListIn_loadRow rfl 79 _ rfl w.heap.size rfl 79 _ (0, 0) _ hgr hu rfl (inf45 _ _) ?_)
            | (refine wpListIn_loadRow rfl 79 _ rfl w.heap.size rfl 79 _ (0, 0) _ hgr2 hu rfl (inf45 _ _) ?_)
            | (refine wpListIn_storeRow rfl 45 _ _ rfl (w.heap.size + 1) #[.int .i64 0, .int .i64 0, .int .i64 0, .int .i64 0] rfl rfl 45 _ k1 (infSt _ _ _ _) rfl (str_one _ _ _ _) ?_)
            | (refine ⟨trivial, (callsIn_wide.2 CJ).mono ?_⟩; rintro e A2 ⟨rfl, hA2⟩; clear CJ; have hI2 := HI.out.mv (hA2.mono HL.out); have hgr2 := hI2.gr; have CC := HCC.out A2; clear hgr)
            | (refine ⟨trivial, (callsIn_wide.2 CC).mono ?_⟩; rintro e A3 ⟨rfl, hA3⟩; clear CC; have hI3 := hI2.mv (hA3.mono (by have := HL.out; have := hA2.size; omega)); have CH := HCH.out A3 hI3)
            | (refine ⟨trivial, (callsIn_wide.2 CH).mono ?_⟩; rintro e A4 ⟨rfl, hA4⟩; clear CH; have hI4 := HU.out A3 A4 hA4.out hI3; have k1 := hI4.r1; have k2 := (HRS.out A4 hI4).1; have k3 := (HRS.out A4 hI4).2))
            exact ⟨HKP.out A2 A3 A4 _ _ hA2 hA3 (by omega) hA4.out, _, _, _, _, HON.out.1 (by trivial), HS0.out, hI4⟩
          | false =>
            gi_wp2_with (first
            | (refine wpListIn_loadRow rfl 79 _ rfl w.heap.size rfl 79 _ (0, 0) _ hgr hu rfl (inf45 _ _) ?_)
            | (refine wpListIn_loadRow rfl 79 _ rfl w.heap.size rfl 79 _ (0, 0) _ hgr2 hu rfl (inf45 _ _) ?_)
            | (refine wpListIn_storeRow rfl 45 _ _ rfl (w.heap.size + 1) #[.int .i64 0, .int .i64 0, .int .i64 0, .int .i64 0] rfl rfl 45 _ k1 (infSt _ _ _ _) rfl (str_one _ _ _ _) ?_)
            | (refine ⟨trivial, (callsIn_wide.2 CJ).mono ?_⟩; rintro e A2 ⟨rfl, hA2⟩; clear CJ; have hI2 := HI.out.mv (hA2.mono HL.out); have hgr2 := hI2.gr; have CC := HCC.out A2; clear hgr)
            | (refine ⟨trivial, (callsIn_wide.2 CC).mono ?_⟩; rintro e A3 ⟨rfl, hA3⟩; clear CC; have hI3 := hI2.mv (hA3.mono (by have := HL.out; have := hA2.size; omega)); have CH := HCH.out A3 hI3)
            | (refine ⟨trivial, (callsIn_wide.2 CH).mono ?_⟩; rintro e A4 ⟨rfl, hA4⟩; clear CH; have hI4 := HU.out A3 A4 hA4.out hI3; have k1 := hI4.r1; have k2 := (HRS.out A4 hI4).1; have k3 := (HRS.out A4 hI4).2))
            have h1 := HKP.out A2 A3 A4 _ _ hA2 hA3 (by omega) hA4.out
            have h2 := HST.out A4
            exact ⟨⟨h2.1.trans h1.1, h2.2.trans h1.2⟩, HON.out.2 (by trivial), hI4.an 0 0 0 0 false⟩
        | false =>
          have hone := L0.one (by omega) HX.out (.inl rfl) (HBI.2 rfl)
          have HS0 : Hid (Lv a G 1 (i + 1) nz ns) := L1.skip HX.out (by rw [HBI.2 rfl]; decide)
          rw [Hc.out] at hone
          have HCH : Hid (∀ A, NmI w a f dz true nz ns fz fs A → Calls Tryd.prog 70 #[.pointer (some ⟨w.heap.size + 1 + 1 + 1 + 1 + 1, 0, none⟩), .int .i64 c] A fun e w' => e = .returned (.bool (if fs then fz == c else true)) ∧ Hid (w' = if fs then A else A.setRow (w.heap.size + 1 + 1 + 1 + 1 + 1) #[.int .i64 c, .bool true])) := fun A h => (holds_any _ _ _ _ A h.fl).mono fun _ _ h => h
          have HU : Hid (∀ A3 A4 : World, A4 = (if fs then A3 else A3.setRow (w.heap.size + 1 + 1 + 1 + 1 + 1) #[.int .i64 c, .bool true]) → NmI w a f dz true nz ns fz fs A3 → NmI w a f dz true nz ns (if fs then fz else c) true A4) := fun A3 A4 e h => by
            subst e
            cases fs
            · exact h.setF c
            · exact h
          have HRS : Hid (∀ A4 : World, NmI w a f dz true nz ns (if fs then fz else c) true A4 → (A4.setRow (w.heap.size + 1) #[.int .i64 0, .int .i64 0, .int .i64 0, .int .i64 0]).cell? ⟨w.heap.size + 1 + 1, 0, none⟩ = some (.bool false) ∧ (A4.setRow (w.heap.size + 1) #[.int .i64 0, .int .i64 0, .int .i64 0, .int .i64 0]).frozen? ⟨w.heap.size + 1 + 1, 0, none⟩ = false) := fun A4 h => by
            have k4 : Boxed (A4.setRow (w.heap.size + 1) #[.int .i64 0, .int .i64 0, .int .i64 0, .int .i64 0]) (w.heap.size + 1 + 1) 4 (.bool false) := (setRow_other A4 _ _ _ (by omega)).trans h.r2
            exact ⟨k4.cell, k4.frozen⟩
          obtain ⟨q, Hq⟩ : ∃ q : Bool, Hid ((if fs then fz == c else true) = q) := ⟨_, rfl⟩
          rw [Hq.out] at HCH hone
          have HON : Hid ((q = true → Lv a G 0 (i + 1) (if fs then fz else c) true) ∧ (q = false → ¬ ∃ k l m, StN a k l m G)) := hone
          clear hone HBI L1 L0
          cases q with
          | true =>
            gi_wp2_with (first
            | (refine wpListIn_loadRow rfl 79 _ rfl w.heap.size rfl 79 _ (0, 0) _ hgr hu rfl (inf45 _ _) ?_)
            | (refine wpListIn_loadRow rfl 79 _ rfl w.heap.size rfl 79 _ (0, 0) _ hgr2 hu rfl (inf45 _ _) ?_)
            | (refine wpListIn_storeRow rfl 45 _ _ rfl (w.heap.size + 1) #[.int .i64 0, .int .i64 0, .int .i64 0, .int .i64 0] rfl rfl 45 _ k1 (infSt _ _ _ _) rfl (str_one _ _ _ _) ?_)
            | (refine ⟨trivial, (callsIn_wide.2 CJ).mono ?_⟩; rintro e A2 ⟨rfl, hA2⟩; clear CJ; have hI2 := HI.out.mv (hA2.mono HL.out); have hgr2 := hI2.gr; have CC := HCC.out A2; clear hgr)
            | (refine ⟨trivial, (callsIn_wide.2 CC).mono ?_⟩; rintro e A3 ⟨rfl, hA3⟩; clear CC; have hI3 := hI2.mv (hA3.mono (by have := HL.out; have := hA2.size; omega)); have CH := HCH.out A3 hI3)
            | (refine ⟨trivial, (callsIn_wide.2 CH).mono ?_⟩; rintro e A4 ⟨rfl, hA4⟩; clear CH; have hI4 := HU.out A3 A4 hA4.out hI3; have k1 := hI4.r1; have k2 := (HRS.out A4 hI4).1; have k3 := (HRS.out A4 hI4).2))
            exact ⟨HKP.out A2 A3 A4 _ _ hA2 hA3 (by omega) hA4.out, _, _, _, _, HS0.out, HON.out.1 (by trivial), hI4⟩
          | false =>
            gi_wp2_with (first
            | (refine wpListIn_loadRow rfl 79 _ rfl w.heap.size rfl 79 _ (0, 0) _ hgr hu rfl (inf45 _ _) ?_)
            | (refine wpListIn_loadRow rfl 79 _ rfl w.heap.size rfl 79 _ (0, 0) _ hgr2 hu rfl (inf45 _ _) ?_)
            | (refine wpListIn_storeRow rfl 45 _ _ rfl (w.heap.size + 1) #[.int .i64 0, .int .i64 0, .int .i64 0, .int .i64 0] rfl rfl 45 _ k1 (infSt _ _ _ _) rfl (str_one _ _ _ _) ?_)
            | (refine ⟨trivial, (callsIn_wide.2 CJ).mono ?_⟩; rintro e A2 ⟨rfl, hA2⟩; clear CJ; have hI2 := HI.out.mv (hA2.mono HL.out); have hgr2 := hI2.gr; have CC := HCC.out A2; clear hgr)
            | (refine ⟨trivial, (callsIn_wide.2 CC).mono ?_⟩; rintro e A3 ⟨rfl, hA3⟩; clear CC; have hI3 := hI2.mv (hA3.mono (by have := HL.out; have := hA2.size; omega)); have CH := HCH.out A3 hI3)
            | (refine ⟨trivial, (callsIn_wide.2 CH).mono ?_⟩; rintro e A4 ⟨rfl, hA4⟩; clear CH; have hI4 := HU.out A3 A4 hA4.out hI3; have k1 := hI4.r1; have k2 := (HRS.out A4 hI4).1; have k3 := (HRS.out A4 hI4).2))
            have h1 := HKP.out A2 A3 A4 _ _ hA2 hA3 (by omega) hA4.out
            have h2 := HST.out A4
            exact ⟨⟨h2.1.trans h1.1, h2.2.trans h1.2⟩, HON.out.2 (by trivial), hI4.an 0 0 0 0 false⟩
      case done =>
        rintro B ⟨nz, ns, fz, fs, L1, L0, hI⟩ hK
        have q0 := hI.gr.places
        have q1 := hI.r1
        have q3 : B.cell? ⟨w.heap.size + 1 + 1 + 1, 0, none⟩ = some (.int .i64 dz) := cell_of_row _ _ 0 _ _ _ hI.dl
        have q4 : B.cell? ⟨w.heap.size + 1 + 1 + 1 + 1, 0, none⟩ = some (.int .i64 nz) := cell_of_row _ _ 0 _ _ _ hI.nl
        have q5 : B.cell? ⟨w.heap.size + 1 + 1 + 1 + 1 + 1, 0, none⟩ = some (.int .i64 fz) := cell_of_row _ _ 0 _ _ _ hI.fl
        have k4 : Boxed (B.setRow (w.heap.size + 1) #[.int .i64 (a : Int), .int .i64 dz, .int .i64 nz, .int .i64 fz]) (w.heap.size + 1 + 1) 4 (.bool false) := (setRow_other B _ _ _ (by omega)).trans hI.r2
        have k2 := k4.cell
        have k3 := k4.frozen
        have HST : Hid (StN a dz nz fz G) := lv_stn HGR.out (by omega) HD.out L1 L0
        clear L1 L0
        go_wp2_with (refine wpList_store_row rfl 45 _ _ rfl (w.heap.size + 1) #[.int .i64 (a : Int), .int .i64 dz, .int .i64 nz, .int .i64 fz] rfl rfl 45 _ q1 (infSt _ _ _ _) rfl (str_one _ _ _ _) ?_)
        have hF := hI.an a dz nz fz true
        have hK2 : ((B.setRow (w.heap.size + 1) #[.int .i64 (a : Int), .int .i64 dz, .int .i64 nz, .int .i64 fz]).setCell ⟨w.heap.size + 1 + 1, 0, none⟩ (.bool true)).heap[wr.heap.size]? = some (.deferred (some [])) := (heap_setCell_other _ ⟨w.heap.size + 1 + 1, 0, none⟩ wr.heap.size (.bool true) (by show _ ≠ w.heap.size + 1 + 1; omega)).trans ((setRow_other B _ _ _ (by omega)).trans hK)
        refine ⟨by simp, .inl ⟨_, _, rfl, run_takeDeferred hK2, ?_⟩⟩
        have bP := hF.mv (bput (n := w.heap.size + 6) _ (.deferred none) (l := wr.heap.size) (by omega))
        exact ⟨_, res_nums rfl rfl rfl bP, ⟨_, _, _, _, true, rfl, .inl ⟨rfl, rfl, HST.out⟩⟩, bP.bw⟩
      case stop =>
        rintro B ⟨g1, g2⟩ hK
        refine wpIn_wide.2 ?_
        go_wp2
        refine ⟨by simp, .inl ⟨_, _, rfl, run_takeDeferred hK, ?_⟩⟩
        have bP := g2.mv (bput (n := w.heap.size + 6) _ (.deferred none) (l := wr.heap.size) (by omega))
        exact ⟨_, res_nums rfl rfl rfl bP, ⟨0, 0, 0, 0, false, rfl, .inr ⟨rfl, rfl, rfl, rfl, rfl, g1⟩⟩, bP.bw⟩
end Go.Proofs.YtlmjlffipinjiabDoor.Sg

namespace Go.Proofs.YtlmjlffipinjiabDoor.Sg
open Go.RowKit Go.Shelf

theorem gRow_one (n : Int) (f : Nat → Nat) : (gRow n f).all (·.oneCell') = true := by
  rw [Array.all_eq_true]
  intro i hi
  rw [gRow_size] at hi
  cases i with
  | zero => rfl
  | succ i =>
    have e : (gRow n f)[i + 1]'(by rw [gRow_size]; omega) = .int .u32 ((f i : Nat) : Int) := by simp [gRow]
    rw [e]
    rfl
theorem GrW.zero (w : World) : GrW (w.alloc (.cells #[.int .i64 0, .int .u32 0, .int .u32 0, .int .u32 0, .int .u32 0, .int .u32 0, .int .u32 0, .int .u32 0, .int .u32 0, .int .u32 0, .int .u32 0, .int .u32 0, .int .u32 0, .int .u32 0, .int .u32 0, .int .u32 0, .int .u32 0, .int .u32 0, .int .u32 0, .int .u32 0, .int .u32 0, .int .u32 0, .int .u32 0, .int .u32 0, .int .u32 0] 79)) w.heap.size 0 (fun _ => 0) := GrW.made w 0 (fun _ => 0)
theorem GrW.whole {w : World} {g : Nat} {n : Int} {f : Nat → Nat} (h : GrW w g n f) (n' : Int) (f' : Nat → Nat) : GrW (w.setRow g (gRow n' f')) g n' f' := setRow_heap w g _ _ _ _ h
set_option maxRecDepth 100000 in
theorem post_gr {fn : Func} {R : Ending → World → Prop} {a : Act} {w : World} {g : Nat} {n z : Int} {f : Nat → Nat} (s u : Tmp) (hres : fn.results = #[.cell s 79, .tmp u])
    (hp : a.tmps.getD s undef = .pointer (some ⟨g, 0, none⟩)) (hz : a.tmps.getD u undef = .int .i64 z) (hr : GrW w g n f) (hd : a.defers = []) (hR : R (.returned (.tuple #[.agg (gRow n f), .int .i64 z])) w) : bodyPost Tryd.prog fn R .ret a w := by
  obtain ⟨fs, hu⟩ := und45
  refine bodyPost_ret ?_ hd hR
  have hp' : a.tmps[s]?.getD undef = .pointer (some ⟨g, 0, none⟩) := by simpa using hp
  have hz' : a.tmps[u]?.getD undef = .int .i64 z := by simpa using hz
  simp [results, hres, hp', hz', asAddr, run_loadVar_row w g 79 79 (gRow n f) (0, 0) _ hr hu rfl (inf45 n f)]
/-- What open tells. -/
def OpT (s : Int) (L : List Int) (m : Int) (f : Nat → Nat) : Prop := gF s L = 0 → m = s ∧ (∀ a, f a = btG2 s.toNat L (s.toNat * s.toNat) a)
def OpenR (s : Int) (L : List Int) (w : World) (e : Ending) (w' : World) : Prop := (∃ (m : Int) (f : Nat → Nat), e = .returned (.tuple #[.agg (gRow m f), .int .i64 (gF s L : Int)]) ∧ OpT s L m f) ∧ Below w.heap.size w w'

set_option maxRecDepth 100000 in
set_option maxHeartbeats 4000000 in
theorem open_far (s : Int) (L : List Int) (v : Value) (w : World) (h : s < 1 ∨ 24 < s) :
    Calls Tryd.prog 36 #[.agg #[.int .i64 s, v]] w (OpenR s L w) := by
  have HF : Hid (gF s L = 1) := gF_far h
  have hz : GrW ((w.alloc (.cells #[.int .i64 s, v] 27)).alloc (.cells #[.int .i64 0, .int .u32 0, .int .u32 0, .int .u32 0, .int .u32 0, .int .u32 0, .int .u32 0, .int .u32 0, .int .u32 0, .int .u32 0, .int .u32 0, .int .u32 0, .int .u32 0, .int .u32 0, .int .u32 0, .int .u32 0, .int .u32 0, .int .u32 0, .int .u32 0, .int .u32 0, .int .u32 0, .int .u32 0, .int .u32 0, .int .u32 0, .int .u32 0] 79)) (w.heap.size + 1) 0 (fun _ => 0) := by
    have := GrW.zero (w.alloc (.cells #[.int .i64 s, v] 27))
    rwa [World.size_alloc] at this
  have hz2 := hz.whole 0 (fun _ => 0)
  have hb : Below w.heap.size w (((w.alloc (.cells #[.int .i64 s, v] 27)).alloc (.cells #[.int .i64 0, .int .u32 0, .int .u32 0, .int .u32 0, .int .u32 0, .int .u32 0, .int .u32 0, .int .u32 0, .int .u32 0, .int .u32 0, .int .u32 0, .int .u32 0, .int .u32 0, .int .u32 0, .int .u32 0, .int .u32 0, .int .u32 0, .int .u32 0, .int .u32 0, .int .u32 0, .int .u32 0, .int .u32 0, .int .u32 0, .int .u32 0, .int .u32 0] 79)).setRow (w.heap.size + 1) (gRow 0 fun _ => 0)) := bsetR ((balloc w _).alloc (by simp) _) (by omega) _
  by_cases h1 : s < 1
  · have d1 : decide (s < 1) = true := decide_eq_true h1
    clear h h1
    go_enter Tryd.func36, Tryd.ntmps36
    go_wp2_with (refine wpList_store_row rfl 79 _ _ rfl (w.heap.size + 1) (gRow 0 fun _ => 0) rfl rfl 79 _ hz (inf45 _ _) rfl (gRow_one _ _) ?_)
    refine post_gr (z := 1) 2 3 rfl rfl rfl hz2 rfl ⟨⟨0, fun _ => 0, by rw [HF.out]; rfl, fun h => ?_⟩, hb⟩
    rw [HF.out] at h; cases h
  · have d1 : decide (s < 1) = false := decide_eq_false h1
    have d2 : decide (24 < s) = true := decide_eq_true (by omega)
    clear h h1
    go_enter Tryd.func36, Tryd.ntmps36
    go_wp2_with (refine wpList_store_row rfl 79 _ _ rfl (w.heap.size + 1) (gRow 0 fun _ => 0) rfl rfl 79 _ hz (inf45 _ _) rfl (gRow_one _ _) ?_)
    refine post_gr (z := 1) 2 3 rfl rfl rfl hz2 rfl ⟨⟨0, fun _ => 0, by rw [HF.out]; rfl, fun h => ?_⟩, hb⟩
    rw [HF.out] at h; cases h
set_option maxRecDepth 100000 in
set_option maxHeartbeats 4000000 in
theorem open_shape (n : Nat) (L : List Int) (v : Value) (w : World) (h1 : 1 ≤ n) (h8 : n ≤ 8 * 3) (hv : Sl w v L) (_hll : L.length ≤ maxLen) (hl : L.length ≠ n * n) :
    Calls Tryd.prog 36 #[.agg #[.int .i64 (n : Int), v]] w (OpenR n L w) := by
  have HF : Hid (gF n L = 2) := gF_shape h1 h8 hl
  have d1 : decide ((n : Int) < 1) = false := by simp; omega
  have d2 : decide (24 < (n : Int)) = false := by simp; omega
  obtain ⟨a, cap, rfl, _⟩ := hv
  obtain ⟨z, hz⟩ : ∃ z, z = n * n := ⟨_, rfl⟩
  have hz99 : z ≤ 999 := by rw [hz]; exact Nat.le_trans (Nat.mul_le_mul h8 h8) (by decide)
  have hmul : (n : Int) * (n : Int) = (z : Int) := by rw [hz]; simp
  have hne : ((L.length : Int) != (z : Int)) = true := by simp; omega
  have HR : Hid (∀ w', Below w.heap.size w w' → OpenR n L w (.returned (.tuple #[.agg (gRow 0 fun _ => 0), .int .i64 2])) w') := fun w' hb => ⟨⟨0, fun _ => 0, by rw [HF.out]; rfl, fun h => (by rw [HF.out] at h; cases h)⟩, hb⟩
  generalize OpenR n L w = R at *
  clear HF
  generalize L.length = q at *
  clear hz hl
  have hz : GrW ((w.alloc (.cells #[.int .i64 (n : Int), (.slice a q cap)] 27)).alloc (.cells #[.int .i64 0, .int .u32 0, .int .u32 0, .int .u32 0, .int .u32 0, .int .u32 0, .int .u32 0, .int .u32 0, .int .u32 0, .int .u32 0, .int .u32 0, .int .u32 0, .int .u32 0, .int .u32 0, .int .u32 0, .int .u32 0, .int .u32 0, .int .u32 0, .int .u32 0, .int .u32 0, .int .u32 0, .int .u32 0, .int .u32 0, .int .u32 0, .int .u32 0] 79)) (w.heap.size + 1) 0 (fun _ => 0) := by
    have := GrW.zero (w.alloc (.cells #[.int .i64 (n : Int), .slice a q cap] 27))
    rwa [World.size_alloc] at this
  have hz2 := hz.whole 0 (fun _ => 0)
  have hb : Below w.heap.size w (((w.alloc (.cells #[.int .i64 (n : Int), (.slice a q cap)] 27)).alloc (.cells #[.int .i64 0, .int .u32 0, .int .u32 0, .int .u32 0, .int .u32 0, .int .u32 0, .int .u32 0, .int .u32 0, .int .u32 0, .int .u32 0, .int .u32 0, .int .u32 0, .int .u32 0, .int .u32 0, .int .u32 0, .int .u32 0, .int .u32 0, .int .u32 0, .int .u32 0, .int .u32 0, .int .u32 0, .int .u32 0, .int .u32 0, .int .u32 0, .int .u32 0] 79)).setRow (w.heap.size + 1) (gRow 0 fun _ => 0)) := bsetR ((balloc w _).alloc (by simp) _) (by omega) _
  go_enter Tryd.func36, Tryd.ntmps36
  go_wp2_with (refine wpList_store_row rfl 79 _ _ rfl (w.heap.size + 1) (gRow 0 fun _ => 0) rfl rfl 79 _ hz (inf45 _ _) rfl (gRow_one _ _) ?_)
  exact post_gr (z := 2) 2 3 rfl rfl rfl hz2 rfl (HR.out _ hb)
end Go.Proofs.YtlmjlffipinjiabDoor.Sg

/- What Check, Numbers and Friend tell. -/
/- The walk of open, where the cells are as many as they are to be. -/
namespace Go.Proofs.YtlmjlffipinjiabDoor.Sg
open Go.RowKit Go.Shelf

/-- What open keeps. -/
structure OpI (w : World) (n : Nat) (v : Value) (f : Nat → Nat) (A : World) : Prop where
  bx : A.heap[w.heap.size]? = some (.cells #[.int .i64 (n : Int), v] 27 (0, 0))
  rs : GrW A (w.heap.size + 1) 0 (fun _ => 0)
  gr : GrW A (w.heap.size + 1 + 1) n f
  bw : Below w.heap.size w A
theorem OpI.mv {w A B : World} {n : Nat} {v : Value} {f : Nat → Nat} (h : OpI w n v f A) (hb : Below A.heap.size A B) : OpI w n v f B :=
  have h1 := (Array.getElem?_eq_some_iff.1 h.bx).1
  ⟨(hb.block _ h1).trans h.bx, h.rs.below hb h.rs.lt, h.gr.below hb h.gr.lt, Below.next h.bw hb⟩
theorem OpI.to {w A B : World} {n : Nat} {v : Value} {f f' : Nat → Nat} (h : OpI w n v f A) (hg : GrW B (w.heap.size + 1 + 1) n f') (hk : ∀ k, k ≠ w.heap.size + 1 + 1 → B.heap[k]? = A.heap[k]?) (hb : Below (w.heap.size + 1 + 1) A B) : OpI w n v f' B :=
  ⟨(hk _ (by omega)).trans h.bx, (hk _ (by omega)).trans h.rs, hg, h.bw.trans (hb.mono (by omega))⟩
theorem GrW.congr {w : World} {g : Nat} {n : Int} {f f' : Nat → Nat} (h : GrW w g n f) (e : ∀ a, f a = f' a) : GrW w g n f' := by
  obtain rfl : f = f' := funext e
  exact h
theorem mu_iff {n : Nat} {L : List Int} {f : Nat → Nat} (hn : n ≤ 32) (hf : ∀ a, a < n → f a = rbG n (gx n L) a) (hb : ∀ j, j < n * n → L.getD j 0 = 0 ∨ L.getD j 0 = 1) : MuB n f ↔ syB n (gx n L) = true := by
  have tb : ∀ a b, a < n → b < n → (f a).testBit b = (gx n L a b == 1) := fun a b ha hb => by rw [hf a ha, rb_bit]; simp [hb]
  have one : ∀ {a b c d : Nat}, a < n → b < n → c < n → d < n → ((gx n L a b == 1) = (gx n L c d == 1) ↔ gx n L a b = gx n L c d) := fun {a b c d} ha hb' hc hd => by
    rcases hb _ (cell_ltG ha hb') with e1 | e1 <;> rcases hb _ (cell_ltG hc hd) with e2 | e2 <;> simp [gx] <;> simp_all
  rw [sy_iff]
  constructor
  · rintro ⟨h1, h2⟩ a b ha hb'
    refine ⟨?_, fun k => ?_⟩
    · rcases Nat.lt_trichotomy a b with q | q | q
      · obtain ⟨i, g1, g2, g3, g4⟩ := prL_of hn q hb'
        have := h2 i _ g2
        rw [g3, g4, tb a b ha hb', tb b a hb' ha] at this
        exact (one ha hb' hb' ha).1 this
      · subst q; rfl
      · obtain ⟨i, g1, g2, g3, g4⟩ := prL_of hn q ha
        have := h2 i _ g2
        rw [g3, g4, tb a b ha hb', tb b a hb' ha] at this
        exact (one ha hb' hb' ha).1 this.symm
    · obtain ⟨rfl, k⟩ := k
      have := h1 a ha
      rw [tb a a ha ha, k] at this
      cases this
  · intro h
    refine ⟨fun a ha => ?_, fun i y hy => ?_⟩
    · rw [tb a a ha ha]
      have := (h a a ha ha).2
      simpa using this
    · obtain ⟨p1, p2⟩ := prL_at' hn hy
      rw [tb _ _ (by omega) p2, tb _ _ p2 (by omega)]
      exact (one (by omega) p2 p2 (by omega)).2 (h _ _ (by omega) p2).1

set_option maxRecDepth 100000 in
set_option maxHeartbeats 16000000 in
theorem open_main (n : Nat) (L : List Int) (v : Value) (w : World) (h1 : 1 ≤ n) (h8 : n ≤ 8 * 3) (hv : Sl w v L) (hl : L.length = n * n) :
    Calls Tryd.prog 36 #[.agg #[.int .i64 (n : Int), v]] w (OpenR n L w) := by
  obtain ⟨fs, hu⟩ := und45
  have d1 : decide ((n : Int) < 1) = false := by simp; omega
  have d2 : decide (24 < (n : Int)) = false := by simp; omega
  have hpos : 0 < n * n := Nat.mul_pos h1 h1
  obtain ⟨b, off, cap, rfl, hbw, hcell⟩ := hv.form hl hpos
  have HB1 : Hid (∀ j, j < n * n → ¬ (L.getD j 0 = 0 ∨ L.getD j 0 = 1) → gF n L = 1) := fun j hj h => gF_bit h1 h8 hl hj h
  have HON : Hid ((∀ j, j < n * n → L.getD j 0 = 0 ∨ L.getD j 0 = 1) → gF n L = if syB n (gx n L) then 0 else 4) := fun h => gF_on h1 h8 hl h
  have HER : Hid (∀ (u : Nat) (w' : World), gF n L = u → u ≠ 0 → Below w.heap.size w w' → OpenR n L w (.returned (.tuple #[.agg (gRow 0 fun _ => 0), .int .i64 (u : Int)])) w') := fun u w' hu h0 hb => ⟨⟨0, fun _ => 0, by rw [hu], fun h => absurd (hu.symm.trans h) h0⟩, hb⟩
  have HOK : Hid (∀ (w' : World), gF n L = 0 → Below w.heap.size w w' → OpenR n L w (.returned (.tuple #[.agg (gRow n (btG2 n L (n * n))), .int .i64 0])) w') := fun w' hu hb => ⟨⟨n, btG2 n L (n * n), by rw [hu]; rfl, fun _ => ⟨rfl, fun a => rfl⟩⟩, hb⟩
  have HMU : Hid ((∀ j, j < n * n → L.getD j 0 = 0 ∨ L.getD j 0 = 1) → (MuB n (btG2 n L (n * n)) ↔ syB n (gx n L) = true)) := fun h => mu_iff (by omega) (fun a ha => bt2_all ha) h
  have HZ : Hid (∀ a, btG2 n L 0 a = 0) := bt2_zero n L
  have HSK : Hid (∀ i a, L.getD i 0 = 0 → btG2 n L (i + 1) a = btG2 n L i a) := fun i a h => bt2_skip h a
  have HPT : Hid (∀ i a, L.getD i 0 = 1 → btG2 n L (i + 1) a = if a = i / n then btG2 n L i (i / n) ||| 2 ^ (i % n) else btG2 n L i a) := fun i a h => by
    rw [bt2_put h1 h a]
    split
    · rename_i e; rw [e]
    · rfl
  have HLT : Hid (∀ i a, btG2 n L i a < 2 ^ 32) := fun i a => Nat.lt_of_lt_of_le (bt2_lt n L i a) (Nat.pow_le_pow_right (by decide) (by omega))
  generalize OpenR n L w = R at *
  generalize gF n L = u at *
  generalize btG2 n L = bt at *
  have HLL : Hid (∀ i, i < n * n → i / n < n ∧ i % n < n) := fun i hi => ⟨Nat.div_lt_of_lt_mul hi, Nat.mod_lt _ h1⟩
  obtain ⟨z, hz⟩ : ∃ z, n * n = z := ⟨_, rfl⟩
  have hz99 : z ≤ 999 := by rw [← hz]; exact Nat.le_trans (Nat.mul_le_mul h8 h8) (by decide)
  have hmul : (n : Int) * (n : Int) = (z : Int) := by rw [← hz]; simp
  rw [hz] at HLL HB1 HON HOK HMU hcell ⊢
  have HC : Hid (∀ j, j < z → w.cell? ⟨b, off + j, none⟩ = some (.int .i64 (L.getD j 0))) := hcell
  clear hz hcell hl hv hpos
  generalize syB n (gx n L) = sy at *
  have hne : ((z : Int) != (z : Int)) = false := by simp
  have hz1 : GrW (((w.alloc (.cells #[.int .i64 (n : Int), .slice (some ⟨b, off, none⟩) z cap] 27)).alloc (.cells #[.int .i64 0, .int .u32 0, .int .u32 0, .int .u32 0, .int .u32 0, .int .u32 0, .int .u32 0, .int .u32 0, .int .u32 0, .int .u32 0, .int .u32 0, .int .u32 0, .int .u32 0, .int .u32 0, .int .u32 0, .int .u32 0, .int .u32 0, .int .u32 0, .int .u32 0, .int .u32 0, .int .u32 0, .int .u32 0, .int .u32 0, .int .u32 0, .int .u32 0] 79)).alloc (.cells #[.int .i64 0, .int .u32 0, .int .u32 0, .int .u32 0, .int .u32 0, .int .u32 0, .int .u32 0, .int .u32 0, .int .u32 0, .int .u32 0, .int .u32 0, .int .u32 0, .int .u32 0, .int .u32 0, .int .u32 0, .int .u32 0, .int .u32 0, .int .u32 0, .int .u32 0, .int .u32 0, .int .u32 0, .int .u32 0, .int .u32 0, .int .u32 0, .int .u32 0] 79)) (w.heap.size + 1 + 1) 0 (fun _ => 0) := by
    have := GrW.zero ((w.alloc (.cells #[.int .i64 (n : Int), .slice (some ⟨b, off, none⟩) z cap] 27)).alloc (.cells #[.int .i64 0, .int .u32 0, .int .u32 0, .int .u32 0, .int .u32 0, .int .u32 0, .int .u32 0, .int .u32 0, .int .u32 0, .int .u32 0, .int .u32 0, .int .u32 0, .int .u32 0, .int .u32 0, .int .u32 0, .int .u32 0, .int .u32 0, .int .u32 0, .int .u32 0, .int .u32 0, .int .u32 0, .int .u32 0, .int .u32 0, .int .u32 0, .int .u32 0] 79))
    rwa [World.size_alloc, World.size_alloc] at this
  have hO : OpI w n (.slice (some ⟨b, off, none⟩) z cap) (bt 0) ((((w.alloc (.cells #[.int .i64 (n : Int), .slice (some ⟨b, off, none⟩) z cap] 27)).alloc (.cells #[.int .i64 0, .int .u32 0, .int .u32 0, .int .u32 0, .int .u32 0, .int .u32 0, .int .u32 0, .int .u32 0, .int .u32 0, .int .u32 0, .int .u32 0, .int .u32 0, .int .u32 0, .int .u32 0, .int .u32 0, .int .u32 0, .int .u32 0, .int .u32 0, .int .u32 0, .int .u32 0, .int .u32 0, .int .u32 0, .int .u32 0, .int .u32 0, .int .u32 0] 79)).alloc (.cells #[.int .i64 0, .int .u32 0, .int .u32 0, .int .u32 0, .int .u32 0, .int .u32 0, .int .u32 0, .int .u32 0, .int .u32 0, .int .u32 0, .int .u32 0, .int .u32 0, .int .u32 0, .int .u32 0, .int .u32 0, .int .u32 0, .int .u32 0, .int .u32 0, .int .u32 0, .int .u32 0, .int .u32 0, .int .u32 0, .int .u32 0, .int .u32 0, .int .u32 0] 79)).setRow (w.heap.size + 1 + 1) (gRow (n : Int) fun _ => 0)) := by
    refine ⟨?_, ?_, (hz1.whole n (fun _ => 0)).congr fun a => (HZ.out a).symm, bsetR (((balloc w _).alloc (by simp) _).alloc (by simp; omega) _) (by omega) _⟩
    · refine (setRow_other _ _ _ _ (by omega)).trans ?_
      exact (Below.heap_alloc _ _ _ (by simp; omega)).trans ((Below.heap_alloc _ _ _ (by simp)).trans (heap_alloc_new w _))
    · refine (setRow_other _ _ _ _ (by omega)).trans ?_
      have := GrW.zero (w.alloc (.cells #[.int .i64 (n : Int), .slice (some ⟨b, off, none⟩) z cap] 27))
      rw [World.size_alloc] at this
      exact (Below.heap_alloc _ _ _ (by simp)).trans this
  have x1 : ((((w.alloc (.cells #[.int .i64 (n : Int), .slice (some ⟨b, off, none⟩) z cap] 27)).alloc (.cells #[.int .i64 0, .int .u32 0, .int .u32 0, .int .u32 0, .int .u32 0, .int .u32 0, .int .u32 0, .int .u32 0, .int .u32 0, .int .u32 0, .int .u32 0, .int .u32 0, .int .u32 0, .int .u32 0, .int .u32 0, .int .u32 0, .int .u32 0, .int .u32 0, .int .u32 0, .int .u32 0, .int .u32 0, .int .u32 0, .int .u32 0, .int .u32 0, .int .u32 0] 79)).alloc (.cells #[.int .i64 0, .int .u32 0, .int .u32 0, .int .u32 0, .int .u32 0, .int .u32 0, .int .u32 0, .int .u32 0, .int .u32 0, .int .u32 0, .int .u32 0, .int .u32 0, .int .u32 0, .int .u32 0, .int .u32 0, .int .u32 0, .int .u32 0, .int .u32 0, .int .u32 0, .int .u32 0, .int .u32 0, .int .u32 0, .int .u32 0, .int .u32 0, .int .u32 0] 79)).setRow (w.heap.size + 1 + 1) (gRow (n : Int) fun _ => 0)).cell? ⟨w.heap.size, 1, none⟩ = some (.slice (some ⟨b, off, none⟩) z cap) := cell_of_row _ _ 1 _ _ _ hO.bx
  go_enter Tryd.func36, Tryd.ntmps36
  go_wp2_with (refine wpList_store_row rfl 79 _ _ rfl (w.heap.size + 1 + 1) (gRow (n : Int) fun _ => 0) rfl rfl 79 _ hz1 (inf45 _ _) rfl (gRow_one _ _) ?_)
  go_loopw [32] (fun av wr => ∃ (i : Nat), av = .int .i64 (i : Int) ∧ i ≤ z ∧ Hid (∀ j, j < i → L.getD j 0 = 0 ∨ L.getD j 0 = 1) ∧ OpI w n (.slice (some ⟨b, off, none⟩) z cap) (bt i) wr) (fun av _ => (z - intOf av).toNat)
  case atStart => exact ⟨0, rfl, by omega, (fun j h => absurd h (by omega) : ∀ j, j < 0 → _), hO⟩
  case round =>
    clear hO x1 hz1
    obtain ⟨i, rfl, hi, HI, hO⟩ := hrel
    have x0 : wr.cell? ⟨w.heap.size, 0, none⟩ = some (.int .i64 (n : Int)) := cell_of_row _ _ 0 _ _ _ hO.bx
    have hrs := hO.rs
    have HO : Hid (OpI w n (.slice (some ⟨b, off, none⟩) z cap) (bt i) wr) := hO
    by_cases hlt : i < z
    · have hdi : decide ((i : Int) < (z : Int)) = true := by simp; omega
      obtain ⟨x, Hx⟩ : ∃ x : Int, Hid (x = L.getD i 0) := ⟨_, rfl⟩
      have hcx := (hO.bw.cell (p := ⟨b, off + i, none⟩) hbw).trans (HC.out i hlt)
      rw [← Hx.out] at hcx
      by_cases hx0 : x = 0
      · have e0 : (x == 0) = true := by simp [hx0]
        have HS : Hid (OpI w n (.slice (some ⟨b, off, none⟩) z cap) (bt (i + 1)) wr) := by
          have e : bt (i + 1) = bt i := funext fun a => HSK.out i a (by rw [← Hx.out]; exact hx0)
          show OpI w n _ (bt (i + 1)) wr
          rw [e]; exact HO.out
        have HI2 : Hid (∀ j, j < i + 1 → L.getD j 0 = 0 ∨ L.getD j 0 = 1) := fun j hj => by
          by_cases e : j = i
          · subst e; left; rw [← Hx.out]; exact hx0
          · exact HI.out j (by omega)
        clear hx0
        go_wp2
        go_roundw
        case rel => exact ⟨i + 1, by go_num, by omega, HI2, HS.out⟩
        case measure => simp [intOf]; omega
      · by_cases hx1 : x = 1
        · have e0 : (x == 0) = false := by simp [hx0]
          have e1 : (x == 1) = true := by simp [hx1]
          have HI2 : Hid (∀ j, j < i + 1 → L.getD j 0 = 0 ∨ L.getD j 0 = 1) := fun j hj => by
            by_cases e : j = i
            · subst e; right; rw [← Hx.out]; exact hx1
            · exact HI.out j (by omega)
          have hq := HLL.out i hlt
          have HX1 : Hid (x = 1) := hx1
          have hdv : (i : Int) / (n : Int) = ((i / n : Nat) : Int) := by simp
          have hmv : (i : Int) % (n : Int) = ((i % n : Nat) : Int) := by simp
          have hn0 : ((n : Int) == 0) = false := by simp; omega
          have CJ := join_any (w.heap.size + 1 + 1) n (bt i) (i / n) (i % n) wr.drew hO.gr (by omega) (by omega) (HLT.out i _)
          obtain ⟨q1, hq1⟩ : ∃ q, i / n = q := ⟨_, rfl⟩
          obtain ⟨q2, hq2⟩ : ∃ q, i % n = q := ⟨_, rfl⟩
          have HSTEP : Hid (∀ w2 : World, GrW w2 (w.heap.size + 1 + 1) n (fun j => if j = q1 then bt i q1 ||| 2 ^ q2 else bt i j) → (∀ k, k ≠ w.heap.size + 1 + 1 → w2.heap[k]? = wr.drew.heap[k]?) → Below (w.heap.size + 1 + 1) wr.drew w2 → OpI w n (.slice (some ⟨b, off, none⟩) z cap) (bt (i + 1)) w2) := fun w2 hg2 hk2 hb2 => by
            refine HO.out.to (hg2.congr fun a => ?_) hk2 ((Below.refl _ wr).drew.trans hb2)
            rw [HPT.out i a (by rw [← Hx.out]; exact HX1.out), hq1, hq2]
          have x0d : wr.drew.cell? ⟨w.heap.size, 0, none⟩ = some (.int .i64 (n : Int)) := x0
          rw [hq1, hq2] at CJ
          rw [hq1] at hdv
          rw [hq2] at hmv
          have hnz : ¬ n = 0 := by omega
          have hwq : IntKind.i64.wrap (q1 : Int) = (q1 : Int) := by rw [IntKind.wrap_i64]; omega
          have htm : (i : Int).tmod (n : Int) = (q2 : Int) := by rw [Int.tmod_eq_emod_of_nonneg (by omega)]; exact hmv
          clear hq1 hq2 hq
          clear hx0 hx1
          go_wp2
          refine (wpIn_wide (n := 9)).1 (wpIn_region_any (by kernel_rfl) ?_)
          try (change wpAnyIn _ _ _ _ _ _ _ _ _ (World.drew _))
          refine wpAnyIn_take (i := 0) (v := .int .i64 (i : Int)) rfl rfl (by kernel_rfl) (by kernel_rfl) (by kernel_rfl) (by intro _ _ _ h; first | exact h | cases h.1) ⟨Or.inl ⟨by rfl, fun w => by go_simp⟩, fun _ => rfl⟩ ?_
          refine wpAnyIn_take (i := 1) (v := .pointer (some ⟨w.heap.size, 0, none⟩)) rfl rfl (by kernel_rfl) (by kernel_rfl) (by kernel_rfl) (by intro _ _ _ h; first | exact h | cases h.1) ⟨Or.inl ⟨by rfl, fun w => by go_simp⟩, fun _ => rfl⟩ ?_
          refine wpAnyIn_take (i := 4) (v := .int .i64 (i : Int)) rfl rfl (by kernel_rfl) (by kernel_rfl) (by kernel_rfl) (by intro _ _ _ h; first | exact h | cases h.1) ⟨Or.inl ⟨by rfl, fun w => by go_simp⟩, fun _ => rfl⟩ ?_
          refine wpAnyIn_take (i := 5) (v := .pointer (some ⟨w.heap.size, 0, none⟩)) rfl rfl (by kernel_rfl) (by kernel_rfl) (by kernel_rfl) (by intro _ _ _ h; first | exact h | cases h.1) ⟨Or.inl ⟨by rfl, fun w => by go_simp⟩, fun _ => rfl⟩ ?_
          refine wpAnyIn_ready (rs := [2, 6]) (by kernel_rfl) (by simp) (AllReadyIn.cons rfl (fun K hK => ?_) (AllReadyIn.cons rfl (fun K hK => ?_) AllReadyIn.nil))
          · go_simp
            refine hK _ _ ?_
            clear hK K
            refine wpAnyIn_take (i := 3) (v := .int .i64 (q1 : Int)) rfl rfl (by kernel_rfl) (by kernel_rfl) (by kernel_rfl) (by intro _ _ _ h; first | exact h | cases h.1) ⟨Or.inl ⟨by rfl, fun w => by go_simp⟩, fun _ => rfl⟩ ?_
            refine wpAnyIn_ready (rs := [6]) (by kernel_rfl) (by simp) (AllReadyIn.cons rfl (fun K hK => ?_) AllReadyIn.nil)
            go_simp
            refine hK _ _ ?_
            clear hK K
            refine wpAnyIn_take (i := 7) (v := .int .i64 (q2 : Int)) rfl rfl (by kernel_rfl) (by kernel_rfl) (by kernel_rfl) (by intro _ _ _ h; first | exact h | cases h.1) ⟨Or.inl ⟨by rfl, fun w => by go_simp⟩, fun _ => rfl⟩ ?_
            refine wpAnyIn_ready (rs := [8]) (by kernel_rfl) (by simp) (AllReadyIn.cons rfl (fun K hK => ?_) AllReadyIn.nil)
            go_simp
            refine ⟨trivial, (callsIn_wide.2 CJ).mono ?_⟩
            rintro e w2 ⟨⟨vv, rfl⟩, hg2, hk2, hb2⟩
            refine hK _ _ ?_
            clear hK K
            have hO2 := HSTEP.out w2 hg2 hk2 hb2
            refine wpAnyIn_done (by kernel_rfl) ?_ _
            go_wp2
            go_roundw
            case rel => exact ⟨i + 1, by go_num, by omega, HI2, hO2⟩
            case measure => simp [intOf]; omega
          · go_simp
            refine hK _ _ ?_
            clear hK K
            refine wpAnyIn_take (i := 7) (v := .int .i64 (q2 : Int)) rfl rfl (by kernel_rfl) (by kernel_rfl) (by kernel_rfl) (by intro _ _ _ h; first | exact h | cases h.1) ⟨Or.inl ⟨by rfl, fun w => by go_simp⟩, fun _ => rfl⟩ ?_
            refine wpAnyIn_ready (rs := [2]) (by kernel_rfl) (by simp) (AllReadyIn.cons rfl (fun K hK => ?_) AllReadyIn.nil)
            go_simp
            refine hK _ _ ?_
            clear hK K
            refine wpAnyIn_take (i := 3) (v := .int .i64 (q1 : Int)) rfl rfl (by kernel_rfl) (by kernel_rfl) (by kernel_rfl) (by intro _ _ _ h; first | exact h | cases h.1) ⟨Or.inl ⟨by rfl, fun w => by go_simp⟩, fun _ => rfl⟩ ?_
            refine wpAnyIn_ready (rs := [8]) (by kernel_rfl) (by simp) (AllReadyIn.cons rfl (fun K hK => ?_) AllReadyIn.nil)
            go_simp
            refine ⟨trivial, (callsIn_wide.2 CJ).mono ?_⟩
            rintro e w2 ⟨⟨vv, rfl⟩, hg2, hk2, hb2⟩
            refine hK _ _ ?_
            clear hK K
            have hO2 := HSTEP.out w2 hg2 hk2 hb2
            refine wpAnyIn_done (by kernel_rfl) ?_ _
            go_wp2
            go_roundw
            case rel => exact ⟨i + 1, by go_num, by omega, HI2, hO2⟩
            case measure => simp [intOf]; omega
        · have e0 : (x == 0) = false := by simp [hx0]
          have e1 : (x == 1) = false := by simp [hx1]
          have hu1 : u = 1 := HB1.out i hlt (by rw [← Hx.out]; omega)
          have HU1 : Hid (u = 1) := hu1
          clear hx0 hx1 hu1
          go_wp2_with (refine wpList_store_row rfl 79 _ _ rfl (w.heap.size + 1) (gRow 0 fun _ => 0) rfl rfl 79 _ hrs (inf45 _ _) rfl (gRow_one _ _) ?_)
          exact post_gr (z := 1) 2 3 rfl rfl rfl (hrs.whole 0 fun _ => 0) rfl (HER.out 1 _ HU1.out (by decide) (bsetR HO.out.bw (by omega) _))
    · have hdi : decide ((i : Int) < (z : Int)) = false := by simp; omega
      obtain rfl : i = z := by omega
      have hgr := hO.gr
      have CM := mutual_any n (bt i) wr (by omega) (fun a _ => HLT.out i a)
      have hon := HON.out HI.out
      have hmu := HMU.out HI.out
      have HLW : Hid (w.heap.size + 1 + 1 < wr.heap.size) := hO.gr.lt
      have HGR : Hid (GrW wr (w.heap.size + 1 + 1) n (bt i)) := hgr
      cases sy with
      | true =>
        have HMUT : Hid (MuB n (bt i)) := hmu.2 rfl
        have HU0 : Hid (u = 0) := (by simpa using hon : u = 0)
        clear hon hmu
        go_wp2_with (first
          | (refine wpList_load_row rfl 79 _ rfl (w.heap.size + 1 + 1) rfl 79 _ (0, 0) _ hgr hu rfl (inf45 _ _) ?_)
          | (refine wpList_load_row rfl 79 _ rfl (w.heap.size + 1 + 1) rfl 79 _ (0, 0) _ hgr2 hu rfl (inf45 _ _) ?_)
          | (refine wpList_store_row rfl 79 _ _ rfl (w.heap.size + 1) (gRow n (bt i)) rfl rfl 79 _ hrs2 (inf45 _ _) (by rw [gRow_size, gRow_size]) (gRow_one _ _) ?_)
          | (go_at_call 69; refine CM.mono ?_; rintro e w2 ⟨⟨q, rfl, hq⟩, hb2⟩; clear CM; obtain rfl : q = true := hq.2 HMUT.out; have hO2 := HO.out.mv hb2; have hgr2 := hO2.gr; have hrs2 := hO2.rs; clear hgr hq))
        exact post_gr (z := 0) 2 3 rfl rfl rfl (hrs2.whole n (bt i)) rfl (HOK.out _ HU0.out (bsetR hO2.bw (by omega) _))
      | false =>
        have HMUT : Hid (¬ MuB n (bt i)) := fun h => (by have := hmu.1 h; cases this)
        have HU0 : Hid (u = 4) := (by simpa using hon : u = 4)
        clear hon hmu
        go_wp2_with (first
          | (refine wpList_load_row rfl 79 _ rfl (w.heap.size + 1 + 1) rfl 79 _ (0, 0) _ hgr hu rfl (inf45 _ _) ?_)
          | (refine wpList_store_row rfl 79 _ _ rfl (w.heap.size + 1) (gRow 0 fun _ => 0) rfl rfl 79 _ hrs2 (inf45 _ _) rfl (gRow_one _ _) ?_)
          | (go_at_call 69; refine CM.mono ?_; rintro e w2 ⟨⟨q, rfl, hq⟩, hb2⟩; clear CM; obtain rfl : q = false := (by cases q; rfl; exact absurd (hq.1 rfl) HMUT.out); have hO2 := HO.out.mv hb2; have hrs2 := hO2.rs; clear hgr hq))
        exact post_gr (z := 4) 2 3 rfl rfl rfl (hrs2.whole 0 fun _ => 0) rfl (HER.out 4 _ HU0.out (by decide) (bsetR hO2.bw (by omega) _))
set_option maxRecDepth 100000 in
theorem open_any (s : Int) (L : List Int) (v : Value) (w : World) (hv : Sl w v L) (hll : L.length ≤ maxLen) : Calls Tryd.prog 36 #[.agg #[.int .i64 s, v]] w (OpenR s L w) := by
  by_cases h : s < 1 ∨ 24 < s
  · exact open_far s L v w h
  · obtain ⟨n, rfl⟩ : ∃ n : Nat, s = n := ⟨s.toNat, by omega⟩
    by_cases hl : L.length = n * n
    · exact open_main n L v w (by omega) (by omega) hv hl
    · exact open_shape n L v w (by omega) (by omega) hv hll hl
end Go.Proofs.YtlmjlffipinjiabDoor.Sg

namespace Go.Proofs.YtlmjlffipinjiabDoor.Sg
open Go.RowKit Go.Shelf

theorem op_good {s m : Int} {L : List Int} {f : Nat → Nat} (h : gF s L = 0) (hO : OpT s L m f) : ∃ n : Nat, s = n ∧ GoodG n L ∧ m = n ∧ (∀ a, a < n → f a = rbG n (gx n L) a) ∧ ∀ a, a < 24 → f a < 2 ^ 32 := by
  obtain ⟨n, rfl, G⟩ := gF_ok h
  obtain ⟨rfl, hf⟩ := hO h
  rw [Int.toNat_natCast] at hf
  have := G.le
  exact ⟨n, rfl, G, rfl, fun a ha => by rw [hf a, bt2_all ha], fun a _ => by rw [hf a]; exact Nat.lt_of_lt_of_le (bt2_lt n L _ a) (Nat.pow_le_pow_right (by decide) (by omega))⟩
set_option maxRecDepth 100000 in
theorem post_st {fn : Func} {R : Ending → World → Prop} {a : Act} {w : World} {g : Nat} {P D L M z : Int} (s u : Tmp) (hres : fn.results = #[.cell s 45, .tmp u])
    (hp : a.tmps.getD s undef = .pointer (some ⟨g, 0, none⟩)) (hz : a.tmps.getD u undef = .int .i64 z) (hr : w.heap[g]? = some (.cells #[.int .i64 P, .int .i64 D, .int .i64 L, .int .i64 M] 45 (0, 0))) (hd : a.defers = []) (hR : R (.returned (.tuple #[.agg #[.int .i64 P, .int .i64 D, .int .i64 L, .int .i64 M], .int .i64 z])) w) : bodyPost Tryd.prog fn R .ret a w := by
  refine bodyPost_ret ?_ hd hR
  have hp' : a.tmps[s]?.getD undef = .pointer (some ⟨g, 0, none⟩) := by simpa using hp
  have hz' : a.tmps[u]?.getD undef = .int .i64 z := by simpa using hz
  simp [results, hres, hp', hz', asAddr, run_loadVar_row w g 45 45 _ (0, 0) _ hr Tryd.underlying45 rfl (infSt _ _ _ _)]
set_option maxRecDepth 100000 in
set_option maxHeartbeats 8000000 in
theorem fnum : FNum := by
  intro s L v W hv hll
  obtain ⟨fs, hu⟩ := und45
  have hbox := heap_alloc_new W (.cells #[.int .i64 s, v] 27)
  have x0 : (W.alloc (.cells #[.int .i64 s, v] 27)).cell? ⟨W.heap.size, 0, none⟩ = some (.int .i64 s) := cell_of_row _ _ 0 _ _ _ hbox
  have x1 : (W.alloc (.cells #[.int .i64 s, v] 27)).cell? ⟨W.heap.size, 1, none⟩ = some v := cell_of_row _ _ 1 _ _ _ hbox
  have b0 := balloc W (.cells #[.int .i64 s, v] 27)
  have hr1 : ((W.alloc (.cells #[.int .i64 s, v] 27)).alloc (.cells #[.int .i64 0, .int .i64 0, .int .i64 0, .int .i64 0] 45)).heap[W.heap.size + 1]? = some (.cells #[.int .i64 0, .int .i64 0, .int .i64 0, .int .i64 0] 45 (0, 0)) := by
    have := heap_alloc_new (W.alloc (.cells #[.int .i64 s, v] 27)) (.cells #[.int .i64 0, .int .i64 0, .int .i64 0, .int .i64 0] 45)
    rwa [World.size_alloc] at this
  have b1 := balloc (W.alloc (.cells #[.int .i64 s, v] 27)) (.cells #[.int .i64 0, .int .i64 0, .int .i64 0, .int .i64 0] 45)
  have y0 := (b1.cell (p := ⟨W.heap.size, 0, none⟩) (by simp)).trans x0
  have y1 := (b1.cell (p := ⟨W.heap.size, 1, none⟩) (by simp)).trans x1
  have b01 := Below.next b0 b1
  have CO := open_any s L v _ (hv.below b01) hll
  have hls : W.heap.size + 1 < ((W.alloc (.cells #[.int .i64 s, v] 27)).alloc (.cells #[.int .i64 0, .int .i64 0, .int .i64 0, .int .i64 0] 45)).heap.size := by simp
  generalize hW1 : (W.alloc (.cells #[.int .i64 s, v] 27)).alloc (.cells #[.int .i64 0, .int .i64 0, .int .i64 0, .int .i64 0] 45) = W1 at *
  have HLS : Hid (W.heap.size + 1 < W1.heap.size) := hls
  have HB1 : Hid (Below W.heap.size W W1) := b01
  have HR1 : Hid (W1.heap[W.heap.size + 1]? = some (.cells #[.int .i64 0, .int .i64 0, .int .i64 0, .int .i64 0] 45 (0, 0))) := hr1
  clear b0 b1 x0 x1 hbox hls b01 hr1
  by_cases h0 : gF s L = 0
  · obtain ⟨n, rfl, G⟩ := gF_ok h0
    have he : ((gF n L : Int) != 0) = false := by simp [h0]
    have HC18 : Hid (∀ e w2, OpenR n L W1 e w2 → ∃ f, e = .returned (.tuple #[.agg (gRow n f), .int .i64 0]) ∧ Hid ((∀ a, a < n → f a = rbG n (gx n L) a) ∧ ∀ a, a < 24 → f a < 2 ^ 32) ∧ Below W1.heap.size W1 w2) := by
      rintro e w2 ⟨⟨m, f, rfl, hO⟩, hb2⟩
      obtain ⟨n', e1, _, rfl, h1, h2⟩ := op_good h0 hO
      obtain rfl : n = n' := by omega
      exact ⟨f, by rw [h0]; rfl, ⟨h1, h2⟩, hb2⟩
    have HC19 : Hid (∀ f w, (∀ a, a < n → f a = rbG n (gx n L) a) ∧ (∀ a, a < 24 → f a < 2 ^ 32) → Calls Tryd.prog 37 #[.agg (gRow n f)] w fun e w' => (∃ (P D N F : Int) (q : Bool), e = .returned (.tuple #[.agg #[.int .i64 P, .int .i64 D, .int .i64 N, .int .i64 F], .bool q]) ∧ NuT n (gx n L) P D N F q) ∧ Below w.heap.size w w') := fun f w hf => numbers_any n (gx n L) f w G.pos G.le G.gr hf.1 hf.2
    have HFIN : Hid (∀ (P D N F : Int) (q : Bool), NuT n (gx n L) P D N F q → NuR n L P D N F (if q then 0 else 4)) := by
      intro P D N F q h
      refine .inr ⟨n, rfl, G, ?_⟩
      rcases h with ⟨rfl, h1, h2⟩ | ⟨rfl, h1, h2, h3, h4, h5⟩
      · exact .inl ⟨rfl, h1, h2⟩
      · exact .inr ⟨rfl, h1, h2, h3, h4, h5⟩
    have HN0 : Hid (∀ (P D N F : Int), NuT n (gx n L) P D N F false → P = 0 ∧ D = 0 ∧ N = 0 ∧ F = 0) := by
      intro P D N F h
      rcases h with ⟨h, _⟩ | ⟨_, h1, h2, h3, h4, _⟩
      · cases h
      · exact ⟨h1, h2, h3, h4⟩
    have KR : Hid (∀ (w2 w4 : World) (f : Nat → Nat) (row : Array Value), Below W1.heap.size W1 w2 → Below ((w2.alloc (.cells #[.int .i64 0, .int .u32 0, .int .u32 0, .int .u32 0, .int .u32 0, .int .u32 0, .int .u32 0, .int .u32 0, .int .u32 0, .int .u32 0, .int .u32 0, .int .u32 0, .int .u32 0, .int .u32 0, .int .u32 0, .int .u32 0, .int .u32 0, .int .u32 0, .int .u32 0, .int .u32 0, .int .u32 0, .int .u32 0, .int .u32 0, .int .u32 0, .int .u32 0] 79)).setRow w2.heap.size (gRow n f)).heap.size ((w2.alloc (.cells #[.int .i64 0, .int .u32 0, .int .u32 0, .int .u32 0, .int .u32 0, .int .u32 0, .int .u32 0, .int .u32 0, .int .u32 0, .int .u32 0, .int .u32 0, .int .u32 0, .int .u32 0, .int .u32 0, .int .u32 0, .int .u32 0, .int .u32 0, .int .u32 0, .int .u32 0, .int .u32 0, .int .u32 0, .int .u32 0, .int .u32 0, .int .u32 0, .int .u32 0] 79)).setRow w2.heap.size (gRow n f)) w4 → ((w4.alloc (.cells #[.int .i64 0, .int .i64 0, .int .i64 0, .int .i64 0] 45)).setRow w4.heap.size row).heap[W.heap.size + 1]? = some (.cells #[.int .i64 0, .int .i64 0, .int .i64 0, .int .i64 0] 45 (0, 0)) ∧ Below W.heap.size W ((w4.alloc (.cells #[.int .i64 0, .int .i64 0, .int .i64 0, .int .i64 0] 45)).setRow w4.heap.size row)) := by
      intro w2 w4 f row hb2 hb4
      have h1 := HLS.out
      have h2 := hb2.size
      have b3 : Below w2.heap.size w2 ((w2.alloc (.cells #[.int .i64 0, .int .u32 0, .int .u32 0, .int .u32 0, .int .u32 0, .int .u32 0, .int .u32 0, .int .u32 0, .int .u32 0, .int .u32 0, .int .u32 0, .int .u32 0, .int .u32 0, .int .u32 0, .int .u32 0, .int .u32 0, .int .u32 0, .int .u32 0, .int .u32 0, .int .u32 0, .int .u32 0, .int .u32 0, .int .u32 0, .int .u32 0, .int .u32 0] 79)).setRow w2.heap.size (gRow n f)) := bsetR (balloc w2 _) (Nat.le_refl _) _
      have b4 := Below.next b3 hb4
      have b5 : Below w4.heap.size w4 ((w4.alloc (.cells #[.int .i64 0, .int .i64 0, .int .i64 0, .int .i64 0] 45)).setRow w4.heap.size row) := bsetR (balloc w4 _) (Nat.le_refl _) _
      have b6 := Below.next (Below.next hb2 b4) b5
      exact ⟨(b6.block _ h1).trans HR1.out, Below.next HB1.out b6⟩
    have CO2 := CO.mono (HC18.out)
    clear CO G h0
    generalize gF n L = gg at *
    by_cases hst : ∃ k l m, StN n k l m (gx n L)
    · have CQ : Hid (∀ f w, (∀ a, a < n → f a = rbG n (gx n L) a) ∧ (∀ a, a < 24 → f a < 2 ^ 32) → Calls Tryd.prog 37 #[.agg (gRow n f)] w fun e w' => (∃ (P D N F : Int), e = .returned (.tuple #[.agg #[.int .i64 P, .int .i64 D, .int .i64 N, .int .i64 F], .bool true]) ∧ NuT n (gx n L) P D N F true) ∧ Below w.heap.size w w') := fun f w hf => (HC19.out f w hf).mono fun e w' ⟨⟨P, D, N, F, q, h1, h2⟩, hb⟩ => by
        obtain rfl : q = true := by
          rcases h2 with ⟨h2, _, h3⟩ | ⟨h2, _, _, _, _, h3⟩
          · exact h2
          · exact absurd hst h3
        exact ⟨⟨P, D, N, F, h1, h2⟩, hb⟩
      clear hst HC19
      go_enter Tryd.func12, Tryd.ntmps12
      go_wp2_with (first
        | (rw [hW1])
        | (refine wpList_store_row rfl 79 _ _ rfl w2.heap.size (gRow n f) rfl rfl 79 _ hz (inf45 _ _) (by rw [gRow_size]; rfl) (gRow_one _ _) ?_)
        | (refine wpList_load_row rfl 79 _ rfl w2.heap.size rfl 79 _ (0, 0) _ hg3 hu rfl (inf45 _ _) ?_)
        | (go_at_call 36; refine CO2.mono ?_; rintro e w2 ⟨f, rfl, Hf, hb2⟩; clear CO2; have hz := GrW.zero w2; have hg3 := hz.whole n f; have CN := CQ.out f ((w2.alloc (.cells #[.int .i64 0, .int .u32 0, .int .u32 0, .int .u32 0, .int .u32 0, .int .u32 0, .int .u32 0, .int .u32 0, .int .u32 0, .int .u32 0, .int .u32 0, .int .u32 0, .int .u32 0, .int .u32 0, .int .u32 0, .int .u32 0, .int .u32 0, .int .u32 0, .int .u32 0, .int .u32 0, .int .u32 0, .int .u32 0, .int .u32 0, .int .u32 0, .int .u32 0] 79)).setRow w2.heap.size (gRow n f)) Hf.out)
        | (go_at_call 37; refine CN.mono ?_; rintro e w4 ⟨⟨P, D, N, F, rfl, hNu⟩, hb4⟩; clear CN; have hz4 := heap_alloc_new w4 (.cells #[.int .i64 0, .int .i64 0, .int .i64 0, .int .i64 0] 45); have hg5 := setRow_heap _ _ _ #[.int .i64 P, .int .i64 D, .int .i64 N, .int .i64 F] _ _ hz4; have hr5 := (KR.out w2 w4 f #[.int .i64 P, .int .i64 D, .int .i64 N, .int .i64 F] hb2 hb4).1; have hb5 := (KR.out w2 w4 f #[.int .i64 P, .int .i64 D, .int .i64 N, .int .i64 F] hb2 hb4).2; have HNU : Hid (NuT n (gx n L) P D N F true) := hNu; clear hNu)
        | (refine wpList_store_row rfl 45 _ _ rfl w4.heap.size #[.int .i64 P, .int .i64 D, .int .i64 N, .int .i64 F] rfl rfl 45 _ hz4 (infSt _ _ _ _) rfl (str_one _ _ _ _) ?_)
        | (refine wpList_load_row rfl 45 _ rfl w4.heap.size rfl 45 _ (0, 0) _ hg5 Tryd.underlying45 rfl (infSt _ _ _ _) ?_)
        | (refine wpList_store_row rfl 45 _ _ rfl (W.heap.size + 1) #[.int .i64 P, .int .i64 D, .int .i64 N, .int .i64 F] rfl rfl 45 _ hr5 (infSt _ _ _ _) rfl (str_one _ _ _ _) ?_))
      exact post_st2 2 3 rfl rfl (setRow_heap _ _ _ _ _ _ hr5) rfl rfl ⟨⟨P, D, N, F, 0, rfl, HFIN.out P D N F true HNU.out⟩, bsetR hb5 (by omega) _⟩
    · have CQ : Hid (∀ f w, (∀ a, a < n → f a = rbG n (gx n L) a) ∧ (∀ a, a < 24 → f a < 2 ^ 32) → Calls Tryd.prog 37 #[.agg (gRow n f)] w fun e w' => (∃ (P D N F : Int), e = .returned (.tuple #[.agg #[.int .i64 P, .int .i64 D, .int .i64 N, .int .i64 F], .bool false]) ∧ NuT n (gx n L) P D N F false) ∧ Below w.heap.size w w') := fun f w hf => (HC19.out f w hf).mono fun e w' ⟨⟨P, D, N, F, q, h1, h2⟩, hb⟩ => by
        obtain rfl : q = false := by
          rcases h2 with ⟨h2, _, h3⟩ | ⟨h2, _, _, _, _, h3⟩
          · exact absurd ⟨_, _, _, h3⟩ hst
          · exact h2
        exact ⟨⟨P, D, N, F, h1, h2⟩, hb⟩
      clear hst HC19
      go_enter Tryd.func12, Tryd.ntmps12
      go_wp2_with (first
        | (rw [hW1])
        | (refine wpList_store_row rfl 79 _ _ rfl w2.heap.size (gRow n f) rfl rfl 79 _ hz (inf45 _ _) (by rw [gRow_size]; rfl) (gRow_one _ _) ?_)
        | (refine wpList_load_row rfl 79 _ rfl w2.heap.size rfl 79 _ (0, 0) _ hg3 hu rfl (inf45 _ _) ?_)
        | (go_at_call 36; refine CO2.mono ?_; rintro e w2 ⟨f, rfl, Hf, hb2⟩; clear CO2; have hz := GrW.zero w2; have hg3 := hz.whole n f; have CN := CQ.out f ((w2.alloc (.cells #[.int .i64 0, .int .u32 0, .int .u32 0, .int .u32 0, .int .u32 0, .int .u32 0, .int .u32 0, .int .u32 0, .int .u32 0, .int .u32 0, .int .u32 0, .int .u32 0, .int .u32 0, .int .u32 0, .int .u32 0, .int .u32 0, .int .u32 0, .int .u32 0, .int .u32 0, .int .u32 0, .int .u32 0, .int .u32 0, .int .u32 0, .int .u32 0, .int .u32 0] 79)).setRow w2.heap.size (gRow n f)) Hf.out)
        | (go_at_call 37; refine CN.mono ?_; rintro e w4 ⟨⟨P, D, N, F, rfl, hNu⟩, hb4⟩; clear CN; obtain ⟨rfl, rfl, rfl, rfl⟩ := HN0.out P D N F hNu; have hz4 := heap_alloc_new w4 (.cells #[.int .i64 0, .int .i64 0, .int .i64 0, .int .i64 0] 45); have hg5 := setRow_heap _ _ _ #[.int .i64 0, .int .i64 0, .int .i64 0, .int .i64 0] _ _ hz4; have hr5 := (KR.out w2 w4 f #[.int .i64 0, .int .i64 0, .int .i64 0, .int .i64 0] hb2 hb4).1; have hb5 := (KR.out w2 w4 f #[.int .i64 0, .int .i64 0, .int .i64 0, .int .i64 0] hb2 hb4).2; have HNU : Hid (NuT n (gx n L) 0 0 0 0 false) := hNu; clear hNu)
        | (refine wpList_store_row rfl 45 _ _ rfl w4.heap.size #[.int .i64 0, .int .i64 0, .int .i64 0, .int .i64 0] rfl rfl 45 _ hz4 (infSt _ _ _ _) rfl (str_one _ _ _ _) ?_)
        | (refine wpList_load_row rfl 45 _ rfl w4.heap.size rfl 45 _ (0, 0) _ hg5 Tryd.underlying45 rfl (infSt _ _ _ _) ?_)
        | (refine wpList_store_row rfl 45 _ _ rfl (W.heap.size + 1) #[.int .i64 0, .int .i64 0, .int .i64 0, .int .i64 0] rfl rfl 45 _ hr5 (infSt _ _ _ _) rfl (str_one _ _ _ _) ?_))
      exact post_st2 2 3 rfl rfl (setRow_heap _ _ _ _ _ _ hr5) rfl rfl ⟨⟨0, 0, 0, 0, 4, rfl, HFIN.out 0 0 0 0 false HNU.out⟩, bsetR hb5 (by omega) _⟩
  · have he : ((gF s L : Int) != 0) = true := by simp; omega
    have KR : Hid (∀ (w2 : World) (m : Int) (f : Nat → Nat), Below W1.heap.size W1 w2 → ((w2.alloc (.cells #[.int .i64 0, .int .u32 0, .int .u32 0, .int .u32 0, .int .u32 0, .int .u32 0, .int .u32 0, .int .u32 0, .int .u32 0, .int .u32 0, .int .u32 0, .int .u32 0, .int .u32 0, .int .u32 0, .int .u32 0, .int .u32 0, .int .u32 0, .int .u32 0, .int .u32 0, .int .u32 0, .int .u32 0, .int .u32 0, .int .u32 0, .int .u32 0, .int .u32 0] 79)).setRow w2.heap.size (gRow m f)).heap[W.heap.size + 1]? = some (.cells #[.int .i64 0, .int .i64 0, .int .i64 0, .int .i64 0] 45 (0, 0)) ∧ Below W.heap.size W ((w2.alloc (.cells #[.int .i64 0, .int .u32 0, .int .u32 0, .int .u32 0, .int .u32 0, .int .u32 0, .int .u32 0, .int .u32 0, .int .u32 0, .int .u32 0, .int .u32 0, .int .u32 0, .int .u32 0, .int .u32 0, .int .u32 0, .int .u32 0, .int .u32 0, .int .u32 0, .int .u32 0, .int .u32 0, .int .u32 0, .int .u32 0, .int .u32 0, .int .u32 0, .int .u32 0] 79)).setRow w2.heap.size (gRow m f))) := by
      intro w2 m f hb2
      have h1 := HLS.out
      have b3 : Below w2.heap.size w2 ((w2.alloc (.cells #[.int .i64 0, .int .u32 0, .int .u32 0, .int .u32 0, .int .u32 0, .int .u32 0, .int .u32 0, .int .u32 0, .int .u32 0, .int .u32 0, .int .u32 0, .int .u32 0, .int .u32 0, .int .u32 0, .int .u32 0, .int .u32 0, .int .u32 0, .int .u32 0, .int .u32 0, .int .u32 0, .int .u32 0, .int .u32 0, .int .u32 0, .int .u32 0, .int .u32 0] 79)).setRow w2.heap.size (gRow m f)) := bsetR (balloc w2 _) (Nat.le_refl _) _
      have b6 := Below.next hb2 b3
      exact ⟨(b6.block _ h1).trans HR1.out, Below.next HB1.out b6⟩
    have HFIN : Hid (NuR s L 0 0 0 0 (gF s L)) := .inl ⟨h0, rfl, rfl, rfl, rfl, rfl⟩
    clear h0
    go_enter Tryd.func12, Tryd.ntmps12
    go_wp2_with (first
      | (rw [hW1])
      | (refine wpList_store_row rfl 79 _ _ rfl w2.heap.size (gRow m f) rfl rfl 79 _ hz (inf45 _ _) (by rw [gRow_size]; rfl) (gRow_one _ _) ?_)
      | (go_at_call 36; refine CO.mono ?_; rintro e w2 ⟨⟨m, f, rfl, hO⟩, hb2⟩; clear CO; have hz := GrW.zero w2; have hr5 := (KR.out w2 m f hb2).1; have hb5 := (KR.out w2 m f hb2).2)
      | (refine wpList_store_row rfl 45 _ _ rfl (W.heap.size + 1) #[.int .i64 0, .int .i64 0, .int .i64 0, .int .i64 0] rfl rfl 45 _ hr5 (infSt _ _ _ _) rfl (str_one _ _ _ _) ?_))
    exact post_st2 2 3 rfl rfl (setRow_heap _ _ _ _ _ _ hr5) rfl rfl ⟨⟨0, 0, 0, 0, gF s L, rfl, HFIN.out⟩, bsetR hb5 (by omega) _⟩
end Go.Proofs.YtlmjlffipinjiabDoor.Sg

/- The walk of drawn. -/
namespace Go.Proofs.YtlmjlffipinjiabDoor.Sg
open Go.RowKit Go.Shelf

attribute [local go_sem] Oper.semAt_some
set_option maxRecDepth 100000 in
theorem mk_info : ∃ i, Tryd.prog.info? 3 = some i ∧ i.zero = some (.int .i64 0) ∧ i.size = 1 ∧ i.bytes = 8 := by
  refine ⟨_, rfl, ?_, ?_, ?_⟩ <;> kernel_rfl
set_option maxRecDepth 100000 in
theorem mk_row (n : Nat) (hn : n ≤ 999) (w : World) : (Instr.makeSlice 22 (.int .i64 (n : Int)) (.int .i64 (n : Int))).run Tryd.prog w = .ok (.slice (some ⟨w.heap.size, 0, none⟩) n n) (w.alloc (.cells (madeCells #[.int .i64 0] n) 3)) := by
  obtain ⟨i3, hi, hz0, hz1, hz2⟩ := mk_info
  have h := run_make (P := Tryd.prog) w 22 3 i3 (.int .i64 0) Tryd.underlying22 hi hz0 .i64 .i64 n n (by omega) (by omega) (by rw [hz2]; omega) (by omega)
  simpa [hz1, Value.cells] using h
/-- A function that tells of two places whether they are joined. -/
def TelB (gf : Nat) (bd lb : Array Value) (N : Nat) (J : Nat → Nat → Bool) (w : World) : Prop := ∀ (a b : Nat) (W : World), a < b → b < N → Below w.heap.size w W → Calls Tryd.prog gf (bd ++ (#[.int .i64 (a : Int), .int .i64 (b : Int)] ++ lb)) W fun e w' => e = .returned (.bool (J a b)) ∧ Below W.heap.size W w'

structure DrP (w : World) (N : Nat) (fv : Value) (A : World) : Prop where
  bf : Boxed A w.heap.size 83 fv
  br : A.heap[w.heap.size + 1]? = some (.cells #[.int .i64 0, .slice none 0 0] 27 (0, 0))
  bs : Boxed A (w.heap.size + 1 + 1) 3 (.int .i64 (N : Int))
  sz : A.heap.size = w.heap.size + 3
  bw : Below w.heap.size w A
/-- What drawn keeps. -/
structure DrI (w : World) (N : Nat) (fv : Value) (go gs z : Nat) (F : Nat → Int) (A : World) : Prop where
  bf : Boxed A w.heap.size 83 fv
  br : A.heap[w.heap.size + 1]? = some (.cells #[.int .i64 0, .slice none 0 0] 27 (0, 0))
  bs : Boxed A (w.heap.size + 1 + 1) 3 (.int .i64 (N : Int))
  bo : A.heap[go]? = some (.cells #[.int .i64 (N : Int), .slice (some ⟨gs, 0, none⟩) z z] 27 (0, 0))
  ow : Own A gs z F
  l1 : w.heap.size + 3 ≤ go
  l2 : w.heap.size + 3 ≤ gs
  ne : go ≠ gs
  bw : Below w.heap.size w A
section
variable {w A B : World} {N go gs z : Nat} {fv : Value} {F : Nat → Int}
theorem DrI.mv (h : DrI w N fv go gs z F A) {n : Nat} (hb : Below n A B) (h1 : go < n) (h2 : gs < n) : DrI w N fv go gs z F B :=
  have q1 := h.l1
  have q2 := h.l2
  ⟨boxB h.bf hb (by omega), (hb.block _ (by omega)).trans h.br, boxB h.bs hb (by omega), (hb.block _ (by omega)).trans h.bo, (by obtain ⟨cur, k1, k2⟩ := h.ow; exact ⟨cur, (hb.block _ h2).trans k1, k2⟩), h.l1, h.l2, h.ne, h.bw.trans (hb.mono (by omega))⟩
theorem DrI.put (h : DrI w N fv go gs z F A) (j : Nat) (x : Int) : DrI w N fv go gs z (upd F j x) (A.setCell ⟨gs, j, none⟩ (.int .i64 x)) :=
  have q1 := h.l1
  have q2 := h.l2
  have k : ∀ b, b ≠ gs → (A.setCell ⟨gs, j, none⟩ (.int .i64 x)).heap[b]? = A.heap[b]? := fun b hb => heap_setCell_other A ⟨gs, j, none⟩ b _ hb
  ⟨(k _ (by omega)).trans h.bf, (k _ (by omega)).trans h.br, (k _ (by omega)).trans h.bs, (k _ h.ne).trans h.bo, h.ow.set j x, h.l1, h.l2, h.ne, h.bw.setCell (p := ⟨gs, j, none⟩) (by show _ ≤ gs; omega) _⟩
theorem DrI.congr {F' : Nat → Int} (h : DrI w N fv go gs z F A) (e : ∀ j, j < z → F j = F' j) : DrI w N fv go gs z F' A := ⟨h.bf, h.br, h.bs, h.bo, h.ow.congr e, h.l1, h.l2, h.ne, h.bw⟩
end
theorem made_own (w : World) (n : Nat) : Own (w.alloc (.cells (madeCells #[.int .i64 0] n) 3)) w.heap.size n (fun _ => 0) := by
  refine ⟨_, heap_alloc_new w _, fun j hj => ?_⟩
  rw [← Array.getElem?_toList, toList_madeCells_one]
  simp [hj]
theorem DrP.one {w V : World} {N z : Nat} {fv : Value} (h : DrP w N fv V) : DrI w N fv (w.heap.size + 3 + 1) (w.heap.size + 3) z (fun _ => 0) ((V.alloc (.cells (madeCells #[.int .i64 0] z) 3)).alloc (.cells #[.int .i64 (N : Int), .slice (some ⟨w.heap.size + 3, 0, none⟩) z z] 27)).drew := by
  have b : Below V.heap.size V (World.drew _) := Below.drew (Below.next (balloc V (.cells (madeCells #[.int .i64 0] z) 3)) (balloc _ (.cells #[.int .i64 (N : Int), .slice (some ⟨w.heap.size + 3, 0, none⟩) z z] 27)))
  have hs := h.sz
  have o := made_own V z
  have n := heap_alloc_new (V.alloc (.cells (madeCells #[.int .i64 0] z) 3)) (.cells #[.int .i64 (N : Int), .slice (some ⟨w.heap.size + 3, 0, none⟩) z z] 27)
  rw [World.size_alloc, hs] at n
  rw [hs] at o
  exact ⟨boxB h.bf b (by omega), (b.block _ (by omega)).trans h.br, boxB h.bs b (by omega), n, (o.below (balloc _ _)).drew, by omega, by omega, by omega, h.bw.trans (b.mono (by omega))⟩
theorem DrP.two {w V : World} {N z : Nat} {fv : Value} (h : DrP w N fv V) : DrI w N fv (w.heap.size + 3) (w.heap.size + 3 + 1) z (fun _ => 0) ((V.alloc (.cells #[.int .i64 (N : Int), .slice (some ⟨w.heap.size + 3 + 1, 0, none⟩) z z] 27)).alloc (.cells (madeCells #[.int .i64 0] z) 3)).drew := by
  have b : Below V.heap.size V (World.drew _) := Below.drew (Below.next (balloc V (.cells #[.int .i64 (N : Int), .slice (some ⟨w.heap.size + 3 + 1, 0, none⟩) z z] 27)) (balloc _ (.cells (madeCells #[.int .i64 0] z) 3)))
  have hs := h.sz
  have o := made_own (V.alloc (.cells #[.int .i64 (N : Int), .slice (some ⟨w.heap.size + 3 + 1, 0, none⟩) z z] 27)) z
  have n := heap_alloc_new V (.cells #[.int .i64 (N : Int), .slice (some ⟨w.heap.size + 3 + 1, 0, none⟩) z z] 27)
  rw [World.size_alloc, hs] at o
  rw [hs] at n
  exact ⟨boxB h.bf b (by omega), (b.block _ (by omega)).trans h.br, boxB h.bs b (by omega), (Below.heap_alloc _ _ _ (by rw [World.size_alloc]; omega)).trans n, o.drew, by omega, by omega, by omega, h.bw.trans (b.mono (by omega))⟩
set_option maxRecDepth 100000 in
set_option maxHeartbeats 8000000 in
theorem drawn_any (N gf : Nat) (bd lb : Array Value) (J : Nat → Nat → Bool) (w : World) (hN : N ≤ 24) (eg : ∀ args w, (callFunc gf args).run Tryd.prog w = .ok (.enter gf args) w) (hT : TelB gf bd lb N J w) :
    Calls Tryd.prog 33 #[.int .i64 (N : Int), .func (.func gf) bd lb] w fun e w' => (∃ g, e = .returned (.agg #[.int .i64 (N : Int), .slice (some ⟨g, 0, none⟩) (N * N) (N * N)]) ∧ Own w' g (N * N) (drF N J (prL N).length)) ∧ Below w.heap.size w w' := by
  refine (callsIn_wide (n := 9)).1 (callsIn_of_wp_marks Tryd.func33 rfl trivial (wpIn_wide.2 ?_) rfl)
  simp only [Tryd.ntmps33, List.size_toArray, List.length_cons, List.length_nil, Nat.reduceAdd, Nat.reduceSub, Array.replicate_succ, Array.replicate_zero, List.push_toArray, List.append_toArray, List.nil_append, List.cons_append]
  obtain ⟨z, Hz⟩ : ∃ z : Nat, Hid (z = N * N) := ⟨_, rfl⟩
  have hz99 : z ≤ 999 := by rw [Hz.out]; exact Nat.le_trans (Nat.mul_le_mul hN hN) (by decide)
  have hmul : (N : Int) * (N : Int) = (z : Int) := by rw [Hz.out]; simp
  have hmk := mk_row z hz99
  have hwz : IntKind.i64.wrap (z : Int) = (z : Int) := by rw [IntKind.wrap_i64]; omega
  rw [← Hz.out]
  go_wp2
  have S0 : (((((w.alloc (.cells #[.func (.func gf) bd lb] 83)).alloc (.cells #[.int .i64 0, .slice none 0 0] 27)).alloc (.cells #[.int .i64 (N : Int)] 3))).drew).cell? ⟨w.heap.size + 1 + 1, 0, none⟩ = some (.int .i64 (N : Int)) := by
    have h := Boxed.new ((w.alloc (.cells #[.func (.func gf) bd lb] 83)).alloc (.cells #[.int .i64 0, .slice none 0 0] 27)) 3 (.int .i64 (N : Int))
    rw [World.size_alloc, World.size_alloc] at h
    exact h.cell
  have hV : DrP w N (.func (.func gf) bd lb) (((w.alloc (.cells #[.func (.func gf) bd lb] 83)).alloc (.cells #[.int .i64 0, .slice none 0 0] 27)).alloc (.cells #[.int .i64 (N : Int)] 3)) := by
    have al : ∀ (W : World) (o : Obj) (k : Nat) (x : Obj), W.heap[k]? = some x → (W.alloc o).heap[k]? = some x := fun W o k x h => (Below.heap_alloc W o k (Array.getElem?_eq_some_iff.1 h).1).trans h
    have nw : ∀ (W : World) (cs : Array Value) (t : TypeId) (k : Nat), W.heap.size = k → (W.alloc (.cells cs t)).heap[k]? = some (.cells cs t (0, 0)) := fun W cs t k h => by subst h; exact heap_alloc_new W _
    refine ⟨?_, ?_, ?_, by simp, ?_⟩
    · exact al _ _ _ _ (al _ _ _ _ (Boxed.new w 83 _))
    · exact al _ _ _ _ (nw _ _ _ _ (by simp))
    · exact nw _ _ _ _ (by simp)
    · exact ((balloc w _).alloc (by simp) _).alloc (by simp; omega) _
  generalize ((w.alloc (.cells #[.func (.func gf) bd lb] 83)).alloc (.cells #[.int .i64 0, .slice none 0 0] 27)).alloc (.cells #[.int .i64 (N : Int)] 3) = V at *
  have hsV := hV.sz
  have HV : Hid (DrP w N (.func (.func gf) bd lb) V) := hV
  have k0 : V.cell? ⟨w.heap.size + 1 + 1, 0, none⟩ = some (.int .i64 (N : Int)) := S0
  have k1 : ∀ o, (V.alloc o).drew.cell? ⟨w.heap.size + 1 + 1, 0, none⟩ = some (.int .i64 (N : Int)) := fun o => ((balloc V o).cell (p := ⟨w.heap.size + 1 + 1, 0, none⟩) (by show w.heap.size + 1 + 1 < _; omega)).trans k0
  have k2 : ∀ o o', ((V.alloc o).alloc o').drew.cell? ⟨w.heap.size + 1 + 1, 0, none⟩ = some (.int .i64 (N : Int)) := fun o o' => ((Below.next (balloc V o) (balloc _ o')).cell (p := ⟨w.heap.size + 1 + 1, 0, none⟩) (by show w.heap.size + 1 + 1 < _; omega)).trans k0
  clear S0
  refine Code.wp_mono (Q := fun e a' w' => e = .normal ∧ ∃ go gs, a' = { tmps := #[.int .i64 (N : Int), .func (.func gf) bd lb, undef, .pointer (some ⟨w.heap.size, 0, none⟩), .pointer (some ⟨w.heap.size + 1, 0, none⟩), .pointer (some ⟨w.heap.size + 1 + 1, 0, none⟩), .pointer (some ⟨go, 0, none⟩), undef, undef, .int .i64 (N : Int), .int .i64 (N : Int), .int .i64 (N : Int), .int .i64 (N : Int), .int .i64 (z : Int), .slice (some ⟨gs, 0, none⟩) z z, .agg #[.int .i64 (N : Int), .slice (some ⟨gs, 0, none⟩) z z], undef, undef, undef, undef, undef, undef, undef, undef, undef, undef, undef, undef, undef, undef, undef, undef, undef, undef, undef, undef, undef, undef, undef, undef, undef], defers := [] } ∧ DrI w N (.func (.func gf) bd lb) go gs z (fun _ => 0) w') ?rest ?region
  case region =>
    go_region_held3 (fun w' => w'.cell? ⟨w.heap.size + 1 + 1, 0, none⟩ = some (.int .i64 (N : Int))) (first | assumption | exact k1 _ | exact k2 _ _ | go_keep) (fail)
    · exact ⟨rfl, _, _, rfl, HV.out.one⟩
    · exact ⟨rfl, _, _, rfl, HV.out.two⟩
  case rest =>
    clear k0 k1 k2 hV hmk hwz
    rintro e a' w' ⟨rfl, go, gs, rfl, hD⟩
    have HT : Hid (TelB gf bd lb N J w) := hT
    clear hT hsV HV
    have HD : Hid (DrI w N (.func (.func gf) bd lb) go gs z (fun _ => 0) w') := hD
    have hl1 : go < w'.heap.size := (Array.getElem?_eq_some_iff.1 hD.bo).1
    have hl2 : gs < w'.heap.size := hD.ow.lt
    go_wp2
    refine (wpIn_wide (n := 9)).1 (wpIn_pairs (N := N) (gf := 66) rfl (enters_of Tryd.func66 (by kernel_rfl) rfl) rfl (pairs_runs N _ (by omega))
      (fun i B => DrI w N (.func (.func gf) bd lb) go gs z (drF N J i) B) (fun _ => False)
      (fun i A B h hb => h.mv hb hl1 hl2) (fun A B h hb => h) (HD.out.congr fun j _ => (drF_zero N J j).symm)
      ?a1 ?assign ?body ?done ?stop)
    case assign =>
      intro l x W K _ hK
      unfold encP
      gi_wp2
      exact hK
    case body =>
      rintro i x B hx hI hlt2
      obtain ⟨p1, p2⟩ := prL_at' (by omega) hx
      have q1 := hI.bf.cell
      have q2 := hI.bs.cell
      have CJ := HT.out (x / 32) (x % 32) B p1 p2 hI.bw
      obtain ⟨s, Hs⟩ : ∃ s, Hid (J (x / 32) (x % 32) = s) := ⟨_, rfl⟩
      rw [Hs.out] at CJ
      have HI : Hid (DrI w N (.func (.func gf) bd lb) go gs z (drF N J i) B) := hI
      have HX : Hid ((prL N)[i]? = some x) := hx
      have HL2 : Hid (w'.heap.size + 1 < B.heap.size) := hlt2
      have HL1 : Hid (go < w'.heap.size ∧ gs < w'.heap.size) := ⟨hl1, hl2⟩
      obtain ⟨p, hp⟩ : ∃ p, x / 32 = p := ⟨_, rfl⟩
      obtain ⟨q, hq⟩ : ∃ q, x % 32 = q := ⟨_, rfl⟩
      have r1 : ((x : Int) / 32) = (p : Int) := by omega
      have r2 : ((x : Int) % 32) = (q : Int) := by omega
      rw [hp, hq] at CJ
      clear hx hI hlt2
      cases s with
      | false =>
        have HN : Hid (∀ j, drF N J (i + 1) j = drF N J i j) := fun j => drF_skip HX.out Hs.out j
        gi_wp2
        refine ⟨trivial, (callsIn_wide.2 CJ).mono ?_⟩
        rintro e A2 ⟨rfl, hA2⟩
        clear CJ
        gi_wp2
        have h1 := HL1.out
        have h2 := HL2.out
        exact ⟨⟨hA2.block _ (by omega), hA2.block _ (by omega)⟩, (HI.out.mv hA2 (by omega) (by omega)).congr fun j _ => (HN.out j).symm⟩
      | true =>
        have HN : Hid (∀ j, drF N J (i + 1) j = if j = x % 32 * N + x / 32 then 1 else if j = x / 32 * N + x % 32 then 1 else drF N J i j) := fun j => drF_put HX.out Hs.out j
        have z1 := cell_ltG (n := N) (r := x / 32) (c := x % 32) (by omega) p2
        have z2 := cell_ltG (n := N) (r := x % 32) (c := x / 32) p2 (by omega)
        rw [← Hz.out] at z1 z2
        obtain ⟨m1, hm1⟩ : ∃ m, p * N = m := ⟨_, rfl⟩
        obtain ⟨m2, hm2⟩ : ∃ m, q * N = m := ⟨_, rfl⟩
        rw [hp, hq, hm1, hm2] at HN
        rw [hp, hq, hm1] at z1
        rw [hp, hq, hm2] at z2
        rw [hp, hq] at p1
        rw [hq] at p2
        have e1 : (p : Int) * (N : Int) = (m1 : Int) := by rw [← hm1]; simp
        have e2 : (q : Int) * (N : Int) = (m2 : Int) := by rw [← hm2]; simp
        have HW : Hid (∀ (A2 : World), Below B.heap.size B A2 → DrI w N (.func (.func gf) bd lb) go gs z (drF N J i) A2) := fun A2 h => HI.out.mv h (by have := HL1.out; have := HL2.out; omega) (by have := HL1.out; have := HL2.out; omega)
        gi_wp2
        refine ⟨trivial, (callsIn_wide.2 CJ).mono ?_⟩
        rintro e A2 ⟨rfl, hA2⟩
        clear CJ
        have hD2 := HW.out A2 hA2
        have k1 := (row2 hD2.bo).2.1
        have k2 := hD2.bs.cell
        have k3 := hD2.ow.cell (m1 + q) (by omega)
        have k4 := hD2.ow.frozen (m1 + q)
        have hD3 := hD2.put (m1 + q) 1
        have k5 := (row2 hD3.bo).2.1
        have k6 := hD3.bs.cell
        have k7 := hD3.ow.cell (m2 + p) (by omega)
        have k8 := hD3.ow.frozen (m2 + p)
        gi_wp2
        have h1 := HL1.out
        have h2 := HL2.out
        have kk : ∀ b, b ≠ gs → ((A2.setCell ⟨gs, m1 + q, none⟩ (.int .i64 1)).setCell ⟨gs, m2 + p, none⟩ (.int .i64 1)).heap[b]? = A2.heap[b]? := fun b hb => (heap_setCell_other _ ⟨gs, m2 + p, none⟩ b _ hb).trans (heap_setCell_other A2 ⟨gs, m1 + q, none⟩ b _ hb)
        exact ⟨⟨(kk _ (by omega)).trans (hA2.block _ (by omega)), (kk _ (by omega)).trans (hA2.block _ (by omega))⟩, (hD3.put (m2 + p) 1).congr fun j _ => by rw [HN.out j]; rfl⟩
    case done =>
      rintro B hI hK
      have x0 := (row2 hI.bo).1
      have x1 := (row2 hI.bo).2.1
      obtain ⟨y0, y1, y2, y3⟩ := row2 hI.br
      have HI : Hid (DrI w N (.func (.func gf) bd lb) go gs z (drF N J (prL N).length) B) := hI
      have HK : Hid (B.heap[w'.heap.size]? = some (.deferred (some []))) := hK
      have HL1 : Hid (go < w'.heap.size ∧ gs < w'.heap.size) := ⟨hl1, hl2⟩
      clear hI hK
      go_wp2
      have h1 := HL1.out
      have g1 := HI.out.l1
      have g2 := HI.out.l2
      have hrow := put2_row HI.out.br (.int .i64 (N : Int)) (.slice (some ⟨gs, 0, none⟩) z z)
      have kk : ∀ b, b ≠ w.heap.size + 1 → ((B.setCell ⟨w.heap.size + 1, 0, none⟩ (.int .i64 (N : Int))).setCell ⟨w.heap.size + 1, 1, none⟩ (.slice (some ⟨gs, 0, none⟩) z z)).heap[b]? = B.heap[b]? := fun b hb => (heap_setCell_other _ ⟨w.heap.size + 1, 1, none⟩ b _ hb).trans (heap_setCell_other B ⟨w.heap.size + 1, 0, none⟩ b _ hb)
      have hb : Below w.heap.size w ((B.setCell ⟨w.heap.size + 1, 0, none⟩ (.int .i64 (N : Int))).setCell ⟨w.heap.size + 1, 1, none⟩ (.slice (some ⟨gs, 0, none⟩) z z)) := (HI.out.bw.setCell (p := ⟨w.heap.size + 1, 0, none⟩) (by show _ ≤ w.heap.size + 1; omega) _).setCell (p := ⟨w.heap.size + 1, 1, none⟩) (by show _ ≤ w.heap.size + 1; omega) _
      have hown : Own ((B.setCell ⟨w.heap.size + 1, 0, none⟩ (.int .i64 (N : Int))).setCell ⟨w.heap.size + 1, 1, none⟩ (.slice (some ⟨gs, 0, none⟩) z z)) gs z (drF N J (prL N).length) := (HI.out.ow.other ⟨w.heap.size + 1, 0, none⟩ _ (by show gs ≠ w.heap.size + 1; omega)).other ⟨w.heap.size + 1, 1, none⟩ _ (by show gs ≠ w.heap.size + 1; omega)
      have hK2 := (kk w'.heap.size (by omega)).trans HK.out
      generalize (B.setCell ⟨w.heap.size + 1, 0, none⟩ (.int .i64 (N : Int))).setCell ⟨w.heap.size + 1, 1, none⟩ (.slice (some ⟨gs, 0, none⟩) z z) = C at *
      refine ⟨by simp, .inl ⟨_, _, rfl, run_takeDeferred hK2, ?_⟩⟩
      have bP := bput (n := w'.heap.size) C (.deferred none) (l := w'.heap.size) (Nat.le_refl _)
      have hrow2 := (bP.block _ (by omega)).trans hrow
      have hown2 : Own (C.putObj w'.heap.size (.deferred none)) gs z (drF N J (prL N).length) := by
        obtain ⟨cur, q1, q2⟩ := hown
        exact ⟨cur, (bP.block _ h1.2).trans q1, q2⟩
      exact ⟨_, results_cell_row (P := Tryd.prog) (p := 4) (ty := 27) rfl _ _ (w.heap.size + 1) 27 _ (0, 0) _ rfl hrow2 Tryd.underlying27 rfl inf24, ⟨gs, rfl, hown2⟩, hb.trans (bP.mono (by omega))⟩
    case stop =>
      rintro B h
      exact h.elim
end Go.Proofs.YtlmjlffipinjiabDoor.Sg

namespace Go.Proofs.YtlmjlffipinjiabDoor.Sg
open Go.RowKit Go.Shelf

theorem ownS_of {w : World} {g n : Nat} {l : List Int} {F : Nat → Int} (hl : l.length = n) (h : Own w g n F) (e : ∀ j, j < n → F j = l.getD j 0) : OwnS w (.slice (some ⟨g, 0, none⟩) n n) l := by
  subst hl
  exact .inr ⟨g, l.length, rfl, h.congr e⟩
theorem rng_get (z : Nat) (f : Nat → Int) {j : Nat} (hj : j < z) : ((List.range z).map f).getD j 0 = f j := by simp [hj]
end Go.Proofs.YtlmjlffipinjiabDoor.Sg
