/- The walk of friendly. -/
import Derived.Test.YtlmjlffipinjiaaSP2
import Derived.Shelf.Abstract
namespace Go.Proofs.Ytlmjlffipinjiaa
open Go.RowKit Go.Shelf

attribute [local go_sem] Oper.semAt_some
theorem wpIn_loadRow {F : Fence} {n : Nat} {P : Program} {o : Oper} {a : Act} {w : World} {K : Act → World → Prop} {Q : Exit → Act → World → Prop} (ty : TypeId) (x : Operand) (ho : o.op = .load ty x)
    (g : Nat) (hx : a.eval x = .pointer (some ⟨g, 0, none⟩)) (t : TypeId) (cs : Array Value) (fr : Nat × Nat) (d : TypeDesc) (hg : w.heap[g]? = some (.cells cs t fr))
    (hu : P.underlying ty = some d) (hd : (match d with | .struct _ | .array _ _ => true | _ => false) = true) (hi : (P.info? ty).map (·.size) = some cs.size)
    (h : K (a.put o.dst (.agg cs)) w) : o.wpIn F n P a w K Q := by
  unfold Oper.wpIn
  refine ⟨fun f hf => ?_, ?_⟩
  · simp [Oper.about, ho] at hf
  · rw [Oper.semAt_plain F _ _ (by rw [ho]; intro c hc'; cases hc')]
    unfold execOp
    simp only [ho, hx, Instr.loadAt, Instr.sureAddr, Sem.run_bind, Sem.run_pure, Result.andThen_ok, run_loadVar_row w g t ty cs fr d hg hu hd hi]
    exact h
theorem wpListIn_loadRow {F : Fence} {n : Nat} {P : Program} {ops : Array Oper} {rest : List Oper} {o : Oper} {a : Act} {w : World} {Q : Exit → Act → World → Prop} (hgd : o.guard = none) (ty : TypeId) (x : Operand) (ho : o.op = .load ty x)
    (g : Nat) (hx : a.eval x = .pointer (some ⟨g, 0, none⟩)) (t : TypeId) (cs : Array Value) (fr : Nat × Nat) (d : TypeDesc) (hg : w.heap[g]? = some (.cells cs t fr))
    (hu : P.underlying ty = some d) (hd : (match d with | .struct _ | .array _ _ => true | _ => false) = true) (hi : (P.info? ty).map (·.size) = some cs.size)
    (h : wpListIn F n P ops Q rest (a.put o.dst (.agg cs)) w) : wpListIn F n P ops Q (o :: rest) a w :=
  wpListIn_plain hgd fun _ hK => wpIn_loadRow ty x ho g hx t cs fr d hg hu hd hi (hK _ _ h)
theorem und45 : ∃ fs, Try.prog.underlying 45 = some (.struct fs) := ⟨_, Try.underlying45⟩
theorem inf45 (n : Int) (f : Nat → Nat) : (Try.prog.info? 45).map (·.size) = some (gRow n f).size := by rw [gRow_size]; kernel_rfl
theorem res_bool {fn : Func} {a : Tmp} {tmps : Array Value} {w : World} {g : Nat} {q : Bool} (h : fn.results = #[.cell a 4]) (p : tmps.getD a undef = .pointer (some ⟨g, 0, none⟩)) (h1 : Boxed w g 4 (.bool q)) :
    (results fn tmps).run Try.prog w = .ok (.bool q) w := by
  have e1 := h1.cell
  rw [Array.getD_eq_getD_getElem?] at p
  simp [results, h, go_sem, p, e1]
theorem boxB {W W' : World} {B n : Nat} {t : TypeId} {v : Value} (h : Boxed W B t v) (hb : Below n W W') (hn : B < n) : Boxed W' B t v := (hb.block B hn).trans h
theorem GrW.below {W W' : World} {g n : Nat} {N : Int} {f : Nat → Nat} (h : GrW W g N f) (hb : Below n W W') (hn : g < n) : GrW W' g N f := (hb.block g hn).trans h
/-- What is kept while pairs are looked at: the graph's box, the answer's box. -/
structure PrI (w : World) (N : Int) (f : Nat → Nat) (q : Bool) (A : World) : Prop where
  gr : GrW A w.heap.size N f
  bx : Boxed A (w.heap.size + 1) 4 (.bool q)
  bw : Below w.heap.size w A
theorem PrI.mv {w A B : World} {N : Int} {f : Nat → Nat} {q : Bool} (h : PrI w N f q A) (hb : Below (w.heap.size + 2) A B) : PrI w N f q B :=
  ⟨h.gr.below hb (by omega), boxB h.bx hb (by omega), h.bw.trans (hb.mono (by omega))⟩
theorem PrI.put {w A : World} {N : Int} {f : Nat → Nat} {q : Bool} (h : PrI w N f q A) (r : Bool) : PrI w N f r (A.setCell ⟨w.heap.size + 1, 0, none⟩ (.bool r)) :=
  ⟨(heap_setCell_other A ⟨w.heap.size + 1, 0, none⟩ w.heap.size _ (by show w.heap.size ≠ w.heap.size + 1; omega)).trans h.gr, h.bx.set _, h.bw.setCell (p := ⟨w.heap.size + 1, 0, none⟩) (by show w.heap.size ≤ w.heap.size + 1; omega) _⟩

set_option maxRecDepth 100000 in
set_option maxHeartbeats 4000000 in
theorem friendly_any (N : Nat) (f : Nat → Nat) (w : World) (hN : N ≤ 24) (hf : ∀ a, a < 24 → f a < 2 ^ 32) :
    Calls Try.prog 23 #[.agg (gRow N f)] w fun e w' => (∃ q : Bool, e = .returned (.bool q) ∧ (q = true ↔ ∀ i y : Nat, (prL N)[i]? = some y → pc (f (y / 32) &&& f (y % 32)) = 1)) ∧ Below w.heap.size w w' := by
  obtain ⟨fs, hu⟩ := und45
  refine (callsIn_wide (n := 9)).1 (callsIn_of_wp_marks Try.func23 rfl trivial (wpIn_wide.2 ?_) rfl)
  simp only [Try.ntmps23, List.size_toArray, List.length_cons, List.length_nil, Nat.reduceAdd, Nat.reduceSub, Array.replicate_succ, Array.replicate_zero, List.push_toArray, List.append_toArray, List.nil_append, List.cons_append]
  have hG0 := (GrW.made w N f)
  have c0 := (hG0.places)
  have c1 := (Below.cell (balloc (w.alloc (.cells (gRow N f) 45)) (.cells #[.bool false] 4)) (p := ⟨w.heap.size, 0, none⟩) (by simp)).trans c0
  have hS : ((w.alloc (.cells (gRow N f) 45)).alloc (.cells #[.bool false] 4)).heap.size = w.heap.size + 2 := by simp
  have HP0 : Hid (PrI w N f false ((w.alloc (.cells (gRow N f) 45)).alloc (.cells #[.bool false] 4))) := by
    have h := Boxed.new (w.alloc (.cells (gRow N f) 45)) 4 (.bool false)
    rw [World.size_alloc] at h
    exact ⟨hG0.below (balloc _ _) (by simp), h, ((balloc w _).alloc (by simp) _)⟩
  go_wp2
  obtain ⟨V, HV⟩ : ∃ V, Hid (V = (w.alloc (.cells (gRow N f) 45)).alloc (.cells #[.bool false] 4)) := ⟨_, rfl⟩
  rw [← HV.out] at hS HP0 c1 ⊢
  clear hG0 c0 c1 HV
  refine (wpIn_wide (n := 9)).1 (wpIn_pairs (N := N) (gf := 35) rfl (enters_of Try.func35 (by kernel_rfl) rfl) rfl (pairs_runs N _ (by omega))
    (fun i A => (∀ j y : Nat, j < i → (prL N)[j]? = some y → pc (f (y / 32) &&& f (y % 32)) = 1) ∧ PrI w N f false A)
    (fun A => (∃ i y : Nat, (prL N)[i]? = some y ∧ pc (f (y / 32) &&& f (y % 32)) ≠ 1) ∧ PrI w N f false A)
    (fun i A B h hb => ⟨h.1, h.2.mv (by rw [← hS]; exact hb)⟩) (fun A B h hb => ⟨h.1, h.2.mv (by rw [← hS]; exact hb)⟩) ⟨fun j y h => absurd h (by omega), HP0.out⟩
    (fun x => { tmps := #[.agg (gRow N f), .pointer (some ⟨w.heap.size, 0, none⟩), .pointer (some ⟨w.heap.size + 1, 0, none⟩), .int .i64 ((x / 32 : Nat) : Int), .int .i64 ((x % 32 : Nat) : Int), .pointer (some ⟨w.heap.size, 0, none⟩), .int .i64 (N : Int), .func (.func 35) #[.int .i64 (N : Int)] #[], .int .i64 ((x / 32 : Nat) : Int), .int .i64 ((x % 32 : Nat) : Int), undef, undef, undef, undef, undef], defers := [] }) ?assign ?body ?done ?stop)
  case assign =>
    intro l x W K _ hK
    unfold encP
    gi_wp2
    exact hK
  case body =>
    rintro i x A hx ⟨g1, g2⟩ hlt
    obtain ⟨p1, p2⟩ := prL_at' (by omega) hx
    have HX : Hid ((prL N)[i]? = some x) := hx
    have HG1 : Hid (∀ j y : Nat, j < i → (prL N)[j]? = some y → pc (f (y / 32) &&& f (y % 32)) = 1) := g1
    have hgr := g2.gr
    obtain ⟨c, Hc⟩ : ∃ c, Hid (pc (f (x / 32) &&& f (x % 32)) = c) := ⟨_, rfl⟩
    have CC := common_any N f (x / 32) (x % 32) A (by omega) (by omega) (hf _ (by omega)) (hf _ (by omega))
    rw [Hc.out] at CC
    have HG2 : Hid (PrI w N f false A) := g2
    have HL : Hid (w.heap.size + 3 < A.heap.size) := (by omega : w.heap.size + 3 < A.heap.size)
    clear hx g1 hlt
    by_cases hc : c = 1
    · have hd : ((c : Int) != 1) = false := by simp [hc]
      gi_wp2_with (first
        | (refine wpListIn_loadRow rfl 45 _ rfl w.heap.size rfl 45 _ (0, 0) _ hgr hu rfl (inf45 _ _) ?_)
        | (refine ⟨trivial, (callsIn_wide.2 CC).mono ?_⟩; rintro e A2 ⟨rfl, hA2⟩; clear CC))
      have h3 := HL.out
      refine ⟨⟨hA2.block _ (by omega), hA2.block _ (by omega)⟩, fun j y hj hy => ?_, HG2.out.mv (hA2.mono (by omega))⟩
      by_cases e : j = i
      · subst e
        rw [HX.out] at hy
        cases hy
        rw [Hc.out, hc]
      · exact HG1.out j y (by omega) hy
    · have hd : ((c : Int) != 1) = true := by simp; omega
      gi_wp2_with (first
        | (refine wpListIn_loadRow rfl 45 _ rfl w.heap.size rfl 45 _ (0, 0) _ hgr hu rfl (inf45 _ _) ?_)
        | (refine ⟨trivial, (callsIn_wide.2 CC).mono ?_⟩; rintro e A2 ⟨rfl, hA2⟩; clear CC; have hP2 := HG2.out.mv (hA2.mono (by have := HL.out; omega)); have k2 := hP2.bx.cell; have k3 := hP2.bx.frozen))
      have h3 := HL.out
      refine ⟨⟨(heap_setCell_other A2 ⟨w.heap.size + 1, 0, none⟩ _ _ (by show _ ≠ w.heap.size + 1; omega)).trans (hA2.block _ (by omega)), (heap_setCell_other A2 ⟨w.heap.size + 1, 0, none⟩ _ _ (by show _ ≠ w.heap.size + 1; omega)).trans (hA2.block _ (by omega))⟩, ⟨i, x, HX.out, by rw [Hc.out]; exact hc⟩, hP2.put false⟩
  case done =>
    rintro A ⟨g1, g2⟩ hK
    have k2 := g2.bx.cell
    have k3 := g2.bx.frozen
    have HG1 : Hid (∀ i y : Nat, (prL N)[i]? = some y → pc (f (y / 32) &&& f (y % 32)) = 1) := fun i y hy => g1 i y (prL_lt hy) hy
    clear g1
    go_wp2
    have hK2 := (heap_setCell_other A ⟨w.heap.size + 1, 0, none⟩ V.heap.size (.bool true) (by show _ ≠ w.heap.size + 1; omega)).trans hK
    refine ⟨by simp, .inl ⟨_, _, rfl, run_takeDeferred hK2, ?_⟩⟩
    have bP := (g2.put true).mv (bput (n := w.heap.size + 2) _ (.deferred none) (l := V.heap.size) (by omega))
    exact ⟨_, res_bool rfl rfl bP.bx, ⟨true, rfl, by simpa using HG1.out⟩, bP.bw⟩
  case stop =>
    rintro A ⟨⟨i, y, hy, hne⟩, g2⟩ hK
    refine wpIn_wide.2 ?_
    go_wp2
    refine ⟨by simp, .inl ⟨_, _, rfl, run_takeDeferred hK, ?_⟩⟩
    have bP := g2.mv (bput (n := w.heap.size + 2) _ (.deferred none) (l := V.heap.size) (by omega))
    exact ⟨_, res_bool rfl rfl bP.bx, ⟨false, rfl, by simp; exact ⟨i, y, hy, hne⟩⟩, bP.bw⟩
end Go.Proofs.Ytlmjlffipinjiaa
