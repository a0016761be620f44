/- Paley's graphs: of which fields, and their numbers; by the kernel. -/
import Derived.Test.YtlmjlffipinjiaaDoorSG6
import Derived.Test.YtlmjlffipinjiaaDoorWG
/- The walk of the document's PaleyGraph, of a field of a fitting order. -/
/- The walk of the document's PaleyGraph. -/
namespace Go.Proofs.YtlmjlffipinjiaaDoor
open Go.RowKit

/-- Is b some square behind a? -/
def pgB (_q : Nat) (S T : Nat → Nat → Nat) (a n b : Nat) : Bool := (List.range n).any fun x => decide (1 ≤ x) && S a (T x x) == b
def pgF (q : Nat) (S T : Nat → Nat → Nat) (a b : Nat) : Int := if pgB q S T a q b then 1 else 0
def pgC (q : Nat) (S T : Nat → Nat → Nat) : List Int := (List.range (q * q)).map fun j => pgF q S T (j / q) (j % q)
/-- The cells on their way. -/
def stP (q : Nat) (S T : Nat → Nat → Nat) (a n j : Nat) : Int := if (decide (j / q < a) && pgB q S T (j / q) q (j % q)) || (decide (j / q = a) && pgB q S T a n (j % q)) then 1 else 0
theorem pgB_one (q : Nat) (S T : Nat → Nat → Nat) (a b : Nat) : pgB q S T a 1 b = false := by simp [pgB, List.range_succ]
theorem stP_nil (q : Nat) (S T : Nat → Nat → Nat) (j : Nat) : stP q S T 0 1 j = 0 := by
  unfold stP
  rw [pgB_one]
  simp
theorem stP_row (q : Nat) (S T : Nat → Nat → Nat) (a j : Nat) : stP q S T (a + 1) 1 j = stP q S T a q j := by
  unfold stP
  rw [pgB_one]
  by_cases h : j / q = a
  · have h1 : j / q < a + 1 := by omega
    have h2 : ¬ j / q < a := by omega
    simp [h]
  · by_cases h1 : j / q < a
    · have h2 : j / q < a + 1 := by omega
      simp [h, h1, h2]
    · have h2 : ¬ j / q < a + 1 := by omega
      simp [h, h1, h2]
theorem stP_step {q : Nat} {S T : Nat → Nat → Nat} {a x b : Nat} (hx : 1 ≤ x) (hb : b < q) (e : S a (T x x) = b) (j : Nat) : stP q S T a (x + 1) j = if j = a * q + b then 1 else stP q S T a x j := by
  have hs : ∀ y, pgB q S T a (x + 1) y = (pgB q S T a x y || b == y) := fun y => by
    unfold pgB
    rw [List.range_succ, List.any_append]
    simp [e, hx]
  by_cases h : j = a * q + b
  · obtain ⟨e1, e2⟩ := cell_div (i := a) (j := b) (n := q) hb
    subst h
    rw [if_pos rfl]
    unfold stP
    rw [e1, e2, hs]
    simp
  · rw [if_neg h]
    unfold stP
    rw [hs]
    by_cases h1 : j / q = a
    · have : ¬ b = j % q := fun k => h (by rw [k, ← h1, Nat.mul_comm, Nat.div_add_mod])
      simp [this]
    · simp [h1]
theorem stP_full {q : Nat} {S T : Nat → Nat → Nat} {j : Nat} (hj : j < q * q) : stP q S T q 1 j = pgF q S T (j / q) (j % q) := by
  have h : j / q < q := Nat.div_lt_of_lt_mul hj
  unfold stP pgF
  rw [pgB_one]
  simp [h]
theorem row3 {w : World} {g : Nat} {x0 x1 x2 : Value} {t : TypeId} (h : w.heap[g]? = some (.cells #[x0, x1, x2] t (0, 0))) : w.cell? ⟨g, 0, none⟩ = some x0 ∧ w.cell? ⟨g, 1, none⟩ = some x1 ∧ w.cell? ⟨g, 2, none⟩ = some x2 := by
  refine ⟨?_, ?_, ?_⟩ <;> rw [cell_of_row _ _ _ _ _ _ h] <;> rfl
theorem run_makeN (n : Nat) (hn : n ≤ 100000) (w : World) : (Instr.makeSlice 22 (.int .i64 (n : Int)) (.int .i64 (n : Int))).run Tryd.prog w = .ok (.slice (some ⟨w.heap.size, 0, none⟩) n n) (w.alloc (.cells (madeCells #[.int .i64 0] n) 3)) := by
  obtain ⟨i4, hi, hz0, hz1, hz2⟩ := info3
  have h := run_make (P := Tryd.prog) w 22 3 i4 (.int .i64 0) und22 hi hz0 .i64 .i64 n n (by omega) (by omega) (by rw [hz2]; omega) (by omega)
  simpa [hz1, Value.cells] using h
theorem own_made0 (w : World) (n : Nat) : Own (w.alloc (.cells (madeCells #[.int .i64 0] n) 3)) w.heap.size n (fun _ => 0) := by
  refine ⟨_, heap_alloc_new w _, fun j hj => ?_⟩
  have hs : j < (madeCells #[Value.int .i64 0] n).size := by rw [size_madeCells]; exact hj
  rw [Array.getElem?_eq_getElem hs]
  simp [madeCells, Nat.mod_one]
/-- The field's box and the answer's. -/
structure FP (w : World) (p k : Int) (s : Value) (wr : World) : Prop where
  box : wr.heap[w.heap.size]? = some (.cells #[.int .i64 p, .int .i64 k, s] 24 (0, 0))
  res : wr.heap[w.heap.size + 1]? = some (.cells #[.int .i64 0, .slice none 0 0] 26 (0, 0))
  bel : Below w.heap.size w wr
theorem FP.new (w : World) (p k : Int) (s : Value) : FP w p k s ((w.alloc (.cells #[.int .i64 p, .int .i64 k, s] 24)).alloc (.cells #[.int .i64 0, .slice none 0 0] 26)) :=
  ⟨(Below.heap_alloc _ _ _ (by simp)).trans (heap_alloc_new w _), by have := heap_alloc_new (w.alloc (.cells #[.int .i64 p, .int .i64 k, s] 24)) (.cells #[.int .i64 0, .slice none 0 0] 26); simpa using this, Below.next (balloc _ _) (balloc _ _)⟩
theorem FP.next {w wr w1 : World} {p k : Int} {s : Value} (h : FP w p k s wr) (b : Below wr.heap.size wr w1) : FP w p k s w1 :=
  ⟨(b.block _ (Array.getElem?_eq_some_iff.1 h.box).1).trans h.box, (b.block _ (Array.getElem?_eq_some_iff.1 h.res).1).trans h.res, Below.next h.bel b⟩
theorem FP.put {w wr : World} {p k : Int} {s : Value} (h : FP w p k s wr) {g j : Nat} (u : Value) (hg : w.heap.size + 1 < g) : FP w p k s (wr.setCell ⟨g, j, none⟩ u) :=
  ⟨(heap_setCell_other wr ⟨g, j, none⟩ w.heap.size u (by show w.heap.size ≠ g; omega)).trans h.box, (heap_setCell_other wr ⟨g, j, none⟩ (w.heap.size + 1) u (by show w.heap.size + 1 ≠ g; omega)).trans h.res, h.bel.setCell (p := ⟨g, j, none⟩) (by show w.heap.size ≤ g; omega) u⟩
theorem FP.lt {w wr : World} {p k : Int} {s : Value} (h : FP w p k s wr) : w.heap.size + 1 < wr.heap.size := (Array.getElem?_eq_some_iff.1 h.res).1
set_option maxRecDepth 100000 in
set_option maxHeartbeats 8000000 in
theorem PaleyG_bad (p k : Int) (l : List Int) (z : Int) (v : Value) (w : World) (hl : Sl w v l) (hz : Fd.FaultIs p k l z) (h0 : z ≠ 0) :
    Calls Tryd.prog 6 #[.agg #[.int .i64 p, .int .i64 k, v]] w fun e w' => e = .returned (.tuple #[.agg #[.int .i64 0, .slice none 0 0], .int .i64 z]) ∧ Below w.heap.size w w' := by
  have F0 := FP.new w p k v
  have C := (Fd.fault_any p k l v _ (hl.below F0.bel)).mono (R' := fun e w' => e = .returned (.int .i64 z) ∧ Below ((w.alloc (.cells #[.int .i64 p, .int .i64 k, v] 24)).alloc (.cells #[.int .i64 0, .slice none 0 0] 26)).heap.size ((w.alloc (.cells #[.int .i64 p, .int .i64 k, v] 24)).alloc (.cells #[.int .i64 0, .slice none 0 0] 26)) w') fun e w' ⟨z', he, hz', hb⟩ => by
    obtain rfl := hz.one hz'
    exact ⟨he, hb⟩
  have hne : (z != 0) = true := by simp [h0]
  obtain ⟨va, vc, rfl⟩ := sl_len hl
  generalize l.length = zl at *
  clear hl hz h0
  go_enter Tryd.func6, Tryd.ntmps6
  go_wp2_with (go_at_call 21; refine C.mono ?_; rintro e w1 ⟨rfl, b1⟩; clear C; have F1 := F0.next b1; obtain ⟨r0, r1, f0, f1⟩ := row2 F1.res; have e1 := put2_row F1.res (.int .i64 0) (.slice none 0 0); have e3 := (F1.bel.setCell (p := ⟨w.heap.size + 1, 0, none⟩) (by show w.heap.size ≤ w.heap.size + 1; omega) (.int .i64 0)).setCell (p := ⟨w.heap.size + 1, 1, none⟩) (by show w.heap.size ≤ w.heap.size + 1; omega) (.slice none 0 0); have HE3 : Hid _ := e3; clear e3)
  exact post_sq2 2 3 Tryd.results6 rfl e1 rfl rfl ⟨rfl, HE3.out⟩
/-- What is told of a field that is one, by its order. -/
def paE (q : Nat) : Nat := if 24 < q then 3 else if q % 4 = 1 then 0 else 4
set_option maxRecDepth 100000 in
set_option maxHeartbeats 8000000 in
theorem PaleyG_none (P K : Nat) (l : List Int) (v : Value) (w : World) (hl : Sl w v l) (hG : Fd.GoodF P K l) (h0 : paE (P ^ K) ≠ 0) :
    Calls Tryd.prog 6 #[.agg #[.int .i64 (P : Int), .int .i64 (K : Int), v]] w fun e w' => e = .returned (.tuple #[.agg #[.int .i64 0, .slice none 0 0], .int .i64 (paE (P ^ K) : Int)]) ∧ Below w.heap.size w w' := by
  have F0 := FP.new w P K v
  have C := (Fd.fault_any P K l v _ (hl.below F0.bel)).mono (R' := fun e w' => e = .returned (.int .i64 0) ∧ Below ((w.alloc (.cells #[.int .i64 (P : Int), .int .i64 (K : Int), v] 24)).alloc (.cells #[.int .i64 0, .slice none 0 0] 26)).heap.size ((w.alloc (.cells #[.int .i64 (P : Int), .int .i64 (K : Int), v] 24)).alloc (.cells #[.int .i64 0, .slice none 0 0] 26)) w') fun e w' ⟨z', he, hz', hb⟩ => by
    obtain rfl := hG.fault.one hz'
    exact ⟨he, hb⟩
  have HC2 : Hid (∀ W, Calls Tryd.prog 22 #[.agg #[.int .i64 (P : Int), .int .i64 (K : Int), v]] W fun e w' => e = .returned (.int .i64 ((P ^ K : Nat) : Int)) ∧ Below W.heap.size W w') := fun W => by
    have k := Fd.size_any P K v W
    rw [hG.ord] at k
    exact k
  have hq64 := hG.le64
  unfold paE at h0 ⊢
  generalize P ^ K = q at *
  obtain ⟨va, vc, rfl⟩ := sl_len hl
  generalize l.length = zl at *
  have HRET : Hid (∀ wr, FP w P K (.slice va zl vc) wr → (wr.cell? ⟨w.heap.size + 1, 0, none⟩ = some (.int .i64 0) ∧ wr.cell? ⟨w.heap.size + 1, 1, none⟩ = some (.slice none 0 0) ∧ wr.frozen? ⟨w.heap.size + 1, 0, none⟩ = false ∧ wr.frozen? ⟨w.heap.size + 1, 1, none⟩ = false) ∧ ((wr.setCell ⟨w.heap.size + 1, 0, none⟩ (.int .i64 0)).setCell ⟨w.heap.size + 1, 1, none⟩ (.slice none 0 0)).heap[w.heap.size + 1]? = some (.cells #[.int .i64 0, .slice none 0 0] 26 (0, 0)) ∧ Below w.heap.size w ((wr.setCell ⟨w.heap.size + 1, 0, none⟩ (.int .i64 0)).setCell ⟨w.heap.size + 1, 1, none⟩ (.slice none 0 0))) := fun wr F => ⟨row2 F.res, put2_row F.res _ _, (F.bel.setCell (p := ⟨w.heap.size + 1, 0, none⟩) (by show w.heap.size ≤ w.heap.size + 1; omega) _).setCell (p := ⟨w.heap.size + 1, 1, none⟩) (by show w.heap.size ≤ w.heap.size + 1; omega) _⟩
  clear hl hG
  by_cases h24 : 24 < q
  · have d1 : decide (24 < (q : Int)) = true := by simp; omega
    rw [if_pos h24]
    clear h24 h0
    go_enter Tryd.func6, Tryd.ntmps6
    go_wp2_with (first
      | (go_at_call 21; refine C.mono ?_; rintro e w1 ⟨rfl, b1⟩; clear C; have F1 := F0.next b1; obtain ⟨x0, x1, x2⟩ := row3 F1.box; have C2 := HC2.out w1; clear HC2)
      | (go_at_call 22; refine C2.mono ?_; rintro e w2 ⟨rfl, b2⟩; clear C2; have F2 := F1.next b2; obtain ⟨⟨r0, r1, f0, f1⟩, e1, e3⟩ := HRET.out _ F2; have HE3 : Hid _ := e3; clear HRET e3))
    exact post_sq2 2 3 Tryd.results6 rfl e1 rfl rfl ⟨rfl, HE3.out⟩
  · have d1 : decide (24 < (q : Int)) = false := by simp; omega
    rw [if_neg h24] at h0 ⊢
    have hr : q % 4 ≠ 1 := fun k => h0 (if_pos k)
    rw [if_neg hr]
    obtain ⟨rq, Hrq⟩ : ∃ r : Nat, Hid (q % 4 = r) := ⟨_, rfl⟩
    rw [Hrq.out] at hr
    have t1 : (q : Int) % 4 = (rq : Int) := by rw [← Hrq.out]; simp
    have t2 : (q : Int).tmod 4 = (rq : Int) := by rw [Int.tmod_eq_emod_of_nonneg (by omega)]; exact t1
    have t3 := wrapN9 (q := rq) (by rw [← Hrq.out]; omega)
    have dr : ((rq : Int) != 1) = true := by simp; omega
    clear h24 h0 hr
    go_enter Tryd.func6, Tryd.ntmps6
    go_wp2_with (first
      | (go_at_call 21; refine C.mono ?_; rintro e w1 ⟨rfl, b1⟩; clear C; have F1 := F0.next b1; obtain ⟨x0, x1, x2⟩ := row3 F1.box; have C2 := HC2.out w1; clear HC2)
      | (go_at_call 22; refine C2.mono ?_; rintro e w2 ⟨rfl, b2⟩; clear C2; have F2 := F1.next b2; obtain ⟨⟨r0, r1, f0, f1⟩, e1, e3⟩ := HRET.out _ F2; have HE3 : Hid _ := e3; clear HRET e3))
    exact post_sq2 2 3 Tryd.results6 rfl e1 rfl rfl ⟨rfl, HE3.out⟩
end Go.Proofs.YtlmjlffipinjiaaDoor

namespace Go.Proofs.YtlmjlffipinjiaaDoor
open Go.RowKit

set_option maxRecDepth 100000 in
set_option maxHeartbeats 16000000 in
theorem PaleyG_ok (P K : Nat) (l : List Int) (v : Value) (w : World) (hl : Sl w v l) (hG : Fd.GoodF P K l) (h0 : paE (P ^ K) = 0) :
    Calls Tryd.prog 6 #[.agg #[.int .i64 (P : Int), .int .i64 (K : Int), v]] w fun e w' => (∃ y, e = .returned (.tuple #[.agg #[.int .i64 ((P ^ K : Nat) : Int), y], .int .i64 0]) ∧ OwnS w' y (pgC (P ^ K) (Fd.addQ P K) (Fd.mulQ P K (Fd.monL l)))) ∧ Below w.heap.size w w' := by
  have F0 := FP.new w P K v
  have C := (Fd.fault_any P K l v _ (hl.below F0.bel)).mono (R' := fun e w' => e = .returned (.int .i64 0) ∧ Below ((w.alloc (.cells #[.int .i64 (P : Int), .int .i64 (K : Int), v] 24)).alloc (.cells #[.int .i64 0, .slice none 0 0] 26)).heap.size ((w.alloc (.cells #[.int .i64 (P : Int), .int .i64 (K : Int), v] 24)).alloc (.cells #[.int .i64 0, .slice none 0 0] 26)) w') fun e w' ⟨z', he, hz', hb⟩ => by
    obtain rfl := hG.fault.one hz'
    exact ⟨he, hb⟩
  have HC2 : Hid (∀ W, Calls Tryd.prog 22 #[.agg #[.int .i64 (P : Int), .int .i64 (K : Int), v]] W fun e w' => e = .returned (.int .i64 ((P ^ K : Nat) : Int)) ∧ Below W.heap.size W w') := fun W => by
    have k := Fd.size_any P K v W
    rw [hG.ord] at k
    exact k
  have HC3 : Hid (∀ x W, x < P ^ K → Below w.heap.size w W → Calls Tryd.prog 23 #[.agg #[.int .i64 (P : Int), .int .i64 (K : Int), v], .int .i64 (x : Int), .int .i64 (x : Int)] W fun e w' => e = .returned (.int .i64 (Fd.mulQ P K (Fd.monL l) x x : Int)) ∧ Below W.heap.size W w') := fun x W hx b => Fd.TimesGd P K x x l v W (hl.below b) hG hx hx
  have HC4 : Hid (∀ a y W, a < P ^ K → y < P ^ K → Below w.heap.size w W → Calls Tryd.prog 24 #[.agg #[.int .i64 (P : Int), .int .i64 (K : Int), v], .int .i64 (a : Int), .int .i64 (y : Int)] W fun e w' => e = .returned (.int .i64 (Fd.addQ P K a y : Int)) ∧ Below W.heap.size W w') := fun a y W ha hy b => Fd.SumGd P K a y l v W (hl.below b) hG ha hy
  have HTL : Hid (∀ x, Fd.mulQ P K (Fd.monL l) x x < P ^ K) := fun x => Fd.mulQ_lt hG.field.toRing1 x x
  have HSL : Hid (∀ a y, Fd.addQ P K a y < P ^ K) := fun a y => Fd.addQ_lt hG.field.toRing1 a y
  generalize Fd.mulQ P K (Fd.monL l) = T at *
  generalize Fd.addQ P K = S at *
  have h24 : P ^ K ≤ 24 ∧ P ^ K % 4 = 1 := by
    unfold paE at h0
    by_cases k : 24 < P ^ K
    · rw [if_pos k] at h0; cases h0
    · rw [if_neg k] at h0
      refine ⟨by omega, ?_⟩
      apply Classical.byContradiction
      intro k2
      rw [if_neg k2] at h0
      cases h0
  obtain ⟨h24, h41⟩ := h24
  generalize P ^ K = q at *
  have HPC : Hid (pgC q S T = (List.range (q * q)).map fun j => pgF q S T (j / q) (j % q)) := rfl
  have HST : Hid (∀ a x b, 1 ≤ x → b < q → S a (T x x) = b → ∀ j, stP q S T a (x + 1) j = if j = a * q + b then 1 else stP q S T a x j) := fun a x b hx hb e j => stP_step hx hb e j
  have HSR : Hid (∀ a j, stP q S T (a + 1) 1 j = stP q S T a q j) := stP_row q S T
  have HS0 : Hid (∀ j, stP q S T 0 1 j = 0) := stP_nil q S T
  have HSF : Hid (∀ j, j < q * q → stP q S T q 1 j = pgF q S T (j / q) (j % q)) := fun j hj => stP_full hj
  have HLT : Hid (∀ r c, r < q → c < q → r * q + c < q * q) := fun r c hr hc => cell_ltG hr hc
  generalize pgC q S T = Qc at *
  generalize stP q S T = G at *
  generalize hf : (fun j => pgF q S T (j / q) (j % q)) = f at *
  have HSF2 : Hid (∀ j, j < q * q → G q 1 j = f j) := fun j hj => by rw [HSF.out j hj, ← hf]
  clear HSF hf
  obtain ⟨z, hz⟩ : ∃ z, q * q = z := ⟨_, rfl⟩
  have hmul : (q : Int) * (q : Int) = (z : Int) := by rw [← hz]; simp
  have hz99 : z ≤ 999 := by rw [← hz]; exact Nat.le_trans (Nat.mul_le_mul h24 h24) (by decide)
  rw [hz] at HPC HLT HSF2
  rw [HPC.out]
  have hmk := run_makeN z (by omega)
  have d1 : decide (24 < (q : Int)) = false := by simp; omega
  have t1 : (q : Int) % 4 = 1 := by omega
  have t2 : (q : Int).tmod 4 = 1 := by rw [Int.tmod_eq_emod_of_nonneg (by omega)]; exact t1
  obtain ⟨va, vc, rfl⟩ := sl_len hl
  generalize l.length = zl at *
  clear hl hG h0 h41 HPC hz
  go_enter Tryd.func6, Tryd.ntmps6
  go_wp2_with (first
    | (go_at_call 21; refine C.mono ?_; rintro e w1 ⟨rfl, b1⟩; clear C; have F1 := F0.next b1; obtain ⟨x0, x1, x2⟩ := row3 F1.box; have C2 := HC2.out w1; clear HC2)
    | (go_at_call 22; refine C2.mono ?_; rintro e w2 ⟨rfl, b2⟩; clear C2 x0 x1 x2; have F2 := F1.next b2; have hlt2 := F2.lt; have F3 := (F2.next (balloc w2 (.cells (madeCells #[.int .i64 0] z) 3))).next (balloc _ (.cells #[.int .i64 (q : Int), .slice (some ⟨w2.heap.size, 0, none⟩) z z] 26)); have hO3 := ((own_made0 w2 z).below (balloc _ (.cells #[.int .i64 (q : Int), .slice (some ⟨w2.heap.size, 0, none⟩) z z] 26))).congr (f' := G 0 1) (fun j _ => (HS0.out j).symm); have hB3 := heap_alloc_new (w2.alloc (.cells (madeCells #[.int .i64 0] z) 3)) (.cells #[.int .i64 (q : Int), .slice (some ⟨w2.heap.size, 0, none⟩) z z] 26); rw [show (w2.alloc (.cells (madeCells #[.int .i64 0] z) 3)).heap.size = w2.heap.size + 1 by simp] at hB3; clear F0 F1 F2; obtain ⟨s, hs⟩ : ∃ s, w2.heap.size = s := ⟨_, rfl⟩; rw [hs] at hO3 hB3 hlt2 F3))
  go_loopw [7] (fun av wr => ∃ (a : Nat), av = .int .i64 (a : Int) ∧ a ≤ q ∧ Own wr s z (G a 1) ∧ wr.heap[s + 1]? = some (.cells #[.int .i64 (q : Int), .slice (some ⟨s, 0, none⟩) z z] 26 (0, 0)) ∧ FP w P K (.slice va zl vc) wr) (fun av _ => (q - intOf av).toNat)
  case atStart => exact ⟨0, rfl, by omega, hO3, hB3, F3⟩
  case round =>
    clear hO3 hB3 F3 hs
    obtain ⟨a, rfl, ha, hO, hS, F⟩ := hrel
    by_cases hla : a < q
    · have hda : decide ((a : Int) < (q : Int)) = true := by simp; omega
      have hda2 : decide (a < q) = true := by simp; omega
      go_wp2
      go_loopw [8] (fun xv wr => ∃ (x : Nat), xv = .int .i64 (x : Int) ∧ 1 ≤ x ∧ x ≤ q ∧ Own wr s z (G a x) ∧ wr.heap[s + 1]? = some (.cells #[.int .i64 (q : Int), .slice (some ⟨s, 0, none⟩) z z] 26 (0, 0)) ∧ FP w P K (.slice va zl vc) wr) (fun xv _ => (q - intOf xv).toNat)
      case atStart => exact ⟨1, rfl, by omega, by omega, hO, hS, F⟩
      case round =>
        clear hO hS F
        obtain ⟨x, rfl, hx1, hxq, hO, hS, F⟩ := hrel
        obtain ⟨y0, y1, y2⟩ := row3 F.box
        by_cases hlx : x < q
        · have hdx : decide ((x : Int) < (q : Int)) = true := by simp; omega
          have C3 := HC3.out x wr hlx F.bel
          have htl := HTL.out x
          have HC4a : Hid (∀ W, Below w.heap.size w W → Calls Tryd.prog 24 #[.agg #[.int .i64 (P : Int), .int .i64 (K : Int), .slice va zl vc], .int .i64 (a : Int), .int .i64 (T x x : Int)] W fun e w' => e = .returned (.int .i64 (S a (T x x) : Int)) ∧ Below W.heap.size W w') := fun W b => HC4.out a (T x x) W hla htl b
          have hsl := HSL.out a (T x x)
          have HG : Hid (∀ j, G a (x + 1) j = if j = a * q + S a (T x x) then 1 else G a x j) := fun j => HST.out a x _ hx1 hsl rfl j
          have hk := HLT.out a _ hla hsl
          generalize S a (T x x) = b at HC4a hsl HG hk
          generalize T x x = y at C3 HC4a htl
          obtain ⟨m1, Hm1⟩ : ∃ m, Hid (a * q = m) := ⟨_, rfl⟩
          have hm1 : (a : Int) * (q : Int) = (m1 : Int) := by rw [← Hm1.out]; simp
          rw [Hm1.out] at hk HG
          obtain ⟨p1, Hp1⟩ : ∃ m, Hid (m1 + b = m) := ⟨_, rfl⟩
          have hp1 : (m1 : Int) + (b : Int) = (p1 : Int) := by rw [← Hp1.out]; simp
          rw [Hp1.out] at hk HG
          have q1 : (p1 : Int) < (z : Int) := by omega
          have hm1' := wrapN9 (q := m1) (by have := Hp1.out; omega)
          have hp1' := wrapN9 (q := p1) (by omega)
          go_wp2_with (first
            | (go_at_call 23; refine C3.mono ?_; rintro e w3 ⟨rfl, b3⟩; clear C3 y0 y1 y2; have F3 := F.next b3; have hO3 := hO.below b3; have hS3 := (b3.block _ (Array.getElem?_eq_some_iff.1 hS).1).trans hS; obtain ⟨y0, y1, y2⟩ := row3 F3.box; have C4 := HC4a.out _ F3.bel; clear HC4a hO hS F)
            | (go_at_call 24; refine C4.mono ?_; rintro e w4 ⟨rfl, b4⟩; clear C4 y0 y1 y2; have F4 := F3.next b4; have hO4 := hO3.below b4; have hS4 := (b4.block _ (Array.getElem?_eq_some_iff.1 hS3).1).trans hS3; obtain ⟨s0, s1, _, _⟩ := row2 hS4; have cz := hO4.cell p1 hk; have fz := hO4.frozen p1; have hlo := hO4.lt; have hO5 : Own (w4.setCell ⟨s, p1, none⟩ (.int .i64 1)) s z (G a (x + 1)) := (hO4.set p1 1).congr (fun j _ => (HG.out j).symm); have hS5 := (heap_setCell_other w4 ⟨s, p1, none⟩ (s + 1) (.int .i64 1) (by show s + 1 ≠ s; omega)).trans hS4; have F5 := F4.put (j := p1) (.int .i64 1) hlt2; have HO5 : Hid _ := hO5; have HS5 : Hid _ := hS5; have HF5 : Hid _ := F5; clear hO5 hS5 F5 hO4 hS4 F4 hO3 hS3 F3))
          go_roundw
          case rel => exact ⟨x + 1, by go_num, by omega, by omega, HO5.out, HS5.out, HF5.out⟩
          case measure => simp [intOf]; omega
        · have hdx : decide ((x : Int) < (q : Int)) = false := by simp; omega
          have hdx2 : decide (x < q) = false := by simp; omega
          have hO2 : Own wr s z (G (a + 1) 1) := hO.congr fun j _ => by rw [HSR.out, show x = q by omega]
          clear hO
          go_wp2
          go_roundw
          case rel => exact ⟨a + 1, by go_num, by omega, hO2, hS, F⟩
          case measure => simp [intOf]; omega
    · have hda : decide ((a : Int) < (q : Int)) = false := by simp; omega
      have hda2 : decide (a < q) = false := by simp; omega
      have hO2 : Own wr s z f := hO.congr fun j hj => by rw [show a = q by omega]; exact HSF2.out j hj
      obtain ⟨s0, s1, sf0, sf1⟩ := row2 hS
      obtain ⟨r0, r1, f0, f1⟩ := row2 F.res
      have e1 := put2_row F.res (.int .i64 (q : Int)) (.slice (some ⟨s, 0, none⟩) z z)
      have e3 := (F.bel.setCell (p := ⟨w.heap.size + 1, 0, none⟩) (by show w.heap.size ≤ w.heap.size + 1; omega) (.int .i64 (q : Int))).setCell (p := ⟨w.heap.size + 1, 1, none⟩) (by show w.heap.size ≤ w.heap.size + 1; omega) (.slice (some ⟨s, 0, none⟩) z z)
      have hO3 := (hO2.other ⟨w.heap.size + 1, 0, none⟩ (.int .i64 (q : Int)) (by show s ≠ w.heap.size + 1; omega)).other ⟨w.heap.size + 1, 1, none⟩ (.slice (some ⟨s, 0, none⟩) z z) (by show s ≠ w.heap.size + 1; omega)
      have HE3 : Hid _ := e3
      have HO3 : Hid _ := hO3
      clear e3 hO3 hO hO2
      go_wp2
      refine post_sq2 2 3 Tryd.results6 rfl e1 rfl rfl ⟨⟨_, rfl, .inr ⟨s, z, ?_, ?_⟩⟩, HE3.out⟩
      · rw [List.length_map, List.length_range]
      · rw [List.length_map, List.length_range]
        exact Own.congr HO3.out fun j hj => by simp [hj]
end Go.Proofs.YtlmjlffipinjiaaDoor

namespace Go.Proofs.YtlmjlffipinjiaaDoor

theorem pgB_congr {q a n b : Nat} {S T S' T' : Nat → Nat → Nat} (hn : n ≤ q) (_ha : a < q) (hT : ∀ x, x < q → T x x = T' x x) (hT' : ∀ x, x < q → T' x x < q) (hS : ∀ y, y < q → S a y = S' a y) : pgB q S T a n b = pgB q S' T' a n b := by
  unfold pgB
  rw [Bool.eq_iff_iff, List.any_eq_true, List.any_eq_true]
  constructor
  · rintro ⟨x, hx, e⟩
    have hxq : x < q := by have := List.mem_range.1 hx; omega
    refine ⟨x, hx, ?_⟩
    rw [hT x hxq, hS _ (hT' x hxq)] at e
    exact e
  · rintro ⟨x, hx, e⟩
    have hxq : x < q := by have := List.mem_range.1 hx; omega
    refine ⟨x, hx, ?_⟩
    rw [hT x hxq, hS _ (hT' x hxq)]
    exact e
theorem pgC_congr {q : Nat} {S T S' T' : Nat → Nat → Nat} (hT : ∀ x, x < q → T x x = T' x x) (hT' : ∀ x, x < q → T' x x < q) (hS : ∀ a y, a < q → y < q → S a y = S' a y) : pgC q S T = pgC q S' T' := by
  unfold pgC
  apply List.map_congr_left
  intro j hj
  have hj := List.mem_range.1 hj
  have h : j / q < q := Nat.div_lt_of_lt_mul hj
  unfold pgF
  rw [pgB_congr (Nat.le_refl q) h hT hT' fun y hy => hS _ y h hy]
def adP (q a b : Nat) : Nat := (a + b) % q
def muP (q a b : Nat) : Nat := a * b % q
def ad9 (a b : Nat) : Nat := (a % 3 + b % 3) % 3 + 3 * ((a / 3 + b / 3) % 3)
def mu9 (t : List Nat) (a _b : Nat) : Nat := t.getD a 0
theorem add5 : ∀ a b : Fin 5, Fd.addQ 5 1 a.val b.val = adP 5 a.val b.val := by decide +kernel
theorem add13 : ∀ a b : Fin 13, Fd.addQ 13 1 a.val b.val = adP 13 a.val b.val := by decide +kernel
theorem add17 : ∀ a b : Fin 17, Fd.addQ 17 1 a.val b.val = adP 17 a.val b.val := by decide +kernel
theorem add9 : ∀ a b : Fin 9, Fd.addQ 3 2 a.val b.val = ad9 a.val b.val := by decide +kernel
theorem mul5 : ∀ c x : Fin 5, Fd.mulQ 5 1 (Fd.monL [(c.val : Int)]) x.val x.val = muP 5 x.val x.val := by decide +kernel
theorem mul13 : ∀ c x : Fin 13, Fd.mulQ 13 1 (Fd.monL [(c.val : Int)]) x.val x.val = muP 13 x.val x.val := by decide +kernel
theorem mul17 : ∀ c x : Fin 17, Fd.mulQ 17 1 (Fd.monL [(c.val : Int)]) x.val x.val = muP 17 x.val x.val := by decide +kernel
def sq9 (c d : Nat) : List Nat := (List.range 9).map fun x => Fd.mulQ 3 2 (Fd.monL [(c : Int), (d : Int)]) x x
theorem sq9a : sq9 1 0 = [0, 1, 1, 2, 6, 3, 2, 3, 6] := by decide +kernel
theorem sq9b : sq9 2 1 = [0, 1, 1, 7, 5, 2, 7, 2, 5] := by decide +kernel
theorem sq9c : sq9 2 2 = [0, 1, 1, 4, 2, 8, 4, 8, 2] := by decide +kernel
def gL5 : List Int := [0, 1, 0, 0, 1, 1, 0, 1, 0, 0, 0, 1, 0, 1, 0, 0, 0, 1, 0, 1, 1, 0, 0, 1, 0]
theorem pg5 : pgC 5 (adP 5) (muP 5) = gL5 := by decide +kernel
def gL13 : List Int := [0, 1, 0, 1, 1, 0, 0, 0, 0, 1, 1, 0, 1, 1, 0, 1, 0, 1, 1, 0, 0, 0, 0, 1, 1, 0, 0, 1, 0, 1, 0, 1, 1, 0, 0, 0, 0, 1, 1, 1, 0, 1, 0, 1, 0, 1, 1, 0, 0, 0, 0, 1, 1, 1, 0, 1, 0, 1, 0, 1, 1, 0, 0, 0, 0, 0, 1, 1, 0, 1, 0, 1, 0, 1, 1, 0, 0, 0, 0, 0, 1, 1, 0, 1, 0, 1, 0, 1, 1, 0, 0, 0, 0, 0, 1, 1, 0, 1, 0, 1, 0, 1, 1, 0, 0, 0, 0, 0, 1, 1, 0, 1, 0, 1, 0, 1, 1, 1, 0, 0, 0, 0, 1, 1, 0, 1, 0, 1, 0, 1, 1, 1, 0, 0, 0, 0, 1, 1, 0, 1, 0, 1, 0, 0, 1, 1, 0, 0, 0, 0, 1, 1, 0, 1, 0, 1, 1, 0, 1, 1, 0, 0, 0, 0, 1, 1, 0, 1, 0]
theorem pg13 : pgC 13 (adP 13) (muP 13) = gL13 := by decide +kernel
def gL17 : List Int := [0, 1, 1, 0, 1, 0, 0, 0, 1, 1, 0, 0, 0, 1, 0, 1, 1, 1, 0, 1, 1, 0, 1, 0, 0, 0, 1, 1, 0, 0, 0, 1, 0, 1, 1, 1, 0, 1, 1, 0, 1, 0, 0, 0, 1, 1, 0, 0, 0, 1, 0, 0, 1, 1, 0, 1, 1, 0, 1, 0, 0, 0, 1, 1, 0, 0, 0, 1, 1, 0, 1, 1, 0, 1, 1, 0, 1, 0, 0, 0, 1, 1, 0, 0, 0, 0, 1, 0, 1, 1, 0, 1, 1, 0, 1, 0, 0, 0, 1, 1, 0, 0, 0, 0, 1, 0, 1, 1, 0, 1, 1, 0, 1, 0, 0, 0, 1, 1, 0, 0, 0, 0, 1, 0, 1, 1, 0, 1, 1, 0, 1, 0, 0, 0, 1, 1, 1, 0, 0, 0, 1, 0, 1, 1, 0, 1, 1, 0, 1, 0, 0, 0, 1, 1, 1, 0, 0, 0, 1, 0, 1, 1, 0, 1, 1, 0, 1, 0, 0, 0, 0, 1, 1, 0, 0, 0, 1, 0, 1, 1, 0, 1, 1, 0, 1, 0, 0, 0, 0, 1, 1, 0, 0, 0, 1, 0, 1, 1, 0, 1, 1, 0, 1, 0, 0, 0, 0, 1, 1, 0, 0, 0, 1, 0, 1, 1, 0, 1, 1, 0, 1, 1, 0, 0, 0, 1, 1, 0, 0, 0, 1, 0, 1, 1, 0, 1, 1, 0, 0, 1, 0, 0, 0, 1, 1, 0, 0, 0, 1, 0, 1, 1, 0, 1, 1, 1, 0, 1, 0, 0, 0, 1, 1, 0, 0, 0, 1, 0, 1, 1, 0, 1, 1, 1, 0, 1, 0, 0, 0, 1, 1, 0, 0, 0, 1, 0, 1, 1, 0]
theorem pg17 : pgC 17 (adP 17) (muP 17) = gL17 := by decide +kernel
def gL9a : List Int := [0, 1, 1, 1, 0, 0, 1, 0, 0, 1, 0, 1, 0, 1, 0, 0, 1, 0, 1, 1, 0, 0, 0, 1, 0, 0, 1, 1, 0, 0, 0, 1, 1, 1, 0, 0, 0, 1, 0, 1, 0, 1, 0, 1, 0, 0, 0, 1, 1, 1, 0, 0, 0, 1, 1, 0, 0, 1, 0, 0, 0, 1, 1, 0, 1, 0, 0, 1, 0, 1, 0, 1, 0, 0, 1, 0, 0, 1, 1, 1, 0]
theorem pg9a : pgC 9 ad9 (mu9 [0, 1, 1, 2, 6, 3, 2, 3, 6]) = gL9a := by decide +kernel
def gL9b : List Int := [0, 1, 1, 0, 0, 1, 0, 1, 0, 1, 0, 1, 1, 0, 0, 0, 0, 1, 1, 1, 0, 0, 1, 0, 1, 0, 0, 0, 1, 0, 0, 1, 1, 0, 0, 1, 0, 0, 1, 1, 0, 1, 1, 0, 0, 1, 0, 0, 1, 1, 0, 0, 1, 0, 0, 0, 1, 0, 1, 0, 0, 1, 1, 1, 0, 0, 0, 0, 1, 1, 0, 1, 0, 1, 0, 1, 0, 0, 1, 1, 0]
theorem pg9b : pgC 9 ad9 (mu9 [0, 1, 1, 7, 5, 2, 7, 2, 5]) = gL9b := by decide +kernel
def gL9c : List Int := [0, 1, 1, 0, 1, 0, 0, 0, 1, 1, 0, 1, 0, 0, 1, 1, 0, 0, 1, 1, 0, 1, 0, 0, 0, 1, 0, 0, 0, 1, 0, 1, 1, 0, 1, 0, 1, 0, 0, 1, 0, 1, 0, 0, 1, 0, 1, 0, 1, 1, 0, 1, 0, 0, 0, 1, 0, 0, 0, 1, 0, 1, 1, 0, 0, 1, 1, 0, 0, 1, 0, 1, 1, 0, 0, 0, 1, 0, 1, 1, 0]
theorem pg9c : pgC 9 ad9 (mu9 [0, 1, 1, 4, 2, 8, 4, 8, 2]) = gL9c := by decide +kernel
theorem st_gL5 : stB 5 2 0 1 (gx 5 gL5) = true := by decide +kernel
theorem gf_gL5 : gF 5 gL5 = 0 := by decide +kernel
theorem st_gL13 : stB 13 6 2 3 (gx 13 gL13) = true := by decide +kernel
theorem gf_gL13 : gF 13 gL13 = 0 := by decide +kernel
theorem st_gL17 : stB 17 8 3 4 (gx 17 gL17) = true := by decide +kernel
theorem gf_gL17 : gF 17 gL17 = 0 := by decide +kernel
theorem st_gL9a : stB 9 4 1 2 (gx 9 gL9a) = true := by decide +kernel
theorem gf_gL9a : gF 9 gL9a = 0 := by decide +kernel
theorem st_gL9b : stB 9 4 1 2 (gx 9 gL9b) = true := by decide +kernel
theorem gf_gL9b : gF 9 gL9b = 0 := by decide +kernel
theorem st_gL9c : stB 9 4 1 2 (gx 9 gL9c) = true := by decide +kernel
theorem gf_gL9c : gF 9 gL9c = 0 := by decide +kernel
/-- What Paley's graph of a fitting field is. -/
def PaN (q : Nat) (L : List Int) : Prop := GoodG q L ∧ ∃ d n f : Nat, 2 * d + 1 = q ∧ 4 * n + 5 = q ∧ 4 * f + 1 = q ∧ StN q d n f (gx q L)
theorem pan_of {q : Nat} {L : List Int} (d n f : Nat) (h : gF q L = 0) (hs : stB q d n f (gx q L) = true) (h1 : 2 * d + 1 = q) (h2 : 4 * n + 5 = q) (h3 : 4 * f + 1 = q) : PaN q L := by
  obtain ⟨m, e, G⟩ := gF_ok h
  obtain rfl : q = m := by omega
  have S := stB_stg hs G.gr.diag
  exact ⟨G, d, n, f, h1, h2, h3, S.stn G.gr G.pos (by omega) (by omega)⟩
theorem pan5 : PaN 5 gL5 := pan_of 2 0 1 gf_gL5 st_gL5 rfl rfl rfl
theorem pan13 : PaN 13 gL13 := pan_of 6 2 3 gf_gL13 st_gL13 rfl rfl rfl
theorem pan17 : PaN 17 gL17 := pan_of 8 3 4 gf_gL17 st_gL17 rfl rfl rfl
theorem pan9a : PaN 9 gL9a := pan_of 4 1 2 gf_gL9a st_gL9a rfl rfl rfl
theorem pan9b : PaN 9 gL9b := pan_of 4 1 2 gf_gL9b st_gL9b rfl rfl rfl
theorem pan9c : PaN 9 gL9c := pan_of 4 1 2 gf_gL9c st_gL9c rfl rfl rfl
theorem no_gen9 (l : List Int) (h : ((List.range 9).all fun g => (List.range 8).any fun a => (List.range 8).all fun i => Fd.powQ 3 2 (Fd.monL l) g i != a + 1) = true) : ¬ Fd.FieldQ 3 2 (Fd.monL l) := fun hf => by
  obtain ⟨g, hg, hall, _⟩ := hf.gen
  rw [List.all_eq_true] at h
  have h2 := h g (List.mem_range.2 hg)
  rw [List.any_eq_true] at h2
  obtain ⟨a, ha, k⟩ := h2
  have ha := List.mem_range.1 ha
  obtain ⟨i, hi, e⟩ := hall (a + 1) (by omega) (show a + 1 < 3 ^ 2 by omega)
  rw [List.all_eq_true] at k
  have := k i (List.mem_range.2 hi)
  rw [e] at this
  exact absurd rfl (bne_iff_ne.1 this)
theorem sq9_at {c d x : Nat} (hx : x < 9) : Fd.mulQ 3 2 (Fd.monL [(c : Int), (d : Int)]) x x = mu9 (sq9 c d) x x := by
  unfold mu9 sq9
  simp [hx]
theorem pan_nine {c d : Nat} {t : List Nat} {L : List Int} (e : sq9 c d = t) (ht : (List.range 9).all (fun x => decide (t.getD x 0 < 9)) = true) (eL : pgC 9 ad9 (mu9 t) = L) (h : PaN 9 L) : PaN 9 (pgC 9 (Fd.addQ 3 2) (Fd.mulQ 3 2 (Fd.monL [(c : Int), (d : Int)]))) := by
  rw [pgC_congr (T' := mu9 t) (S' := ad9) (fun x hx => by rw [sq9_at hx, e]) (fun x hx => by
    rw [List.all_eq_true] at ht
    exact of_decide_eq_true (ht x (List.mem_range.2 hx))) (fun a y ha hy => add9 ⟨a, ha⟩ ⟨y, hy⟩), eL]
  exact h
/-- Of a fitting field. -/
theorem paley_num {P K : Nat} {l : List Int} (hG : Fd.GoodF P K l) (h0 : paE (P ^ K) = 0) : PaN (P ^ K) (pgC (P ^ K) (Fd.addQ P K) (Fd.mulQ P K (Fd.monL l))) := by
  have h24 : P ^ K ≤ 24 ∧ P ^ K % 4 = 1 := by
    unfold paE at h0
    by_cases k : 24 < P ^ K
    · rw [if_pos k] at h0; cases h0
    · rw [if_neg k] at h0
      refine ⟨by omega, ?_⟩
      apply Classical.byContradiction
      intro k2
      rw [if_neg k2] at h0
      cases h0
  obtain ⟨h24, h41⟩ := h24
  obtain ⟨P', K', e1, e2, hP, _, hK, _, _, _, hlen, hmi, _, hpr⟩ := Fd.good_parts hG.fault
  obtain rfl : P = P' := by omega
  obtain rfl : K = K' := by omega
  have hf := hG.field
  have hP0 : 0 < P := Nat.lt_of_lt_of_le (by decide) hP
  have hP24 : P ≤ 24 := Nat.le_trans (Nat.le_trans (Nat.le_of_eq (Nat.pow_one P).symm) (Nat.pow_le_pow_right hP0 hK)) h24
  have hK4 : K ≤ 4 := by
    refine Nat.le_of_not_lt fun h => ?_
    have h1 : 2 ^ 5 ≤ P ^ 5 := Nat.pow_le_pow_left hP 5
    have h2 : P ^ 5 ≤ P ^ K := Nat.pow_le_pow_right hP0 h
    omega
  have hcase : ∀ p : Fin 25, ∀ k : Fin 5, 2 ≤ p.val → 1 ≤ k.val → p.val ^ k.val ≤ 24 → p.val ^ k.val % 4 = 1 → (k.val = 1 ∧ (p.val = 5 ∨ p.val = 9 ∨ p.val = 13 ∨ p.val = 17 ∨ p.val = 21)) ∨ (k.val = 2 ∧ p.val = 3) := by decide +kernel
  rcases hcase ⟨P, by omega⟩ ⟨K, by omega⟩ hP hK h24 h41 with ⟨rfl, hp⟩ | ⟨rfl, rfl⟩
  · obtain ⟨c, rfl⟩ : ∃ c, l = [c] := by
      match l, hlen with
      | [c], _ => exact ⟨c, rfl⟩
    have h0 := hmi 0
    have e0 : Fd.monL [c] 0 = c := rfl
    rw [e0] at h0
    obtain ⟨C, rfl⟩ : ∃ C : Nat, c = C := ⟨c.toNat, by omega⟩
    rcases hp with rfl | rfl | rfl | rfl | rfl
    · show PaN 5 (pgC 5 _ _)
      rw [pgC_congr (q := 5) (T' := muP 5) (S' := adP 5) (fun x hx => mul5 ⟨C, by omega⟩ ⟨x, hx⟩) (fun x hx => Nat.mod_lt _ (by decide)) (fun a y ha hy => add5 ⟨a, ha⟩ ⟨y, hy⟩), pg5]
      exact pan5
    · exact absurd hpr (by decide)
    · show PaN 13 (pgC 13 _ _)
      rw [pgC_congr (q := 13) (T' := muP 13) (S' := adP 13) (fun x hx => mul13 ⟨C, by omega⟩ ⟨x, hx⟩) (fun x hx => Nat.mod_lt _ (by decide)) (fun a y ha hy => add13 ⟨a, ha⟩ ⟨y, hy⟩), pg13]
      exact pan13
    · show PaN 17 (pgC 17 _ _)
      rw [pgC_congr (q := 17) (T' := muP 17) (S' := adP 17) (fun x hx => mul17 ⟨C, by omega⟩ ⟨x, hx⟩) (fun x hx => Nat.mod_lt _ (by decide)) (fun a y ha hy => add17 ⟨a, ha⟩ ⟨y, hy⟩), pg17]
      exact pan17
    · exact absurd hpr (by decide)
  · obtain ⟨c, d, rfl⟩ : ∃ c d, l = [c, d] := by
      match l, hlen with
      | [c, d], _ => exact ⟨c, d, rfl⟩
    have h0 := hmi 0
    have h1 := hmi 1
    have e0 : Fd.monL [c, d] 0 = c := rfl
    have e1 : Fd.monL [c, d] 1 = d := rfl
    rw [e0] at h0
    rw [e1] at h1
    show PaN 9 (pgC 9 _ _)
    rcases (show c = 0 ∨ c = 1 ∨ c = 2 by omega) with rfl | rfl | rfl <;> rcases (show d = 0 ∨ d = 1 ∨ d = 2 by omega) with rfl | rfl | rfl
    · exact absurd hf (no_gen9 _ (by decide +kernel))
    · exact absurd hf (no_gen9 _ (by decide +kernel))
    · exact absurd hf (no_gen9 _ (by decide +kernel))
    · exact pan_nine (c := 1) (d := 0) sq9a (by decide +kernel) pg9a pan9a
    · exact absurd hf (no_gen9 _ (by decide +kernel))
    · exact absurd hf (no_gen9 _ (by decide +kernel))
    · exact absurd hf (no_gen9 _ (by decide +kernel))
    · exact pan_nine (c := 2) (d := 1) sq9b (by decide +kernel) pg9b pan9b
    · exact pan_nine (c := 2) (d := 2) sq9c (by decide +kernel) pg9c pan9c
end Go.Proofs.YtlmjlffipinjiaaDoor
