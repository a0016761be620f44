/- The law DesignFisher. -/
import Derived.Test.YtnnopfdckillpaaLF
namespace Go.Proofs.Ytnnopfdckillpaa
open Go.RowKit

theorem lvt_ok {v : Nat} {B : List (List Nat)} {m k l : Nat} (h : LvT v B (m : Int) (.returned (.tuple #[.int .i64 (k : Int), .int .i64 (l : Int), .int .i64 0]))) : LvOk v B m k l ∧ m ≤ v := by
  rcases h with ⟨_, h⟩ | ⟨m', e, _, hv, ⟨k', l', h1, h⟩ | ⟨_, h⟩⟩
  · simp at h
  · obtain rfl : m = m' := by omega
    simp only [Ending.returned.injEq, Value.tuple.injEq, Array.mk.injEq, List.cons.injEq, Value.int.injEq, true_and, and_true, Int.natCast_inj] at h
    obtain ⟨rfl, rfl⟩ := h
    exact ⟨h1, hv⟩
  · simp at h
theorem fisher_of {v k l : Nat} {B : List (List Nat)} (G : GoodD v B) (h : LvOk v B 2 k l) (h2 : 2 ≤ k) (hv : k < v) : v ≤ B.length := by
  obtain ⟨r, T⟩ := two_of G.bls h.2.1 h2 hv h.2.2
  exact fisher T h.1 h2 hv

set_option maxRecDepth 100000 in
set_option maxHeartbeats 4000000 in
theorem Fisher_good (v : Nat) (B : List (List Nat)) (u : Value) (w : World) (G : GoodD v B) (hu : Rw w u (toZ B)) :
    Calls Try.prog 4 #[.agg #[.int .i64 (v : Int), u]] w fun e w' => e = .returned (.bool true) ∧ Below w.heap.size w w' := by
  have HC : Hid (∀ W, Below (w.alloc (.cells #[.int .i64 (v : Int), u] 24)).heap.size (w.alloc (.cells #[.int .i64 (v : Int), u] 24)) W → W.cell? ⟨w.heap.size, 0, none⟩ = some (.int .i64 (v : Int)) ∧ W.cell? ⟨w.heap.size, 1, none⟩ = some u) := des_box v u w
  obtain ⟨w0, Hw0⟩ : ∃ w0, Hid (w0 = w.alloc (.cells #[.int .i64 (v : Int), u] 24)) := ⟨_, rfl⟩
  rw [← Hw0.out] at HC
  have hb0 : Below w.heap.size w w0 := by rw [Hw0.out]; exact balloc _ _
  have hb0' : Hid (Below w.heap.size w w0) := hb0
  have C1 := fact_any w0
  have C3 : Hid (∀ W, Below w0.heap.size w0 W → Calls Try.prog 7 #[.agg #[.int .i64 (v : Int), u], .int .i64 2] W fun e w' => LvT v B ((2 : Nat) : Int) e ∧ Below W.heap.size W w') := fun W hW => Level_any v 2 B u W G (hu.below (Below.next hb0 hW))
  have HF : Hid (∀ k l, LvOk v B 2 k l → 2 ≤ k → k < v → v ≤ B.length) := fun k l h => fisher_of G h
  have hv40 := G.le
  have h200 := G.few
  obtain ⟨x0, x1⟩ := HC.out _ (Below.refl _ _)
  rw [Hw0.out] at x0 x1
  obtain ⟨ua, uc, rfl⟩ := rw_form hu
  rw [toZ_len] at *
  generalize hn : B.length = n at *
  clear hu G hb0
  go_enter Try.func4, Try.ntmps4
  go_wp2_with (first
    | (go_at_call 9; rw [← Hw0.out]; refine C1.mono ?_; rintro e w1 ⟨rfl, hb1⟩; clear C1; obtain ⟨y0, y1⟩ := HC.out _ hb1)
    | (go_at_call 7; refine (C3.out _ hb1).mono ?_; rintro e w3 ⟨hT3, hb3⟩; replace hb3 := Below.next hb1 hb3; obtain ⟨k, l, g, rfl⟩ := lvt_form hT3; have HT3 : Hid (LvT v B ((2 : Nat) : Int) (.returned (.tuple #[.int .i64 (k : Int), .int .i64 (l : Int), .int .i64 (g : Int)]))) := hT3; clear hT3; obtain ⟨q0, q1⟩ := HC.out _ hb3))
  all_goals go_ret
  all_goals first
    | exact ⟨rfl, Below.next hb0'.out hb3⟩
    | skip
  refine ⟨ret_bool (decide_eq_true ?_), Below.next hb0'.out hb3⟩
  subst g
  exact HF.out k l (lvt_ok HT3.out).1 (by omega) (by omega)

set_option maxRecDepth 100000 in
set_option maxHeartbeats 4000000 in
theorem Fisher_bad (p : Int) (ls : List (List Int)) (u : Value) (w : World) (hu : Rw w u ls) (hll : ∀ l ∈ ls, l.length ≤ maxLen) (hlm : ls.length ≤ maxLen) (hz : dF p ls ≠ 0) :
    Calls Try.prog 4 #[.agg #[.int .i64 p, u]] w fun e w' => e = .returned (.bool true) ∧ Below w.heap.size w w' := by
  have HC : Hid (∀ W, Below (w.alloc (.cells #[.int .i64 p, u] 24)).heap.size (w.alloc (.cells #[.int .i64 p, u] 24)) W → W.cell? ⟨w.heap.size, 0, none⟩ = some (.int .i64 p) ∧ W.cell? ⟨w.heap.size, 1, none⟩ = some u) := des_box p u w
  obtain ⟨w0, Hw0⟩ : ∃ w0, Hid (w0 = w.alloc (.cells #[.int .i64 p, u] 24)) := ⟨_, rfl⟩
  rw [← Hw0.out] at HC
  have hb0 : Below w.heap.size w w0 := by rw [Hw0.out]; exact balloc _ _
  have C1 := fact_any w0
  have C3 : Hid (∀ W, Below w0.heap.size w0 W → Calls Try.prog 7 #[.agg #[.int .i64 p, u], .int .i64 2] W fun e w' => e = .returned (.tuple #[.int .i64 0, .int .i64 0, .int .i64 (dF p ls : Int)]) ∧ Below W.heap.size W w') := fun W hW => Level_bad p 2 ls u W (hu.below (Below.next hb0 hW)) hlm hll hz
  obtain ⟨z, Hz⟩ : ∃ z, Hid (dF p ls = z) := ⟨_, rfl⟩
  rw [Hz.out] at C3 hz
  have hd : ((z : Int) != 0) = true := by simp; omega
  obtain ⟨x0, x1⟩ := HC.out _ (Below.refl _ _)
  rw [Hw0.out] at x0 x1
  obtain ⟨ua, uc, rfl⟩ := rw_form hu
  generalize ls.length = n at *
  clear hu hll hz
  go_enter Try.func4, Try.ntmps4
  go_wp2_with (first
    | (go_at_call 9; rw [← Hw0.out]; refine C1.mono ?_; rintro e w1 ⟨rfl, hb1⟩; clear C1; obtain ⟨y0, y1⟩ := HC.out _ hb1)
    | (go_at_call 7; refine (C3.out _ hb1).mono ?_; rintro e w3 ⟨rfl, hb3⟩; replace hb3 := Below.next hb1 hb3; obtain ⟨q0, q1⟩ := HC.out _ hb3))
  go_ret
  exact ⟨rfl, Below.next hb0 hb3⟩

theorem DesignFisher_law (p : Int) (ls : List (List Int)) (u : Value) (w : World) (hu : Rw w u ls) (hll : ∀ l ∈ ls, l.length ≤ maxLen) (hlm : ls.length ≤ maxLen) :
    Calls Try.prog 4 #[.agg #[.int .i64 p, u]] w fun e w' => e = .returned (.bool true) ∧ Below w.heap.size w w' := by
  by_cases hz : dF p ls = 0
  · obtain ⟨v, B, rfl, rfl, G⟩ := dF_ok hz
    exact Fisher_good v B u w G hu
  · exact Fisher_bad p ls u w hu hll hlm hz

end Go.Proofs.Ytnnopfdckillpaa
