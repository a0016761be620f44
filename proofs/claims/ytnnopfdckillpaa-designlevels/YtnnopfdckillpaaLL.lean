/- The law DesignLevels. -/
import Derived.Test.YtnnopfdckillpaaE9
namespace Go.Proofs.Ytnnopfdckillpaa
open Go.RowKit

theorem rw_form {w : World} {u : Value} {ls : List (List Int)} (h : Rw w u ls) : ∃ a c, u = .slice a ls.length c := by
  obtain ⟨a, c, e, _⟩ := h
  exact ⟨a, c, e⟩
theorem lvt_form {v : Nat} {B : List (List Nat)} {t : Int} {e : Ending} (h : LvT v B t e) : ∃ k l g : Nat, e = .returned (.tuple #[.int .i64 (k : Int), .int .i64 (l : Int), .int .i64 (g : Int)]) := by
  rcases h with ⟨_, rfl⟩ | ⟨m, _, _, _, ⟨k, l, _, rfl⟩ | ⟨_, rfl⟩⟩
  · exact ⟨0, 0, 1, rfl⟩
  · exact ⟨k, l, 0, rfl⟩
  · exact ⟨0, 0, 4, rfl⟩

set_option maxRecDepth 100000 in
set_option maxHeartbeats 4000000 in
theorem Levels_bad (p t : Int) (ls : List (List Int)) (u : Value) (w : World) (hu : Rw w u ls) (hll : ∀ l ∈ ls, l.length ≤ maxLen) (hlm : ls.length ≤ maxLen) (hz : dF p ls ≠ 0) :
    Calls Try.prog 3 #[.agg #[.int .i64 p, u], .int .i64 t] w fun e w' => e = .returned (.bool true) ∧ Below w.heap.size w w' := by
  have HC : Hid (∀ W, Below (w.alloc (.cells #[.int .i64 p, u] 24)).heap.size (w.alloc (.cells #[.int .i64 p, u] 24)) W → W.cell? ⟨w.heap.size, 0, none⟩ = some (.int .i64 p) ∧ W.cell? ⟨w.heap.size, 1, none⟩ = some u) := des_box p u w
  obtain ⟨w0, Hw0⟩ : ∃ w0, Hid (w0 = w.alloc (.cells #[.int .i64 p, u] 24)) := ⟨_, rfl⟩
  rw [← Hw0.out] at HC
  have hb0 : Below w.heap.size w w0 := by rw [Hw0.out]; exact balloc _ _
  have C1 := DesignFault_any p ls u w0 (hu.below hb0) hlm hll
  have C2 : Hid (∀ W, Below w0.heap.size w0 W → Calls Try.prog 6 #[.agg #[.int .i64 p, u]] W fun e w' => e = .returned (.int .i64 (dF p ls : Int)) ∧ Below W.heap.size W w') := fun W hW => Check_any p ls u W (hu.below (Below.next hb0 hW)) hlm hll
  have C3 : Hid (∀ W, Below w0.heap.size w0 W → Calls Try.prog 7 #[.agg #[.int .i64 p, u], .int .i64 t] W fun e w' => e = .returned (.tuple #[.int .i64 0, .int .i64 0, .int .i64 (dF p ls : Int)]) ∧ Below W.heap.size W w') := fun W hW => Level_bad p t ls u W (hu.below (Below.next hb0 hW)) hlm hll hz
  obtain ⟨z, Hz⟩ : ∃ z, Hid (dF p ls = z) := ⟨_, rfl⟩
  rw [Hz.out] at C1 C2 C3 hz
  have hd : ((z : Int) != 0) = true := by simp; omega
  obtain ⟨x0, x1⟩ := HC.out _ (Below.refl _ _)
  have hd2 : ((z : Int) != (z : Int)) = false := by simp
  rw [Hw0.out] at x0 x1
  obtain ⟨ua, uc, rfl⟩ := rw_form hu
  generalize ls.length = n at *
  clear hu hll hz
  go_enter Try.func3, Try.ntmps3
  go_wp2_with (first
    | (go_at_call 5; rw [← Hw0.out]; refine C1.mono ?_; rintro e w1 ⟨rfl, hb1⟩; clear C1; obtain ⟨y0, y1⟩ := HC.out _ hb1)
    | (go_at_call 6; refine (C2.out _ hb1).mono ?_; rintro e w2 ⟨rfl, hb2⟩; replace hb2 := Below.next hb1 hb2; obtain ⟨z0, z1⟩ := HC.out _ hb2)
    | (go_at_call 7; refine (C3.out _ hb2).mono ?_; rintro e w3 ⟨rfl, hb3⟩; replace hb3 := Below.next hb2 hb3))
  go_ret
  exact ⟨rfl, Below.next hb0 hb3⟩

theorem toZ_len (B : List (List Nat)) : (toZ B).length = B.length := by simp [toZ]
theorem good_max {v : Nat} {B : List (List Nat)} (G : GoodD v B) : (∀ l ∈ toZ B, l.length ≤ maxLen) ∧ (toZ B).length ≤ maxLen := by
  refine ⟨fun l hl => ?_, ?_⟩
  · obtain ⟨b, hb, rfl⟩ := List.mem_map.1 hl
    rw [List.length_map]
    have := G.len hb
    unfold maxLen; omega
  · rw [toZ_len]; have := G.few; unfold maxLen; omega

set_option maxRecDepth 100000 in
set_option maxHeartbeats 4000000 in
theorem Levels_good (v : Nat) (t : Int) (B : List (List Nat)) (u : Value) (w : World) (G : GoodD v B) (hu : Rw w u (toZ B)) :
    Calls Try.prog 3 #[.agg #[.int .i64 (v : Int), u], .int .i64 t] w fun e w' => e = .returned (.bool true) ∧ Below w.heap.size w w' := by
  have HC : Hid (∀ W, Below (w.alloc (.cells #[.int .i64 (v : Int), u] 24)).heap.size (w.alloc (.cells #[.int .i64 (v : Int), u] 24)) W → W.cell? ⟨w.heap.size, 0, none⟩ = some (.int .i64 (v : Int)) ∧ W.cell? ⟨w.heap.size, 1, none⟩ = some u) := des_box v u w
  obtain ⟨w0, Hw0⟩ : ∃ w0, Hid (w0 = w.alloc (.cells #[.int .i64 (v : Int), u] 24)) := ⟨_, rfl⟩
  rw [← Hw0.out] at HC
  have hb0 : Below w.heap.size w w0 := by rw [Hw0.out]; exact balloc _ _
  have hz := good_dF G
  obtain ⟨hll, hlm⟩ := good_max G
  have C1 := DesignFault_any v (toZ B) u w0 (hu.below hb0) hlm hll
  have C2 : Hid (∀ W, Below w0.heap.size w0 W → Calls Try.prog 6 #[.agg #[.int .i64 (v : Int), u]] W fun e w' => e = .returned (.int .i64 0) ∧ Below W.heap.size W w') := fun W hW => by
    have := Check_any v (toZ B) u W (hu.below (Below.next hb0 hW)) hlm hll
    rw [hz] at this
    exact this
  have C3 : Hid (∀ W, Below w0.heap.size w0 W → Calls Try.prog 7 #[.agg #[.int .i64 (v : Int), u], .int .i64 t] W fun e w' => LvT v B t e ∧ Below W.heap.size W w') := fun W hW => Level_any v t B u W G (hu.below (Below.next hb0 hW))
  have C4 : Hid (∀ W, Below w0.heap.size w0 W → Calls Try.prog 8 #[.agg #[.int .i64 (v : Int), u], .int .i64 t] W fun e w' => LvT v B t e ∧ Below W.heap.size W w') := fun W hW => LevelOf_any v t B u W G (hu.below (Below.next hb0 hW))
  rw [hz] at C1
  have hb0' : Hid (Below w.heap.size w w0) := hb0
  obtain ⟨x0, x1⟩ := HC.out _ (Below.refl _ _)
  rw [Hw0.out] at x0 x1
  obtain ⟨ua, uc, rfl⟩ := rw_form hu
  rw [toZ_len] at *
  generalize B.length = n at *
  clear hu hll hlm hz G hb0
  go_enter Try.func3, Try.ntmps3
  go_wp2_with (first
    | (go_at_call 5; rw [← Hw0.out]; refine C1.mono ?_; rintro e w1 ⟨rfl, hb1⟩; clear C1; obtain ⟨y0, y1⟩ := HC.out _ hb1)
    | (go_at_call 6; refine (C2.out _ hb1).mono ?_; rintro e w2 ⟨rfl, hb2⟩; replace hb2 := Below.next hb1 hb2; obtain ⟨z0, z1⟩ := HC.out _ hb2)
    | (go_at_call 7; refine (C3.out _ hb2).mono ?_; rintro e w3 ⟨hT3, hb3⟩; replace hb3 := Below.next hb2 hb3; obtain ⟨k, l, g, rfl⟩ := lvt_form hT3; have HT3 : Hid (LvT v B t (.returned (.tuple #[.int .i64 (k : Int), .int .i64 (l : Int), .int .i64 (g : Int)]))) := hT3; clear hT3; obtain ⟨q0, q1⟩ := HC.out _ hb3)
    | (go_at_call 8; refine (C4.out _ hb3).mono ?_; rintro e w4 ⟨hT4, hb4⟩; replace hb4 := Below.next hb3 hb4; obtain rfl := LvT.one hT4 HT3.out; clear hT4))
  go_ret
  exact ⟨rfl, Below.next hb0'.out hb4⟩

theorem DesignLevels_law (p t : Int) (ls : List (List Int)) (u : Value) (w : World) (_ht : (Lit.int .i64 t).wf = true) (hu : Rw w u ls) (hll : ∀ l ∈ ls, l.length ≤ maxLen) (hlm : ls.length ≤ maxLen) :
    Calls Try.prog 3 #[.agg #[.int .i64 p, u], .int .i64 t] w fun e w' => e = .returned (.bool true) ∧ Below w.heap.size w w' := by
  by_cases hz : dF p ls = 0
  · obtain ⟨v, B, rfl, rfl, G⟩ := dF_ok hz
    exact Levels_good v t B u w G hu
  · exact Levels_bad p t ls u w hu hll hlm hz

end Go.Proofs.Ytnnopfdckillpaa
