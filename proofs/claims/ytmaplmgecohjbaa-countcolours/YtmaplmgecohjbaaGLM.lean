/- The laws' own made; makers as they came in. -/
import Derived.Test.YtmaplmgecohjbaaG11
import Derived.Test.YtmaplmgecohjbaaP33
namespace Go.Proofs.Ytmaplmgecohjbaa
open Go.RowKit Go.Maps

theorem ord_le {n : Nat} {ms : List (List Nat)} (hm : ∀ m ∈ ms, IsP n m) (hn : n ≤ 7) : 1 ≤ ordG n ms ∧ ordG n ms ≤ 5040 := by
  have h := gen_bound hm hn (els_nodup n (Gen n ms)) (fun a => (gen_grp hm).mem)
  exact h
theorem dvd_mod {a b : Nat} (h : a ∣ b) : ((b : Nat) : Int) % ((a : Nat) : Int) = 0 := by
  obtain ⟨c, rfl⟩ := h
  rw [Int.natCast_mul]
  exact Int.mul_emod_right _ _
def m4 : List (List Nat) := [[1, 2, 3, 0], [2, 1, 0, 3]]
theorem m4_isP : ∀ m ∈ m4, IsP 4 m := by
  intro m hm
  have : m = [1, 2, 3, 0] ∨ m = [2, 1, 0, 3] := by simpa [m4] using hm
  rcases this with rfl | rfl <;> exact ⟨rfl, by decide, by decide⟩
theorem ord_m4 : ordG 4 m4 = 8 := by
  have g0 : Gen 4 m4 [0, 1, 2, 3] := .one
  have g1 : Gen 4 m4 [1, 2, 3, 0] := Gen.step _ [1, 2, 3, 0] g0 (by simp [m4])
  have g2 : Gen 4 m4 [2, 3, 0, 1] := Gen.step _ [1, 2, 3, 0] g1 (by simp [m4])
  have g3 : Gen 4 m4 [3, 0, 1, 2] := Gen.step _ [1, 2, 3, 0] g2 (by simp [m4])
  have g4 : Gen 4 m4 [2, 1, 0, 3] := Gen.step _ [2, 1, 0, 3] g0 (by simp [m4])
  have g5 : Gen 4 m4 [1, 0, 3, 2] := Gen.step _ [2, 1, 0, 3] g1 (by simp [m4])
  have g6 : Gen 4 m4 [0, 3, 2, 1] := Gen.step _ [2, 1, 0, 3] g2 (by simp [m4])
  have g7 : Gen 4 m4 [3, 2, 1, 0] := Gen.step _ [2, 1, 0, 3] g3 (by simp [m4])
  have key : ∀ a, a ∈ ([[0, 1, 2, 3], [1, 2, 3, 0], [2, 3, 0, 1], [3, 0, 1, 2], [2, 1, 0, 3], [1, 0, 3, 2], [0, 3, 2, 1], [3, 2, 1, 0]] : List (List Nat)) ↔ Gen 4 m4 a := by
    refine gen_closed (by decide) (fun a ha => ?_) (by decide)
    simp only [List.mem_cons, List.not_mem_nil, or_false] at ha
    rcases ha with rfl | rfl | rfl | rfl | rfl | rfl | rfl | rfl
    · exact g0
    · exact g1
    · exact g2
    · exact g3
    · exact g4
    · exact g5
    · exact g6
    · exact g7
  exact (gen_len m4_isP (by decide) key).symm
theorem sl_four (w : World) (a b c d : Nat) : Sl (w.alloc (.cells #[.int .i64 (a : Int), .int .i64 (b : Int), .int .i64 (c : Int), .int .i64 (d : Int)] 3)) (.slice (some ⟨w.heap.size, 0, none⟩) 4 4) ([a, b, c, d].map Int.ofNat) := by
  refine ⟨_, 4, rfl, fun j hj => ⟨w.heap.size, 0, rfl, ?_⟩⟩
  rw [Nat.zero_add, cell_of_row _ _ j _ _ _ (heap_alloc_new w _)]
  have : j = 0 ∨ j = 1 ∨ j = 2 ∨ j = 3 := by simp at hj; omega
  rcases this with rfl | rfl | rfl | rfl <;> rfl

/-- What is known of the makers as they came in. -/
structure Came (ls : List (List Int)) (v : Value) (w : World) : Prop where
  sls : Sls w v ls
  each : ∀ l ∈ ls, l.length ≤ maxLen
  len : ls.length ≤ maxLen
  cap : capOk v
theorem Came.below {ls : List (List Int)} {v : Value} {w w' : World} (h : Came ls v w) (hb : Below w.heap.size w w') : Came ls v w' := ⟨h.sls.below hb, h.each, h.len, h.cap⟩
theorem Came.mk' {ls : List (List Int)} {v : Value} {w : World} {n : Int} (h : Came ls v w) (h0 : gF n ls = 0) : ∃ (k : Nat) (ms : List (List Nat)), n = k ∧ Mk k ms v w ∧ ls.length = ms.length := by
  obtain ⟨k, ms, h1, h2, h3, h4, h5, h6⟩ := gF_ok h0
  refine ⟨k, ms, h1, ⟨h2, h3, h4, h5, ?_⟩, by rw [h6, List.length_map]⟩
  have := h.sls
  rw [h6] at this
  exact this.slsl

end Go.Proofs.Ytmaplmgecohjbaa
