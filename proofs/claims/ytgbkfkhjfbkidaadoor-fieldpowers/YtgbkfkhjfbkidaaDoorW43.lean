/- The walks of low and of Fields. -/
import Derived.Test.YtgbkfkhjfbkidaaDoorBaseB
import Derived.Test.YtgbkfkhjfbkidaaDoorW15
import Derived.Laws.CopyOwn
namespace Go.Proofs.YtgbkfkhjfbkidaaDoor
open Go.RowKit

set_option maxHeartbeats 400000 in
theorem low_any (f : Nat → Int) (k : Nat) (w : World) (hk : 1 ≤ k) (hk' : k ≤ 11) :
    Calls Tryd.prog 43 #[.agg (prow f), .int .i64 k] w fun e w' => ∃ g cap, e = .returned (.slice (some ⟨g, 0, none⟩) k cap) ∧ w.heap.size ≤ g ∧ Own w' g k f ∧ Below w.heap.size w w' := by
  obtain ⟨i3, hi, hz0, hz1, hz2⟩ := info3
  have hmk : ∀ w : World, (Instr.makeSlice 22 (.int .i64 (k : Int)) (.int .i64 (k : Int))).run Tryd.prog w = .ok (.slice (some ⟨w.heap.size, 0, none⟩) k k) (w.alloc (.cells (madeCells #[.int .i64 0] k) 3)) := fun w => by
    have h := run_make (P := Tryd.prog) w 22 3 i3 (.int .i64 0) und22 hi hz0 .i64 .i64 k k (by omega) (by omega) (by rw [hz2]; omega) (by omega)
    rw [hz1] at h
    simpa [Value.cells] using h
  have hsz : (Tryd.prog.info? 3).map (·.size) = some 1 := by kernel_rfl
  have hrow := (Row.made w f).alloc (.cells (madeCells #[.int .i64 0] k) 3)
  have hnew : ((w.alloc (.cells (prow f) 51)).alloc (.cells (madeCells #[.int .i64 0] k) 3)).heap[w.heap.size + 1]? = some (.cells (madeCells #[.int .i64 0] k) 3 (0, 0)) := heap_alloc2_new w _ _
  clear hi
  go_enter Tryd.func43, Tryd.ntmps43
  go_wp2_with (first
    | (refine wpList_copy_own rfl _ _ 22 22 rfl 3 und22 hsz (w.heap.size + 1) 0 k k ⟨w.heap.size, 0, none⟩ 11 11 rfl rfl (madeCells #[.int .i64 0] k) 3 hnew ((List.range k).map fun j => Value.int .i64 (f j)) ?c1 ?c2 ?c3 ?c4 ?_)
    | go_in)
  case c1 => show _ = min 11 k; simp; omega
  case c2 =>
    intro j v hj
    simp only [List.getElem?_map, Option.map_eq_some_iff] at hj
    obtain ⟨z, hz, rfl⟩ := hj
    have hjk : j < k := by
      have := (List.getElem?_eq_some_iff.1 hz).1
      simpa using this
    have hzj : z = j := by
      have h := (List.getElem?_eq_some_iff.1 hz).2
      simpa using h.symm
    subst hzj
    have hx := hrow.cell z (by omega)
    by_cases e : z = 0
    · subst e; simpa [Addr.add] using hx
    · simpa [Addr.add, e] using hx
  case c3 => simp [size_madeCells]
  case c4 => intro v hv; simp at hv; obtain ⟨z, _, rfl⟩ := hv; rfl
  go_wp2
  go_ret
  refine ⟨w.heap.size + 1, k, rfl, by omega, ⟨_, setRow_heap _ _ _ _ _ _ hnew, fun j hj => ?_⟩, bsetRow (((Below.refl _ _).alloc (Nat.le_refl _) _).alloc (by simp) _) (by omega) _⟩
  simp [hj, List.getElem?_append]

set_option maxHeartbeats 400000 in
theorem fields_any (p k p' k' : Int) (l m : List Int) (v u : Value) (w : World) (hl : Sl w v l) (hm : Sl w u m) (hll : l.length ≤ maxLen) (hml : m.length ≤ maxLen) :
    Calls Tryd.prog 18 #[.agg #[.int .i64 p, .int .i64 k, v], .agg #[.int .i64 p', .int .i64 k', u]] w fun e w' => ∃ b : Bool, e = .returned (.bool b) ∧ (b = true ↔ p = p' ∧ k = k' ∧ l = m) ∧ Below w.heap.size w w' := by
  have hf1 : FB ((w.alloc (.cells #[.int .i64 p, .int .i64 k, v] 24)).alloc (.cells #[.int .i64 p', .int .i64 k', u] 24)) w.heap.size p k v := (FB.made w p k v).below ((Below.refl _ _).alloc (Nat.le_refl _) _)
  have hf2 : FB ((w.alloc (.cells #[.int .i64 p, .int .i64 k, v] 24)).alloc (.cells #[.int .i64 p', .int .i64 k', u] 24)) (w.heap.size + 1) p' k' u := by
    have h := FB.made (w.alloc (.cells #[.int .i64 p, .int .i64 k, v] 24)) p' k' u
    simpa using h
  have hb0 : Below w.heap.size w ((w.alloc (.cells #[.int .i64 p, .int .i64 k, v] 24)).alloc (.cells #[.int .i64 p', .int .i64 k', u] 24)) := ((Below.refl _ _).alloc (Nat.le_refl _) _).alloc (by simp) _
  go_enter Tryd.func18, Tryd.ntmps18
  go_wp2_with fail
  refine (ints_any l m v u _ (hl.below hb0) (hm.below hb0) hll hml).mono ?_
  rintro e w1 ⟨b, rfl, hbi, hb1⟩
  have hc1 := (hf1.below hb1).cells
  have hc2 := (hf2.below hb1).cells
  have hbb := hb0.trans (hb1.mono hb0.size)
  have HB : Hid (b = true ↔ l = m) := hbi
  clear hbi hf1 hf2
  by_cases h1 : p = p'
  · have hd1 : (p == p') = true := by simpa using h1
    have H1 : Hid (p = p') := h1
    clear h1
    by_cases h2 : k = k'
    · have hd2 : (k == k') = true := by simpa using h2
      have H2 : Hid (k = k') := h2
      clear h2
      go_wp2
      go_ret
      exact ⟨b, rfl, ⟨fun h => ⟨H1.out, H2.out, HB.out.1 h⟩, fun h => HB.out.2 h.2.2⟩, hbb⟩
    · have hd2 : (k == k') = false := by simpa using h2
      go_wp2
      go_ret
      exact ⟨false, rfl, ⟨fun h => absurd h Bool.false_ne_true, fun h => absurd h.2.1 h2⟩, hbb⟩
  · have hd1 : (p == p') = false := by simpa using h1
    go_wp2
    go_ret
    exact ⟨false, rfl, ⟨fun h => absurd h Bool.false_ne_true, fun h => absurd h.1 h1⟩, hbb⟩

end Go.Proofs.YtgbkfkhjfbkidaaDoor
