/- The law DesignFisher. -/
import Derived.Test.YtnnopfdckillpaaDoorLL
import Derived.Test.YtnnopfdckillpaaDoorDFish
/- The laws' fact: seven points, seven blocks; the law DesignFisher. -/
namespace Go.Proofs.YtnnopfdckillpaaDoor
open Go.RowKit

def fanoB : List (List Nat) := [[0, 1, 3], [1, 2, 4], [2, 3, 5], [3, 4, 6], [0, 4, 5], [1, 5, 6], [0, 2, 6]]
theorem fano_good : GoodD 7 fanoB := by
  refine ⟨by decide, by decide, by decide, fun b hb => ?_⟩
  simp only [fanoB, List.mem_cons, List.not_mem_nil, or_false] at hb
  rcases hb with rfl | rfl | rfl | rfl | rfl | rfl | rfl <;> exact ⟨by decide, by decide, by decide, by decide, by decide, by decide, trivial⟩
theorem fano_lev : LvOk 7 fanoB 2 3 1 := by
  refine ⟨by decide, fun b hb => ?_, lev_of_rise fun s h1 h2 h3 => ?_⟩
  · simp only [fanoB, List.mem_cons, List.not_mem_nil, or_false] at hb
    rcases hb with rfl | rfl | rfl | rfl | rfl | rfl | rfl <;> rfl
  · match s, h3 with
    | [x, y], _ =>
      have hx := h2 x (by simp)
      have hy := h2 y (by simp)
      have hxy : x < y := by simpa using h1
      have key : ∀ a b : Fin 7, a.val < b.val → nb fanoB [a.val, b.val] = 1 := by decide
      exact key ⟨x, hx⟩ ⟨y, hy⟩ hxy

theorem infF24 : (Tryd.prog.info? 24).map (·.size) = some 2 := by kernel_rfl
theorem post_dF {fn : Func} {R : Ending → World → Prop} {a : Act} {w : World} {g : Nat} {x y : Value} (slot : Tmp) (hres : fn.results = #[.cell slot 24]) (hp : a.tmps.getD slot undef = .pointer (some ⟨g, 0, none⟩)) (hr : w.heap[g]? = some (.cells #[x, y] 24 (0, 0))) (hd : a.defers = []) (hR : R (.returned (.agg #[x, y])) w) : bodyPost Tryd.prog fn R .ret a w :=
  bodyPost_ret (results_cell_row hres a.tmps w g 24 #[x, y] (0, 0) _ hp hr Tryd.underlying24 rfl infF24) hd hR
theorem heap_al {w : World} {g : Nat} {o o' : Obj} (h : w.heap[g]? = some o) : (w.alloc o').heap[g]? = some o := (Below.heap_alloc w o' g (Array.getElem?_eq_some_iff.1 h).1).trans h
theorem heap_nw (w : World) (n : Nat) (o : Obj) (h : w.heap.size = n) : (w.alloc o).heap[n]? = some o := by rw [← h]; exact heap_alloc_new w o
/-- A row of three numbers in memory. -/
theorem sl3 {w : World} {g : Nat} {x y z : Int} (h : w.heap[g]? = some (.cells #[.int .i64 x, .int .i64 y, .int .i64 z] 3 (0, 0))) : Sl w (.slice (some ⟨g, 0, none⟩) 3 3) [x, y, z] := by
  refine ⟨_, 3, rfl, fun j hj => ⟨g, 0, rfl, ?_⟩⟩
  rw [cell_of_row _ _ _ _ _ _ h]
  match j, hj with
  | 0, _ => rfl
  | 1, _ => rfl
  | 2, _ => rfl

set_option maxRecDepth 100000 in
set_option maxHeartbeats 4000000 in
theorem fano_any (w : World) : Calls Tryd.prog 38 #[] w fun e w' => ∃ x, e = .returned (.agg #[.int .i64 7, x]) ∧ Rw w' x (toZ fanoB) ∧ Below w.heap.size w w' := by
  go_enter Tryd.func38, Tryd.ntmps38
  go_wp2
  have z0 := heap_nw w _ (.cells #[.int .i64 7, .slice (some ⟨w.heap.size + 1 + 1 + 1 + 1 + 1 + 1 + 1 + 1, 0, none⟩) 7 7] 24) rfl
  have z1 := heap_nw (w.alloc (.cells #[.int .i64 7, .slice (some ⟨w.heap.size + 1 + 1 + 1 + 1 + 1 + 1 + 1 + 1, 0, none⟩) 7 7] 24)) (w.heap.size + 1) (.cells #[.int .i64 0, .int .i64 1, .int .i64 3] 3) (by simp only [World.size_alloc])
  have z2 := heap_nw ((w.alloc (.cells #[.int .i64 7, .slice (some ⟨w.heap.size + 1 + 1 + 1 + 1 + 1 + 1 + 1 + 1, 0, none⟩) 7 7] 24)).alloc (.cells #[.int .i64 0, .int .i64 1, .int .i64 3] 3)) (w.heap.size + 1 + 1) (.cells #[.int .i64 1, .int .i64 2, .int .i64 4] 3) (by simp only [World.size_alloc])
  have z3 := heap_nw (((w.alloc (.cells #[.int .i64 7, .slice (some ⟨w.heap.size + 1 + 1 + 1 + 1 + 1 + 1 + 1 + 1, 0, none⟩) 7 7] 24)).alloc (.cells #[.int .i64 0, .int .i64 1, .int .i64 3] 3)).alloc (.cells #[.int .i64 1, .int .i64 2, .int .i64 4] 3)) (w.heap.size + 1 + 1 + 1) (.cells #[.int .i64 2, .int .i64 3, .int .i64 5] 3) (by simp only [World.size_alloc])
  have z4 := heap_nw ((((w.alloc (.cells #[.int .i64 7, .slice (some ⟨w.heap.size + 1 + 1 + 1 + 1 + 1 + 1 + 1 + 1, 0, none⟩) 7 7] 24)).alloc (.cells #[.int .i64 0, .int .i64 1, .int .i64 3] 3)).alloc (.cells #[.int .i64 1, .int .i64 2, .int .i64 4] 3)).alloc (.cells #[.int .i64 2, .int .i64 3, .int .i64 5] 3)) (w.heap.size + 1 + 1 + 1 + 1) (.cells #[.int .i64 3, .int .i64 4, .int .i64 6] 3) (by simp only [World.size_alloc])
  have z5 := heap_nw (((((w.alloc (.cells #[.int .i64 7, .slice (some ⟨w.heap.size + 1 + 1 + 1 + 1 + 1 + 1 + 1 + 1, 0, none⟩) 7 7] 24)).alloc (.cells #[.int .i64 0, .int .i64 1, .int .i64 3] 3)).alloc (.cells #[.int .i64 1, .int .i64 2, .int .i64 4] 3)).alloc (.cells #[.int .i64 2, .int .i64 3, .int .i64 5] 3)).alloc (.cells #[.int .i64 3, .int .i64 4, .int .i64 6] 3)) (w.heap.size + 1 + 1 + 1 + 1 + 1) (.cells #[.int .i64 0, .int .i64 4, .int .i64 5] 3) (by simp only [World.size_alloc])
  have z6 := heap_nw ((((((w.alloc (.cells #[.int .i64 7, .slice (some ⟨w.heap.size + 1 + 1 + 1 + 1 + 1 + 1 + 1 + 1, 0, none⟩) 7 7] 24)).alloc (.cells #[.int .i64 0, .int .i64 1, .int .i64 3] 3)).alloc (.cells #[.int .i64 1, .int .i64 2, .int .i64 4] 3)).alloc (.cells #[.int .i64 2, .int .i64 3, .int .i64 5] 3)).alloc (.cells #[.int .i64 3, .int .i64 4, .int .i64 6] 3)).alloc (.cells #[.int .i64 0, .int .i64 4, .int .i64 5] 3)) (w.heap.size + 1 + 1 + 1 + 1 + 1 + 1) (.cells #[.int .i64 1, .int .i64 5, .int .i64 6] 3) (by simp only [World.size_alloc])
  have z7 := heap_nw (((((((w.alloc (.cells #[.int .i64 7, .slice (some ⟨w.heap.size + 1 + 1 + 1 + 1 + 1 + 1 + 1 + 1, 0, none⟩) 7 7] 24)).alloc (.cells #[.int .i64 0, .int .i64 1, .int .i64 3] 3)).alloc (.cells #[.int .i64 1, .int .i64 2, .int .i64 4] 3)).alloc (.cells #[.int .i64 2, .int .i64 3, .int .i64 5] 3)).alloc (.cells #[.int .i64 3, .int .i64 4, .int .i64 6] 3)).alloc (.cells #[.int .i64 0, .int .i64 4, .int .i64 5] 3)).alloc (.cells #[.int .i64 1, .int .i64 5, .int .i64 6] 3)) (w.heap.size + 1 + 1 + 1 + 1 + 1 + 1 + 1) (.cells #[.int .i64 0, .int .i64 2, .int .i64 6] 3) (by simp only [World.size_alloc])
  have z8 := heap_nw ((((((((w.alloc (.cells #[.int .i64 7, .slice (some ⟨w.heap.size + 1 + 1 + 1 + 1 + 1 + 1 + 1 + 1, 0, none⟩) 7 7] 24)).alloc (.cells #[.int .i64 0, .int .i64 1, .int .i64 3] 3)).alloc (.cells #[.int .i64 1, .int .i64 2, .int .i64 4] 3)).alloc (.cells #[.int .i64 2, .int .i64 3, .int .i64 5] 3)).alloc (.cells #[.int .i64 3, .int .i64 4, .int .i64 6] 3)).alloc (.cells #[.int .i64 0, .int .i64 4, .int .i64 5] 3)).alloc (.cells #[.int .i64 1, .int .i64 5, .int .i64 6] 3)).alloc (.cells #[.int .i64 0, .int .i64 2, .int .i64 6] 3)) (w.heap.size + 1 + 1 + 1 + 1 + 1 + 1 + 1 + 1) (.cells #[.slice (some ⟨w.heap.size + 1, 0, none⟩) 3 3, .slice (some ⟨w.heap.size + 1 + 1, 0, none⟩) 3 3, .slice (some ⟨w.heap.size + 1 + 1 + 1, 0, none⟩) 3 3, .slice (some ⟨w.heap.size + 1 + 1 + 1 + 1, 0, none⟩) 3 3, .slice (some ⟨w.heap.size + 1 + 1 + 1 + 1 + 1, 0, none⟩) 3 3, .slice (some ⟨w.heap.size + 1 + 1 + 1 + 1 + 1 + 1, 0, none⟩) 3 3, .slice (some ⟨w.heap.size + 1 + 1 + 1 + 1 + 1 + 1 + 1, 0, none⟩) 3 3] 33) (by simp only [World.size_alloc])
  refine post_dF 0 rfl rfl (heap_al (heap_al (heap_al (heap_al (heap_al (heap_al (heap_al (heap_al z0)))))))) rfl ⟨_, rfl, ⟨_, 7, rfl, fun i l hi => ?_⟩, ?_⟩
  · match i, hi with
    | 0, hi =>
      obtain rfl : ([0, 1, 3] : List Int) = l := by simpa [toZ, fanoB] using hi
      exact ⟨_, 0, _, rfl, by rw [cell_of_row _ _ _ _ _ _ z8]; rfl, sl3 (heap_al (heap_al (heap_al (heap_al (heap_al (heap_al (heap_al z1)))))))⟩
    | 1, hi =>
      obtain rfl : ([1, 2, 4] : List Int) = l := by simpa [toZ, fanoB] using hi
      exact ⟨_, 0, _, rfl, by rw [cell_of_row _ _ _ _ _ _ z8]; rfl, sl3 (heap_al (heap_al (heap_al (heap_al (heap_al (heap_al z2))))))⟩
    | 2, hi =>
      obtain rfl : ([2, 3, 5] : List Int) = l := by simpa [toZ, fanoB] using hi
      exact ⟨_, 0, _, rfl, by rw [cell_of_row _ _ _ _ _ _ z8]; rfl, sl3 (heap_al (heap_al (heap_al (heap_al (heap_al z3)))))⟩
    | 3, hi =>
      obtain rfl : ([3, 4, 6] : List Int) = l := by simpa [toZ, fanoB] using hi
      exact ⟨_, 0, _, rfl, by rw [cell_of_row _ _ _ _ _ _ z8]; rfl, sl3 (heap_al (heap_al (heap_al (heap_al z4))))⟩
    | 4, hi =>
      obtain rfl : ([0, 4, 5] : List Int) = l := by simpa [toZ, fanoB] using hi
      exact ⟨_, 0, _, rfl, by rw [cell_of_row _ _ _ _ _ _ z8]; rfl, sl3 (heap_al (heap_al (heap_al z5)))⟩
    | 5, hi =>
      obtain rfl : ([1, 5, 6] : List Int) = l := by simpa [toZ, fanoB] using hi
      exact ⟨_, 0, _, rfl, by rw [cell_of_row _ _ _ _ _ _ z8]; rfl, sl3 (heap_al (heap_al z6))⟩
    | 6, hi =>
      obtain rfl : ([0, 2, 6] : List Int) = l := by simpa [toZ, fanoB] using hi
      exact ⟨_, 0, _, rfl, by rw [cell_of_row _ _ _ _ _ _ z8]; rfl, sl3 (heap_al z7)⟩
  · have q := balloc w (.cells #[.int .i64 7, .slice (some ⟨w.heap.size + 1 + 1 + 1 + 1 + 1 + 1 + 1 + 1, 0, none⟩) 7 7] 24)
    replace q := q.alloc (by simp only [World.size_alloc]; omega) (.cells #[.int .i64 0, .int .i64 1, .int .i64 3] 3)
    replace q := q.alloc (by simp only [World.size_alloc]; omega) (.cells #[.int .i64 1, .int .i64 2, .int .i64 4] 3)
    replace q := q.alloc (by simp only [World.size_alloc]; omega) (.cells #[.int .i64 2, .int .i64 3, .int .i64 5] 3)
    replace q := q.alloc (by simp only [World.size_alloc]; omega) (.cells #[.int .i64 3, .int .i64 4, .int .i64 6] 3)
    replace q := q.alloc (by simp only [World.size_alloc]; omega) (.cells #[.int .i64 0, .int .i64 4, .int .i64 5] 3)
    replace q := q.alloc (by simp only [World.size_alloc]; omega) (.cells #[.int .i64 1, .int .i64 5, .int .i64 6] 3)
    replace q := q.alloc (by simp only [World.size_alloc]; omega) (.cells #[.int .i64 0, .int .i64 2, .int .i64 6] 3)
    replace q := q.alloc (by simp only [World.size_alloc]; omega) (.cells #[.slice (some ⟨w.heap.size + 1, 0, none⟩) 3 3, .slice (some ⟨w.heap.size + 1 + 1, 0, none⟩) 3 3, .slice (some ⟨w.heap.size + 1 + 1 + 1, 0, none⟩) 3 3, .slice (some ⟨w.heap.size + 1 + 1 + 1 + 1, 0, none⟩) 3 3, .slice (some ⟨w.heap.size + 1 + 1 + 1 + 1 + 1, 0, none⟩) 3 3, .slice (some ⟨w.heap.size + 1 + 1 + 1 + 1 + 1 + 1, 0, none⟩) 3 3, .slice (some ⟨w.heap.size + 1 + 1 + 1 + 1 + 1 + 1 + 1, 0, none⟩) 3 3] 33)
    exact q


set_option maxRecDepth 100000 in
set_option maxHeartbeats 4000000 in
theorem fact_any (w : World) : Calls Tryd.prog 22 #[] w fun e w' => e = .returned (.bool true) ∧ Below w.heap.size w w' := by
  have C1 := fano_any w
  have HL : Hid (∀ x W, Rw W x (toZ fanoB) → Calls Tryd.prog 23 #[.agg #[.int .i64 7, x], .int .i64 2] W fun e w' => e = .returned (.tuple #[.int .i64 3, .int .i64 1, .int .i64 0]) ∧ Below W.heap.size W w') := fun x W hx => by
    refine (Level_any 7 2 fanoB x W fano_good hx).mono ?_
    rintro e w' ⟨hT, hb⟩
    exact ⟨hT.one (.inr ⟨2, rfl, by decide, by decide, .inl ⟨3, 1, fano_lev, rfl⟩⟩), hb⟩
  go_enter Tryd.func22, Tryd.ntmps22
  go_wp2_with (first
    | (go_at_call 38; refine C1.mono ?_; rintro e w1 ⟨x, rfl, hx, hb1⟩; clear C1; obtain ⟨xa, xc, ex⟩ := rw_form hx; subst ex; obtain ⟨x0, x1⟩ := des_box 7 (.slice xa (toZ fanoB).length xc) w1 _ (Below.refl _ _); have bb := balloc w1 (.cells #[.int .i64 7, .slice xa (toZ fanoB).length xc] 24); have CL := HL.out _ _ (hx.below bb); generalize (toZ fanoB).length = fl at *)
    | (go_at_call 23; refine CL.mono ?_; rintro e w2 ⟨rfl, hb2⟩; clear CL))
  go_ret
  exact ⟨rfl, Below.next hb1 (Below.next bb hb2)⟩

end Go.Proofs.YtnnopfdckillpaaDoor

namespace Go.Proofs.YtnnopfdckillpaaDoor
open Go.RowKit

theorem lvt_ok {v : Nat} {B : List (List Nat)} {m k l : Nat} (h : LvT v B (m : Int) (.returned (.tuple #[.int .i64 (k : Int), .int .i64 (l : Int), .int .i64 0]))) : LvOk v B m k l ∧ m ≤ v := by
  rcases h with ⟨_, h⟩ | ⟨m', e, _, hv, ⟨k', l', h1, h⟩ | ⟨_, h⟩⟩
  · simp at h
  · obtain rfl : m = m' := by omega
    simp only [Ending.returned.injEq, Value.tuple.injEq, Array.mk.injEq, List.cons.injEq, Value.int.injEq, true_and, and_true, Int.natCast_inj] at h
    obtain ⟨rfl, rfl⟩ := h
    exact ⟨h1, hv⟩
  · simp at h
theorem fisher_of {v k l : Nat} {B : List (List Nat)} (G : GoodD v B) (h : LvOk v B 2 k l) (h2 : 2 ≤ k) (hv : k < v) : v ≤ B.length := by
  obtain ⟨r, T⟩ := two_of G.bls h.2.1 h2 hv h.2.2
  exact fisher T h.1 h2 hv

end Go.Proofs.YtnnopfdckillpaaDoor
