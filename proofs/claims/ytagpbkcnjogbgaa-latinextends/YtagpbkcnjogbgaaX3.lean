/- The walk of below. -/
import Derived.Test.YtagpbkcnjogbgaaX2
namespace Go.Proofs.Ytagpbkcnjogbgaa
open Go.RowKit

def toI (all : List (List Nat)) : List (List Int) := all.map fun r => r.map Int.ofNat
theorem toI_any {n c x : Nat} {all : List (List Nat)} (hr : ∀ r ∈ all, r.length = n) (hc : c < n) : ((toI all).any fun l => l.getD c 0 == (x : Int)) = all.any fun r => r.getD c 0 == x := by
  have key : ∀ r ∈ all, ((r.map Int.ofNat).getD c 0 == (x : Int)) = (r.getD c 0 == x) := fun r hm => by
    have h : (r.map Int.ofNat).getD c 0 = (r.getD c 0 : Int) := by
      have : c < r.length := by rw [hr r hm]; exact hc
      simp [this]
    rw [h, Bool.eq_iff_iff]
    simp only [beq_iff_eq]
    omega
  rw [Bool.eq_iff_iff, List.any_eq_true, List.any_eq_true]
  constructor
  · rintro ⟨l, hl, e⟩
    obtain ⟨r, hm, rfl⟩ := List.mem_map.1 hl
    exact ⟨r, hm, by rw [← key r hm]; exact e⟩
  · rintro ⟨r, hm, e⟩
    exact ⟨r.map Int.ofNat, List.mem_map.2 ⟨r, hm, rfl⟩, by rw [key r hm]; exact e⟩
set_option maxHeartbeats 4000000 in
theorem below_any (n : Nat) (all : List (List Nat)) (t : List Nat) (v : Value) (w : World) (h1 : 1 ≤ n) (hn : n ≤ 8) (hv : Rw w v (toI all)) (ha : all.length ≤ 8) (hr : ∀ r ∈ all, r.length = n) (ht : nextR n all = some t) :
    Calls Try.prog 39 #[.int .i64 (n : Int), v] w fun e w' => (∃ y, e = .returned y ∧ w'.ownsRow w.heap.size 3 1 y n (vn t)) ∧ Below w.heap.size w w' := by
  have hmk := run_make0 n (by omega)
  have hsz : ((w.alloc (.cells #[v] 34)).alloc (.cells (madeCells #[.int .i64 0] n) 3)).heap.size = w.heap.size + 1 + 1 := by simp
  have bb : Below w.heap.size w ((w.alloc (.cells #[v] 34)).alloc (.cells (madeCells #[.int .i64 0] n) 3)) := Below.next (balloc _ _) (balloc _ _)
  have f1 : ((w.alloc (.cells #[v] 34)).alloc (.cells (madeCells #[.int .i64 0] n) 3)).heap[w.heap.size]? = some (.cells #[v] 34 (0, 0)) := (Below.heap_alloc _ _ _ (by simp)).trans (heap_alloc_new w _)
  have hO : ((w.alloc (.cells #[v] 34)).alloc (.cells (madeCells #[.int .i64 0] n) 3)).ownsRow w.heap.size 3 1 (.slice (some ⟨w.heap.size + 1, 0, none⟩) 0 n) 0 (vn []) := by
    refine ⟨rfl, .inr ⟨w.heap.size + 1, n, madeCells #[.int .i64 0] n, rfl, by omega, ?_, by omega, by unfold maxLen; omega, by rw [size_madeCells]; simp, rfl⟩⟩
    have := heap_alloc_new (w.alloc (.cells #[v] 34)) (.cells (madeCells #[.int .i64 0] n) 3)
    simpa using this
  have hW := wholeRow_go w.heap.size (w.heap.size + 1) n 45 #[.pointer (some ⟨w.heap.size, 0, none⟩)] (ftR all) e45 hn n [] _ (by simp) hO (fun W hG c x hc hx => by
    have hlt : ∀ j, j < w.heap.size → W.heap[j]? = w.heap[j]? := fun j hj => (hG.block j (by rw [hsz]; omega) (by simp; omega)).trans (bb.block j hj)
    have bW : Below w.heap.size w W := ⟨hG.os.trans bb.os, hG.tape.trans bb.tape, hG.output.trans bb.output, Nat.le_trans bb.size hG.size, fun j hj => hlt j hj⟩
    have k1 := (hG.block w.heap.size (by rw [hsz]; omega) (by simp)).trans f1
    have h := below1_any n c x w.heap.size (toI all) v W (hv.below bW) (by simp [toI]; exact ha) (fun l hl => by
      obtain ⟨r, hm, rfl⟩ := List.mem_map.1 hl
      rw [List.length_map]; exact hr r hm) hc hn (by rw [cell_of_row _ _ _ _ _ _ k1]; rfl)
    rw [toI_any hr hc] at h
    exact h)
  have ht' : rowC n (ftR all) n [] = some t := ht
  rw [ht'] at hW
  have C : Hid (Calls Try.prog 44 #[.int .i64 (n : Int), .slice (some ⟨w.heap.size + 1, 0, none⟩) 0 n, .func (.func 45) #[] #[.pointer (some ⟨w.heap.size, 0, none⟩)]] ((w.alloc (.cells #[v] 34)).alloc (.cells (madeCells #[.int .i64 0] n) 3)) fun e w' => (e = .returned (.slice (some ⟨w.heap.size + 1, 0, none⟩) n n) ∧ w'.ownsRow w.heap.size 3 1 (.slice (some ⟨w.heap.size + 1, 0, none⟩) n n) n (vn t)) ∧ Below w.heap.size w w') := hW.mono fun e w' ⟨hR, _, hG⟩ => ⟨hR.2 t rfl, ⟨hG.os.trans bb.os, hG.tape.trans bb.tape, hG.output.trans bb.output, Nat.le_trans bb.size hG.size, fun j hj => (hG.block j (by rw [hsz]; omega) (by simp; omega)).trans (bb.block j hj)⟩⟩
  obtain ⟨a, cap, rfl, _⟩ := id hv
  clear hW hO f1 hv bb ht' ht
  go_enter Try.func39, Try.ntmps39
  go_wp2_with (go_at_call 44; refine C.out.mono ?_; rintro e w1 ⟨⟨rfl, hT⟩, b1⟩)
  go_ret
  exact ⟨⟨_, rfl, hT⟩, b1⟩
end Go.Proofs.Ytagpbkcnjogbgaa
