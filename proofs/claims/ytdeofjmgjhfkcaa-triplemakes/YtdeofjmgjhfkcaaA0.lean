/- The library's sort at three numbers. -/
import Derived.Test.YtdeofjmgjhfkcaaDCo
import Derived.Test.YtdeofjmgjhfkcaaShS
import Derived.Test.YtdeofjmgjhfkcaaTSo
import Derived.Sort.OwnSortedInts
namespace Go.Proofs.Ytdeofjmgjhfkcaa
open Go.RowKit Go.Shelf Go.Sort

theorem sort3_any (x y z : Nat) (w : World) : Calls Try.prog 71 #[.slice (some ⟨w.heap.size, 0, none⟩) 3 3] (w.alloc (.cells #[.int .i64 (x : Int), .int .i64 (y : Int), .int .i64 (z : Int)] 3)) fun e w' =>
    e = .returned (.tuple #[]) ∧ w'.ownsRow w.heap.size 3 1 (.slice (some ⟨w.heap.size, 0, none⟩) 3 3) 3 (((s3 [x, y, z]).map Int.ofNat).map (Value.int .i64)) ∧ Below w.heap.size w w' := by
  have hb := heap_alloc_new w (.cells #[.int .i64 (x : Int), .int .i64 (y : Int), .int .i64 (z : Int)] 3)
  have hH := holds_of_blockI (ss := [x, y, z].map Int.ofNat) hb rfl
  have h := Any.slices_Sort_int sortI w.heap.size 0 3 ([x, y, z].map Int.ofNat) _ hH (by simp) (by simp)
  change Calls Try.prog 71 _ _ _ at h
  refine h.mono ?_
  rintro e w' ⟨rfl, n, os, rfl⟩
  rw [srt_map]
  refine ⟨rfl, ?_, ?_⟩
  · exact ownsRow_sortedI (base := w.heap.size) (n := n) (os := os) (cap := 3) (ss := [x, y, z].map Int.ofNat) (ts := (s3 [x, y, z]).map Int.ofNat) (by simp [s3_len]) (Nat.le_refl _) hb (by simp) (by unfold maxLen; omega) (by simp)
  · exact (balloc w _).grown (grownBy_sortedI _) (by simp) (fun k hk => by cases hk; exact Nat.le_refl _)

end Go.Proofs.Ytdeofjmgjhfkcaa
