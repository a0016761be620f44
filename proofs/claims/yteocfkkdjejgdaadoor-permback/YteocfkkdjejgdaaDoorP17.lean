/- The walks of Rank and PermRank. -/
import Derived.Test.YteocfkkdjejgdaaDoorP33
namespace Go.Proofs.YteocfkkdjejgdaaDoor
open Go.RowKit

theorem Rank_bad (l : List Int) (v : Value) (w : World) (hl : Sl w v l) (hll : l.length ≤ maxLen) (z : Int) (hz : pF l = z) (h0 : z ≠ 0) :
    Calls Tryd.prog 12 #[v] w fun e w' => e = .returned (.tuple #[.int .i64 0, .int .i64 z]) ∧ Below w.heap.size w w' := by
  have C := Check_any l v w hl hll
  rw [hz] at C
  have hd : (z != 0) = true := by simpa using h0
  clear hz h0
  obtain ⟨a, cap, rfl, _⟩ := hl
  go_enter Tryd.func12, Tryd.ntmps12
  go_wp2_with (first
    | (go_at_call 14; refine C.mono ?_; rintro e w1 ⟨rfl, hb⟩))
  exact bodyPost_ret (v := .tuple #[.int .i64 0, .int .i64 z]) (by simp [results, Tryd.results12, go_sem]) rfl ⟨rfl, hb⟩
theorem Rank_ok (n : Nat) (f : Nat → Nat) (v : Value) (w : World) (hn : n ≤ 12) (hv : Sl w v (pl n f)) (hcap : capOk v) (P : Pm n f) :
    Calls Tryd.prog 12 #[v] w fun e w' => e = .returned (.tuple #[.int .i64 (rkS n f n : Int), .int .i64 0]) ∧ Below w.heap.size w w' := by
  have C := Check_any _ v w hv (by rw [pl_len]; unfold maxLen; omega)
  rw [pF_pl P hn] at C
  have C2 := fun W (h : Below w.heap.size w W) => rank_any n f v W hn (hv.below h) hcap
  obtain ⟨z, Hz⟩ : ∃ z, Hid (rkS n f n = z) := ⟨_, rfl⟩
  rw [Hz.out] at C2 ⊢
  obtain ⟨a, ca, hve⟩ : ∃ a c, v = .slice a n c := by obtain ⟨a, c, e, _⟩ := hv; rw [pl_len] at e; exact ⟨a, c, e⟩
  subst hve
  clear hv P hcap
  go_enter Tryd.func12, Tryd.ntmps12
  go_wp2_with (first
    | (go_at_call 14; refine C.mono ?_; rintro e w1 ⟨rfl, hb1⟩)
    | (go_at_call 20; refine (C2 _ hb1).mono ?_; rintro e w2 ⟨rfl, hw⟩; replace hw := hw.symm; subst hw))
  exact bodyPost_ret (v := .tuple #[.int .i64 (z : Int), .int .i64 0]) (by simp [results, Tryd.results12, go_sem]) rfl ⟨rfl, hb1⟩

theorem all_succ (f : Nat → Nat) (x j : Nat) : ((List.range (j + 1)).all fun j' => f j' != x) = (((List.range j).all fun j' => f j' != x) && (f j != x)) := by
  rw [List.range_succ, List.all_append]; simp

end Go.Proofs.YteocfkkdjejgdaaDoor
