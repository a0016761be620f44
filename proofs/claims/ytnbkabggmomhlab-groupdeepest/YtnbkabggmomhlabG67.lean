/- The walks of leave, fixed. -/
import Derived.Test.YtnbkabggmomhlabG70
import Derived.Test.YtnbkabggmomhlabGA
namespace Go.Proofs.Ytnbkabggmomhlab
open Go.RowKit Go.Maps

set_option maxRecDepth 100000 in
set_option maxHeartbeats 2000000 in
theorem leave_any (base G t : Nat) (L : List (List Nat)) (w : World) (hM : Mem base w G L) (h0 : 0 < L.length) (h6 : L.length ≤ 6000) (ht : t ≤ 7) :
    Calls Try.prog 19 #[.pointer (some ⟨G, 0, none⟩), .int .i64 (t : Int)] w fun e w' => e = .returned (.int .i64 (L.countP fun x => decide (fixN t x = t) : Nat)) ∧ Below w.heap.size w w' := by
  obtain ⟨g, gc, hc0, hgl, hGl, _, _, hrg⟩ := hM.open h0
  obtain ⟨r, Hr⟩ : ∃ r, Hid (L.length = r) := ⟨_, rfl⟩
  rw [Hr.out] at hc0 h6
  have HRG : Hid (∀ i x, L[i]? = some x → w.rangeAt g (i * 7) (mvL x)) := hrg
  clear hM h0 hrg
  go_enter Try.func19, Try.ntmps19
  go_wp2
  go_loopw [5, 13] (fun o i wr => ∃ c j : Nat, o = .int .i64 c ∧ i = .int .i64 j ∧ j ≤ r ∧ c ≤ j ∧ Hid (c = (L.take j).countP fun x => decide (fixN t x = t)) ∧ Below w.heap.size w wr) (fun _ i _ => (r - intOf i).toNat)
  case atStart => exact ⟨0, 0, rfl, rfl, by omega, by omega, (by simp : 0 = (L.take 0).countP fun x => decide (fixN t x = t)), Below.refl _ _⟩
  case round =>
    obtain ⟨c, j, rfl, rfl, hj, hcj, HC, hB⟩ := hrel
    by_cases hlt : j < r
    · have hji : (j : Int) < r := by omega
      have hdec : decide ((j : Int) < r) = true := by simp; omega
      obtain ⟨x, hx⟩ : ∃ x, L[j]? = some x := ⟨L[j]'(by have := Hr.out; omega), by simp⟩
      have hrM := range_below (HRG.out j x hx) hB hgl
      have HT : Hid ((L.take (j + 1)).countP (fun x => decide (fixN t x = t)) = (L.take j).countP (fun x => decide (fixN t x = t)) + if fixN t x = t then 1 else 0) := by
        rw [List.take_add_one, hx, Option.toList_some, List.countP_append]
        congr 1
        by_cases h : fixN t x = t <;> simp [h]
      have C := fun W => stay_any x t W ht
      simp only [mv_eq] at C
      have hfl := fixN_le t x
      have hinM : (Try.prog.info? 45).map (·.size) = some (mvL (x)).length := inf62L _
      have hlM : (mvL (x)).length = 7 := mvL_len _
      have h1M : ∀ u ∈ mvL (x), u.oneCell' = true := mvL_one _
      obtain ⟨M, HM⟩ : ∃ M, Hid (mvL (x) = M) := ⟨_, rfl⟩
      rw [HM.out] at hinM hrM hlM h1M
      have honeM := all_oneCell_toArray h1M
      have hinM' : (Try.prog.info? 45).map (·.size) = some M.toArray.size := by simpa using hinM
      have hthM : (wr.alloc (.cells #[.int .i64 0, .int .i64 0, .int .i64 0, .int .i64 0, .int .i64 0, .int .i64 0, .int .i64 0] 45)).there wr.heap.size 0 M.toArray.size := by
        intro q hq
        rw [Nat.zero_add, cell_of_row _ _ q _ _ _ (heap_alloc_new wr _), frozen_of_row _ _ q _ _ (heap_alloc_new wr _)]
        have hq7 : q < 7 := by simpa [hlM] using hq
        exact ⟨by simp [hq7], rfl⟩
      have hBM : Below wr.heap.size wr ((wr.alloc (.cells #[.int .i64 0, .int .i64 0, .int .i64 0, .int .i64 0, .int .i64 0, .int .i64 0, .int .i64 0] 45)).setCells wr.heap.size 0 M) := (balloc wr (.cells #[.int .i64 0, .int .i64 0, .int .i64 0, .int .i64 0, .int .i64 0, .int .i64 0, .int .i64 0] 45)).trans (bsets (Nat.le_refl _) _ _ _)
      have hrM2 : ((wr.alloc (.cells #[.int .i64 0, .int .i64 0, .int .i64 0, .int .i64 0, .int .i64 0, .int .i64 0, .int .i64 0] 45)).setCells wr.heap.size 0 M).rangeAt wr.heap.size 0 M := World.rangeAt_setCells_same _ _ _ _ (by simpa using hthM)
      have hsM : wr.heap.size < ((wr.alloc (.cells #[.int .i64 0, .int .i64 0, .int .i64 0, .int .i64 0, .int .i64 0, .int .i64 0, .int .i64 0] 45)).setCells wr.heap.size 0 M).heap.size := by rw [sets_size, World.size_alloc]; omega
      obtain ⟨W, HW⟩ : ∃ W, Hid ((wr.alloc (.cells #[.int .i64 0, .int .i64 0, .int .i64 0, .int .i64 0, .int .i64 0, .int .i64 0, .int .i64 0] 45)).setCells wr.heap.size 0 M = W) := ⟨_, rfl⟩
      rw [HW.out] at hBM hrM2 hsM
      clear h1M
      rw [HM.out] at C
      obtain ⟨y, Hy⟩ : ∃ y, Hid (fixN t x = y) := ⟨_, rfl⟩
      rw [Hy.out] at C HT hfl
      have hB2 := Below.next hB hBM
      clear hx
      by_cases e : y = t
      · subst e
        have he : ((y : Int) == (y : Int)) = true := by simp
        go_wp2_with (first
          | (refine wpList_load_mid rfl 45 _ rfl g (j * 7) rfl M _ hrM und62 rfl hinM ?_)
          | (refine wpList_store_mid rfl 45 _ _ rfl wr.heap.size 0 M.toArray rfl rfl hthM hinM' honeM ?_; rw [show M.toArray.toList = M from rfl, HW.out])
          | (refine wpList_load_mid rfl 45 _ rfl wr.heap.size 0 rfl M _ hrM2 und62 rfl hinM ?_)
          | (go_at_call 25; refine (C _).mono ?_; rintro e w3 ⟨rfl, b3⟩; have hB3 := Below.next hB2 b3))
        go_roundw
        case rel => exact ⟨c + 1, j + 1, by go_num, by go_num, by omega, by omega, (by rw [HT.out, HC.out]; simp : c + 1 = (L.take (j + 1)).countP fun x => decide (fixN y x = y)), hB3⟩
        case measure => simp [intOf]; omega
      · have he : ((y : Int) == (t : Int)) = false := by simp; omega
        have HE : Hid (¬ y = t) := e
        clear e
        go_wp2_with (first
          | (refine wpList_load_mid rfl 45 _ rfl g (j * 7) rfl M _ hrM und62 rfl hinM ?_)
          | (refine wpList_store_mid rfl 45 _ _ rfl wr.heap.size 0 M.toArray rfl rfl hthM hinM' honeM ?_; rw [show M.toArray.toList = M from rfl, HW.out])
          | (refine wpList_load_mid rfl 45 _ rfl wr.heap.size 0 rfl M _ hrM2 und62 rfl hinM ?_)
          | (go_at_call 25; refine (C _).mono ?_; rintro e w3 ⟨rfl, b3⟩; have hB3 := Below.next hB2 b3))
        go_roundw
        case rel => exact ⟨c, j + 1, rfl, by go_num, by omega, by omega, (by rw [HT.out, if_neg HE.out, HC.out]; rfl : c = (L.take (j + 1)).countP fun x => decide (fixN t x = t)), hB3⟩
        case measure => simp [intOf]; omega
    · obtain rfl : j = r := by omega
      have hkd : decide ((j : Int) < (j : Int)) = false := by simp
      go_wp2
      go_ret
      have h := HC.out
      rw [List.take_of_length_le (by rw [Hr.out]; exact Nat.le_refl _)] at h
      exact ⟨by rw [← h]; rfl, hB⟩

/-- How many have just k points that stay. -/
def fixC (n : Nat) (L : List (List Nat)) (k : Nat) : Nat := L.countP fun x => decide (fixN n x = k)
theorem fixC_snoc (n : Nat) (L : List (List Nat)) (x : List Nat) (k : Nat) : fixC n (L ++ [x]) k = fixC n L k + if fixN n x = k then 1 else 0 := by
  unfold fixC
  rw [List.countP_append]
  congr 1
  by_cases h : fixN n x = k <;> simp [h]

end Go.Proofs.Ytnbkabggmomhlab
