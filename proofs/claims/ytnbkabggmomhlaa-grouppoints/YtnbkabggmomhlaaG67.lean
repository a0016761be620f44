/- The walks of leave, fixed. -/
import Derived.Test.YtnbkabggmomhlaaG70
import Derived.Test.YtnbkabggmomhlaaGA
namespace Go.Proofs.Ytnbkabggmomhlaa
open Go.RowKit Go.Maps

set_option maxRecDepth 100000 in
set_option maxHeartbeats 2000000 in
theorem leave_any (base G t : Nat) (L : List (List Nat)) (w : World) (hM : Mem base w G L) (h0 : 0 < L.length) (h6 : L.length ≤ 6000) (ht : t ≤ 7) :
    Calls Try.prog 67 #[.pointer (some ⟨G, 0, none⟩), .int .i64 (t : Int)] w fun e w' => e = .returned (.int .i64 (L.countP fun x => decide (fixN t x = t) : Nat)) ∧ Below w.heap.size w w' := by
  obtain ⟨g, gc, hc0, hgl, hGl, _, _, hrg⟩ := hM.open h0
  obtain ⟨r, Hr⟩ : ∃ r, Hid (L.length = r) := ⟨_, rfl⟩
  rw [Hr.out] at hc0 h6
  have HRG : Hid (∀ i x, L[i]? = some x → w.rangeAt g (i * 7) (mvL x)) := hrg
  clear hM h0 hrg
  go_enter Try.func67, Try.ntmps67
  go_wp2
  go_loopw [5, 13] (fun o i wr => ∃ c j : Nat, o = .int .i64 c ∧ i = .int .i64 j ∧ j ≤ r ∧ c ≤ j ∧ Hid (c = (L.take j).countP fun x => decide (fixN t x = t)) ∧ Below w.heap.size w wr) (fun _ i _ => (r - intOf i).toNat)
  case atStart => exact ⟨0, 0, rfl, rfl, by omega, by omega, (by simp : 0 = (L.take 0).countP fun x => decide (fixN t x = t)), Below.refl _ _⟩
  case round =>
    obtain ⟨c, j, rfl, rfl, hj, hcj, HC, hB⟩ := hrel
    by_cases hlt : j < r
    · have hji : (j : Int) < r := by omega
      have hdec : decide ((j : Int) < r) = true := by simp; omega
      obtain ⟨x, hx⟩ : ∃ x, L[j]? = some x := ⟨L[j]'(by have := Hr.out; omega), by simp⟩
      have hrM := range_below (HRG.out j x hx) hB hgl
      have HT : Hid ((L.take (j + 1)).countP (fun x => decide (fixN t x = t)) = (L.take j).countP (fun x => decide (fixN t x = t)) + if fixN t x = t then 1 else 0) := by
        rw [List.take_add_one, hx, Option.toList_some, List.countP_append]
        congr 1
        by_cases h : fixN t x = t <;> simp [h]
      have C := fun W => stay_any x t W ht
      simp only [mv_eq] at C
      have hfl := fixN_le t x
      have hinM : (Try.prog.info? 62).map (·.size) = some (mvL (x)).length := inf62L _
      have hlM : (mvL (x)).length = 7 := mvL_len _
      have h1M : ∀ u ∈ mvL (x), u.oneCell' = true := mvL_one _
      obtain ⟨M, HM⟩ : ∃ M, Hid (mvL (x) = M) := ⟨_, rfl⟩
      rw [HM.out] at hinM hrM hlM h1M
      have honeM := all_oneCell_toArray h1M
      have hinM' : (Try.prog.info? 62).map (·.size) = some M.toArray.size := by simpa using hinM
      have hthM : (wr.alloc (.cells #[.int .i64 0, .int .i64 0, .int .i64 0, .int .i64 0, .int .i64 0, .int .i64 0, .int .i64 0] 62)).there wr.heap.size 0 M.toArray.size := by
        intro q hq
        rw [Nat.zero_add, cell_of_row _ _ q _ _ _ (heap_alloc_new wr _), frozen_of_row _ _ q _ _ (heap_alloc_new wr _)]
        have hq7 : q < 7 := by simpa [hlM] using hq
        exact ⟨by simp [hq7], rfl⟩
      have hBM : Below wr.heap.size wr ((wr.alloc (.cells #[.int .i64 0, .int .i64 0, .int .i64 0, .int .i64 0, .int .i64 0, .int .i64 0, .int .i64 0] 62)).setCells wr.heap.size 0 M) := (balloc wr (.cells #[.int .i64 0, .int .i64 0, .int .i64 0, .int .i64 0, .int .i64 0, .int .i64 0, .int .i64 0] 62)).trans (bsets (Nat.le_refl _) _ _ _)
      have hrM2 : ((wr.alloc (.cells #[.int .i64 0, .int .i64 0, .int .i64 0, .int .i64 0, .int .i64 0, .int .i64 0, .int .i64 0] 62)).setCells wr.heap.size 0 M).rangeAt wr.heap.size 0 M := World.rangeAt_setCells_same _ _ _ _ (by simpa using hthM)
      have hsM : wr.heap.size < ((wr.alloc (.cells #[.int .i64 0, .int .i64 0, .int .i64 0, .int .i64 0, .int .i64 0, .int .i64 0, .int .i64 0] 62)).setCells wr.heap.size 0 M).heap.size := by rw [sets_size, World.size_alloc]; omega
      obtain ⟨W, HW⟩ : ∃ W, Hid ((wr.alloc (.cells #[.int .i64 0, .int .i64 0, .int .i64 0, .int .i64 0, .int .i64 0, .int .i64 0, .int .i64 0] 62)).setCells wr.heap.size 0 M = W) := ⟨_, rfl⟩
      rw [HW.out] at hBM hrM2 hsM
      clear h1M
      rw [HM.out] at C
      obtain ⟨y, Hy⟩ : ∃ y, Hid (fixN t x = y) := ⟨_, rfl⟩
      rw [Hy.out] at C HT hfl
      have hB2 := Below.next hB hBM
      clear hx
      by_cases e : y = t
      · subst e
        have he : ((y : Int) == (y : Int)) = true := by simp
        go_wp2_with (first
          | (refine wpList_load_mid rfl 62 _ rfl g (j * 7) rfl M _ hrM und62 rfl hinM ?_)
          | (refine wpList_store_mid rfl 62 _ _ rfl wr.heap.size 0 M.toArray rfl rfl hthM hinM' honeM ?_; rw [show M.toArray.toList = M from rfl, HW.out])
          | (refine wpList_load_mid rfl 62 _ rfl wr.heap.size 0 rfl M _ hrM2 und62 rfl hinM ?_)
          | (go_at_call 70; refine (C _).mono ?_; rintro e w3 ⟨rfl, b3⟩; have hB3 := Below.next hB2 b3))
        go_roundw
        case rel => exact ⟨c + 1, j + 1, by go_num, by go_num, by omega, by omega, (by rw [HT.out, HC.out]; simp : c + 1 = (L.take (j + 1)).countP fun x => decide (fixN y x = y)), hB3⟩
        case measure => simp [intOf]; omega
      · have he : ((y : Int) == (t : Int)) = false := by simp; omega
        have HE : Hid (¬ y = t) := e
        clear e
        go_wp2_with (first
          | (refine wpList_load_mid rfl 62 _ rfl g (j * 7) rfl M _ hrM und62 rfl hinM ?_)
          | (refine wpList_store_mid rfl 62 _ _ rfl wr.heap.size 0 M.toArray rfl rfl hthM hinM' honeM ?_; rw [show M.toArray.toList = M from rfl, HW.out])
          | (refine wpList_load_mid rfl 62 _ rfl wr.heap.size 0 rfl M _ hrM2 und62 rfl hinM ?_)
          | (go_at_call 70; refine (C _).mono ?_; rintro e w3 ⟨rfl, b3⟩; have hB3 := Below.next hB2 b3))
        go_roundw
        case rel => exact ⟨c, j + 1, rfl, by go_num, by omega, by omega, (by rw [HT.out, if_neg HE.out, HC.out]; rfl : c = (L.take (j + 1)).countP fun x => decide (fixN t x = t)), hB3⟩
        case measure => simp [intOf]; omega
    · obtain rfl : j = r := by omega
      have hkd : decide ((j : Int) < (j : Int)) = false := by simp
      go_wp2
      go_ret
      have h := HC.out
      rw [List.take_of_length_le (by rw [Hr.out]; exact Nat.le_refl _)] at h
      exact ⟨by rw [← h]; rfl, hB⟩

/-- How many have just k points that stay. -/
def fixC (n : Nat) (L : List (List Nat)) (k : Nat) : Nat := L.countP fun x => decide (fixN n x = k)
theorem fixC_snoc (n : Nat) (L : List (List Nat)) (x : List Nat) (k : Nat) : fixC n (L ++ [x]) k = fixC n L k + if fixN n x = k then 1 else 0 := by
  unfold fixC
  rw [List.countP_append]
  congr 1
  by_cases h : fixN n x = k <;> simp [h]

set_option maxRecDepth 100000 in
set_option maxHeartbeats 2000000 in
theorem fixed_any (base G n : Nat) (L : List (List Nat)) (w : World) (hM : Mem base w G L) (h0 : 0 < L.length) (h6 : L.length ≤ 6000) (hn : n ≤ 7) :
    Calls Try.prog 51 #[.pointer (some ⟨G, 0, none⟩), .int .i64 (n : Int)] w fun e w' => (∃ v, e = .returned v ∧ Sl w' v ((List.range (n + 1)).map fun k => (fixC n L k : Int))) ∧ Below w.heap.size w w' := by
  obtain ⟨g, gc, hc0, hgl, hGl, _, _, hrg⟩ := hM.open h0
  obtain ⟨r, Hr⟩ : ∃ r, Hid (L.length = r) := ⟨_, rfl⟩
  rw [Hr.out] at hc0 h6
  have HRG : Hid (∀ i x, L[i]? = some x → w.rangeAt g (i * 7) (mvL x)) := hrg
  clear hM h0 hrg
  obtain ⟨i3, hi, hz0, hz1, hz2⟩ := info3
  have hmk : ∀ w : World, (Instr.makeSlice 23 (.int .i64 ((n : Int) + 1)) (.int .i64 ((n : Int) + 1))).run Try.prog w = .ok (.slice (some ⟨w.heap.size, 0, none⟩) (n + 1) (n + 1)) (w.alloc (.cells (madeCells #[.int .i64 0] (n + 1)) 3)) := fun w => by
    have h := run_make (P := Try.prog) w 23 3 i3 (.int .i64 0) und22 hi hz0 .i64 .i64 ((n : Int) + 1) ((n : Int) + 1) (by omega) (by omega) (by rw [hz2]; omega) (by omega)
    rw [hz1] at h
    have e : ((n : Int) + 1).toNat = n + 1 := by omega
    rw [e] at h
    simpa [Value.cells] using h
  have hO : Own (w.alloc (.cells (madeCells #[.int .i64 0] (n + 1)) 3)) w.heap.size (n + 1) (fun k => (fixC n (L.take 0) k : Int)) := by
    refine ⟨_, heap_alloc_new w _, fun j hj => ?_⟩
    have hs : j < (madeCells #[Value.int .i64 0] (n + 1)).size := by rw [size_madeCells]; exact hj
    rw [Array.getElem?_eq_getElem hs]
    simp [madeCells, fixC, Nat.mod_one]
  have hB0 := balloc w (.cells (madeCells #[.int .i64 0] (n + 1)) 3)
  have hc1 := (hB0.cell (p := ⟨G, 0, none⟩) hGl).trans hc0
  clear hi hz0 hz1 hz2
  go_enter Try.func51, Try.ntmps51
  go_wp2
  go_loopw [16] (fun i wr => ∃ j : Nat, i = .int .i64 j ∧ j ≤ r ∧ Own wr w.heap.size (n + 1) (fun k => (fixC n (L.take j) k : Int)) ∧ w.heap.size < wr.heap.size ∧ Below w.heap.size w wr) (fun i _ => (r - intOf i).toNat)
  case atStart => exact ⟨0, rfl, by omega, hO, by simp, hB0⟩
  case round =>
    clear hO hB0 hc1
    obtain ⟨j, rfl, hj, hO, hs, hB⟩ := hrel
    by_cases hlt : j < r
    · have hji : (j : Int) < r := by omega
      have hdec : decide ((j : Int) < r) = true := by simp; omega
      obtain ⟨x, hx⟩ : ∃ x, L[j]? = some x := ⟨L[j]'(by have := Hr.out; omega), by simp⟩
      have hrM := range_below (HRG.out j x hx) hB hgl
      have HT : Hid (∀ k, fixC n (L.take (j + 1)) k = fixC n (L.take j) k + if fixN n x = k then 1 else 0) := fun k => by
        rw [List.take_add_one, hx, Option.toList_some, fixC_snoc]
      have C := fun W => stay_any x n W hn
      simp only [mv_eq] at C
      have hfl := fixN_le n x
      have hinM : (Try.prog.info? 62).map (·.size) = some (mvL (x)).length := inf62L _
      have hlM : (mvL (x)).length = 7 := mvL_len _
      have h1M : ∀ u ∈ mvL (x), u.oneCell' = true := mvL_one _
      obtain ⟨M, HM⟩ : ∃ M, Hid (mvL (x) = M) := ⟨_, rfl⟩
      rw [HM.out] at hinM hrM hlM h1M
      have honeM := all_oneCell_toArray h1M
      have hinM' : (Try.prog.info? 62).map (·.size) = some M.toArray.size := by simpa using hinM
      have hthM : (wr.alloc (.cells #[.int .i64 0, .int .i64 0, .int .i64 0, .int .i64 0, .int .i64 0, .int .i64 0, .int .i64 0] 62)).there wr.heap.size 0 M.toArray.size := by
        intro q hq
        rw [Nat.zero_add, cell_of_row _ _ q _ _ _ (heap_alloc_new wr _), frozen_of_row _ _ q _ _ (heap_alloc_new wr _)]
        have hq7 : q < 7 := by simpa [hlM] using hq
        exact ⟨by simp [hq7], rfl⟩
      have hBM : Below wr.heap.size wr ((wr.alloc (.cells #[.int .i64 0, .int .i64 0, .int .i64 0, .int .i64 0, .int .i64 0, .int .i64 0, .int .i64 0] 62)).setCells wr.heap.size 0 M) := (balloc wr (.cells #[.int .i64 0, .int .i64 0, .int .i64 0, .int .i64 0, .int .i64 0, .int .i64 0, .int .i64 0] 62)).trans (bsets (Nat.le_refl _) _ _ _)
      have hrM2 : ((wr.alloc (.cells #[.int .i64 0, .int .i64 0, .int .i64 0, .int .i64 0, .int .i64 0, .int .i64 0, .int .i64 0] 62)).setCells wr.heap.size 0 M).rangeAt wr.heap.size 0 M := World.rangeAt_setCells_same _ _ _ _ (by simpa using hthM)
      have hsM : wr.heap.size < ((wr.alloc (.cells #[.int .i64 0, .int .i64 0, .int .i64 0, .int .i64 0, .int .i64 0, .int .i64 0, .int .i64 0] 62)).setCells wr.heap.size 0 M).heap.size := by rw [sets_size, World.size_alloc]; omega
      obtain ⟨W, HW⟩ : ∃ W, Hid ((wr.alloc (.cells #[.int .i64 0, .int .i64 0, .int .i64 0, .int .i64 0, .int .i64 0, .int .i64 0, .int .i64 0] 62)).setCells wr.heap.size 0 M = W) := ⟨_, rfl⟩
      rw [HW.out] at hBM hrM2 hsM
      clear h1M
      rw [HM.out] at C
      obtain ⟨y, Hy⟩ : ∃ y, Hid (fixN n x = y) := ⟨_, rfl⟩
      rw [Hy.out] at C HT hfl
      have hB2 := Below.next hB hBM
      have hO2 := hO.below hBM
      have hcb : fixC n (L.take j) y ≤ j := by
        unfold fixC
        have := List.countP_le_length (p := fun x => decide (fixN n x = y)) (l := L.take j)
        rw [List.length_take] at this; omega
      obtain ⟨q, Hq⟩ : ∃ q, Hid (fixC n (L.take j) y = q) := ⟨_, rfl⟩
      rw [Hq.out] at hcb
      have hyi : (y : Int) < (n : Int) + 1 := by omega
      have hy0 : (0 : Int) ≤ (y : Int) := by omega
      clear hx
      go_wp2_with (first
          | (refine wpList_load_mid rfl 62 _ rfl g (j * 7) rfl M _ hrM und62 rfl hinM ?_)
          | (refine wpList_store_mid rfl 62 _ _ rfl wr.heap.size 0 M.toArray rfl rfl hthM hinM' honeM ?_; rw [show M.toArray.toList = M from rfl, HW.out])
          | (refine wpList_load_mid rfl 62 _ rfl wr.heap.size 0 rfl M _ hrM2 und62 rfl hinM ?_)
          | (go_at_call 70; refine (C _).mono ?_; rintro e w3 ⟨rfl, b3⟩; have hB3 := Below.next hB2 b3; have hO3 := hO2.below b3; have hcy := hO3.cell y (by omega); rw [Hq.out] at hcy; have hfy := hO3.frozen y))
      go_roundw
      case rel =>
        refine ⟨j + 1, by go_num, by omega, (hO3.set y ((q : Int) + 1)).congr (fun k hk => ?_), by have := b3.size; have := hBM.size; simp; omega, hB3.setCell (p := ⟨w.heap.size, y, none⟩) (by simp) _⟩
        unfold upd
        rw [HT.out k]
        by_cases e : k = y
        · subst e; rw [if_pos rfl, if_pos rfl, Hq.out]; simp
        · rw [if_neg e, if_neg (Ne.symm e)]; simp
      case measure => simp [intOf]; omega
    · obtain rfl : j = r := by omega
      have hkd : decide ((j : Int) < (j : Int)) = false := by simp
      go_wp2
      go_ret
      have h := hO.sl (n + 1)
      rw [List.take_of_length_le (by rw [Hr.out]; exact Nat.le_refl _)] at h
      exact ⟨⟨_, rfl, h⟩, hB⟩

end Go.Proofs.Ytnbkabggmomhlaa
