/- The program's paths, walked. -/
import Derived.Test.YtgkfddcmngodgabN9
namespace Go.Proofs.Ytgkfddcmngodgab
open Go.RowKit

theorem OR.lsr {w : World} {base : Nat} {v : Value} {Ls : List (List Nat)} (h : OR w base v Ls) (hne : ∀ M ∈ Ls, 0 < M.length) : LsR w v Ls := by
  obtain ⟨vals, h1, h2⟩ := h
  obtain ⟨h3, ⟨rfl, h4⟩ | ⟨g, cap, cur, rfl, h6, h7, h8, h9, h10, ht⟩⟩ := h1
  · refine ⟨none, 0, by rw [h4], fun i M hM => ?_⟩
    rw [List.length_eq_zero_iff.1 h4] at hM
    simp at hM
  · refine ⟨_, cap, rfl, fun i M hM => ?_⟩
    obtain ⟨hi, e⟩ := List.getElem?_eq_some_iff.1 hM
    have e2 : (cur.toList.take (Ls.length * 1))[i]? = vals[i]? := by rw [ht]
    rw [List.getElem?_take, if_pos (by omega)] at e2
    obtain ⟨u, hu⟩ : ∃ u, vals[i]? = some u := ⟨vals[i]'(by omega), by simp⟩
    refine ⟨g, 0, u, rfl, ?_, (h2 i u M hu hM).slc (hne M (List.mem_of_getElem? hM))⟩
    rw [cell_of_row w g _ _ _ _ h7, Nat.zero_add, ← Array.getElem?_toList, e2, hu]
theorem bfL_len8 {n k : Nat} {t : Nat → Nat → Bool} (hn : n ≤ 9) (hk : k ≤ 9) : (bfL n t k).length ≤ 387420489 := by
  have h := bfL_len (t := t) hn k
  have : 9 ^ k ≤ 9 ^ 9 := Nat.pow_le_pow_right (by omega) hk
  omega
theorem bfL_pos {n k : Nat} {t : Nat → Nat → Bool} : ∀ M ∈ bfL n t (k + 1), 0 < M.length := fun M hM => by
  have := (bfL_each hM).1
  omega
set_option maxRecDepth 100000 in
set_option maxHeartbeats 16000000 in
theorem paths_any {n : Nat} {l : List Int} (hg : GoodT n l) (v : Value) (w : World) (hv : Sl w v l) :
    Calls Try.prog 16 #[.agg #[.int .i64 (n : Int), v]] w fun e w' => (∃ y, e = .returned y ∧ LsR w' y (bfL n (tB n l) n)) ∧ Below w.heap.size w w' := by
  have hn9 := hg.le
  obtain ⟨t, Ht⟩ : ∃ t, Hid (tB n l = t) := ⟨_, rfl⟩
  rw [Ht.out]
  have CB : ∀ W, Below w.heap.size w W → ∀ a b, a < n → b < n → Calls Try.prog 23 #[.agg #[.int .i64 (n : Int), v], .int .i64 (a : Int), .int .i64 (b : Int)] W fun e w' => e = .returned (.bool (t a b)) ∧ Below W.heap.size W w' := fun W bW a b ha hb => by rw [← Ht.out]; exact beats_any hg.one hg.le hg.len v W (hv.below bW) ha hb
  have CY : ∀ W, Below w.heap.size w W → ∀ (k : Nat) lv, k < n → LsR W lv (bfL n t k) → Calls Try.prog 22 #[.agg #[.int .i64 (n : Int), v], lv] W fun e w' => (∃ y, e = .returned y ∧ LsR w' y (bfL n t (k + 1))) ∧ Below W.heap.size W w' := fun W bW k lv hk h1 => by
    have C := longer_any hg v W (hv.below bW) (bfL n t k) lv h1 (bfL_len8 hn9 (by omega)) (fun M hM => by have := (bfL_each hM).1; omega) (fun M hM => (bfL_each hM).2)
    rw [Ht.out] at C
    refine C.mono ?_
    rintro e w' ⟨⟨y, e1, ho⟩, hb⟩
    exact ⟨⟨y, e1, OR.lsr ho (bfL_pos (k := k))⟩, hb⟩
  have b1 := balloc w (.cells #[.int .i64 (n : Int), v] 24)
  have HX := sq_cells (n : Int) v w
  obtain ⟨w0, Hw0⟩ : ∃ w0, Hid (w.alloc (.cells #[.int .i64 (n : Int), v] 24) = w0) := ⟨_, rfl⟩
  rw [Hw0.out] at b1 HX
  have HX2 : Hid (∀ W, Below w0.heap.size w0 W → W.cell? ⟨w.heap.size, 0, none⟩ = some (.int .i64 (n : Int)) ∧ W.cell? ⟨w.heap.size, 1, none⟩ = some v) := HX
  have HCB : Hid (∀ W, Below w0.heap.size w0 W → ∀ a b, a < n → b < n → Calls Try.prog 23 #[.agg #[.int .i64 (n : Int), v], .int .i64 (a : Int), .int .i64 (b : Int)] W fun e w' => e = .returned (.bool (t a b)) ∧ Below W.heap.size W w') := fun W bW => CB W (Below.next b1 bW)
  have HCY : Hid (∀ W, Below w0.heap.size w0 W → ∀ (k : Nat) lv, k < n → LsR W lv (bfL n t k) → Calls Try.prog 22 #[.agg #[.int .i64 (n : Int), v], lv] W fun e w' => (∃ y, e = .returned y ∧ LsR w' y (bfL n t (k + 1))) ∧ Below W.heap.size W w') := fun W bW => CY W (Below.next b1 bW)
  have hbb0 := balloc w0 (.cells #[.slice none 0 0] 22)
  have hs1 : w0.heap.size = w.heap.size + 1 := by rw [← Hw0.out]; simp
  have hl0 : LsR (w0.alloc (.cells #[.slice none 0 0] 22)) (.slice (some ⟨w.heap.size + 1, 0, none⟩) 1 1) (bfL n t 0) := by
    refine ⟨_, 1, rfl, fun i M hM => ?_⟩
    match i, hM with
    | 0, hM =>
      have e : M = [] := by simpa [bfL] using hM.symm
      subst e
      refine ⟨_, 0, .slice none 0 0, rfl, ?_, .inl ⟨rfl, rfl⟩⟩
      rw [← hs1, cell_of_row _ _ _ _ _ _ (heap_alloc_new w0 _)]
      rfl
    | i + 1, hM => simp [bfL] at hM
  have HB0 : Hid (∀ W, Below w0.heap.size w0 W → Below w.heap.size w W) := fun W b => Below.next b1 b
  have hsz0 : w.heap.size ≤ w0.heap.size := b1.size
  obtain ⟨x0, x1⟩ := HX2.out w0 (Below.refl _ _)
  rw [← Hw0.out] at x0 x1
  have hnt : (!true) = false := rfl
  have hnf : (!false) = true := rfl
  clear HX hv b1 hg CB CY HCB hnt hnf hsz0
  go_enter Try.func16, Try.ntmps16
  go_wp2
  rw [Hw0.out]
  go_loopw [3, 7] (fun lv iv wr => ∃ i : Nat, iv = .int .i64 (i : Int) ∧ i ≤ n ∧ LsR wr lv (bfL n t i) ∧ Below w0.heap.size w0 wr) (fun _ iv _ => (n - intOf iv).toNat)
  case atStart => exact ⟨0, rfl, by omega, hl0, hbb0⟩
  case round =>
    clear x0 x1 hl0 hbb0 hs1
    obtain ⟨i, rfl, hi, hls, hB⟩ := hrel
    obtain ⟨x0, x1⟩ := HX2.out wr hB
    by_cases hli : i < n
    · have hdi : decide ((i : Int) < (n : Int)) = true := by simp; omega
      have hii : (i : Int) < (n : Int) := by omega
      have C1 := HCY.out wr hB i _ hli hls
      clear hls
      go_wp2_with (first
        | (go_at_call 22; refine C1.mono ?_; rintro e w5 ⟨⟨y, rfl, hy⟩, hb5⟩; clear C1; have hB5 := Below.next hB hb5)
        | go_in)
      go_roundw
      case rel => exact ⟨i + 1, by go_num, by omega, hy, hB5⟩
      case measure => simp [intOf]; omega
    · have hdi : decide ((i : Int) < (n : Int)) = false := by simp; omega
      have hdin : decide (i < n) = false := by simp; omega
      obtain rfl : i = n := by omega
      go_wp2
      go_ret
      exact ⟨⟨_, rfl, hls⟩, HB0.out _ hB⟩
end Go.Proofs.Ytgkfddcmngodgab
