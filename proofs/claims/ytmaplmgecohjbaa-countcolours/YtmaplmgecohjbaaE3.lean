/- The walk of the library's Repeat, at one number. -/
import Derived.Test.YtmaplmgecohjbaaP25
import Derived.Test.YtmaplmgecohjbaaGB
import Derived.Laws.CopyOwn
import Derived.OrdersHeld
import Derived.Deep.RegionHeld3
namespace Go.Proofs.Ytmaplmgecohjbaa
open Go.RowKit

set_option maxRecDepth 100000 in
set_option maxHeartbeats 4000000 in
theorem mul64_any (c : Nat) (hc : c ≤ 7) (w : World) : Calls Try.prog 112 #[.int .u64 1, .int .u64 (c : Int)] w fun e w' => e = .returned (.tuple #[.int .u64 0, .int .u64 (c : Int)]) ∧ w' = w := by
  rcases (show c = 0 ∨ c = 1 ∨ c = 2 ∨ c = 3 ∨ c = 4 ∨ c = 5 ∨ c = 6 ∨ c = 7 by omega) with rfl | rfl | rfl | rfl | rfl | rfl | rfl | rfl
  all_goals
    go_enter Try.func112, Try.ntmps112
    go_wp2
    go_ret2
    exact ⟨rfl, rfl⟩
set_option maxRecDepth 100000 in
set_option maxHeartbeats 1000000 in
theorem mul_any (c : Nat) (hc : c ≤ 7) (w : World) : Calls Try.prog 99 #[.int .u64 1, .int .u64 (c : Int)] w fun e w' => e = .returned (.tuple #[.int .u64 0, .int .u64 (c : Int)]) ∧ w' = w := by
  go_enter Try.func99, Try.ntmps99
  go_wp2_with (go_at_call 112; refine (mul64_any c hc _).mono ?_; rintro e w1 ⟨rfl, rfl⟩)
  go_ret2
  exact ⟨rfl, rfl⟩

/-- So many x, and noughts behind. -/
def repL (x q c : Nat) : List Value := List.replicate q (.int .i64 (x : Int)) ++ List.replicate (c - q) (.int .i64 0)
theorem repL_len {x q c : Nat} (h : q ≤ c) : (repL x q c).length = c := by simp [repL]; omega
theorem repL_splice {x q c m : Nat} (h : q + m ≤ c) : splice (repL x q c) q (List.replicate m (.int .i64 (x : Int))) = repL x (q + m) c := by
  unfold splice repL
  rw [List.take_append_of_le_length (by simp), List.take_of_length_le (by simp), List.length_replicate, List.drop_append, List.length_replicate, List.drop_eq_nil_of_le (by simp), List.nil_append, List.drop_replicate, ← List.append_assoc, List.replicate_append_replicate]
  congr 2
  omega
theorem repL_zero (x c : Nat) : repL x 0 c = List.replicate c (.int .i64 0) := by simp [repL]
theorem repL_at {x q c j : Nat} (hj : j < q) : (repL x q c)[j]? = some (.int .i64 (x : Int)) := by
  unfold repL
  rw [List.getElem?_append_left (by simpa using hj)]
  simp [hj]
theorem made_rep (c : Nat) : madeCells #[Value.int .i64 0] c = (List.replicate c (Value.int .i64 0)).toArray := by
  apply Array.ext_getElem?
  intro j
  by_cases hj : j < c
  · rw [Array.getElem?_eq_getElem (by rw [size_madeCells]; exact hj)]
    simp [madeCells, Nat.mod_one, hj]
  · rw [Array.getElem?_eq_none (by rw [size_madeCells]; omega)]
    simp [hj]
theorem run_make3r (n : Nat) (hn : n ≤ 100000000) (w : World) : (Instr.makeSlice 40 (.int .i64 (n : Int)) (.int .i64 (n : Int))).run Try.prog w = .ok (.slice (some ⟨w.heap.size, 0, none⟩) n n) (w.alloc (.cells (List.replicate n (Value.int .i64 0)).toArray 3)) := by
  obtain ⟨i3, hi, hz0, hz1, hz2⟩ := info3
  have h := run_make (P := Try.prog) w 40 3 i3 (.int .i64 0) und22 hi hz0 .i64 .i64 n n (by omega) (by omega) (by rw [hz2]; omega) (by omega)
  rw [← made_rep]
  simpa [hz1, Value.cells] using h
theorem hsz3r : (Try.prog.info? 3).map (·.size) = some 1 := by kernel_rfl

set_option maxRecDepth 100000 in
set_option maxHeartbeats 4000000 in
theorem Repeat_any (x c b : Nat) (w : World) (hc : c ≤ 7) (hb : b < w.heap.size) (hx : w.cell? ⟨b, 0, none⟩ = some (.int .i64 (x : Int))) :
    Calls Try.prog 86 #[.slice (some ⟨b, 0, none⟩) 1 1, .int .i64 (c : Int)] w fun e w' => (∃ g, e = .returned (.slice (some ⟨g, 0, none⟩) c c) ∧ w.heap.size ≤ g ∧ w'.heap[g]? = some (.cells (repL x c c).toArray 3 (0, 0))) ∧ Below w.heap.size w w' := by
  have C := fun W => mul_any c hc W
  have hmk := run_make3r c (by omega)
  have hd0 : decide ((c : Int) < 0) = false := by simp
  have hd1 : decide ((9223372036854775807 : Int) < (c : Int)) = false := by simp; omega
  have hR0 : (w.alloc (.cells (List.replicate c (Value.int .i64 0)).toArray 3)).heap[w.heap.size]? = some (.cells (repL x 0 c).toArray 3 (0, 0)) := by rw [repL_zero]; exact heap_alloc_new w _
  go_enter Try.func86, Try.ntmps86
  go_wp2_with (first
    | (go_at_call 99; refine (C _).mono ?_; rintro e w1 ⟨rfl, hw⟩; replace hw := hw.symm; subst hw)
    | (refine wpList_copy_splice rfl _ _ 40 40 rfl 3 und22 hsz3r (some ⟨w.heap.size, 0, none⟩) (some ⟨b, 0, none⟩) c c 1 1 rfl rfl w.heap.size 0 (repL x 0 c) 3 hR0 (List.replicate (min 1 c) (.int .i64 (x : Int))) ?c1 ?c2 ?c3 ?c4 w.heap.size _ (Below.refl _ _) (Nat.le_refl _) ?_))
  case c1 => rw [List.length_replicate]
  case c2 =>
    intro _ j v hv
    have hj : j < 1 := by have := (List.getElem?_eq_some_iff.1 hv).1; rw [List.length_replicate] at this; omega
    obtain rfl : j = 0 := by omega
    rw [List.eq_of_mem_replicate (List.mem_of_getElem? hv)]
    exact hx
  case c3 => rw [List.length_replicate, repL_len (by omega)]; omega
  case c4 => intro v hv; rw [List.eq_of_mem_replicate hv]; rfl
  intro w2 HG hb2
  have hG2 : w2.heap[w.heap.size]? = some (.cells (repL x (min 1 c) c).toArray 3 (0, 0)) := by
    have h := HG.out
    rw [repL_splice (by omega), Nat.zero_add] at h
    exact h
  have hB2 : Below w.heap.size w w2 := (balloc w _).trans hb2
  obtain ⟨q0, Hq0⟩ : ∃ q0, Hid (min 1 c = q0) := ⟨_, rfl⟩
  rw [Hq0.out] at hG2 ⊢
  have hq01 : q0 ≤ c := by rw [← Hq0.out]; omega
  have hq02 : 0 < c → 0 < q0 := by rw [← Hq0.out]; omega
  have hs2 := hB2.size
  clear HG hb2 hR0 hmk C
  go_wp2_with fail
  go_loopw [8] (fun i wr => ∃ q : Nat, i = .int .i64 (q : Int) ∧ q ≤ c ∧ (0 < c → 0 < q) ∧ wr.heap[w.heap.size]? = some (.cells (repL x q c).toArray 3 (0, 0)) ∧ Below w.heap.size w wr) (fun i _ => (c - intOf i).toNat)
  case atStart => exact ⟨q0, rfl, hq01, hq02, hG2, hB2⟩
  case round =>
    clear hG2 hB2 hq01 hq02
    obtain ⟨q, rfl, hq, hqp, hG, hB⟩ := hrel
    by_cases hlt : q < c
    · have hqi : (q : Int) < c := by omega
      have hq0 : 0 < q := hqp (by omega)
      have hqn : ¬ c = q := by omega
      have hq00 : (0 : Int) ≤ (q : Int) := by omega
      have hdec : decide ((q : Int) < c) = true := by simp; omega
      go_wp2_with fail
      refine wp_region_noPanic ?_
      refine wp_region_held_drew (S := fun _ => True) (by kernel_rfl) (trivial) (fun hSx => ?_)
      refine wpAnyH_take (i := 0) (v := .int .i64 (q : Int)) rfl (by kernel_rfl) (by kernel_rfl) (by kernel_rfl) (fun _ _ _ h => h) (Or.inl ⟨by rfl, fun w_ hSw => by clear hSw; go_simp⟩) hSx ?_
      try simp only [Act.put, List.setIfInBounds_toArray]
      refine wpAnyH_take (i := 1) (v := .slice (some ⟨w.heap.size, 0, none⟩) c c) rfl (by kernel_rfl) (by kernel_rfl) (by kernel_rfl) (fun _ _ _ h => h) (Or.inl ⟨by rfl, fun w_ hSw => by clear hSw; go_simp⟩) hSx ?_
      try simp only [Act.put]
      refine wpAnyH_take (i := 2) (v := .int .i64 (q : Int)) rfl (by kernel_rfl) (by kernel_rfl) (by kernel_rfl) (fun _ _ _ h => h) (Or.inl ⟨by rfl, fun w_ hSw => by clear hSw; go_simp⟩) hSx ?_
      try simp only [Act.put]
      refine wpAnyH_take (i := 3) (v := .slice (some ⟨w.heap.size, q, none⟩) (c - q) (c - q)) rfl (by kernel_rfl) (by kernel_rfl) (by kernel_rfl) (fun _ _ _ h => h) (Or.inl ⟨by rfl, fun w_ hSw => by clear hSw; go_simp⟩) hSx ?_
      try simp only [Act.put]
      refine wpAnyH_take (i := 4) (v := .slice (some ⟨w.heap.size, 0, none⟩) c c) rfl (by kernel_rfl) (by kernel_rfl) (by kernel_rfl) (fun _ _ _ h => h) (Or.inl ⟨by rfl, fun w_ hSw => by clear hSw; go_simp⟩) hSx ?_
      try simp only [Act.put]
      refine wpAnyH_take (i := 5) (v := .int .i64 (q : Int)) rfl (by kernel_rfl) (by kernel_rfl) (by kernel_rfl) (fun _ _ _ h => h) (Or.inl ⟨by rfl, fun w_ hSw => by clear hSw; go_simp⟩) hSx ?_
      try simp only [Act.put]
      refine wpAnyH_take (i := 6) (v := .slice (some ⟨w.heap.size, 0, none⟩) q c) rfl (by kernel_rfl) (by kernel_rfl) (by kernel_rfl) (fun _ _ _ h => h) (Or.inl ⟨by rfl, fun w_ hSw => by clear hSw; go_simp⟩) hSx ?_
      try simp only [Act.put]
      refine wpAnyH_ready (rs := [7]) (by kernel_rfl) (by simp) ?_
      refine AllReadyH.cons rfl (fun J hJ => ?_) AllReadyH.nil
      refine step_copy_splice (by rfl) _ _ 40 40 (by rfl) 3 und22 hsz3r (some ⟨w.heap.size, q, none⟩) (some ⟨w.heap.size, 0, none⟩) (c - q) (c - q) q c (by rfl) (by rfl) w.heap.size q (repL x q c) 3 hG (List.replicate (min q (c - q)) (.int .i64 (x : Int))) (by rw [List.length_replicate]) (fun _ => ⟨rfl, _, rfl, fun j v hv => ?_⟩) (by rw [List.length_replicate, repL_len hq]; omega) (fun v hv => by rw [List.eq_of_mem_replicate hv]; rfl) w.heap.size w hB.drew (Nat.le_refl _) ?_
      · have hj : j < min q (c - q) := by have := (List.getElem?_eq_some_iff.1 hv).1; rwa [List.length_replicate] at this
        rw [List.eq_of_mem_replicate (List.mem_of_getElem? hv)]
        have h2 := cell_of_row wr w.heap.size j _ _ _ hG
        rw [List.getElem?_toArray, repL_at (by omega)] at h2
        show wr.cell? ((⟨w.heap.size, 0, none⟩ : Addr).add j) = _
        rw [Addr.add_mid, Nat.zero_add]
        exact h2
      · intro w4 HG4 hB4
        have hG4 : w4.heap[w.heap.size]? = some (.cells (repL x (q + min q (c - q)) c).toArray 3 (0, 0)) := by
          have h := HG4.out
          rw [repL_splice (by omega)] at h
          exact h
        rw [List.length_replicate]
        obtain ⟨m, Hm⟩ : ∃ m, Hid (min q (c - q) = m) := ⟨_, rfl⟩
        rw [Hm.out] at hG4 ⊢
        have hm1 : q + m ≤ c := by rw [← Hm.out]; omega
        have hm2 : 0 < m := by rw [← Hm.out]; omega
        rw [show goInt ((m : Nat) : Int) = Value.int .i64 ((m : Nat) : Int) from rfl]
        refine hJ.out _ _ trivial (fun hSy => ?_)
        clear hJ J HG4
        try simp only [Act.put]
        refine wpAnyH_take (i := 8) (v := .int .i64 ((q : Int) + (m : Int))) rfl (by kernel_rfl) (by kernel_rfl) (by kernel_rfl) (fun _ _ _ h => h) (Or.inl ⟨by rfl, fun w_ hSw => by clear hSw; go_simp; rw [IntKind.wrap_i64]; omega⟩) hSy ?_
        try simp only [Act.put]
        refine wpAnyH_ready (rs := [9]) (by kernel_rfl) (by simp) ?_
        refine AllReadyH.cons rfl (fun J hJ => ?_) AllReadyH.nil
        go_simp
        refine hJ.out _ _ trivial (fun _ => ?_)
        clear hJ J
        refine wpAnyH_done (by kernel_rfl) ?_ _
        refine NoPanic.normal ?_
        go_wp2
        go_roundw
        case rel => exact ⟨q + m, by go_num, hm1, fun _ => by omega, hG4, hB4⟩
        case measure => simp [intOf]; omega
    · have hdec : decide ((q : Int) < c) = false := by simp; omega
      obtain rfl : c = q := by omega
      go_wp2
      go_ret
      exact ⟨⟨w.heap.size, rfl, Nat.le_refl _, hG⟩, hB⟩

end Go.Proofs.Ytmaplmgecohjbaa
