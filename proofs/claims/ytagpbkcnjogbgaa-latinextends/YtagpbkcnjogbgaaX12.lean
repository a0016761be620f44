/- The walk of the document's ExtendOf. -/
import Derived.Test.YtagpbkcnjogbgaaX10
namespace Go.Proofs.Ytagpbkcnjogbgaa
open Go.RowKit Go.Maps

theorem run_makeN (n : Nat) (hn : n ≤ 100000000) (w : World) : (Instr.makeSlice 22 (.int .i64 (n : Int)) (.int .i64 (n : Int))).run Try.prog w = .ok (.slice (some ⟨w.heap.size, 0, none⟩) n n) (w.alloc (.cells (madeCells #[.int .i64 0] n) 3)) := by
  obtain ⟨i3, hi, hz0, hz1, hz2⟩ := info3
  have h := run_make (P := Try.prog) w 22 3 i3 (.int .i64 0) und22 hi hz0 .i64 .i64 n n (by omega) (by omega) (by rw [hz2]; omega) (by omega)
  simpa [hz1, Value.cells] using h
theorem take_snocN {l : List Nat} {c : Nat} (h : c < l.length) : l.take (c + 1) = l.take c ++ [l.getD c 0] := by
  rw [List.take_add_one, List.getElem?_eq_getElem h, List.getD_eq_getElem?_getD, List.getElem?_eq_getElem h]; rfl
theorem OnC.sl {w : World} {g z : Nat} {l : List Nat} (h : OnC w g z l) (hl : l.length = z) (cap : Nat) : Sl w (.slice (some ⟨g, 0, none⟩) z cap) (l.map Int.ofNat) := by
  subst hl
  refine ⟨_, cap, by rw [List.length_map], fun j hj => ⟨g, 0, rfl, ?_⟩⟩
  rw [List.length_map] at hj
  rw [Nat.zero_add, h.cell hj hj]
  simp [hj]
theorem OnC.other {w : World} {g z : Nat} {l : List Nat} (h : OnC w g z l) (a : Addr) (v : Value) (hne : g ≠ a.block) : OnC (w.setCell a v) g z l := by
  obtain ⟨f, h1, h2⟩ := h
  exact ⟨f, h1.other a v hne, h2⟩
theorem OnC.drew {w : World} {g z : Nat} {l : List Nat} (h : OnC w g z l) : OnC w.drew g z l := h

set_option maxRecDepth 100000 in
set_option maxHeartbeats 8000000 in
theorem ExtendOf_any (n : Nat) (all : List (List Nat)) (v : Value) (w : World) (h1 : 1 ≤ n) (hn : n ≤ 8) (hv : Rw w v (toI all)) (ha : all.length ≤ n) (hr : ∀ r ∈ all, r.length = n) (hP : Part n all.flatten) :
    Calls Try.prog 17 #[.int .i64 (n : Int), v] w fun e w' => (∃ y, e = .returned (.agg #[.int .i64 (n : Int), y]) ∧ Sl w' y ((goOn n (n - all.length) all).flatten.map Int.ofNat)) ∧ Below w.heap.size w w' := by
  obtain ⟨z, Hz⟩ : ∃ z, Hid (z = n * n) := ⟨_, (rfl : n * n = n * n)⟩
  have hz99 : z ≤ 99 := by rw [Hz.out]; exact Nat.le_trans (Nat.mul_le_mul hn hn) (by decide)
  have hmul : (n : Int) * (n : Int) = (z : Int) := by rw [Hz.out]; simp
  have hmk := run_makeN z (by omega)
  have HF := goOn_fill (m := n - all.length) hr hP (by omega)
  obtain ⟨Z, HZ⟩ : ∃ Z, Hid ((goOn n (n - all.length) all).flatten = Z) := ⟨_, rfl⟩
  rw [HZ.out] at HF ⊢
  have HZl : Hid (Z.length = z) := by
    show _ = _
    rw [← HZ.out, flat_len HF.2.2.1, HF.2.1, Hz.out]
  obtain ⟨F, hFF⟩ : ∃ F, F = all.flatten := ⟨_, rfl⟩
  obtain ⟨m, Hm⟩ : ∃ m, Hid (all.length = m) := ⟨_, rfl⟩
  have Hfl : Hid (F.length = m * n) := by show _ = _; rw [hFF, flat_len hr, Hm.out]
  have HFi : Hid (fillC n ((n - m) * n) F = some Z) := by show _ = _; rw [hFF, ← Hm.out]; exact HF.1
  have hmn : m ≤ n := by rw [← Hm.out]; exact ha
  have HAT : Hid (∀ i j, i < m → j < n → F.getD (i * n + j) 0 = (all.getD i []).getD j 0) := fun i j hi hj => by rw [hFF]; exact flat_at hr (by rw [Hm.out]; exact hi) hj
  have HV : Hid (Rw w v (toI all)) := hv
  obtain ⟨va, vc, ev, _⟩ := hv
  rw [toI_len, Hm.out] at ev
  subst ev
  have HL : Hid (∀ r ∈ all, r.length = n) := hr
  clear HF HZ hFF ha hr hP
  rename_i hjunk
  clear hjunk
  obtain ⟨s, Hs⟩ : ∃ s, Hid (w.heap.size = s) := ⟨_, rfl⟩
  have k0 : ((w.alloc (.cells #[.int .i64 0, .slice none 0 0] 24)).alloc (.cells (madeCells #[.int .i64 0] z) 3)).heap[w.heap.size]? = some (.cells #[.int .i64 0, .slice none 0 0] 24 (0, 0)) := (Below.heap_alloc _ _ _ (by simp)).trans (heap_alloc_new w _)
  have k1 : ((w.alloc (.cells #[.int .i64 0, .slice none 0 0] 24)).alloc (.cells (madeCells #[.int .i64 0] z) 3)).heap[w.heap.size + 1]? = some (.cells (madeCells #[.int .i64 0] z) 3 (0, 0)) := by have := heap_alloc_new (w.alloc (.cells #[.int .i64 0, .slice none 0 0] 24)) (.cells (madeCells #[.int .i64 0] z) 3); simpa using this
  have K0 : Hid (((w.alloc (.cells #[.int .i64 0, .slice none 0 0] 24)).alloc (.cells (madeCells #[.int .i64 0] z) 3)).heap[w.heap.size]? = some (.cells #[.int .i64 0, .slice none 0 0] 24 (0, 0))) := k0
  have K1 : Hid (OnC ((w.alloc (.cells #[.int .i64 0, .slice none 0 0] 24)).alloc (.cells (madeCells #[.int .i64 0] z) 3)) (w.heap.size + 1) z (F.take 0)) := ⟨fun _ => 0, ⟨_, k1, fun j hj => by simp [madeCells, hj, Nat.mod_one]⟩, fun j hj => by simp at hj⟩
  clear k0 k1
  go_enter Try.func17, Try.ntmps17
  go_wp2
  go_loopw [6] (fun i_ wr => ∃ i k : Nat, i_ = .int .i64 (i : Int) ∧ i ≤ m ∧ Hid (k = i * n) ∧ Hid (OnC wr (w.heap.size + 1) z (F.take k)) ∧ wr.heap[w.heap.size]? = some (.cells #[.int .i64 0, .slice none 0 0] 24 (0, 0)) ∧ Below w.heap.size w wr) (fun i _ => (m - intOf i).toNat)
  case atStart => exact ⟨0, 0, rfl, by omega, (by omega : 0 = 0 * n), K1, K0.out, Below.next (balloc _ _) (balloc _ _)⟩
  case round =>
    clear K0 K1
    obtain ⟨i, k, rfl, hi, Hk, HO, hS, hB⟩ := hrel
    by_cases hlt : i < m
    · have hdi : decide ((i : Int) < (m : Int)) = true := by simp; omega
      obtain ⟨p, Hp⟩ : ∃ p, Hid (i * n = p) := ⟨_, rfl⟩
      have hp99 : p ≤ 99 := by rw [← Hp.out]; have := Nat.mul_le_mul (Nat.le_trans (Nat.le_of_lt hlt) (Nat.le_trans hmn hn)) hn; omega
      have hmi : (i : Int) * (n : Int) = (p : Int) := by rw [← Hp.out]; simp
      go_wp2
      go_loopw [7] (fun j_ wr => ∃ j k : Nat, j_ = .int .i64 (j : Int) ∧ j ≤ n ∧ Hid (k = p + j) ∧ Hid (OnC wr (w.heap.size + 1) z (F.take k)) ∧ wr.heap[w.heap.size]? = some (.cells #[.int .i64 0, .slice none 0 0] 24 (0, 0)) ∧ Below w.heap.size w wr) (fun j _ => (n - intOf j).toNat)
      case atStart => exact ⟨0, k, rfl, by omega, (by rw [Hk.out, Hp.out]; rfl : k = p + 0), HO, hS, hB⟩
      case round =>
        clear HO hS hB Hk
        obtain ⟨j, k, rfl, hj, Hk, HO, hS, hB⟩ := hrel
        by_cases hlj : j < n
        · have hdj : decide ((j : Int) < (n : Int)) = true := by simp; omega
          have hpj : (p : Int) + (j : Int) = (k : Int) := by rw [Hk.out]; simp
          have hkF : k < F.length := by rw [Hk.out, ← Hp.out, Hfl.out]; exact cell_lt hlt hlj
          have hkz : k < z := by
            have h2 : m * n ≤ n * n := Nat.mul_le_mul_right n hmn
            rw [← Hz.out, ← Hfl.out] at h2
            omega
          have hki : (k : Int) < (z : Int) := by omega
          have hii : (i : Int) < (m : Int) := by omega
          have hji : (j : Int) < (n : Int) := by omega
          have hrl : i < all.length := by rw [Hm.out]; exact hlt
          have hrow : (all.getD i []).length = n := HL.out _ (by rw [List.getD_eq_getElem?_getD, List.getElem?_eq_getElem hrl]; exact List.getElem_mem hrl)
          obtain ⟨a', c', e', hcs⟩ := HV.out.below hB
          simp only [Value.slice.injEq] at e'
          obtain ⟨rfl, -, rfl⟩ := e'
          obtain ⟨b1, o1, u, rfl, q1, hs⟩ := hcs i ((all.getD i []).map Int.ofNat) (by unfold toI; rw [List.getElem?_map, List.getElem?_eq_getElem hrl, List.getD_eq_getElem?_getD, List.getElem?_eq_getElem hrl]; rfl)
          obtain ⟨b2, o2, c2, rfl, q2, q3⟩ := hs.form (n := n) (by rw [List.length_map]; exact hrow) (by omega)
          have q4 := q3 j hlj
          have hx : ((all.getD i []).map Int.ofNat).getD j 0 = ((F.getD k 0 : Nat) : Int) := by
            rw [Hk.out, ← Hp.out, HAT.out i j hlt hlj]
            have : j < (all.getD i []).length := by rw [hrow]; exact hlj
            generalize all.getD i [] = q at *
            simp [this]
          rw [hx] at q4
          have hlen : (F.take k).length = k := by rw [List.length_take]; omega
          have hO2 := HO.out.snoc (F.getD k 0)
          rw [← take_snocN hkF, hlen] at hO2
          obtain ⟨⟨old, ho1⟩, ho2⟩ := HO.out.any hkz
          obtain ⟨x, Hx⟩ : ∃ x, Hid (F.getD k 0 = x) := ⟨_, rfl⟩
          rw [Hx.out] at q4 hO2
          have HO2 : Hid (OnC (wr.setCell ⟨w.heap.size + 1, k, none⟩ (.int .i64 (x : Int))) (w.heap.size + 1) z (F.take (k + 1))) := hO2
          have Hk2 : Hid (k + 1 = p + (j + 1)) := by show _ = _; rw [Hk.out]; omega
          have hB2 := hB.setCell (p := ⟨w.heap.size + 1, k, none⟩) (by show w.heap.size ≤ w.heap.size + 1; omega) (.int .i64 (x : Int))
          have hS2 := (heap_setCell_other wr ⟨w.heap.size + 1, k, none⟩ w.heap.size (.int .i64 (x : Int)) (by show w.heap.size ≠ w.heap.size + 1; omega)).trans hS
          clear hcs q3 hs hx hlen hO2 hrow HO Hk
          go_wp2
          go_roundw
          case rel => exact ⟨j + 1, k + 1, by go_num, by omega, Hk2, HO2, hS2, hB2⟩
          case measure => simp [intOf]; omega
        · have hdj : decide ((j : Int) < (n : Int)) = false := by simp; omega
          obtain rfl : j = n := by omega
          have Hk2 : Hid (k = (i + 1) * j) := by show _ = _; rw [Hk.out, ← Hp.out, Nat.add_mul]; omega
          clear Hk
          go_wp2
          go_roundw
          case rel => exact ⟨i + 1, k, by go_num, by omega, Hk2, HO, hS, hB⟩
          case measure => simp [intOf]; omega
    · have hdi : decide ((i : Int) < (m : Int)) = false := by simp; omega
      obtain rfl : i = m := by omega
      have hkF : F.length = k := by rw [Hfl.out, Hk.out]
      have hkm : (i : Int) * (n : Int) = (k : Int) := by rw [Hk.out]; simp
      have hk99 : k ≤ 99 := by
        have h2 : i * n ≤ n * n := Nat.mul_le_mul_right n hmn
        rw [← Hz.out, ← Hk.out] at h2
        omega
      have hO2 := HO.out
      rw [List.take_of_length_le (by omega)] at hO2
      have D := on_any n (w.heap.size + 1) z h1 hn Hz ((n - i) * n) F wr (by
        rw [Hfl.out, Hz.out, ← Nat.add_mul, Nat.add_sub_cancel' hmn]) hO2
      rw [HFi.out, hkF] at D
      have HD : Hid (Calls Try.prog 30 #[.int .i64 (n : Int), .slice (some ⟨w.heap.size + 1, 0, none⟩) z z, .int .i64 (k : Int)] wr fun e w' => e = .returned (.bool true) ∧ Hid (OnC w' (w.heap.size + 1) z Z) ∧ w'.heap[w.heap.size]? = some (.cells #[.int .i64 0, .slice none 0 0] 24 (0, 0)) ∧ Below w.heap.size w w') := D.mono fun e w' h => ⟨(h.1.2 Z rfl).1, (h.1.2 Z rfl).2, (h.2.2.block w.heap.size (Array.getElem?_eq_some_iff.1 hS).1 (by simp)).trans hS, ⟨h.2.2.os.trans hB.os, h.2.2.tape.trans hB.tape, h.2.2.output.trans hB.output, Nat.le_trans hB.size h.2.2.size, fun j hj => (h.2.2.block j (Nat.lt_of_lt_of_le hj hB.size) (by simp; omega)).trans (hB.block j hj)⟩⟩
      clear D hO2 HO hkF Hk hdi
      go_wp2_with (go_at_call 30; refine HD.out.mono ?_; rintro e w5 ⟨rfl, hZ5, hS5, hB5⟩; have y0 : w5.cell? ⟨w.heap.size, 0, none⟩ = some (.int .i64 0) := (by rw [cell_of_row _ _ _ _ _ _ hS5]; rfl); have y1 : w5.cell? ⟨w.heap.size, 1, none⟩ = some (.slice none 0 0) := (by rw [cell_of_row _ _ _ _ _ _ hS5]; rfl); have g0 := frozen_of_row w5 w.heap.size 0 _ _ hS5; have g1 := frozen_of_row w5 w.heap.size 1 _ _ hS5)
      have hn1 := heap_setCell_same w5 w.heap.size 0 _ _ (.int .i64 (n : Int)) hS5
      have hn2 := heap_setCell_same _ w.heap.size 1 _ _ (.slice (some ⟨w.heap.size + 1, 0, none⟩) z z) hn1
      have hZ6 := (hZ5.out.other ⟨w.heap.size, 0, none⟩ (.int .i64 (n : Int)) (by show w.heap.size + 1 ≠ w.heap.size; omega)).other ⟨w.heap.size, 1, none⟩ (.slice (some ⟨w.heap.size + 1, 0, none⟩) z z) (by show w.heap.size + 1 ≠ w.heap.size; omega)
      exact post_sq 4 Try.results17 rfl hn2 rfl ⟨⟨_, rfl, hZ6.sl HZl.out z⟩, (hB5.setCell (Nat.le_refl _) _).setCell (Nat.le_refl _) _⟩
end Go.Proofs.Ytagpbkcnjogbgaa
