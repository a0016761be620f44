/- The walk of the document's ConjugateOf. -/
import Derived.Test.YtagpbkcnjogbgaaDoorCg
import Derived.Test.YtagpbkcnjogbgaaDoorL5
namespace Go.Proofs.YtagpbkcnjogbgaaDoor
open Go.RowKit

theorem run_make3 (n : Nat) (hn : n ≤ 100000000) (w : World) : (Instr.makeSlice 22 (.int .i64 (n : Int)) (.int .i64 (n : Int))).run Tryd.prog w = .ok (.slice (some ⟨w.heap.size, 0, none⟩) n n) (w.alloc (.cells (madeCells #[.int .i64 0] n) 3)) := by
  obtain ⟨i3, hi, hz0, hz1, hz2⟩ := info3
  have h := run_make (P := Tryd.prog) w 22 3 i3 (.int .i64 0) und22 hi hz0 .i64 .i64 n n (by omega) (by omega) (by rw [hz2]; omega) (by omega)
  simpa [hz1, Value.cells] using h
theorem own_made (w : World) (n : Nat) : Own (w.alloc (.cells (madeCells #[.int .i64 0] n) 3)) w.heap.size n (fun _ => 0) := by
  refine ⟨_, heap_alloc_new w _, fun j hj => ?_⟩
  rw [Array.getElem?_eq_getElem (by rw [size_madeCells]; exact hj)]
  simp [madeCells, Nat.mod_one]
/-- What the document has laid, so far. -/
def CjD (n : Nat) (s : Nat → Nat → Nat) (k m : Nat) (e : Nat → Int) : Prop := ∀ i, i < m → e (cA k (i / n) (i % n) (s (i / n) (i % n)) * n + cB k (i / n) (i % n) (s (i / n) (i % n))) = (cD k (i / n) (i % n) (s (i / n) (i % n)) : Int)
theorem CjD.step {n : Nat} {s : Nat → Nat → Nat} {k m : Nat} {e : Nat → Int} (L : Lat n s) (hk : k ≤ 5) (hn : 0 < n) (h : CjD n s k m e) (hm : m < n * n) {p : Nat} {d : Int} (hp : p = cA k (m / n) (m % n) (s (m / n) (m % n)) * n + cB k (m / n) (m % n) (s (m / n) (m % n))) (hd : d = (cD k (m / n) (m % n) (s (m / n) (m % n)) : Int)) : CjD n s k (m + 1) (upd e p d) := fun i hi => by
  have mr : ∀ i, i < n * n → i / n < n ∧ i % n < n := fun i hi => ⟨Nat.div_lt_of_lt_mul hi, Nat.mod_lt _ hn⟩
  unfold upd
  by_cases ei : i = m
  · subst ei
    rw [if_pos hp.symm, hd]
  · rw [if_neg, h i (by omega)]
    intro e2
    rw [hp] at e2
    obtain ⟨a1, a2⟩ := mr i (by omega)
    obtain ⟨b1, b2⟩ := mr m hm
    have l1 := cj_lt (k := k) a1 a2 (L.lt _ _ a1 a2)
    have l2 := cj_lt (k := k) b1 b2 (L.lt _ _ b1 b2)
    have d1 := divmod (i := cA k (i / n) (i % n) (s (i / n) (i % n))) l1.2.1
    have d2 := divmod (i := cA k (m / n) (m % n) (s (m / n) (m % n))) l2.2.1
    rw [e2] at d1
    have := cj_inj L hk a1 a2 b1 b2 (d1.1.symm.trans d2.1) (d1.2.symm.trans d2.2)
    have e1 : i / n * n + i % n = i := Nat.div_add_mod' i n
    have e3 : m / n * n + m % n = m := Nat.div_add_mod' m n
    rw [this.1, this.2, e3] at e1
    exact ei e1.symm
theorem CjD.all {n : Nat} {s : Nat → Nat → Nat} {k : Nat} {e : Nat → Int} (L : Lat n s) (hk : k ≤ 5) (hn : 0 < n) (h : CjD n s k (n * n) e) : Cj n s k (fun i j => (e (i * n + j)).toNat) ∧ (List.range (n * n)).map e = (flN n (fun i j => (e (i * n + j)).toNat) (n * n)).map Int.ofNat := by
  have key : ∀ r c, r < n → c < n → e (cA k r c (s r c) * n + cB k r c (s r c)) = (cD k r c (s r c) : Int) := fun r c hr hc => by
    have := h (r * n + c) (cell_lt hr hc)
    rw [(divmod hc).1, (divmod hc).2] at this
    exact this
  refine ⟨fun r c hr hc => ?_, ?_⟩
  · show (e _).toNat = _
    rw [key r c hr hc]; simp
  · unfold flN
    rw [List.map_map]
    apply List.map_congr_left
    intro p hp
    have hp := List.mem_range.1 hp
    have hi : p / n < n := Nat.div_lt_of_lt_mul hp
    have hj : p % n < n := Nat.mod_lt _ hn
    obtain ⟨r, c, hr, hc, e1, e2⟩ := cj_onto L hk hi hj
    have e3 : p / n * n + p % n = p := Nat.div_add_mod' p n
    have := key r c hr hc
    rw [e1, e2, e3] at this
    show e p = ((e (p / n * n + p % n)).toNat : Int)
    rw [e3, this]; simp

set_option maxRecDepth 100000 in
set_option maxHeartbeats 8000000 in
theorem ConjugateOf_any (n k : Nat) (L : List Int) (v : Value) (w : World) (hv : Sl w v L) (G : GoodS n L) (hk : k ≤ 5) :
    Calls Tryd.prog 9 #[.agg #[.int .i64 (n : Int), v], .int .i64 (k : Int)] w fun e w' => (∃ y t, e = .returned (.agg #[.int .i64 (n : Int), y]) ∧ Cj n (sq n L) k t ∧ Sl w' y ((flN n t (n * n)).map Int.ofNat)) ∧ Below w.heap.size w w' := by
  have hpos : 0 < n * n := Nat.mul_pos G.pos G.pos
  have hn1 := G.pos
  have hn8 := G.le
  obtain ⟨a, off, cap, rfl, ha, hcell⟩ := hv.form G.len hpos
  obtain ⟨z, hz⟩ : ∃ z, z = n * n := ⟨_, rfl⟩
  have HZ : Hid (z = n * n) := hz
  have hz99 : z ≤ 99 := by rw [hz]; exact Nat.le_trans (Nat.mul_le_mul hn8 hn8) (by decide)
  obtain ⟨s, Hs⟩ : ∃ s, Hid (sq n L = s) := ⟨_, rfl⟩
  have HLS : Hid (Lat n s) := by rw [← Hs.out]; exact G.lat
  have HC : Hid (∀ m, m < z → w.cell? ⟨a, off + m, none⟩ = some (.int .i64 (s (m / n) (m % n) : Int))) := fun m hm => by
    rw [hz] at hm
    have hi : m / n < n := Nat.div_lt_of_lt_mul hm
    have hj : m % n < n := Nat.mod_lt _ hn1
    have e3 : m / n * n + m % n = m := Nat.div_add_mod' m n
    have := G.val hi hj
    rw [e3, Hs.out] at this
    rw [hcell m hm, this]
  rw [← hz, Hs.out]
  have hmk := run_make3 z (by omega)
  have hnn : ¬ n = 0 := by omega
  have hn0 : (n : Int) ≠ 0 := by omega
  have hnp : (0 : Int) < n := by omega
  obtain ⟨f1, f2, hsz, hb⟩ := two_sq n (.slice (some ⟨a, off, none⟩) z cap) w
  clear hv G hcell hz hpos
  go_enter Tryd.func9, Tryd.ntmps9
  go_wp2_with fail
  obtain ⟨w3, hw3⟩ : ∃ w3, w3 = (w.alloc (.cells #[.int .i64 (n : Int), .slice (some ⟨a, off, none⟩) z cap] 24)).alloc (.cells #[.int .i64 0, .slice none 0 0] 24) := ⟨_, rfl⟩
  rw [← hw3] at f1 f2 hsz hb ⊢
  clear hw3
  have x0 : w3.cell? ⟨w.heap.size, 0, none⟩ = some (.int .i64 (n : Int)) := by rw [cell_of_row _ _ _ _ _ _ f1]; rfl
  have x1 : w3.cell? ⟨w.heap.size, 1, none⟩ = some (.slice (some ⟨a, off, none⟩) z cap) := by rw [cell_of_row _ _ _ _ _ _ f1]; rfl
  have SS : Hid (∀ W, Below w3.heap.size w3 W → W.cell? ⟨w.heap.size, 0, none⟩ = some (.int .i64 (n : Int)) ∧ W.cell? ⟨w.heap.size, 1, none⟩ = some (.slice (some ⟨a, off, none⟩) z cap)) := fun W bW => by
    have kk : ∀ o, W.cell? ⟨w.heap.size, o, none⟩ = w3.cell? ⟨w.heap.size, o, none⟩ := fun o => bW.cell (p := ⟨w.heap.size, o, none⟩) (by show w.heap.size < w3.heap.size; omega)
    exact ⟨(kk 0).trans x0, (kk 1).trans x1⟩
  have HSZ : Hid (w3.heap.size = w.heap.size + 1 + 1) := hsz
  clear x0 x1 hsz
  refine wp_region_noPanic ?_
  refine wp_region_held_drew (S := fun w' => w'.cell? ⟨w.heap.size, 0, none⟩ = some (.int .i64 (n : Int)) ∧ w'.cell? ⟨w.heap.size, 1, none⟩ = some (.slice (some ⟨a, off, none⟩) z cap)) (by kernel_rfl) (SS.out _ (Below.refl _ w3).drew) (fun hSx => ?_)
  refine wpAnyH_take (i := 0) (v := .pointer (some ⟨w.heap.size, 0, none⟩)) rfl (by kernel_rfl) (by kernel_rfl) (by kernel_rfl) (fun _ _ _ h => h) (Or.inl ⟨by rfl, fun w' hSw => by (try dsimp only at hSw); go_simp⟩) hSx ?_
  try simp only [Act.put, List.setIfInBounds_toArray]
  refine wpAnyH_take (i := 1) (v := .int .i64 (n : Int)) rfl (by kernel_rfl) (by kernel_rfl) (by kernel_rfl) (fun _ _ _ h => h) (Or.inl ⟨by rfl, fun w' hSw => by have hSw1 := hSw.1; go_simp⟩) hSx ?_
  try simp only [Act.put]
  refine wpAnyH_take (i := 2) (v := .pointer (some ⟨w.heap.size, 1, none⟩)) rfl (by kernel_rfl) (by kernel_rfl) (by kernel_rfl) (fun _ _ _ h => h) (Or.inl ⟨by rfl, fun w' hSw => by (try dsimp only at hSw); go_simp⟩) hSx ?_
  try simp only [Act.put]
  refine wpAnyH_take (i := 3) (v := .slice (some ⟨a, off, none⟩) z cap) rfl (by kernel_rfl) (by kernel_rfl) (by kernel_rfl) (fun _ _ _ h => h) (Or.inl ⟨by rfl, fun w' hSw => by have hSw1 := hSw.2; go_simp⟩) hSx ?_
  try simp only [Act.put]
  refine wpAnyH_take (i := 4) (v := .int .i64 (z : Int)) rfl (by kernel_rfl) (by kernel_rfl) (by kernel_rfl) (fun _ _ _ h => h) (Or.inl ⟨by rfl, fun w' hSw => by (try dsimp only at hSw); go_simp⟩) hSx ?_
  try simp only [Act.put]
  refine wpAnyH_ready (rs := [5, 7]) (by kernel_rfl) (by simp) ?_
  refine AllReadyH.cons rfl (fun J hJ => ?_) (AllReadyH.cons rfl (fun J hJ => ?_) AllReadyH.nil)
  · go_simp
    refine hJ.out _ _ (SS.out (w3.drew.alloc (.cells (madeCells #[.int .i64 0] z) 3)) (Below.next (Below.refl _ w3).drew (balloc _ _))) (fun hSy => ?_)
    clear hJ J
    try simp only [Act.put, List.setIfInBounds_toArray, List.set_cons_zero, List.set_cons_succ]
    refine wpAnyH_take (i := 6) (v := .agg #[.int .i64 (n : Int), .slice (some ⟨w3.heap.size, 0, none⟩) z z]) rfl (by kernel_rfl) (by kernel_rfl) (by kernel_rfl) (fun _ _ _ h => h) (Or.inl ⟨by rfl, fun w' hSw => by (try dsimp only at hSw); go_simp⟩) hSy ?_
    try simp only [Act.put, List.setIfInBounds_toArray]
    refine wpAnyH_ready (rs := [7]) (by kernel_rfl) (by simp) ?_
    refine AllReadyH.cons rfl (fun J hJ => ?_) AllReadyH.nil
    go_simp
    refine hJ.out _ _ (SS.out ((w3.drew.alloc (.cells (madeCells #[.int .i64 0] z) 3)).alloc (.cells #[.int .i64 0, .slice none 0 0] 24)) (Below.next (Below.next (Below.refl _ w3).drew (balloc _ _)) (balloc _ _))) (fun _ => ?_)
    clear hJ J
    try simp only [Act.put, List.setIfInBounds_toArray, List.set_cons_zero, List.set_cons_succ]
    refine wpAnyH_ready (rs := [8]) (by kernel_rfl) (by simp) ?_
    refine AllReadyH.cons rfl (fun J hJ => ?_) AllReadyH.nil
    go_simp
    refine hJ.out _ _ (SS.out ((w3.alloc (.cells (madeCells #[.int .i64 0] z) 3)).alloc (.cells #[.int .i64 (n : Int), .slice (some ⟨w3.heap.size, 0, none⟩) z z] 24)).drew (Below.next (balloc _ _) (balloc _ _)).drew) (fun _ => ?_)
    clear hJ J
    try simp only [Act.put, List.setIfInBounds_toArray, List.set_cons_zero, List.set_cons_succ]
    refine wpAnyH_done (by kernel_rfl) ?_ _
    refine NoPanic.normal ?_
    have hsz := HSZ.out
    obtain ⟨M, hM⟩ : ∃ T, T = w3.heap.size := ⟨_, rfl⟩
    obtain ⟨O, hO⟩ : ∃ T, T = w3.heap.size + 1 := ⟨_, rfl⟩
    obtain ⟨W, hW⟩ : ∃ W, W = ((w3.alloc (.cells (madeCells #[.int .i64 0] z) 3)).alloc (.cells #[.int .i64 (n : Int), .slice (some ⟨w3.heap.size, 0, none⟩) z z] 24)).drew := ⟨_, rfl⟩
    have bW : Below w3.heap.size w3 W := by rw [hW]; exact (Below.next (balloc _ _) (balloc _ _)).drew
    have hOc : W.heap[O]? = some (.cells #[.int .i64 (n : Int), .slice (some ⟨M, 0, none⟩) z z] 24 (0, 0)) := by rw [hW, hO, hM]; exact two_new2 _ _ _ _
    have hMh : W.heap[M]? = some (.cells (madeCells #[.int .i64 0] z) 3 (0, 0)) := by rw [hW, hM]; exact two_new1 _ _ _ _
    have hOw : Own W M z (fun _ => 0) := ⟨_, hMh, fun j hj => by
      rw [Array.getElem?_eq_getElem (by rw [size_madeCells]; exact hj)]
      simp [madeCells, Nat.mod_one]⟩
    have hm1 : w.heap.size + 1 < M := by omega
    have hm2 : w.heap.size + 1 < O := by omega
    have hm3 : M ≠ O := by omega
    rw [← hW, ← hO, ← hM]
    replace f1 := (bW.block _ (by omega)).trans f1
    replace f2 := (bW.block _ (by omega)).trans f2
    replace hb := Below.next hb bW
    clear hW hM hO bW SS hSx hsz hmk hMh
    go_wp2
    go_loopw [6] (fun i_ wr => ∃ (m : Nat) (e : Nat → Int), i_ = .int .i64 (m : Int) ∧ m ≤ z ∧ Hid (CjD n s k m e) ∧ Own wr M z e ∧ wr.heap[O]? = some (.cells #[.int .i64 (n : Int), .slice (some ⟨M, 0, none⟩) z z] 24 (0, 0)) ∧ wr.heap[w.heap.size]? = some (.cells #[.int .i64 (n : Int), .slice (some ⟨a, off, none⟩) z cap] 24 (0, 0)) ∧ wr.heap[w.heap.size + 1]? = some (.cells #[.int .i64 0, .slice none 0 0] 24 (0, 0)) ∧ Below w.heap.size w wr) (fun i _ => (z - intOf i).toNat)
    case atStart => exact ⟨0, _, rfl, by omega, (fun i h => by omega : CjD n s k 0 _), hOw, hOc, f1, f2, hb⟩
    case round =>
      clear hOw hOc f1 f2 hb
      obtain ⟨m, e, rfl, hm, HI, hOw, hOc, f1, f2, hb⟩ := hrel
      have x0 : wr.cell? ⟨w.heap.size, 0, none⟩ = some (.int .i64 (n : Int)) := by rw [cell_of_row _ _ _ _ _ _ f1]; rfl
      have x1 : wr.cell? ⟨w.heap.size, 1, none⟩ = some (.slice (some ⟨a, off, none⟩) z cap) := by rw [cell_of_row _ _ _ _ _ _ f1]; rfl
      have y0 : wr.cell? ⟨O, 0, none⟩ = some (.int .i64 (n : Int)) := by rw [cell_of_row _ _ _ _ _ _ hOc]; rfl
      have y1 : wr.cell? ⟨O, 1, none⟩ = some (.slice (some ⟨M, 0, none⟩) z z) := by rw [cell_of_row _ _ _ _ _ _ hOc]; rfl
      by_cases hlt : m < z
      · have hdm : decide ((m : Int) < (z : Int)) = true := by simp; omega
        have hmi : (m : Int) < z := by omega
        have hm0 : (0 : Int) ≤ (m : Int) := by omega
        have hcm := (hb.cell (p := ⟨a, off + m, none⟩) ha).trans (HC.out m hlt)
        have hrn : m / n < n := Nat.div_lt_of_lt_mul (by rw [← HZ.out]; exact hlt)
        have hcn : m % n < n := Nat.mod_lt _ hn1
        have hxn := HLS.out.lt _ _ hrn hcn
        have hdiv : (m : Int) / (n : Int) = ((m / n : Nat) : Int) := by simp
        have hmod : (m : Int) % (n : Int) = ((m % n : Nat) : Int) := by simp
        have hst : ∀ {p : Nat} {d : Int}, p = cA k (m / n) (m % n) (s (m / n) (m % n)) * n + cB k (m / n) (m % n) (s (m / n) (m % n)) → d = (cD k (m / n) (m % n) (s (m / n) (m % n)) : Int) → CjD n s k (m + 1) (upd e p d) := fun hp hd => HI.out.step HLS.out hk hn1 (by rw [← HZ.out]; exact hlt) hp hd
        generalize s (m / n) (m % n) = x at *
        generalize m / n = r at *
        generalize m % n = c at *
        have HST : Hid (∀ {p : Nat} {d : Int}, p = cA k r c x * n + cB k r c x → d = (cD k r c x : Int) → CjD n s k (m + 1) (upd e p d)) := hst
        have hr8 : r < 8 := by omega
        have hc8 : c < 8 := by omega
        have hx8 : x < 8 := by omega
        clear hst HI
        rcases (show k = 0 ∨ k = 1 ∨ k = 2 ∨ k = 3 ∨ k = 4 ∨ k = 5 by omega) with rfl | rfl | rfl | rfl | rfl | rfl
        · obtain ⟨q, hq⟩ : ∃ q, q = r * n := ⟨_, rfl⟩
          obtain ⟨p, hp⟩ : ∃ p, p = q + c := ⟨_, rfl⟩
          have hpz : p < z := by rw [hp, hq, HZ.out]; exact cell_lt (by omega) (by omega)
          have HIk : Hid (CjD n s 0 (m + 1) (upd e p (x : Int))) := HST.out (by rw [hp, hq]; rfl) rfl
          have hmul : (r : Int) * (n : Int) = (q : Int) := by rw [hq]; simp
          have hadd : (q : Int) + (c : Int) = (p : Int) := by omega
          have hq99 : q ≤ 99 := by omega
          have hpi : (p : Int) < z := by omega
          have cp := hOw.cell p hpz
          have fp := hOw.frozen p
          clear HST hq hp
          go_wp2
          go_roundw
          case rel =>
            have o8 : ∀ j, j ≠ M → (wr.setCell ⟨M, p, none⟩ (.int .i64 (x : Int))).heap[j]? = wr.heap[j]? := fun j hj => heap_setCell_other _ _ _ _ hj
            exact ⟨m + 1, _, by go_num, by omega, HIk, hOw.set p (x : Int), (o8 O (fun h => hm3 h.symm)).trans hOc, (o8 _ (by omega)).trans f1, (o8 _ (by omega)).trans f2, hb.setCell (by show w.heap.size ≤ M; omega) _⟩
          case measure => simp [intOf]; omega
        · obtain ⟨q, hq⟩ : ∃ q, q = r * n := ⟨_, rfl⟩
          obtain ⟨p, hp⟩ : ∃ p, p = q + x := ⟨_, rfl⟩
          have hpz : p < z := by rw [hp, hq, HZ.out]; exact cell_lt (by omega) (by omega)
          have HIk : Hid (CjD n s 1 (m + 1) (upd e p (c : Int))) := HST.out (by rw [hp, hq]; rfl) rfl
          have hmul : (r : Int) * (n : Int) = (q : Int) := by rw [hq]; simp
          have hadd : (q : Int) + (x : Int) = (p : Int) := by omega
          have hq99 : q ≤ 99 := by omega
          have hpi : (p : Int) < z := by omega
          have cp := hOw.cell p hpz
          have fp := hOw.frozen p
          clear HST hq hp
          go_wp2
          go_roundw
          case rel =>
            have o8 : ∀ j, j ≠ M → (wr.setCell ⟨M, p, none⟩ (.int .i64 (c : Int))).heap[j]? = wr.heap[j]? := fun j hj => heap_setCell_other _ _ _ _ hj
            exact ⟨m + 1, _, by go_num, by omega, HIk, hOw.set p (c : Int), (o8 O (fun h => hm3 h.symm)).trans hOc, (o8 _ (by omega)).trans f1, (o8 _ (by omega)).trans f2, hb.setCell (by show w.heap.size ≤ M; omega) _⟩
          case measure => simp [intOf]; omega
        · obtain ⟨q, hq⟩ : ∃ q, q = c * n := ⟨_, rfl⟩
          obtain ⟨p, hp⟩ : ∃ p, p = q + r := ⟨_, rfl⟩
          have hpz : p < z := by rw [hp, hq, HZ.out]; exact cell_lt (by omega) (by omega)
          have HIk : Hid (CjD n s 2 (m + 1) (upd e p (x : Int))) := HST.out (by rw [hp, hq]; rfl) rfl
          have hmul : (c : Int) * (n : Int) = (q : Int) := by rw [hq]; simp
          have hadd : (q : Int) + (r : Int) = (p : Int) := by omega
          have hq99 : q ≤ 99 := by omega
          have hpi : (p : Int) < z := by omega
          have cp := hOw.cell p hpz
          have fp := hOw.frozen p
          clear HST hq hp
          go_wp2
          go_roundw
          case rel =>
            have o8 : ∀ j, j ≠ M → (wr.setCell ⟨M, p, none⟩ (.int .i64 (x : Int))).heap[j]? = wr.heap[j]? := fun j hj => heap_setCell_other _ _ _ _ hj
            exact ⟨m + 1, _, by go_num, by omega, HIk, hOw.set p (x : Int), (o8 O (fun h => hm3 h.symm)).trans hOc, (o8 _ (by omega)).trans f1, (o8 _ (by omega)).trans f2, hb.setCell (by show w.heap.size ≤ M; omega) _⟩
          case measure => simp [intOf]; omega
        · obtain ⟨q, hq⟩ : ∃ q, q = c * n := ⟨_, rfl⟩
          obtain ⟨p, hp⟩ : ∃ p, p = q + x := ⟨_, rfl⟩
          have hpz : p < z := by rw [hp, hq, HZ.out]; exact cell_lt (by omega) (by omega)
          have HIk : Hid (CjD n s 3 (m + 1) (upd e p (r : Int))) := HST.out (by rw [hp, hq]; rfl) rfl
          have hmul : (c : Int) * (n : Int) = (q : Int) := by rw [hq]; simp
          have hadd : (q : Int) + (x : Int) = (p : Int) := by omega
          have hq99 : q ≤ 99 := by omega
          have hpi : (p : Int) < z := by omega
          have cp := hOw.cell p hpz
          have fp := hOw.frozen p
          clear HST hq hp
          go_wp2
          go_roundw
          case rel =>
            have o8 : ∀ j, j ≠ M → (wr.setCell ⟨M, p, none⟩ (.int .i64 (r : Int))).heap[j]? = wr.heap[j]? := fun j hj => heap_setCell_other _ _ _ _ hj
            exact ⟨m + 1, _, by go_num, by omega, HIk, hOw.set p (r : Int), (o8 O (fun h => hm3 h.symm)).trans hOc, (o8 _ (by omega)).trans f1, (o8 _ (by omega)).trans f2, hb.setCell (by show w.heap.size ≤ M; omega) _⟩
          case measure => simp [intOf]; omega
        · obtain ⟨q, hq⟩ : ∃ q, q = x * n := ⟨_, rfl⟩
          obtain ⟨p, hp⟩ : ∃ p, p = q + r := ⟨_, rfl⟩
          have hpz : p < z := by rw [hp, hq, HZ.out]; exact cell_lt (by omega) (by omega)
          have HIk : Hid (CjD n s 4 (m + 1) (upd e p (c : Int))) := HST.out (by rw [hp, hq]; rfl) rfl
          have hmul : (x : Int) * (n : Int) = (q : Int) := by rw [hq]; simp
          have hadd : (q : Int) + (r : Int) = (p : Int) := by omega
          have hq99 : q ≤ 99 := by omega
          have hpi : (p : Int) < z := by omega
          have cp := hOw.cell p hpz
          have fp := hOw.frozen p
          clear HST hq hp
          go_wp2
          go_roundw
          case rel =>
            have o8 : ∀ j, j ≠ M → (wr.setCell ⟨M, p, none⟩ (.int .i64 (c : Int))).heap[j]? = wr.heap[j]? := fun j hj => heap_setCell_other _ _ _ _ hj
            exact ⟨m + 1, _, by go_num, by omega, HIk, hOw.set p (c : Int), (o8 O (fun h => hm3 h.symm)).trans hOc, (o8 _ (by omega)).trans f1, (o8 _ (by omega)).trans f2, hb.setCell (by show w.heap.size ≤ M; omega) _⟩
          case measure => simp [intOf]; omega
        · obtain ⟨q, hq⟩ : ∃ q, q = x * n := ⟨_, rfl⟩
          obtain ⟨p, hp⟩ : ∃ p, p = q + c := ⟨_, rfl⟩
          have hpz : p < z := by rw [hp, hq, HZ.out]; exact cell_lt (by omega) (by omega)
          have HIk : Hid (CjD n s 5 (m + 1) (upd e p (r : Int))) := HST.out (by rw [hp, hq]; rfl) rfl
          have hmul : (x : Int) * (n : Int) = (q : Int) := by rw [hq]; simp
          have hadd : (q : Int) + (c : Int) = (p : Int) := by omega
          have hq99 : q ≤ 99 := by omega
          have hpi : (p : Int) < z := by omega
          have cp := hOw.cell p hpz
          have fp := hOw.frozen p
          clear HST hq hp
          go_wp2
          go_roundw
          case rel =>
            have o8 : ∀ j, j ≠ M → (wr.setCell ⟨M, p, none⟩ (.int .i64 (r : Int))).heap[j]? = wr.heap[j]? := fun j hj => heap_setCell_other _ _ _ _ hj
            exact ⟨m + 1, _, by go_num, by omega, HIk, hOw.set p (r : Int), (o8 O (fun h => hm3 h.symm)).trans hOc, (o8 _ (by omega)).trans f1, (o8 _ (by omega)).trans f2, hb.setCell (by show w.heap.size ≤ M; omega) _⟩
          case measure => simp [intOf]; omega
      · have hdm : decide ((m : Int) < (z : Int)) = false := by simp; omega
        obtain rfl : m = z := by omega
        have HI2 := HI.out
        rw [HZ.out] at HI2
        obtain ⟨hCj, hlist⟩ := HI2.all HLS.out hk hn1
        have HCj : Hid (Cj n s k fun i j => (e (i * n + j)).toNat) := hCj
        have hS := hOw.sl m
        rw [HZ.out, hlist, ← HZ.out] at hS
        have y2 : wr.cell? ⟨w.heap.size + 1, 0, none⟩ = some (.int .i64 0) := by rw [cell_of_row _ _ _ _ _ _ f2]; rfl
        have y3 : wr.cell? ⟨w.heap.size + 1, 1, none⟩ = some (.slice none 0 0) := by rw [cell_of_row _ _ _ _ _ _ f2]; rfl
        have g0 := frozen_of_row wr (w.heap.size + 1) 0 _ _ f2
        have g1 := frozen_of_row wr (w.heap.size + 1) 1 _ _ f2
        have hn1' := heap_setCell_same wr (w.heap.size + 1) 0 _ _ (.int .i64 (n : Int)) f2
        have hn2' := heap_setCell_same _ (w.heap.size + 1) 1 _ _ (.slice (some ⟨M, 0, none⟩) m m) hn1'
        have hOw2 := (hOw.other ⟨w.heap.size + 1, 0, none⟩ (.int .i64 (n : Int)) (by show M ≠ w.heap.size + 1; omega)).other ⟨w.heap.size + 1, 1, none⟩ (.slice (some ⟨M, 0, none⟩) m m) (by show M ≠ w.heap.size + 1; omega)
        have hS2 := hOw2.sl m
        have hl2 : (List.range m).map e = (flN n (fun i j => (e (i * n + j)).toNat) m).map Int.ofNat := by rw [HZ.out]; exact hlist
        rw [hl2] at hS2
        clear hS hCj HI HI2 hlist hl2
        go_wp2
        exact post_sq 4 Tryd.results9 rfl hn2' rfl ⟨⟨_, _, rfl, HCj.out, hS2⟩, (hb.setCell (by show w.heap.size ≤ w.heap.size + 1; omega) _).setCell (by show w.heap.size ≤ w.heap.size + 1; omega) _⟩
  · go_simp
    refine hJ.out _ _ (SS.out (w3.drew.alloc (.cells #[.int .i64 0, .slice none 0 0] 24)) (Below.next (Below.refl _ w3).drew (balloc _ _))) (fun hSy => ?_)
    clear hJ J
    try simp only [Act.put, List.setIfInBounds_toArray, List.set_cons_zero, List.set_cons_succ]
    refine wpAnyH_ready (rs := [5]) (by kernel_rfl) (by simp) ?_
    refine AllReadyH.cons rfl (fun J hJ => ?_) AllReadyH.nil
    go_simp
    refine hJ.out _ _ (SS.out ((w3.drew.alloc (.cells #[.int .i64 0, .slice none 0 0] 24)).alloc (.cells (madeCells #[.int .i64 0] z) 3)) (Below.next (Below.next (Below.refl _ w3).drew (balloc _ _)) (balloc _ _))) (fun hSz => ?_)
    clear hJ J
    try simp only [Act.put, List.setIfInBounds_toArray, List.set_cons_zero, List.set_cons_succ]
    refine wpAnyH_take (i := 6) (v := .agg #[.int .i64 (n : Int), .slice (some ⟨w3.heap.size + 1, 0, none⟩) z z]) rfl (by kernel_rfl) (by kernel_rfl) (by kernel_rfl) (fun _ _ _ h => h) (Or.inl ⟨by rfl, fun w' hSw => by (try dsimp only at hSw); go_simp⟩) hSz ?_
    try simp only [Act.put, List.setIfInBounds_toArray]
    refine wpAnyH_ready (rs := [8]) (by kernel_rfl) (by simp) ?_
    refine AllReadyH.cons rfl (fun J hJ => ?_) AllReadyH.nil
    go_simp
    refine hJ.out _ _ (SS.out ((w3.alloc (.cells #[.int .i64 (n : Int), .slice (some ⟨w3.heap.size + 1, 0, none⟩) z z] 24)).alloc (.cells (madeCells #[.int .i64 0] z) 3)).drew (Below.next (balloc _ _) (balloc _ _)).drew) (fun _ => ?_)
    clear hJ J
    try simp only [Act.put, List.setIfInBounds_toArray, List.set_cons_zero, List.set_cons_succ]
    refine wpAnyH_done (by kernel_rfl) ?_ _
    refine NoPanic.normal ?_
    have hsz := HSZ.out
    obtain ⟨M, hM⟩ : ∃ T, T = w3.heap.size + 1 := ⟨_, rfl⟩
    obtain ⟨O, hO⟩ : ∃ T, T = w3.heap.size := ⟨_, rfl⟩
    obtain ⟨W, hW⟩ : ∃ W, W = ((w3.alloc (.cells #[.int .i64 (n : Int), .slice (some ⟨w3.heap.size + 1, 0, none⟩) z z] 24)).alloc (.cells (madeCells #[.int .i64 0] z) 3)).drew := ⟨_, rfl⟩
    have bW : Below w3.heap.size w3 W := by rw [hW]; exact (Below.next (balloc _ _) (balloc _ _)).drew
    have hOc : W.heap[O]? = some (.cells #[.int .i64 (n : Int), .slice (some ⟨M, 0, none⟩) z z] 24 (0, 0)) := by rw [hW, hO, hM]; exact two_new1 _ _ _ _
    have hMh : W.heap[M]? = some (.cells (madeCells #[.int .i64 0] z) 3 (0, 0)) := by rw [hW, hM]; exact two_new2 _ _ _ _
    have hOw : Own W M z (fun _ => 0) := ⟨_, hMh, fun j hj => by
      rw [Array.getElem?_eq_getElem (by rw [size_madeCells]; exact hj)]
      simp [madeCells, Nat.mod_one]⟩
    have hm1 : w.heap.size + 1 < M := by omega
    have hm2 : w.heap.size + 1 < O := by omega
    have hm3 : M ≠ O := by omega
    rw [← hW, ← hM, ← hO]
    replace f1 := (bW.block _ (by omega)).trans f1
    replace f2 := (bW.block _ (by omega)).trans f2
    replace hb := Below.next hb bW
    clear hW hM hO bW SS hSx hsz hmk hMh
    go_wp2
    go_loopw [6] (fun i_ wr => ∃ (m : Nat) (e : Nat → Int), i_ = .int .i64 (m : Int) ∧ m ≤ z ∧ Hid (CjD n s k m e) ∧ Own wr M z e ∧ wr.heap[O]? = some (.cells #[.int .i64 (n : Int), .slice (some ⟨M, 0, none⟩) z z] 24 (0, 0)) ∧ wr.heap[w.heap.size]? = some (.cells #[.int .i64 (n : Int), .slice (some ⟨a, off, none⟩) z cap] 24 (0, 0)) ∧ wr.heap[w.heap.size + 1]? = some (.cells #[.int .i64 0, .slice none 0 0] 24 (0, 0)) ∧ Below w.heap.size w wr) (fun i _ => (z - intOf i).toNat)
    case atStart => exact ⟨0, _, rfl, by omega, (fun i h => by omega : CjD n s k 0 _), hOw, hOc, f1, f2, hb⟩
    case round =>
      clear hOw hOc f1 f2 hb
      obtain ⟨m, e, rfl, hm, HI, hOw, hOc, f1, f2, hb⟩ := hrel
      have x0 : wr.cell? ⟨w.heap.size, 0, none⟩ = some (.int .i64 (n : Int)) := by rw [cell_of_row _ _ _ _ _ _ f1]; rfl
      have x1 : wr.cell? ⟨w.heap.size, 1, none⟩ = some (.slice (some ⟨a, off, none⟩) z cap) := by rw [cell_of_row _ _ _ _ _ _ f1]; rfl
      have y0 : wr.cell? ⟨O, 0, none⟩ = some (.int .i64 (n : Int)) := by rw [cell_of_row _ _ _ _ _ _ hOc]; rfl
      have y1 : wr.cell? ⟨O, 1, none⟩ = some (.slice (some ⟨M, 0, none⟩) z z) := by rw [cell_of_row _ _ _ _ _ _ hOc]; rfl
      by_cases hlt : m < z
      · have hdm : decide ((m : Int) < (z : Int)) = true := by simp; omega
        have hmi : (m : Int) < z := by omega
        have hm0 : (0 : Int) ≤ (m : Int) := by omega
        have hcm := (hb.cell (p := ⟨a, off + m, none⟩) ha).trans (HC.out m hlt)
        have hrn : m / n < n := Nat.div_lt_of_lt_mul (by rw [← HZ.out]; exact hlt)
        have hcn : m % n < n := Nat.mod_lt _ hn1
        have hxn := HLS.out.lt _ _ hrn hcn
        have hdiv : (m : Int) / (n : Int) = ((m / n : Nat) : Int) := by simp
        have hmod : (m : Int) % (n : Int) = ((m % n : Nat) : Int) := by simp
        have hst : ∀ {p : Nat} {d : Int}, p = cA k (m / n) (m % n) (s (m / n) (m % n)) * n + cB k (m / n) (m % n) (s (m / n) (m % n)) → d = (cD k (m / n) (m % n) (s (m / n) (m % n)) : Int) → CjD n s k (m + 1) (upd e p d) := fun hp hd => HI.out.step HLS.out hk hn1 (by rw [← HZ.out]; exact hlt) hp hd
        generalize s (m / n) (m % n) = x at *
        generalize m / n = r at *
        generalize m % n = c at *
        have HST : Hid (∀ {p : Nat} {d : Int}, p = cA k r c x * n + cB k r c x → d = (cD k r c x : Int) → CjD n s k (m + 1) (upd e p d)) := hst
        have hr8 : r < 8 := by omega
        have hc8 : c < 8 := by omega
        have hx8 : x < 8 := by omega
        clear hst HI
        rcases (show k = 0 ∨ k = 1 ∨ k = 2 ∨ k = 3 ∨ k = 4 ∨ k = 5 by omega) with rfl | rfl | rfl | rfl | rfl | rfl
        · obtain ⟨q, hq⟩ : ∃ q, q = r * n := ⟨_, rfl⟩
          obtain ⟨p, hp⟩ : ∃ p, p = q + c := ⟨_, rfl⟩
          have hpz : p < z := by rw [hp, hq, HZ.out]; exact cell_lt (by omega) (by omega)
          have HIk : Hid (CjD n s 0 (m + 1) (upd e p (x : Int))) := HST.out (by rw [hp, hq]; rfl) rfl
          have hmul : (r : Int) * (n : Int) = (q : Int) := by rw [hq]; simp
          have hadd : (q : Int) + (c : Int) = (p : Int) := by omega
          have hq99 : q ≤ 99 := by omega
          have hpi : (p : Int) < z := by omega
          have cp := hOw.cell p hpz
          have fp := hOw.frozen p
          clear HST hq hp
          go_wp2
          go_roundw
          case rel =>
            have o8 : ∀ j, j ≠ M → (wr.setCell ⟨M, p, none⟩ (.int .i64 (x : Int))).heap[j]? = wr.heap[j]? := fun j hj => heap_setCell_other _ _ _ _ hj
            exact ⟨m + 1, _, by go_num, by omega, HIk, hOw.set p (x : Int), (o8 O (fun h => hm3 h.symm)).trans hOc, (o8 _ (by omega)).trans f1, (o8 _ (by omega)).trans f2, hb.setCell (by show w.heap.size ≤ M; omega) _⟩
          case measure => simp [intOf]; omega
        · obtain ⟨q, hq⟩ : ∃ q, q = r * n := ⟨_, rfl⟩
          obtain ⟨p, hp⟩ : ∃ p, p = q + x := ⟨_, rfl⟩
          have hpz : p < z := by rw [hp, hq, HZ.out]; exact cell_lt (by omega) (by omega)
          have HIk : Hid (CjD n s 1 (m + 1) (upd e p (c : Int))) := HST.out (by rw [hp, hq]; rfl) rfl
          have hmul : (r : Int) * (n : Int) = (q : Int) := by rw [hq]; simp
          have hadd : (q : Int) + (x : Int) = (p : Int) := by omega
          have hq99 : q ≤ 99 := by omega
          have hpi : (p : Int) < z := by omega
          have cp := hOw.cell p hpz
          have fp := hOw.frozen p
          clear HST hq hp
          go_wp2
          go_roundw
          case rel =>
            have o8 : ∀ j, j ≠ M → (wr.setCell ⟨M, p, none⟩ (.int .i64 (c : Int))).heap[j]? = wr.heap[j]? := fun j hj => heap_setCell_other _ _ _ _ hj
            exact ⟨m + 1, _, by go_num, by omega, HIk, hOw.set p (c : Int), (o8 O (fun h => hm3 h.symm)).trans hOc, (o8 _ (by omega)).trans f1, (o8 _ (by omega)).trans f2, hb.setCell (by show w.heap.size ≤ M; omega) _⟩
          case measure => simp [intOf]; omega
        · obtain ⟨q, hq⟩ : ∃ q, q = c * n := ⟨_, rfl⟩
          obtain ⟨p, hp⟩ : ∃ p, p = q + r := ⟨_, rfl⟩
          have hpz : p < z := by rw [hp, hq, HZ.out]; exact cell_lt (by omega) (by omega)
          have HIk : Hid (CjD n s 2 (m + 1) (upd e p (x : Int))) := HST.out (by rw [hp, hq]; rfl) rfl
          have hmul : (c : Int) * (n : Int) = (q : Int) := by rw [hq]; simp
          have hadd : (q : Int) + (r : Int) = (p : Int) := by omega
          have hq99 : q ≤ 99 := by omega
          have hpi : (p : Int) < z := by omega
          have cp := hOw.cell p hpz
          have fp := hOw.frozen p
          clear HST hq hp
          go_wp2
          go_roundw
          case rel =>
            have o8 : ∀ j, j ≠ M → (wr.setCell ⟨M, p, none⟩ (.int .i64 (x : Int))).heap[j]? = wr.heap[j]? := fun j hj => heap_setCell_other _ _ _ _ hj
            exact ⟨m + 1, _, by go_num, by omega, HIk, hOw.set p (x : Int), (o8 O (fun h => hm3 h.symm)).trans hOc, (o8 _ (by omega)).trans f1, (o8 _ (by omega)).trans f2, hb.setCell (by show w.heap.size ≤ M; omega) _⟩
          case measure => simp [intOf]; omega
        · obtain ⟨q, hq⟩ : ∃ q, q = c * n := ⟨_, rfl⟩
          obtain ⟨p, hp⟩ : ∃ p, p = q + x := ⟨_, rfl⟩
          have hpz : p < z := by rw [hp, hq, HZ.out]; exact cell_lt (by omega) (by omega)
          have HIk : Hid (CjD n s 3 (m + 1) (upd e p (r : Int))) := HST.out (by rw [hp, hq]; rfl) rfl
          have hmul : (c : Int) * (n : Int) = (q : Int) := by rw [hq]; simp
          have hadd : (q : Int) + (x : Int) = (p : Int) := by omega
          have hq99 : q ≤ 99 := by omega
          have hpi : (p : Int) < z := by omega
          have cp := hOw.cell p hpz
          have fp := hOw.frozen p
          clear HST hq hp
          go_wp2
          go_roundw
          case rel =>
            have o8 : ∀ j, j ≠ M → (wr.setCell ⟨M, p, none⟩ (.int .i64 (r : Int))).heap[j]? = wr.heap[j]? := fun j hj => heap_setCell_other _ _ _ _ hj
            exact ⟨m + 1, _, by go_num, by omega, HIk, hOw.set p (r : Int), (o8 O (fun h => hm3 h.symm)).trans hOc, (o8 _ (by omega)).trans f1, (o8 _ (by omega)).trans f2, hb.setCell (by show w.heap.size ≤ M; omega) _⟩
          case measure => simp [intOf]; omega
        · obtain ⟨q, hq⟩ : ∃ q, q = x * n := ⟨_, rfl⟩
          obtain ⟨p, hp⟩ : ∃ p, p = q + r := ⟨_, rfl⟩
          have hpz : p < z := by rw [hp, hq, HZ.out]; exact cell_lt (by omega) (by omega)
          have HIk : Hid (CjD n s 4 (m + 1) (upd e p (c : Int))) := HST.out (by rw [hp, hq]; rfl) rfl
          have hmul : (x : Int) * (n : Int) = (q : Int) := by rw [hq]; simp
          have hadd : (q : Int) + (r : Int) = (p : Int) := by omega
          have hq99 : q ≤ 99 := by omega
          have hpi : (p : Int) < z := by omega
          have cp := hOw.cell p hpz
          have fp := hOw.frozen p
          clear HST hq hp
          go_wp2
          go_roundw
          case rel =>
            have o8 : ∀ j, j ≠ M → (wr.setCell ⟨M, p, none⟩ (.int .i64 (c : Int))).heap[j]? = wr.heap[j]? := fun j hj => heap_setCell_other _ _ _ _ hj
            exact ⟨m + 1, _, by go_num, by omega, HIk, hOw.set p (c : Int), (o8 O (fun h => hm3 h.symm)).trans hOc, (o8 _ (by omega)).trans f1, (o8 _ (by omega)).trans f2, hb.setCell (by show w.heap.size ≤ M; omega) _⟩
          case measure => simp [intOf]; omega
        · obtain ⟨q, hq⟩ : ∃ q, q = x * n := ⟨_, rfl⟩
          obtain ⟨p, hp⟩ : ∃ p, p = q + c := ⟨_, rfl⟩
          have hpz : p < z := by rw [hp, hq, HZ.out]; exact cell_lt (by omega) (by omega)
          have HIk : Hid (CjD n s 5 (m + 1) (upd e p (r : Int))) := HST.out (by rw [hp, hq]; rfl) rfl
          have hmul : (x : Int) * (n : Int) = (q : Int) := by rw [hq]; simp
          have hadd : (q : Int) + (c : Int) = (p : Int) := by omega
          have hq99 : q ≤ 99 := by omega
          have hpi : (p : Int) < z := by omega
          have cp := hOw.cell p hpz
          have fp := hOw.frozen p
          clear HST hq hp
          go_wp2
          go_roundw
          case rel =>
            have o8 : ∀ j, j ≠ M → (wr.setCell ⟨M, p, none⟩ (.int .i64 (r : Int))).heap[j]? = wr.heap[j]? := fun j hj => heap_setCell_other _ _ _ _ hj
            exact ⟨m + 1, _, by go_num, by omega, HIk, hOw.set p (r : Int), (o8 O (fun h => hm3 h.symm)).trans hOc, (o8 _ (by omega)).trans f1, (o8 _ (by omega)).trans f2, hb.setCell (by show w.heap.size ≤ M; omega) _⟩
          case measure => simp [intOf]; omega
      · have hdm : decide ((m : Int) < (z : Int)) = false := by simp; omega
        obtain rfl : m = z := by omega
        have HI2 := HI.out
        rw [HZ.out] at HI2
        obtain ⟨hCj, hlist⟩ := HI2.all HLS.out hk hn1
        have HCj : Hid (Cj n s k fun i j => (e (i * n + j)).toNat) := hCj
        have hS := hOw.sl m
        rw [HZ.out, hlist, ← HZ.out] at hS
        have y2 : wr.cell? ⟨w.heap.size + 1, 0, none⟩ = some (.int .i64 0) := by rw [cell_of_row _ _ _ _ _ _ f2]; rfl
        have y3 : wr.cell? ⟨w.heap.size + 1, 1, none⟩ = some (.slice none 0 0) := by rw [cell_of_row _ _ _ _ _ _ f2]; rfl
        have g0 := frozen_of_row wr (w.heap.size + 1) 0 _ _ f2
        have g1 := frozen_of_row wr (w.heap.size + 1) 1 _ _ f2
        have hn1' := heap_setCell_same wr (w.heap.size + 1) 0 _ _ (.int .i64 (n : Int)) f2
        have hn2' := heap_setCell_same _ (w.heap.size + 1) 1 _ _ (.slice (some ⟨M, 0, none⟩) m m) hn1'
        have hOw2 := (hOw.other ⟨w.heap.size + 1, 0, none⟩ (.int .i64 (n : Int)) (by show M ≠ w.heap.size + 1; omega)).other ⟨w.heap.size + 1, 1, none⟩ (.slice (some ⟨M, 0, none⟩) m m) (by show M ≠ w.heap.size + 1; omega)
        have hS2 := hOw2.sl m
        have hl2 : (List.range m).map e = (flN n (fun i j => (e (i * n + j)).toNat) m).map Int.ofNat := by rw [HZ.out]; exact hlist
        rw [hl2] at hS2
        clear hS hCj HI HI2 hlist hl2
        go_wp2
        exact post_sq 4 Tryd.results9 rfl hn2' rfl ⟨⟨_, _, rfl, HCj.out, hS2⟩, (hb.setCell (by show w.heap.size ≤ w.heap.size + 1; omega) _).setCell (by show w.heap.size ≤ w.heap.size + 1; omega) _⟩

end Go.Proofs.YtagpbkcnjogbgaaDoor
