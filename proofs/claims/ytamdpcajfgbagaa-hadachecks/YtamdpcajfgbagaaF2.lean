/- The walk of the document's EvenOf. -/
import Derived.Test.YtamdpcajfgbagaaF1
import Derived.Test.YtamdpcajfgbagaaH6
import Derived.Test.YtamdpcajfgbagaaLEv
import Derived.OwnWalk
namespace Go.Proofs.Ytamdpcajfgbagaa
open Go.RowKit

/-- What stands there when all ahead of the k-th cell was made even by its row. -/
def stR (n : Nat) (A : Nat → Nat → Int) (m k : Nat) : Int := if k < m then evr A (k / n) (k % n) else A (k / n) (k % n)
/-- The same, by columns. -/
def stC (n : Nat) (A : Nat → Nat → Int) (j i k : Nat) : Int := if k % n < j ∨ (k % n = j ∧ k / n < i) then evn A (k / n) (k % n) else evr A (k / n) (k % n)
theorem stR_at {n : Nat} (A : Nat → Nat → Int) {i j : Nat} (hj : j < n) : stR n A (i * n + j) (i * n + j) = A i j := by
  have d := dm n (by omega) (a := i) hj
  unfold stR
  rw [if_neg (by omega), d.1, d.2]
theorem stR_row {n : Nat} (A : Nat → Nat → Int) {i : Nat} (hn : 0 < n) : stR n A (i * n) (i * n) = A i 0 := stR_at A hn
theorem stR_step {n : Nat} (A : Nat → Nat → Int) {i j : Nat} (hj : j < n) (k : Nat) : upd (stR n A (i * n + j)) (i * n + j) (evr A i j) k = stR n A (i * n + j + 1) k := by
  unfold upd
  by_cases e : k = i * n + j
  · subst e
    have d := dm n (by omega) (a := i) hj
    rw [if_pos rfl]
    unfold stR
    rw [if_pos (by omega), d.1, d.2]
  · rw [if_neg e]
    unfold stR
    by_cases h : k < i * n + j
    · rw [if_pos h, if_pos (by omega)]
    · rw [if_neg h, if_neg (by omega)]
theorem stR_full {n z k : Nat} (A : Nat → Nat → Int) (hk : k < z) : stR n A z k = stC n A 0 0 k := by
  unfold stR stC
  rw [if_pos hk, if_neg (by rintro (h | ⟨_, h⟩) <;> exact Nat.not_lt_zero _ h)]
theorem stC_top {n : Nat} (A : Nat → Nat → Int) {j : Nat} (hj : j < n) : stC n A j 0 j = evr A 0 j := by
  unfold stC
  rw [Nat.mod_eq_of_lt hj, Nat.div_eq_of_lt hj, if_neg (by omega)]
theorem stC_at {n : Nat} (A : Nat → Nat → Int) {i j : Nat} (hj : j < n) : stC n A j i (i * n + j) = evr A i j := by
  have d := dm n (by omega) (a := i) hj
  unfold stC
  rw [d.1, d.2, if_neg (by omega)]
theorem stC_step {n : Nat} (A : Nat → Nat → Int) {i j : Nat} (hj : j < n) (k : Nat) : upd (stC n A j i) (i * n + j) (evn A i j) k = stC n A j (i + 1) k := by
  unfold upd
  have hd := Nat.div_add_mod' k n
  by_cases e : k = i * n + j
  · subst e
    have d := dm n (by omega) (a := i) hj
    rw [if_pos rfl]
    unfold stC
    rw [d.1, d.2, if_pos (by omega)]
  · rw [if_neg e]
    unfold stC
    by_cases h : k % n < j ∨ (k % n = j ∧ k / n < i)
    · rw [if_pos h, if_pos (by omega)]
    · rw [if_neg h, if_neg (fun h' => ?_)]
      have h1 : k % n = j ∧ k / n = i := by omega
      rw [h1.1, h1.2] at hd
      exact e hd.symm
theorem stC_next {n k : Nat} (A : Nat → Nat → Int) {j : Nat} (hk : k < n * n) : stC n A j n k = stC n A (j + 1) 0 k := by
  unfold stC
  have h := Nat.div_lt_of_lt_mul hk
  by_cases e : k % n < j ∨ (k % n = j ∧ k / n < n)
  · rw [if_pos e, if_pos (.inl (by omega))]
  · rw [if_neg e, if_neg (by rintro (h | ⟨_, h⟩); omega; exact Nat.not_lt_zero _ h)]
theorem stC_full {n k : Nat} (A : Nat → Nat → Int) (hn : 0 < n) : stC n A n 0 k = evn A (k / n) (k % n) := by
  unfold stC
  rw [if_pos (.inl (Nat.mod_lt _ hn))]
set_option maxRecDepth 100000 in
set_option maxHeartbeats 16000000 in
theorem EvenOf_any (n : Nat) (L : List Int) (v : Value) (w : World) (hv : Sl w v L) (G : GoodH n L) :
    Calls Try.prog 14 #[.agg #[.int .i64 (n : Int), v]] w fun e w' => (∃ y, e = .returned (.agg #[.int .i64 (n : Int), y]) ∧ Sl w' y (evL n L)) ∧ Below w.heap.size w w' := by
  obtain ⟨i3, hi3, hz0, hz1, hz2⟩ := info3
  have hz99 : n * n ≤ 999 := Nat.le_trans (Nat.mul_le_mul G.le G.le) (by decide)
  have hpos := G.pos
  obtain ⟨a, off, cap, rfl, ha, hcell⟩ := hv.form G.len (Nat.mul_pos hpos hpos)
  have HLT : Hid (∀ i j, i < n → j < n → i * n + j < n * n) := fun i j hi hj => cell_ltH hi hj
  have HSG : Hid (∀ i j, i < n → j < n → Sg (mx n L i j)) := fun i j hi hj => G.had.one i j hi hj
  have HLE : Hid (L.length = n * n) := G.len
  have HF0 : Hid (∀ k, k < n * n → L.getD k 0 = stR n (mx n L) (0 * n) k) := fun k hk => by
    unfold stR mx
    rw [if_neg (by omega), Nat.div_add_mod' k n]
  have HEV : Hid (evL n L = (List.range (n * n)).map (stC n (mx n L) n 0)) := by
    show _ = _
    unfold evL flI
    exact List.map_congr_left fun k _ => (stC_full (mx n L) hpos).symm
  obtain ⟨z, Hz⟩ : ∃ z, Hid (n * n = z) := ⟨_, rfl⟩
  rw [HEV.out]
  rw [Hz.out] at hz99 HLT HF0 hcell HLE ⊢
  have hnz : n ≤ z := by rw [← Hz.out]; exact Nat.le_mul_of_pos_right n hpos
  have HC : Hid (∀ j, j < z → w.cell? ⟨a, off + j, none⟩ = some (.int .i64 (L.getD j 0))) := hcell
  generalize mx n L = A at *
  have b0 := Below.next (balloc w (.cells #[.int .i64 (n : Int), .slice (some ⟨a, off, none⟩) z cap] 24)) (balloc _ (.cells #[.int .i64 0, .slice none 0 0] 24))
  have hx1 : ((w.alloc (.cells #[.int .i64 (n : Int), .slice (some ⟨a, off, none⟩) z cap] 24)).alloc (.cells #[.int .i64 0, .slice none 0 0] 24)).heap[w.heap.size + 1]? = some (.cells #[.int .i64 0, .slice none 0 0] 24 (0, 0)) := second_box _ _ _ _
  have b1 := Below.next b0 (balloc _ (.cells #[] 3))
  have HE1 : Hid ((((w.alloc (.cells #[.int .i64 (n : Int), .slice (some ⟨a, off, none⟩) z cap] 24)).alloc (.cells #[.int .i64 0, .slice none 0 0] 24)).alloc (.cells #[] 3)).ownsRow (w.heap.size + 1 + 1) 3 1 (.slice (some ⟨w.heap.size + 1 + 1, 0, none⟩) 0 0) 0 []) := ⟨rfl, .inr ⟨w.heap.size + 1 + 1, 0, #[], rfl, Nat.le_refl _, by
    have := heap_alloc_new ((w.alloc (.cells #[.int .i64 (n : Int), .slice (some ⟨a, off, none⟩) z cap] 24)).alloc (.cells #[.int .i64 0, .slice none 0 0] 24)) (.cells #[] 3)
    simpa using this, Nat.le_refl _, by unfold maxLen; omega, rfl, rfl⟩⟩
  have HN : Hid (∀ (j : Nat) (u : Value), (vi L)[j]? = some u → (((w.alloc (.cells #[.int .i64 (n : Int), .slice (some ⟨a, off, none⟩) z cap] 24)).alloc (.cells #[.int .i64 0, .slice none 0 0] 24)).alloc (.cells #[] 3)).cell? ((⟨a, off, none⟩ : Addr).add j) = some u) := fun j u hj => by
    have hjn : j < L.length := by have := (List.getElem?_eq_some_iff.1 hj).1; simpa [vi] using this
    have hc := (b1.cell (p := ⟨a, off + j, none⟩) ha).trans (HC.out j (by rw [← HLE.out]; exact hjn))
    have hu : Value.int .i64 (L.getD j 0) = u := by
      unfold vi at hj
      rw [List.getElem?_map, List.getElem?_eq_getElem hjn] at hj
      simpa [List.getD_eq_getElem?_getD, hjn] using hj
    rw [Addr.add_mid, ← hu]
    exact hc
  have HONE : Hid (∀ u ∈ vi L, u.oneCell' = true) := fun u hu => by
    obtain ⟨i, _, rfl⟩ := List.mem_map.1 hu
    rfl
  have HVL : Hid ((vi L).length = z) := by show _ = _; simp [vi, HLE.out]
  have HB1 : Hid (Below w.heap.size w (((w.alloc (.cells #[.int .i64 (n : Int), .slice (some ⟨a, off, none⟩) z cap] 24)).alloc (.cells #[.int .i64 0, .slice none 0 0] 24)).alloc (.cells #[] 3))) := b1
  have HR1 : Hid ((((w.alloc (.cells #[.int .i64 (n : Int), .slice (some ⟨a, off, none⟩) z cap] 24)).alloc (.cells #[.int .i64 0, .slice none 0 0] 24)).alloc (.cells #[] 3)).heap[w.heap.size + 1]? = some (.cells #[.int .i64 0, .slice none 0 0] 24 (0, 0))) := ((balloc _ _).block _ (by simp)).trans hx1
  clear hv G b0 b1 hx1 hcell HEV
  go_enter Try.func14, Try.ntmps14
  go_wp2_with (first
    | (at_builtin; refine wpList_append_own _ rfl _ _ 22 rfl (w.heap.size + 1 + 1) 3 i3 (.int .i64 0) 1 8 und22 hi3 hz0 hz1 hz2 rfl (by decide) _ 0 [] rfl HE1.out ⟨a, off, none⟩ z cap (vi L) rfl ?c0 HN.out HONE.out ?c3 ?c4 ?c5 ?_)
    | go_in)
  case c0 => rw [HVL.out]; omega
  case c3 => unfold maxLen; omega
  case c4 => omega
  case c5 => simp
  intro v1 w1 hown hgr _
  obtain ⟨g, cp, rfl, hgb, hO⟩ := Own.of hown (by omega)
  replace hO := hO.congr HF0.out
  have hB1 : Below w.heap.size w w1 := HB1.out.grown hgr (by simp; omega) (fun k hk => by have := (HE1.out.lt k hk).1; omega)
  have hR1 : w1.heap[w.heap.size + 1]? = some (.cells #[.int .i64 0, .slice none 0 0] 24 (0, 0)) := (hgr.block (w.heap.size + 1) (by simp) (fun e => by simp [Value.ownBlock] at e)).trans HR1.out
  have hgl := hO.lt
  have hO2 := hO.below (balloc w1 (.cells #[.int .i64 (n : Int), .slice (some ⟨g, 0, none⟩) z cp] 24))
  have hR2 := (heap_alloc_new w1 (.cells #[.int .i64 (n : Int), .slice (some ⟨g, 0, none⟩) z cp] 24))
  have hR3 := ((balloc w1 (.cells #[.int .i64 (n : Int), .slice (some ⟨g, 0, none⟩) z cp] 24)).block (w.heap.size + 1) (by omega)).trans hR1
  have hB2 := Below.next hB1 (balloc w1 (.cells #[.int .i64 (n : Int), .slice (some ⟨g, 0, none⟩) z cp] 24))
  obtain ⟨tb, Htb⟩ : ∃ tb, Hid (w1.heap.size = tb) := ⟨_, rfl⟩
  have HGT : Hid (g < tb) := by show _ < _; rw [← Htb.out]; exact hgl
  have htb : w1.heap.size = tb := Htb.out
  obtain ⟨w2, Hw2⟩ : ∃ w2, Hid (w1.alloc (.cells #[.int .i64 (n : Int), .slice (some ⟨g, 0, none⟩) z cp] 24) = w2) := ⟨_, rfl⟩
  rw [Hw2.out] at hO2 hR2 hR3 hB2
  rw [htb] at hR2
  clear HE1 HN HONE HB1 HR1 hgr hown hO HF0 hB1 hR1 hgl
  go_wp2
  rw [Hw2.out]
  go_loopw [5] (fun iv wr => ∃ (i : Nat), iv = .int .i64 (i : Int) ∧ i ≤ n ∧ Own wr g z (stR n A (i * n)) ∧ wr.heap[tb]? = some (.cells #[.int .i64 (n : Int), .slice (some ⟨g, 0, none⟩) z cp] 24 (0, 0)) ∧ wr.heap[w.heap.size + 1]? = some (.cells #[.int .i64 0, .slice none 0 0] 24 (0, 0)) ∧ Below w.heap.size w wr) (fun iv _ => (n - intOf iv).toNat)
  case atStart => exact ⟨0, rfl, by omega, hO2, hR2, hR3, hB2⟩
  case round =>
    clear hO2 hR2 hR3 hB2
    obtain ⟨i, rfl, ho, hO2, hR2, hR3, hB2⟩ := hrel
    have hT1 : wr.cell? ⟨tb, 1, none⟩ = some (.slice (some ⟨g, 0, none⟩) z cp) := by rw [cell_of_row _ _ _ _ _ _ hR2]; rfl
    by_cases hlo : i < n
    · have hdo : decide ((i : Int) < (n : Int)) = true := by simp; omega
      have k0 : i * n < z := by have := HLT.out i 0 hlo hpos; omega
      have cx := hO2.cell _ k0
      rw [stR_row A hpos] at cx
      obtain ⟨m, Hm⟩ : ∃ m, Hid (i * n = m) := ⟨_, rfl⟩
      have hm : (i : Int) * (n : Int) = (m : Int) := by rw [← Hm.out]; simp
      rw [Hm.out] at cx k0
      have hmz : (m : Int) < (z : Int) := by omega
      have hm' := wrapN9 (q := m) (by omega)
      obtain ⟨x, Hx⟩ : ∃ x, Hid (A i 0 = x) := ⟨_, rfl⟩
      rw [Hx.out] at cx
      have Hx2 : Hid (Sg x) := by show Sg x; rw [← Hx.out]; exact HSG.out _ _ hlo hpos
      go_wp2
      clear cx
      go_loopw [7] (fun iv wr => ∃ (j : Nat), iv = .int .i64 (j : Int) ∧ j ≤ n ∧ Own wr g z (stR n A (i * n + j)) ∧ wr.heap[tb]? = some (.cells #[.int .i64 (n : Int), .slice (some ⟨g, 0, none⟩) z cp] 24 (0, 0)) ∧ wr.heap[w.heap.size + 1]? = some (.cells #[.int .i64 0, .slice none 0 0] 24 (0, 0)) ∧ Below w.heap.size w wr) (fun iv _ => (n - intOf iv).toNat)
      case atStart => exact ⟨0, rfl, by omega, by rw [Nat.add_zero]; exact hO2, hR2, hR3, hB2⟩
      case round =>
        clear hO2 hR2 hR3 hB2 hT1
        obtain ⟨j, rfl, hi, hO2, hR2, hR3, hB2⟩ := hrel
        have hT1 : wr.cell? ⟨tb, 1, none⟩ = some (.slice (some ⟨g, 0, none⟩) z cp) := by rw [cell_of_row _ _ _ _ _ _ hR2]; rfl
        by_cases hli : j < n
        · have hdi : decide ((j : Int) < (n : Int)) = true := by simp; omega
          have k1 := HLT.out i j hlo hli
          have ck := hO2.cell _ k1
          have fk := hO2.frozen (i * n + j)
          rw [stR_at A hli] at ck
          have HV : Hid (evr A i j = A i j * x) := by show _ = _; unfold evr; rw [Hx.out]
          obtain ⟨y, Hy⟩ : ∃ y, Hid (A i j = y) := ⟨_, rfl⟩
          have Hy2 : Hid (Sg y) := by show Sg y; rw [← Hy.out]; exact HSG.out _ _ hlo hli
          rw [Hy.out] at ck HV
          have hye := sg_two Hy2.out Hx2.out
          obtain ⟨e, he⟩ : ∃ e, y * x = e := ⟨_, rfl⟩
          rw [he] at hye
          have HV2 : Hid (evr A i j = e) := HV.out.trans he
          have hwe := wrapS hye.1 hye.2
          have hO3 := (hO2.set (i * n + j) e).congr (f' := stR n A (i * n + (j + 1))) (fun q _ => by rw [← HV2.out]; exact stR_step A hli q)
          have hR4 := (heap_setCell_other wr ⟨g, i * n + j, none⟩ tb (.int .i64 e) (by show tb ≠ g; have := HGT.out; omega)).trans hR2
          have hR5 := (heap_setCell_other wr ⟨g, i * n + j, none⟩ (w.heap.size + 1) (.int .i64 e) (by show w.heap.size + 1 ≠ g; omega)).trans hR3
          have hB3 := hB2.setCell (p := ⟨g, i * n + j, none⟩) (by show w.heap.size ≤ g; omega) (.int .i64 e)
          obtain ⟨k, Hk⟩ : ∃ k, Hid (m + j = k) := ⟨_, rfl⟩
          have ek : i * n + j = k := by rw [Hm.out, Hk.out]
          have hk : (m : Int) + (j : Int) = (k : Int) := by rw [← Hk.out]; simp
          rw [ek] at k1 ck fk hO3 hR4 hR5 hB3
          have hkz : (k : Int) < (z : Int) := by omega
          have hk' := wrapN9 (q := k) (by omega)
          have hT2 : (wr.setCell ⟨g, k, none⟩ (.int .i64 e)).cell? ⟨tb, 1, none⟩ = some (.slice (some ⟨g, 0, none⟩) z cp) := by rw [cell_of_row _ _ _ _ _ _ hR4]; rfl
          have HO3 : Hid _ := hO3
          clear hO3 HV HV2 ek hye
          go_wp2_with fail
          refine wp_region_noPanic ?_
          refine wp_region_held_drew (S := fun w' => w'.cell? ⟨tb, 1, none⟩ = some (.slice (some ⟨g, 0, none⟩) z cp)) (by kernel_rfl) hT1 (fun hSx => ?_)
          refine wpAnyH_take (i := 0) (v := .pointer (some ⟨tb, 1, none⟩)) rfl (by kernel_rfl) (by kernel_rfl) (by kernel_rfl) (fun _ _ _ h => h) (Or.inl ⟨by rfl, fun w' hSw => by (try dsimp only at hSw); go_simp⟩) hSx ?_
          try simp only [Act.put, List.setIfInBounds_toArray]
          refine wpAnyH_take (i := 1) (v := .slice (some ⟨g, 0, none⟩) z cp) rfl (by kernel_rfl) (by kernel_rfl) (by kernel_rfl) (fun _ _ _ h => h) (Or.inl ⟨by rfl, fun w' hSw => by (try dsimp only at hSw); go_simp⟩) hSx ?_
          try simp only [Act.put]
          refine wpAnyH_take (i := 2) (v := .int .i64 (i : Int)) rfl (by kernel_rfl) (by kernel_rfl) (by kernel_rfl) (fun _ _ _ h => h) (Or.inl ⟨by rfl, fun w' hSw => by (try dsimp only at hSw); go_simp⟩) hSx ?_
          try simp only [Act.put]
          refine wpAnyH_take (i := 3) (v := .int .i64 (n : Int)) rfl (by kernel_rfl) (by kernel_rfl) (by kernel_rfl) (fun _ _ _ h => h) (Or.inl ⟨by rfl, fun w' hSw => by (try dsimp only at hSw); go_simp⟩) hSx ?_
          try simp only [Act.put]
          refine wpAnyH_take (i := 4) (v := .int .i64 (m : Int)) rfl (by kernel_rfl) (by kernel_rfl) (by kernel_rfl) (fun _ _ _ h => h) (Or.inl ⟨by rfl, fun w' hSw => by (try dsimp only at hSw); go_simp⟩) hSx ?_
          try simp only [Act.put]
          refine wpAnyH_take (i := 5) (v := .int .i64 (j : Int)) rfl (by kernel_rfl) (by kernel_rfl) (by kernel_rfl) (fun _ _ _ h => h) (Or.inl ⟨by rfl, fun w' hSw => by (try dsimp only at hSw); go_simp⟩) hSx ?_
          try simp only [Act.put]
          refine wpAnyH_take (i := 6) (v := .int .i64 (k : Int)) rfl (by kernel_rfl) (by kernel_rfl) (by kernel_rfl) (fun _ _ _ h => h) (Or.inl ⟨by rfl, fun w' hSw => by (try dsimp only at hSw); go_simp⟩) hSx ?_
          try simp only [Act.put]
          refine wpAnyH_take (i := 7) (v := .pointer (some ⟨tb, 1, none⟩)) rfl (by kernel_rfl) (by kernel_rfl) (by kernel_rfl) (fun _ _ _ h => h) (Or.inl ⟨by rfl, fun w' hSw => by (try dsimp only at hSw); go_simp⟩) hSx ?_
          try simp only [Act.put]
          refine wpAnyH_take (i := 8) (v := .slice (some ⟨g, 0, none⟩) z cp) rfl (by kernel_rfl) (by kernel_rfl) (by kernel_rfl) (fun _ _ _ h => h) (Or.inl ⟨by rfl, fun w' hSw => by (try dsimp only at hSw); go_simp⟩) hSx ?_
          try simp only [Act.put]
          refine wpAnyH_take (i := 9) (v := .int .i64 (i : Int)) rfl (by kernel_rfl) (by kernel_rfl) (by kernel_rfl) (fun _ _ _ h => h) (Or.inl ⟨by rfl, fun w' hSw => by (try dsimp only at hSw); go_simp⟩) hSx ?_
          try simp only [Act.put]
          refine wpAnyH_take (i := 10) (v := .int .i64 (n : Int)) rfl (by kernel_rfl) (by kernel_rfl) (by kernel_rfl) (fun _ _ _ h => h) (Or.inl ⟨by rfl, fun w' hSw => by (try dsimp only at hSw); go_simp⟩) hSx ?_
          try simp only [Act.put]
          refine wpAnyH_take (i := 11) (v := .int .i64 (m : Int)) rfl (by kernel_rfl) (by kernel_rfl) (by kernel_rfl) (fun _ _ _ h => h) (Or.inl ⟨by rfl, fun w' hSw => by (try dsimp only at hSw); go_simp⟩) hSx ?_
          try simp only [Act.put]
          refine wpAnyH_take (i := 12) (v := .int .i64 (j : Int)) rfl (by kernel_rfl) (by kernel_rfl) (by kernel_rfl) (fun _ _ _ h => h) (Or.inl ⟨by rfl, fun w' hSw => by (try dsimp only at hSw); go_simp⟩) hSx ?_
          try simp only [Act.put]
          refine wpAnyH_take (i := 13) (v := .int .i64 (k : Int)) rfl (by kernel_rfl) (by kernel_rfl) (by kernel_rfl) (fun _ _ _ h => h) (Or.inl ⟨by rfl, fun w' hSw => by (try dsimp only at hSw); go_simp⟩) hSx ?_
          try simp only [Act.put]
          refine wpAnyH_take (i := 14) (v := .pointer (some ⟨g, k, none⟩)) rfl (by kernel_rfl) (by kernel_rfl) (by kernel_rfl) (fun _ _ _ h => h) (Or.inl ⟨by rfl, fun w' hSw => by (try dsimp only at hSw); go_simp⟩) hSx ?_
          try simp only [Act.put]
          refine wpAnyH_take (i := 16) (v := .int .i64 x) rfl (by kernel_rfl) (by kernel_rfl) (by kernel_rfl) (fun _ _ _ h => h) (Or.inl ⟨by rfl, fun w' hSw => by (try dsimp only at hSw); go_simp⟩) hSx ?_
          try simp only [Act.put]
          refine wpAnyH_ready (rs := [15]) (by kernel_rfl) (by simp) ?_
          refine AllReadyH.cons rfl (fun J hJ => ?_) AllReadyH.nil
          go_simp
          refine hJ.out _ _ hSx (fun hSx => ?_)
          clear hJ J
          try simp only [Act.put, List.setIfInBounds_toArray, List.set_cons_zero, List.set_cons_succ]
          refine wpAnyH_take (i := 17) (v := .int .i64 e) rfl (by kernel_rfl) (by kernel_rfl) (by kernel_rfl) (fun _ _ _ h => h) (Or.inl ⟨by rfl, fun w' hSw => by (try dsimp only at hSw); go_simp⟩) hSx ?_
          try simp only [Act.put, List.setIfInBounds_toArray]
          refine wpAnyH_take (i := 18) (v := .pointer (some ⟨g, k, none⟩)) rfl (by kernel_rfl) (by kernel_rfl) (by kernel_rfl) (fun _ _ _ h => h) (Or.inl ⟨by rfl, fun w' hSw => by (try dsimp only at hSw); go_simp⟩) hSx ?_
          try simp only [Act.put]
          refine wpAnyH_ready (rs := [19]) (by kernel_rfl) (by simp) ?_
          refine AllReadyH.cons rfl (fun J hJ => ?_) AllReadyH.nil
          go_simp
          refine hJ.out _ _ hT2 (fun hSx => ?_)
          clear hJ J
          try simp only [Act.put, List.setIfInBounds_toArray, List.set_cons_zero, List.set_cons_succ]
          refine wpAnyH_done (by kernel_rfl) ?_ _
          refine NoPanic.normal ?_
          clear hSx
          clear hT1 hT2 ck fk
          go_wp2
          go_roundw
          case rel => exact ⟨j + 1, by go_num, by omega, HO3.out, hR4, hR5, hB3.drew⟩
          case measure => simp [intOf]; omega
        · have hdi : decide ((j : Int) < (n : Int)) = false := by simp; omega
          have hO4 := hO2.congr (f' := stR n A ((i + 1) * n)) (fun q _ => by rw [show j = n by omega, Nat.add_mul, Nat.one_mul])
          go_wp2
          go_roundw
          case rel => exact ⟨i + 1, by go_num, by omega, hO4, hR2, hR3, hB2⟩
          case measure => simp [intOf]; omega
    · have hdo : decide ((i : Int) < (n : Int)) = false := by simp; omega
      have hO4 := hO2.congr (f' := stC n A 0 0) (fun q hq => by rw [show i = n by omega, Hz.out]; exact stR_full A hq)
      clear hO2
      have hO2 := hO4
      clear hO4
      go_wp2
      go_loopw [8] (fun iv wr => ∃ (j : Nat), iv = .int .i64 (j : Int) ∧ j ≤ n ∧ Own wr g z (stC n A j 0) ∧ wr.heap[tb]? = some (.cells #[.int .i64 (n : Int), .slice (some ⟨g, 0, none⟩) z cp] 24 (0, 0)) ∧ wr.heap[w.heap.size + 1]? = some (.cells #[.int .i64 0, .slice none 0 0] 24 (0, 0)) ∧ Below w.heap.size w wr) (fun iv _ => (n - intOf iv).toNat)
      case atStart => exact ⟨0, rfl, by omega, hO2, hR2, hR3, hB2⟩
      case round =>
        clear hO2 hR2 hR3 hB2
        obtain ⟨j, rfl, ho, hO2, hR2, hR3, hB2⟩ := hrel
        have hT1 : wr.cell? ⟨tb, 1, none⟩ = some (.slice (some ⟨g, 0, none⟩) z cp) := by rw [cell_of_row _ _ _ _ _ _ hR2]; rfl
        by_cases hlo : j < n
        · have hdo : decide ((j : Int) < (n : Int)) = true := by simp; omega
          have k0 : j < z := by omega
          have cx := hO2.cell _ k0
          rw [stC_top A hlo] at cx
          have hmz : (j : Int) < (z : Int) := by omega
          obtain ⟨x, Hx⟩ : ∃ x, Hid (evr A 0 j = x) := ⟨_, rfl⟩
          rw [Hx.out] at cx
          have Hx2 : Hid (Sg x) := by show Sg x; rw [← Hx.out]; exact evr_sg HSG.out _ _ hpos hlo
          go_wp2
          clear cx
          go_loopw [10] (fun iv wr => ∃ (i : Nat), iv = .int .i64 (i : Int) ∧ i ≤ n ∧ Own wr g z (stC n A j i) ∧ wr.heap[tb]? = some (.cells #[.int .i64 (n : Int), .slice (some ⟨g, 0, none⟩) z cp] 24 (0, 0)) ∧ wr.heap[w.heap.size + 1]? = some (.cells #[.int .i64 0, .slice none 0 0] 24 (0, 0)) ∧ Below w.heap.size w wr) (fun iv _ => (n - intOf iv).toNat)
          case atStart => exact ⟨0, rfl, by omega, hO2, hR2, hR3, hB2⟩
          case round =>
            clear hO2 hR2 hR3 hB2 hT1 k0 hmz
            obtain ⟨i, rfl, hi, hO2, hR2, hR3, hB2⟩ := hrel
            have hT1 : wr.cell? ⟨tb, 1, none⟩ = some (.slice (some ⟨g, 0, none⟩) z cp) := by rw [cell_of_row _ _ _ _ _ _ hR2]; rfl
            by_cases hli : i < n
            · have hdi : decide ((i : Int) < (n : Int)) = true := by simp; omega
              have k1 := HLT.out i j hli hlo
              have ck := hO2.cell _ k1
              have fk := hO2.frozen (i * n + j)
              rw [stC_at A hlo] at ck
              have HV : Hid (evn A i j = evr A i j * x) := by show _ = _; rw [← evr_evn, Hx.out]
              obtain ⟨y, Hy⟩ : ∃ y, Hid (evr A i j = y) := ⟨_, rfl⟩
              have Hy2 : Hid (Sg y) := by show Sg y; rw [← Hy.out]; exact evr_sg HSG.out _ _ hli hlo
              rw [Hy.out] at ck HV
              have hye := sg_two Hy2.out Hx2.out
              obtain ⟨e, he⟩ : ∃ e, y * x = e := ⟨_, rfl⟩
              rw [he] at hye
              have HV2 : Hid (evn A i j = e) := HV.out.trans he
              have hwe := wrapS hye.1 hye.2
              have hO3 := (hO2.set (i * n + j) e).congr (f' := stC n A j (i + 1)) (fun q _ => by rw [← HV2.out]; exact stC_step A hlo q)
              have hR4 := (heap_setCell_other wr ⟨g, i * n + j, none⟩ tb (.int .i64 e) (by show tb ≠ g; have := HGT.out; omega)).trans hR2
              have hR5 := (heap_setCell_other wr ⟨g, i * n + j, none⟩ (w.heap.size + 1) (.int .i64 e) (by show w.heap.size + 1 ≠ g; omega)).trans hR3
              have hB3 := hB2.setCell (p := ⟨g, i * n + j, none⟩) (by show w.heap.size ≤ g; omega) (.int .i64 e)
              obtain ⟨m, Hm⟩ : ∃ m, Hid (i * n = m) := ⟨_, rfl⟩
              have hm : (i : Int) * (n : Int) = (m : Int) := by rw [← Hm.out]; simp
              obtain ⟨k, Hk⟩ : ∃ k, Hid (m + j = k) := ⟨_, rfl⟩
              have ek : i * n + j = k := by rw [Hm.out, Hk.out]
              have hm' := wrapN9 (q := m) (by rw [Hm.out] at k1; omega)
              have hk : (m : Int) + (j : Int) = (k : Int) := by rw [← Hk.out]; simp
              rw [ek] at k1 ck fk hO3 hR4 hR5 hB3
              have hkz : (k : Int) < (z : Int) := by omega
              have hk' := wrapN9 (q := k) (by omega)
              have hT2 : (wr.setCell ⟨g, k, none⟩ (.int .i64 e)).cell? ⟨tb, 1, none⟩ = some (.slice (some ⟨g, 0, none⟩) z cp) := by rw [cell_of_row _ _ _ _ _ _ hR4]; rfl
              have HO3 : Hid _ := hO3
              clear hO3 HV HV2 ek hye
              go_wp2_with fail
              refine wp_region_noPanic ?_
              refine wp_region_held_drew (S := fun w' => w'.cell? ⟨tb, 1, none⟩ = some (.slice (some ⟨g, 0, none⟩) z cp)) (by kernel_rfl) hT1 (fun hSx => ?_)
              refine wpAnyH_take (i := 0) (v := .pointer (some ⟨tb, 1, none⟩)) rfl (by kernel_rfl) (by kernel_rfl) (by kernel_rfl) (fun _ _ _ h => h) (Or.inl ⟨by rfl, fun w' hSw => by (try dsimp only at hSw); go_simp⟩) hSx ?_
              try simp only [Act.put, List.setIfInBounds_toArray]
              refine wpAnyH_take (i := 1) (v := .slice (some ⟨g, 0, none⟩) z cp) rfl (by kernel_rfl) (by kernel_rfl) (by kernel_rfl) (fun _ _ _ h => h) (Or.inl ⟨by rfl, fun w' hSw => by (try dsimp only at hSw); go_simp⟩) hSx ?_
              try simp only [Act.put]
              refine wpAnyH_take (i := 2) (v := .int .i64 (i : Int)) rfl (by kernel_rfl) (by kernel_rfl) (by kernel_rfl) (fun _ _ _ h => h) (Or.inl ⟨by rfl, fun w' hSw => by (try dsimp only at hSw); go_simp⟩) hSx ?_
              try simp only [Act.put]
              refine wpAnyH_take (i := 3) (v := .int .i64 (n : Int)) rfl (by kernel_rfl) (by kernel_rfl) (by kernel_rfl) (fun _ _ _ h => h) (Or.inl ⟨by rfl, fun w' hSw => by (try dsimp only at hSw); go_simp⟩) hSx ?_
              try simp only [Act.put]
              refine wpAnyH_take (i := 4) (v := .int .i64 (m : Int)) rfl (by kernel_rfl) (by kernel_rfl) (by kernel_rfl) (fun _ _ _ h => h) (Or.inl ⟨by rfl, fun w' hSw => by (try dsimp only at hSw); go_simp⟩) hSx ?_
              try simp only [Act.put]
              refine wpAnyH_take (i := 5) (v := .int .i64 (j : Int)) rfl (by kernel_rfl) (by kernel_rfl) (by kernel_rfl) (fun _ _ _ h => h) (Or.inl ⟨by rfl, fun w' hSw => by (try dsimp only at hSw); go_simp⟩) hSx ?_
              try simp only [Act.put]
              refine wpAnyH_take (i := 6) (v := .int .i64 (k : Int)) rfl (by kernel_rfl) (by kernel_rfl) (by kernel_rfl) (fun _ _ _ h => h) (Or.inl ⟨by rfl, fun w' hSw => by (try dsimp only at hSw); go_simp⟩) hSx ?_
              try simp only [Act.put]
              refine wpAnyH_take (i := 7) (v := .pointer (some ⟨tb, 1, none⟩)) rfl (by kernel_rfl) (by kernel_rfl) (by kernel_rfl) (fun _ _ _ h => h) (Or.inl ⟨by rfl, fun w' hSw => by (try dsimp only at hSw); go_simp⟩) hSx ?_
              try simp only [Act.put]
              refine wpAnyH_take (i := 8) (v := .slice (some ⟨g, 0, none⟩) z cp) rfl (by kernel_rfl) (by kernel_rfl) (by kernel_rfl) (fun _ _ _ h => h) (Or.inl ⟨by rfl, fun w' hSw => by (try dsimp only at hSw); go_simp⟩) hSx ?_
              try simp only [Act.put]
              refine wpAnyH_take (i := 9) (v := .int .i64 (i : Int)) rfl (by kernel_rfl) (by kernel_rfl) (by kernel_rfl) (fun _ _ _ h => h) (Or.inl ⟨by rfl, fun w' hSw => by (try dsimp only at hSw); go_simp⟩) hSx ?_
              try simp only [Act.put]
              refine wpAnyH_take (i := 10) (v := .int .i64 (n : Int)) rfl (by kernel_rfl) (by kernel_rfl) (by kernel_rfl) (fun _ _ _ h => h) (Or.inl ⟨by rfl, fun w' hSw => by (try dsimp only at hSw); go_simp⟩) hSx ?_
              try simp only [Act.put]
              refine wpAnyH_take (i := 11) (v := .int .i64 (m : Int)) rfl (by kernel_rfl) (by kernel_rfl) (by kernel_rfl) (fun _ _ _ h => h) (Or.inl ⟨by rfl, fun w' hSw => by (try dsimp only at hSw); go_simp⟩) hSx ?_
              try simp only [Act.put]
              refine wpAnyH_take (i := 12) (v := .int .i64 (j : Int)) rfl (by kernel_rfl) (by kernel_rfl) (by kernel_rfl) (fun _ _ _ h => h) (Or.inl ⟨by rfl, fun w' hSw => by (try dsimp only at hSw); go_simp⟩) hSx ?_
              try simp only [Act.put]
              refine wpAnyH_take (i := 13) (v := .int .i64 (k : Int)) rfl (by kernel_rfl) (by kernel_rfl) (by kernel_rfl) (fun _ _ _ h => h) (Or.inl ⟨by rfl, fun w' hSw => by (try dsimp only at hSw); go_simp⟩) hSx ?_
              try simp only [Act.put]
              refine wpAnyH_take (i := 14) (v := .pointer (some ⟨g, k, none⟩)) rfl (by kernel_rfl) (by kernel_rfl) (by kernel_rfl) (fun _ _ _ h => h) (Or.inl ⟨by rfl, fun w' hSw => by (try dsimp only at hSw); go_simp⟩) hSx ?_
              try simp only [Act.put]
              refine wpAnyH_take (i := 16) (v := .int .i64 x) rfl (by kernel_rfl) (by kernel_rfl) (by kernel_rfl) (fun _ _ _ h => h) (Or.inl ⟨by rfl, fun w' hSw => by (try dsimp only at hSw); go_simp⟩) hSx ?_
              try simp only [Act.put]
              refine wpAnyH_ready (rs := [15]) (by kernel_rfl) (by simp) ?_
              refine AllReadyH.cons rfl (fun J hJ => ?_) AllReadyH.nil
              go_simp
              refine hJ.out _ _ hSx (fun hSx => ?_)
              clear hJ J
              try simp only [Act.put, List.setIfInBounds_toArray, List.set_cons_zero, List.set_cons_succ]
              refine wpAnyH_take (i := 17) (v := .int .i64 e) rfl (by kernel_rfl) (by kernel_rfl) (by kernel_rfl) (fun _ _ _ h => h) (Or.inl ⟨by rfl, fun w' hSw => by (try dsimp only at hSw); go_simp⟩) hSx ?_
              try simp only [Act.put, List.setIfInBounds_toArray]
              refine wpAnyH_take (i := 18) (v := .pointer (some ⟨g, k, none⟩)) rfl (by kernel_rfl) (by kernel_rfl) (by kernel_rfl) (fun _ _ _ h => h) (Or.inl ⟨by rfl, fun w' hSw => by (try dsimp only at hSw); go_simp⟩) hSx ?_
              try simp only [Act.put]
              refine wpAnyH_ready (rs := [19]) (by kernel_rfl) (by simp) ?_
              refine AllReadyH.cons rfl (fun J hJ => ?_) AllReadyH.nil
              go_simp
              refine hJ.out _ _ hT2 (fun hSx => ?_)
              clear hJ J
              try simp only [Act.put, List.setIfInBounds_toArray, List.set_cons_zero, List.set_cons_succ]
              refine wpAnyH_done (by kernel_rfl) ?_ _
              refine NoPanic.normal ?_
              clear hSx
              clear hT1 hT2 ck fk
              go_wp2
              go_roundw
              case rel => exact ⟨i + 1, by go_num, by omega, HO3.out, hR4, hR5, hB3.drew⟩
              case measure => simp [intOf]; omega
            · have hdi : decide ((i : Int) < (n : Int)) = false := by simp; omega
              have hO4 := hO2.congr (f' := stC n A (j + 1) 0) (fun q hq => by rw [show i = n by omega]; exact stC_next A (by rw [Hz.out]; exact hq))
              go_wp2
              go_roundw
              case rel => exact ⟨j + 1, by go_num, by omega, hO4, hR2, hR3, hB2⟩
              case measure => simp [intOf]; omega
        · have hdo : decide ((j : Int) < (n : Int)) = false := by simp; omega
          have hO4 := hO2.congr (f' := stC n A n 0) (fun q _ => by rw [show j = n by omega])
          have hS := hO4.sl cp
          have t0 : wr.cell? ⟨tb, 0, none⟩ = some (.int .i64 (n : Int)) := by rw [cell_of_row _ _ _ _ _ _ hR2]; rfl
          have a2 : wr.cell? ⟨w.heap.size + 1, 0, none⟩ = some (.int .i64 0) := by rw [cell_of_row _ _ _ _ _ _ hR3]; rfl
          have a3 : wr.cell? ⟨w.heap.size + 1, 1, none⟩ = some (.slice none 0 0) := by rw [cell_of_row _ _ _ _ _ _ hR3]; rfl
          have f0 := frozen_of_row wr (w.heap.size + 1) 0 _ _ hR3
          have f1 := frozen_of_row wr (w.heap.size + 1) 1 _ _ hR3
          have hn1 := heap_setCell_same wr (w.heap.size + 1) 0 _ _ (.int .i64 (n : Int)) hR3
          have hn2 := heap_setCell_same _ (w.heap.size + 1) 1 _ _ (.slice (some ⟨g, 0, none⟩) z cp) hn1
          have hS2 := ((hO4.other ⟨w.heap.size + 1, 0, none⟩ (.int .i64 (n : Int)) (by show g ≠ w.heap.size + 1; omega)).other ⟨w.heap.size + 1, 1, none⟩ (.slice (some ⟨g, 0, none⟩) z cp) (by show g ≠ w.heap.size + 1; omega)).sl cp
          have hB3 := (hB2.setCell (p := ⟨w.heap.size + 1, 0, none⟩) (by show w.heap.size ≤ w.heap.size + 1; omega) (.int .i64 (n : Int))).setCell (p := ⟨w.heap.size + 1, 1, none⟩) (by show w.heap.size ≤ w.heap.size + 1; omega) (.slice (some ⟨g, 0, none⟩) z cp)
          have HS2 : Hid _ := hS2
          clear hS hO4 hO2 hS2 hn1
          go_wp2
          exact post_sq 2 Try.results14 rfl hn2 rfl ⟨⟨_, rfl, HS2.out⟩, hB3⟩
end Go.Proofs.Ytamdpcajfgbagaa
