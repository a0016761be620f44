/- The walk of the room's normalRow. -/
import Derived.Test.YtgdkfbgehbdkjaaDoorB3
namespace Go.Proofs.YtgdkfbgehbdkjaaDoor
open Go.RowKit

/-- A row of one's own, whole. -/
def OwnN (w : World) (g n : Nat) (f : Nat → Nat) : Prop := ∃ cur, w.heap[g]? = some (.cells cur 3 (0, 0)) ∧ cur.size = n ∧ ∀ j, j < n → cur[j]? = some (.int .i64 (f j : Int))
theorem OwnN.lt {w : World} {g n : Nat} {f : Nat → Nat} (h : OwnN w g n f) : g < w.heap.size := by obtain ⟨c, h, _⟩ := h; exact (Array.getElem?_eq_some_iff.1 h).1
theorem OwnN.below {w w' : World} {g n : Nat} {f : Nat → Nat} (h : OwnN w g n f) (b : Below w.heap.size w w') : OwnN w' g n f := by
  have := h.lt
  obtain ⟨c, h, e⟩ := h
  exact ⟨c, (b.block g this).trans h, e⟩
theorem OwnN.cell {w : World} {g n : Nat} {f : Nat → Nat} (h : OwnN w g n f) {j : Nat} (hj : j < n) : w.cell? ⟨g, j, none⟩ = some (.int .i64 (f j : Int)) := by
  obtain ⟨c, h, _, e⟩ := h
  rw [cell_of_row w g j _ _ _ h, e j hj]
theorem OwnN.frozen {w : World} {g n : Nat} {f : Nat → Nat} (h : OwnN w g n f) (j : Nat) : w.frozen? ⟨g, j, none⟩ = false := by
  obtain ⟨c, h, _⟩ := h
  exact frozen_of_row w g j _ _ h
theorem OwnN.set {w : World} {g n : Nat} {f f' : Nat → Nat} (h : OwnN w g n f) (i v : Nat) (e : ∀ j, j < n → (if j = i then v else f j) = f' j) : OwnN (w.setCell ⟨g, i, none⟩ (.int .i64 (v : Int))) g n f' := by
  obtain ⟨c, h, hs, hc⟩ := h
  refine ⟨_, heap_setCell_same w g i _ _ _ h, by simpa using hs, fun j hj => ?_⟩
  rw [Array.getElem?_setIfInBounds, ← e j hj]
  by_cases e1 : i = j
  · subst e1; rw [if_pos rfl, if_pos (by omega), if_pos rfl]
  · rw [if_neg e1, if_neg (fun h => e1 h.symm), hc j hj]
theorem OwnN.drew {w : World} {g n : Nat} {f : Nat → Nat} (h : OwnN w g n f) : OwnN w.drew g n f := h
theorem own_new (w : World) (n : Nat) : OwnN (w.alloc (.cells (madeCells #[.int .i64 0] n) 3)) w.heap.size n (fun _ => 0) := by
  refine ⟨_, heap_alloc_new w _, by rw [size_madeCells], fun j hj => ?_⟩
  have hs : j < (madeCells #[Value.int .i64 0] n).size := by rw [size_madeCells]; exact hj
  rw [Array.getElem?_eq_getElem hs]
  simp [madeCells, Nat.mod_one]
theorem OwnN.orow {w : World} {g n base : Nat} {f : Nat → Nat} (h : OwnN w g n f) (hb : base ≤ g) (hn : n ≤ 99) : ORow w base (.slice (some ⟨g, 0, none⟩) n n) (ofF n f) := by
  obtain ⟨c, h, hs, hc⟩ := h
  have hl : (ofF n f).length = n := by simp [ofF]
  unfold ORow
  rw [hl]
  refine ⟨by simp [ofF], .inr ⟨g, n, c, rfl, hb, h, Nat.le_refl _, by unfold maxLen; omega, by omega, ?_⟩⟩
  refine List.ext_getElem? fun j => ?_
  by_cases hj : j < n
  · rw [List.getElem?_take, if_pos (by omega), Array.getElem?_toList, hc j hj]
    simp [ofF, hj]
  · rw [List.getElem?_take, if_neg (by omega), List.getElem?_eq_none (by simp [ofF]; omega)]
theorem run_makeN (n : Nat) (hn : n ≤ 100000) (w : World) : (Instr.makeSlice 22 (.int .i64 (n : Int)) (.int .i64 (n : Int))).run Tryd.prog w = .ok (.slice (some ⟨w.heap.size, 0, none⟩) n n) (w.alloc (.cells (madeCells #[.int .i64 0] n) 3)) := by
  obtain ⟨i4, hi, hz0, hz1, hz2⟩ := info3
  have h := run_make (P := Tryd.prog) w 22 3 i4 (.int .i64 0) und22 hi hz0 .i64 .i64 n n (by omega) (by omega) (by rw [hz2]; omega) (by omega)
  simpa [hz1, Value.cells] using h
/-- The row on its way. -/
def nrT (ng : Nat → Nat) (c : Nat) (X : List (List Nat)) (i : Nat) : Nat → Nat := (X.take i).foldl (nrUp ng c) fun j => if j = c then 1 else 0
theorem nrT_next {ng : Nat → Nat} {c : Nat} {X : List (List Nat)} {i : Nat} {r : List Nat} (h : X[i]? = some r) : nrT ng c X (i + 1) = nrUp ng c (nrT ng c X i) r := by
  unfold nrT
  rw [List.take_add_one, h, Option.toList_some, List.foldl_append]
  rfl
theorem nrT_all (ng : Nat → Nat) (c : Nat) (X : List (List Nat)) : nrT ng c X X.length = nrF ng c X := by unfold nrT nrF; rw [List.take_length]
set_option maxRecDepth 100000 in
set_option maxHeartbeats 16000000 in
theorem normalRow_any (P K n c : Nat) (l : List Int) (v u : Value) (X : List (List Nat)) (w : World) (hF : Fld P K l v w) (hu : Rw w u (toZ X)) (hX : Rref (P ^ K) n X) (hc : c < n) (hn : n ≤ 6) (hR : X.length ≤ 99) :
    Calls Tryd.prog 53 #[rmV P K v n, u, .int .i64 (c : Int)] w fun e w' => ∃ x, e = .returned x ∧ ORow w' w.heap.size x (ofF n (nrF (ngF P K) c X)) ∧ Below w.heap.size w w' := by
  have hfq := hF.fqr
  obtain ⟨R, HR⟩ : ∃ R, Hid (X.length = R) := ⟨_, rfl⟩
  have hzl : (toZ X).length = R := by rw [← HR.out]; simp [toZ]
  have HE : Hid (nrT (ngF P K) c X R = nrF (ngF P K) c X) := by show _ = _; rw [← HR.out]; exact nrT_all _ c X
  rw [HR.out] at hR
  have hmk := run_makeN n (by omega)
  have HU : Hid (∀ W, Below w.heap.size w W → Rw W u (toZ X)) := fun W b => hu.below b
  have HAt : Hid (∀ i, i < R → ∃ s, X[i]? = some s ∧ (toZ X)[i]? = some (s.map Int.ofNat) ∧ Vc (P ^ K) n s ∧ ldV s < n) := fun i hi => by
    have hi' : i < X.length := by rw [HR.out]; exact hi
    have hm := List.getElem_mem hi'
    exact ⟨X[i], by simp, by simp [toZ, hi'], hX.rws _ hm, (hX.one _ hm).1⟩
  have HLes : Hid (∀ W, Below w.heap.size w W → ∀ a, a < P ^ K → ∀ s, Hid (ngF P K a = s) → Calls Tryd.prog 67 #[rmV P K v n, .int .i64 (a : Int)] W fun e w' => e = .returned (.int .i64 (s : Int)) ∧ Below W.heap.size W w') := fun W b x hx s hs => rless_any P K n x l v W (hF.below b) hx s hs
  obtain ⟨ng, Hng⟩ : ∃ ng, Hid (ngF P K = ng) := ⟨_, rfl⟩
  obtain ⟨q, Hq⟩ : ∃ q, Hid (P ^ K = q) := ⟨_, rfl⟩
  have hq0 : 0 < q := by rw [← Hq.out]; exact hfq.pos
  rw [Hng.out] at HLes HE ⊢
  rw [Hq.out] at HLes HAt
  obtain ⟨fa, fn, fc, rfl⟩ : ∃ fa fn fc, v = .slice fa fn fc := by obtain ⟨a, c, e, _⟩ := hF.sl; exact ⟨a, _, c, e⟩
  obtain ⟨a, ac, rfl, _⟩ := id hu
  rw [hzl] at HU ⊢
  have b1 := balloc w (.cells #[.int .i64 (P : Int), .int .i64 (K : Int), .slice fa fn fc, .int .i64 (n : Int)] 50)
  have b2 := balloc (w.alloc (.cells #[.int .i64 (P : Int), .int .i64 (K : Int), .slice fa fn fc, .int .i64 (n : Int)] 50)) (.cells (madeCells #[.int .i64 0] n) 3)
  have hr0 : RmB (w.alloc (.cells #[.int .i64 (P : Int), .int .i64 (K : Int), .slice fa fn fc, .int .i64 (n : Int)] 50)) w.heap.size (P : Int) (K : Int) (.slice fa fn fc) (n : Int) := heap_alloc_new w _
  have hs1 : (w.alloc (.cells #[.int .i64 (P : Int), .int .i64 (K : Int), .slice fa fn fc, .int .i64 (n : Int)] 50)).heap.size = w.heap.size + 1 := by simp
  have hm0 := own_new (w.alloc (.cells #[.int .i64 (P : Int), .int .i64 (K : Int), .slice fa fn fc, .int .i64 (n : Int)] 50)) n
  rw [hs1] at hm0
  have hr1 := hr0.below b2
  have hcc := hm0.cell hc
  have hcf := hm0.frozen c
  have hm1 := hm0.set (f' := nrT ng c X 0) c 1 (fun j _ => by unfold nrT; rfl)
  have hr2 := (heap_setCell_other _ (⟨w.heap.size + 1, c, none⟩ : Addr) _ (.int .i64 (1 : Int)) (by simp)).trans hr1
  have b3 := (Below.next b1 b2).setCell (p := ⟨w.heap.size + 1, c, none⟩) (by simp) (.int .i64 (1 : Int))
  rw [World.setCell_alloc_at _ _ _ _ _ hs1.symm] at hm1 hr2 b3
  obtain ⟨w1, Hw1⟩ : ∃ w1, Hid ((w.alloc (.cells #[.int .i64 (P : Int), .int .i64 (K : Int), .slice fa fn fc, .int .i64 (n : Int)] 50)).alloc (.cells ((madeCells #[.int .i64 0] n).setIfInBounds c (.int .i64 1)) 3) = w1) := ⟨_, rfl⟩
  have HM1 : Hid (OwnN w1 (w.heap.size + 1) n (nrT ng c X 0)) := by rw [← Hw1.out]; exact hm1
  have HR1 : Hid (RmB w1 w.heap.size (P : Int) (K : Int) (.slice fa fn fc) (n : Int)) := by rw [← Hw1.out]; exact hr2
  have HB1 : Hid (Below w.heap.size w w1) := by rw [← Hw1.out]; exact b3
  have hci : (c : Int) < (n : Int) := by omega
  obtain ⟨x0, x1, x2, x3⟩ := hr0.cells
  clear hF hu hX hfq b1 b2 b3 hr0 hm0 hr1 hm1 hr2
  go_enter Tryd.func53, Tryd.ntmps53
  go_wp2
  rw [Hw1.out]
  go_loopw [9, 18] (fun _ iv wr => ∃ i : Nat, iv = .int .i64 (i : Int) ∧ i ≤ R ∧ OwnN wr (w.heap.size + 1) n (nrT ng c X i) ∧ RmB wr w.heap.size (P : Int) (K : Int) (.slice fa fn fc) (n : Int) ∧ Below w.heap.size w wr) (fun _ iv _ => (R - intOf iv).toNat)
  case atStart => exact ⟨0, rfl, by omega, HM1.out, HR1.out, HB1.out⟩
  case round =>
    clear HM1 HR1 HB1 hmk x0 x1 x2 x3 hcc hcf
    obtain ⟨i, rfl, hi, hm, hrr, hB⟩ := hrel
    by_cases hlt : i < R
    · have hii : (i : Int) < (R : Int) := by omega
      have hdi : decide ((i : Int) < (R : Int)) = true := by simp; omega
      obtain ⟨s, hXi, hsi, hsv, hsl⟩ := HAt.out i hlt
      obtain ⟨a', ac', e', hr'⟩ := HU.out w (Below.refl _ _)
      obtain ⟨rfl, rfl⟩ : a = a' ∧ ac = ac' := by
        simp only [Value.slice.injEq] at e'
        exact ⟨e'.1, e'.2.2⟩
      obtain ⟨b, off, x, rfl, hcj0, hs0⟩ := hr' i _ hsi
      have hcj := (hB.cell (World.block_lt_of_cell? _ _ hcj0)).trans hcj0
      have hs := hs0.below hB
      have hll : (s.map Int.ofNat).length = n := by rw [List.length_map, hsv.len]
      obtain ⟨xb, xo, xc, rfl, hxb1, hxc⟩ := hs0.form hll (by omega)
      have hcs0 := hxc c hc
      have hcs := (hB.cell (p := ⟨xb, xo + c, none⟩) hxb1).trans hcs0
      have e3 : (s.map Int.ofNat).getD c 0 = ((s.getD c 0 : Nat) : Int) := by
        have : c < s.length := by rw [hsv.len]; exact hc
        simp [List.getD_eq_getElem?_getD, this]
      rw [e3] at hcs
      have hlf := hsv.at hq0 c
      obtain ⟨f, Hf⟩ : ∃ f, Hid (s.getD c 0 = f) := ⟨_, rfl⟩
      rw [Hf.out] at hcs hlf
      obtain ⟨d, Hd⟩ : ∃ d, Hid (ldV s = d) := ⟨_, rfl⟩
      have hdn : d < n := by rw [← Hd.out]; exact hsl
      have hdi2 : (d : Int) < (n : Int) := by omega
      obtain ⟨z, Hz⟩ : ∃ z, Hid (ng f = z) := ⟨_, rfl⟩
      have CL := fun W (hW : Below wr.heap.size wr W) => HLes.out W (Below.next hB hW) f hlf z Hz
      have CD : ∀ W, Below wr.heap.size wr W → Calls Tryd.prog 52 #[.slice (some ⟨xb, xo, none⟩) n xc] W fun e w' => e = .returned (.int .i64 (d : Int)) ∧ w' = W := fun W hW => by
        have h := lead_any s _ W (hs.below hW) (by rw [hsv.len]; exact hsl) (by rw [hsv.len]; omega)
        rw [Hd.out] at h
        exact h
      have HNext : Hid (∀ W, Below wr.heap.size wr W → (∃ u, W.cell? ⟨w.heap.size + 1, d, none⟩ = some u) ∧ W.frozen? ⟨w.heap.size + 1, d, none⟩ = false ∧ OwnN (W.setCell ⟨w.heap.size + 1, d, none⟩ (.int .i64 (z : Int))) (w.heap.size + 1) n (nrT ng c X (i + 1)) ∧ RmB (W.setCell ⟨w.heap.size + 1, d, none⟩ (.int .i64 (z : Int))) w.heap.size (P : Int) (K : Int) (.slice fa fn fc) (n : Int) ∧ Below w.heap.size w (W.setCell ⟨w.heap.size + 1, d, none⟩ (.int .i64 (z : Int))) ∧ (W.setCell ⟨w.heap.size + 1, d, none⟩ (.int .i64 (z : Int))).cell? ⟨xb, xo + c, none⟩ = some (.int .i64 (f : Int))) := fun W hW => by
        have h4 := hm.below hW
        refine ⟨⟨_, h4.cell hdn⟩, h4.frozen d, h4.set d z (fun j _ => ?_), (heap_setCell_other _ _ _ _ (by simp)).trans (hrr.below hW), (Below.next hB hW).setCell (p := ⟨w.heap.size + 1, d, none⟩) (by simp) _, (World.cell?_setCell_far _ _ _ _ (by simp; omega)).trans ((hW.cell (World.block_lt_of_cell? _ _ hcs)).trans hcs)⟩
        rw [nrT_next hXi]
        unfold nrUp
        rw [Hd.out, Hf.out, Hz.out]
      have hS : Hid (∀ W, Below wr.heap.size wr W → (W.cell? ⟨w.heap.size, 0, none⟩ = some (.int .i64 (P : Int)) ∧ W.cell? ⟨w.heap.size, 1, none⟩ = some (.int .i64 (K : Int)) ∧ W.cell? ⟨w.heap.size, 2, none⟩ = some (.slice fa fn fc) ∧ W.cell? ⟨w.heap.size, 3, none⟩ = some (.int .i64 (n : Int)) ∧ W.cell? ⟨xb, xo + c, none⟩ = some (.int .i64 (f : Int)))) := fun W hW => by
        obtain ⟨y0, y1, y2, y3⟩ := (hrr.below hW).cells
        exact ⟨y0, y1, y2, y3, (hW.cell (World.block_lt_of_cell? _ _ hcs)).trans hcs⟩
      have p1 : Below wr.heap.size wr wr := Below.refl _ _
      clear hm hrr hB hr' hs hxc e' hsi hXi e3 hcs hs0 hcj0 hcs0
      go_wp2
      refine wp_region_noPanic ?_
      refine wp_region_held_drew (S := fun W => W.cell? ⟨w.heap.size, 0, none⟩ = some (.int .i64 (P : Int)) ∧ W.cell? ⟨w.heap.size, 1, none⟩ = some (.int .i64 (K : Int)) ∧ W.cell? ⟨w.heap.size, 2, none⟩ = some (.slice fa fn fc) ∧ W.cell? ⟨w.heap.size, 3, none⟩ = some (.int .i64 (n : Int)) ∧ W.cell? ⟨xb, xo + c, none⟩ = some (.int .i64 (f : Int))) (by kernel_rfl) (hS.out _ p1.drew) (fun hSx => ?_)
      refine wpAnyH_take (i := 0) (v := .slice (some ⟨w.heap.size + 1, 0, none⟩) n n) rfl (by kernel_rfl) (by kernel_rfl) (by kernel_rfl) (fun _ _ _ h => h) (Or.inl ⟨by rfl, fun w' hSw => by (try dsimp only at hSw); obtain ⟨hs0, hs1, hs2, hs3, hs4⟩ := hSw; go_simp⟩) hSx ?_
      try simp only [Act.put, List.setIfInBounds_toArray]
      refine wpAnyH_take (i := 1) (v := .slice (some ⟨xb, xo, none⟩) n xc) rfl (by kernel_rfl) (by kernel_rfl) (by kernel_rfl) (fun _ _ _ h => h) (Or.inl ⟨by rfl, fun w' hSw => by (try dsimp only at hSw); obtain ⟨hs0, hs1, hs2, hs3, hs4⟩ := hSw; go_simp⟩) hSx ?_
      try simp only [Act.put]
      refine wpAnyH_take (i := 3) (v := .agg #[.int .i64 (P : Int), .int .i64 (K : Int), .slice fa fn fc, .int .i64 (n : Int)]) rfl (by kernel_rfl) (by kernel_rfl) (by kernel_rfl) (fun _ _ _ h => h) (Or.inl ⟨by rfl, fun w' hSw => by (try dsimp only at hSw); obtain ⟨hs0, hs1, hs2, hs3, hs4⟩ := hSw; go_simp⟩) hSx ?_
      try simp only [Act.put]
      refine wpAnyH_take (i := 4) (v := .slice (some ⟨xb, xo, none⟩) n xc) rfl (by kernel_rfl) (by kernel_rfl) (by kernel_rfl) (fun _ _ _ h => h) (Or.inl ⟨by rfl, fun w' hSw => by (try dsimp only at hSw); obtain ⟨hs0, hs1, hs2, hs3, hs4⟩ := hSw; go_simp⟩) hSx ?_
      try simp only [Act.put]
      refine wpAnyH_take (i := 5) (v := .int .i64 (c : Int)) rfl (by kernel_rfl) (by kernel_rfl) (by kernel_rfl) (fun _ _ _ h => h) (Or.inl ⟨by rfl, fun w' hSw => by (try dsimp only at hSw); obtain ⟨hs0, hs1, hs2, hs3, hs4⟩ := hSw; go_simp⟩) hSx ?_
      try simp only [Act.put]
      refine wpAnyH_take (i := 6) (v := .pointer (some ⟨xb, xo + c, none⟩)) rfl (by kernel_rfl) (by kernel_rfl) (by kernel_rfl) (fun _ _ _ h => h) (Or.inl ⟨by rfl, fun w' hSw => by (try dsimp only at hSw); obtain ⟨hs0, hs1, hs2, hs3, hs4⟩ := hSw; go_simp⟩) hSx ?_
      try simp only [Act.put]
      refine wpAnyH_take (i := 7) (v := .int .i64 (f : Int)) rfl (by kernel_rfl) (by kernel_rfl) (by kernel_rfl) (fun _ _ _ h => h) (Or.inl ⟨by rfl, fun w' hSw => by (try dsimp only at hSw); obtain ⟨hs0, hs1, hs2, hs3, hs4⟩ := hSw; go_simp⟩) hSx ?_
      try simp only [Act.put]
      refine wpAnyH_ready (rs := [2]) (by kernel_rfl) (by simp) ?_
      refine (AllReadyH.cons rfl (fun J hJ => ?_) AllReadyH.nil)
      go_simp
      refine (CD _ p1.drew).mono ?_
      rintro e w2 ⟨rfl, h2⟩
      replace h2 := h2.symm
      subst h2
      go_wp2_with fail
      refine hJ.out _ _ (hS.out _ p1.drew) (fun hSx => ?_)
      clear hJ J
      try simp only [Act.put, List.setIfInBounds_toArray, List.set_cons_zero, List.set_cons_succ]
      refine wpAnyH_ready (rs := [8]) (by kernel_rfl) (by simp) ?_
      refine (AllReadyH.cons rfl (fun J hJ => ?_) AllReadyH.nil)
      go_simp
      refine (CL _ p1.drew).mono ?_
      rintro e w3 ⟨rfl, bv1⟩
      have p2 : Below wr.heap.size wr w3 := Below.next p1.drew bv1
      go_wp2_with fail
      refine hJ.out _ _ (hS.out _ p2) (fun hSx => ?_)
      clear hJ J
      try simp only [Act.put, List.setIfInBounds_toArray, List.set_cons_zero, List.set_cons_succ]
      refine wpAnyH_take (i := 9) (v := .pointer (some ⟨w.heap.size + 1, d, none⟩)) rfl (by kernel_rfl) (by kernel_rfl) (by kernel_rfl) (fun _ _ _ h => h) (Or.inl ⟨by rfl, fun w' hSw => by (try dsimp only at hSw); obtain ⟨hs0, hs1, hs2, hs3, hs4⟩ := hSw; go_simp⟩) hSx ?_
      try simp only [Act.put, List.setIfInBounds_toArray]
      obtain ⟨⟨uu, n1⟩, n2, n3, n4, n5, n6⟩ := HNext.out _ p2
      refine wpAnyH_ready (rs := [10]) (by kernel_rfl) (by simp) ?_
      refine (AllReadyH.cons rfl (fun J hJ => ?_) AllReadyH.nil)
      go_simp
      obtain ⟨y0, y1, y2, y3⟩ := n4.cells
      refine hJ.out _ _ (⟨y0, y1, y2, y3, n6⟩) (fun hSx => ?_)
      clear hJ J
      try simp only [Act.put, List.setIfInBounds_toArray, List.set_cons_zero, List.set_cons_succ]
      refine wpAnyH_done (by kernel_rfl) ?_ _
      refine NoPanic.normal ?_
      clear hSx hS CL CD
      go_wp2
      go_roundw
      case rel => exact ⟨i + 1, by go_num, by omega, n3, n4, n5⟩
      case measure => simp [intOf]; omega
    · have hdi : decide ((i : Int) < (R : Int)) = false := by simp; omega
      obtain rfl : R = i := by omega
      rw [HE.out] at hm
      go_wp2
      go_ret
      exact ⟨_, rfl, hm.orow (by omega) (by omega), hB⟩
end Go.Proofs.YtgdkfbgehbdkjaaDoor
