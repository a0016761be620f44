/- The document's RoundsOf, walked. -/
import Derived.Test.YtpeplnojmogkfaaQ7
namespace Go.Proofs.Ytpeplnojmogkfaa
open Go.RowKit

/-- A row of one's own, whole. -/
def OwnN (w : World) (g n : Nat) (f : Nat → Nat) : Prop := ∃ cur, w.heap[g]? = some (.cells cur 3 (0, 0)) ∧ cur.size = n ∧ ∀ j, j < n → cur[j]? = some (.int .i64 (f j : Int))
theorem OwnN.lt {w : World} {g n : Nat} {f : Nat → Nat} (h : OwnN w g n f) : g < w.heap.size := by obtain ⟨c, h, _⟩ := h; exact (Array.getElem?_eq_some_iff.1 h).1
theorem OwnN.below {w w' : World} {g n : Nat} {f : Nat → Nat} (h : OwnN w g n f) (b : Below w.heap.size w w') : OwnN w' g n f := by
  have := h.lt
  obtain ⟨c, h, e⟩ := h
  exact ⟨c, (b.block g this).trans h, e⟩
theorem OwnN.cell {w : World} {g n : Nat} {f : Nat → Nat} (h : OwnN w g n f) {j : Nat} (hj : j < n) : w.cell? ⟨g, j, none⟩ = some (.int .i64 (f j : Int)) := by
  obtain ⟨c, h, _, e⟩ := h
  rw [cell_of_row w g j _ _ _ h, e j hj]
theorem OwnN.frozen {w : World} {g n : Nat} {f : Nat → Nat} (h : OwnN w g n f) (j : Nat) : w.frozen? ⟨g, j, none⟩ = false := by
  obtain ⟨c, h, _⟩ := h
  exact frozen_of_row w g j _ _ h
theorem OwnN.set {w : World} {g n : Nat} {f f' : Nat → Nat} (h : OwnN w g n f) (i v : Nat) (e : ∀ j, j < n → (if j = i then v else f j) = f' j) : OwnN (w.setCell ⟨g, i, none⟩ (.int .i64 (v : Int))) g n f' := by
  obtain ⟨c, h, hs, hc⟩ := h
  refine ⟨_, heap_setCell_same w g i _ _ _ h, by simpa using hs, fun j hj => ?_⟩
  rw [Array.getElem?_setIfInBounds, ← e j hj]
  by_cases e1 : i = j
  · subst e1; rw [if_pos rfl, if_pos (by omega), if_pos rfl]
  · rw [if_neg e1, if_neg (fun h => e1 h.symm), hc j hj]
theorem OwnN.drew {w : World} {g n : Nat} {f : Nat → Nat} (h : OwnN w g n f) : OwnN w.drew g n f := h
theorem own_new (w : World) (n : Nat) : OwnN (w.alloc (.cells (madeCells #[.int .i64 0] n) 3)) w.heap.size n (fun _ => 0) := by
  refine ⟨_, heap_alloc_new w _, by rw [size_madeCells], fun j hj => ?_⟩
  have hs : j < (madeCells #[Value.int .i64 0] n).size := by rw [size_madeCells]; exact hj
  rw [Array.getElem?_eq_getElem hs]
  simp [madeCells, Nat.mod_one]
theorem OwnN.orow {w : World} {g n base : Nat} {f : Nat → Nat} (h : OwnN w g n f) (hb : base ≤ g) (hn : n ≤ 99) : ORow w base (.slice (some ⟨g, 0, none⟩) n n) ((List.range n).map f) := by
  obtain ⟨c, h, hs, hc⟩ := h
  have hl : ((List.range n).map f).length = n := by simp
  unfold ORow
  rw [hl]
  refine ⟨by simp, .inr ⟨g, n, c, rfl, hb, h, Nat.le_refl _, by unfold maxLen; omega, by omega, ?_⟩⟩
  refine List.ext_getElem? fun j => ?_
  by_cases hj : j < n
  · rw [List.getElem?_take, if_pos (by omega), Array.getElem?_toList, hc j hj]
    simp [hj]
  · rw [List.getElem?_take, if_neg (by omega), List.getElem?_eq_none (by simp; omega)]
theorem run_makeN (n : Nat) (hn : n ≤ 100000) (w : World) : (Instr.makeSlice 38 (.int .i64 (n : Int)) (.int .i64 (n : Int))).run Try.prog w = .ok (.slice (some ⟨w.heap.size, 0, none⟩) n n) (w.alloc (.cells (madeCells #[.int .i64 0] n) 3)) := by
  obtain ⟨i4, hi, hz0, hz1, hz2⟩ := info3
  have h := run_make (P := Try.prog) w 38 3 i4 (.int .i64 0) und22 hi hz0 .i64 .i64 n n (by omega) (by omega) (by rw [hz2]; omega) (by omega)
  simpa [hz1, Value.cells] using h

theorem own_newS (w : World) (n i j x y : Nat) : OwnN (w.alloc (.cells (((madeCells #[.int .i64 0] n).setIfInBounds i (.int .i64 (x : Int))).setIfInBounds j (.int .i64 (y : Int))) 3)) w.heap.size n (upF1 (upF1 (fun _ => 0) i x) j y) := by
  refine ⟨_, heap_alloc_new w _, by rw [Array.size_setIfInBounds, Array.size_setIfInBounds, size_madeCells], fun t ht => ?_⟩
  have hs : t < (madeCells #[Value.int .i64 0] n).size := by rw [size_madeCells]; exact ht
  have h0 : (madeCells #[Value.int .i64 0] n)[t]? = some (.int .i64 ((0 : Nat) : Int)) := by
    rw [Array.getElem?_eq_getElem hs]
    simp [madeCells, Nat.mod_one]
  unfold upF1
  rw [Array.getElem?_setIfInBounds]
  by_cases e1 : j = t
  · subst e1
    rw [if_pos rfl, if_pos (by rw [Array.size_setIfInBounds]; exact hs), if_pos rfl]
  · rw [if_neg e1, if_neg (fun h => e1 h.symm), Array.getElem?_setIfInBounds]
    by_cases e2 : i = t
    · subst e2
      rw [if_pos rfl, if_pos hs, if_pos rfl]
    · rw [if_neg e2, if_neg (fun h => e2 h.symm)]
      exact h0
theorem made_at {n t : Nat} (ht : t < n) : (madeCells #[Value.int .i64 0] n)[t]? = some (.int .i64 0) := by
  have hs : t < (madeCells #[Value.int .i64 0] n).size := by rw [size_madeCells]; exact ht
  rw [Array.getElem?_eq_getElem hs]
  simp [madeCells, Nat.mod_one]
theorem made_at1 {n t i : Nat} (x : Value) (ht : t < n) (h : i ≠ t) : ((madeCells #[Value.int .i64 0] n).setIfInBounds i x)[t]? = some (.int .i64 0) := by
  rw [Array.getElem?_setIfInBounds, if_neg h]
  exact made_at ht
/-- What is laid of the first pairs. -/
def dvT (v r : Nat) (qs : List (Nat × Nat)) (i : Nat) : Nat → Nat := asL (asg v r (qs.take i)) fun _ => 0
theorem dvT_more {v r i : Nat} {qs : List (Nat × Nat)} {p : Nat × Nat} (h : qs[i]? = some p) : dvT v r qs (i + 1) = upF1 (upF1 (dvT v r qs i) ((p.1 + r) % v) ((p.2 + r) % v)) ((p.2 + r) % v) ((p.1 + r) % v) := by
  unfold dvT asg
  rw [List.take_add_one, h, Option.toList_some, List.flatMap_append, ← List.append_assoc, asL_append]
  rfl
def dvTR (v : Nat) (qs : List (Nat × Nat)) (r : Nat) : List (List Nat) := (List.range r).map fun r => dvL v r qs
theorem dvTR_more (v : Nat) (qs : List (Nat × Nat)) (r : Nat) : dvTR v qs (r + 1) = dvTR v qs r ++ [dvL v r qs] := by unfold dvTR; rw [List.range_succ, List.map_append]; rfl
theorem dvTR_len (v : Nat) (qs : List (Nat × Nat)) (r : Nat) : (dvTR v qs r).length = r := by simp [dvTR]
set_option maxRecDepth 100000 in
set_option maxHeartbeats 16000000 in
theorem RoundsOf_any (V : Nat) (qs : List (Nat × Nat)) (pv : Value) (w : World) (hv : Rw w pv (prZ qs)) (hS : St V qs) :
    Calls Try.prog 22 #[.int .i64 (V : Int), pv] w fun e w' => (∃ y, e = .returned y ∧ OR w' w.heap.size y (dvR V qs)) ∧ Below w.heap.size w w' := by
  have HV : Hid (∀ W, Below w.heap.size w W → Rw W pv (prZ qs)) := fun W b => hv.below b
  have HRG : Hid (∀ (i : Nat) p, qs[i]? = some p → p.1 < V ∧ p.2 < V) := fun i p h => ⟨(hS.rng p (List.mem_of_getElem? h)).1.2, (hS.rng p (List.mem_of_getElem? h)).2.2⟩
  have hV3 := hS.v3
  have hV15 := hS.v15
  have hln := hS.len
  obtain ⟨a, cap, rfl, -⟩ := hv
  obtain ⟨m, Hm⟩ : ∃ m, Hid (qs.length = m) := ⟨_, rfl⟩
  have HAT : Hid (∀ i, i < m → ∃ p, qs[i]? = some p) := fun i hi => ⟨_, List.getElem?_eq_getElem (by rw [Hm.out]; exact hi)⟩
  rw [Hm.out] at hln
  have hm7 : m ≤ 7 := by omega
  rw [prZ_len, Hm.out]
  obtain ⟨i36, ji3, jz0, jz1, jz2⟩ := info36
  have HE : Hid (dvTR V qs V = dvR V qs) := rfl
  rw [← HE.out]
  obtain ⟨V1, HV1⟩ : ∃ V1, Hid (V + 1 = V1) := ⟨_, rfl⟩
  have hVi : (V : Int) + 1 = (V1 : Int) := by rw [← HV1.out]; omega
  have hV1 : V1 ≤ 16 := by rw [← HV1.out]; omega
  have hVV : (V : Int) < (V1 : Int) := by omega
  have hVn : V < V1 := by omega
  have hmk := fun w => run_makeN V1 (by omega) w
  have hV0 : ¬ V = 0 := by omega
  clear hS hln HE
  go_enter Try.func22, Try.ntmps22
  go_wp2
  go_loopw [5, 6] (fun ov rv wr => ∃ (r : Nat) (oa : Option Addr) (oc : Nat), rv = .int .i64 (r : Int) ∧ ov = .slice oa r oc ∧ r ≤ V ∧ OR wr w.heap.size (.slice oa r oc) (dvTR V qs r) ∧ Below w.heap.size w wr) (fun _ rv _ => (V - intOf rv).toNat)
  case atStart => exact ⟨0, none, 0, rfl, rfl, by omega, OR.nil _ _, Below.refl _ _⟩
  case round =>
    obtain ⟨r, oa, oc, rfl, rfl, hr, hO, hB⟩ := hrel
    by_cases hlt : r < V
    · have hdr : decide ((r : Int) < (V : Int)) = true := by simp; omega
      have hri : (r : Int) < (V : Int) := by omega
      have hrV : (r : Int) < (V1 : Int) := by omega
      obtain ⟨w1, hw1⟩ : ∃ w1 : World, w1 = wr := ⟨_, rfl⟩
      subst hw1
      have hsz := hB.size
      have hN0 : OwnN (w1.alloc (.cells (((madeCells #[.int .i64 0] V1).setIfInBounds V (.int .i64 (r : Int))).setIfInBounds r (.int .i64 (V : Int))) 3)) w1.heap.size V1 (dvT V r qs 0) := own_newS w1 V1 V r r V
      have hbN := balloc w1 (.cells (((madeCells #[.int .i64 0] V1).setIfInBounds V (.int .i64 (r : Int))).setIfInBounds r (.int .i64 (V : Int))) 3)
      have HO : Hid (OR w1 w.heap.size (.slice oa r oc) (dvTR V qs r)) := hO
      have HB1 : Hid (Below w.heap.size w w1) := hB
      have HSZ : Hid (w.heap.size ≤ w1.heap.size) := hsz
      have c1 := made_at hVn
      have c2 := made_at1 (n := V1) (t := r) (i := V) (.int .i64 (r : Int)) (by omega) (by omega)
      clear hO hB hsz
      go_wp2
      clear c1 c2
      go_loopw [8] (fun iv wr => ∃ i : Nat, iv = .int .i64 (i : Int) ∧ i ≤ m ∧ OwnN wr w1.heap.size V1 (dvT V r qs i) ∧ Below w1.heap.size w1 wr) (fun iv _ => (m - intOf iv).toNat)
      case atStart => exact ⟨0, rfl, by omega, hN0, hbN⟩
      case round =>
        clear hN0 hbN
        obtain ⟨i, rfl, hi, hN, hB⟩ := hrel
        have hBw : Below w.heap.size w wr := HB1.out.trans (hB.mono HSZ.out)
        by_cases hli : i < m
        · have hdi : decide ((i : Int) < (m : Int)) = true := by simp; omega
          have hii : (i : Int) < (m : Int) := by omega
          obtain ⟨p, hpi⟩ := HAT.out i hli
          obtain ⟨hp1, hp2⟩ := HRG.out i p hpi
          obtain ⟨b, o, g, o1, c1, rfl, hc, hx, hy⟩ := pr_cells (HV.out wr hBw) hpi
          have HDT : Hid (dvT V r qs (i + 1) = upF1 (upF1 (dvT V r qs i) ((p.1 + r) % V) ((p.2 + r) % V)) ((p.2 + r) % V) ((p.1 + r) % V)) := dvT_more hpi
          obtain ⟨X, HX⟩ : ∃ X, Hid (p.1 = X) := ⟨_, rfl⟩
          obtain ⟨Y, HY⟩ : ∃ Y, Hid (p.2 = Y) := ⟨_, rfl⟩
          obtain ⟨t1, Ht1⟩ : ∃ t, Hid (X + r = t) := ⟨_, rfl⟩
          obtain ⟨t2, Ht2⟩ : ∃ t, Hid (Y + r = t) := ⟨_, rfl⟩
          obtain ⟨s1, Hs1⟩ : ∃ s, Hid (t1 % V = s) := ⟨_, rfl⟩
          obtain ⟨s2, Hs2⟩ : ∃ s, Hid (t2 % V = s) := ⟨_, rfl⟩
          rw [HX.out] at hx hp1
          rw [HY.out] at hy hp2
          have HD2 : Hid (dvT V r qs (i + 1) = upF1 (upF1 (dvT V r qs i) s1 s2) s2 s1) := by show _ = _; rw [HDT.out, HX.out, HY.out, Ht1.out, Ht2.out, Hs1.out, Hs2.out]
          have q1 : (X : Int) + (r : Int) = (t1 : Int) := by rw [← Ht1.out]; omega
          have q2 : (Y : Int) + (r : Int) = (t2 : Int) := by rw [← Ht2.out]; omega
          have r1 : (t1 : Int) % (V : Int) = (s1 : Int) := by rw [← Hs1.out]; simp
          have r2 : (t2 : Int) % (V : Int) = (s2 : Int) := by rw [← Hs2.out]; simp
          have r1' : (t1 : Int).tmod (V : Int) = (s1 : Int) := by rw [Int.tmod_eq_emod_of_nonneg (by omega)]; exact r1
          have r2' : (t2 : Int).tmod (V : Int) = (s2 : Int) := by rw [Int.tmod_eq_emod_of_nonneg (by omega)]; exact r2
          have ht1 : t1 ≤ 99 := by rw [← Ht1.out]; omega
          have ht2 : t2 ≤ 99 := by rw [← Ht2.out]; omega
          have hs1 : s1 < V := by rw [← Hs1.out]; exact Nat.mod_lt _ (by omega)
          have hs2 : s2 < V := by rw [← Hs2.out]; exact Nat.mod_lt _ (by omega)
          have hs1i : (s1 : Int) < (V1 : Int) := by omega
          have hs2i : (s2 : Int) < (V1 : Int) := by omega
          have hN1 := hN.set (f' := upF1 (dvT V r qs i) s1 s2) s1 s2 fun j _ => rfl
          have hN2 := hN1.set (f' := upF1 (upF1 (dvT V r qs i) s1 s2) s2 s1) s2 s1 fun j _ => rfl
          have f1 := hN.frozen s1
          have f2 := hN1.frozen s2
          have e1 := hN.cell (show s1 < V1 by omega)
          have e2 := hN1.cell (show s2 < V1 by omega)
          rw [← HD2.out] at hN2
          have hB2 := (hB.setCell (p := ⟨w1.heap.size, s1, none⟩) (Nat.le_refl _) (.int .i64 (s2 : Int))).setCell (p := ⟨w1.heap.size, s2, none⟩) (Nat.le_refl _) (.int .i64 (s1 : Int))
          clear hN hN1 HDT HD2 hpi hB hBw
          generalize dvT V r qs i s1 = z1 at e1
          generalize upF1 (dvT V r qs i) s1 s2 s2 = z2 at e2
          go_wp2
          go_roundw
          case rel => exact ⟨i + 1, by go_num, by omega, hN2, hB2⟩
          case measure => simp [intOf]; omega
        · have hdi : decide ((i : Int) < (m : Int)) = false := by simp; omega
          have hdin : decide (i < m) = false := by simp; omega
          have HF : Hid ((List.range V1).map (dvT V r qs i) = dvL V r qs) := by
            show _ = _
            unfold dvT dvL dvF
            rw [List.take_of_length_le (by rw [Hm.out]; omega), HV1.out]
          have hrow := hN.orow (base := w.heap.size) HSZ.out (by omega)
          rw [HF.out] at hrow
          have hs3 : w.heap.size ≤ wr.heap.size := Nat.le_trans HSZ.out hB.size
          have HTS : Hid (dvTR V qs (r + 1) = dvTR V qs r ++ [dvL V r qs]) := dvTR_more V qs r
          obtain ⟨vals, h1, h2'⟩ := HO.out.below hB
          have HH1 : Hid (wr.ownsRow w.heap.size 38 1 (.slice oa r oc) (dvTR V qs r).length vals) := h1
          have HH2 : Hid (∀ (i_1 : Nat) (u : Value) (l : List Nat), vals[i_1]? = some u → (dvTR V qs r)[i_1]? = some l → ORow wr w.heap.size u l) := h2'
          rw [dvTR_len] at h1
          clear h2' hN hB HF
          go_wp2_with (first
            | (at_builtin; refine wpList_append_own _ rfl _ _ 22 rfl w.heap.size 38 i36 (.slice none 0 0) 1 24 undR ji3 jz0 jz1 jz2 rfl (by decide) _ _ _ rfl (h1.alloc _) ⟨wr.heap.size, 0, none⟩ 1 1 [.slice (some ⟨w1.heap.size, 0, none⟩) V1 V1] rfl rfl ?c1 ?c2 ?c3 ?c4 ?c5 ?_)
            | go_in)
          case c1 =>
            intro j u hj
            match j, hj with
            | 0, hj => simp at hj; subst hj; simp [Addr.add]
          case c2 => intro u hu; simp at hu; subst hu; rfl
          case c3 => unfold maxLen; omega
          case c4 => omega
          case c5 => simp; omega
          · intro v' w7 hown' hgrow _
            have hal := balloc wr (.cells #[.slice (some ⟨w1.heap.size, 0, none⟩) V1 V1] 38)
            have hB2 : Below w.heap.size wr w7 := ((Below.refl _ wr).alloc hs3 _).grown hgrow (by simp; omega) (fun k hk => (h1.lt k hk).1)
            have hO2 : OR w7 w.heap.size v' (dvTR V qs r ++ [dvL V r qs]) := OR.more (own_keep HH1.out fun b _ hb => hal.block b hb) (fun i_1 u l' e1 e2 => (HH2.out i_1 u l' e1 e2).below hal) (hrow.below hal) (by rw [dvTR_len]; exact hown') hgrow
            rw [← HTS.out] at hO2
            obtain ⟨va, vc, rfl⟩ := own_form hown'
            have hB7 : Below w.heap.size w w7 := hBw.trans hB2
            go_wp2
            go_roundw
            case rel => exact ⟨r + 1, va, vc, by go_num, rfl, by omega, hO2, hB7⟩
            case measure => simp [intOf]; omega
    · have hdr : decide ((r : Int) < (V : Int)) = false := by simp; omega
      have hdrn : decide (r < V) = false := by simp; omega
      obtain rfl : r = V := by omega
      go_wp2
      go_ret
      exact ⟨⟨_, rfl, hO⟩, hB⟩
end Go.Proofs.Ytpeplnojmogkfaa
