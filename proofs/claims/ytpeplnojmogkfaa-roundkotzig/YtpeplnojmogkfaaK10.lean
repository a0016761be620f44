/- meet, developed, Strong, Develop, walked. -/
import Derived.Test.YtpeplnojmogkfaaK9
import Derived.Test.YtpeplnojmogkfaaQ8
namespace Go.Proofs.Ytpeplnojmogkfaa
open Go.RowKit Go.Maps

theorem Strong_any : FStrong := by
  intro v ps u w hv
  have CC := Starter_any v ps u w hv
  obtain ⟨z, Hz⟩ : ∃ z, Hid (sF v ps = z) := ⟨_, rfl⟩
  rw [Hz.out] at CC ⊢
  by_cases hz : z = 0
  · subst hz
    obtain ⟨V, qs, rfl, rfl, hS⟩ := sF_ok Hz.out
    have hrw := hv.rw
    have HP : Hid (StgZ (V : Int) (prZ qs) ↔ Stg V qs) := stgZ_good hS
    obtain ⟨a, n, c, rfl⟩ := hv.form
    obtain ⟨q, hq⟩ : ∃ q : Bool, q = true ↔ Stg V qs := by
      by_cases h : Stg V qs
      · exact ⟨true, by simp [h]⟩
      · exact ⟨false, by simp [h]⟩
    have CS := fun (W : World) (bW : Below w.heap.size w W) => isStrong_any V qs _ W (hrw.below bW) hS q hq
    have HQ : Hid (q = true ↔ StgZ (V : Int) (prZ qs)) := by show _ ↔ _; rw [hq, HP.out]
    clear hv hrw hS hq HP
    go_enter Try.func19, Try.ntmps19
    go_wp2_with (first
      | (go_at_call 18; refine CC.mono ?_; rintro e w1 ⟨rfl, b1⟩; clear CC)
      | (go_at_call 39; refine (CS _ b1).mono ?_; rintro e w3 ⟨rfl, b3⟩; clear CS))
    go_ret2
    exact ⟨⟨q, rfl, HQ.out⟩, b1.trans (b3.mono b1.size)⟩
  · have HPF : Hid (¬ StgZ v ps) := stgZ_bad (by rw [Hz.out]; exact hz)
    obtain ⟨a, m, c, rfl⟩ := hv.form
    have hzb : ((z : Int) != 0) = true := by simp; omega
    clear hv hz
    go_enter Try.func19, Try.ntmps19
    go_wp2_with (go_at_call 18; refine CC.mono ?_; rintro e w1 ⟨rfl, b1⟩; clear CC)
    go_ret2
    exact ⟨⟨false, rfl, by simp [HPF.out]⟩, b1⟩
set_option maxRecDepth 100000 in
set_option maxHeartbeats 4000000 in
theorem meet_any (h n a b : Nat) (f : Nat → Nat) (w : World) (hN : OwnN w h n f) (ha : a < n) (hb : b < n) (_hn : n ≤ 99) :
    Calls Try.prog 41 #[.slice (some ⟨h, 0, none⟩) n n, .int .i64 (a : Int), .int .i64 (b : Int)] w fun e w' => e = .returned (.tuple #[]) ∧ OwnN w' h n (upF1 (upF1 f a b) b a) ∧ Below h w w' := by
  have hai : (a : Int) < (n : Int) := by omega
  have hbi : (b : Int) < (n : Int) := by omega
  have hN1 := hN.set (f' := upF1 f a b) a b fun j _ => rfl
  have hN2 := hN1.set (f' := upF1 (upF1 f a b) b a) b a fun j _ => rfl
  have f1 := hN.frozen a
  have f2 := hN1.frozen b
  have e1 := hN.cell ha
  have e2 := hN1.cell hb
  have hB := ((Below.refl h w).setCell (p := ⟨h, a, none⟩) (Nat.le_refl _) (.int .i64 (b : Int))).setCell (p := ⟨h, b, none⟩) (Nat.le_refl _) (.int .i64 (a : Int))
  clear hN hN1
  generalize f a = z1 at e1
  generalize upF1 f a b b = z2 at e2
  go_enter Try.func41, Try.ntmps41
  go_wp2
  exact bodyPost_end (results_none rfl _ _ _) rfl ⟨rfl, hN2, hB⟩
/-- Rows that are laid into a list one by one. -/
def Dvd (w : World) (g V : Nat) (F : Nat → List Nat) (r : Nat) : Prop := ∃ cur, w.heap[g]? = some (.cells cur 38 (0, 0)) ∧ cur.size = V ∧ (∀ j, j < V → ∃ a n c, cur[j]? = some (.slice a n c)) ∧ ∀ j, j < r → ∃ u, cur[j]? = some u ∧ ORow w (g + 1) u (F j)
theorem Dvd.lt {w : World} {g V : Nat} {F : Nat → List Nat} {r : Nat} (h : Dvd w g V F r) : g < w.heap.size := by obtain ⟨c, h, _⟩ := h; exact (Array.getElem?_eq_some_iff.1 h).1
theorem Dvd.low {w w' : World} {g V : Nat} {F : Nat → List Nat} {r k : Nat} (h : Dvd w g V F r) (hk : w.heap.size ≤ k) (b : Below k w w') : Dvd w' g V F r := by
  have hlt := h.lt
  obtain ⟨c, h1, h2, h3, h4⟩ := h
  refine ⟨c, (b.block g (by omega)).trans h1, h2, h3, fun j hj => ?_⟩
  obtain ⟨u, hu, ho⟩ := h4 j hj
  exact ⟨u, hu, own_keep ho fun b' _ hb' => b.block b' (by omega)⟩
theorem Dvd.cell {w : World} {g V : Nat} {F : Nat → List Nat} {r j : Nat} (h : Dvd w g V F r) (hj : j < V) : ∃ a n c, w.cell? ⟨g, j, none⟩ = some (.slice a n c) := by
  obtain ⟨c, h1, h2, h3, h4⟩ := h
  obtain ⟨a, n, k, e⟩ := h3 j hj
  exact ⟨a, n, k, by rw [cell_of_row w g j _ _ _ h1, e]⟩
theorem Dvd.frozen {w : World} {g V : Nat} {F : Nat → List Nat} {r : Nat} (h : Dvd w g V F r) (j : Nat) : w.frozen? ⟨g, j, none⟩ = false := by
  obtain ⟨c, h1, _⟩ := h
  exact frozen_of_row w g j _ _ h1
theorem Dvd.put {w : World} {g V : Nat} {F : Nat → List Nat} {r : Nat} (h : Dvd w g V F r) (hr : r < V) {a : Option Addr} {n c : Nat} (ho : ORow w (g + 1) (.slice a n c) (F r)) : Dvd (w.setCell ⟨g, r, none⟩ (.slice a n c)) g V F (r + 1) := by
  have hlt := h.lt
  obtain ⟨cur, h1, h2, h3, h4⟩ := h
  have keep : ∀ {u l}, ORow w (g + 1) u l → ORow (w.setCell ⟨g, r, none⟩ (.slice a n c)) (g + 1) u l := fun k => own_keep k fun b hb _ => heap_setCell_other w ⟨g, r, none⟩ b _ (show b ≠ g by omega)
  refine ⟨_, heap_setCell_same w g r _ _ _ h1, by simpa using h2, fun j hj => ?_, fun j hj => ?_⟩
  · rw [Array.getElem?_setIfInBounds]
    by_cases e : r = j
    · subst e; rw [if_pos rfl, if_pos (by omega)]; exact ⟨_, _, _, rfl⟩
    · rw [if_neg e]; exact h3 j hj
  · rw [Array.getElem?_setIfInBounds]
    by_cases e : r = j
    · subst e; rw [if_pos rfl, if_pos (by omega)]; exact ⟨_, rfl, keep ho⟩
    · rw [if_neg e]
      obtain ⟨u, hu, hk⟩ := h4 j (by omega)
      exact ⟨u, hu, keep hk⟩
theorem Dvd.rw {w : World} {g V : Nat} {F : Nat → List Nat} (h : Dvd w g V F V) : Rw w (.slice (some ⟨g, 0, none⟩) V V) (toZ ((List.range V).map F)) := by
  obtain ⟨cur, h1, h2, h3, h4⟩ := h
  have hl : (toZ ((List.range V).map F)).length = V := by simp [toZ]
  refine ⟨_, V, by rw [hl], by rw [hl]; exact Nat.le_refl _, fun i l hi => ?_⟩
  have hiV : i < V := by
    have := (List.getElem?_eq_some_iff.1 hi).1
    rwa [hl] at this
  obtain ⟨u, hu, ho⟩ := h4 i hiV
  refine ⟨g, 0, u, rfl, by rw [cell_of_row w g _ _ _ _ h1, Nat.zero_add, hu], ?_⟩
  have e : l = (F i).map Int.ofNat := by
    have : (toZ ((List.range V).map F))[i]? = some ((F i).map Int.ofNat) := by simp [toZ, hiV]
    rw [this] at hi
    exact (Option.some.inj hi).symm
  rw [e]
  exact ho.sl
theorem madeS_at {n t : Nat} (ht : t < n) : (madeCells #[Value.slice none 0 0] n)[t]? = some (.slice none 0 0) := by
  have hs : t < (madeCells #[Value.slice none 0 0] n).size := by rw [size_madeCells]; exact ht
  rw [Array.getElem?_eq_getElem hs]
  simp [madeCells, Nat.mod_one]
theorem dvd_new (w : World) (V : Nat) (F : Nat → List Nat) : Dvd (w.alloc (.cells (madeCells #[.slice none 0 0] V) 38)) w.heap.size V F 0 :=
  ⟨_, heap_alloc_new w _, by rw [size_madeCells], fun j hj => ⟨_, _, _, madeS_at hj⟩, fun j hj => by omega⟩
theorem run_makeS (n : Nat) (hn : n ≤ 100000) (w : World) : (Instr.makeSlice 22 (.int .i64 (n : Int)) (.int .i64 (n : Int))).run Try.prog w = .ok (.slice (some ⟨w.heap.size, 0, none⟩) n n) (w.alloc (.cells (madeCells #[.slice none 0 0] n) 38)) := by
  obtain ⟨i4, hi, hz0, hz1, hz2⟩ := info36
  have h := run_make (P := Try.prog) w 22 38 i4 (.slice none 0 0) undR hi hz0 .i64 .i64 n n (by omega) (by omega) (by rw [hz2]; omega) (by omega)
  simpa [hz1, Value.cells] using h
set_option maxRecDepth 100000 in
set_option maxHeartbeats 16000000 in
theorem developed_any (V : Nat) (qs : List (Nat × Nat)) (pv : Value) (w : World) (hv : Rw w pv (prZ qs)) (hV1 : 1 ≤ V) (hV15 : V ≤ 15) (hm7 : qs.length ≤ 7) (hr : ∀ p ∈ qs, p.1 < V ∧ p.2 < V) :
    Calls Try.prog 32 #[.int .i64 (V : Int), pv] w fun e w' => (∃ y, e = .returned y ∧ Rw w' y (toZ (dvR V qs))) ∧ Below w.heap.size w w' := by
  have HV : Hid (∀ W, Below w.heap.size w W → Rw W pv (prZ qs)) := fun W b => hv.below b
  have HRG : Hid (∀ (i : Nat) p, qs[i]? = some p → p.1 < V ∧ p.2 < V) := fun i p h => hr p (List.mem_of_getElem? h)
  obtain ⟨a, cap, rfl, -⟩ := hv
  obtain ⟨m, Hm⟩ : ∃ m, Hid (qs.length = m) := ⟨_, rfl⟩
  have HAT : Hid (∀ i, i < m → ∃ p, qs[i]? = some p) := fun i hi => ⟨_, List.getElem?_eq_getElem (by rw [Hm.out]; exact hi)⟩
  rw [Hm.out] at hm7
  rw [prZ_len, Hm.out]
  obtain ⟨F, HF⟩ : ∃ F : Nat → List Nat, Hid ((fun r => dvL V r qs) = F) := ⟨_, rfl⟩
  have HE : Hid (toZ ((List.range V).map F) = toZ (dvR V qs)) := by show _ = _; rw [← HF.out]; rfl
  rw [← HE.out]
  obtain ⟨W1, HW1⟩ : ∃ W1, Hid (V + 1 = W1) := ⟨_, rfl⟩
  have hVi : (V : Int) + 1 = (W1 : Int) := by rw [← HW1.out]; omega
  have hW1 : W1 ≤ 16 := by rw [← HW1.out]; omega
  have hVV : (V : Int) < (W1 : Int) := by omega
  have hVn : V < W1 := by omega
  have hmk := fun w => run_makeN W1 (by omega) w
  have hms := run_makeS V (by omega) w
  have hV0 : ¬ V = 0 := by omega
  have hd0 := dvd_new w V F
  have hb0 := balloc w (.cells (madeCells #[.slice none 0 0] V) 38)
  clear HE hr
  go_enter Try.func32, Try.ntmps32
  go_wp2
  clear hms
  go_loopw [14] (fun rv wr => ∃ r : Nat, rv = .int .i64 (r : Int) ∧ r ≤ V ∧ Dvd wr w.heap.size V F r ∧ Below w.heap.size w wr) (fun rv _ => (V - intOf rv).toNat)
  case atStart => exact ⟨0, rfl, by omega, hd0, hb0⟩
  case round =>
    clear hd0 hb0
    obtain ⟨r, rfl, hr, hD, hB⟩ := hrel
    by_cases hlt : r < V
    · have hdr : decide ((r : Int) < (V : Int)) = true := by simp; omega
      have hri : (r : Int) < (V : Int) := by omega
      have hrW : r < W1 := by omega
      obtain ⟨w1, hw1⟩ : ∃ w1 : World, w1 = wr := ⟨_, rfl⟩
      subst hw1
      have HSZ : Hid (w.heap.size + 1 ≤ w1.heap.size) := by have := hD.lt; exact this
      have hN0 := own_new w1 W1
      have hbN := balloc w1 (.cells (madeCells #[.int .i64 0] W1) 3)
      have HD : Hid (Dvd w1 w.heap.size V F r) := hD
      have HB1 : Hid (Below w.heap.size w w1) := hB
      have C := meet_any w1.heap.size W1 V r _ _ hN0 hVn hrW (by omega)
      clear hD hB hN0
      go_wp2_with (go_at_call 41; refine C.mono ?_; rintro e w2 ⟨rfl, hN2, b2⟩; clear C)
      have hB2 : Below w1.heap.size w1 w2 := hbN.trans b2
      have hN0 : OwnN w2 w1.heap.size W1 (dvT V r qs 0) := hN2
      clear hN2 b2 hbN
      go_loopw [26] (fun iv wr => ∃ i : Nat, iv = .int .i64 (i : Int) ∧ i ≤ m ∧ OwnN wr w1.heap.size W1 (dvT V r qs i) ∧ Below w1.heap.size w1 wr) (fun iv _ => (m - intOf iv).toNat)
      case atStart => exact ⟨0, rfl, by omega, hN0, hB2⟩
      case round =>
        clear hN0 hB2
        obtain ⟨i, rfl, hi, hN, hB⟩ := hrel
        have hBw : Below w.heap.size w wr := HB1.out.trans (hB.mono (by have := HSZ.out; omega))
        by_cases hli : i < m
        · have hdi : decide ((i : Int) < (m : Int)) = true := by simp; omega
          have hii : (i : Int) < (m : Int) := by omega
          obtain ⟨p, hpi⟩ := HAT.out i hli
          obtain ⟨hp1, hp2⟩ := HRG.out i p hpi
          obtain ⟨b, o, g, o1, c1, rfl, hc', hx', hy'⟩ := pr_cells (HV.out w (Below.refl _ _)) hpi
          have hgl : g < w1.heap.size := by have := World.block_lt_of_cell? _ _ hx'; have : g < w.heap.size := this; have := HSZ.out; omega
          have hc := (hBw.cell (World.block_lt_of_cell? _ _ hc')).trans hc'
          have hx := (hBw.cell (World.block_lt_of_cell? _ _ hx')).trans hx'
          have hy := (hBw.cell (World.block_lt_of_cell? _ _ hy')).trans hy'
          clear hc' hx' hy'
          have HDT : Hid (dvT V r qs (i + 1) = upF1 (upF1 (dvT V r qs i) ((p.1 + r) % V) ((p.2 + r) % V)) ((p.2 + r) % V) ((p.1 + r) % V)) := dvT_more hpi
          obtain ⟨X, HX⟩ : ∃ X, Hid (p.1 = X) := ⟨_, rfl⟩
          obtain ⟨Y, HY⟩ : ∃ Y, Hid (p.2 = Y) := ⟨_, rfl⟩
          obtain ⟨t1, Ht1⟩ : ∃ t, Hid (X + r = t) := ⟨_, rfl⟩
          obtain ⟨t2, Ht2⟩ : ∃ t, Hid (Y + r = t) := ⟨_, rfl⟩
          obtain ⟨s1, Hs1⟩ : ∃ s, Hid (t1 % V = s) := ⟨_, rfl⟩
          obtain ⟨s2, Hs2⟩ : ∃ s, Hid (t2 % V = s) := ⟨_, rfl⟩
          rw [HX.out] at hx hp1
          rw [HY.out] at hy hp2
          have HD2 : Hid (dvT V r qs (i + 1) = upF1 (upF1 (dvT V r qs i) s1 s2) s2 s1) := by show _ = _; rw [HDT.out, HX.out, HY.out, Ht1.out, Ht2.out, Hs1.out, Hs2.out]
          have q1 : (X : Int) + (r : Int) = (t1 : Int) := by rw [← Ht1.out]; omega
          have q2 : (Y : Int) + (r : Int) = (t2 : Int) := by rw [← Ht2.out]; omega
          have ht1 : t1 ≤ 99 := by rw [← Ht1.out]; omega
          have ht2 : t2 ≤ 99 := by rw [← Ht2.out]; omega
          have u1 : IntKind.i64.wrap (t1 : Int) = (t1 : Int) := by rw [IntKind.wrap_i64]; omega
          have u2 : IntKind.i64.wrap (t2 : Int) = (t2 : Int) := by rw [IntKind.wrap_i64]; omega
          have r1 : (t1 : Int) % (V : Int) = (s1 : Int) := by rw [← Hs1.out]; simp
          have r2 : (t2 : Int) % (V : Int) = (s2 : Int) := by rw [← Hs2.out]; simp
          have r1' : (t1 : Int).tmod (V : Int) = (s1 : Int) := by rw [Int.tmod_eq_emod_of_nonneg (by omega)]; exact r1
          have r2' : (t2 : Int).tmod (V : Int) = (s2 : Int) := by rw [Int.tmod_eq_emod_of_nonneg (by omega)]; exact r2
          have hs1 : s1 < V := by rw [← Hs1.out]; exact Nat.mod_lt _ (by omega)
          have hs2 : s2 < V := by rw [← Hs2.out]; exact Nat.mod_lt _ (by omega)
          have C := meet_any w1.heap.size W1 s1 s2 _ wr.drew hN.drew (by omega) (by omega) (by omega)
          rw [← HD2.out] at C
          have hSA : wr.drew.cell? ⟨g, o1, none⟩ = some (.int .i64 (X : Int)) ∧ wr.drew.cell? ⟨g, o1 + 1, none⟩ = some (.int .i64 (Y : Int)) := ⟨hx, hy⟩
          have HK5 : Hid (∀ w5, Below w1.heap.size wr.drew w5 → w5.cell? ⟨g, o1, none⟩ = some (.int .i64 (X : Int)) ∧ w5.cell? ⟨g, o1 + 1, none⟩ = some (.int .i64 (Y : Int))) := fun w5 b5 => ⟨(b5.cell (p := ⟨g, o1, none⟩) hgl).trans hSA.1, (b5.cell (p := ⟨g, o1 + 1, none⟩) hgl).trans hSA.2⟩
          have HBD : Hid (Below w1.heap.size w1 wr.drew) := hB.drew
          clear hN HDT HD2 hpi hx hy hB hBw
          go_wp2_with fail
          go_region_held3 (fun W : World => W.cell? ⟨g, o1, none⟩ = some (.int .i64 (X : Int)) ∧ W.cell? ⟨g, o1 + 1, none⟩ = some (.int .i64 (Y : Int))) (first | assumption) (first | (go_at_call 41; refine C.mono ?_; rintro e w5 ⟨rfl, hN5, b5⟩; have hS5 := HK5.out w5 b5; have hB5 := HBD.out.trans b5; clear C))
          go_wp2
          go_roundw
          case rel => exact ⟨i + 1, by go_num, by omega, hN5, hB5⟩
          case measure => simp [intOf]; omega
        · have hdi : decide ((i : Int) < (m : Int)) = false := by simp; omega
          have hdin : decide (i < m) = false := by simp; omega
          have HFR : Hid ((List.range W1).map (dvT V r qs i) = F r) := by
            show _ = _
            unfold dvT
            rw [← HF.out, List.take_of_length_le (by rw [Hm.out]; omega), ← HW1.out]
            rfl
          have hrow := hN.orow (base := w.heap.size + 1) HSZ.out (by omega)
          rw [HFR.out] at hrow
          have hD2 := HD.out.low (Nat.le_refl _) hB
          have hD3 := hD2.put hlt hrow
          obtain ⟨xa, xn, xc, hcell⟩ := hD2.cell hlt
          have hfz := hD2.frozen r
          have hB3 := hBw.setCell (p := ⟨w.heap.size, r, none⟩) (Nat.le_refl _) (.slice (some ⟨w1.heap.size, 0, none⟩) W1 W1)
          clear hN hB hD2 hrow HFR
          go_wp2
          go_roundw
          case rel => exact ⟨r + 1, by go_num, by omega, hD3, hB3⟩
          case measure => simp [intOf]; omega
    · have hdr : decide ((r : Int) < (V : Int)) = false := by simp; omega
      have hdrn : decide (r < V) = false := by simp; omega
      obtain rfl : r = V := by omega
      go_wp2
      go_ret
      exact ⟨⟨_, rfl, hD.rw⟩, hB⟩
end Go.Proofs.Ytpeplnojmogkfaa
