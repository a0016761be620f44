/- The walk of Develop. -/
import Derived.Test.YtcjkcgfohmhbcabDoorS5
import Derived.Test.YtcjkcgfohmhbcabDoorDCo
import Derived.Deep.AppendLies
namespace Go.Proofs.YtcjkcgfohmhbcabDoor
open Go.RowKit Go.Maps

set_option maxRecDepth 100000 in
theorem post_d2 {fn : Func} {R : Ending → World → Prop} {a : Act} {w : World} {g : Nat} {x y z : Value} (slot u : Tmp) (hres : fn.results = #[.cell slot 42, .tmp u]) (hp : a.tmps.getD slot undef = .pointer (some ⟨g, 0, none⟩)) (hr : w.heap[g]? = some (.cells #[x, y] 42 (0, 0))) (hu : a.tmps.getD u undef = z) (hd : a.defers = []) (hR : R (.returned (.tuple #[.agg #[x, y], z])) w) : bodyPost Tryd.prog fn R .ret a w := by
  refine bodyPost_ret (v := .tuple #[.agg #[x, y], z]) ?_ hd hR
  rw [results_cell_tmp hres, hp, hu]
  have h1 : (asAddr (.pointer (some ⟨g, 0, none⟩))).run Tryd.prog w = .ok ⟨g, 0, none⟩ w := by simp [asAddr]
  rw [h1]
  show ((loadVar 42 ⟨g, 0, none⟩).run Tryd.prog w).andThen _ = _
  rw [run_loadVar_row w g 42 42 #[x, y] (0, 0) _ hr Tryd.underlying42 rfl inf24]
  rfl
theorem news_rowD (w : World) (u : Value) : ∀ j v, [u][j]? = some v → (w.alloc (.cells #[u] 23)).cell? ((⟨w.heap.size, 0, none⟩ : Addr).add j) = some v := fun j v hj => by
  match j, hj with
  | 0, hj => simp at hj; subst hj; simp [Addr.add]
theorem or_low {w : World} {b b' : Nat} {v : Value} {ls : List (List Nat)} (h : OR w b v ls) (hb : b' ≤ b) : OR w b' v ls := by
  obtain ⟨vals, h1, h2⟩ := h
  have key : ∀ {e : TypeId} {n : Nat} {v : Value} {l : List Value}, w.ownsRow b e 1 v n l → w.ownsRow b' e 1 v n l := by
    rintro e n v l ⟨h0, h | ⟨g, cap, cur, k1, k2, k3⟩⟩
    · exact ⟨h0, .inl h⟩
    · exact ⟨h0, .inr ⟨g, cap, cur, k1, Nat.le_trans hb k2, k3⟩⟩
  exact ⟨vals, key h1, fun i u l e1 e2 => key (h2 i u l e1 e2)⟩
/-- The two boxes: the answer, and what is built. -/
structure DvS (s g v : Nat) (ov : Value) (W : World) : Prop where
  r : W.heap[s]? = some (.cells #[.int .i64 0, .slice none 0 0] 42 (0, 0))
  o : W.heap[g]? = some (.cells #[.int .i64 (v : Int), ov] 42 (0, 0))
theorem DvS.lt {s g v : Nat} {ov : Value} {W : World} (h : DvS s g v ov W) : g + 1 ≤ W.heap.size := (Array.getElem?_eq_some_iff.1 h.o).1
theorem DvS.low {s g v : Nat} {ov : Value} {W W' : World} (h : DvS s g v ov W) (hs : s < g) (b : Below (g + 1) W W') : DvS s g v ov W' := ⟨(b.block s (by omega)).trans h.r, (b.block g (by omega)).trans h.o⟩
theorem DvS.cell {s g v : Nat} {ov : Value} {W : World} (h : DvS s g v ov W) : W.cell? ⟨g, 1, none⟩ = some ov := by rw [cell_of_row _ _ _ _ _ _ h.o]; rfl
theorem DvS.put {s g v : Nat} {ov : Value} {W : World} (h : DvS s g v ov W) (hs : s < g) (nv : Value) : DvS s g v nv (W.setCell ⟨g, 1, none⟩ nv) :=
  ⟨(heap_setCell_other W ⟨g, 1, none⟩ s nv (by show s ≠ g; omega)).trans h.r, by rw [heap_setCell_same W g 1 _ _ nv h.o]; rfl⟩
/-- The first k blocks of what is developed. -/
def dvT (v : Nat) (D : List Nat) (k : Nat) : List (List Nat) := (List.range k).map fun i => imL v D 1 i
theorem dvT_up (v : Nat) (D : List Nat) (k : Nat) : dvT v D (k + 1) = dvT v D k ++ [imL v D 1 k] := by
  unfold dvT
  rw [List.range_succ, List.map_append]
  rfl
theorem dvT_len (v : Nat) (D : List Nat) (k : Nat) : (dvT v D k).length = k := by simp [dvT]
set_option maxRecDepth 100000 in
set_option maxHeartbeats 16000000 in
theorem Dev_main (v : Nat) (D : List Nat) (u : Value) (w : World) (hG : GoodS v D) (h40 : v ≤ 40) (hu : Sl w u (D.map Int.ofNat)) :
    Calls Tryd.prog 13 #[.int .i64 (v : Int), u] w fun e w' => ∃ y, e = .returned (.tuple #[.agg #[.int .i64 (v : Int), y], .int .i64 0]) ∧ OR w' w.heap.size y (dvT v D v) ∧ Below w.heap.size w w' := by
  have HC8 : Hid (∀ W, Below w.heap.size w W → Calls Tryd.prog 34 #[.int .i64 (v : Int), u] W fun e w' => e = .returned (.int .i64 0) ∧ Below W.heap.size W w') := fun W h => by
    have := CheckS_any (v : Int) _ u W (hu.below h) (by unfold maxLen; rw [List.length_map]; have := hG.len; have := hG.le; omega)
    rw [sF_of hG] at this
    exact this
  have HI : Hid (∀ (s : Nat) (W : World), s < 60 → Below w.heap.size w W → Calls Tryd.prog 35 #[.int .i64 (v : Int), u, .int .i64 1, .int .i64 (s : Int)] W fun e w' => e = .returned (.agg (zrow (imF v D 1 s))) ∧ Below W.heap.size W w') := fun s W hs b => by
    have h0 := image_any v 1 s D u W hG (hu.below b) (by omega) hs
    rw [show ((1 : Nat) : Int) = 1 from rfl] at h0
    exact h0
  have HLs : Hid (∀ (s : Nat) (W : World), Calls Tryd.prog 36 #[.agg (zrow (imF v D 1 s))] W fun e w' => ∃ x, e = .returned x ∧ ORow w' W.heap.size x (imL v D 1 s) ∧ Below W.heap.size W w') := fun s W => list_any (imF v D 1 s) W
  have HU : Hid (∀ k, dvT v D (k + 1) = dvT v D k ++ [imL v D 1 k]) := dvT_up v D
  have HLn : Hid (∀ k, (dvT v D k).length = k) := dvT_len v D
  have H0 : Hid (dvT v D 0 = []) := rfl
  have HIL : Hid (∀ s, (imL v D 1 s).length ≤ 60) := fun s => Nat.le_trans (List.length_filter_le _ _) (by simp)
  obtain ⟨R, HR⟩ : ∃ R : Nat → List (List Nat), Hid (∀ k, dvT v D k = R k) := ⟨fun k => dvT v D k, fun _ => rfl⟩
  obtain ⟨il, Hil⟩ : ∃ il : Nat → List Nat, Hid (∀ k, imL v D 1 k = il k) := ⟨fun k => imL v D 1 k, fun _ => rfl⟩
  obtain ⟨fs, Hfs⟩ : ∃ fs : Nat → Nat → Bool, Hid (∀ k, imF v D 1 k = fs k) := ⟨fun k => imF v D 1 k, fun _ => rfl⟩
  have HU2 : Hid (∀ k, R (k + 1) = R k ++ [il k]) := fun k => by rw [← HR.out, ← HR.out, ← Hil.out]; exact HU.out k
  have HLn2 : Hid (∀ k, (R k).length = k) := fun k => by rw [← HR.out]; exact HLn.out k
  have H02 : Hid (R 0 = []) := by show _ = _; rw [← HR.out]; exact H0.out
  have HIL2 : Hid (∀ s, (il s).length ≤ 60) := fun s => by rw [← Hil.out]; exact HIL.out s
  have HI2 : Hid (∀ (s : Nat) (W : World), s < 60 → Below w.heap.size w W → Calls Tryd.prog 35 #[.int .i64 (v : Int), u, .int .i64 1, .int .i64 (s : Int)] W fun e w' => e = .returned (.agg (zrow (fs s))) ∧ Below W.heap.size W w') := fun s W hs b => by rw [← Hfs.out]; exact HI.out s W hs b
  have HLs2 : Hid (∀ (s : Nat) (W : World), Calls Tryd.prog 36 #[.agg (zrow (fs s))] W fun e w' => ∃ x, e = .returned x ∧ ORow w' W.heap.size x (il s) ∧ Below W.heap.size W w') := fun s W => by rw [← Hfs.out, ← Hil.out]; exact HLs.out s W
  rw [HR.out]
  obtain ⟨i36, ji3, jz0, jz1, jz2⟩ := info36
  obtain ⟨a, ca, rfl, _⟩ := sl_at hu
  have h1 := hG.pos
  obtain ⟨s, Hs⟩ : ∃ s, Hid (w.heap.size = s) := ⟨_, rfl⟩
  have hk := heap_alloc_new w (.cells #[.int .i64 0, .slice none 0 0] 42)
  have hb0 := balloc w (.cells #[.int .i64 0, .slice none 0 0] 42)
  have C8 := HC8.out _ hb0
  rw [Hs.out] at hk hb0 HI2 ⊢
  have hsw : w.heap.size = s := Hs.out
  have hs1 : (w.alloc (.cells #[.int .i64 0, .slice none 0 0] 42)).heap.size = s + 1 := by simp [hsw]
  obtain ⟨W0, hW0⟩ : ∃ W0, w.alloc (.cells #[.int .i64 0, .slice none 0 0] 42) = W0 := ⟨_, rfl⟩
  rw [hW0] at hk hb0 C8 hs1
  have HW0 : Hid (w.alloc (.cells #[.int .i64 0, .slice none 0 0] 42) = W0) := hW0
  generalize D.length = n at *
  have d40 : decide (40 < (v : Int)) = false := by simp; omega
  have d40' : ¬ 40 < (v : Int) := by omega
  clear hu hG HC8 HI HLs HU HLn H0 HIL HR Hil Hfs hW0
  go_enter Tryd.func13, Tryd.ntmps13
  go_wp2_with fail
  rw [HW0.out]
  refine C8.mono ?_
  rintro e w1 ⟨rfl, hb⟩
  clear C8
  have HB1 : Hid (Below s w w1) := hb0.trans (hb.mono (by omega))
  have Hr1 : Hid (w1.heap[s]? = some (.cells #[.int .i64 0, .slice none 0 0] 42 (0, 0))) := (hb.block _ (by omega)).trans hk
  have Hz1 : Hid (s + 1 ≤ w1.heap.size) := by
    show _ ≤ _
    rw [← hs1]
    exact hb.size
  clear hb hk hb0
  go_wp2
  obtain ⟨g, Hg⟩ : ∃ g, Hid (w1.heap.size = g) := ⟨_, rfl⟩
  have hgw : w1.heap.size = g := Hg.out
  have hsg : s < g := by have := Hz1.out; omega
  have hbx0 : DvS s g v (.slice none 0 0) (w1.alloc (.cells #[.int .i64 (v : Int), .slice none 0 0] 42)) := ⟨((balloc w1 (.cells #[.int .i64 (v : Int), .slice none 0 0] 42)).block s (by omega)).trans Hr1.out, by rw [← hgw]; exact heap_alloc_new w1 _⟩
  have hB0 : Below s w (w1.alloc (.cells #[.int .i64 (v : Int), .slice none 0 0] 42)) := HB1.out.trans ((balloc w1 (.cells #[.int .i64 (v : Int), .slice none 0 0] 42)).mono (by omega))
  try rw [hgw]
  go_loopw [22] (fun iv wr => ∃ (i : Nat) (ov : Value), iv = .int .i64 (i : Int) ∧ i ≤ v ∧ DvS s g v ov wr ∧ OR wr (g + 1) ov (R i) ∧ Below s w wr) (fun iv _ => (v - intOf iv).toNat)
  case atStart => exact ⟨0, _, rfl, by omega, hbx0, by rw [H02.out]; exact OR.nil _ _, hB0⟩
  case round =>
    clear hbx0 hB0 HB1 Hr1 Hz1 H02
    obtain ⟨i, ov, rfl, hi, hbx, hOR, hB⟩ := hrel
    have hg1 := hbx.lt
    by_cases hlt : i < v
    · have hdi : decide ((i : Int) < (v : Int)) = true := by simp; omega
      have hii : (i : Int) < (v : Int) := by omega
      have HC : Hid (∀ W, Below wr.heap.size wr W → W.cell? ⟨g, 1, none⟩ = some ov) := fun W b => (hbx.low hsg (b.mono hg1)).cell
      have HBX : Hid (∀ W, Below (g + 1) wr W → DvS s g v ov W) := fun W b => hbx.low hsg b
      have HCI : Hid (∀ W, Below wr.heap.size wr W → Calls Tryd.prog 35 #[.int .i64 (v : Int), .slice a n ca, .int .i64 1, .int .i64 (i : Int)] W fun e w' => e = .returned (.agg (zrow (fs i))) ∧ Below W.heap.size W w') := fun W b => HI2.out i W (by omega) (hB.trans (b.mono (by omega)))
      have HCL : Hid (∀ W, Calls Tryd.prog 36 #[.agg (zrow (fs i))] W fun e w' => ∃ x, e = .returned x ∧ ORow w' W.heap.size x (il i) ∧ Below W.heap.size W w') := HLs2.out i
      have hU := HU2.out i
      have HOR : Hid (∀ W, Below wr.heap.size wr W → OR W (g + 1) ov (R i)) := fun W b => hOR.below b
      have HBB : Hid (∀ W, Below (g + 1) wr W → Below s w W) := fun W b => hB.trans (b.mono (by omega))
      have hil := HIL2.out i
      have hRl := HLn2.out i
      obtain ⟨lr, Hlr⟩ : ∃ lr, Hid (R i = lr) := ⟨_, rfl⟩
      obtain ⟨li, Hli⟩ : ∃ li, Hid (il i = li) := ⟨_, rfl⟩
      rw [Hlr.out] at hU HOR hRl
      rw [Hli.out] at hU HCL hil
      have HUU : Hid (R (i + 1) = lr ++ [li]) := hU
      have HRl : Hid (lr.length = i) := hRl
      rw [Hlr.out] at hOR
      obtain ⟨oa, oc, hoa⟩ := hOR.cap
      rw [HRl.out] at hoa
      subst hoa
      clear hU hOR hbx hB HI2 HLs2 HU2 HLn2 HIL2 hRl
      go_wp2_with fail
      refine wp_region_noPanic ?_
      refine wp_region_held_drew (S := fun _ => True) (by kernel_rfl) trivial (fun _ => ?_)
      have d0 : Below wr.heap.size wr wr.drew := (Below.refl _ wr).drew
      refine wpAnyH_take (i := 0) (v := .pointer (some ⟨g, 1, none⟩)) rfl (by kernel_rfl) (by kernel_rfl) (by kernel_rfl) (fun _ _ _ h => h) (Or.inl ⟨by rfl, fun w' hSw => by (try dsimp only at hSw); go_simp⟩) trivial ?_
      try simp only [Act.put, List.setIfInBounds_toArray]
      refine wpAnyH_take (i := 2) (v := .int .i64 (v : Int)) rfl (by kernel_rfl) (by kernel_rfl) (by kernel_rfl) (fun _ _ _ h => h) (Or.inl ⟨by rfl, fun w' hSw => by (try dsimp only at hSw); go_simp⟩) trivial ?_
      try simp only [Act.put]
      refine wpAnyH_take (i := 3) (v := .slice a n ca) rfl (by kernel_rfl) (by kernel_rfl) (by kernel_rfl) (fun _ _ _ h => h) (Or.inl ⟨by rfl, fun w' hSw => by (try dsimp only at hSw); go_simp⟩) trivial ?_
      try simp only [Act.put]
      refine wpAnyH_take (i := 4) (v := .int .i64 (i : Int)) rfl (by kernel_rfl) (by kernel_rfl) (by kernel_rfl) (fun _ _ _ h => h) (Or.inl ⟨by rfl, fun w' hSw => by (try dsimp only at hSw); go_simp⟩) trivial ?_
      try simp only [Act.put]
      refine wpAnyH_ready (rs := [1, 5]) (by kernel_rfl) (by simp) ?_
      refine AllReadyH.cons rfl (fun J hJ => ?_) (AllReadyH.cons rfl (fun J hJ => ?_) AllReadyH.nil)
      · have hq := HC.out _ d0
        go_simp
        clear hq
        refine hJ.out _ _ trivial (fun _ => ?_)
        clear hJ J
        try simp only [Act.put, List.setIfInBounds_toArray, List.set_cons_zero, List.set_cons_succ]
        refine wpAnyH_ready (rs := [5]) (by kernel_rfl) (by simp) ?_
        refine AllReadyH.cons rfl (fun J hJ => ?_) AllReadyH.nil
        go_simp
        refine (HCI.out _ d0).mono ?_
        rintro e w5 ⟨rfl, b5⟩
        have d5 := Below.next d0 b5
        clear HCI b5
        go_wp2_with fail
        refine hJ.out _ _ trivial (fun _ => ?_)
        clear hJ J
        try simp only [Act.put, List.setIfInBounds_toArray, List.set_cons_zero, List.set_cons_succ]
        refine wpAnyH_ready (rs := [6]) (by kernel_rfl) (by simp) ?_
        refine AllReadyH.cons rfl (fun J hJ => ?_) AllReadyH.nil
        go_simp
        refine (HCL.out _).mono ?_
        rintro e w6 ⟨x, rfl, hx6, b6⟩
        have d6 := Below.next d5 b6
        have hb56 : Below w5.heap.size w5 w6 := b6
        have hg5 : g + 1 ≤ w5.heap.size := Nat.le_trans hg1 d5.size
        have HX6 : Hid (ORow w6 (g + 1) x li) := own_low hx6 hg5
        obtain ⟨ra, rc, hxe⟩ : ∃ ra rc, x = .slice ra li.length rc := own_form hx6
        clear HCL b6 hx6
        go_wp2_with fail
        refine hJ.out _ _ trivial (fun _ => ?_)
        clear hJ J
        try simp only [Act.put, List.setIfInBounds_toArray, List.set_cons_zero, List.set_cons_succ]
        refine wpAnyH_ready (rs := [7]) (by kernel_rfl) (by simp) ?_
        refine AllReadyH.cons rfl (fun J hJ => ?_) AllReadyH.nil
        subst hxe
        go_simp
        have d7 := Below.next d6 (balloc w6 (.cells #[.slice ra li.length rc] 23))
        refine hJ.out _ _ trivial (fun _ => ?_)
        clear hJ J
        try simp only [Act.put, List.setIfInBounds_toArray, List.set_cons_zero, List.set_cons_succ]
        refine wpAnyH_ready (rs := [8]) (by kernel_rfl) (by simp) ?_
        refine AllReadyH.cons rfl (fun J hJ => ?_) AllReadyH.nil
        rw [if_pos (by rfl)]
        obtain ⟨vals, h1, h2⟩ := HOR.out _ d7
        have HH2 : Hid (∀ (i_1 : Nat) (u : Value) (l : List Nat), vals[i_1]? = some u → lr[i_1]? = some l → ORow (w6.alloc (.cells #[.slice ra li.length rc] 23)) (g + 1) u l) := h2
        have HH1 : Hid ((w6.alloc (.cells #[.slice ra li.length rc] 23)).ownsRow (g + 1) 23 1 (.slice oa i oc) lr.length vals) := h1
        rw [HRl.out] at h1
        have hx7 : ORow (w6.alloc (.cells #[.slice ra li.length rc] 23)) (g + 1) (.slice ra li.length rc) li := HX6.out.below (balloc _ _)
        have hg7 : g + 1 ≤ (w6.alloc (.cells #[.slice ra li.length rc] 23)).heap.size := Nat.le_trans hg1 d7.size
        refine wp_append_lies _ _ _ 40 (by rfl) (g + 1) 23 i36 (.slice none 0 0) 1 24 undR ji3 jz0 jz1 jz2 rfl (by decide) (.slice oa i oc) i vals (by rfl) h1 ⟨w6.heap.size, 0, none⟩ 1 1 [.slice ra li.length rc] (by rfl) rfl (news_rowD w6 _) (fun u hu => by simp at hu; subst hu; rfl) (by decide) (by unfold maxLen; omega) (by omega) hg7 _ rfl ?_
        intro og oc8 w8 hown8 hgr8 _ _
        have hB8 : Below (g + 1) wr w8 := (d7.mono hg1).grown hgr8 hg7 (fun k hk => (h1.lt k hk).1)
        have hO8 : OR w8 (g + 1) (.slice (some ⟨og, 0, none⟩) (i + 1) oc8) (lr ++ [li]) := OR.more HH1.out HH2.out hx7 (by rw [HRl.out]; exact hown8) hgr8
        have hbx8 := HBX.out _ hB8
        have hq8 := hbx8.cell
        have hf8 : w8.frozen? ⟨g, 1, none⟩ = false := frozen_of_row w8 _ 1 _ _ hbx8.o
        clear hown8 hgr8 h1 h2 HH1 HH2 hx7 HOR HC HX6
        refine hJ.out _ _ trivial (fun _ => ?_)
        clear hJ J
        try simp only [Act.put, List.setIfInBounds_toArray]
        refine wpAnyH_take (i := 9) (v := .pointer (some ⟨g, 1, none⟩)) rfl (by kernel_rfl) (by kernel_rfl) (by kernel_rfl) (fun _ _ _ h => h) (Or.inl ⟨by rfl, fun w' hSw => by (try dsimp only at hSw); go_simp⟩) trivial ?_
        try simp only [Act.put]
        refine wpAnyH_ready (rs := [10]) (by kernel_rfl) (by simp) ?_
        refine AllReadyH.cons rfl (fun J hJ => ?_) AllReadyH.nil
        go_simp
        refine hJ.out _ _ trivial (fun _ => ?_)
        clear hJ J
        try simp only [Act.put, List.setIfInBounds_toArray, List.set_cons_zero, List.set_cons_succ]
        refine wpAnyH_done (by kernel_rfl) ?_ _
        refine NoPanic.normal ?_
        have hbx9 := hbx8.put hsg (.slice (some ⟨og, 0, none⟩) (i + 1) oc8)
        have hO9 := hO8.keep (w' := w8.setCell ⟨g, 1, none⟩ (.slice (some ⟨og, 0, none⟩) (i + 1) oc8)) (fun b hb _ => heap_setCell_other w8 ⟨g, 1, none⟩ b _ (by show b ≠ g; omega))
        rw [← HUU.out] at hO9
        have hB9 := (HBB.out _ hB8).setCell (p := ⟨g, 1, none⟩) (by show s ≤ g; omega) (.slice (some ⟨og, 0, none⟩) (i + 1) oc8)
        clear hbx8 hO8 hB8 hq8 hf8 HBX HBB
        go_wp2
        go_roundw
        case rel => exact ⟨i + 1, _, by go_num, by omega, hbx9, hO9, hB9⟩
        case measure => simp [intOf]; omega
      · go_simp
        refine (HCI.out _ d0).mono ?_
        rintro e w5 ⟨rfl, b5⟩
        have d5 := Below.next d0 b5
        clear HCI b5
        go_wp2_with fail
        refine hJ.out _ _ trivial (fun _ => ?_)
        clear hJ J
        try simp only [Act.put, List.setIfInBounds_toArray, List.set_cons_zero, List.set_cons_succ]
        refine wpAnyH_ready (rs := [1, 6]) (by kernel_rfl) (by simp) ?_
        refine AllReadyH.cons rfl (fun J hJ => ?_) (AllReadyH.cons rfl (fun J hJ => ?_) AllReadyH.nil)
        · have hq := HC.out _ d5
          go_simp
          clear hq
          refine hJ.out _ _ trivial (fun _ => ?_)
          clear hJ J
          try simp only [Act.put, List.setIfInBounds_toArray, List.set_cons_zero, List.set_cons_succ]
          refine wpAnyH_ready (rs := [6]) (by kernel_rfl) (by simp) ?_
          refine AllReadyH.cons rfl (fun J hJ => ?_) AllReadyH.nil
          go_simp
          refine (HCL.out _).mono ?_
          rintro e w6 ⟨x, rfl, hx6, b6⟩
          have d6 := Below.next d5 b6
          have hb56 : Below w5.heap.size w5 w6 := b6
          have hg5 : g + 1 ≤ w5.heap.size := Nat.le_trans hg1 d5.size
          have HX6 : Hid (ORow w6 (g + 1) x li) := own_low hx6 hg5
          obtain ⟨ra, rc, hxe⟩ : ∃ ra rc, x = .slice ra li.length rc := own_form hx6
          clear HCL b6 hx6
          go_wp2_with fail
          refine hJ.out _ _ trivial (fun _ => ?_)
          clear hJ J
          try simp only [Act.put, List.setIfInBounds_toArray, List.set_cons_zero, List.set_cons_succ]
          refine wpAnyH_ready (rs := [7]) (by kernel_rfl) (by simp) ?_
          refine AllReadyH.cons rfl (fun J hJ => ?_) AllReadyH.nil
          subst hxe
          go_simp
          have d7 := Below.next d6 (balloc w6 (.cells #[.slice ra li.length rc] 23))
          refine hJ.out _ _ trivial (fun _ => ?_)
          clear hJ J
          try simp only [Act.put, List.setIfInBounds_toArray, List.set_cons_zero, List.set_cons_succ]
          refine wpAnyH_ready (rs := [8]) (by kernel_rfl) (by simp) ?_
          refine AllReadyH.cons rfl (fun J hJ => ?_) AllReadyH.nil
          rw [if_pos (by rfl)]
          obtain ⟨vals, h1, h2⟩ := HOR.out _ d7
          have HH2 : Hid (∀ (i_1 : Nat) (u : Value) (l : List Nat), vals[i_1]? = some u → lr[i_1]? = some l → ORow (w6.alloc (.cells #[.slice ra li.length rc] 23)) (g + 1) u l) := h2
          have HH1 : Hid ((w6.alloc (.cells #[.slice ra li.length rc] 23)).ownsRow (g + 1) 23 1 (.slice oa i oc) lr.length vals) := h1
          rw [HRl.out] at h1
          have hx7 : ORow (w6.alloc (.cells #[.slice ra li.length rc] 23)) (g + 1) (.slice ra li.length rc) li := HX6.out.below (balloc _ _)
          have hg7 : g + 1 ≤ (w6.alloc (.cells #[.slice ra li.length rc] 23)).heap.size := Nat.le_trans hg1 d7.size
          refine wp_append_lies _ _ _ 40 (by rfl) (g + 1) 23 i36 (.slice none 0 0) 1 24 undR ji3 jz0 jz1 jz2 rfl (by decide) (.slice oa i oc) i vals (by rfl) h1 ⟨w6.heap.size, 0, none⟩ 1 1 [.slice ra li.length rc] (by rfl) rfl (news_rowD w6 _) (fun u hu => by simp at hu; subst hu; rfl) (by decide) (by unfold maxLen; omega) (by omega) hg7 _ rfl ?_
          intro og oc8 w8 hown8 hgr8 _ _
          have hB8 : Below (g + 1) wr w8 := (d7.mono hg1).grown hgr8 hg7 (fun k hk => (h1.lt k hk).1)
          have hO8 : OR w8 (g + 1) (.slice (some ⟨og, 0, none⟩) (i + 1) oc8) (lr ++ [li]) := OR.more HH1.out HH2.out hx7 (by rw [HRl.out]; exact hown8) hgr8
          have hbx8 := HBX.out _ hB8
          have hq8 := hbx8.cell
          have hf8 : w8.frozen? ⟨g, 1, none⟩ = false := frozen_of_row w8 _ 1 _ _ hbx8.o
          clear hown8 hgr8 h1 h2 HH1 HH2 hx7 HOR HC HX6
          refine hJ.out _ _ trivial (fun _ => ?_)
          clear hJ J
          try simp only [Act.put, List.setIfInBounds_toArray]
          refine wpAnyH_take (i := 9) (v := .pointer (some ⟨g, 1, none⟩)) rfl (by kernel_rfl) (by kernel_rfl) (by kernel_rfl) (fun _ _ _ h => h) (Or.inl ⟨by rfl, fun w' hSw => by (try dsimp only at hSw); go_simp⟩) trivial ?_
          try simp only [Act.put]
          refine wpAnyH_ready (rs := [10]) (by kernel_rfl) (by simp) ?_
          refine AllReadyH.cons rfl (fun J hJ => ?_) AllReadyH.nil
          go_simp
          refine hJ.out _ _ trivial (fun _ => ?_)
          clear hJ J
          try simp only [Act.put, List.setIfInBounds_toArray, List.set_cons_zero, List.set_cons_succ]
          refine wpAnyH_done (by kernel_rfl) ?_ _
          refine NoPanic.normal ?_
          have hbx9 := hbx8.put hsg (.slice (some ⟨og, 0, none⟩) (i + 1) oc8)
          have hO9 := hO8.keep (w' := w8.setCell ⟨g, 1, none⟩ (.slice (some ⟨og, 0, none⟩) (i + 1) oc8)) (fun b hb _ => heap_setCell_other w8 ⟨g, 1, none⟩ b _ (by show b ≠ g; omega))
          rw [← HUU.out] at hO9
          have hB9 := (HBB.out _ hB8).setCell (p := ⟨g, 1, none⟩) (by show s ≤ g; omega) (.slice (some ⟨og, 0, none⟩) (i + 1) oc8)
          clear hbx8 hO8 hB8 hq8 hf8 HBX HBB
          go_wp2
          go_roundw
          case rel => exact ⟨i + 1, _, by go_num, by omega, hbx9, hO9, hB9⟩
          case measure => simp [intOf]; omega
        · go_simp
          refine (HCL.out _).mono ?_
          rintro e w6 ⟨x, rfl, hx6, b6⟩
          have d6 := Below.next d5 b6
          have hb56 : Below w5.heap.size w5 w6 := b6
          have hg5 : g + 1 ≤ w5.heap.size := Nat.le_trans hg1 d5.size
          have HX6 : Hid (ORow w6 (g + 1) x li) := own_low hx6 hg5
          obtain ⟨ra, rc, hxe⟩ : ∃ ra rc, x = .slice ra li.length rc := own_form hx6
          clear HCL b6 hx6
          go_wp2_with fail
          refine hJ.out _ _ trivial (fun _ => ?_)
          clear hJ J
          try simp only [Act.put, List.setIfInBounds_toArray, List.set_cons_zero, List.set_cons_succ]
          refine wpAnyH_ready (rs := [1, 7]) (by kernel_rfl) (by simp) ?_
          refine AllReadyH.cons rfl (fun J hJ => ?_) (AllReadyH.cons rfl (fun J hJ => ?_) AllReadyH.nil)
          · have hq := HC.out _ d6
            go_simp
            clear hq
            refine hJ.out _ _ trivial (fun _ => ?_)
            clear hJ J
            try simp only [Act.put, List.setIfInBounds_toArray, List.set_cons_zero, List.set_cons_succ]
            refine wpAnyH_ready (rs := [7]) (by kernel_rfl) (by simp) ?_
            refine AllReadyH.cons rfl (fun J hJ => ?_) AllReadyH.nil
            subst hxe
            go_simp
            have d7 := Below.next d6 (balloc w6 (.cells #[.slice ra li.length rc] 23))
            refine hJ.out _ _ trivial (fun _ => ?_)
            clear hJ J
            try simp only [Act.put, List.setIfInBounds_toArray, List.set_cons_zero, List.set_cons_succ]
            refine wpAnyH_ready (rs := [8]) (by kernel_rfl) (by simp) ?_
            refine AllReadyH.cons rfl (fun J hJ => ?_) AllReadyH.nil
            rw [if_pos (by rfl)]
            obtain ⟨vals, h1, h2⟩ := HOR.out _ d7
            have HH2 : Hid (∀ (i_1 : Nat) (u : Value) (l : List Nat), vals[i_1]? = some u → lr[i_1]? = some l → ORow (w6.alloc (.cells #[.slice ra li.length rc] 23)) (g + 1) u l) := h2
            have HH1 : Hid ((w6.alloc (.cells #[.slice ra li.length rc] 23)).ownsRow (g + 1) 23 1 (.slice oa i oc) lr.length vals) := h1
            rw [HRl.out] at h1
            have hx7 : ORow (w6.alloc (.cells #[.slice ra li.length rc] 23)) (g + 1) (.slice ra li.length rc) li := HX6.out.below (balloc _ _)
            have hg7 : g + 1 ≤ (w6.alloc (.cells #[.slice ra li.length rc] 23)).heap.size := Nat.le_trans hg1 d7.size
            refine wp_append_lies _ _ _ 40 (by rfl) (g + 1) 23 i36 (.slice none 0 0) 1 24 undR ji3 jz0 jz1 jz2 rfl (by decide) (.slice oa i oc) i vals (by rfl) h1 ⟨w6.heap.size, 0, none⟩ 1 1 [.slice ra li.length rc] (by rfl) rfl (news_rowD w6 _) (fun u hu => by simp at hu; subst hu; rfl) (by decide) (by unfold maxLen; omega) (by omega) hg7 _ rfl ?_
            intro og oc8 w8 hown8 hgr8 _ _
            have hB8 : Below (g + 1) wr w8 := (d7.mono hg1).grown hgr8 hg7 (fun k hk => (h1.lt k hk).1)
            have hO8 : OR w8 (g + 1) (.slice (some ⟨og, 0, none⟩) (i + 1) oc8) (lr ++ [li]) := OR.more HH1.out HH2.out hx7 (by rw [HRl.out]; exact hown8) hgr8
            have hbx8 := HBX.out _ hB8
            have hq8 := hbx8.cell
            have hf8 : w8.frozen? ⟨g, 1, none⟩ = false := frozen_of_row w8 _ 1 _ _ hbx8.o
            clear hown8 hgr8 h1 h2 HH1 HH2 hx7 HOR HC HX6
            refine hJ.out _ _ trivial (fun _ => ?_)
            clear hJ J
            try simp only [Act.put, List.setIfInBounds_toArray]
            refine wpAnyH_take (i := 9) (v := .pointer (some ⟨g, 1, none⟩)) rfl (by kernel_rfl) (by kernel_rfl) (by kernel_rfl) (fun _ _ _ h => h) (Or.inl ⟨by rfl, fun w' hSw => by (try dsimp only at hSw); go_simp⟩) trivial ?_
            try simp only [Act.put]
            refine wpAnyH_ready (rs := [10]) (by kernel_rfl) (by simp) ?_
            refine AllReadyH.cons rfl (fun J hJ => ?_) AllReadyH.nil
            go_simp
            refine hJ.out _ _ trivial (fun _ => ?_)
            clear hJ J
            try simp only [Act.put, List.setIfInBounds_toArray, List.set_cons_zero, List.set_cons_succ]
            refine wpAnyH_done (by kernel_rfl) ?_ _
            refine NoPanic.normal ?_
            have hbx9 := hbx8.put hsg (.slice (some ⟨og, 0, none⟩) (i + 1) oc8)
            have hO9 := hO8.keep (w' := w8.setCell ⟨g, 1, none⟩ (.slice (some ⟨og, 0, none⟩) (i + 1) oc8)) (fun b hb _ => heap_setCell_other w8 ⟨g, 1, none⟩ b _ (by show b ≠ g; omega))
            rw [← HUU.out] at hO9
            have hB9 := (HBB.out _ hB8).setCell (p := ⟨g, 1, none⟩) (by show s ≤ g; omega) (.slice (some ⟨og, 0, none⟩) (i + 1) oc8)
            clear hbx8 hO8 hB8 hq8 hf8 HBX HBB
            go_wp2
            go_roundw
            case rel => exact ⟨i + 1, _, by go_num, by omega, hbx9, hO9, hB9⟩
            case measure => simp [intOf]; omega
          · subst hxe
            go_simp
            have d7 := Below.next d6 (balloc w6 (.cells #[.slice ra li.length rc] 23))
            refine hJ.out _ _ trivial (fun _ => ?_)
            clear hJ J
            try simp only [Act.put, List.setIfInBounds_toArray, List.set_cons_zero, List.set_cons_succ]
            refine wpAnyH_ready (rs := [1]) (by kernel_rfl) (by simp) ?_
            refine AllReadyH.cons rfl (fun J hJ => ?_) AllReadyH.nil
            have hq := HC.out _ d7
            go_simp
            clear hq
            refine hJ.out _ _ trivial (fun _ => ?_)
            clear hJ J
            try simp only [Act.put, List.setIfInBounds_toArray, List.set_cons_zero, List.set_cons_succ]
            refine wpAnyH_ready (rs := [8]) (by kernel_rfl) (by simp) ?_
            refine AllReadyH.cons rfl (fun J hJ => ?_) AllReadyH.nil
            rw [if_pos (by rfl)]
            obtain ⟨vals, h1, h2⟩ := HOR.out _ d7
            have HH2 : Hid (∀ (i_1 : Nat) (u : Value) (l : List Nat), vals[i_1]? = some u → lr[i_1]? = some l → ORow (w6.alloc (.cells #[.slice ra li.length rc] 23)) (g + 1) u l) := h2
            have HH1 : Hid ((w6.alloc (.cells #[.slice ra li.length rc] 23)).ownsRow (g + 1) 23 1 (.slice oa i oc) lr.length vals) := h1
            rw [HRl.out] at h1
            have hx7 : ORow (w6.alloc (.cells #[.slice ra li.length rc] 23)) (g + 1) (.slice ra li.length rc) li := HX6.out.below (balloc _ _)
            have hg7 : g + 1 ≤ (w6.alloc (.cells #[.slice ra li.length rc] 23)).heap.size := Nat.le_trans hg1 d7.size
            refine wp_append_lies _ _ _ 40 (by rfl) (g + 1) 23 i36 (.slice none 0 0) 1 24 undR ji3 jz0 jz1 jz2 rfl (by decide) (.slice oa i oc) i vals (by rfl) h1 ⟨w6.heap.size, 0, none⟩ 1 1 [.slice ra li.length rc] (by rfl) rfl (news_rowD w6 _) (fun u hu => by simp at hu; subst hu; rfl) (by decide) (by unfold maxLen; omega) (by omega) hg7 _ rfl ?_
            intro og oc8 w8 hown8 hgr8 _ _
            have hB8 : Below (g + 1) wr w8 := (d7.mono hg1).grown hgr8 hg7 (fun k hk => (h1.lt k hk).1)
            have hO8 : OR w8 (g + 1) (.slice (some ⟨og, 0, none⟩) (i + 1) oc8) (lr ++ [li]) := OR.more HH1.out HH2.out hx7 (by rw [HRl.out]; exact hown8) hgr8
            have hbx8 := HBX.out _ hB8
            have hq8 := hbx8.cell
            have hf8 : w8.frozen? ⟨g, 1, none⟩ = false := frozen_of_row w8 _ 1 _ _ hbx8.o
            clear hown8 hgr8 h1 h2 HH1 HH2 hx7 HOR HC HX6
            refine hJ.out _ _ trivial (fun _ => ?_)
            clear hJ J
            try simp only [Act.put, List.setIfInBounds_toArray]
            refine wpAnyH_take (i := 9) (v := .pointer (some ⟨g, 1, none⟩)) rfl (by kernel_rfl) (by kernel_rfl) (by kernel_rfl) (fun _ _ _ h => h) (Or.inl ⟨by rfl, fun w' hSw => by (try dsimp only at hSw); go_simp⟩) trivial ?_
            try simp only [Act.put]
            refine wpAnyH_ready (rs := [10]) (by kernel_rfl) (by simp) ?_
            refine AllReadyH.cons rfl (fun J hJ => ?_) AllReadyH.nil
            go_simp
            refine hJ.out _ _ trivial (fun _ => ?_)
            clear hJ J
            try simp only [Act.put, List.setIfInBounds_toArray, List.set_cons_zero, List.set_cons_succ]
            refine wpAnyH_done (by kernel_rfl) ?_ _
            refine NoPanic.normal ?_
            have hbx9 := hbx8.put hsg (.slice (some ⟨og, 0, none⟩) (i + 1) oc8)
            have hO9 := hO8.keep (w' := w8.setCell ⟨g, 1, none⟩ (.slice (some ⟨og, 0, none⟩) (i + 1) oc8)) (fun b hb _ => heap_setCell_other w8 ⟨g, 1, none⟩ b _ (by show b ≠ g; omega))
            rw [← HUU.out] at hO9
            have hB9 := (HBB.out _ hB8).setCell (p := ⟨g, 1, none⟩) (by show s ≤ g; omega) (.slice (some ⟨og, 0, none⟩) (i + 1) oc8)
            clear hbx8 hO8 hB8 hq8 hf8 HBX HBB
            go_wp2
            go_roundw
            case rel => exact ⟨i + 1, _, by go_num, by omega, hbx9, hO9, hB9⟩
            case measure => simp [intOf]; omega
    · have hdi : decide ((i : Int) < (v : Int)) = false := by simp; omega
      obtain rfl : i = v := by omega
      obtain ⟨oa, oc, hoa⟩ := hOR.cap
      rw [HLn2.out] at hoa
      subst hoa
      have a0 : wr.cell? ⟨g, 0, none⟩ = some (.int .i64 (i : Int)) := by rw [cell_of_row _ _ _ _ _ _ hbx.o]; rfl
      have a1 := hbx.cell
      have a2 : wr.cell? ⟨s, 0, none⟩ = some (.int .i64 0) := by rw [cell_of_row _ _ _ _ _ _ hbx.r]; rfl
      have a3 : wr.cell? ⟨s, 1, none⟩ = some (.slice none 0 0) := by rw [cell_of_row _ _ _ _ _ _ hbx.r]; rfl
      have f0 : wr.frozen? ⟨s, 0, none⟩ = false := frozen_of_row wr _ 0 _ _ hbx.r
      have f1 : wr.frozen? ⟨s, 1, none⟩ = false := frozen_of_row wr _ 1 _ _ hbx.r
      have hn1 := heap_setCell_same wr s 0 _ _ (.int .i64 (i : Int)) hbx.r
      have hn2 := heap_setCell_same _ s 1 _ _ (.slice oa i oc) hn1
      have hO2 := (hOR.keep (w' := wr.setCell ⟨s, 0, none⟩ (.int .i64 (i : Int))) (fun b hb _ => heap_setCell_other wr ⟨s, 0, none⟩ b _ (by show b ≠ s; omega))).keep (w' := (wr.setCell ⟨s, 0, none⟩ (.int .i64 (i : Int))).setCell ⟨s, 1, none⟩ (.slice oa i oc)) (fun b hb _ => heap_setCell_other _ ⟨s, 1, none⟩ b _ (by show b ≠ s; omega))
      have hB2 := (hB.setCell (p := ⟨s, 0, none⟩) (Nat.le_refl _) (.int .i64 (i : Int))).setCell (p := ⟨s, 1, none⟩) (Nat.le_refl _) (.slice oa i oc)
      clear hbx hOR
      go_wp2
      exact post_d2 4 5 Tryd.results13 rfl hn2 rfl rfl ⟨_, rfl, or_low hO2 (by omega), hB2⟩

end Go.Proofs.YtcjkcgfohmhbcabDoor
