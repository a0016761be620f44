/- The walk of the document's DifferOf. -/
import Derived.Test.YtogdcjlgddleaaaS3
import Derived.Test.YtogdcjlgddleaaaDCm
namespace Go.Proofs.Ytogdcjlgddleaaa
open Go.RowKit Go.Maps

/-- A block of numbers. -/
def Io (w : World) (g n : Nat) (f : Nat → Int) : Prop := ∃ cur t, w.heap[g]? = some (.cells cur t (0, 0)) ∧ ∀ j, j < n → cur[j]? = some (.int .i64 (f j))
theorem Io.lt {w : World} {g n : Nat} {f : Nat → Int} (h : Io w g n f) : g < w.heap.size := by
  obtain ⟨_, _, h1, _⟩ := h
  exact (Array.getElem?_eq_some_iff.1 h1).1
theorem Io.cell {w : World} {g n : Nat} {f : Nat → Int} (h : Io w g n f) (j : Nat) (hj : j < n) : w.cell? ⟨g, j, none⟩ = some (.int .i64 (f j)) := by
  obtain ⟨cur, t, h1, h2⟩ := h
  rw [cell_of_row _ _ _ _ _ _ h1, h2 j hj]
theorem Io.frozen {w : World} {g n : Nat} {f : Nat → Int} (h : Io w g n f) (j : Nat) : w.frozen? ⟨g, j, none⟩ = false := by
  obtain ⟨cur, t, h1, _⟩ := h
  exact frozen_of_row _ _ _ _ _ h1
theorem Io.set {w : World} {g n : Nat} {f : Nat → Int} (h : Io w g n f) (i : Nat) (v : Int) : Io (w.setCell ⟨g, i, none⟩ (.int .i64 v)) g n (upd f i v) := by
  obtain ⟨cur, t, h1, h2⟩ := h
  refine ⟨_, t, heap_setCell_same w g i _ _ _ h1, fun j hj => ?_⟩
  rw [Array.getElem?_setIfInBounds]
  unfold upd
  by_cases e : i = j
  · subst e
    rw [if_pos rfl, if_pos rfl, if_pos (Array.getElem?_eq_some_iff.1 (h2 i hj)).1]
  · rw [if_neg e, if_neg (fun h => e h.symm)]
    exact h2 j hj
theorem Io.below {w w' : World} {g n : Nat} {f : Nat → Int} (h : Io w g n f) (hb : Below w.heap.size w w') : Io w' g n f := by
  have hl := h.lt
  obtain ⟨cur, t, h1, h2⟩ := h
  exact ⟨cur, t, (hb.block g hl).trans h1, h2⟩
theorem Io.congr {w : World} {g n : Nat} {f f' : Nat → Int} (h : Io w g n f) (e : ∀ j, f j = f' j) : Io w g n f' := by
  have : f = f' := funext e
  rw [← this]; exact h
theorem run_makeI (n : Nat) (hn : n ≤ 100000) (w : World) : (Instr.makeSlice 22 (.int .i64 (n : Int)) (.int .i64 (n : Int))).run Try.prog w = .ok (.slice (some ⟨w.heap.size, 0, none⟩) n n) (w.alloc (.cells (madeCells #[.int .i64 0] n) 3)) := by
  obtain ⟨i4, hi, hz0, hz1, hz2⟩ := info3
  have h := run_make (P := Try.prog) w 22 3 i4 (.int .i64 0) und22 hi hz0 .i64 .i64 n n (by omega) (by omega) (by rw [hz2]; omega) (by omega)
  simpa [hz1, Value.cells] using h
theorem io_new (w : World) (n : Nat) : Io (w.alloc (.cells (madeCells #[.int .i64 0] n) 3)) w.heap.size n (fun _ => 0) := by
  refine ⟨_, 3, heap_alloc_new w _, fun j hj => ?_⟩
  rw [Array.getElem?_eq_getElem (by rw [size_madeCells]; exact hj)]
  simp [madeCells, Nat.mod_one]
set_option maxRecDepth 100000 in
set_option maxHeartbeats 8000000 in
theorem DifferOf_any (v : Nat) (D : List Nat) (u : Value) (w : World) (hG : GoodS v D) (hu : Sl w u (D.map Int.ofNat)) :
    Calls Try.prog 11 #[.int .i64 (v : Int), u] w fun e w' => e = .returned (.tuple #[.int .i64 (lvL v D : Int), .int .i64 (lvE v D : Int)]) ∧ Below w.heap.size w w' := by
  have hmk : ∀ w : World, (Instr.makeSlice 22 (.int .i64 (v : Int)) (.int .i64 (v : Int))).run Try.prog w = .ok (.slice (some ⟨w.heap.size, 0, none⟩) v v) (w.alloc (.cells (madeCells #[.int .i64 0] v) 3)) := fun w => run_makeI v (by have := hG.le; omega) w
  obtain ⟨a, ca, rfl, hA⟩ := sl_at hu
  have h1 := hG.pos
  have h60 := hG.le
  have hlen := hG.len
  obtain ⟨g, Hg⟩ : ∃ g, Hid (w.heap.size = g) := ⟨_, rfl⟩
  have HA : Hid (∀ i, i < D.length → ∃ b off, a = some ⟨b, off, none⟩ ∧ ∀ W, Below g w W → W.cell? ⟨b, off + i, none⟩ = some (.int .i64 ((D.getD i 0 : Nat) : Int))) := fun i hi => by
    obtain ⟨b, o, e, hc⟩ := hA i hi
    exact ⟨b, o, e, fun W bW => (bW.cell (by rw [← Hg.out]; exact World.block_lt_of_cell? _ _ hc)).trans hc⟩
  have HV : Hid (∀ i, i < D.length → D.getD i 0 < v) := fun i hi => by
    rw [List.getD_eq_getElem?_getD, List.getElem?_eq_getElem hi]; exact hG.lt _ (List.getElem_mem hi)
  have HN : Hid (∀ i j, j < D.length → dfP v D i (j + 1) = dfP v D i j ++ [(D.getD i 0 + v - D.getD j 0) % v]) := fun i j h => dfP_next h
  have HRw : Hid (∀ i, i < D.length → dfP v D i D.length = dfP v D (i + 1) 0) := fun i h => dfP_row h
  have HE : Hid (dfP v D D.length 0 = dfL v D D) := dfP_full v D
  have HBd : Hid (∀ i j c, i ≤ D.length → j ≤ D.length → 0 ≤ cntT (dfP v D i j) c ∧ cntT (dfP v D i j) c ≤ 60 * 60 + 60) := fun i j c hi hj => by
    have h2 := cntT_bd (dfP v D i j) c
    rw [dfP_len hi hj] at h2
    have h3 : i * D.length ≤ 60 * 60 := Nat.mul_le_mul (by omega) (by omega)
    omega
  have HNo : Hid (∀ s, 2 ≤ s → s < v → dfN v D s ≠ dfN v D 1 → lvL v D = 0 ∧ lvE v D = 4) := fun s h1 h2 h3 => lv_no h1 h2 h3
  have HY : Hid ((∀ s, 2 ≤ s → s < v → dfN v D s = dfN v D 1) → lvL v D = dfN v D 1 ∧ lvE v D = 0) := lv_yes
  have HLe : Hid (∀ c, dfN v D c ≤ 60 * 60) := dfN_le hG
  have HOv : Hid (v = 1 → dfN v D 1 = 0) := fun e => df_over (by omega) (by omega)
  obtain ⟨l, Hl⟩ : ∃ l, Hid (lvL v D = l) := ⟨_, rfl⟩
  obtain ⟨gg, Hgg⟩ : ∃ g, Hid (lvE v D = g) := ⟨_, rfl⟩
  rw [Hl.out, Hgg.out] at HNo HY ⊢
  obtain ⟨t1, Ht1⟩ : ∃ t1, Hid (dfN v D 1 = t1) := ⟨_, rfl⟩
  have ht1 := HLe.out 1
  rw [Ht1.out] at HNo HY ht1 HOv
  have hio0 := io_new w v
  have hb0 := balloc w (.cells (madeCells #[.int .i64 0] v) 3)
  rw [Hg.out] at hio0 hb0 ⊢
  generalize D.length = n at *
  have hv0 : (v : Int) ≠ 0 := by omega
  have hgw : w.heap.size = g := Hg.out
  clear hu hA hG
  go_enter Try.func11, Try.ntmps11
  go_wp2
  (try rw [hgw])
  go_loopw [7] (fun iv wr => ∃ i : Nat, iv = .int .i64 (i : Int) ∧ i ≤ n ∧ Io wr g v (cntT (dfP v D i 0)) ∧ Below g w wr) (fun iv _ => (n - intOf iv).toNat)
  case atStart => exact ⟨0, rfl, by omega, hio0.congr (fun c => by simp [cntT, dfP, dfL]), hb0⟩
  case round =>
    clear hio0 hb0 hmk
    obtain ⟨i, rfl, hi, hio, hB⟩ := hrel
    by_cases hlt : i < n
    · have hii : (i : Int) < n := by omega
      have hdec : decide ((i : Int) < n) = true := by simp; omega
      obtain ⟨b1, o1, rfl, c1⟩ := HA.out i hlt
      have hxv := HV.out i hlt
      have HN1 := HN.out i
      have HBd1 : Hid (∀ j c, j ≤ n → 0 ≤ cntT (dfP v D i j) c ∧ cntT (dfP v D i j) c ≤ 60 * 60 + 60) := fun j c hj => HBd.out i j c (by omega) hj
      have HR1 : Hid (dfP v D i n = dfP v D (i + 1) 0) := HRw.out i hlt
      obtain ⟨x, hx⟩ : ∃ x, D.getD i 0 = x := ⟨_, rfl⟩
      rw [hx] at c1 hxv HN1
      have HC1 : Hid (∀ W, Below g w W → W.cell? ⟨b1, o1 + i, none⟩ = some (.int .i64 (x : Int))) := c1
      have HN2 : Hid (∀ j, j < n → dfP v D i (j + 1) = dfP v D i j ++ [(x + v - D.getD j 0) % v]) := HN1
      clear hx HN1 HE HBd HRw c1 HNo HY HLe HOv
      go_wp2
      go_loopw [8] (fun jv wr => ∃ j : Nat, jv = .int .i64 (j : Int) ∧ j ≤ n ∧ Io wr g v (cntT (dfP v D i j)) ∧ Below g w wr) (fun jv _ => (n - intOf jv).toNat)
      case atStart => exact ⟨0, rfl, by omega, hio, hB⟩
      case round =>
        clear hio hB
        obtain ⟨j, rfl, hj, hio, hB⟩ := hrel
        by_cases hlj : j < n
        · have hjj : (j : Int) < n := by omega
          have hdej : decide ((j : Int) < n) = true := by simp; omega
          obtain ⟨b2, o2, e2, c2⟩ := HA.out j hlj
          obtain ⟨rfl, rfl⟩ : b1 = b2 ∧ o1 = o2 := by
            simp only [Option.some.injEq, Addr.mk.injEq] at e2
            exact ⟨e2.1, e2.2.1⟩
          have hyv := HV.out j hlj
          have hN := HN2.out j hlj
          obtain ⟨y, hy⟩ : ∃ y, D.getD j 0 = y := ⟨_, rfl⟩
          rw [hy] at c2 hyv hN
          have HS : Hid (∀ W, Below g w W → W.cell? ⟨b1, o1 + i, none⟩ = some (.int .i64 (x : Int)) ∧ W.cell? ⟨b1, o1 + j, none⟩ = some (.int .i64 (y : Int))) := fun W bW => ⟨HC1.out W bW, c2 W bW⟩
          have hm := df_int (x := x) hyv
          obtain ⟨k, Hk⟩ : ∃ k, Hid ((x + v - y) % v = k) := ⟨_, rfl⟩
          have hkv : k < v := by rw [← Hk.out]; exact Nat.mod_lt _ (by omega)
          have hkvi : (k : Int) < (v : Int) := by omega
          rw [Hk.out] at hm hN
          have hbd := HBd1.out j k (by omega)
          obtain ⟨ks, Hks⟩ : ∃ ks, Hid (dfP v D i j = ks) := ⟨_, rfl⟩
          rw [Hks.out] at hN hbd hio
          have HNN : Hid (dfP v D i (j + 1) = ks ++ [k]) := hN
          have HP : Hid (∀ c, upd (cntT ks) k (cntT ks k + 1) c = cntT (ks ++ [k]) c) := fun c => cntT_put ks k c
          obtain ⟨t, Ht⟩ : ∃ t, Hid (cntT ks k = t) := ⟨_, rfl⟩
          have hio1 := hio.below (Below.refl _ wr).drew
          have hcm := hio1.cell k hkv
          have hfz := hio1.frozen k
          have hset := hio1.set k (cntT ks k + 1)
          have hB1 : Below g w wr.drew := hB.drew
          have hB2 := hB1.setCell (p := ⟨g, k, none⟩) (Nat.le_refl _) (.int .i64 (cntT ks k + 1))
          rw [Ht.out] at hbd HP hcm hset hB2
          have hset2 := hset.congr HP.out
          rw [← HNN.out] at hset2
          have hw1 : IntKind.i64.wrap ((x : Int) - (y : Int)) = (x : Int) - (y : Int) := IntWalk.i64_in _ (by omega)
          have hw2 : IntKind.i64.wrap ((x : Int) - (y : Int) + (v : Int)) = (x : Int) - (y : Int) + (v : Int) := IntWalk.i64_in _ (by omega)
          have hw3 : IntKind.i64.wrap (t + 1) = t + 1 := IntWalk.i64_in _ (by omega)
          have hw4 : ¬ v = 0 := by omega
          clear hN e2 hy c2 HA HV HN HN2 hio hset HBd1 hio1 HC1 Hks HP HNN
          go_wp2
          refine wp_region_noPanic ?_
          refine wp_region_held_drew (S := fun w' => w'.cell? ⟨b1, o1 + i, none⟩ = some (.int .i64 (x : Int)) ∧ w'.cell? ⟨b1, o1 + j, none⟩ = some (.int .i64 (y : Int))) (by kernel_rfl) (HS.out _ hB1) (fun hSx => ?_)
          refine wpAnyH_take (i := 0) (v := .slice (some ⟨g, 0, none⟩) v v) rfl (by kernel_rfl) (by kernel_rfl) (by kernel_rfl) (fun _ _ _ h => h) (Or.inl ⟨by rfl, fun w' hSw => by (try dsimp only at hSw); obtain ⟨hs0, hs1⟩ := hSw; go_simp⟩) hSx ?_
          try simp only [Act.put, List.setIfInBounds_toArray]
          refine wpAnyH_take (i := 1) (v := .slice (some ⟨b1, o1, none⟩) n ca) rfl (by kernel_rfl) (by kernel_rfl) (by kernel_rfl) (fun _ _ _ h => h) (Or.inl ⟨by rfl, fun w' hSw => by (try dsimp only at hSw); obtain ⟨hs0, hs1⟩ := hSw; go_simp⟩) hSx ?_
          try simp only [Act.put]
          refine wpAnyH_take (i := 2) (v := .int .i64 (i : Int)) rfl (by kernel_rfl) (by kernel_rfl) (by kernel_rfl) (fun _ _ _ h => h) (Or.inl ⟨by rfl, fun w' hSw => by (try dsimp only at hSw); obtain ⟨hs0, hs1⟩ := hSw; go_simp⟩) hSx ?_
          try simp only [Act.put]
          refine wpAnyH_take (i := 3) (v := .pointer (some ⟨b1, o1 + i, none⟩)) rfl (by kernel_rfl) (by kernel_rfl) (by kernel_rfl) (fun _ _ _ h => h) (Or.inl ⟨by rfl, fun w' hSw => by (try dsimp only at hSw); obtain ⟨hs0, hs1⟩ := hSw; go_simp⟩) hSx ?_
          try simp only [Act.put]
          refine wpAnyH_take (i := 4) (v := .int .i64 (x : Int)) rfl (by kernel_rfl) (by kernel_rfl) (by kernel_rfl) (fun _ _ _ h => h) (Or.inl ⟨by rfl, fun w' hSw => by (try dsimp only at hSw); obtain ⟨hs0, hs1⟩ := hSw; go_simp⟩) hSx ?_
          try simp only [Act.put]
          refine wpAnyH_take (i := 5) (v := .slice (some ⟨b1, o1, none⟩) n ca) rfl (by kernel_rfl) (by kernel_rfl) (by kernel_rfl) (fun _ _ _ h => h) (Or.inl ⟨by rfl, fun w' hSw => by (try dsimp only at hSw); obtain ⟨hs0, hs1⟩ := hSw; go_simp⟩) hSx ?_
          try simp only [Act.put]
          refine wpAnyH_take (i := 6) (v := .int .i64 (j : Int)) rfl (by kernel_rfl) (by kernel_rfl) (by kernel_rfl) (fun _ _ _ h => h) (Or.inl ⟨by rfl, fun w' hSw => by (try dsimp only at hSw); obtain ⟨hs0, hs1⟩ := hSw; go_simp⟩) hSx ?_
          try simp only [Act.put]
          refine wpAnyH_take (i := 7) (v := .pointer (some ⟨b1, o1 + j, none⟩)) rfl (by kernel_rfl) (by kernel_rfl) (by kernel_rfl) (fun _ _ _ h => h) (Or.inl ⟨by rfl, fun w' hSw => by (try dsimp only at hSw); obtain ⟨hs0, hs1⟩ := hSw; go_simp⟩) hSx ?_
          try simp only [Act.put]
          refine wpAnyH_take (i := 8) (v := .int .i64 (y : Int)) rfl (by kernel_rfl) (by kernel_rfl) (by kernel_rfl) (fun _ _ _ h => h) (Or.inl ⟨by rfl, fun w' hSw => by (try dsimp only at hSw); obtain ⟨hs0, hs1⟩ := hSw; go_simp⟩) hSx ?_
          try simp only [Act.put]
          refine wpAnyH_take (i := 9) (v := .int .i64 ((x : Int) - (y : Int))) rfl (by kernel_rfl) (by kernel_rfl) (by kernel_rfl) (fun _ _ _ h => h) (Or.inl ⟨by rfl, fun w' hSw => by (try dsimp only at hSw); obtain ⟨hs0, hs1⟩ := hSw; go_simp⟩) hSx ?_
          try simp only [Act.put]
          refine wpAnyH_take (i := 10) (v := .int .i64 (v : Int)) rfl (by kernel_rfl) (by kernel_rfl) (by kernel_rfl) (fun _ _ _ h => h) (Or.inl ⟨by rfl, fun w' hSw => by (try dsimp only at hSw); obtain ⟨hs0, hs1⟩ := hSw; go_simp⟩) hSx ?_
          try simp only [Act.put]
          refine wpAnyH_take (i := 11) (v := .int .i64 ((x : Int) - (y : Int) + (v : Int))) rfl (by kernel_rfl) (by kernel_rfl) (by kernel_rfl) (fun _ _ _ h => h) (Or.inl ⟨by rfl, fun w' hSw => by (try dsimp only at hSw); obtain ⟨hs0, hs1⟩ := hSw; go_simp⟩) hSx ?_
          try simp only [Act.put]
          refine wpAnyH_take (i := 12) (v := .int .i64 (v : Int)) rfl (by kernel_rfl) (by kernel_rfl) (by kernel_rfl) (fun _ _ _ h => h) (Or.inl ⟨by rfl, fun w' hSw => by (try dsimp only at hSw); obtain ⟨hs0, hs1⟩ := hSw; go_simp⟩) hSx ?_
          try simp only [Act.put]
          refine wpAnyH_take (i := 13) (v := .int .i64 (k : Int)) rfl (by kernel_rfl) (by kernel_rfl) (by kernel_rfl) (fun _ _ _ h => h) (Or.inl ⟨by rfl, fun w' hSw => by (try dsimp only at hSw); obtain ⟨hs0, hs1⟩ := hSw; go_simp⟩) hSx ?_
          try simp only [Act.put]
          refine wpAnyH_take (i := 14) (v := .pointer (some ⟨g, k, none⟩)) rfl (by kernel_rfl) (by kernel_rfl) (by kernel_rfl) (fun _ _ _ h => h) (Or.inl ⟨by rfl, fun w' hSw => by (try dsimp only at hSw); obtain ⟨hs0, hs1⟩ := hSw; go_simp⟩) hSx ?_
          try simp only [Act.put]
          refine wpAnyH_ready (rs := [15]) (by kernel_rfl) (by simp) ?_
          refine AllReadyH.cons rfl (fun J hJ => ?_) AllReadyH.nil
          go_simp
          refine hJ.out _ _ (HS.out _ hB1) (fun hSx => ?_)
          clear hJ J
          try simp only [Act.put, List.setIfInBounds_toArray, List.set_cons_zero, List.set_cons_succ]
          refine wpAnyH_take (i := 16) (v := .int .i64 (t + 1)) rfl (by kernel_rfl) (by kernel_rfl) (by kernel_rfl) (fun _ _ _ h => h) (Or.inl ⟨by rfl, fun w' hSw => by (try dsimp only at hSw); obtain ⟨hs0, hs1⟩ := hSw; go_simp⟩) hSx ?_
          try simp only [Act.put, List.setIfInBounds_toArray]
          refine wpAnyH_take (i := 17) (v := .pointer (some ⟨g, k, none⟩)) rfl (by kernel_rfl) (by kernel_rfl) (by kernel_rfl) (fun _ _ _ h => h) (Or.inl ⟨by rfl, fun w' hSw => by (try dsimp only at hSw); obtain ⟨hs0, hs1⟩ := hSw; go_simp⟩) hSx ?_
          try simp only [Act.put]
          refine wpAnyH_ready (rs := [18]) (by kernel_rfl) (by simp) ?_
          refine AllReadyH.cons rfl (fun J hJ => ?_) AllReadyH.nil
          go_simp
          refine hJ.out _ _ (HS.out _ hB2) (fun hSx => ?_)
          clear hJ J
          try simp only [Act.put, List.setIfInBounds_toArray, List.set_cons_zero, List.set_cons_succ]
          refine wpAnyH_done (by kernel_rfl) ?_ _
          refine NoPanic.normal ?_
          clear hSx HS hcm hfz hB1
          go_wp2
          go_roundw
          case rel => exact ⟨j + 1, by go_num, by omega, hset2, hB2⟩
          case measure => simp [intOf]; omega
        · have hdej : decide ((j : Int) < n) = false := by simp; omega
          obtain rfl : j = n := by omega
          rw [HR1.out] at hio
          go_wp2
          go_roundw
          case rel => exact ⟨i + 1, by go_num, by omega, hio, hB⟩
          case measure => simp [intOf]; omega
    · have hdec : decide ((i : Int) < n) = false := by simp; omega
      obtain rfl : i = n := by omega
      rw [HE.out] at hio
      clear HA HV HN HRw HE HBd
      go_wp2
      go_loopw [9] (fun dv wr' => ∃ d : Nat, dv = .int .i64 (d : Int) ∧ 2 ≤ d ∧ (d ≤ v ∨ d = 2) ∧ Hid (∀ s, 2 ≤ s → s < d → s < v → dfN v D s = t1) ∧ Io wr' g v (cntT (dfL v D D)) ∧ Below g w wr') (fun dv _ => (v - intOf dv).toNat)
      case atStart => exact ⟨2, rfl, by omega, .inr rfl, (show ∀ s, 2 ≤ s → s < 2 → s < v → _ from fun s h1 h2 => by omega), hio, hB⟩
      case round =>
        clear hio hB
        obtain ⟨d, rfl, hd2, hdv, HI, hio, hB⟩ := hrel
        by_cases hlt : d < v
        · have hdi : (d : Int) < (v : Int) := by omega
          have h1i : (1 : Int) < (v : Int) := by omega
          have hdec : decide ((d : Int) < (v : Int)) = true := by simp; omega
          obtain ⟨td, Htd⟩ : ∃ td, Hid (dfN v D d = td) := ⟨_, rfl⟩
          have hHN := HNo.out d hd2 hlt
          have c1 := hio.cell 1 (by omega)
          have c2 := hio.cell d hlt
          rw [cntT_df, Ht1.out] at c1
          rw [cntT_df, Htd.out] at c2
          rw [Htd.out] at hHN
          have htd := HLe.out d
          rw [Htd.out] at htd
          have HIo : Hid (Io wr g v (cntT (dfL v D D))) := hio
          by_cases e : td = t1
          · subst e
            have HI2 : Hid (∀ s, 2 ≤ s → s < d + 1 → s < v → dfN v D s = td) := fun s h1 h2 h3 => by
              by_cases e : s = d
              · subst e; exact Htd.out
              · exact HI.out s h1 (by omega) h3
            clear HI hHN HNo HY HLe hio
            go_wp2
            go_quiet (fail)
            go_wp2
            go_roundw
            case rel => exact ⟨d + 1, by go_num, by omega, .inl (by omega), HI2, HIo.out.below (bdrewN (Below.refl _ wr) _), bdrewN hB _⟩
            case measure => simp [intOf]; omega
          · obtain ⟨rfl, rfl⟩ := hHN e
            have e1 : ¬ (td : Int) = (t1 : Int) := by omega
            have e2 : ((td : Int) != (t1 : Int)) = true := by simpa using e1
            clear HI HNo HY HLe hio
            go_wp2
            go_quiet (fail)
            go_wp2
            go_ret2
            exact ⟨rfl, bdrewN hB _⟩
        · have hdec : decide ((d : Int) < (v : Int)) = false := by simp; omega
          obtain ⟨rfl, rfl⟩ := HY.out fun s h2 h3 => HI.out s h2 (by omega) h3
          by_cases e : v = 1
          · obtain rfl := HOv.out e
            subst e
            clear HI HNo HY HLe hio HOv
            go_wp2
            go_ret2
            exact ⟨rfl, hB⟩
          · have c1 := hio.cell 1 (by omega)
            rw [cntT_df, Ht1.out] at c1
            have h1i : (1 : Int) < (v : Int) := by omega
            have e1 : ¬ (v : Int) = 1 := by omega
            have e2 : ((v : Int) == 1) = false := by simpa using e1
            clear HI HNo HY HLe hio HOv
            go_wp2
            go_ret2
            exact ⟨rfl, hB⟩

end Go.Proofs.Ytogdcjlgddleaaa
