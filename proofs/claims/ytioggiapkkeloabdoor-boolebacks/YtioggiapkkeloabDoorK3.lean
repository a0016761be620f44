/- The walk of folded, of numbers. -/
import Derived.Test.YtioggiapkkeloabDoorK2
import Derived.Deep.RegionHeld3
import Derived.Deep.MidRow
namespace Go.Proofs.YtioggiapkkeloabDoor
open Go.RowKit

theorem foldI_und : Tryd.prog.underlying 22 = some (.slice 3) := by kernel_rfl
theorem foldI_info : ∃ i, Tryd.prog.info? 3 = some i ∧ i.zero = some (.int .i64 0) ∧ i.size = 1 ∧ i.bytes = 8 := by
  refine ⟨_, rfl, ?_, ?_, ?_⟩ <;> kernel_rfl
theorem foldI_make (n : Nat) (hn : n ≤ 999) (w : World) : (Instr.makeSlice 22 (.int .i64 (n : Int)) (.int .i64 (n : Int))).run Tryd.prog w = .ok (.slice (some ⟨w.heap.size, 0, none⟩) n n) (w.alloc (.cells (madeCells #[.int .i64 0] n) 3)) := by
  obtain ⟨i3, hi, hz0, hz1, hz2⟩ := foldI_info
  have h := run_make (P := Tryd.prog) w 22 3 i3 (.int .i64 0) foldI_und hi hz0 .i64 .i64 n n (by omega) (by omega) (by rw [hz2]; omega) (by omega)
  simpa [hz1, Value.cells] using h
set_option maxRecDepth 100000 in
set_option maxHeartbeats 8000000 in
theorem foldI_any (n gb gp : Nat) (l : List Int) (F : Nat → Int) (p1 p2 : Int → Int → Int) (v : Value) (w : World) (hn : n ≤ 8) (hl : l.length = 2 ^ n) (hv : Sl w v l)
    (eb : ∀ args w, (callFunc gb args).run Tryd.prog w = .ok (.enter gb args) w) (ep : ∀ args w, (callFunc gp args).run Tryd.prog w = .ok (.enter gp args) w)
    (cb : ∀ x W, x < 2 ^ n → Calls Tryd.prog gb #[.int .i64 (tf l x)] W fun e w' => e = .returned (.int .i64 (F x)) ∧ w' = W)
    (cp : ∀ k x W, k < n → Calls Tryd.prog gp #[.int .i64 (fS p1 p2 F k x), .int .i64 (fS p1 p2 F k (x + 2 ^ k))] W fun e w' => e = .returned (.tuple #[.int .i64 (p1 (fS p1 p2 F k x) (fS p1 p2 F k (x + 2 ^ k))), .int .i64 (p2 (fS p1 p2 F k x) (fS p1 p2 F k (x + 2 ^ k)))]) ∧ w' = W) :
    Calls Tryd.prog 9 #[v, .func (.func gb) #[] #[], .func (.func gp) #[] #[]] w fun e w' => (e = .returned (.slice (some ⟨w.heap.size, 0, none⟩) (2 ^ n) (2 ^ n)) ∧ OwV 3 (fun b => .int .i64 b) w' w.heap.size (2 ^ n) (fS p1 p2 F n)) ∧ Below w.heap.size w w' := by
  obtain ⟨q1, q2⟩ := pow256 hn
  have HUP : Hid (∀ k i, k < n → i < 2 ^ n → i / 2 ^ k % 2 = 0 → i + 2 ^ k < 2 ^ n) := fun k i hk hi h => up_lt hk hi h
  obtain ⟨z, Hz⟩ : ∃ z : Nat, Hid (2 ^ n = z) := ⟨_, rfl⟩
  rw [Hz.out] at q1 q2 hl cb HUP ⊢
  obtain ⟨a, off, cap, rfl, ha, hcell⟩ := hv.form hl q1
  have HC : Hid (∀ j, j < z → w.cell? ⟨a, off + j, none⟩ = some (.int .i64 (tf l j))) := hcell
  have HCB : Hid (∀ x W, x < z → Calls Tryd.prog gb #[.int .i64 (tf l x)] W fun e w' => e = .returned (.int .i64 (F x)) ∧ w' = W) := cb
  have HCP : Hid (∀ k x W, k < n → Calls Tryd.prog gp #[.int .i64 (fS p1 p2 F k x), .int .i64 (fS p1 p2 F k (x + 2 ^ k))] W fun e w' => e = .returned (.tuple #[.int .i64 (p1 (fS p1 p2 F k x) (fS p1 p2 F k (x + 2 ^ k))), .int .i64 (p2 (fS p1 p2 F k x) (fS p1 p2 F k (x + 2 ^ k)))]) ∧ w' = W) := cp
  have HF0 : Hid (fS p1 p2 F 0 = F) := rfl
  have HFS : Hid (∀ k, fS p1 p2 F (k + 1) = rdF p1 p2 k (fS p1 p2 F k)) := fun _ => rfl
  obtain ⟨G, HG⟩ : ∃ G, Hid (fS p1 p2 F = G) := ⟨_, rfl⟩
  rw [HG.out] at HCP HF0 HFS ⊢
  have hmk := foldI_make z (by omega)
  clear hv hcell hl cb cp HG
  go_enter Tryd.func9, Tryd.ntmps9
  go_wp2
  go_loopw [17] (fun iv wr => ∃ (j : Nat), iv = .int .i64 (j : Int) ∧ j ≤ z ∧ OwV 3 (fun b => .int .i64 b) wr w.heap.size z (fun x => if x < j then F x else 0) ∧ Below w.heap.size w wr) (fun iv _ => (z - intOf iv).toNat)
  case atStart => exact ⟨0, rfl, by omega, OwV.made z _ _ _ rfl, balloc _ _⟩
  case round =>
    obtain ⟨j, rfl, hj, hO, hB⟩ := hrel
    have hlo := hO.lt
    by_cases hlt : j < z
    · have hdj : decide ((j : Int) < (z : Int)) = true := by simp; omega
      have hji : (j : Int) < z := by omega
      have cj := (hB.cell (p := ⟨a, off + j, none⟩) ha).trans (HC.out j hlt)
      have C := HCB.out j wr hlt
      obtain ⟨y, Hy⟩ : ∃ y, Hid (F j = y) := ⟨_, rfl⟩
      rw [Hy.out] at C
      have hfz := hO.frozen j
      have cz := hO.cell j hlt
      have HO2 : Hid (OwV 3 (fun b => .int .i64 b) (wr.setCell ⟨w.heap.size, j, none⟩ (.int .i64 y)) w.heap.size z (fun x => if x < j + 1 then F x else 0)) := ((hO.set j y).congr fun x hx => by
        unfold updV
        by_cases e : x = j
        · subst e; rw [if_pos rfl, if_pos (by omega)]; exact Hy.out.symm
        · rw [if_neg e]
          dsimp only
          by_cases c : x < j
          · rw [if_pos c, if_pos (by omega)]
          · rw [if_neg c, if_neg (by omega)] : OwV _ _ _ _ _ _)
      have HB2 : Hid (Below w.heap.size w (wr.setCell ⟨w.heap.size, j, none⟩ (.int .i64 y))) := (hB.setCell (Nat.le_refl _) _ : Below _ _ _)
      clear hO
      go_wp2_with (go_at_fn gb; refine C.mono ?_; rintro e w1 ⟨rfl, h1⟩; replace h1 := h1.symm; subst h1; clear C)
      go_roundw
      case rel => exact ⟨j + 1, by go_num, by omega, HO2.out, HB2.out⟩
      case measure => simp [intOf]; omega
    · have hdj : decide ((j : Int) < (z : Int)) = false := by simp; omega
      have HOZ : Hid (OwV 3 (fun b => .int .i64 b) wr w.heap.size z (G 0)) := (hO.congr fun x hx => by rw [HF0.out]; exact if_pos (by omega) : OwV _ _ _ _ _ _)
      clear hO
      go_wp2
      go_loopw [10] (fun bv wr => ∃ (k bt : Nat), bv = .int .i64 (bt : Int) ∧ Hid (bt = 2 ^ k) ∧ k ≤ n ∧ Hid (OwV 3 (fun b => .int .i64 b) wr w.heap.size z (G k)) ∧ Below w.heap.size w wr) (fun bv _ => (z - intOf bv).toNat)
      case atStart => exact ⟨0, 1, rfl, rfl, by omega, HOZ, hB⟩
      case round =>
        clear hB HOZ
        obtain ⟨k, bt, rfl, Hbt, hk, HO, hB⟩ := hrel
        have hbt0 : 0 < bt := by rw [Hbt.out]; exact Nat.two_pow_pos k
        by_cases hkn : k < n
        · have hbz : 2 * bt ≤ z := by
            rw [Hbt.out, ← Hz.out, ← Nat.pow_succ']
            exact Nat.pow_le_pow_right (by decide) (by omega)
          have hdb : decide ((bt : Int) < (z : Int)) = true := by simp; omega
          have hdb2 : decide (bt < z) = true := by simp; omega
          have HON : Hid (OwV 3 (fun b => .int .i64 b) wr w.heap.size z (onF p1 p2 k (G k) 0)) := (HO.out.congr fun x hx => (onF_nil _ _ _ _ _).symm : OwV _ _ _ _ _ _)
          go_wp2
          go_loopw [37] (fun iv wr => ∃ (i : Nat), iv = .int .i64 (i : Int) ∧ i ≤ z ∧ OwV 3 (fun b => .int .i64 b) wr w.heap.size z (onF p1 p2 k (G k) i) ∧ Below w.heap.size w wr) (fun iv _ => (z - intOf iv).toNat)
          case atStart => exact ⟨0, rfl, by omega, HON.out, hB⟩
          case round =>
            clear hB HON HO
            obtain ⟨i, rfl, hi, hO, hB⟩ := hrel
            by_cases hlt2 : i < z
            · have hdi : decide ((i : Int) < (z : Int)) = true := by simp; omega
              have hii : (i : Int) < z := by omega
              have hand := andS (a := i) (b := bt) (by omega) (by omega)
              have eand := and_bit (i := i) (k := k) (by omega) (by omega)
              rw [← Hbt.out] at eand
              by_cases hbit : i / bt % 2 = 0
              · rw [eand, if_pos hbit] at hand
                have hand2 : (bits .and .i64 (i : Int) (bt : Int) == 0) = true := by rw [hand]; rfl
                have hbit2 : i / 2 ^ k % 2 = 0 := by rw [← Hbt.out]; exact hbit
                have hu := HUP.out k i hkn hlt2 hbit2
                have hor := orS (a := i) (b := bt) (by omega) (by omega)
                rw [Hbt.out, or_bit (by omega) (by omega) hbit2, ← Hbt.out] at hor
                rw [← Hbt.out] at hu
                have hlow := onF_low p1 p2 k (G k) hbit2
                have c1 := hO.cell i hlt2
                have c2 := hO.cell (i + bt) hu
                rw [hlow.1] at c1
                rw [Hbt.out, hlow.2, ← Hbt.out] at c2
                have CP := HCP.out k i wr.drew hkn
                have hf1 := hO.frozen i
                have hf2 := hO.frozen (i + bt)
                have HST : Hid (∀ x, onF p1 p2 k (G k) (i + 1) x = if x = i + bt then p2 (G k i) (G k (i + bt)) else if x = i then p1 (G k i) (G k (i + bt)) else onF p1 p2 k (G k) i x) := fun x => by rw [Hbt.out]; exact onF_step p1 p2 k (G k) hbit2 x
                rw [← Hbt.out] at CP
                obtain ⟨x1, Hx1⟩ : ∃ y, Hid (G k i = y) := ⟨_, rfl⟩
                obtain ⟨x2, Hx2⟩ : ∃ y, Hid (G k (i + bt) = y) := ⟨_, rfl⟩
                rw [Hx1.out, Hx2.out] at CP HST
                rw [Hx1.out] at c1
                rw [Hx2.out] at c2
                obtain ⟨y1, Hy1⟩ : ∃ y, Hid (p1 x1 x2 = y) := ⟨_, rfl⟩
                obtain ⟨y2, Hy2⟩ : ∃ y, Hid (p2 x1 x2 = y) := ⟨_, rfl⟩
                rw [Hy1.out, Hy2.out] at CP HST
                obtain ⟨u, Hu⟩ : ∃ u, Hid (i + bt = u) := ⟨_, rfl⟩
                have hcast : ((i + bt : Nat) : Int) = (u : Int) := by rw [Hu.out]
                rw [Hu.out] at hu hor c2 hf2 HST
                have hui : (u : Int) < z := by omega
                have hne : i ≠ u := by have := Hu.out; omega
                have hlo := hO.lt
                have HO2 : Hid (OwV 3 (fun b => .int .i64 b) ((wr.setCell ⟨w.heap.size, i, none⟩ (.int .i64 y1)).setCell ⟨w.heap.size, u, none⟩ (.int .i64 y2)).drew w.heap.size z (onF p1 p2 k (G k) (i + 1))) := (((hO.set i y1).set u y2).congr fun x hx => by
                  rw [HST.out x]
                  unfold updV
                  rfl : OwV _ _ _ _ _ _)
                have HB2 : Hid (Below w.heap.size w ((wr.setCell ⟨w.heap.size, i, none⟩ (.int .i64 y1)).setCell ⟨w.heap.size, u, none⟩ (.int .i64 y2)).drew) := (((hB.setCell (p := ⟨w.heap.size, i, none⟩) (Nat.le_refl _) _).setCell (p := ⟨w.heap.size, u, none⟩) (Nat.le_refl _) _).drew : Below _ _ _)
                have hcs := hO.cellset i u y1 hne hu
                clear hO hlow eand hbit hbit2 hcast HST
                go_wp2_with fail
                refine wp_region_noPanic ?_
                refine wp_region_held_drew (S := fun _ => True) (by kernel_rfl) trivial (fun hSx => ?_)
                refine wpAnyH_take (i := 0) (v := .slice (some ⟨w.heap.size, 0, none⟩) z z) rfl (by kernel_rfl) (by kernel_rfl) (by kernel_rfl) (fun _ _ _ h => h) (Or.inl ⟨by rfl, fun w' hSw => by (try dsimp only at hSw); go_simp⟩) trivial ?_
                try simp only [Act.put, List.setIfInBounds_toArray]
                refine wpAnyH_take (i := 1) (v := .int .i64 (i : Int)) rfl (by kernel_rfl) (by kernel_rfl) (by kernel_rfl) (fun _ _ _ h => h) (Or.inl ⟨by rfl, fun w' hSw => by (try dsimp only at hSw); go_simp⟩) trivial ?_
                try simp only [Act.put]
                refine wpAnyH_take (i := 2) (v := .slice (some ⟨w.heap.size, 0, none⟩) z z) rfl (by kernel_rfl) (by kernel_rfl) (by kernel_rfl) (fun _ _ _ h => h) (Or.inl ⟨by rfl, fun w' hSw => by (try dsimp only at hSw); go_simp⟩) trivial ?_
                try simp only [Act.put]
                refine wpAnyH_take (i := 3) (v := .int .i64 (i : Int)) rfl (by kernel_rfl) (by kernel_rfl) (by kernel_rfl) (fun _ _ _ h => h) (Or.inl ⟨by rfl, fun w' hSw => by (try dsimp only at hSw); go_simp⟩) trivial ?_
                try simp only [Act.put]
                refine wpAnyH_take (i := 4) (v := .int .i64 (bt : Int)) rfl (by kernel_rfl) (by kernel_rfl) (by kernel_rfl) (fun _ _ _ h => h) (Or.inl ⟨by rfl, fun w' hSw => by (try dsimp only at hSw); go_simp⟩) trivial ?_
                try simp only [Act.put]
                refine wpAnyH_take (i := 5) (v := .int .i64 (u : Int)) rfl (by kernel_rfl) (by kernel_rfl) (by kernel_rfl) (fun _ _ _ h => h) (Or.inl ⟨by rfl, fun w' hSw => by (try dsimp only at hSw); go_simp⟩) trivial ?_
                try simp only [Act.put]
                refine wpAnyH_take (i := 6) (v := .func (.func gp) #[] #[]) rfl (by kernel_rfl) (by kernel_rfl) (by kernel_rfl) (fun _ _ _ h => h) (Or.inl ⟨by rfl, fun w' hSw => by (try dsimp only at hSw); go_simp⟩) trivial ?_
                try simp only [Act.put]
                refine wpAnyH_take (i := 7) (v := .slice (some ⟨w.heap.size, 0, none⟩) z z) rfl (by kernel_rfl) (by kernel_rfl) (by kernel_rfl) (fun _ _ _ h => h) (Or.inl ⟨by rfl, fun w' hSw => by (try dsimp only at hSw); go_simp⟩) trivial ?_
                try simp only [Act.put]
                refine wpAnyH_take (i := 8) (v := .int .i64 (i : Int)) rfl (by kernel_rfl) (by kernel_rfl) (by kernel_rfl) (fun _ _ _ h => h) (Or.inl ⟨by rfl, fun w' hSw => by (try dsimp only at hSw); go_simp⟩) trivial ?_
                try simp only [Act.put]
                refine wpAnyH_take (i := 9) (v := .pointer (some ⟨w.heap.size, i, none⟩)) rfl (by kernel_rfl) (by kernel_rfl) (by kernel_rfl) (fun _ _ _ h => h) (Or.inl ⟨by rfl, fun w' hSw => by (try dsimp only at hSw); go_simp⟩) trivial ?_
                try simp only [Act.put]
                refine wpAnyH_take (i := 11) (v := .slice (some ⟨w.heap.size, 0, none⟩) z z) rfl (by kernel_rfl) (by kernel_rfl) (by kernel_rfl) (fun _ _ _ h => h) (Or.inl ⟨by rfl, fun w' hSw => by (try dsimp only at hSw); go_simp⟩) trivial ?_
                try simp only [Act.put]
                refine wpAnyH_take (i := 12) (v := .int .i64 (i : Int)) rfl (by kernel_rfl) (by kernel_rfl) (by kernel_rfl) (fun _ _ _ h => h) (Or.inl ⟨by rfl, fun w' hSw => by (try dsimp only at hSw); go_simp⟩) trivial ?_
                try simp only [Act.put]
                refine wpAnyH_take (i := 13) (v := .int .i64 (bt : Int)) rfl (by kernel_rfl) (by kernel_rfl) (by kernel_rfl) (fun _ _ _ h => h) (Or.inl ⟨by rfl, fun w' hSw => by (try dsimp only at hSw); go_simp⟩) trivial ?_
                try simp only [Act.put]
                refine wpAnyH_take (i := 14) (v := .int .i64 (u : Int)) rfl (by kernel_rfl) (by kernel_rfl) (by kernel_rfl) (fun _ _ _ h => h) (Or.inl ⟨by rfl, fun w' hSw => by (try dsimp only at hSw); go_simp⟩) trivial ?_
                try simp only [Act.put]
                refine wpAnyH_take (i := 15) (v := .pointer (some ⟨w.heap.size, u, none⟩)) rfl (by kernel_rfl) (by kernel_rfl) (by kernel_rfl) (fun _ _ _ h => h) (Or.inl ⟨by rfl, fun w' hSw => by (try dsimp only at hSw); go_simp⟩) trivial ?_
                try simp only [Act.put]
                refine wpAnyH_ready (rs := [10, 16]) (by kernel_rfl) (by simp) ?_
                refine (AllReadyH.cons rfl (fun J hJ => ?_) (AllReadyH.cons rfl (fun J hJ => ?_) AllReadyH.nil))
                · go_simp
                  refine hJ.out _ _ trivial (fun _ => ?_)
                  clear hJ J
                  try simp only [Act.put, List.setIfInBounds_toArray, List.set_cons_zero, List.set_cons_succ]
                  refine wpAnyH_ready (rs := [16]) (by kernel_rfl) (by simp) ?_
                  refine (AllReadyH.cons rfl (fun J hJ => ?_) AllReadyH.nil)
                  go_simp
                  refine hJ.out _ _ trivial (fun _ => ?_)
                  clear hJ J
                  try simp only [Act.put, List.setIfInBounds_toArray, List.set_cons_zero, List.set_cons_succ]
                  refine wpAnyH_ready (rs := [17]) (by kernel_rfl) (by simp) ?_
                  refine (AllReadyH.cons rfl (fun J hJ => ?_) AllReadyH.nil)
                  go_simp
                  go_at_fn gp
                  refine CP.mono ?_
                  rintro e w2 ⟨rfl, hw2⟩
                  replace hw2 := hw2.symm
                  subst hw2
                  clear CP
                  go_wp2_with fail
                  refine hJ.out _ _ trivial (fun _ => ?_)
                  clear hJ J
                  try simp only [Act.put, List.setIfInBounds_toArray, List.set_cons_zero, List.set_cons_succ]
                  refine wpAnyH_take (i := 18) (v := .tuple #[.int .i64 y1, .int .i64 y2]) rfl (by kernel_rfl) (by kernel_rfl) (by kernel_rfl) (fun _ _ _ h => h) (Or.inl ⟨by rfl, fun w' hSw => by (try dsimp only at hSw); go_simp⟩) trivial ?_
                  try simp only [Act.put, List.setIfInBounds_toArray]
                  refine wpAnyH_take (i := 19) (v := .int .i64 y1) rfl (by kernel_rfl) (by kernel_rfl) (by kernel_rfl) (fun _ _ _ h => h) (Or.inl ⟨by rfl, fun w' hSw => by (try dsimp only at hSw); go_simp⟩) trivial ?_
                  try simp only [Act.put]
                  refine wpAnyH_take (i := 20) (v := .int .i64 y2) rfl (by kernel_rfl) (by kernel_rfl) (by kernel_rfl) (fun _ _ _ h => h) (Or.inl ⟨by rfl, fun w' hSw => by (try dsimp only at hSw); go_simp⟩) trivial ?_
                  try simp only [Act.put]
                  refine wpAnyH_take (i := 21) (v := .pointer (some ⟨w.heap.size, i, none⟩)) rfl (by kernel_rfl) (by kernel_rfl) (by kernel_rfl) (fun _ _ _ h => h) (Or.inl ⟨by rfl, fun w' hSw => by (try dsimp only at hSw); go_simp⟩) trivial ?_
                  try simp only [Act.put]
                  refine wpAnyH_ready (rs := [22]) (by kernel_rfl) (by simp) ?_
                  refine (AllReadyH.cons rfl (fun J hJ => ?_) AllReadyH.nil)
                  go_simp
                  refine hJ.out _ _ trivial (fun _ => ?_)
                  clear hJ J
                  try simp only [Act.put, List.setIfInBounds_toArray, List.set_cons_zero, List.set_cons_succ]
                  refine wpAnyH_take (i := 23) (v := .pointer (some ⟨w.heap.size, u, none⟩)) rfl (by kernel_rfl) (by kernel_rfl) (by kernel_rfl) (fun _ _ _ h => h) (Or.inl ⟨by rfl, fun w' hSw => by (try dsimp only at hSw); go_simp⟩) trivial ?_
                  try simp only [Act.put, List.setIfInBounds_toArray]
                  refine wpAnyH_ready (rs := [24]) (by kernel_rfl) (by simp) ?_
                  refine (AllReadyH.cons rfl (fun J hJ => ?_) AllReadyH.nil)
                  go_simp
                  refine hJ.out _ _ trivial (fun _ => ?_)
                  clear hJ J
                  try simp only [Act.put, List.setIfInBounds_toArray, List.set_cons_zero, List.set_cons_succ]
                  refine wpAnyH_done (by kernel_rfl) ?_ _
                  refine NoPanic.normal ?_
                  clear hSx
                  go_simp
                  go_wp2
                  go_roundw
                  case rel => exact ⟨i + 1, by go_num, by omega, HO2.out, HB2.out⟩
                  case measure => simp [intOf]; omega
                · go_simp
                  refine hJ.out _ _ trivial (fun _ => ?_)
                  clear hJ J
                  try simp only [Act.put, List.setIfInBounds_toArray, List.set_cons_zero, List.set_cons_succ]
                  refine wpAnyH_ready (rs := [10]) (by kernel_rfl) (by simp) ?_
                  refine (AllReadyH.cons rfl (fun J hJ => ?_) AllReadyH.nil)
                  go_simp
                  refine hJ.out _ _ trivial (fun _ => ?_)
                  clear hJ J
                  try simp only [Act.put, List.setIfInBounds_toArray, List.set_cons_zero, List.set_cons_succ]
                  refine wpAnyH_ready (rs := [17]) (by kernel_rfl) (by simp) ?_
                  refine (AllReadyH.cons rfl (fun J hJ => ?_) AllReadyH.nil)
                  go_simp
                  go_at_fn gp
                  refine CP.mono ?_
                  rintro e w2 ⟨rfl, hw2⟩
                  replace hw2 := hw2.symm
                  subst hw2
                  clear CP
                  go_wp2_with fail
                  refine hJ.out _ _ trivial (fun _ => ?_)
                  clear hJ J
                  try simp only [Act.put, List.setIfInBounds_toArray, List.set_cons_zero, List.set_cons_succ]
                  refine wpAnyH_take (i := 18) (v := .tuple #[.int .i64 y1, .int .i64 y2]) rfl (by kernel_rfl) (by kernel_rfl) (by kernel_rfl) (fun _ _ _ h => h) (Or.inl ⟨by rfl, fun w' hSw => by (try dsimp only at hSw); go_simp⟩) trivial ?_
                  try simp only [Act.put, List.setIfInBounds_toArray]
                  refine wpAnyH_take (i := 19) (v := .int .i64 y1) rfl (by kernel_rfl) (by kernel_rfl) (by kernel_rfl) (fun _ _ _ h => h) (Or.inl ⟨by rfl, fun w' hSw => by (try dsimp only at hSw); go_simp⟩) trivial ?_
                  try simp only [Act.put]
                  refine wpAnyH_take (i := 20) (v := .int .i64 y2) rfl (by kernel_rfl) (by kernel_rfl) (by kernel_rfl) (fun _ _ _ h => h) (Or.inl ⟨by rfl, fun w' hSw => by (try dsimp only at hSw); go_simp⟩) trivial ?_
                  try simp only [Act.put]
                  refine wpAnyH_take (i := 21) (v := .pointer (some ⟨w.heap.size, i, none⟩)) rfl (by kernel_rfl) (by kernel_rfl) (by kernel_rfl) (fun _ _ _ h => h) (Or.inl ⟨by rfl, fun w' hSw => by (try dsimp only at hSw); go_simp⟩) trivial ?_
                  try simp only [Act.put]
                  refine wpAnyH_ready (rs := [22]) (by kernel_rfl) (by simp) ?_
                  refine (AllReadyH.cons rfl (fun J hJ => ?_) AllReadyH.nil)
                  go_simp
                  refine hJ.out _ _ trivial (fun _ => ?_)
                  clear hJ J
                  try simp only [Act.put, List.setIfInBounds_toArray, List.set_cons_zero, List.set_cons_succ]
                  refine wpAnyH_take (i := 23) (v := .pointer (some ⟨w.heap.size, u, none⟩)) rfl (by kernel_rfl) (by kernel_rfl) (by kernel_rfl) (fun _ _ _ h => h) (Or.inl ⟨by rfl, fun w' hSw => by (try dsimp only at hSw); go_simp⟩) trivial ?_
                  try simp only [Act.put, List.setIfInBounds_toArray]
                  refine wpAnyH_ready (rs := [24]) (by kernel_rfl) (by simp) ?_
                  refine (AllReadyH.cons rfl (fun J hJ => ?_) AllReadyH.nil)
                  go_simp
                  refine hJ.out _ _ trivial (fun _ => ?_)
                  clear hJ J
                  try simp only [Act.put, List.setIfInBounds_toArray, List.set_cons_zero, List.set_cons_succ]
                  refine wpAnyH_done (by kernel_rfl) ?_ _
                  refine NoPanic.normal ?_
                  clear hSx
                  go_simp
                  go_wp2
                  go_roundw
                  case rel => exact ⟨i + 1, by go_num, by omega, HO2.out, HB2.out⟩
                  case measure => simp [intOf]; omega
              · rw [eand, if_neg hbit] at hand
                have hand2 : (bits .and .i64 (i : Int) (bt : Int) == 0) = false := by rw [hand]; simp; omega
                have hbit2 : ¬ i / 2 ^ k % 2 = 0 := by rw [← Hbt.out]; exact hbit
                have HO2 : Hid (OwV 3 (fun b => .int .i64 b) wr w.heap.size z (onF p1 p2 k (G k) (i + 1))) := (hO.congr fun x hx => (onF_skip p1 p2 k (G k) hbit2 x).symm : OwV _ _ _ _ _ _)
                clear hO eand hbit hbit2
                go_wp2
                go_roundw
                case rel => exact ⟨i + 1, by go_num, by omega, HO2.out, hB⟩
                case measure => simp [intOf]; omega
            · have hdi : decide ((i : Int) < (z : Int)) = false := by simp; omega
              have HO2 : Hid (OwV 3 (fun b => .int .i64 b) wr w.heap.size z (G (k + 1))) := (hO.congr fun x hx => by rw [HFS.out]; exact onF_full p1 p2 k (G k) (by omega) : OwV _ _ _ _ _ _)
              have HB3 : Hid (bt * 2 = 2 ^ (k + 1)) := by show _ = _; rw [Hbt.out, Nat.pow_succ]
              clear hO
              go_wp2
              go_roundw
              case rel => exact ⟨k + 1, bt * 2, by go_num, HB3, by omega, HO2, hB⟩
              case measure => simp [intOf]; omega
        · obtain rfl : k = n := by omega
          have hbz : bt = z := by rw [Hbt.out, ← Hz.out]
          have hdb : decide ((bt : Int) < (z : Int)) = false := by simp; omega
          have hdb2 : decide (bt < z) = false := by simp; omega
          have hO := HO.out
          clear HO hbz
          go_wp2
          go_ret
          exact ⟨⟨rfl, hO⟩, hB⟩
end Go.Proofs.YtioggiapkkeloabDoor
