/- The program's scores, walked. -/
import Derived.Test.YtgkfddcmngodgabN2
import Derived.Laws.MakeOwn
import Derived.Deep.RegionHeld3
namespace Go.Proofs.Ytgkfddcmngodgab
open Go.RowKit

theorem run_makeI (n : Nat) (hn : n ≤ 100000) (w : World) : (Instr.makeSlice 22 (.int .i64 (n : Int)) (.int .i64 (n : Int))).run Try.prog w = .ok (.slice (some ⟨w.heap.size, 0, none⟩) n n) (w.alloc (.cells (madeCells #[.int .i64 0] n) 3)) := by
  obtain ⟨i4, hi, hz0, hz1, hz2⟩ := info3
  have h := run_make (P := Try.prog) w 22 3 i4 (.int .i64 0) und22 hi hz0 .i64 .i64 n n (by omega) (by omega) (by rw [hz2]; omega) (by omega)
  simpa [hz1, Value.cells] using h
theorem own_new (w : World) (n : Nat) : Own (w.alloc (.cells (madeCells #[.int .i64 0] n) 3)) w.heap.size n (fun _ => 0) := by
  refine ⟨_, heap_alloc_new w _, fun j hj => ?_⟩
  rw [Array.getElem?_eq_getElem (by rw [size_madeCells]; exact hj)]
  simp [madeCells, Nat.mod_one]
/-- The counts so far. -/
def scF (n : Nat) (l : List Int) (a b : Nat) : Nat → Int := fun j => if j < a then (scU n l j n : Int) else if j = a then (scU n l a b : Int) else 0
set_option maxRecDepth 100000 in
set_option maxHeartbeats 16000000 in
theorem scores_any {n : Nat} {l : List Int} (hg : GoodT n l) (v : Value) (w : World) (hv : Sl w v l) :
    Calls Try.prog 12 #[.agg #[.int .i64 (n : Int), v]] w fun e w' => (∃ g, w.heap.size ≤ g ∧ e = .returned (.slice (some ⟨g, 0, none⟩) n n) ∧ Own w' g n (fun j => ((scT (tB n l) n).getD j 0 : Nat))) ∧ Below w.heap.size w w' := by
  obtain ⟨k, o, c, rfl, hC⟩ := sl_all hv hg.cells
  have hn9 := hg.le
  have hn1 := hg.one
  have hp81 : l.length ≤ 81 := by rw [hg.len]; exact Nat.mul_le_mul hn9 hn9
  have HVA : Hid (∀ a b, a < n → b < n → l.getD (a * n + b) 0 = if tB n l a b then 1 else 0) := fun a b ha hb => hg.val ha hb
  have HLN : Hid (l.length = n * n) := hg.len
  have HE : Hid (∀ j, j < n → scF n l n 0 j = (((scT (tB n l) n).getD j 0 : Nat) : Int)) := fun j hj => by
    rw [scT_at hj]; unfold scF; rw [if_pos hj]; rfl
  obtain ⟨m, Hm⟩ : ∃ m, Hid (l.length = m) := ⟨_, rfl⟩
  rw [Hm.out] at hp81 hC ⊢
  have b1 := balloc w (.cells #[.int .i64 (n : Int), .slice (some ⟨k, o, none⟩) m c] 24)
  have HX := sq_cells (n : Int) (.slice (some ⟨k, o, none⟩) m c) w
  obtain ⟨w0, Hw0⟩ : ∃ w0, Hid (w.alloc (.cells #[.int .i64 (n : Int), .slice (some ⟨k, o, none⟩) m c] 24) = w0) := ⟨_, rfl⟩
  rw [Hw0.out] at b1 HX
  have HX2 : Hid (∀ W, Below w0.heap.size w0 W → W.cell? ⟨w.heap.size, 0, none⟩ = some (.int .i64 (n : Int)) ∧ W.cell? ⟨w.heap.size, 1, none⟩ = some (.slice (some ⟨k, o, none⟩) m c)) := HX
  have HC : Hid (∀ W, Below w0.heap.size w0 W → ∀ j, j < m → W.cell? ⟨k, o + j, none⟩ = some (.int .i64 (l.getD j 0))) := fun W bW j hj => hC W (Below.next b1 bW) j hj
  have HB0 : Hid (∀ W, Below w0.heap.size w0 W → Below w.heap.size w W) := fun W b => Below.next b1 b
  obtain ⟨x0, x1⟩ := HX2.out w0 (Below.refl _ _)
  have hmk : ∀ w : World, (Instr.makeSlice 22 (.int .i64 (n : Int)) (.int .i64 (n : Int))).run Try.prog w = .ok (.slice (some ⟨w.heap.size, 0, none⟩) n n) (w.alloc (.cells (madeCells #[.int .i64 0] n) 3)) := fun w => run_makeI n (by omega) w
  have hio0 := own_new w0 n
  have hb0 := balloc w0 (.cells (madeCells #[.int .i64 0] n) 3)
  have hgw : w.heap.size ≤ w0.heap.size := b1.size
  have hs1 : w0.heap.size = w.heap.size + 1 := by rw [← Hw0.out]; simp
  obtain ⟨g, Hg⟩ : ∃ g, Hid (w.heap.size + 1 = g) := ⟨_, rfl⟩
  rw [hs1, Hg.out] at hio0 hb0 HX2 HC HB0 hgw
  rw [← Hw0.out] at x0 x1
  clear HX hC hv b1
  go_enter Try.func12, Try.ntmps12
  go_wp2
  rw [Hw0.out]
  rw [Hg.out]
  go_loopw [11] (fun av wr => ∃ a : Nat, av = .int .i64 (a : Int) ∧ a ≤ n ∧ Own wr g n (scF n l a 0) ∧ Below g w0 wr) (fun av _ => (n - intOf av).toNat)
  case atStart => exact ⟨0, rfl, by omega, hio0.congr (fun j hj => by unfold scF scU; simp), hb0⟩
  case round =>
    clear x0 x1 hio0 hb0 hmk
    obtain ⟨a, rfl, ha, hio, hB⟩ := hrel
    obtain ⟨x0, x1⟩ := HX2.out wr hB
    by_cases hlt : a < n
    · have hda : decide ((a : Int) < (n : Int)) = true := by simp; omega
      have haa : (a : Int) < (n : Int) := by omega
      go_wp2
      go_loopw [16] (fun bv wr => ∃ b s : Nat, bv = .int .i64 (b : Int) ∧ b ≤ n ∧ s ≤ b ∧ Hid (scU n l a b = s) ∧ Own wr g n (scF n l a b) ∧ Below g w0 wr) (fun bv _ => (n - intOf bv).toNat)
      case atStart => exact ⟨0, 0, rfl, by omega, by omega, rfl, hio, hB⟩
      case round =>
        clear x0 x1 hio hB
        obtain ⟨b, s, rfl, hb, hs, HSU, hio, hB⟩ := hrel
        by_cases hlb : b < n
        · have hdb : decide ((b : Int) < (n : Int)) = true := by simp; omega
          have hbb : (b : Int) < (n : Int) := by omega
          obtain ⟨p, Hp⟩ : ∃ p, Hid (a * n + b = p) := ⟨_, rfl⟩
          obtain ⟨an, Han⟩ : ∃ an, Hid (a * n = an) := ⟨_, rfl⟩
          have hpm : p < m := by rw [← Hp.out, ← Hm.out, HLN.out]; exact idx_lt hlt hlb
          have hpmi : (p : Int) < (m : Int) := by omega
          have hx := HVA.out a b hlt hlb
          have st := scU_more n l a b
          rw [Hp.out] at hx
          rw [HSU.out] at st
          obtain ⟨x, Hx⟩ : ∃ x : Nat, Hid ((if tB n l a b then 1 else 0 : Nat) = x) := ⟨_, rfl⟩
          rw [Hx.out] at st
          have hx2 : l.getD p 0 = (x : Int) := by rw [hx, ← Hx.out]; split <;> rfl
          have hx1 : x ≤ 1 := by rw [← Hx.out]; split <;> omega
          have HS : Hid (∀ W, Below g w0 W → W.cell? ⟨w.heap.size, 0, none⟩ = some (.int .i64 (n : Int)) ∧ W.cell? ⟨w.heap.size, 1, none⟩ = some (.slice (some ⟨k, o, none⟩) m c) ∧ W.cell? ⟨k, o + p, none⟩ = some (.int .i64 (x : Int))) := fun W bW => ⟨(HX2.out W bW).1, (HX2.out W bW).2, by rw [← hx2]; exact HC.out W bW p hpm⟩
          have ea : (a : Int) * (n : Int) = (an : Int) := by rw [← Han.out]; simp
          have ep : (an : Int) + (b : Int) = (p : Int) := by rw [← Hp.out, Han.out]; simp
          have hw1 : IntKind.i64.wrap (an : Int) = (an : Int) := IntWalk.i64_in _ (by omega)
          have hw2 : IntKind.i64.wrap (p : Int) = (p : Int) := IntWalk.i64_in _ (by omega)
          have hw3 : IntKind.i64.wrap ((s : Int) + (x : Int)) = (s : Int) + (x : Int) := IntWalk.i64_in _ (by omega)
          have hio1 := hio.below (Below.refl _ wr).drew
          have hcm := hio1.cell a hlt
          have hfa : scF n l a b a = (s : Int) := by unfold scF; rw [if_neg (by omega), if_pos rfl, HSU.out]
          rw [hfa] at hcm
          have hfz := hio1.frozen a
          have hset := hio1.set a ((s : Int) + (x : Int))
          have hB1 : Below g w0 wr.drew := hB.drew
          have hB2 := hB1.setCell (p := ⟨g, a, none⟩) (Nat.le_refl _) (.int .i64 ((s : Int) + (x : Int)))
          have hset2 := hset.congr (f' := scF n l a (b + 1)) fun j hj => by
            unfold upd scF
            by_cases e : j = a
            · rw [if_pos e, if_neg (by omega), if_pos e, st]; omega
            · rw [if_neg e, if_neg e, if_neg e]
          clear hio hset hio1 hx hx2 hfa HX2 HC
          go_wp2
          refine wp_region_noPanic ?_
          refine wp_region_held_drew (S := (fun W : World => W.cell? ⟨w.heap.size, 0, none⟩ = some (.int .i64 (n : Int)) ∧ W.cell? ⟨w.heap.size, 1, none⟩ = some (.slice (some ⟨k, o, none⟩) m c) ∧ W.cell? ⟨k, o + p, none⟩ = some (.int .i64 (x : Int)))) (by kernel_rfl) (HS.out _ hB1) (fun hSx => ?_)
          refine wpAnyH_take (i := 0) (v := .slice (some ⟨g, 0, none⟩) n n) rfl (by kernel_rfl) (by kernel_rfl) (by kernel_rfl) (fun _ _ _ h => h) (Or.inl ⟨by rfl, fun w' hSw => by (try dsimp only at hSw); obtain ⟨hs0, hs1, hs2⟩ := hSw; go_simp⟩) hSx ?_
          try simp only [Act.put, List.setIfInBounds_toArray]
          refine wpAnyH_take (i := 1) (v := .int .i64 (a : Int)) rfl (by kernel_rfl) (by kernel_rfl) (by kernel_rfl) (fun _ _ _ h => h) (Or.inl ⟨by rfl, fun w' hSw => by (try dsimp only at hSw); obtain ⟨hs0, hs1, hs2⟩ := hSw; go_simp⟩) hSx ?_
          try simp only [Act.put]
          refine wpAnyH_take (i := 2) (v := .pointer (some ⟨g, a, none⟩)) rfl (by kernel_rfl) (by kernel_rfl) (by kernel_rfl) (fun _ _ _ h => h) (Or.inl ⟨by rfl, fun w' hSw => by (try dsimp only at hSw); obtain ⟨hs0, hs1, hs2⟩ := hSw; go_simp⟩) hSx ?_
          try simp only [Act.put]
          refine wpAnyH_take (i := 4) (v := .pointer (some ⟨w.heap.size, 1, none⟩)) rfl (by kernel_rfl) (by kernel_rfl) (by kernel_rfl) (fun _ _ _ h => h) (Or.inl ⟨by rfl, fun w' hSw => by (try dsimp only at hSw); obtain ⟨hs0, hs1, hs2⟩ := hSw; go_simp⟩) hSx ?_
          try simp only [Act.put]
          refine wpAnyH_take (i := 5) (v := .slice (some ⟨k, o, none⟩) m c) rfl (by kernel_rfl) (by kernel_rfl) (by kernel_rfl) (fun _ _ _ h => h) (Or.inl ⟨by rfl, fun w' hSw => by (try dsimp only at hSw); obtain ⟨hs0, hs1, hs2⟩ := hSw; go_simp⟩) hSx ?_
          try simp only [Act.put]
          refine wpAnyH_take (i := 6) (v := .int .i64 (a : Int)) rfl (by kernel_rfl) (by kernel_rfl) (by kernel_rfl) (fun _ _ _ h => h) (Or.inl ⟨by rfl, fun w' hSw => by (try dsimp only at hSw); obtain ⟨hs0, hs1, hs2⟩ := hSw; go_simp⟩) hSx ?_
          try simp only [Act.put]
          refine wpAnyH_take (i := 7) (v := .pointer (some ⟨w.heap.size, 0, none⟩)) rfl (by kernel_rfl) (by kernel_rfl) (by kernel_rfl) (fun _ _ _ h => h) (Or.inl ⟨by rfl, fun w' hSw => by (try dsimp only at hSw); obtain ⟨hs0, hs1, hs2⟩ := hSw; go_simp⟩) hSx ?_
          try simp only [Act.put]
          refine wpAnyH_take (i := 8) (v := .int .i64 (n : Int)) rfl (by kernel_rfl) (by kernel_rfl) (by kernel_rfl) (fun _ _ _ h => h) (Or.inl ⟨by rfl, fun w' hSw => by (try dsimp only at hSw); obtain ⟨hs0, hs1, hs2⟩ := hSw; go_simp⟩) hSx ?_
          try simp only [Act.put]
          refine wpAnyH_take (i := 9) (v := .int .i64 (an : Int)) rfl (by kernel_rfl) (by kernel_rfl) (by kernel_rfl) (fun _ _ _ h => h) (Or.inl ⟨by rfl, fun w' hSw => by (try dsimp only at hSw); obtain ⟨hs0, hs1, hs2⟩ := hSw; go_simp⟩) hSx ?_
          try simp only [Act.put]
          refine wpAnyH_take (i := 10) (v := .int .i64 (b : Int)) rfl (by kernel_rfl) (by kernel_rfl) (by kernel_rfl) (fun _ _ _ h => h) (Or.inl ⟨by rfl, fun w' hSw => by (try dsimp only at hSw); obtain ⟨hs0, hs1, hs2⟩ := hSw; go_simp⟩) hSx ?_
          try simp only [Act.put]
          refine wpAnyH_take (i := 11) (v := .int .i64 (p : Int)) rfl (by kernel_rfl) (by kernel_rfl) (by kernel_rfl) (fun _ _ _ h => h) (Or.inl ⟨by rfl, fun w' hSw => by (try dsimp only at hSw); obtain ⟨hs0, hs1, hs2⟩ := hSw; go_simp⟩) hSx ?_
          try simp only [Act.put]
          refine wpAnyH_take (i := 12) (v := .pointer (some ⟨k, o + p, none⟩)) rfl (by kernel_rfl) (by kernel_rfl) (by kernel_rfl) (fun _ _ _ h => h) (Or.inl ⟨by rfl, fun w' hSw => by (try dsimp only at hSw); obtain ⟨hs0, hs1, hs2⟩ := hSw; go_simp⟩) hSx ?_
          try simp only [Act.put]
          refine wpAnyH_take (i := 13) (v := .int .i64 (x : Int)) rfl (by kernel_rfl) (by kernel_rfl) (by kernel_rfl) (fun _ _ _ h => h) (Or.inl ⟨by rfl, fun w' hSw => by (try dsimp only at hSw); obtain ⟨hs0, hs1, hs2⟩ := hSw; go_simp⟩) hSx ?_
          try simp only [Act.put]
          refine wpAnyH_ready (rs := [3]) (by kernel_rfl) (by simp) ?_
          refine AllReadyH.cons rfl (fun J hJ => ?_) AllReadyH.nil
          go_simp
          refine hJ.out _ _ (HS.out _ hB1) (fun hSx => ?_)
          clear hJ J
          try simp only [Act.put, List.setIfInBounds_toArray, List.set_cons_zero, List.set_cons_succ]
          refine wpAnyH_take (i := 14) (v := .int .i64 ((s : Int) + (x : Int))) rfl (by kernel_rfl) (by kernel_rfl) (by kernel_rfl) (fun _ _ _ h => h) (Or.inl ⟨by rfl, fun w' hSw => by (try dsimp only at hSw); obtain ⟨hs0, hs1, hs2⟩ := hSw; go_simp⟩) hSx ?_
          try simp only [Act.put, List.setIfInBounds_toArray]
          refine wpAnyH_take (i := 15) (v := .pointer (some ⟨g, a, none⟩)) rfl (by kernel_rfl) (by kernel_rfl) (by kernel_rfl) (fun _ _ _ h => h) (Or.inl ⟨by rfl, fun w' hSw => by (try dsimp only at hSw); obtain ⟨hs0, hs1, hs2⟩ := hSw; go_simp⟩) hSx ?_
          try simp only [Act.put]
          refine wpAnyH_ready (rs := [16]) (by kernel_rfl) (by simp) ?_
          refine AllReadyH.cons rfl (fun J hJ => ?_) AllReadyH.nil
          go_simp
          refine hJ.out _ _ (HS.out _ hB2) (fun hSx => ?_)
          clear hJ J
          try simp only [Act.put, List.setIfInBounds_toArray, List.set_cons_zero, List.set_cons_succ]
          refine wpAnyH_done (by kernel_rfl) ?_ _
          refine NoPanic.normal ?_
          clear hSx HS hcm hfz hB1
          go_wp2
          go_roundw
          case rel => exact ⟨b + 1, s + x, by go_num, by omega, by omega, st, hset2, hB2⟩
          case measure => simp [intOf]; omega
        · have hdb : decide ((b : Int) < (n : Int)) = false := by simp; omega
          have hdbn : decide (b < n) = false := by simp; omega
          obtain rfl : b = n := by omega
          have hio2 := hio.congr (f' := scF b l (a + 1) 0) fun j hj => by
            unfold scF
            by_cases e : j < a
            · rw [if_pos e, if_pos (by omega)]
            · by_cases e2 : j = a
              · subst e2; rw [if_neg e, if_pos rfl, if_pos (by omega)]
              · rw [if_neg e, if_neg e2, if_neg (by omega)]
                by_cases e3 : j = a + 1
                · subst e3; rw [if_pos rfl]; rfl
                · rw [if_neg e3]
          go_wp2
          go_roundw
          case rel => exact ⟨a + 1, by go_num, by omega, hio2, hB⟩
          case measure => simp [intOf]; omega
    · have hda : decide ((a : Int) < (n : Int)) = false := by simp; omega
      have hdan : decide (a < n) = false := by simp; omega
      obtain rfl : a = n := by omega
      go_wp2
      go_ret
      exact ⟨⟨g, hgw, rfl, hio.congr fun j hj => HE.out j hj⟩, HB0.out _ hB⟩
end Go.Proofs.Ytgkfddcmngodgab
