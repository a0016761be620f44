/- The law TourCamion over the contracts. -/
import Derived.Test.YtgkfddcmngodgaaL4
import Derived.Test.YtgkfddcmngodgaaTrB
namespace Go.Proofs.Ytgkfddcmngodgaa
open Go.RowKit

set_option maxRecDepth 100000 in
set_option maxHeartbeats 16000000 in
theorem Camion_law (FP : FParts) (FY : FCycle) (FN : FPaths) (FR : FRings) (s : Int) (l : List Int) (v : Value) (w : World) (h : SqC w v l) :
    Calls Try.prog 8 #[.agg #[.int .i64 s, v]] w fun e w' => e = .returned (.bool true) ∧ Below w.heap.size w w' := by
  have b1 := balloc w (.cells #[.int .i64 s, v] 24)
  have HX := sq_cells s v w
  obtain ⟨w0, Hw0⟩ : ∃ w0, Hid (w.alloc (.cells #[.int .i64 s, v] 24) = w0) := ⟨_, rfl⟩
  rw [Hw0.out] at b1 HX
  have HX2 : Hid (∀ W, Below w0.heap.size w0 W → W.cell? ⟨w.heap.size, 0, none⟩ = some (.int .i64 s) ∧ W.cell? ⟨w.heap.size, 1, none⟩ = some v) := HX
  have HB0 : Hid (∀ W, Below w0.heap.size w0 W → Below w.heap.size w W) := fun W b => Below.next b1 b
  have HQ : Hid (∀ W, Below w0.heap.size w0 W → SqC W v l) := fun W b => h.below (HB0.out W b)
  obtain ⟨z, Hz⟩ : ∃ z, Hid (tF s l = z) := ⟨_, rfl⟩
  obtain ⟨pt, Hpt⟩ : ∃ x, Hid (ptZ s l = x) := ⟨_, rfl⟩
  obtain ⟨cy, Hcy⟩ : ∃ x, Hid (cyZ s l = x) := ⟨_, rfl⟩
  obtain ⟨ce, Hce⟩ : ∃ x, Hid (ceT s l = x) := ⟨_, rfl⟩
  have H14 : Hid (∀ W, Below w0.heap.size w0 W → Calls Try.prog 14 #[.agg #[.int .i64 s, v]] W fun e w' => (∃ y, e = .returned (.tuple #[y, .int .i64 (z : Int)]) ∧ Rw w' y pt) ∧ Below W.heap.size W w') := fun W b => by rw [← Hz.out, ← Hpt.out]; exact FP s l v W (HQ.out W b)
  have H23 : Hid (∀ W, Below w0.heap.size w0 W → Calls Try.prog 23 #[.agg #[.int .i64 s, v]] W fun e w' => (∃ y, e = .returned (.tuple #[y, .int .i64 (ce : Int)]) ∧ Sl w' y cy) ∧ Below W.heap.size W w') := fun W b => by rw [← Hce.out, ← Hcy.out]; exact FY s l v W (HQ.out W b)
  have D28 := tourFact_any FN FR w0
  have hB : Below w0.heap.size w0 w0 := Below.refl _ _
  rw [← Hw0.out] at D28
  clear HX b1 h
  by_cases hz : z = 0
  · obtain ⟨n, hsn, hg⟩ := tF_ok (by rw [Hz.out]; exact hz)
    subst hsn
    have h0 : tF (n : Int) l = 0 := by rw [Hz.out]; exact hz
    have hn1 := hg.one
    have hn9 := hg.le
    have hst := cyN_strg hn1 hg.trn
    have k0 : ce = if cyN n (tB n l) = 0 then 4 else 0 := by rw [← Hce.out, ceT_ok h0]
    have k1 : pt.length = (ptL n (reB n (tB n l))).length := by rw [← Hpt.out, ptZ_ok h0]; unfold toZ; rw [List.length_map]
    have k2 : cy = (if cyN n (tB n l) = 0 then [] else cyL n (tB n l)).map Int.ofNat := by rw [← Hcy.out, cyZ_ok h0]
    obtain ⟨K, HK⟩ : ∃ K, Hid (pt.length = K) := ⟨_, rfl⟩
    have HBE : Hid (∀ W, Below w0.heap.size w0 W → ∀ a b, a < n → b < n → Calls Try.prog 29 #[.agg #[.int .i64 (n : Int), v], .int .i64 (a : Int), .int .i64 (b : Int)] W fun e w' => e = .returned (.bool (tB n l a b)) ∧ Below W.heap.size W w') := fun W bW a b ha hb => Beats_any hg v W (HQ.out W bW).sl ha hb
    subst hz
    by_cases hc : cyN n (tB n l) = 0
    · rw [if_pos hc] at k0 k2
      have hK1 : 1 < K := by
        rw [← HK.out, k1]
        exact parts_two fun hS => (hst.2 hS) hc
      subst k0 k2
      have hKb : decide ((1 : Int) < (K : Int)) = true := by simp; omega
      have hKbn : decide (1 < K) = true := by simp; omega
      clear h0 hg hst hc k1
      go_enter Try.func8, Try.ntmps8
      go_wp2_with (first
        | (go_at_call 28; refine D28.mono ?_; rintro e wa ⟨rfl, ba⟩; clear D28; rw [Hw0.out] at ba; replace hB := hB.trans (ba.mono hB.size); obtain ⟨x0, x1⟩ := HX2.out wa hB; have D14 := H14.out wa hB)
        | (go_at_call 14; refine D14.mono ?_; rintro e wb ⟨⟨y, rfl, hy⟩, bb⟩; clear D14 x0 x1; replace hB := hB.trans (bb.mono hB.size); obtain ⟨pa, pb, rfl⟩ := rw_len hy HK.out; clear hy; obtain ⟨x0, x1⟩ := HX2.out wb hB; have D23 := H23.out wb hB)
        | (go_at_call 23; refine D23.mono ?_; rintro e wc ⟨⟨y, rfl, hy⟩, bb⟩; clear D23 x0 x1; replace hB := hB.trans (bb.mono hB.size); obtain ⟨ca, cb, rfl⟩ := sl_len hy (m := 0) rfl; clear hy))
      go_ret
      exact ⟨rfl, HB0.out _ hB⟩
    · rw [if_neg hc] at k0 k2
      have hK1 : K = 1 := by
        rw [← HK.out, k1]
        exact parts_one hn1 (hst.1 hc)
      obtain ⟨R, hR, hMl, hMw, hMb⟩ := (mem_cyA hn1).1 (cyL_mem hc)
      obtain ⟨M, HM⟩ : ∃ M, Hid (cyL n (tB n l) = M) := ⟨_, rfl⟩
      rw [HM.out] at k2 hR hMl hMw hMb
      have hM0 : M.getD 0 0 = 0 := by rw [hR]; rfl
      subst k0 k2 hK1
      have HML : Hid (M.length = n) := hMl
      have HCH : Hid (∀ i, i < n → 1 < n → M.getD i 0 < n ∧ M.getD ((i + 1) % n) 0 < n ∧ tB n l (M.getD i 0) (M.getD ((i + 1) % n) 0) = true) := fun i hi h1 => by
        have lt : ∀ j, j < n → M.getD j 0 < n := fun j hj => by
          rw [List.getD_eq_getElem?_getD, List.getElem?_eq_getElem (by omega)]
          exact hMw.lt _ (List.getElem_mem _)
        refine ⟨lt _ hi, lt _ (Nat.mod_lt _ (by omega)), ?_⟩
        by_cases he : i + 1 < n
        · rw [Nat.mod_eq_of_lt he]
          exact chn_at hMw.ch (by omega)
        · have e1 : i + 1 = n := by omega
          rw [e1, Nat.mod_self, hM0, show i = n - 1 by omega]
          exact hMb h1
      clear h0 hg hst hc k1 hR hMl hMw hMb hM0
      go_enter Try.func8, Try.ntmps8
      go_wp2_with (first
        | (go_at_call 28; refine D28.mono ?_; rintro e wa ⟨rfl, ba⟩; clear D28; rw [Hw0.out] at ba; replace hB := hB.trans (ba.mono hB.size); obtain ⟨x0, x1⟩ := HX2.out wa hB; have D14 := H14.out wa hB)
        | (go_at_call 14; refine D14.mono ?_; rintro e wb ⟨⟨y, rfl, hy⟩, bb⟩; clear D14 x0 x1; replace hB := hB.trans (bb.mono hB.size); obtain ⟨pa, pb', rfl⟩ := rw_len hy HK.out; clear hy; obtain ⟨x0, x1⟩ := HX2.out wb hB; have D23 := H23.out wb hB)
        | (go_at_call 23; refine D23.mono ?_; rintro e wc ⟨⟨y, rfl, hy⟩, bb⟩; clear D23 x0 x1; replace hB := hB.trans (bb.mono hB.size); obtain ⟨x0, x1⟩ := HX2.out wc hB
           obtain ⟨pb, po, pc, rfl, hC⟩ := li_cells hy (by rw [HML.out]; omega)
           have HC : Hid (∀ W, Below wc.heap.size wc W → ∀ j, j < M.length → W.cell? ⟨pb, po + j, none⟩ = some (.int .i64 ((M.getD j 0 : Nat) : Int))) := hC
           have HBC : Hid (Below w0.heap.size w0 wc) := hB
           rw [HML.out] at HC ⊢
           clear hC hy))
      go_loopw [7] (fun iv wr => ∃ i : Nat, iv = .int .i64 (i : Int) ∧ i ≤ n ∧ Below wc.heap.size wc wr) (fun iv _ => (n - intOf iv).toNat)
      case atStart => exact ⟨0, rfl, by omega, Below.refl _ _⟩
      case round =>
        clear x0 x1
        obtain ⟨i, rfl, hin, hBr⟩ := hrel
        have hBW : Below w0.heap.size w0 wr := HBC.out.trans (hBr.mono HBC.out.size)
        obtain ⟨x0, x1⟩ := HX2.out wr hBW
        by_cases hli : i < n ∧ 1 < n
        · obtain ⟨hli, h1n⟩ := hli
          have hdi : decide ((i : Int) < (n : Int)) = true := by simp; omega
          have hdin : decide (i < n) = true := by simp; omega
          have hd1 : decide ((1 : Int) < (n : Int)) = true := by simp; omega
          have hd1n : decide (1 < n) = true := by simp; omega
          have hii : (i : Int) < (n : Int) := by omega
          obtain ⟨c1, c2, c3⟩ := HCH.out i hli h1n
          obtain ⟨j, Hj⟩ : ∃ j, Hid ((i + 1) % n = j) := ⟨_, rfl⟩
          rw [Hj.out] at c2 c3
          have hjn : j < n := by rw [← Hj.out]; exact Nat.mod_lt _ (by omega)
          have hjni : (j : Int) < (n : Int) := by omega
          obtain ⟨i1, Hi1⟩ : ∃ i1, Hid (i + 1 = i1) := ⟨_, rfl⟩
          have hi1 : (i : Int) + 1 = (i1 : Int) := by rw [← Hi1.out]; omega
          have hi19 : i1 ≤ 99 := by rw [← Hi1.out]; omega
          have hw1 : IntKind.i64.wrap (i1 : Int) = (i1 : Int) := by rw [IntKind.wrap_i64]; omega
          have r1 : (i1 : Int) % (n : Int) = (j : Int) := by rw [← Hj.out, Hi1.out]; simp
          have r2 : (i1 : Int).tmod (n : Int) = (j : Int) := by rw [Int.tmod_eq_emod_of_nonneg (by omega)]; exact r1
          have hn0 : ¬ n = 0 := by omega
          have hn0i : ¬ (n : Int) = 0 := by omega
          have e1 := HC.out wr hBr i hli
          have e2 := HC.out wr hBr j hjn
          obtain ⟨p, Hp⟩ : ∃ p, Hid (M.getD i 0 = p) := ⟨_, rfl⟩
          obtain ⟨q, Hq⟩ : ∃ q, Hid (M.getD j 0 = q) := ⟨_, rfl⟩
          rw [Hp.out] at c1 c3 e1
          rw [Hq.out] at c2 c3 e2
          have C := HBE.out wr.drew hBW.drew p q c1 c2
          rw [c3] at C
          have hSA : wr.drew.cell? ⟨w.heap.size, 0, none⟩ = some (.int .i64 (n : Int)) ∧ wr.drew.cell? ⟨w.heap.size, 1, none⟩ = some v ∧ wr.drew.cell? ⟨pb, po + i, none⟩ = some (.int .i64 (p : Int)) ∧ wr.drew.cell? ⟨pb, po + j, none⟩ = some (.int .i64 (q : Int)) := ⟨x0, x1, e1, e2⟩
          have HK5 : Hid (∀ w5, Below wr.drew.heap.size wr.drew w5 → w5.cell? ⟨w.heap.size, 0, none⟩ = some (.int .i64 (n : Int)) ∧ w5.cell? ⟨w.heap.size, 1, none⟩ = some v ∧ w5.cell? ⟨pb, po + i, none⟩ = some (.int .i64 (p : Int)) ∧ w5.cell? ⟨pb, po + j, none⟩ = some (.int .i64 (q : Int))) := fun w5 b5 => ⟨(b5.cell (World.block_lt_of_cell? _ _ hSA.1)).trans hSA.1, (b5.cell (World.block_lt_of_cell? _ _ hSA.2.1)).trans hSA.2.1, (b5.cell (World.block_lt_of_cell? _ _ hSA.2.2.1)).trans hSA.2.2.1, (b5.cell (World.block_lt_of_cell? _ _ hSA.2.2.2)).trans hSA.2.2.2⟩
          have HBD : Hid (Below wc.heap.size wc wr.drew) := hBr.drew
          have HII : Hid (i1 = i + 1) := Hi1.out.symm
          clear x0 x1 e1 e2 c1 c2 c3 hBr hBW
          go_wp2_with fail
          go_region_held3 (fun W : World => W.cell? ⟨w.heap.size, 0, none⟩ = some (.int .i64 (n : Int)) ∧ W.cell? ⟨w.heap.size, 1, none⟩ = some v ∧ W.cell? ⟨pb, po + i, none⟩ = some (.int .i64 (p : Int)) ∧ W.cell? ⟨pb, po + j, none⟩ = some (.int .i64 (q : Int))) (first | assumption) (first | (go_at_call 29; refine C.mono ?_; rintro e w5 ⟨rfl, b5⟩; have hS5 := HK5.out w5 b5; have hB5 := HBD.out.trans (b5.mono HBD.out.size); clear C))
          go_wp2
          go_roundw
          case rel => exact ⟨i1, by rfl, by rw [HII.out]; omega, hB5⟩
          case measure => simp [intOf]; have := HII.out; omega
        · have hcase : decide ((i : Int) < (n : Int)) = false ∨ decide ((1 : Int) < (n : Int)) = false := by
            by_cases h1 : i < n
            · right; simp; omega
            · left; simp; omega
          by_cases h1 : i < n
          · have hdi : decide ((i : Int) < (n : Int)) = true := by simp; omega
            have hdin : decide (i < n) = true := by simp; omega
            have hd1 : decide ((1 : Int) < (n : Int)) = false := by simp; omega
            have hd1n : decide (1 < n) = false := by simp; omega
            clear hcase hli
            go_wp2
            go_ret
            exact ⟨rfl, HB0.out _ hBW⟩
          · have hdi : decide ((i : Int) < (n : Int)) = false := by simp; omega
            have hdin : decide (i < n) = false := by simp; omega
            clear hcase hli
            go_wp2
            go_ret
            exact ⟨rfl, HB0.out _ hBW⟩
  · have hzb : ((z : Int) != 0) = true := by simp [hz]
    clear hz
    go_enter Try.func8, Try.ntmps8
    go_wp2_with (first
      | (go_at_call 28; refine D28.mono ?_; rintro e wa ⟨rfl, ba⟩; clear D28; rw [Hw0.out] at ba; replace hB := hB.trans (ba.mono hB.size); obtain ⟨x0, x1⟩ := HX2.out wa hB; have D14 := H14.out wa hB)
      | (go_at_call 14; refine D14.mono ?_; rintro e wb ⟨⟨y, rfl, hy⟩, bb⟩; clear D14 x0 x1; replace hB := hB.trans (bb.mono hB.size); obtain ⟨pa, pb, pc, rfl⟩ := rw_form hy; clear hy))
    go_ret
    exact ⟨rfl, HB0.out _ hB⟩
end Go.Proofs.Ytgkfddcmngodgaa
