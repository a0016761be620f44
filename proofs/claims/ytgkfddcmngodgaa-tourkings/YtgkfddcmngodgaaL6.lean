/- The law TourKings over the contracts. -/
import Derived.Test.YtgkfddcmngodgaaL4
import Derived.Test.YtgkfddcmngodgaaTrE
namespace Go.Proofs.Ytgkfddcmngodgaa
open Go.RowKit

set_option maxRecDepth 100000 in
set_option maxHeartbeats 16000000 in
theorem Kings_law (FS : FScores) (FG : FKings) (FN : FPaths) (FR : FRings) (s : Int) (l : List Int) (v : Value) (w : World) (h : SqC w v l) :
    Calls Try.prog 7 #[.agg #[.int .i64 s, v]] w fun e w' => e = .returned (.bool true) ∧ Below w.heap.size w w' := by
  have b1 := balloc w (.cells #[.int .i64 s, v] 24)
  have HX := sq_cells s v w
  obtain ⟨w0, Hw0⟩ : ∃ w0, Hid (w.alloc (.cells #[.int .i64 s, v] 24) = w0) := ⟨_, rfl⟩
  rw [Hw0.out] at b1 HX
  have HX2 : Hid (∀ W, Below w0.heap.size w0 W → W.cell? ⟨w.heap.size, 0, none⟩ = some (.int .i64 s) ∧ W.cell? ⟨w.heap.size, 1, none⟩ = some v) := HX
  have HB0 : Hid (∀ W, Below w0.heap.size w0 W → Below w.heap.size w W) := fun W b => Below.next b1 b
  have HQ : Hid (∀ W, Below w0.heap.size w0 W → SqC W v l) := fun W b => h.below (HB0.out W b)
  obtain ⟨z, Hz⟩ : ∃ z, Hid (tF s l = z) := ⟨_, rfl⟩
  obtain ⟨sc, Hsc⟩ : ∃ x, Hid (scZ s l = x) := ⟨_, rfl⟩
  obtain ⟨kg, Hkg⟩ : ∃ x, Hid (kgZ s l = x) := ⟨_, rfl⟩
  have H11 : Hid (∀ W, Below w0.heap.size w0 W → Calls Try.prog 11 #[.agg #[.int .i64 s, v]] W fun e w' => (∃ y, e = .returned (.tuple #[y, .int .i64 (z : Int)]) ∧ Sl w' y sc) ∧ Below W.heap.size W w') := fun W b => by rw [← Hz.out, ← Hsc.out]; exact FS s l v W (HQ.out W b)
  have H12 : Hid (∀ W, Below w0.heap.size w0 W → Calls Try.prog 12 #[.agg #[.int .i64 s, v]] W fun e w' => (∃ y, e = .returned (.tuple #[y, .int .i64 (z : Int)]) ∧ Sl w' y kg) ∧ Below W.heap.size W w') := fun W b => by rw [← Hz.out, ← Hkg.out]; exact FG s l v W (HQ.out W b)
  have D28 := tourFact_any FN FR w0
  have hB : Below w0.heap.size w0 w0 := Below.refl _ _
  rw [← Hw0.out] at D28
  clear HX b1 h
  by_cases hz : z = 0
  · obtain ⟨n, hsn, hg⟩ := tF_ok (by rw [Hz.out]; exact hz)
    subst hsn
    have h0 : tF (n : Int) l = 0 := by rw [Hz.out]; exact hz
    have hn1 := hg.one
    have hn9 := hg.le
    obtain ⟨hk0, hk2, hk3⟩ := hg.kings
    have hle := kgL_small n (tB n l)
    obtain ⟨S, HS⟩ : ∃ S, Hid (scT (tB n l) n = S) := ⟨_, rfl⟩
    obtain ⟨G, HG⟩ : ∃ G, Hid (kgL n (tB n l) n = G) := ⟨_, rfl⟩
    have k1 : sc = S.map Int.ofNat := by rw [← Hsc.out, scZ_ok h0, HS.out]
    have k2 : kg = G.map Int.ofNat := by rw [← Hkg.out, kgZ_ok h0, HG.out]
    have HSL : Hid (S.length = n) := by rw [← HS.out]; exact scT_len _ _
    have HMK : Hid (∀ i, i < n → S.getD i 0 = mxF S n → G.contains i = true) := fun i hi e => by
      rw [← HG.out]
      exact List.contains_iff_mem.2 (hg.max_king hi (by rw [HS.out]; exact e))
    have HSB : Hid (∀ i, S.getD i 0 ≤ 8) := fun i => by
      rw [← HS.out]
      by_cases hi : i < n
      · rw [scT_at hi]; have := hg.score hi; omega
      · rw [List.getD_eq_getElem?_getD, List.getElem?_eq_none (by rw [scT_len]; omega)]; exact Nat.zero_le _
    rw [HG.out] at hk0 hk2 hk3 hle
    rw [HS.out] at hk3
    obtain ⟨m, Hm⟩ : ∃ m, Hid (G.length = m) := ⟨_, rfl⟩
    rw [Hm.out] at hk0 hk2 hk3 hle
    have HK3 : Hid (1 < m ∨ mxF S n = n - 1) := hk3
    have HTM : Hid (∀ b i, i < G.length → (G.take (i + 1)).contains b = ((G.take i).contains b || G.getD i 0 == b)) := contains_more G
    have HTA : Hid (G.take m = G) := List.take_of_length_le (by rw [Hm.out]; omega)
    subst hz k1 k2
    have hm0 : ((m : Int) == 0) = false := by simp; omega
    have hm2 : ((m : Int) == 2) = false := by simp; omega
    have hm1 : 1 ≤ m := by omega
    clear h0 hg hk0 hk2 hk3
    go_enter Try.func7, Try.ntmps7
    go_wp2_with (first
      | (go_at_call 28; refine D28.mono ?_; rintro e wa ⟨rfl, ba⟩; clear D28; rw [Hw0.out] at ba; replace hB := hB.trans (ba.mono hB.size); obtain ⟨x0, x1⟩ := HX2.out wa hB; have D11 := H11.out wa hB)
      | (go_at_call 11; refine D11.mono ?_; rintro e wb ⟨⟨y, rfl, hy⟩, bb⟩; clear D11 x0 x1; replace hB := hB.trans (bb.mono hB.size); obtain ⟨x0, x1⟩ := HX2.out wb hB
         obtain ⟨sb, so, scp, rfl, hC⟩ := li_cells hy (by rw [HSL.out]; omega)
         have HC : Hid (∀ W, Below wb.heap.size wb W → ∀ j, j < S.length → W.cell? ⟨sb, so + j, none⟩ = some (.int .i64 ((S.getD j 0 : Nat) : Int))) := hC
         rw [HSL.out] at HC ⊢
         clear hC hy
         have D12 := H12.out wb hB)
      | (go_at_call 12; refine D12.mono ?_; rintro e wc ⟨⟨y, rfl, hy⟩, bb⟩; clear D12 x0 x1; replace hB := hB.trans (bb.mono hB.size)
         obtain ⟨gb, go, gcp, rfl, hC⟩ := li_cells hy (by rw [Hm.out]; omega)
         have HC2 : Hid (∀ W, Below wc.heap.size wc W → ∀ j, j < G.length → W.cell? ⟨gb, go + j, none⟩ = some (.int .i64 ((G.getD j 0 : Nat) : Int))) := hC
         have HC1 : Hid (∀ W, Below wc.heap.size wc W → ∀ j, j < n → W.cell? ⟨sb, so + j, none⟩ = some (.int .i64 ((S.getD j 0 : Nat) : Int))) := fun W bW j hj => HC.out W (Below.next bb bW) j hj
         have HBC : Hid (Below w0.heap.size w0 wc) := hB
         rw [Hm.out] at HC2 HTM ⊢
         clear hC hy HC))
    go_loopw [7, 8] (fun mv iv wr => ∃ i x : Nat, iv = .int .i64 (i : Int) ∧ mv = .int .i64 (x : Int) ∧ i ≤ n ∧ Hid (mxF S i = x) ∧ wr = wc) (fun _ iv _ => (n - intOf iv).toNat)
    case atStart => exact ⟨0, 0, rfl, rfl, by omega, rfl, rfl⟩
    case round =>
      obtain ⟨i, x, rfl, rfl, hin, HX1, hw⟩ := hrel
      replace hw := hw.symm
      subst hw
      have hx9 : x ≤ 8 := by rw [← HX1.out]; exact mxF_bd HSB.out i
      by_cases hli : i < n
      · have hdi : decide ((i : Int) < (n : Int)) = true := by simp; omega
        have hii : (i : Int) < (n : Int) := by omega
        have e1 := HC1.out _ (Below.refl _ _) i hli
        obtain ⟨y, Hy⟩ : ∃ y, Hid (S.getD i 0 = y) := ⟨_, rfl⟩
        rw [Hy.out] at e1
        have hmx : mxF S (i + 1) = if x < y then y else x := by
          show (if mxF S i < S.getD i 0 then S.getD i 0 else mxF S i) = _
          rw [HX1.out, Hy.out]
        by_cases hxy : x < y
        · have hd : decide ((x : Int) < (y : Int)) = true := by simp; omega
          have hdn : decide (x < y) = true := by simp; omega
          have HN : Hid (mxF S (i + 1) = y) := by show _ = _; rw [hmx, if_pos hxy]
          clear hmx hxy
          go_wp2
          go_roundw
          case rel => exact ⟨i + 1, y, by go_num, rfl, by omega, HN, by first | rfl | trivial⟩
          case measure => simp [intOf]; omega
        · have hd : decide ((x : Int) < (y : Int)) = false := by simp; omega
          have hdn : decide (x < y) = false := by simp; omega
          have HN : Hid (mxF S (i + 1) = x) := by show _ = _; rw [hmx, if_neg hxy]
          clear hmx hxy
          go_wp2
          go_roundw
          case rel => exact ⟨i + 1, x, by go_num, rfl, by omega, HN, by first | rfl | trivial⟩
          case measure => simp [intOf]; omega
      · have hdi : decide ((i : Int) < (n : Int)) = false := by simp; omega
        have hdin : decide (i < n) = false := by simp; omega
        obtain rfl : i = n := by omega
        go_wp2
        go_loopw [9] (fun jv wr => ∃ j : Nat, jv = .int .i64 (j : Int) ∧ j ≤ i ∧ wr = wc) (fun jv _ => (i - intOf jv).toNat)
        case atStart => exact ⟨0, rfl, by omega, rfl⟩
        case round =>
          obtain ⟨j, rfl, hji, hw⟩ := hrel
          replace hw := hw.symm
          subst hw
          by_cases hlj : j < i
          · have hdj : decide ((j : Int) < (i : Int)) = true := by simp; omega
            have hjj : (j : Int) < (i : Int) := by omega
            go_wp2
            go_loopw [10, 11] (fun bv kv wr => ∃ (k : Nat) (g : Bool), kv = .int .i64 (k : Int) ∧ bv = .bool g ∧ k ≤ m ∧ Hid ((G.take k).contains j = g) ∧ wr = wc) (fun _ kv _ => (m - intOf kv).toNat)
            case atStart => exact ⟨0, false, rfl, rfl, by omega, by show _ = _; simp, rfl⟩
            case round =>
              obtain ⟨k, g, rfl, rfl, hkm, HGC, hw⟩ := hrel
              replace hw := hw.symm
              subst hw
              by_cases hlk : k < m
              · have hdk : decide ((k : Int) < (m : Int)) = true := by simp; omega
                have hkk : (k : Int) < (m : Int) := by omega
                have e2 := HC2.out _ (Below.refl _ _) k hlk
                have hmo := HTM.out j k hlk
                obtain ⟨y, Hy⟩ : ∃ y, Hid (G.getD k 0 = y) := ⟨_, rfl⟩
                rw [Hy.out] at e2 hmo
                rw [HGC.out] at hmo
                cases g with
                | true =>
                  have HN : Hid ((G.take (k + 1)).contains j = true) := by show _ = _; rw [hmo]; rfl
                  clear hmo
                  go_wp2
                  go_roundw
                  case rel => exact ⟨k + 1, true, by go_num, rfl, by omega, HN, by first | rfl | trivial⟩
                  case measure => simp [intOf]; omega
                | false =>
                  by_cases hyj : y = j
                  · have hye : ((y : Int) == (j : Int)) = true := by simp [hyj]
                    have HN : Hid ((G.take (k + 1)).contains j = true) := by show _ = _; rw [hmo, hyj]; simp
                    clear hmo hyj
                    go_wp2
                    go_roundw
                    case rel => exact ⟨k + 1, true, by go_num, rfl, by omega, HN, by first | rfl | trivial⟩
                    case measure => simp [intOf]; omega
                  · have hye : ((y : Int) == (j : Int)) = false := by simp; omega
                    have HN : Hid ((G.take (k + 1)).contains j = false) := by show _ = _; rw [hmo]; simp [hyj]
                    clear hmo hyj
                    go_wp2
                    go_roundw
                    case rel => exact ⟨k + 1, false, by go_num, rfl, by omega, HN, by first | rfl | trivial⟩
                    case measure => simp [intOf]; omega
              · have hdk : decide ((k : Int) < (m : Int)) = false := by simp; omega
                have hdkn : decide (k < m) = false := by simp; omega
                obtain rfl : k = m := by omega
                have hgc := HGC.out
                rw [HTA.out] at hgc
                have e1 := HC1.out _ (Below.refl _ _) j hlj
                obtain ⟨y, Hy⟩ : ∃ y, Hid (S.getD j 0 = y) := ⟨_, rfl⟩
                rw [Hy.out] at e1
                by_cases hyx : y = x
                · have hye : ((y : Int) == (x : Int)) = true := by simp [hyx]
                  have hgt : g = true := by rw [← hgc]; exact HMK.out j hlj (by rw [Hy.out, HX1.out, hyx])
                  subst hgt
                  clear hyx hgc
                  go_wp2
                  go_roundw
                  case rel => exact ⟨j + 1, by go_num, by omega, by first | rfl | trivial⟩
                  case measure => simp [intOf]; omega
                · have hye : ((y : Int) == (x : Int)) = false := by simp; omega
                  clear hyx hgc
                  go_wp2
                  go_roundw
                  case rel => exact ⟨j + 1, by go_num, by omega, by first | rfl | trivial⟩
                  case measure => simp [intOf]; omega
          · have hdj : decide ((j : Int) < (i : Int)) = false := by simp; omega
            have hdjn : decide (j < i) = false := by simp; omega
            obtain ⟨x0, x1⟩ := HX2.out _ HBC.out
            by_cases h1 : 1 < m
            · have hd1 : decide ((1 : Int) < (m : Int)) = true := by simp; omega
              have hd1n : decide (1 < m) = true := by simp; omega
              clear h1
              go_wp2
              go_ret
              exact ⟨rfl, HB0.out _ HBC.out⟩
            · have hd1 : decide ((1 : Int) < (m : Int)) = false := by simp; omega
              have hd1n : decide (1 < m) = false := by simp; omega
              have hxe : ((x : Int) == (i : Int) - 1) = true := by
                have := HK3.out
                have := HX1.out
                simp
                omega
              clear h1
              go_wp2
              go_ret
              exact ⟨rfl, HB0.out _ HBC.out⟩
  · have hzb : ((z : Int) != 0) = true := by simp [hz]
    clear hz
    go_enter Try.func7, Try.ntmps7
    go_wp2_with (first
      | (go_at_call 28; refine D28.mono ?_; rintro e wa ⟨rfl, ba⟩; clear D28; rw [Hw0.out] at ba; replace hB := hB.trans (ba.mono hB.size); obtain ⟨x0, x1⟩ := HX2.out wa hB; have D11 := H11.out wa hB)
      | (go_at_call 11; refine D11.mono ?_; rintro e wb ⟨⟨y, rfl, hy⟩, bb⟩; clear D11 x0 x1; replace hB := hB.trans (bb.mono hB.size); obtain ⟨pa, pb, pc, rfl⟩ := sl_form hy; clear hy))
    go_ret
    exact ⟨rfl, HB0.out _ hB⟩
end Go.Proofs.Ytgkfddcmngodgaa
