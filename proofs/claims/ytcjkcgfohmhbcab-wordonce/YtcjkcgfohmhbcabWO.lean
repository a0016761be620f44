/- The law WordOnce over the contracts. -/
import Derived.Test.YtcjkcgfohmhbcabWE
namespace Go.Proofs.Ytcjkcgfohmhbcab
open Go.RowKit

set_option maxRecDepth 100000 in
theorem prs_all : (List.range 10).all (fun k => (List.range 12).all fun n => decide (4096 < (k + 1) ^ (n + 1)) || (decide (0 ≤ prZ (k + 1) (n + 1)) && decide (prZ (k + 1) (n + 1) ≤ 4096))) = true := by decide +kernel
theorem prs_at {k n : Nat} (hk : 1 ≤ k) (hk9 : k ≤ 10) (hn : 1 ≤ n) (hn9 : n ≤ 12) (h : k ^ n ≤ 4096) : 0 ≤ prZ k n ∧ prZ k n ≤ 4096 := by
  have a := List.all_eq_true.1 (List.all_eq_true.1 prs_all (k - 1) (List.mem_range.2 (by omega))) (n - 1) (List.mem_range.2 (by omega))
  rw [show k - 1 + 1 = k by omega, show n - 1 + 1 = n by omega, Bool.or_eq_true] at a
  rcases a with a | a
  · have := of_decide_eq_true a; omega
  · rw [Bool.and_eq_true] at a
    exact ⟨of_decide_eq_true a.1, of_decide_eq_true a.2⟩
theorem dsZ_no {k n D : Nat} (h1 : 1 ≤ D) (h : ¬ n % D = 0) : dsZ k n D = dsZ k n (D - 1) := by
  obtain ⟨j, rfl⟩ : ∃ j, D = j + 1 := ⟨D - 1, by omega⟩
  show (if n % (j + 1) = 0 then dsZ k n j + ((j + 1 : Nat) : Int) * prZ k (j + 1) else dsZ k n j) = _
  rw [if_neg h, Nat.add_sub_cancel]
theorem dsZ_yes {k n D : Nat} (h1 : 1 ≤ D) (h : n % D = 0) : dsZ k n D = dsZ k n (D - 1) + (D : Int) * prZ k D := by
  obtain ⟨j, rfl⟩ : ∃ j, D = j + 1 := ⟨D - 1, by omega⟩
  show (if n % (j + 1) = 0 then dsZ k n j + ((j + 1 : Nat) : Int) * prZ k (j + 1) else dsZ k n j) = _
  rw [if_pos h, Nat.add_sub_cancel]
theorem mul_12 {D : Nat} {p : Int} (hD : D ≤ 12) (h1 : 0 ≤ p) (h2 : p ≤ 4096) : 0 ≤ (D : Int) * p ∧ (D : Int) * p ≤ 49152 := by
  obtain ⟨q, rfl⟩ : ∃ q : Nat, p = q := ⟨p.toNat, by omega⟩
  have : D * q ≤ 12 * 4096 := Nat.mul_le_mul hD (by omega)
  have e : (D : Int) * (q : Int) = ((D * q : Nat) : Int) := by simp
  rw [e]
  omega
theorem dsZ_small {k n : Nat} (hk : 1 ≤ k) (hk9 : k ≤ 10) (hn9 : n ≤ 12) (h : k ^ n ≤ 4096) : ∀ j, j ≤ n → 0 ≤ dsZ k n j ∧ dsZ k n j ≤ 49152 * j
  | 0, _ => ⟨Int.le_refl _, Int.le_refl _⟩
  | j + 1, hj => by
    obtain ⟨h1, h2⟩ := dsZ_small hk hk9 hn9 h j (by omega)
    by_cases hd : n % (j + 1) = 0
    · rw [dsZ_yes (by omega) hd, Nat.add_sub_cancel]
      have hp := prs_at hk hk9 (show 1 ≤ j + 1 by omega) (by omega) (Nat.le_trans (Nat.pow_le_pow_right hk hj) h)
      have := mul_12 (D := j + 1) (by omega) hp.1 hp.2
      omega
    · rw [dsZ_no (by omega) hd, Nat.add_sub_cancel]
      omega
/-- Which codes the first i lists had. -/
def sdB (k A : Nat) (L : List Nat) (n i x : Nat) : Bool := (List.range i).any fun j => wnD k A L j n == x
theorem sdB_zero (k A : Nat) (L : List Nat) (n : Nat) : sdB k A L n 0 = fun _ => false := rfl
theorem sdB_more (k A : Nat) (L : List Nat) (n i : Nat) : updV (sdB k A L n i) (wnD k A L i n) true = sdB k A L n (i + 1) := by
  funext x
  unfold updV sdB
  rw [List.range_succ, List.any_append]
  by_cases e : x = wnD k A L i n
  · rw [if_pos e, e]; simp
  · rw [if_neg e]
    have : (wnD k A L i n == x) = false := by simp; exact fun h => e h.symm
    simp [this]
theorem bfE_ok {k n : Int} (h : bfE k n = 0) : ∃ a b : Nat, k = a ∧ n = b ∧ 1 ≤ a ∧ a ≤ 10 ∧ 1 ≤ b ∧ b ≤ 12 ∧ a ^ b ≤ 4096 := by
  unfold bfE at h
  split at h
  · cases h
  · rename_i h1
    split at h
    · cases h
    · rename_i h2
      refine ⟨k.toNat, n.toNat, by omega, by omega, by omega, by omega, by omega, by omega, by omega⟩
set_option maxRecDepth 100000 in
set_option maxHeartbeats 16000000 in
theorem Once_law (FB : FBruijn) (FP : FPrimes) (kk nn : Int) (w : World) :
    Calls Try.prog 3 #[.int .i64 kk, .int .i64 nn] w fun e w' => e = .returned (.bool true) ∧ Below w.heap.size w w' := by
  have D5 := wordFact_any FB FP w
  have H6 : Hid (∀ W, Calls Try.prog 6 #[.int .i64 kk, .int .i64 nn] W fun e w' => (∃ y, e = .returned (.tuple #[y, .int .i64 (bfE kk nn : Int)]) ∧ Wd w' y (bjZ kk nn)) ∧ Below W.heap.size W w') := fun W => FB kk nn W
  have hB : Below w.heap.size w w := Below.refl _ _
  by_cases h0 : bfE kk nn = 0
  · have hbj : bjZ kk nn = bjN kk.toNat nn.toNat := by unfold bjZ; rw [if_pos h0]
    rw [h0, hbj] at H6
    obtain ⟨k, n, rfl, rfl, hk1, hk10, hn1, hn12, hA4⟩ := bfE_ok h0
    rw [Int.toNat_natCast, Int.toNat_natCast] at H6
    obtain ⟨hL1, hL2, hL3, hL4⟩ := bru_once hk1 hk10 hn1 hn12 hA4 (l := bjN k n) rfl
    have hds := ds_at hk1 hk10 hn1 hn12 hA4
    have HDS : Hid (∀ j, j ≤ n → 0 ≤ dsZ k n j ∧ dsZ k n j ≤ 49152 * j) := dsZ_small hk1 hk10 hn12 hA4
    have HPW : Hid (∀ i, i ≤ n → k ^ i ≤ 4096) := fun i hi => Nat.le_trans (Nat.pow_le_pow_right hk1 hi) hA4
    have HPK : Hid (∀ i j, i ≤ j → k ^ i ≤ k ^ j) := fun i j h => Nat.pow_le_pow_right hk1 h
    have H7 : Hid (∀ D, 1 ≤ D → D ≤ n → ∀ W, Calls Try.prog 7 #[.int .i64 (k : Int), .int .i64 (D : Int)] W fun e w' => e = .returned (.tuple #[.int .i64 (prZ k D), .int .i64 0]) ∧ Below W.heap.size W w') := fun D h1 h2 W => by
      have hp := HPW.out D h2
      have e1 : prE (k : Int) (D : Int) = 0 := by unfold prE; rw [if_neg (by omega), Int.toNat_natCast, Int.toNat_natCast, if_neg (by omega)]
      have e2 : pmZ (k : Int) (D : Int) = prZ k D := by unfold pmZ; rw [if_pos e1, Int.toNat_natCast, Int.toNat_natCast]
      have := FP (k : Int) (D : Int) W (by omega)
      rw [e1, e2] at this
      exact this
    have HPB : Hid (∀ D, 1 ≤ D → D ≤ n → 0 ≤ prZ k D ∧ prZ k D ≤ 4096) := fun D h1 h2 => prs_at hk1 hk10 h1 (by omega) (HPW.out D h2)
    have hA1 : 1 ≤ k ^ n := Nat.one_le_pow _ _ hk1
    have hgd : ∀ j, (bjN k n).getD j 0 < k := fun j => by
      rw [List.getD_eq_getElem?_getD]
      rcases Nat.lt_or_ge j (bjN k n).length with hh | hh
      · rw [List.getElem?_eq_getElem hh]; exact hL2 _ (List.getElem_mem hh)
      · rw [List.getElem?_eq_none hh]; exact hk1
    have HWL : Hid (∀ i j, wnD k (k ^ n) (bjN k n) i j < k ^ j) := fun i j => wnD_lt hgd i j
    have HGD : Hid (∀ j, (bjN k n).getD j 0 < k) := hgd
    obtain ⟨L, HL⟩ : ∃ L, Hid (bjN k n = L) := ⟨_, rfl⟩
    obtain ⟨A, HA⟩ : ∃ A : Nat, Hid (k ^ n = A) := ⟨_, rfl⟩
    rw [HL.out] at H6 hL1 hL3 hL4 HWL HGD
    rw [HA.out] at hL1 hL3 hL4 HWL hA1 hA4 hds
    have HLA : Hid (L.length = A) := hL1
    have HW3 : Hid (∀ i, wnD k A L i n < A) := hL3
    have HW4 : Hid (∀ i j, i < A → j < A → wnD k A L i n = wnD k A L j n → i = j) := hL4
    have HDA : Hid (dsZ k n n = (A : Int)) := hds
    have HWS : Hid (∀ i j, wnD k A L i (j + 1) = wnD k A L i j * k + L.getD ((i + j) % A) 0) := fun i j => rfl
    have HSD : Hid (∀ i, updV (sdB k A L n i) (wnD k A L i n) true = sdB k A L n (i + 1)) := fun i => sdB_more k A L n i
    have HSN : Hid (∀ i, i < A → sdB k A L n i (wnD k A L i n) = false) := fun i hi => by
      rw [Bool.eq_false_iff]
      intro h
      obtain ⟨j, hj, e⟩ := List.any_eq_true.1 h
      have hj := List.mem_range.1 hj
      have := hL4 j i (by omega) hi (eq_of_beq e)
      omega
    have hmk : ∀ w : World, (Instr.makeSlice 27 (.int .i64 (A : Int)) (.int .i64 (A : Int))).run Try.prog w = .ok (.slice (some ⟨w.heap.size, 0, none⟩) A A) (w.alloc (.cells (madeCells #[.bool false] A) 4)) := fun w => run_makeB A (by omega) w
    clear hL1 hL2 hL3 hL4 hds hgd h0 hbj
    go_enter Try.func3, Try.ntmps3
    go_wp2_with (first
      | (go_at_call 5; refine D5.mono ?_; rintro e wa ⟨rfl, bb⟩; clear D5; replace hB := hB.trans (bb.mono hB.size); have D6 := H6.out wa)
      | (go_at_call 6; refine D6.mono ?_; rintro e wb ⟨⟨y1, rfl, hy1⟩, bb⟩; clear D6; replace hB := hB.trans (bb.mono hB.size); obtain ⟨ya, yo, yc, rfl, -⟩ := hy1.some (by rw [HLA.out]; omega); rw [HLA.out] at hy1 ⊢)
      | go_in)
    go_loopw [8, 9] (fun pv iv wr => ∃ (i p : Nat), iv = .int .i64 (i : Int) ∧ pv = .int .i64 (p : Int) ∧ i ≤ n ∧ Hid (k ^ i = p) ∧ wr = wb) (fun _ iv _ => (n - intOf iv).toNat)
    case atStart => exact ⟨0, 1, rfl, rfl, by omega, rfl, rfl⟩
    case round =>
      obtain ⟨i, p, rfl, rfl, hi, HP, e1⟩ := hrel
      subst e1
      by_cases hlt : i < n
      · have hdi : decide ((i : Int) < (n : Int)) = true := by simp; omega
        have hii : (i : Int) < (n : Int) := by omega
        obtain ⟨q, Hq⟩ : ∃ q, Hid (p * k = q) := ⟨_, rfl⟩
        have HP2 : Hid (k ^ (i + 1) = q) := by show _ = _; rw [Nat.pow_succ, HP.out]; exact Hq.out
        have hq18 : q ≤ 4096 := by rw [← HP2.out]; exact HPW.out _ (by omega)
        have eq1 : (p : Int) * (k : Int) = (q : Int) := by rw [← Hq.out]; simp
        have hqw : IntKind.i64.wrap (q : Int) = (q : Int) := IntWalk.i64_in _ (by omega)
        clear hmk hy1
        go_wp2
        go_roundw
        case rel => exact ⟨i + 1, q, by go_num, rfl, by omega, HP2, trivial⟩
        case measure => simp [intOf]; omega
      · have hdi : decide ((i : Int) < (n : Int)) = false := by simp; omega
        obtain rfl : n = i := by omega
        obtain rfl : A = p := by rw [← HA.out, ← HP.out]
        have HY : Hid (∀ W, Below wr.heap.size wr W → Wd W (.slice (some ⟨ya, yo, none⟩) A yc) L) := fun W b => hy1.below b
        have HBB : Hid (∀ W, Below wr.heap.size wr W → Below w.heap.size w W) := fun W b => hB.trans (b.mono hB.size)
        have hO0 := OwV.made (t := 4) (en := Value.bool) A wr (sdB k A L n 0) (.bool false) (by intro j; rw [sdB_zero])
        have hB0 := balloc wr (.cells (madeCells #[.bool false] A) 4)
        have hAA : ((A : Int) != (A : Int)) = false := by simp
        go_wp2
        go_loopw [11] (fun iv vr => ∃ t : Nat, iv = .int .i64 (t : Int) ∧ t ≤ A ∧ OwV 4 Value.bool vr wr.heap.size A (sdB k A L n t) ∧ Below wr.heap.size wr vr) (fun iv _ => (A - intOf iv).toNat)
        case atStart => exact ⟨0, rfl, by omega, hO0, hB0⟩
        case round =>
          clear hO0 hB0 hmk hy1 hB
          obtain ⟨t, rfl, ht, hO, hB2⟩ := hrel
          by_cases hlt2 : t < A
          · have hdt : decide ((t : Int) < (A : Int)) = true := by simp; omega
            have htt : (t : Int) < (A : Int) := by omega
            have htw : IntKind.i64.wrap ((t : Int) + 1) = (t : Int) + 1 := IntWalk.i64_in _ (by omega)
            go_wp2
            go_loopw [12, 13] (fun cv jv ur => ∃ j c : Nat, jv = .int .i64 (j : Int) ∧ cv = .int .i64 (c : Int) ∧ j ≤ n ∧ Hid (wnD k A L t j = c) ∧ ur = wr) (fun _ jv _ => (n - intOf jv).toNat)
            case atStart => exact ⟨0, 0, rfl, rfl, by omega, rfl, rfl⟩
            case round =>
              obtain ⟨j, c, rfl, rfl, hj, HC, e2⟩ := hrel
              subst e2
              by_cases hlj : j < n
              · have hdj : decide ((j : Int) < (n : Int)) = true := by simp; omega
                have hjj : (j : Int) < (n : Int) := by omega
                have hjw : IntKind.i64.wrap ((j : Int) + 1) = (j : Int) + 1 := IntWalk.i64_in _ (by omega)
                have htj : IntKind.i64.wrap ((t : Int) + (j : Int)) = (t : Int) + (j : Int) := IntWalk.i64_in _ (by omega)
                obtain ⟨s, Hs⟩ : ∃ s, Hid ((t + j) % A = s) := ⟨_, rfl⟩
                have hsA : s < A := by rw [← Hs.out]; exact Nat.mod_lt _ (by omega)
                have es : ((t : Int) + (j : Int)).tmod (A : Int) = (s : Int) := by rw [← Hs.out]; rfl
                have hsw : IntKind.i64.wrap (s : Int) = (s : Int) := IntWalk.i64_in _ (by omega)
                have hA0 : ¬ A = 0 := by omega
                have hsi : (s : Int) < (A : Int) := by omega
                have hs0 : (0 : Int) ≤ (s : Int) := by omega
                have cx := (HY.out _ hB2).cellAt hsA
                have hxk := HGD.out s
                have hst := HWS.out t j
                have hbd := HWL.out t (j + 1)
                have hpp := HPW.out (j + 1) (by omega)
                rw [Hs.out, HC.out] at hst
                obtain ⟨x, Hx⟩ : ∃ x, Hid (L.getD s 0 = x) := ⟨_, rfl⟩
                rw [Hx.out] at cx hxk hst
                obtain ⟨q, Hq⟩ : ∃ q, Hid (c * k = q) := ⟨_, rfl⟩
                have eq1 : (c : Int) * (k : Int) = (q : Int) := by rw [← Hq.out]; simp
                rw [Hq.out] at hst
                rw [hst] at hbd
                have hqx : q + x ≤ 4096 := by omega
                have HC2 : Hid (wnD k A L t (j + 1) = q + x) := hst
                have hqw : IntKind.i64.wrap (q : Int) = (q : Int) := IntWalk.i64_in _ (by omega)
                have hqxw : IntKind.i64.wrap ((q : Int) + (x : Int)) = (q : Int) + (x : Int) := IntWalk.i64_in _ (by omega)
                have dx1 : decide ((x : Int) < 0) = false := by simp
                have dx2 : decide ((k : Int) ≤ (x : Int)) = false := by simp; omega
                clear hst hbd hpp hO
                go_wp2
                go_roundw
                case rel => exact ⟨j + 1, q + x, by go_num, by go_num, by omega, HC2, trivial⟩
                case measure => simp [intOf]; omega
              · have hdj : decide ((j : Int) < (n : Int)) = false := by simp; omega
                obtain rfl : n = j := by omega
                have hcA : c < A := by rw [← HC.out]; exact HW3.out t
                have hsn := HSN.out t hlt2
                have hsd := HSD.out t
                rw [HC.out] at hsn hsd
                have cs := hO.cell c hcA
                rw [hsn] at cs
                have hfz := hO.frozen c
                have hO2 := hO.set c true
                rw [hsd] at hO2
                have hB3 := hB2.setCell (p := ⟨_, c, none⟩) (Nat.le_refl _) (.bool true)
                have hci : (c : Int) < (A : Int) := by omega
                have hc0 : (0 : Int) ≤ (c : Int) := by omega
                clear hsn hsd hO
                go_wp2
                go_roundw
                case rel => exact ⟨t + 1, by go_num, by omega, hO2, hB3⟩
                case measure => simp [intOf]; omega
          · have hdt : decide ((t : Int) < (A : Int)) = false := by simp; omega
            have hB3 := HBB.out _ hB2
            clear hO
            go_wp2
            go_loopw [15, 16] (fun sv dv ur => ∃ (D : Nat) (s : Int), dv = .int .i64 (D : Int) ∧ sv = .int .i64 s ∧ 1 ≤ D ∧ D ≤ n + 1 ∧ Hid (dsZ k n (D - 1) = s) ∧ Below w.heap.size w ur) (fun _ dv _ => (n + 1 - intOf dv).toNat)
            case atStart => exact ⟨1, 0, rfl, rfl, by omega, by omega, rfl, hB3⟩
            case round =>
              clear hB3 hB2
              obtain ⟨D, s, rfl, rfl, hD1, hDn, HS, hB3⟩ := hrel
              have hsm := HDS.out (D - 1) (by omega)
              rw [HS.out] at hsm
              by_cases hle : D ≤ n
              · have hd : decide ((D : Int) ≤ (n : Int)) = true := by simp; omega
                have hD0 : ¬ D = 0 := by omega
                have hDw : IntKind.i64.wrap ((D : Int) + 1) = (D : Int) + 1 := IntWalk.i64_in _ (by omega)
                obtain ⟨a, Ha⟩ : ∃ a, Hid (n % D = a) := ⟨_, rfl⟩
                have ea : (n : Int).tmod (D : Int) = (a : Int) := by rw [← Ha.out]; rfl
                by_cases h0 : a = 0
                · have hae : ((a : Int) == 0) = true := by simp [h0]
                  have hds := dsZ_yes (k := k) hD1 (by rw [Ha.out]; exact h0 : n % D = 0)
                  rw [HS.out] at hds
                  have hpb := HPB.out D hD1 hle
                  have D7 := H7.out D hD1 hle
                  obtain ⟨p, Hp⟩ : ∃ p, Hid (prZ k D = p) := ⟨_, rfl⟩
                  rw [Hp.out] at hds hpb D7
                  have HQ7 : Hid (∀ W, Calls Try.prog 7 #[.int .i64 (k : Int), .int .i64 (D : Int)] W fun e w' => e = .returned (.tuple #[.int .i64 p, .int .i64 0]) ∧ Below W.heap.size W w') := D7
                  have hmp := mul_12 (D := D) (by omega) hpb.1 hpb.2
                  obtain ⟨m, Hm⟩ : ∃ m, Hid ((D : Int) * p = m) := ⟨_, rfl⟩
                  have em : (D : Int) * p = m := Hm.out
                  rw [em] at hds hmp
                  have HS2 : Hid (dsZ k n (D + 1 - 1) = s + m) := by show _ = _; rw [Nat.add_sub_cancel]; exact hds
                  have hmw : IntKind.i64.wrap m = m := IntWalk.i64_in _ (by omega)
                  have hsw : IntKind.i64.wrap (s + m) = s + m := IntWalk.i64_in _ (by omega)
                  clear h0 hds D7
                  go_wp2_with (first
                    | (go_at_call 7; refine (HQ7.out _).mono ?_; rintro e w7 ⟨rfl, b7⟩; have hB7 := hB3.trans (b7.mono hB3.size))
                    | go_in)
                  go_roundw
                  case rel => exact ⟨D + 1, s + m, by go_num, rfl, by omega, by omega, HS2, hB7⟩
                  case measure => simp [intOf]; omega
                · have hae : ((a : Int) == 0) = false := by simp; omega
                  have HS2 : Hid (dsZ k n (D + 1 - 1) = s) := by
                    show _ = _
                    rw [Nat.add_sub_cancel, dsZ_no hD1 (by rw [Ha.out]; exact h0)]; exact HS.out
                  clear h0
                  go_wp2
                  go_roundw
                  case rel => exact ⟨D + 1, s, by go_num, rfl, by omega, by omega, HS2, hB3⟩
                  case measure => simp [intOf]; omega
              · have hd : decide ((D : Int) ≤ (n : Int)) = false := by simp; omega
                have hsA : s = (A : Int) := by rw [← HS.out, show D - 1 = n by omega]; exact HDA.out
                have hse : (s == (A : Int)) = true := by simp [hsA]
                clear hsA
                go_wp2
                go_ret
                exact ⟨rfl, hB3⟩
  · obtain ⟨z, Hz⟩ : ∃ z, Hid (bfE kk nn = z) := ⟨_, rfl⟩
    rw [Hz.out] at H6 h0
    have hzb : ((z : Int) != 0) = true := by simp [h0]
    go_enter Try.func3, Try.ntmps3
    go_wp2_with (first
      | (go_at_call 5; refine D5.mono ?_; rintro e wa ⟨rfl, bb⟩; clear D5; replace hB := hB.trans (bb.mono hB.size); have D6 := H6.out wa)
      | (go_at_call 6; refine D6.mono ?_; rintro e wb ⟨⟨y1, rfl, hy1⟩, bb⟩; clear D6; replace hB := hB.trans (bb.mono hB.size); clear hy1)
      | go_in)
    go_ret
    exact ⟨rfl, hB⟩
end Go.Proofs.Ytcjkcgfohmhbcab
