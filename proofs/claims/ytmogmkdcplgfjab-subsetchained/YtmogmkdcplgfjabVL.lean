/- The law SubsetChained over the contracts. -/
import Derived.Test.YtmogmkdcplgfjabVK
namespace Go.Proofs.Ytmogmkdcplgfjab
open Go.RowKit

theorem andC {a b : Nat} (ha : a < 4096) (hb : b < 4096) : bits .and .i64 (a : Int) (b : Int) = ((a &&& b : Nat) : Int) := by
  have hx : a &&& b < 2 ^ 12 := Nat.and_lt_two_pow a (by omega)
  have h1 : (BitVec.ofInt (8 * 8) (a : Int)).toNat = a := by
    rw [BitVec.ofInt_natCast, BitVec.toNat_ofNat]; exact Nat.mod_eq_of_lt (by omega)
  have h2 : (BitVec.ofInt (8 * 8) (b : Int)).toNat = b := by
    rw [BitVec.ofInt_natCast, BitVec.toNat_ofNat]; exact Nat.mod_eq_of_lt (by omega)
  show IntKind.i64.wrap ((BitVec.ofInt (8 * 8) (a : Int) &&& BitVec.ofInt (8 * 8) (b : Int)).toNat : Int) = _
  rw [BitVec.toNat_and, h1, h2, IntKind.wrap_i64]
  omega
/-- Rows, as they are asked for. -/
theorem rw_row {w : World} {v : Value} {C : List (List Nat)} (h : Rw w v (toZ C)) {i : Nat} (hi : i < C.length) : ∃ b off ua uc, (∃ c, v = .slice (some ⟨b, off, none⟩) C.length c) ∧ w.cell? ⟨b, off + i, none⟩ = some (.slice ua (C.getD i []).length uc) ∧ ∀ j, j < (C.getD i []).length → ∃ b o, ua = some ⟨b, o, none⟩ ∧ w.cell? ⟨b, o + j, none⟩ = some (.int .i64 (((C.getD i []).getD j 0 : Nat) : Int)) := by
  obtain ⟨a, cap, rfl, -, hr⟩ := h
  have e : (toZ C)[i]? = some ((C.getD i []).map Int.ofNat) := by
    rw [toZ_map, List.getElem?_map, List.getD_eq_getElem?_getD, List.getElem?_eq_getElem hi]; rfl
  obtain ⟨b, off, u, rfl, hc, ⟨ua, uc, rfl, hS⟩⟩ := hr i _ e
  rw [List.length_map] at hc hS
  refine ⟨b, off, ua, uc, ⟨cap, by rw [toZ_map, List.length_map]⟩, hc, fun j hj => ?_⟩
  obtain ⟨b', o', e', hc'⟩ := hS j hj
  exact ⟨b', o', e', by rw [hc', nat_at]⟩
set_option maxRecDepth 100000 in
set_option maxHeartbeats 16000000 in
theorem Chained_law (FC : FCascade) (FR : FRank) (FH : FChains) (n : Int) (w : World) :
    Calls Try.prog 4 #[.int .i64 n] w fun e w' => e = .returned (.bool true) ∧ Below w.heap.size w w' := by
  have H5 : Hid (∀ W, Calls Try.prog 5 #[] W fun e w' => e = .returned (.bool true) ∧ Below W.heap.size W w') := fun W => subsetFact_any FC FR W
  have H9 : Hid (∀ W, Calls Try.prog 9 #[.int .i64 n] W fun e w' => (∃ y, e = .returned (.tuple #[y, .int .i64 (chE n : Int)]) ∧ Rw w' y (toZ (chR n))) ∧ Below W.heap.size W w') := fun W => FH n W
  have hB : Below w.heap.size w w := Below.refl _ _
  rcases chE_cases n with ⟨m, rfl, hm, e1, e2⟩ | ⟨e1, e2⟩
  · rw [e1, e2] at H9
    obtain ⟨f1, f2, f3, f4⟩ := chain_facts hm
    obtain ⟨C, HC⟩ : ∃ C, Hid (cnR m (2 ^ m) = C) := ⟨_, rfl⟩
    rw [HC.out] at H9 f1 f2 f3 f4
    obtain ⟨A, HA2⟩ : ∃ A, Hid ((2 ^ m : Nat) = A) := ⟨_, rfl⟩
    have eA : (1 : Int) * 2 ^ m = (A : Int) := by rw [Int.one_mul, ← HA2.out]; simp
    have hA12 : A ≤ 1024 := by rw [← HA2.out]; exact (Nat.pow_le_pow_right (by decide) hm : 2 ^ m ≤ 2 ^ 10)
    have hAw : IntKind.i64.wrap (A : Int) = (A : Int) := IntWalk.i64_in _ (by omega)
    rw [HA2.out] at f2 f4
    have hmk : ∀ w : World, (Instr.makeSlice 33 (.int .i64 (A : Int)) (.int .i64 (A : Int))).run Try.prog w = .ok (.slice (some ⟨w.heap.size, 0, none⟩) A A) (w.alloc (.cells (madeCells #[.bool false] A) 4)) := fun w => run_makeB A (by omega) w
    have HF4 : Hid (∀ i, i < C.length → 0 < (C.getD i []).length ∧ thF 12 ((C.getD i []).getD 0 0) + thF 12 ((C.getD i []).getD ((C.getD i []).length - 1) 0) = m ∧ ∀ j, j < (C.getD i []).length → (C.getD i []).getD j 0 < A ∧ (0 < j → (C.getD i []).getD j 0 &&& (C.getD i []).getD (j - 1) 0 = (C.getD i []).getD (j - 1) 0 ∧ thF 12 ((C.getD i []).getD j 0) = thF 12 ((C.getD i []).getD (j - 1) 0) + 1)) := f4
    have HST : Hid (∀ i j, j < (C.getD i []).length → updV (mmC C i j) ((C.getD i []).getD j 0) true = mmC C i (j + 1)) := fun i j h => mm_set h
    have HNW : Hid (∀ i j, i < C.length → j < (C.getD i []).length → mmC C i j ((C.getD i []).getD j 0) = false) := fun i j h1 h2 => mm_new f3 h1 h2
    have HPM : Hid (∀ i j, j < (C.getD i []).length → (pre C i (j + 1)).length = (pre C i j).length + 1) := fun i j h => by rw [pre_more h, List.length_append]; rfl
    have HPN : Hid (∀ i, i < C.length → (pre C i (C.getD i []).length).length = (pre C (i + 1) 0).length ∧ mmC C i (C.getD i []).length = mmC C (i + 1) 0) := fun i h => ⟨by rw [pre_next h], by unfold mmC; rw [pre_next h]⟩
    have HPA : Hid ((pre C C.length 0).length = A) := by show _ = _; rw [pre_all]; exact f2
    have HPL : Hid (∀ i j, i < C.length → j < (C.getD i []).length → (pre C i (j + 1)).length ≤ 1024) := fun i j h1 h2 => by
      obtain ⟨r, hr⟩ := pre_part (j := j) h1
      have := congrArg List.length hr
      rw [f2, List.length_append] at this
      omega
    have hM0 : mmC C 0 0 = fun _ => false := by
      funext s
      unfold mmC pre
      simp
    have H7 : Hid (∀ (s : Nat) W, s < A → Calls Try.prog 7 #[.int .i64 (s : Int)] W fun e w' => e = .returned (.int .i64 ((thF 12 s : Nat) : Int)) ∧ w' = W) := fun s W h => Things_any s W (by omega)
    have H8 : Hid (∀ W, Calls Try.prog 8 #[.int .i64 (m : Int), .int .i64 ((m / 2 : Nat) : Int)] W fun e w' => e = .returned (.int .i64 (C.length : Int)) ∧ Below W.heap.size W w') := fun W => by
      have := Ways_any m ((m / 2 : Nat) : Int) W (by omega)
      rw [wyN_chs, ← f1] at this
      exact this
    obtain ⟨d, Hd⟩ : ∃ d, Hid (m / 2 = d) := ⟨_, rfl⟩
    have ed : (m : Int).tdiv 2 = (d : Int) := by rw [← Hd.out]; rfl
    have hdm : d ≤ m := by rw [← Hd.out]; exact Nat.div_le_self _ _
    have hdw : IntKind.i64.wrap (d : Int) = (d : Int) := IntWalk.i64_in _ (by omega)
    rw [Hd.out] at H8
    have HMD : Hid (∀ (W : World) g, OwV 4 Value.bool W g A (fun _ => false) → OwV 4 Value.bool W g A (mmC C 0 0)) := fun W g h => by rw [hM0]; exact h
    have HP0 : Hid ((pre C 0 0).length = 0) := by show _ = _; unfold pre; simp
    have hcl : C.length ≤ 1024 := by rw [← HC.out, ← HA2.out] at *; exact Nat.le_trans (cnR_len m _) (Nat.pow_le_pow_right (by decide) hm : 2 ^ m ≤ 2 ^ 10)
    obtain ⟨c, Hc⟩ : ∃ c, Hid (C.length = c) := ⟨_, rfl⟩
    have HRR : Hid (∀ (W : World) v, Rw W v (toZ C) → ∀ i, i < c → ∃ b off ua uc, (∃ cc, v = .slice (some ⟨b, off, none⟩) c cc) ∧ W.cell? ⟨b, off + i, none⟩ = some (.slice ua (C.getD i []).length uc) ∧ ∀ j, j < (C.getD i []).length → ∃ b o, ua = some ⟨b, o, none⟩ ∧ W.cell? ⟨b, o + j, none⟩ = some (.int .i64 (((C.getD i []).getD j 0 : Nat) : Int))) := fun W v h i hi => by
      rw [← Hc.out] at hi ⊢
      exact rw_row h hi
    have HFM : Hid (∀ (W : World) v, Rw W v (toZ C) → ∃ a cc, v = .slice a c cc) := fun W v h => by
      obtain ⟨a, cap, rfl, -⟩ := h
      exact ⟨a, cap, by rw [toZ_map, List.length_map, Hc.out]⟩
    rw [Hc.out] at HF4 HNW HPN HPA HPL H8 hcl
    clear f1 f2 f3 f4 e1 e2 hM0
    go_enter Try.func4, Try.ntmps4
    go_wp2_with (first
      | (go_at_call 5; refine (H5.out _).mono ?_; rintro e wa ⟨rfl, bb⟩; replace hB := hB.trans (bb.mono hB.size))
      | (go_at_call 9; refine (H9.out _).mono ?_; rintro e w1 ⟨⟨y, rfl, hy⟩, bb⟩; replace hB := hB.trans (bb.mono hB.size); obtain ⟨ya, yc, rfl⟩ := HFM.out _ _ hy; have hO0 : OwV 4 Value.bool (w1.alloc (.cells (madeCells #[.bool false] A) 4)) w1.heap.size A (mmC C 0 0) := HMD.out _ _ (OwV.made A w1 _ _ (by intro j; rfl)); have hB0 := balloc w1 (.cells (madeCells #[.bool false] A) 4))
      | go_in)
    obtain ⟨g, Hg⟩ : ∃ g, Hid (w1.heap.size = g) := ⟨_, rfl⟩
    have HY : Hid (∀ W, Below g w1 W → Rw W (.slice ya c yc) (toZ C)) := fun W b => hy.below (by rw [Hg.out]; exact b)
    have HBW : Hid (∀ W, Below g w1 W → Below w.heap.size w W) := fun W b => Below.next hB (by rw [Hg.out]; exact b)
    rw [Hg.out] at hO0 hB0 ⊢
    clear hy hB hmk
    go_loopw [7, 8] (fun mv iv wr => ∃ (i q : Nat), iv = .int .i64 (i : Int) ∧ mv = .int .i64 (q : Int) ∧ i ≤ c ∧ Hid ((pre C i 0).length = q) ∧ OwV 4 Value.bool wr g A (mmC C i 0) ∧ Below g w1 wr) (fun _ iv _ => (c - intOf iv).toNat)
    case atStart => exact ⟨0, 0, rfl, rfl, by omega, HP0.out, hO0, hB0⟩
    case round =>
      clear hO0 hB0
      obtain ⟨i, q, rfl, rfl, hi, HQ, hO, hB⟩ := hrel
      by_cases hlt : i < c
      · have hdi : decide ((i : Int) < (c : Int)) = true := by simp; omega
        have hii : (i : Int) < (c : Int) := by omega
        obtain ⟨h0, hab, hrow⟩ := HF4.out i hlt
        have HSTi := HST.out i
        have HNWi := fun j h => HNW.out i j hlt h
        have HPMi := HPM.out i
        have HPLi := fun j h => HPL.out i j hlt h
        have HPNi := HPN.out i hlt
        obtain ⟨b0, off0, ua, uc, ⟨cc, ev⟩, hcu, -⟩ := HRR.out wr _ (HY.out wr hB) i hlt
        cases ev
        have HRI : Hid (∀ W, Below g w1 W → W.cell? ⟨b0, off0 + i, none⟩ = some (.slice ua (C.getD i []).length uc) ∧ ∀ j, j < (C.getD i []).length → ∃ b o, ua = some ⟨b, o, none⟩ ∧ W.cell? ⟨b, o + j, none⟩ = some (.int .i64 (((C.getD i []).getD j 0 : Nat) : Int))) := fun W bW => by
          obtain ⟨b', off', ua', uc', ⟨cc', ev⟩, h1, h2⟩ := HRR.out W _ (HY.out W bW) i hlt
          cases ev
          have h1w : wr.cell? ⟨b0, off0 + i, none⟩ = some (.slice ua' (C.getD i []).length uc') := by
            have hY1 := HY.out w1 (Below.refl _ _)
            obtain ⟨b3, off3, ua3, uc3, ⟨cc3, ev3⟩, h3, -⟩ := HRR.out w1 _ hY1 i hlt
            cases ev3
            have hbl : b0 < g := by
              have := World.block_lt_of_cell? _ _ h3
              rw [Hg.out] at this; exact this
            have e1 : W.cell? ⟨b0, off0 + i, none⟩ = w1.cell? ⟨b0, off0 + i, none⟩ := bW.cell hbl
            have e2 : wr.cell? ⟨b0, off0 + i, none⟩ = w1.cell? ⟨b0, off0 + i, none⟩ := hB.cell hbl
            rw [e2, ← e1]; exact h1
          rw [hcu] at h1w
          cases h1w
          exact ⟨h1, h2⟩
        obtain ⟨R, HR⟩ : ∃ R, Hid (C.getD i [] = R) := ⟨_, rfl⟩
        rw [HR.out] at h0 hab hrow HSTi HNWi HPMi HPLi HPNi hcu HRI
        obtain ⟨len, Hlen⟩ : ∃ len, Hid (R.length = len) := ⟨_, rfl⟩
        rw [Hlen.out] at h0 hab hrow HSTi HNWi HPMi HPLi HPNi hcu HRI
        have HRW : Hid (∀ j, j < len → R.getD j 0 < A ∧ (0 < j → R.getD j 0 &&& R.getD (j - 1) 0 = R.getD (j - 1) 0 ∧ thF 12 (R.getD j 0) = thF 12 (R.getD (j - 1) 0) + 1)) := hrow
        have HSTj : Hid (∀ j, j < len → updV (mmC C i j) (R.getD j 0) true = mmC C i (j + 1)) := HSTi
        have HNWj : Hid (∀ j, j < len → mmC C i j (R.getD j 0) = false) := HNWi
        have HPMj : Hid (∀ j, j < len → (pre C i (j + 1)).length = (pre C i j).length + 1) := HPMi
        have HPLj : Hid (∀ j, j < len → (pre C i (j + 1)).length ≤ 1024) := HPLi
        have HPNj : Hid ((pre C i len).length = (pre C (i + 1) 0).length ∧ mmC C i len = mmC C (i + 1) 0) := HPNi
        have HAB : Hid (thF 12 (R.getD 0 0) + thF 12 (R.getD (len - 1) 0) = m) := hab
        have hl0 : ((len : Int) == 0) = false := by simp; omega
        have hlb : len ≤ 1024 := by
          have h5 := HPLj.out (len - 1) (by omega)
          have : ∀ j, j ≤ len → j ≤ (pre C i j).length := fun j => by
            induction j with
            | zero => intro _; exact Nat.zero_le _
            | succ j ih =>
              intro hj
              have := ih (by omega)
              rw [HPMj.out j (by omega)]
              omega
          have := this len (Nat.le_refl _)
          rw [show len - 1 + 1 = len by omega] at h5
          omega
        clear hrow HSTi HNWi HPMi HPLi HPNi hab
        go_wp2
        go_loopw [7, 9] (fun mv jv wr => ∃ (j q : Nat), jv = .int .i64 (j : Int) ∧ mv = .int .i64 (q : Int) ∧ j ≤ len ∧ Hid ((pre C i j).length = q) ∧ OwV 4 Value.bool wr g A (mmC C i j) ∧ Below g w1 wr) (fun _ jv _ => (len - intOf jv).toNat)
        case atStart => exact ⟨0, q, rfl, rfl, by omega, HQ.out, hO, hB⟩
        case round =>
          clear hO hB hcu
          obtain ⟨j, q, rfl, rfl, hj, HQ, hO, hB⟩ := hrel
          obtain ⟨hcu, hce⟩ := HRI.out wr hB
          by_cases hjl : j < len
          · have hdj : decide ((j : Int) < (len : Int)) = true := by simp; omega
            have hjj : (j : Int) < (len : Int) := by omega
            obtain ⟨b1, o1, rfl, c1⟩ := hce j hjl
            obtain ⟨hsA, hpr⟩ := HRW.out j hjl
            have hst := HSTj.out j hjl
            have hnw := HNWj.out j hjl
            have hpm := HPMj.out j hjl
            have hpl := HPLj.out j hjl
            rw [hpm, HQ.out] at hpl
            rw [HQ.out] at hpm
            obtain ⟨x, hx⟩ : ∃ x, Hid (R.getD j 0 = x) := ⟨_, rfl⟩
            rw [hx.out] at c1 hsA hst hnw hpr
            have HQ2 : Hid ((pre C i (j + 1)).length = q + 1) := hpm
            have hcs := hO.cell x hsA
            rw [hnw] at hcs
            have hfs := hO.frozen x
            have HO2 := hO.set x true
            rw [hst] at HO2
            have HB2 : Below g w1 (wr.setCell ⟨g, x, none⟩ (.bool true)) := hB.setCell (Nat.le_refl _) _
            have hdx : decide ((x : Int) < 0) = false := by simp
            have hdxA : decide (A ≤ x) = false := by simp; omega
            have hxA : (x : Int) < (A : Int) := by omega
            have hqw : IntKind.i64.wrap ((q : Int) + 1) = (q : Int) + 1 := IntWalk.i64_in _ (by omega)
            rcases Nat.lt_or_ge 0 j with hj0 | hj0
            · obtain ⟨p, Hp⟩ : ∃ p, Hid (j = p + 1) := ⟨j - 1, by show _ = _; omega⟩
              have hpj : p < len := by have := Hp.out; omega
              have hip : (j : Int) - 1 = (p : Int) := by have := Hp.out; omega
              have hpw : IntKind.i64.wrap (p : Int) = (p : Int) := IntWalk.i64_in _ (by omega)
              have hpl2 : (p : Int) < (len : Int) := by omega
              obtain ⟨h6, h7⟩ := hpr hj0
              rw [show j - 1 = p by have := Hp.out; omega] at h6 h7
              obtain ⟨hcu2, hce2⟩ := HRI.out _ HB2
              obtain ⟨b2, o2, e2, c2⟩ := hce2 p hpj
              cases e2
              have hyA := (HRW.out p hpj).1
              obtain ⟨y, hy⟩ : ∃ y, Hid (R.getD p 0 = y) := ⟨_, rfl⟩
              rw [hy.out] at c2 h6 h7 hyA
              have C1 := fun W => H7.out x W hsA
              have C2 := fun W => H7.out y W hyA
              have ea : bits .and .i64 (x : Int) (y : Int) = (y : Int) := by rw [andC (by omega) (by omega), h6]
              obtain ⟨tx, htx⟩ : ∃ tx, Hid (thF 12 x = tx) := ⟨_, rfl⟩
              obtain ⟨ty, hty⟩ : ∃ ty, Hid (thF 12 y = ty) := ⟨_, rfl⟩
              rw [htx.out] at C1 h7
              rw [hty.out] at C2 h7
              subst h7
              have htyb : ty ≤ 24 := by
                have : ∀ f s, thF f s ≤ f := fun f => by
                  induction f with
                  | zero => intro s; exact Nat.le_refl _
                  | succ f ih =>
                    intro s
                    show s % 2 + thF f (s / 2) ≤ f + 1
                    have := ih (s / 2)
                    omega
                have := this 12 y
                rw [hty.out] at this
                omega
              have hyy : ((y : Int) != (y : Int)) = false := by simp
              have htt : ((ty : Int) + 1 != (ty : Int) + 1) = false := by simp
              have htw : IntKind.i64.wrap ((ty : Int) + 1) = (ty : Int) + 1 := IntWalk.i64_in _ (by omega)
              have hdj0 : decide (0 < j) = true := by simpa using hj0
              have hxy : x = y ∨ x ≠ y := Classical.em _
              clear hst hnw hpm hpr h6 hO hB hce hce2 hxy
              go_wp2_with (first
                | (go_at_call_of 7 (Value.int .i64 (x : Int)); refine (C1 _).mono ?_; rintro e w5 ⟨rfl, hw⟩; subst w5)
                | (go_at_call_of 7 (Value.int .i64 (y : Int)); refine (C2 _).mono ?_; rintro e w5 ⟨rfl, hw⟩; subst w5)
                | go_in)
              go_roundw
              case rel => exact ⟨j + 1, q + 1, by go_num, by go_num, by omega, HQ2, HO2, HB2⟩
              case measure => simp [intOf]; omega
            · have hdj0 : decide (0 < j) = false := by simp; omega
              clear hst hnw hpm hpr hO hB hce
              go_wp2
              go_roundw
              case rel => exact ⟨j + 1, q + 1, by go_num, by go_num, by omega, HQ2, HO2, HB2⟩
              case measure => simp [intOf]; omega
          · have hdj : decide ((j : Int) < (len : Int)) = false := by simp; omega
            obtain rfl : j = len := by omega
            obtain ⟨e5, e6⟩ := HPNj.out
            have HQ3 : Hid ((pre C (i + 1) 0).length = q) := by show _ = _; rw [← e5]; exact HQ.out
            have hO3 := hO
            rw [e6] at hO3
            obtain ⟨b1, o1, rfl, c1⟩ := hce 0 h0
            obtain ⟨b2, o2, ee, c2⟩ := hce (j - 1) (by omega)
            cases ee
            have hfA := (HRW.out 0 h0).1
            have hlA := (HRW.out (j - 1) (by omega)).1
            have hab := HAB.out
            obtain ⟨x, hx⟩ : ∃ x, Hid (R.getD 0 0 = x) := ⟨_, rfl⟩
            obtain ⟨y, hy⟩ : ∃ y, Hid (R.getD (j - 1) 0 = y) := ⟨_, rfl⟩
            rw [hx.out] at c1 hfA hab
            rw [hy.out] at c2 hlA hab
            have C1 := fun W => H7.out x W hfA
            have C2 := fun W => H7.out y W hlA
            obtain ⟨tx, htx⟩ : ∃ tx, Hid (thF 12 x = tx) := ⟨_, rfl⟩
            obtain ⟨ty, hty⟩ : ∃ ty, Hid (thF 12 y = ty) := ⟨_, rfl⟩
            rw [htx.out] at C1 hab
            rw [hty.out] at C2 hab
            have hsum : (tx : Int) + (ty : Int) = (m : Int) := by omega
            have hmw : IntKind.i64.wrap (m : Int) = (m : Int) := IntWalk.i64_in _ (by omega)
            have hmm : ((m : Int) != (m : Int)) = false := by simp
            obtain ⟨p, Hp⟩ : ∃ p, Hid (j - 1 = p) := ⟨_, rfl⟩
            have hjp : (j : Int) - 1 = (p : Int) := by have := Hp.out; omega
            have hpl2 : (p : Int) < (j : Int) := by omega
            have hpw : IntKind.i64.wrap (p : Int) = (p : Int) := IntWalk.i64_in _ (by omega)
            have h0i : (0 : Int) < (j : Int) := by omega
            rw [Hp.out] at c2
            have c1 : wr.cell? ⟨b1, o1, none⟩ = some (.int .i64 (x : Int)) := c1
            have hB3 := HBW.out _ hB
            clear hab e5 e6 hO hce
            go_wp2_with (first
              | (go_at_call 7; refine (C1 _).mono ?_; rintro e w5 ⟨rfl, hw⟩; subst w5)
              | go_in)
            go_quiet (first | (go_at_call 7; refine Calls.quiet_of_same (C2 _)))
            go_wp2
            go_roundw
            case rel => exact ⟨i + 1, q, by go_num, rfl, by omega, HQ3, hO3, bdrewN hB _⟩
            case measure => simp [intOf]; omega
      · have hdi : decide ((i : Int) < (c : Int)) = false := by simp; omega
        obtain rfl : i = c := by omega
        have hqA : q = A := by rw [← HQ.out]; exact HPA.out
        subst hqA
        have hqq : ((q : Int) == (q : Int)) = true := by simp
        have hii2 : ((i : Int) == (i : Int)) = true := by simp
        have hB3 := HBW.out _ hB
        go_wp2_with (first
          | (go_at_call 8; refine (H8.out _).mono ?_; rintro e wa ⟨rfl, bb⟩; replace hB3 := hB3.trans (bb.mono hB3.size))
          | go_in)
        go_ret
        exact ⟨rfl, hB3⟩
  · rw [e1, e2] at H9
    clear e1 e2
    go_enter Try.func4, Try.ntmps4
    go_wp2_with (first
      | (go_at_call 5; refine (H5.out _).mono ?_; rintro e wa ⟨rfl, bb⟩; replace hB := hB.trans (bb.mono hB.size))
      | (go_at_call 9; refine (H9.out _).mono ?_; rintro e w1 ⟨⟨y, rfl, hy⟩, bb⟩; replace hB := hB.trans (bb.mono hB.size))
      | go_in)
    go_ret
    exact ⟨rfl, hB⟩
end Go.Proofs.Ytmogmkdcplgfjab
