/- All chains, and the face Chains. -/
import Derived.Test.YtmogmkdcplgfjabY15
namespace Go.Proofs.Ytmogmkdcplgfjab
open Go.RowKit

theorem rw_nil (w : World) : Rw w (.slice none 0 0) (toZ []) := ⟨none, 0, rfl, Nat.le_refl _, fun i l h => by simp [toZ] at h⟩
set_option maxRecDepth 100000 in
set_option maxHeartbeats 16000000 in
theorem chains_walk (n A : Nat) (w : World) (hn : n ≤ 10) (HA2 : Hid (2 ^ n = A)) :
    Calls Try.prog 15 #[.int .i64 (n : Int)] w fun e w' => (∃ y, e = .returned y ∧ OR w' w.heap.size y (cnR n A)) ∧ Below w.heap.size w w' := by
  obtain ⟨i3, ki3, kz0, kz1, kz2⟩ := info3
  obtain ⟨i36, ji3, jz0, jz1, jz2⟩ := info36
  have eA : (1 : Int) * 2 ^ n = (A : Int) := by rw [Int.one_mul, ← HA2.out]; simp
  have hA12 : A ≤ 1024 := by rw [← HA2.out]; exact (Nat.pow_le_pow_right (by decide) hn : 2 ^ n ≤ 2 ^ 10)
  have hAw : IntKind.i64.wrap (A : Int) = (A : Int) := IntWalk.i64_in _ (by omega)
  have HLE : Hid (∀ s, (cnR n s).length ≤ s) := cnR_len n
  have HYE : Hid (∀ s, s < A → (alS s n).1 = 0 → cnR n (s + 1) = cnR n s ++ [s :: ptL s (alS s n).2]) := fun s hs h => cn_yes hn (by rw [HA2.out]; exact hs) h
  have HNO : Hid (∀ s i, i < n → s.testBit i = true → (alS s i).2 = [] → cnR n (s + 1) = cnR n s) := fun s i hi hb he => cn_no (al_stop hi hb he)
  have HLT : Hid (∀ s, s < A → (alS s n).1 = 0 → ∀ a ∈ (alS s n).2, a < n) := fun s hs h => (pt_at hn (by rw [HA2.out]; exact hs) h).2
  have HOP : Hid (∀ s i, s.testBit i = false → (alS s (i + 1)).1 = (alS s i).1 ∧ (alS s (i + 1)).2 = (alS s i).2 ++ [i]) := fun s i h => by
    constructor <;> (conv => lhs; unfold alS) <;> rw [if_pos h]
  have HPO : Hid (∀ s i, s.testBit i = true → (alS s i).2 ≠ [] → (alS s (i + 1)).1 = (alS s i).1 ∧ (alS s (i + 1)).2 = (alS s i).2.dropLast) := fun s i h h2 => by
    constructor <;> (conv => lhs; unfold alS) <;> rw [if_neg (by rw [h]; decide), if_neg h2]
  have HAL : Hid (∀ s i, (alS s i).2.length ≤ i) := fun s i => (alS_len s i).1
  have HBT : Hid (∀ s : Nat, s < 4096 → ∀ i : Nat, bits .and .i64 ((s : Int) / 2 ^ i) 1 = (((s / 2 ^ i) % 2 : Nat) : Int) ∧ s.testBit i = decide (s / 2 ^ i % 2 = 1)) := fun s hs i => ⟨bit_and hs, Nat.testBit_eq_decide_div_mod_eq⟩
  obtain ⟨g, Hg⟩ : ∃ g, Hid (w.heap.size = g) := ⟨_, rfl⟩
  rw [Hg.out]
  have hB0 : Below g w w := Below.refl _ _
  have hO0 : OR w g (.slice none 0 0) (cnR n 0) := OR.nil _ _
  go_enter Try.func15, Try.ntmps15
  go_wp2
  refine wp_scope_straight ?_
  go_wp2
  refine wp_label ?_
  go_wp2
  go_loopw [3, 9] (fun ov sv wr => ∃ (s k : Nat) (oa : Option Addr) (oc : Nat), sv = .int .i64 (s : Int) ∧ ov = .slice oa k oc ∧ Hid ((cnR n s).length = k) ∧ s ≤ A ∧ OR wr g (.slice oa k oc) (cnR n s) ∧ Below g w wr) (fun _ sv _ => (A - intOf sv).toNat)
  case atStart => exact ⟨0, 0, none, 0, rfl, rfl, rfl, by omega, hO0, hB0⟩
  case round =>
    clear hO0 hB0
    obtain ⟨s, k, oa, oc, rfl, rfl, HK, hs, hO, hB⟩ := hrel
    by_cases hlt : s < A
    · have hds : decide (s < A) = true := by simpa using hlt
      have hds2 : decide ((s : Int) < (A : Int)) = true := by simp; omega
      have HBs : Hid (∀ i, bits .and .i64 ((s : Int) / 2 ^ i) 1 = (((s / 2 ^ i) % 2 : Nat) : Int) ∧ s.testBit i = decide (s / 2 ^ i % 2 = 1)) := HBT.out s (by omega)
      obtain ⟨G, HG⟩ : ∃ G, Hid (wr.heap.size = G) := ⟨_, rfl⟩
      have hgG : g ≤ G := by have := hB.size; have := HG.out; have := Hg.out; omega
      have HOA : Hid (∀ W, Below G wr W → OR W g (.slice oa k oc) (cnR n s)) := fun W b => hO.below (by rw [HG.out]; exact b)
      have HBA : Hid (∀ W, Below G wr W → Below g w W) := fun W b => hB.trans (b.mono hgG)
      have hks : k ≤ 1024 := by have := HK.out; have := HLE.out s; omega
      have hcn := World.ownsRow_nil wr G 3 1
      have hbC : Below G wr wr := Below.refl _ _
      clear hO hB
      go_wp2
      go_loopw [5, 13] (fun pv iv wq => ∃ (i : Nat) (P : List Nat) (pa : Option Addr) (pc : Nat), iv = .int .i64 (i : Int) ∧ pv = .slice pa P.length pc ∧ i ≤ n ∧ Hid ((alS s i).1 = 0) ∧ Hid ((alS s i).2 = P) ∧ wq.ownsRow G 3 1 (.slice pa P.length pc) P.length (nz P) ∧ Below G wr wq) (fun _ iv _ => (n - intOf iv).toNat)
      case atStart => exact ⟨0, [], none, 0, rfl, rfl, by omega, rfl, rfl, hcn, hbC⟩
      case round =>
        clear hcn hbC
        obtain ⟨i, P, pa, pc, rfl, rfl, hi, HZ0, HP, hown, hB⟩ := hrel
        have hPi : P.length ≤ i := by have := HAL.out s i; rw [HP.out] at this; exact this
        obtain ⟨q, hq⟩ : ∃ q, Hid (P.length = q) := ⟨_, rfl⟩
        have HGs : Hid (G ≤ wr.heap.size) := by have := hB.size; have := HG.out; show _ ≤ _; omega
        by_cases hlti : i < n
        · have hdi : decide ((i : Int) < (n : Int)) = true := by simp; omega
          have hii : (i : Int) < (n : Int) := by omega
          obtain ⟨hba, htb⟩ := HBs.out i
          obtain ⟨r, hr⟩ : ∃ r, Hid (s / 2 ^ i % 2 = r) := ⟨_, rfl⟩
          rw [hr.out] at hba htb
          have hr2 : r = 0 ∨ r = 1 := by have := hr.out; have := Nat.mod_lt (s / 2 ^ i) (show 0 < 2 by decide); omega
          by_cases h0 : r = 0
          · have her : ((r : Int) == 0) = true := by simp; omega
            have hst := HOP.out s i (by rw [htb]; simp; omega)
            rw [HZ0.out, HP.out] at hst
            have HC2 : Hid ((alS s (i + 1)).1 = 0) := hst.1
            have HP2 : Hid ((alS s (i + 1)).2 = P ++ [i]) := hst.2
            have hpl : (P ++ [i]).length = q + 1 := by rw [List.length_append, hq.out]; rfl
            rw [hq.out] at hown hPi ⊢
            clear hst htb h0 hr2
            go_wp2_with (first
              | (at_builtin; refine wpList_append_own _ rfl _ _ 22 rfl G 3 i3 (.int .i64 0) 1 8 und22 ki3 kz0 kz1 kz2 rfl (by decide) _ _ _ rfl (hown.alloc _) ⟨wr.heap.size, 0, none⟩ 1 1 [.int .i64 (i : Int)] rfl rfl ?c1 ?c2 ?c3 ?c4 ?c5 ?_)
              | go_in)
            case c1 =>
              intro j u hj
              match j, hj with
              | 0, hj => simp at hj; subst hj; simp [Addr.add]
            case c2 => intro u hu; simp at hu; subst hu; rfl
            case c3 => unfold maxLen; omega
            case c4 => omega
            case c5 => have := HGs.out; simp; omega
            intro v' w6 hown' hgrow _
            have hb6 : Below G _ w6 := (hB.alloc HGs.out _).grown hgrow (by have := HGs.out; simp; omega) (fun k hk => (hown.lt k hk).1)
            rw [show nz P ++ [Value.int .i64 (i : Int)] = nz (P ++ [i]) from (nz_more P i).symm] at hown'
            obtain ⟨xa, xc, rfl⟩ := own_form hown'
            go_wp2
            go_roundw
            case rel => exact ⟨i + 1, P ++ [i], xa, xc, by go_num, by rw [hpl], by omega, HC2, HP2, by rw [hpl]; exact hown', hb6⟩
            case measure => simp [intOf]; omega
          · have her : ((r : Int) == 0) = false := by simp; omega
            have hbit : s.testBit i = true := by rw [htb]; simp; omega
            rcases Nat.lt_or_ge 0 P.length with hp0 | hp0
            · have hst := HPO.out s i hbit (by rw [HP.out]; exact List.length_pos_iff.1 hp0)
              rw [HZ0.out, HP.out] at hst
              have HC2 : Hid ((alS s (i + 1)).1 = 0) := hst.1
              have HP2 : Hid ((alS s (i + 1)).2 = P.dropLast) := hst.2
              obtain ⟨p, hkp⟩ : ∃ p, Hid (P.length = p + 1) := ⟨P.length - 1, by show _ = _; omega⟩
              have hpl : P.dropLast.length = p := by rw [List.length_dropLast, hkp.out]; rfl
              rw [hkp.out] at hown hPi ⊢
              obtain ⟨gq, rfl, hgc, hcut⟩ := own_cut hown
              rw [nz_take, show P.take p = P.dropLast by rw [List.dropLast_eq_take, hkp.out]; rfl] at hcut
              have hdp : ((p + 1 : Nat) : Int) ≠ 0 := by omega
              have hdp2 : (((p + 1 : Nat) : Int) == 0) = false := by simp; omega
              have hdp3 : ((p : Int) + 1 == 0) = false := by simp; omega
              have hpw : IntKind.i64.wrap (p : Int) = (p : Int) := IntWalk.i64_in _ (by omega)
              have hpi : (p : Int) ≤ (pc : Int) := by omega
              have ep : ((p + 1 : Nat) : Int) - 1 = (p : Int) := by omega
              clear hst htb h0 hr2 hbit hp0 hdp
              go_wp2
              go_roundw
              case rel => exact ⟨i + 1, P.dropLast, some ⟨gq, 0, none⟩, pc, by go_num, by rw [hpl], by omega, HC2, HP2, by rw [hpl]; exact hcut, hB⟩
              case measure => simp [intOf]; omega
            · obtain rfl : P = [] := List.length_eq_zero_iff.1 (by omega)
              have hno := HNO.out s i hlti hbit HP.out
              have HK2 : Hid ((cnR n (s + 1)).length = k) := by show _ = _; rw [hno]; exact HK.out
              have hO2 := HOA.out wr hB
              rw [← hno] at hO2
              have hB2 := HBA.out wr hB
              rw [List.length_nil] at hown ⊢
              clear htb h0 hr2 hbit hp0 hno
              go_wp2
              go_roundw
              case rel => exact ⟨s + 1, k, oa, oc, by go_num, rfl, HK2, by omega, hO2, hB2⟩
              case measure => simp [intOf]; omega
        · have hdi : decide ((i : Int) < (n : Int)) = false := by simp; omega
          obtain rfl : i = n := by omega
          have HY : Hid (cnR i (s + 1) = cnR i s ++ [s :: ptL s P]) := by show _ = _; rw [HYE.out s hlt HZ0.out, HP.out]
          have hmem : ∀ a ∈ P, a < i := by rw [← HP.out]; exact HLT.out s hlt HZ0.out
          have hW : Wd wr (.slice pa P.length pc) P := ORow.own (show ORow wr G (.slice pa P.length pc) P from hown)
          have HC : Hid (Calls Try.prog 22 #[.int .i64 (s : Int), .slice pa P.length pc] wr fun e w' => (∃ y, e = .returned y ∧ ORow w' wr.heap.size y (s :: ptL s P)) ∧ Below wr.heap.size wr w') := chain_any s P _ wr (by omega) (by omega) (fun j hj => by
            have := hmem (P.getD j 0) (by rw [List.getD_eq_getElem?_getD, List.getElem?_eq_getElem hj]; exact List.getElem_mem hj)
            omega) hW
          have hOq := HOA.out wr hB
          have hBq := HBA.out wr hB
          have HK2 : Hid ((cnR i (s + 1)).length = k + 1) := by show _ = _; rw [HY.out, List.length_append, HK.out]; rfl
          have hgs : g ≤ wr.heap.size := by have := HGs.out; omega
          clear hmem hW hown
          go_wp2_with (first
            | (go_at_call 22; refine HC.out.mono ?_; rintro e w5 ⟨⟨y, rfl, hy⟩, hb5⟩; clear HC; have hB5 := hBq.trans (hb5.mono hgs); obtain ⟨ya, yc, rfl⟩ := own_form hy; obtain ⟨yl, Hyl⟩ : ∃ yl, Hid ((s :: ptL s P).length = yl) := ⟨_, rfl⟩; have hrow : ORow w5 g (.slice ya yl yc) (s :: ptL s P) := (by rw [← Hyl.out]; exact own_up hy hgs); rw [Hyl.out]; obtain ⟨vals, h1, h2'⟩ := hOq.below hb5; have HH1 : Hid (w5.ownsRow g 22 1 (.slice oa k oc) (cnR i s).length vals) := h1; have HH2 : Hid (∀ (i_1 : Nat) (u : Value) (l : List Nat), vals[i_1]? = some u → (cnR i s)[i_1]? = some l → ORow w5 g u l) := h2'; rw [HK.out] at h1; clear h2')
            | (at_builtin; refine wpList_append_own _ rfl _ _ 30 rfl g 22 i36 (.slice none 0 0) 1 24 undR ji3 jz0 jz1 jz2 rfl (by decide) _ _ _ rfl (h1.alloc _) ⟨w5.heap.size, 0, none⟩ 1 1 [.slice ya yl yc] rfl rfl ?c1 ?c2 ?c3 ?c4 ?c5 ?_)
            | go_in)
          case c1 =>
            intro j u hj
            match j, hj with
            | 0, hj => simp at hj; subst hj; simp [Addr.add]
          case c2 => intro u hu; simp at hu; subst hu; rfl
          case c3 => unfold maxLen; omega
          case c4 => omega
          case c5 => have := hb5.size; simp; omega
          intro v' w7 hown' hgrow _
          have hbs : g ≤ w5.heap.size := by have := hb5.size; omega
          have hal := balloc w5 (.cells #[.slice ya yl yc] 22)
          have hB7 : Below g w w7 := (hB5.trans (hal.mono hbs)).grown hgrow (by simp; omega) (fun k hk => (h1.lt k hk).1)
          have hO7 : OR w7 g v' (cnR i s ++ [s :: ptL s P]) := OR.more (own_keep HH1.out fun b _ hb => hal.block b hb) (fun i_1 u l' e1 e2 => (HH2.out i_1 u l' e1 e2).below hal) (ORow.below (u := .slice ya yl yc) hrow hal) (by rw [HK.out]; exact hown') hgrow
          rw [← HY.out] at hO7
          obtain ⟨va, vc, rfl⟩ := own_form hown'
          go_wp2
          go_roundw
          case rel => exact ⟨s + 1, k + 1, va, vc, by go_num, rfl, HK2, by omega, hO7, hB7⟩
          case measure => simp [intOf]; omega
    · have hds : decide (s < A) = false := by simpa using hlt
      have hds2 : decide ((s : Int) < (A : Int)) = false := by simp; omega
      obtain rfl : s = A := by omega
      go_wp2
      rw [Exit.noGoto_ret]
      go_ret
      exact ⟨⟨_, rfl, hO⟩, hB⟩
theorem Chains_face : FChains := by
  intro n w
  by_cases h1 : n < 0
  · have e1 : chE n = 1 := by unfold chE; rw [if_pos (.inl h1)]
    have e2 : chR n = [] := by unfold chR; rw [e1]; rfl
    have hd1 : decide (n < 0) = true := by simpa using h1
    rw [e1, e2]
    clear h1 e1 e2
    go_enter Try.func9, Try.ntmps9
    go_wp2
    go_ret2
    exact ⟨⟨_, rfl, rw_nil _⟩, Below.refl _ _⟩
  by_cases h2 : 10 < n
  · have e1 : chE n = 1 := by unfold chE; rw [if_pos (.inr h2)]
    have e2 : chR n = [] := by unfold chR; rw [e1]; rfl
    have hd1 : decide (n < 0) = false := by simpa using h1
    have hd2 : decide (10 < n) = true := by simpa using h2
    rw [e1, e2]
    clear h1 h2 e1 e2
    go_enter Try.func9, Try.ntmps9
    go_wp2
    go_ret2
    exact ⟨⟨_, rfl, rw_nil _⟩, Below.refl _ _⟩
  obtain ⟨m, rfl⟩ : ∃ m : Nat, n = m := ⟨n.toNat, by omega⟩
  have e1 : chE m = 0 := by unfold chE; rw [if_neg (by omega)]
  have e2 : chR m = cnR m (2 ^ m) := by unfold chR; rw [e1, Int.toNat_natCast]; rfl
  have hd1 : decide ((m : Int) < 0) = false := by simp
  have hd2 : decide ((10 : Int) < (m : Int)) = false := by simp; omega
  have C := chains_walk m (2 ^ m) w (by omega) rfl
  rw [e1, e2]
  obtain ⟨Z, HZ⟩ : ∃ Z, Hid (cnR m (2 ^ m) = Z) := ⟨_, rfl⟩
  rw [HZ.out] at C ⊢
  clear h1 h2 e1 e2
  go_enter Try.func9, Try.ntmps9
  go_wp2_with (go_at_call 15; refine C.mono ?_; rintro e w1 ⟨⟨y, rfl, hy⟩, b1⟩; clear C)
  go_ret2
  exact ⟨⟨_, rfl, hy.rw⟩, b1⟩
end Go.Proofs.Ytmogmkdcplgfjab
