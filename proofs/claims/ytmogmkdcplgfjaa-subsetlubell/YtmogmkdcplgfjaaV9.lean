/- The document's brackets that are alone, walked. -/
import Derived.Test.YtmogmkdcplgfjaaV8
namespace Go.Proofs.Ytmogmkdcplgfjaa
open Go.RowKit

/-- How many closed brackets are alone, and which open ones: of the first things. -/
def alS (s : Nat) : Nat → Nat × List Nat
  | 0 => (0, [])
  | i + 1 => if s.testBit i = false then ((alS s i).1, (alS s i).2 ++ [i]) else if (alS s i).2 = [] then ((alS s i).1 + 1, []) else ((alS s i).1, (alS s i).2.dropLast)
theorem alS_len (s : Nat) : ∀ i, (alS s i).2.length ≤ i ∧ (alS s i).1 ≤ i
  | 0 => ⟨Nat.le_refl _, Nat.le_refl _⟩
  | i + 1 => by
    have ih := alS_len s i
    unfold alS
    split
    · exact ⟨by rw [List.length_append]; exact Nat.succ_le_succ ih.1, Nat.le_succ_of_le ih.2⟩
    · split
      · exact ⟨Nat.zero_le _, Nat.succ_le_succ ih.2⟩
      · exact ⟨by rw [List.length_dropLast]; show _ - 1 ≤ i + 1; omega, Nat.le_succ_of_le ih.2⟩
theorem own_cut {w : World} {base : Nat} {e : TypeId} {a : Option Addr} {n c : Nat} {xs : List Value} (h : w.ownsRow base e 1 (.slice a (n + 1) c) (n + 1) xs) : ∃ g, a = some ⟨g, 0, none⟩ ∧ n + 1 ≤ c ∧ w.ownsRow base e 1 (.slice a n c) n (xs.take n) := by
  obtain ⟨h0, ⟨h1, h2⟩ | ⟨g, cap, cur, h1, h2, h3, h4, h5, h6, h7⟩⟩ := h
  · omega
  · obtain ⟨rfl, -, rfl⟩ := Value.slice.inj h1
    refine ⟨g, rfl, h4, ?_, .inr ⟨g, c, cur, rfl, h2, h3, by omega, h5, h6, ?_⟩⟩
    · rw [List.length_take]; omega
    · rw [← h7, List.take_take]
      congr 1
      omega
theorem nz_take (P : List Nat) (n : Nat) : (nz P).take n = nz (P.take n) := by unfold nz; rw [List.map_take, List.map_take]
set_option maxRecDepth 100000 in
set_option maxHeartbeats 8000000 in
theorem alone_any (n s : Nat) (w : World) (hn : n ≤ 12) (hs : s < 4096) :
    Calls Try.prog 48 #[.int .i64 (n : Int), .int .i64 (s : Int)] w fun e w' => (∃ y, e = .returned (.tuple #[.int .i64 ((alS s n).1 : Int), y]) ∧ Wd w' y (alS s n).2) ∧ Below w.heap.size w w' := by
  obtain ⟨i3, ki3, kz0, kz1, kz2⟩ := info3
  obtain ⟨Zc, Hzc⟩ : ∃ Zc, Hid ((alS s n).1 = Zc) := ⟨_, rfl⟩
  obtain ⟨Zo, Hzo⟩ : ∃ Zo, Hid ((alS s n).2 = Zo) := ⟨_, rfl⟩
  have HOP : Hid (∀ i, s.testBit i = false → (alS s (i + 1)).1 = (alS s i).1 ∧ (alS s (i + 1)).2 = (alS s i).2 ++ [i]) := fun i h => by
    constructor <;> (conv => lhs; unfold alS) <;> rw [if_pos h]
  have HCL : Hid (∀ i, s.testBit i = true → (alS s i).2 = [] → (alS s (i + 1)).1 = (alS s i).1 + 1 ∧ (alS s (i + 1)).2 = []) := fun i h h2 => by
    constructor <;> (conv => lhs; unfold alS) <;> rw [if_neg (by rw [h]; decide), if_pos h2]
  have HPO : Hid (∀ i, s.testBit i = true → (alS s i).2 ≠ [] → (alS s (i + 1)).1 = (alS s i).1 ∧ (alS s (i + 1)).2 = (alS s i).2.dropLast) := fun i h h2 => by
    constructor <;> (conv => lhs; unfold alS) <;> rw [if_neg (by rw [h]; decide), if_neg h2]
  have HLE : Hid (∀ i, (alS s i).2.length ≤ i ∧ (alS s i).1 ≤ i) := alS_len s
  have HBT : Hid (∀ i, bits .and .i64 ((s : Int) / 2 ^ i) 1 = (((s / 2 ^ i) % 2 : Nat) : Int) ∧ s.testBit i = decide (s / 2 ^ i % 2 = 1)) := fun i => ⟨bit_and hs, Nat.testBit_eq_decide_div_mod_eq⟩
  rw [Hzc.out, Hzo.out]
  go_enter Try.func48, Try.ntmps48
  go_wp2
  go_loopw [6, 7, 8] (fun cv ov iv wr => ∃ (i c : Nat) (P : List Nat) (oa : Option Addr) (oc : Nat), iv = .int .i64 (i : Int) ∧ cv = .int .i64 (c : Int) ∧ ov = .slice oa P.length oc ∧ i ≤ n ∧ Hid ((alS s i).1 = c) ∧ Hid ((alS s i).2 = P) ∧ wr.ownsRow w.heap.size 3 1 (.slice oa P.length oc) P.length (nz P) ∧ Below w.heap.size w wr) (fun _ _ iv _ => (n - intOf iv).toNat)
  case atStart => exact ⟨0, 0, [], none, 0, rfl, rfl, rfl, by omega, rfl, rfl, World.ownsRow_nil _ _ _ _, Below.refl _ _⟩
  case round =>
    obtain ⟨i, c, P, oa, oc, rfl, rfl, rfl, hi, HC, HP, hown, hB⟩ := hrel
    have hle := HLE.out i
    rw [HC.out, HP.out] at hle
    obtain ⟨k, hk⟩ : ∃ k, Hid (P.length = k) := ⟨_, rfl⟩
    by_cases hlt : i < n
    · have hdi : decide ((i : Int) < (n : Int)) = true := by simp; omega
      have hii : (i : Int) < (n : Int) := by omega
      obtain ⟨hba, htb⟩ := HBT.out i
      obtain ⟨r, hr⟩ : ∃ r, Hid (s / 2 ^ i % 2 = r) := ⟨_, rfl⟩
      rw [hr.out] at hba htb
      have hr2 : r = 0 ∨ r = 1 := by have := hr.out; have := Nat.mod_lt (s / 2 ^ i) (show 0 < 2 by decide); omega
      have hbs := hB.size
      by_cases h0 : r = 0
      · have her : ((r : Int) == 0) = true := by simp; omega
        have hst := HOP.out i (by rw [htb]; simp; omega)
        rw [HC.out, HP.out] at hst
        have HC2 : Hid ((alS s (i + 1)).1 = c) := hst.1
        have HP2 : Hid ((alS s (i + 1)).2 = P ++ [i]) := hst.2
        have hpl : (P ++ [i]).length = k + 1 := by rw [List.length_append, hk.out]; rfl
        rw [hk.out] at hown hle ⊢
        clear hst htb h0 hr2
        go_wp2_with (first
          | (at_builtin; refine wpList_append_own _ rfl _ _ 22 rfl w.heap.size 3 i3 (.int .i64 0) 1 8 und22 ki3 kz0 kz1 kz2 rfl (by decide) _ _ _ rfl (hown.alloc _) ⟨wr.heap.size, 0, none⟩ 1 1 [.int .i64 (i : Int)] rfl rfl ?c1 ?c2 ?c3 ?c4 ?c5 ?_)
          | go_in)
        case c1 =>
          intro j u hj
          match j, hj with
          | 0, hj => simp at hj; subst hj; simp [Addr.add]
        case c2 => intro u hu; simp at hu; subst hu; rfl
        case c3 => unfold maxLen; omega
        case c4 => omega
        case c5 => simp; omega
        intro v' w6 hown' hgrow _
        have hb6 : Below w.heap.size w w6 := (hB.alloc hbs _).grown hgrow (by simp; omega) (fun k hk => (hown.lt k hk).1)
        rw [show nz P ++ [Value.int .i64 (i : Int)] = nz (P ++ [i]) from (nz_more P i).symm] at hown'
        obtain ⟨xa, xc, rfl⟩ := own_form hown'
        go_wp2
        go_roundw
        case rel => exact ⟨i + 1, c, P ++ [i], xa, xc, by go_num, rfl, by rw [hpl], by omega, HC2, HP2, by rw [hpl]; exact hown', hb6⟩
        case measure => simp [intOf]; omega
      · have her : ((r : Int) == 0) = false := by simp; omega
        have hbit : s.testBit i = true := by rw [htb]; simp; omega
        rcases Nat.lt_or_ge 0 P.length with hp0 | hp0
        · have hst := HPO.out i hbit (by rw [HP.out]; exact List.length_pos_iff.1 hp0)
          rw [HC.out, HP.out] at hst
          have HC2 : Hid ((alS s (i + 1)).1 = c) := hst.1
          have HP2 : Hid ((alS s (i + 1)).2 = P.dropLast) := hst.2
          obtain ⟨p, hkp⟩ : ∃ p, Hid (P.length = p + 1) := ⟨P.length - 1, by show _ = _; omega⟩
          have hpl : P.dropLast.length = p := by rw [List.length_dropLast, hkp.out]; rfl
          rw [hkp.out] at hown hle ⊢
          obtain ⟨g, rfl, hgc, hcut⟩ := own_cut hown
          rw [nz_take, show P.take p = P.dropLast by rw [List.dropLast_eq_take, hkp.out]; rfl] at hcut
          have hdp : decide (0 < p + 1) = true := by simp
          have hpw : IntKind.i64.wrap (p : Int) = (p : Int) := IntWalk.i64_in _ (by omega)
          have hpi : (p : Int) ≤ (oc : Int) := by omega
          have ep : ((p + 1 : Nat) : Int) - 1 = (p : Int) := by omega
          clear hst htb h0 hr2 hbit hp0
          go_wp2
          go_roundw
          case rel => exact ⟨i + 1, c, P.dropLast, some ⟨g, 0, none⟩, oc, by go_num, rfl, by rw [hpl], by omega, HC2, HP2, by rw [hpl]; exact hcut, hB⟩
          case measure => simp [intOf]; omega
        · obtain rfl : P = [] := List.length_eq_zero_iff.1 (by omega)
          have hst := HCL.out i hbit HP.out
          rw [HC.out] at hst
          have HC2 : Hid ((alS s (i + 1)).1 = c + 1) := hst.1
          have HP2 : Hid ((alS s (i + 1)).2 = []) := hst.2
          rw [List.length_nil] at hown ⊢
          have hcw : IntKind.i64.wrap ((c : Int) + 1) = (c : Int) + 1 := IntWalk.i64_in _ (by omega)
          clear hst htb h0 hr2 hbit hp0
          go_wp2
          go_roundw
          case rel => exact ⟨i + 1, c + 1, [], oa, oc, by go_num, by go_num, rfl, by omega, HC2, HP2, hown, hB⟩
          case measure => simp [intOf]; omega
    · have hdi : decide ((i : Int) < (n : Int)) = false := by simp; omega
      obtain rfl : i = n := by omega
      have HE : Hid (c = Zc) := by show _ = _; rw [← HC.out]; exact Hzc.out
      have HF : Hid (P = Zo) := by show _ = _; rw [← HP.out]; exact Hzo.out
      have hO : ORow wr w.heap.size (.slice oa P.length oc) P := hown
      go_wp2
      go_ret2
      exact ⟨⟨_, by rw [HE.out]; rfl, by rw [← HF.out]; exact hO.own⟩, hB⟩
end Go.Proofs.Ytmogmkdcplgfjaa
