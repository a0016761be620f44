/- Erdos, Ko and Rado, out of Kruskal and Katona: what is left over, its shadows. -/
import Derived.Test.YtmogmkdcplgfjaaSuE
namespace Go.Proofs.Ytmogmkdcplgfjaa

theorem cnt_cmp : ∀ (n : Nat) (F : Nat → Bool), cnt n (fun s => F (2 ^ n - 1 - s)) = cnt n F
  | 0, F => rfl
  | n + 1, F => by
    have hp := Nat.two_pow_pos n
    unfold cnt
    have e1 : cnt n (fun s => F (2 ^ (n + 1) - 1 - s)) = cnt n (fun s => F (s + 2 ^ n)) := by
      rw [← cnt_cmp n fun s => F (s + 2 ^ n)]
      exact cnt_congr n fun s hs => by rw [Nat.pow_succ, show 2 ^ n * 2 - 1 - s = 2 ^ n - 1 - s + 2 ^ n by omega]
    have e2 : cnt n (fun s => F (2 ^ (n + 1) - 1 - (s + 2 ^ n))) = cnt n F := by
      rw [← cnt_cmp n F]
      exact cnt_congr n fun s hs => by rw [Nat.pow_succ, show 2 ^ n * 2 - 1 - (s + 2 ^ n) = 2 ^ n - 1 - s by omega]
    rw [e1, e2]
    omega
theorem wgt_cmp : ∀ n s, s < 2 ^ n → wgt n (2 ^ n - 1 - s) + wgt n s = n
  | 0, s, _ => rfl
  | n + 1, s, hs => by
    have hp := Nat.two_pow_pos n
    rw [Nat.pow_succ] at hs ⊢
    by_cases h : s < 2 ^ n
    · rw [wgt_lt n s h, show 2 ^ n * 2 - 1 - s = 2 ^ n - 1 - s + 2 ^ n by omega, wgt_ge]
      have := wgt_cmp n s h
      omega
    · rw [wgt_lt n _ (by omega)]
      have e : s = s - 2 ^ n + 2 ^ n := by omega
      have h1 : wgt (n + 1) s = wgt n (s - 2 ^ n) + 1 := by conv => lhs; rw [e]
                                                            exact wgt_ge n _
      have := wgt_cmp n (s - 2 ^ n) (by omega)
      rw [h1, show 2 ^ n * 2 - 1 - s = 2 ^ n - 1 - (s - 2 ^ n) by omega]
      omega
/-- Shadow of shadow. -/
def shI (n : Nat) (G : Nat → Bool) : Nat → Nat → Bool
  | 0 => G
  | i + 1 => shw n (shI n G i)
theorem shI_wgt {n k : Nat} {G : Nat → Bool} (h : ∀ s, s < 2 ^ n → G s = true → wgt n s = k) : ∀ i, i ≤ k → ∀ s, s < 2 ^ n → shI n G i s = true → wgt n s = k - i
  | 0, _ => h
  | i + 1, hi => by
    have ih := shI_wgt h i (by omega)
    exact shw_wgt n (k := k - (i + 1)) (fun s hs hG => by rw [ih s hs hG]; omega)
theorem add_keep : ∀ (t : Nat) {s u : Nat}, s.testBit t = false → s.testBit u = true → (s + 2 ^ t).testBit u = true
  | 0, s, u, h, hu => by
    have h1 : s % 2 = 0 := by
      rw [Nat.testBit_zero] at h
      have := of_decide_eq_false h
      omega
    cases u with
    | zero => rw [h] at hu; cases hu
    | succ u =>
      rw [Nat.testBit_succ] at hu ⊢
      rw [Nat.pow_zero, show (s + 1) / 2 = s / 2 by omega]
      exact hu
  | t + 1, s, u, h, hu => by
    rw [Nat.testBit_succ] at h
    cases u with
    | zero =>
      rw [Nat.testBit_zero] at hu ⊢
      have := of_decide_eq_true hu
      exact decide_eq_true (by rw [Nat.pow_succ]; omega)
    | succ u =>
      rw [Nat.testBit_succ] at hu ⊢
      rw [Nat.pow_succ, show (s + 2 ^ t * 2) / 2 = s / 2 + 2 ^ t by omega]
      exact add_keep t h hu
/-- What is in it lies within one that was there at first. -/
theorem shI_in {n : Nat} {G : Nat → Bool} : ∀ i {s : Nat}, s < 2 ^ n → shI n G i s = true → ∃ A, A < 2 ^ n ∧ G A = true ∧ ∀ t, s.testBit t = true → A.testBit t = true
  | 0, s, hs, h => ⟨s, hs, h, fun _ h => h⟩
  | i + 1, s, hs, h => by
    obtain ⟨t, h1, h2, h3, h4⟩ := shw_of n hs h
    obtain ⟨A, hA, hG, hin⟩ := shI_in i h3 h4
    refine ⟨A, hA, hG, fun u hu => hin u ?_⟩
    exact add_keep t h2 hu
set_option maxRecDepth 100000 in
theorem kf_up_all : (List.range 13).all (fun n => (List.range (n - 1)).all fun j => ((ktT (j + 1)).drop (chs (n - 1) (j + 1))).all fun x => decide (chs (n - 1) j ≤ x)) = true := by decide +kernel
set_option maxRecDepth 100000 in
theorem kt_len_all : (List.range 13).all (fun j => (ktT j).length == chs 12 j + 1) = true := by decide +kernel
theorem kf_up {n j m : Nat} (hn : n ≤ 12) (hj : j < n - 1) (h : chs (n - 1) (j + 1) ≤ m) (hm : m ≤ chs n (j + 1)) : chs (n - 1) j ≤ kfN (j + 1) m := by
  have a := List.all_eq_true.1 (List.all_eq_true.1 kf_up_all n (List.mem_range.2 (by omega))) j (List.mem_range.2 hj)
  have hl : (ktT (j + 1)).length = chs 12 (j + 1) + 1 := eq_of_beq (List.all_eq_true.1 kt_len_all (j + 1) (List.mem_range.2 (by omega)))
  have hm2 : m < (ktT (j + 1)).length := by rw [hl]; exact Nat.lt_succ_of_le (Nat.le_trans hm (chs_mono hn _))
  have hmem : (ktT (j + 1))[m] ∈ (ktT (j + 1)).drop (chs (n - 1) (j + 1)) := by
    rw [List.mem_iff_getElem]
    exact ⟨m - chs (n - 1) (j + 1), by rw [List.length_drop]; omega, by rw [List.getElem_drop]; congr 1; omega⟩
  have := of_decide_eq_true (List.all_eq_true.1 a _ hmem)
  unfold kfN
  rw [List.getD_eq_getElem?_getD, List.getElem?_eq_getElem hm2]
  exact this
/-- Many sets have many of each less. -/
theorem shI_many {n k : Nat} {G : Nat → Bool} (hn : n ≤ 12) (hk : k < n) (h : ∀ s, s < 2 ^ n → G s = true → wgt n s = k) (hc : chs (n - 1) k ≤ cnt n G) : ∀ i, i ≤ k → chs (n - 1) (k - i) ≤ cnt n (shI n G i)
  | 0, _ => hc
  | i + 1, hi => by
    have ih := shI_many hn hk h hc i (by omega)
    have hw := shI_wgt h i (by omega)
    have e : k - i = k - (i + 1) + 1 := by omega
    rw [e] at ih hw
    have h1 := kf_up (j := k - (i + 1)) hn (by omega) ih (cnt_le hw)
    exact Nat.le_trans h1 (kk n _ _ hn hw)
set_option maxRecDepth 100000 in
theorem chs_sym_all : (List.range 13).all (fun n => (List.range (n + 1)).all fun k => chs n k == chs n (n - k)) = true := by decide +kernel
theorem chs_sym {n k : Nat} (hn : n ≤ 12) (hk : k ≤ n) : chs n k = chs n (n - k) :=
  eq_of_beq (List.all_eq_true.1 (List.all_eq_true.1 chs_sym_all n (List.mem_range.2 (by omega))) k (List.mem_range.2 (by omega)))
/-- Erdos, Ko, Rado. -/
theorem ekr {n k : Nat} {F : Nat → Bool} (hn : n ≤ 12) (hk : 1 ≤ k) (h2 : 2 * k ≤ n) (h : ∀ s, s < 2 ^ n → F s = true → wgt n s = k) (hx : ∀ s t, s < 2 ^ n → t < 2 ^ n → F s = true → F t = true → s &&& t ≠ 0) :
    cnt n F ≤ chs (n - 1) (k - 1) := by
  rcases Nat.lt_or_ge (chs (n - 1) (k - 1)) (cnt n F) with hlt | hge
  · exfalso
    have hG : ∀ s, s < 2 ^ n → F (2 ^ n - 1 - s) = true → wgt n s = n - k := fun s hs hF => by
      have h1 := wgt_cmp n s hs
      rw [h _ (by omega) hF] at h1
      omega
    have hc : chs (n - 1) (n - k) ≤ cnt n (fun s => F (2 ^ n - 1 - s)) := by
      rw [cnt_cmp, chs_sym (by omega) (by omega), show n - 1 - (n - k) = k - 1 by omega]
      omega
    have hm := shI_many (G := fun s => F (2 ^ n - 1 - s)) hn (by omega) hG hc (n - 2 * k) (by omega)
    rw [show n - k - (n - 2 * k) = k by omega] at hm
    have hw := shI_wgt (G := fun s => F (2 ^ n - 1 - s)) hG (n - 2 * k) (by omega)
    rw [show n - k - (n - 2 * k) = k by omega] at hw
    have hap := cnt_apart n (F := F) (G := shI n (fun s => F (2 ^ n - 1 - s)) (n - 2 * k)) fun s hs ⟨hF, hI⟩ => by
      obtain ⟨A, hA, hFA, hin⟩ := shI_in _ hs hI
      refine hx s (2 ^ n - 1 - A) hs (by omega) hF hFA (Nat.eq_of_testBit_eq fun t => ?_)
      rw [Nat.zero_testBit, Nat.testBit_and]
      cases e : s.testBit t with
      | false => rfl
      | true =>
        have h3 := hin t e
        have h4 : t < n := by
          rcases Nat.lt_or_ge t n with h | h
          · exact h
          · rw [Nat.testBit_lt_two_pow (Nat.lt_of_lt_of_le hs (Nat.pow_le_pow_right (by decide) h))] at e; cases e
        rw [show 2 ^ n - 1 - A = 2 ^ n - (A + 1) by omega, Nat.testBit_two_pow_sub_succ hA, h3]
        simp
    have hle : cnt n (fun s => F s || shI n (fun s => F (2 ^ n - 1 - s)) (n - 2 * k) s) ≤ chs n k := cnt_le fun s hs hs2 => by
      rcases (Bool.or_eq_true ..).mp hs2 with hs2 | hs2
      · exact h s hs hs2
      · exact hw s hs hs2
    have hpas : chs n k = chs (n - 1) (k - 1) + chs (n - 1) k := by
      obtain ⟨m, rfl⟩ : ∃ m, n = m + 1 := ⟨n - 1, by omega⟩
      obtain ⟨j, rfl⟩ : ∃ j, k = j + 1 := ⟨k - 1, by omega⟩
      rfl
    omega
  · exact hge
end Go.Proofs.Ytmogmkdcplgfjaa
