/- Kruskal and Katona: no shadow is smaller than the table says. -/
import Derived.Test.YtmogmkdcplgfjaaSuT
namespace Go.Proofs.Ytmogmkdcplgfjaa

theorem okR_is {a : Nat} : ∀ {H G : List Nat} {j : Nat}, okR a j G H = true → ∀ i, i < H.length → G.getD i 0 ≤ max a (j + i) + H.getD i 0
  | [], _, _, _, i, hi => absurd hi (Nat.not_lt_zero _)
  | _ :: _, [], _, h, _, _ => by unfold okR at h; cases h
  | x :: H, g :: G, j, h, i, hi => by
    have hm : (match Nat.ble a j with
      | true => j
      | false => a) = max a j := by
      cases e : Nat.ble a j with
      | true => have := Nat.le_of_ble_eq_true e; show j = _; omega
      | false =>
        have : ¬ a ≤ j := fun h => by rw [Nat.ble_eq_true_of_le h] at e; cases e
        show a = _
        omega
    have h : (match Nat.ble g (Nat.add x (max a j)) with
      | true => okR a (j + 1) G H
      | false => false) = true := by rw [← hm]; exact h
    cases e : Nat.ble g (Nat.add x (max a j)) with
    | false => rw [e] at h; cases h
    | true =>
      rw [e] at h
      have h1 := Nat.le_of_ble_eq_true e
      cases i with
      | zero =>
        show g ≤ max a (j + 0) + x
        have h2 : g ≤ x + max a j := h1
        rw [Nat.add_zero]
        omega
      | succ i =>
        have := okR_is (h : okR a (j + 1) G H = true) i (by simpa using hi)
        show G.getD i 0 ≤ max a (j + (i + 1)) + H.getD i 0
        rw [show j + (i + 1) = j + 1 + i by omega]
        exact this
theorem okC_is {H : List Nat} : ∀ {c : Nat} {G : List Nat}, okC H c G = true → ∀ i, i < c → okR (G.getD i 0) 0 (G.drop i) H = true
  | 0, _, _, i, hi => absurd hi (Nat.not_lt_zero _)
  | c + 1, [], h, _, _ => by unfold okC at h; cases h
  | c + 1, a :: G, h, i, hi => by
    unfold okC at h
    cases e : okR a 0 (a :: G) H with
    | false => rw [e] at h; cases h
    | true =>
      rw [e] at h
      cases i with
      | zero => exact e
      | succ i => exact okC_is (h : okC H c G = true) i (by omega)
theorem pair_ok {c : Nat} {G H F : List Nat} (h : okC H c G = true) (hH : H = F.take H.length) {m0 m1 : Nat} (h0 : m0 < c) (h1 : m1 < H.length) : G.getD (m0 + m1) 0 ≤ max (G.getD m0 0) m1 + F.getD m1 0 := by
  have := okR_is (okC_is h m0 h0) m1 h1
  rw [Nat.zero_add, List.getD_eq_getElem?_getD, List.getElem?_drop] at this
  have e : H.getD m1 0 = F.getD m1 0 := (congrArg (fun l => l.getD m1 0) hH).trans (by
    show (F.take H.length).getD m1 0 = _
    rw [List.getD_eq_getElem?_getD, List.getElem?_take, if_pos h1, List.getD_eq_getElem?_getD])
  rw [List.getD_eq_getElem?_getD, ← e]
  exact this
def kfN (k m : Nat) : Nat := (ktT k).getD m 0
theorem kf_far {k : Nat} (h : 13 ≤ k) (m : Nat) : kfN k m = 0 := by
  obtain ⟨j, rfl⟩ : ∃ j, k = j + 13 := ⟨k - 13, by omega⟩
  rfl
theorem kf_zero (k : Nat) : kfN k 0 = 0 := by
  rcases Nat.lt_or_ge k 13 with h | h
  · match k, h with
    | 0, _ => rfl
    | 1, _ => rfl
    | 2, _ => rfl
    | 3, _ => rfl
    | 4, _ => rfl
    | 5, _ => rfl
    | 6, _ => rfl
    | 7, _ => rfl
    | 8, _ => rfl
    | 9, _ => rfl
    | 10, _ => rfl
    | 11, _ => rfl
    | 12, _ => rfl
    | n + 13, h => omega
  · exact kf_far h 0
theorem kf_none (m : Nat) : kfN 0 m = 0 := by
  match m with
  | 0 => rfl
  | 1 => rfl
  | m + 2 => rfl
theorem kf_pair0 (m0 m1 : Nat) (h0 : m0 ≤ chs 11 1) (h1 : m1 ≤ chs 11 0) : kfN 1 (m0 + m1) ≤ max (kfN 1 m0) m1 + kfN 0 m1 := by
  rw [show chs 11 1 = 11 by decide +kernel] at h0
  rw [show chs 11 0 = 1 by decide +kernel] at h1
  exact pair_ok (c := 12) okC_1 (show kh0 = kt0.take kh0.length by decide +kernel) (by omega) (by rw [show kh0.length = 2 by decide +kernel]; omega)
theorem kf_pair1 (m0 m1 : Nat) (h0 : m0 ≤ chs 11 2) (h1 : m1 ≤ chs 11 1) : kfN 2 (m0 + m1) ≤ max (kfN 2 m0) m1 + kfN 1 m1 := by
  rw [show chs 11 2 = 55 by decide +kernel] at h0
  rw [show chs 11 1 = 11 by decide +kernel] at h1
  exact pair_ok (c := 56) okC_2 (show kh1 = kt1.take kh1.length by decide +kernel) (by omega) (by rw [show kh1.length = 12 by decide +kernel]; omega)
theorem kf_pair2 (m0 m1 : Nat) (h0 : m0 ≤ chs 11 3) (h1 : m1 ≤ chs 11 2) : kfN 3 (m0 + m1) ≤ max (kfN 3 m0) m1 + kfN 2 m1 := by
  rw [show chs 11 3 = 165 by decide +kernel] at h0
  rw [show chs 11 2 = 55 by decide +kernel] at h1
  exact pair_ok (c := 166) okC_3 (show kh2 = kt2.take kh2.length by decide +kernel) (by omega) (by rw [show kh2.length = 56 by decide +kernel]; omega)
theorem kf_pair3 (m0 m1 : Nat) (h0 : m0 ≤ chs 11 4) (h1 : m1 ≤ chs 11 3) : kfN 4 (m0 + m1) ≤ max (kfN 4 m0) m1 + kfN 3 m1 := by
  rw [show chs 11 4 = 330 by decide +kernel] at h0
  rw [show chs 11 3 = 165 by decide +kernel] at h1
  exact pair_ok (c := 331) okC_4 (show kh3 = kt3.take kh3.length by decide +kernel) (by omega) (by rw [show kh3.length = 166 by decide +kernel]; omega)
theorem kf_pair4 (m0 m1 : Nat) (h0 : m0 ≤ chs 11 5) (h1 : m1 ≤ chs 11 4) : kfN 5 (m0 + m1) ≤ max (kfN 5 m0) m1 + kfN 4 m1 := by
  rw [show chs 11 5 = 462 by decide +kernel] at h0
  rw [show chs 11 4 = 330 by decide +kernel] at h1
  exact pair_ok (c := 463) okC_5 (show kh4 = kt4.take kh4.length by decide +kernel) (by omega) (by rw [show kh4.length = 331 by decide +kernel]; omega)
theorem kf_pair5 (m0 m1 : Nat) (h0 : m0 ≤ chs 11 6) (h1 : m1 ≤ chs 11 5) : kfN 6 (m0 + m1) ≤ max (kfN 6 m0) m1 + kfN 5 m1 := by
  rw [show chs 11 6 = 462 by decide +kernel] at h0
  rw [show chs 11 5 = 462 by decide +kernel] at h1
  exact pair_ok (c := 463) okC_6 (show kh5 = kt5.take kh5.length by decide +kernel) (by omega) (by rw [show kh5.length = 463 by decide +kernel]; omega)
theorem kf_pair6 (m0 m1 : Nat) (h0 : m0 ≤ chs 11 7) (h1 : m1 ≤ chs 11 6) : kfN 7 (m0 + m1) ≤ max (kfN 7 m0) m1 + kfN 6 m1 := by
  rw [show chs 11 7 = 330 by decide +kernel] at h0
  rw [show chs 11 6 = 462 by decide +kernel] at h1
  exact pair_ok (c := 331) okC_7 (show kh6 = kt6.take kh6.length by decide +kernel) (by omega) (by rw [show kh6.length = 463 by decide +kernel]; omega)
theorem kf_pair7 (m0 m1 : Nat) (h0 : m0 ≤ chs 11 8) (h1 : m1 ≤ chs 11 7) : kfN 8 (m0 + m1) ≤ max (kfN 8 m0) m1 + kfN 7 m1 := by
  rw [show chs 11 8 = 165 by decide +kernel] at h0
  rw [show chs 11 7 = 330 by decide +kernel] at h1
  exact pair_ok (c := 166) okC_8 (show kh7 = kt7.take kh7.length by decide +kernel) (by omega) (by rw [show kh7.length = 331 by decide +kernel]; omega)
theorem kf_pair8 (m0 m1 : Nat) (h0 : m0 ≤ chs 11 9) (h1 : m1 ≤ chs 11 8) : kfN 9 (m0 + m1) ≤ max (kfN 9 m0) m1 + kfN 8 m1 := by
  rw [show chs 11 9 = 55 by decide +kernel] at h0
  rw [show chs 11 8 = 165 by decide +kernel] at h1
  exact pair_ok (c := 56) okC_9 (show kh8 = kt8.take kh8.length by decide +kernel) (by omega) (by rw [show kh8.length = 166 by decide +kernel]; omega)
theorem kf_pair9 (m0 m1 : Nat) (h0 : m0 ≤ chs 11 10) (h1 : m1 ≤ chs 11 9) : kfN 10 (m0 + m1) ≤ max (kfN 10 m0) m1 + kfN 9 m1 := by
  rw [show chs 11 10 = 11 by decide +kernel] at h0
  rw [show chs 11 9 = 55 by decide +kernel] at h1
  exact pair_ok (c := 12) okC_10 (show kh9 = kt9.take kh9.length by decide +kernel) (by omega) (by rw [show kh9.length = 56 by decide +kernel]; omega)
theorem kf_pair10 (m0 m1 : Nat) (h0 : m0 ≤ chs 11 11) (h1 : m1 ≤ chs 11 10) : kfN 11 (m0 + m1) ≤ max (kfN 11 m0) m1 + kfN 10 m1 := by
  rw [show chs 11 11 = 1 by decide +kernel] at h0
  rw [show chs 11 10 = 11 by decide +kernel] at h1
  exact pair_ok (c := 2) okC_11 (show kh10 = kt10.take kh10.length by decide +kernel) (by omega) (by rw [show kh10.length = 12 by decide +kernel]; omega)
theorem kf_pair11 (m0 m1 : Nat) (h0 : m0 ≤ chs 11 12) (h1 : m1 ≤ chs 11 11) : kfN 12 (m0 + m1) ≤ max (kfN 12 m0) m1 + kfN 11 m1 := by
  rw [show chs 11 12 = 0 by decide +kernel] at h0
  rw [show chs 11 11 = 1 by decide +kernel] at h1
  exact pair_ok (c := 1) okC_12 (show kh11 = kt11.take kh11.length by decide +kernel) (by omega) (by rw [show kh11.length = 2 by decide +kernel]; omega)
theorem kf_pair (k m0 m1 : Nat) (h0 : m0 ≤ chs 11 (k + 1)) (h1 : m1 ≤ chs 11 k) : kfN (k + 1) (m0 + m1) ≤ max (kfN (k + 1) m0) m1 + kfN k m1 := by
  rcases Nat.lt_or_ge k 12 with h | h
  · have hk : k = 0 ∨ k = 1 ∨ k = 2 ∨ k = 3 ∨ k = 4 ∨ k = 5 ∨ k = 6 ∨ k = 7 ∨ k = 8 ∨ k = 9 ∨ k = 10 ∨ k = 11 := by omega
    rcases hk with rfl | rfl | rfl | rfl | rfl | rfl | rfl | rfl | rfl | rfl | rfl | rfl
    · exact kf_pair0 m0 m1 h0 h1
    · exact kf_pair1 m0 m1 h0 h1
    · exact kf_pair2 m0 m1 h0 h1
    · exact kf_pair3 m0 m1 h0 h1
    · exact kf_pair4 m0 m1 h0 h1
    · exact kf_pair5 m0 m1 h0 h1
    · exact kf_pair6 m0 m1 h0 h1
    · exact kf_pair7 m0 m1 h0 h1
    · exact kf_pair8 m0 m1 h0 h1
    · exact kf_pair9 m0 m1 h0 h1
    · exact kf_pair10 m0 m1 h0 h1
    · exact kf_pair11 m0 m1 h0 h1
  · rw [kf_far (by omega)]
    exact Nat.zero_le _
/-- Kruskal and Katona. -/
theorem kk : ∀ (n k : Nat) (F : Nat → Bool), n ≤ 12 → (∀ s, s < 2 ^ n → F s = true → wgt n s = k) → kfN k (cnt n F) ≤ cnt n (shw n F)
  | n, 0, F, _, _ => by rw [kf_none]; exact Nat.zero_le _
  | 0, k + 1, F, _, h => by
    have e : cnt 0 F = 0 := cnt_none 0 fun s hs => by
      cases hF : F s with
      | false => rfl
      | true => have := h s hs hF; cases this
    rw [e, kf_zero]
    exact Nat.zero_le _
  | n + 1, k + 1, F, hn, h => by
    have h0 : ∀ s, s < 2 ^ n → F s = true → wgt n s = k + 1 := fun s hs hF => by
      rw [← wgt_lt n s hs]
      exact h s (by rw [Nat.pow_succ]; omega) hF
    have h1 : ∀ s, s < 2 ^ n → F (s + 2 ^ n) = true → wgt n s = k := fun s hs hF => by
      have := h (s + 2 ^ n) (by rw [Nat.pow_succ]; omega) hF
      rw [wgt_ge] at this
      omega
    have k0 := kk n (k + 1) F (by omega) h0
    have k1 := kk n k (fun s => F (s + 2 ^ n)) (by omega) h1
    have c0 := Nat.le_trans (cnt_le h0) (chs_mono (show n ≤ 11 by omega) (k + 1))
    have c1 := Nat.le_trans (cnt_le (F := fun s => F (s + 2 ^ n)) h1) (chs_mono (show n ≤ 11 by omega) k)
    have hp := kf_pair k _ _ c0 c1
    have m0 : cnt n (shw n F) ≤ cnt n (fun s => shw n F s || F (s + 2 ^ n)) := cnt_mono n fun s _ e => by rw [e]; rfl
    have m1 : cnt n (fun s => F (s + 2 ^ n)) ≤ cnt n (fun s => shw n F s || F (s + 2 ^ n)) := cnt_mono n fun s _ e => by
      show (shw n F s || F (s + 2 ^ n)) = true
      rw [show F (s + 2 ^ n) = true from e, Bool.or_true]
    rw [shw_part]
    show kfN (k + 1) (cnt n F + cnt n (fun s => F (s + 2 ^ n))) ≤ _
    omega
end Go.Proofs.Ytmogmkdcplgfjaa
