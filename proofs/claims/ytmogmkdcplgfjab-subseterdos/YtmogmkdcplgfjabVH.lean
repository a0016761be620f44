/- The law SubsetErdos over the contracts. -/
import Derived.Test.YtmogmkdcplgfjabVE
namespace Go.Proofs.Ytmogmkdcplgfjab
open Go.RowKit

theorem wgt_pos : ∀ {n s : Nat}, s < 2 ^ n → s ≠ 0 → 1 ≤ wgt n s
  | 0, s, h, h0 => by
    have : s < 1 := h
    omega
  | n + 1, s, h, h0 => by
    rw [Nat.pow_succ] at h
    unfold wgt
    split
    · exact wgt_pos (by assumption) h0
    · omega
set_option maxRecDepth 100000 in
set_option maxHeartbeats 16000000 in
theorem Erdos_law (FC : FCascade) (FR : FRank) (FX : FCross) (n : Int) (l : List Int) (v : Value) (w : World) (h : Sw w v l) :
    Calls Try.prog 3 #[.int .i64 n, v] w fun e w' => e = .returned (.bool true) ∧ Below w.heap.size w w' := by
  have HS : Hid (∀ W, Below w.heap.size w W → Sw W v l) := fun W b => h.below b
  have H5 : Hid (∀ W, Calls Try.prog 5 #[] W fun e w' => e = .returned (.bool true) ∧ Below W.heap.size W w') := fun W => subsetFact_any FC FR W
  have H6 : Hid (∀ W, Below w.heap.size w W → Calls Try.prog 6 #[.int .i64 n, v] W fun e w' => e = .returned (.tuple #[.bool (crZ n l), .int .i64 (fmF n l : Int)]) ∧ Below W.heap.size W w') := fun W b => FX n l v W (HS.out W b)
  have hB : Below w.heap.size w w := Below.refl _ _
  by_cases h0 : fmF n l = 0
  · obtain ⟨m, rfl, hm, h1, h2, h3, h4⟩ := fm_ok h0
    have e2 : crZ (m : Int) l = twB crP 1 (toN l) := by unfold crZ; rw [decide_eq_true h0, Bool.true_and]
    rw [h0, e2] at H6
    obtain ⟨p, Hp⟩ : ∃ p, Hid (twB crP 1 (toN l) = p) := ⟨_, rfl⟩
    rw [Hp.out] at H6
    cases p with
    | false =>
      clear h h0 e2 h1 h2 h3 h4
      go_enter Try.func3, Try.ntmps3
      go_wp2_with (first
        | (go_at_call 5; refine (H5.out _).mono ?_; rintro e wa ⟨rfl, bb⟩; replace hB := hB.trans (bb.mono hB.size))
        | (go_at_call 6; refine (H6.out _ hB).mono ?_; rintro e wa ⟨rfl, bb⟩; replace hB := hB.trans (bb.mono hB.size))
        | go_in)
      go_ret
      exact ⟨rfl, hB⟩
    | true =>
      obtain ⟨M, HM⟩ : ∃ M, Hid (toN l = M) := ⟨_, rfl⟩
      rw [HM.out] at h1 h2 h3 Hp
      have hbd : ∀ x ∈ M, x < 2 ^ m := fun x hx => by
        obtain ⟨i, hi, e⟩ := List.getElem_of_mem hx
        have := h2 i hi
        rw [List.getD_eq_getElem?_getD, List.getElem?_eq_getElem hi] at this
        rw [← e]; exact this
      have h12 : 2 ^ m ≤ 2 ^ 12 := Nat.pow_le_pow_right (by decide) hm
      have HW : Hid (∀ W, Below w.heap.size w W → Wd W v M) := fun W b => by rw [← HM.out]; exact (HS.out W b).toN h4
      have H7 : Hid (∀ i, i < M.length → ∀ W, Calls Try.prog 7 #[.int .i64 ((M.getD i 0 : Nat) : Int)] W fun e w' => e = .returned (.int .i64 ((wgt m (M.getD i 0) : Nat) : Int)) ∧ w' = W) := fun i hi W => by
        have := h2 i hi
        have h5 := Things_any (M.getD i 0) W (by omega)
        rw [th_is hm this] at h5
        exact h5
      have hcp := cross_pair Hp.out
      have HER : Hid (∀ K : Nat, 1 ≤ K → 2 * K ≤ m → (∀ i, i < M.length → wgt m (M.getD i 0) = K) → M.length ≤ chs (m - 1) (K - 1)) := fun K hk hk2 hw => erdos hm hk hk2 h3.pair hbd (fun x hx => by
        obtain ⟨i, hi, e⟩ := List.getElem_of_mem hx
        have := hw i hi
        rw [List.getD_eq_getElem?_getD, List.getElem?_eq_getElem hi] at this
        rw [← e]; exact this) hcp
      have HPO : Hid (0 < M.length → 1 ≤ wgt m (M.getD 0 0) ∧ 1 ≤ m) := fun h => by
        have hmem := mem_getD h
        have hne : M.getD 0 0 ≠ 0 := fun e => by
          have := hcp _ hmem _ hmem
          rw [e] at this
          exact this rfl
        have hlt := h2 0 h
        refine ⟨wgt_pos hlt hne, ?_⟩
        rcases Nat.lt_or_ge 0 m with h | h
        · exact h
        · have e : m = 0 := by omega
          rw [e] at hlt
          have : M.getD 0 0 < 1 := hlt
          omega
      have HWL : Hid (∀ i, i < M.length → wgt m (M.getD i 0) ≤ m) := fun i hi => wgt_le m _ (h2 i hi)
      have H8 : Hid (∀ (K : Nat) W, 1 ≤ K → 1 ≤ m → Calls Try.prog 8 #[.int .i64 ((m : Int) - 1), .int .i64 ((K : Int) - 1)] W fun e w' => e = .returned (.int .i64 (chs (m - 1) (K - 1) : Int)) ∧ Below W.heap.size W w') := fun K W h5 h6 => by
        have := Ways_any (m - 1) ((K - 1 : Nat) : Int) W (by omega)
        rw [wyN_chs] at this
        rw [show ((m - 1 : Nat) : Int) = (m : Int) - 1 by omega, show ((K - 1 : Nat) : Int) = (K : Int) - 1 by omega] at this
        exact this
      obtain ⟨s, Hs⟩ : ∃ s, Hid (M.length = s) := ⟨_, rfl⟩
      rw [Hs.out] at h1 H7 HER HPO HWL
      obtain ⟨a, c0, hv⟩ : ∃ a c0, v = .slice a s c0 := by obtain ⟨a, c, e, -⟩ := HW.out w hB; exact ⟨a, c, by rw [e, Hs.out]⟩
      subst hv
      have HCE : Hid (∀ W, Below w.heap.size w W → ∀ i, i < s → ∃ b off, a = some ⟨b, off, none⟩ ∧ W.cell? ⟨b, off + i, none⟩ = some (.int .i64 ((M.getD i 0 : Nat) : Int))) := fun W bW i hi => by
        obtain ⟨a', c', e, -, hc⟩ := HW.out W bW
        cases e
        exact hc i (by rw [Hs.out]; exact hi)
      clear h h0 e2 h2 h3 h4 hbd hcp h12
      rcases Nat.lt_or_ge 0 s with hs0 | hs0
      · have hse : ((s : Int) == 0) = false := by simp; omega
        obtain ⟨hK1, hm1⟩ := HPO.out hs0
        have hKm := HWL.out 0 hs0
        obtain ⟨b1, o1, rfl, -⟩ := HCE.out w hB 0 hs0
        have HC0 : Hid (∀ W, Below w.heap.size w W → W.cell? ⟨b1, o1, none⟩ = some (.int .i64 ((M.getD 0 0 : Nat) : Int))) := fun W b => by
          obtain ⟨b', o', e, hc⟩ := HCE.out W b 0 hs0
          cases e
          exact hc
        have C0 := H7.out 0 hs0
        obtain ⟨x0, hx0⟩ : ∃ x0, Hid (M.getD 0 0 = x0) := ⟨_, rfl⟩
        obtain ⟨K, HK⟩ : ∃ K, Hid (wgt m (M.getD 0 0) = K) := ⟨_, rfl⟩
        rw [HK.out] at hK1 hKm C0
        rw [hx0.out] at HC0 C0
        have hs0i : (0 : Int) < (s : Int) := by omega
        go_enter Try.func3, Try.ntmps3
        go_wp2_with (first
          | (go_at_call 5; refine (H5.out _).mono ?_; rintro e wa ⟨rfl, bb⟩; replace hB := hB.trans (bb.mono hB.size))
          | (go_at_call 6; refine (H6.out _ hB).mono ?_; rintro e wa ⟨rfl, bb⟩; replace hB := hB.trans (bb.mono hB.size); have hc0 := HC0.out _ hB)
          | (go_at_call 7; refine (C0 _).mono ?_; rintro e wa ⟨rfl, hw⟩; subst wa; clear C0 hc0)
          | go_in)
        go_loopw [9] (fun iv wr => ∃ (i : Nat), iv = .int .i64 (i : Int) ∧ i ≤ s ∧ Hid (∀ j, j < i → wgt m (M.getD j 0) = K) ∧ Below w.heap.size w wr) (fun iv _ => (s - intOf iv).toNat)
        case atStart => exact ⟨0, rfl, by omega, (show ∀ j, j < 0 → _ from fun j h => by omega), hB⟩
        case round =>
          clear hB
          obtain ⟨i, rfl, hi, HI, hB⟩ := hrel
          by_cases hlt : i < s
          · have hdi : decide ((i : Int) < (s : Int)) = true := by simp; omega
            have hii : (i : Int) < (s : Int) := by omega
            obtain ⟨b2, o2, e2, c1⟩ := HCE.out wr hB i hlt
            cases e2
            have C := H7.out i hlt
            obtain ⟨x, hx⟩ : ∃ x, Hid (M.getD i 0 = x) := ⟨_, rfl⟩
            rw [hx.out] at c1 C
            obtain ⟨t, ht⟩ : ∃ t, Hid (wgt m x = t) := ⟨_, rfl⟩
            rw [ht.out] at C
            by_cases htk : t = K
            · have hte : ((t : Int) != (K : Int)) = false := by simp; omega
              have HI2 : Hid (∀ j, j < i + 1 → wgt m (M.getD j 0) = K) := fun j hj => by
                by_cases e : j = i
                · rw [e, hx.out, ht.out]; exact htk
                · exact HI.out j (by omega)
              clear htk HI
              go_wp2_with (first
                | (go_at_call 7; refine (C _).mono ?_; rintro e w2 ⟨rfl, hw⟩; subst w2; clear C)
                | go_in)
              go_roundw
              case rel => exact ⟨i + 1, by go_num, by omega, HI2, hB⟩
              case measure => simp [intOf]; omega
            · have hte : ((t : Int) != (K : Int)) = true := by simp; omega
              clear htk HI
              go_wp2_with (first
                | (go_at_call 7; refine (C _).mono ?_; rintro e w2 ⟨rfl, hw⟩; subst w2; clear C)
                | go_in)
              go_ret
              exact ⟨rfl, hB⟩
          · have hdi : decide ((i : Int) < (s : Int)) = false := by simp; omega
            obtain rfl : i = s := by omega
            have C := fun W => H8.out K W hK1 hm1
            have her := HER.out K hK1
            obtain ⟨q, hq⟩ : ∃ q, Hid (chs (m - 1) (K - 1) = q) := ⟨_, rfl⟩
            rw [hq.out] at C her
            have hmw : IntKind.i64.wrap ((m : Int) - 1) = (m : Int) - 1 := IntWalk.i64_in _ (by omega)
            have hKw : IntKind.i64.wrap ((K : Int) - 1) = (K : Int) - 1 := IntWalk.i64_in _ (by omega)
            have h2w : IntKind.i64.wrap (2 * (K : Int)) = 2 * (K : Int) := IntWalk.i64_in _ (by omega)
            by_cases h2K : 2 * K ≤ m
            · have hle := her h2K HI.out
              have hd1 : decide ((m : Int) < 2 * (K : Int)) = false := by simp; omega
              have hd2 : decide (i ≤ q) = true := by simpa using hle
              clear her
              go_wp2_with (first
                | (go_at_call 8; refine (C _).mono ?_; rintro e w2 ⟨rfl, bb⟩; replace hB := hB.trans (bb.mono hB.size); clear C)
                | go_in)
              go_ret
              exact ⟨rfl, hB⟩
            · have hd1 : decide ((m : Int) < 2 * (K : Int)) = true := by simp; omega
              clear her
              go_wp2_with (first
                | (go_at_call 8; refine (C _).mono ?_; rintro e w2 ⟨rfl, bb⟩; replace hB := hB.trans (bb.mono hB.size); clear C)
                | go_in)
              go_ret
              exact ⟨rfl, hB⟩
      · obtain rfl : s = 0 := by omega
        go_enter Try.func3, Try.ntmps3
        go_wp2_with (first
          | (go_at_call 5; refine (H5.out _).mono ?_; rintro e wa ⟨rfl, bb⟩; replace hB := hB.trans (bb.mono hB.size))
          | (go_at_call 6; refine (H6.out _ hB).mono ?_; rintro e wa ⟨rfl, bb⟩; replace hB := hB.trans (bb.mono hB.size))
          | go_in)
        go_ret
        exact ⟨rfl, hB⟩
  · obtain ⟨f, Hf⟩ : ∃ f, Hid (fmF n l = f) := ⟨_, rfl⟩
    obtain ⟨p, Hp⟩ : ∃ p, Hid (crZ n l = p) := ⟨_, rfl⟩
    rw [Hf.out, Hp.out] at H6
    rw [Hf.out] at h0
    have hf0 : ((f : Int) != 0) = true := by simp; omega
    clear h h0
    go_enter Try.func3, Try.ntmps3
    go_wp2_with (first
      | (go_at_call 5; refine (H5.out _).mono ?_; rintro e wa ⟨rfl, bb⟩; replace hB := hB.trans (bb.mono hB.size))
      | (go_at_call 6; refine (H6.out _ hB).mono ?_; rintro e wa ⟨rfl, bb⟩; replace hB := hB.trans (bb.mono hB.size))
      | go_in)
    go_ret
    exact ⟨rfl, hB⟩
end Go.Proofs.Ytmogmkdcplgfjab
