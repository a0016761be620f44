/- The law SubsetLubell over the contracts. -/
import Derived.Test.YtmogmkdcplgfjaaVF
namespace Go.Proofs.Ytmogmkdcplgfjaa
open Go.RowKit

theorem sumN_part {f : Nat → Nat} {i n : Nat} (h : i ≤ n) : sumN i f ≤ sumN n f := by
  induction h with
  | refl => exact Nat.le_refl _
  | step _ ih => exact Nat.le_trans ih (Nat.le_add_right _ _)
set_option maxRecDepth 100000 in
set_option maxHeartbeats 16000000 in
theorem Lubell_law (FC : FCascade) (FR : FRank) (FA : FApart) (n : Int) (l : List Int) (v : Value) (w : World) (h : Sw w v l) :
    Calls Try.prog 8 #[.int .i64 n, v] w fun e w' => e = .returned (.bool true) ∧ Below w.heap.size w w' := by
  have HS : Hid (∀ W, Below w.heap.size w W → Sw W v l) := fun W b => h.below b
  have H30 : Hid (∀ W, Calls Try.prog 30 #[] W fun e w' => e = .returned (.bool true) ∧ Below W.heap.size W w') := fun W => subsetFact_any FC FR W
  have H18 : Hid (∀ W, Below w.heap.size w W → Calls Try.prog 18 #[.int .i64 n, v] W fun e w' => e = .returned (.tuple #[.bool (apZ n l), .int .i64 (fmF n l : Int)]) ∧ Below W.heap.size W w') := fun W b => FA n l v W (HS.out W b)
  have hB : Below w.heap.size w w := Below.refl _ _
  by_cases h0 : fmF n l = 0
  · obtain ⟨m, rfl, hm, h1, h2, h3, h4⟩ := fm_ok h0
    have e2 : apZ (m : Int) l = twB apP 0 (toN l) := by unfold apZ; rw [decide_eq_true h0, Bool.true_and]
    rw [h0, e2] at H18
    obtain ⟨p, Hp⟩ : ∃ p, Hid (twB apP 0 (toN l) = p) := ⟨_, rfl⟩
    rw [Hp.out] at H18
    cases p with
    | false =>
      clear h h0 e2 h1 h2 h3 h4
      go_enter Try.func8, Try.ntmps8
      go_wp2_with (first
        | (go_at_call 30; refine (H30.out _).mono ?_; rintro e wa ⟨rfl, bb⟩; replace hB := hB.trans (bb.mono hB.size))
        | (go_at_call 18; refine (H18.out _ hB).mono ?_; rintro e wa ⟨rfl, bb⟩; replace hB := hB.trans (bb.mono hB.size))
        | go_in)
      go_ret
      exact ⟨rfl, hB⟩
    | true =>
      obtain ⟨M, HM⟩ : ∃ M, Hid (toN l = M) := ⟨_, rfl⟩
      rw [HM.out] at h1 h2 h3 Hp
      have hbd : ∀ x ∈ M, x < 2 ^ m := fun x hx => by
        obtain ⟨i, hi, e⟩ := List.getElem_of_mem hx
        have := h2 i hi
        rw [List.getD_eq_getElem?_getD, List.getElem?_eq_getElem hi] at this
        rw [← e]; exact this
      have h12 : 2 ^ m ≤ 2 ^ 12 := Nat.pow_le_pow_right (by decide) hm
      have HW : Hid (∀ W, Below w.heap.size w W → Wd W v M) := fun W b => by rw [← HM.out]; exact (HS.out W b).toN h4
      have H31 : Hid (∀ i, i < M.length → ∀ W, Calls Try.prog 31 #[.int .i64 ((M.getD i 0 : Nat) : Int)] W fun e w' => e = .returned (.int .i64 ((wgt m (M.getD i 0) : Nat) : Int)) ∧ w' = W) := fun i hi W => by
        have := h2 i hi
        have h5 := Things_any (M.getD i 0) W (by omega)
        rw [th_is hm this] at h5
        exact h5
      have HWL : Hid (∀ i, i < M.length → wgt m (M.getD i 0) ≤ m) := fun i hi => wgt_le m _ (h2 i hi)
      have H32 : Hid (∀ (t : Nat) W, t ≤ m → Calls Try.prog 32 #[.int .i64 (t : Int)] W fun e w' => e = .returned (.int .i64 ((fac t : Nat) : Int)) ∧ w' = W) := fun t W ht => Factorial_any t W (by omega)
      have H33 : Hid (∀ W, Calls Try.prog 33 #[.int .i64 (m : Int), .int .i64 ((m / 2 : Nat) : Int)] W fun e w' => e = .returned (.int .i64 (chs m (m / 2) : Int)) ∧ Below W.heap.size W w') := fun W => by
        have := Ways_any m ((m / 2 : Nat) : Int) W (by omega)
        rw [wyN_chs] at this
        exact this
      have hlub := lubell hbd Hp.out
      have hspe := sperner hm hbd Hp.out
      have hfm : fac m ≤ 479001600 := Nat.le_trans (fac_le hm) (by decide)
      obtain ⟨G, HG⟩ : ∃ G : Nat → Nat, Hid ((fun i => fac (wgt m (M.getD i 0)) * fac (m - wgt m (M.getD i 0))) = G) := ⟨_, rfl⟩
      rw [HG.out] at hlub
      have HGA : Hid (∀ i, sumN (i + 1) G = sumN i G + fac (wgt m (M.getD i 0)) * fac (m - wgt m (M.getD i 0))) := fun i => by rw [← HG.out]; rfl
      have HGL : Hid (∀ i, i ≤ M.length → sumN i G ≤ fac m) := fun i hi => Nat.le_trans (sumN_part hi) hlub
      obtain ⟨s, Hs⟩ : ∃ s, Hid (M.length = s) := ⟨_, rfl⟩
      rw [Hs.out] at h1 H31 HWL hlub hspe HGL
      obtain ⟨A, HA⟩ : ∃ A, Hid (fac m = A) := ⟨_, rfl⟩
      obtain ⟨c, Hc⟩ : ∃ c, Hid (chs m (m / 2) = c) := ⟨_, rfl⟩
      obtain ⟨d, Hd⟩ : ∃ d, Hid (m / 2 = d) := ⟨_, rfl⟩
      have ed : (m : Int).tdiv 2 = (d : Int) := by rw [← Hd.out]; rfl
      have hdm : d ≤ m := by rw [← Hd.out]; exact Nat.div_le_self _ _
      rw [HA.out] at hlub hfm HGL
      rw [Hc.out] at hspe H33
      rw [Hd.out] at H33
      have D32 : Hid (∀ W, Calls Try.prog 32 #[.int .i64 (m : Int)] W fun e w' => e = .returned (.int .i64 (A : Int)) ∧ w' = W) := fun W => by rw [← HA.out]; exact H32.out m W (Nat.le_refl _)
      have hdc : decide (s ≤ c) = true := by simpa using hspe
      have hdw : IntKind.i64.wrap (d : Int) = (d : Int) := IntWalk.i64_in _ (by omega)
      obtain ⟨a, c0, hv⟩ : ∃ a c0, v = .slice a s c0 := by obtain ⟨a, c, e, -⟩ := HW.out w hB; exact ⟨a, c, by rw [e, Hs.out]⟩
      subst hv
      have HCE : Hid (∀ W, Below w.heap.size w W → ∀ i, i < s → ∃ b off, a = some ⟨b, off, none⟩ ∧ W.cell? ⟨b, off + i, none⟩ = some (.int .i64 ((M.getD i 0 : Nat) : Int))) := fun W bW i hi => by
        obtain ⟨a', c', e, -, hc⟩ := HW.out W bW
        cases e
        exact hc i (by rw [Hs.out]; exact hi)
      clear h h0 e2 h2 h3 h4 hbd
      go_enter Try.func8, Try.ntmps8
      go_wp2_with (first
        | (go_at_call 30; refine (H30.out _).mono ?_; rintro e wa ⟨rfl, bb⟩; replace hB := hB.trans (bb.mono hB.size))
        | (go_at_call 18; refine (H18.out _ hB).mono ?_; rintro e wa ⟨rfl, bb⟩; replace hB := hB.trans (bb.mono hB.size))
        | (go_at_call 32; refine (D32.out _).mono ?_; rintro e wa ⟨rfl, hw⟩; subst wa)
        | go_in)
      go_loopw [9, 10] (fun sv iv wr => ∃ (i q : Nat), iv = .int .i64 (i : Int) ∧ sv = .int .i64 (q : Int) ∧ i ≤ s ∧ Hid (sumN i G = q) ∧ Below w.heap.size w wr) (fun _ iv _ => (s - intOf iv).toNat)
      case atStart => exact ⟨0, 0, rfl, rfl, by omega, rfl, hB⟩
      case round =>
        clear hB
        obtain ⟨i, q, rfl, rfl, hi, HQ, hB⟩ := hrel
        by_cases hlt : i < s
        · have hdi : decide ((i : Int) < (s : Int)) = true := by simp; omega
          have hii : (i : Int) < (s : Int) := by omega
          obtain ⟨b1, o1, rfl, c1⟩ := HCE.out wr hB i hlt
          have C := H31.out i hlt
          have hwl := HWL.out i hlt
          have hga := HGA.out i
          have hgl := HGL.out (i + 1) (by omega)
          rw [hga, HQ.out] at hgl
          rw [HQ.out] at hga
          obtain ⟨x, hx⟩ : ∃ x, Hid (M.getD i 0 = x) := ⟨_, rfl⟩
          rw [hx.out] at c1 C hga hwl hgl
          obtain ⟨t, ht⟩ : ∃ t, Hid (wgt m x = t) := ⟨_, rfl⟩
          rw [ht.out] at C hga hwl hgl
          have C1 := fun W => H32.out t W hwl
          have C2 := fun W => H32.out (m - t) W (Nat.sub_le _ _)
          have emt : ((m - t : Nat) : Int) = (m : Int) - (t : Int) := by omega
          rw [emt] at C2
          obtain ⟨f1, hf1⟩ : ∃ f1, Hid (fac t = f1) := ⟨_, rfl⟩
          obtain ⟨f2, hf2⟩ : ∃ f2, Hid (fac (m - t) = f2) := ⟨_, rfl⟩
          rw [hf1.out] at C1 hga hgl
          rw [hf2.out] at C2 hga hgl
          obtain ⟨r, hr⟩ : ∃ r, Hid (f1 * f2 = r) := ⟨_, rfl⟩
          have er : (f1 : Int) * (f2 : Int) = (r : Int) := by rw [← hr.out]; simp
          rw [hr.out] at hga hgl
          have HQ2 : Hid (sumN (i + 1) G = q + r) := hga
          have hrw : IntKind.i64.wrap (r : Int) = (r : Int) := IntWalk.i64_in _ (by omega)
          have hqw : IntKind.i64.wrap ((q : Int) + (r : Int)) = (q : Int) + (r : Int) := IntWalk.i64_in _ (by omega)
          have hmw : IntKind.i64.wrap ((m : Int) - (t : Int)) = (m : Int) - (t : Int) := IntWalk.i64_in _ (by omega)
          clear hga emt
          go_wp2_with (first
            | (go_at_call 31; refine (C _).mono ?_; rintro e w2 ⟨rfl, hw⟩; subst w2; clear C)
            | (go_at_call_of 32 (Value.int .i64 (t : Int)); refine (C1 _).mono ?_; rintro e w2 ⟨rfl, hw⟩; subst w2; clear C1)
            | (go_at_call_of 32 (Value.int .i64 ((m : Int) - (t : Int))); refine (C2 _).mono ?_; rintro e w2 ⟨rfl, hw⟩; subst w2; clear C2)
            | go_in)
          go_roundw
          case rel => exact ⟨i + 1, q + r, by go_num, by go_num, by omega, HQ2, hB⟩
          case measure => simp [intOf]; omega
        · have hdi : decide ((i : Int) < (s : Int)) = false := by simp; omega
          obtain rfl : i = s := by omega
          have hqA : q ≤ A := by have := HGL.out i (Nat.le_refl _); rw [HQ.out] at this; exact this
          have hdq : decide (q ≤ A) = true := by simpa using hqA
          go_wp2_with (first
            | (go_at_call 33; refine (H33.out _).mono ?_; rintro e wa ⟨rfl, bb⟩; replace hB := hB.trans (bb.mono hB.size))
            | go_in)
          go_ret
          exact ⟨rfl, hB⟩
  · obtain ⟨f, Hf⟩ : ∃ f, Hid (fmF n l = f) := ⟨_, rfl⟩
    obtain ⟨p, Hp⟩ : ∃ p, Hid (apZ n l = p) := ⟨_, rfl⟩
    rw [Hf.out, Hp.out] at H18
    rw [Hf.out] at h0
    have hf0 : ((f : Int) != 0) = true := by simp; omega
    clear h h0
    go_enter Try.func8, Try.ntmps8
    go_wp2_with (first
      | (go_at_call 30; refine (H30.out _).mono ?_; rintro e wa ⟨rfl, bb⟩; replace hB := hB.trans (bb.mono hB.size))
      | (go_at_call 18; refine (H18.out _ hB).mono ?_; rintro e wa ⟨rfl, bb⟩; replace hB := hB.trans (bb.mono hB.size))
      | go_in)
    go_ret
    exact ⟨rfl, hB⟩
end Go.Proofs.Ytmogmkdcplgfjaa
