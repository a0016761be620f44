/- Tallies: maps of numbers; the walks of unlike, turns, turnsOver. -/
import Derived.Test.YtmaplmgecohjbaaC2
import Derived.Maps.RangeWalk
import Derived.Maps.OwnSet
namespace Go.Proofs.Ytmaplmgecohjbaa
open Go.RowKit Go.Maps

theorem und63 : Try.prog.underlying 63 = some (.map 3 3) := by kernel_rfl
theorem law3 : Keyed Try.prog 3 := int_keyed und3
theorem zero3 (w : World) : (zeroValue 3).run Try.prog w = .ok (.int .i64 0) w := by kernel_rfl

/-- What a map of numbers reads as: at c below N the number T c, where that is not nought. -/
structure TallyIs (D : DataW Unit) (T : Nat → Int) (N : Nat) : Prop where
  has : ∀ x : Int, Maps.has D (.int .i64 x) = true ↔ ∃ c : Nat, c < N ∧ x = c ∧ T c ≠ 0
  at_ : ∀ c, c < N → T c ≠ 0 → ∀ z, D.atKey (.int .i64 (c : Int)) z = .lit (.int .i64 (T c))
theorem TallyIs.empty (N : Nat) : TallyIs (.map []) (fun _ => 0) N := ⟨fun x => ⟨fun h => by simp [Maps.has] at h, fun ⟨_, _, _, h⟩ => absurd rfl h⟩, fun _ _ h => absurd rfl h⟩
theorem TallyIs.congr {D : DataW Unit} {T T' : Nat → Int} {N : Nat} (h : TallyIs D T N) (e : ∀ c, T c = T' c) : TallyIs D T' N := by
  have : T = T' := funext e
  rw [← this]; exact h
theorem TallyIs.look {D : DataW Unit} {T : Nat → Int} {N c : Nat} (h : TallyIs D T N) (hc : c < N) {x : Int} (hat : D.atKey (.int .i64 (c : Int)) (.lit (.int .i64 0)) = .lit (.int .i64 x)) : x = T c := by
  by_cases e : T c = 0
  · have hn : Maps.has D (.int .i64 (c : Int)) = false := by
      cases hh : Maps.has D (.int .i64 (c : Int)) with
      | false => rfl
      | true =>
        obtain ⟨c', _, e1, e2⟩ := (h.has _).1 hh
        obtain rfl : c = c' := by omega
        exact absurd e e2
    rw [atKey_of_not_has hn] at hat
    simp only [DataW.lit.injEq, Lit.int.injEq, true_and] at hat
    omega
  · rw [h.at_ c hc e] at hat
    simp only [DataW.lit.injEq, Lit.int.injEq, true_and] at hat
    omega
theorem TallyIs.put {D : DataW Unit} {T : Nat → Int} {N c : Nat} (h : TallyIs D T N) (hD : IsMap D) (hc : c < N) {v : Int} (hv : v ≠ 0) : TallyIs (D.put (.int .i64 (c : Int)) (.lit (.int .i64 v))) (upd T c v) N := by
  have hk : WideAt.IsKeyLit (.int .i64 (c : Int)) := trivial
  refine ⟨fun x => ?_, fun c' hc' hne z => ?_⟩
  · by_cases e : x = c
    · subst e
      rw [has_put_same hD hk]
      exact ⟨fun _ => ⟨c, hc, rfl, by simpa [upd] using hv⟩, fun _ => rfl⟩
    · rw [has_put_other (by simpa using e), h.has]
      refine ⟨fun ⟨c', h1, h2, h3⟩ => ⟨c', h1, h2, ?_⟩, fun ⟨c', h1, h2, h3⟩ => ⟨c', h1, h2, ?_⟩⟩
      · unfold upd; rw [if_neg (by omega)]; exact h3
      · unfold upd at h3; rw [if_neg (by omega)] at h3; exact h3
  · by_cases e : c' = c
    · subst e
      rw [atKey_put_same hD hk]
      simp [upd]
    · rw [atKey_put_other (by simp; omega)]
      unfold upd at hne ⊢
      rw [if_neg e] at hne ⊢
      exact h.at_ c' hc' hne z

/-- The sum of what has come. -/
noncomputable def sumLeft (T : Nat → Int) (left : Lit → Bool) (N : Nat) : Int := sumN (fun c => if left (.int .i64 (c : Int)) then 0 else T c) N
theorem sumLeft_le {T : Nat → Int} {left : Lit → Bool} {N : Nat} (h : ∀ c, 0 ≤ T c) : sumLeft T left N ≤ sumN T N := sumN_le fun c _ => by
  have := h c
  split <;> omega
theorem sumLeft_nonneg {T : Nat → Int} {left : Lit → Bool} {N : Nat} (h : ∀ c, 0 ≤ T c) : 0 ≤ sumLeft T left N := sumN_nonneg fun c _ => by
  have := h c
  split <;> omega
theorem sumLeft_all {T : Nat → Int} {left : Lit → Bool} {N : Nat} (h : ∀ kl, left kl = false) : sumLeft T left N = sumN T N := sumN_congr fun c _ => by rw [if_neg (by simp [h])]
theorem sumLeft_strike {T : Nat → Int} {left : Lit → Bool} {N c : Nat} (hc : c < N) (h : left (.int .i64 (c : Int)) = true) : sumLeft T (fun z => left z && !z.sameKey (.int .i64 (c : Int))) N = sumLeft T left N + T c := by
  unfold sumLeft
  have hs : (Lit.int .i64 (c : Int)).sameKey (.int .i64 (c : Int)) = true := WideAt.sameKey_self trivial
  rw [sumN_turn (f := fun c => if left (.int .i64 (c : Int)) then 0 else T c) (q := c) hc fun i hi => by
    have : (Lit.int .i64 (i : Int)).sameKey (.int .i64 (c : Int)) = false := sameKey_ne (by simp; omega)
    simp [this]]
  simp [h, hs]
theorem sumLeft_start {D : DataW Unit} {T : Nat → Int} {N : Nat} (h : TallyIs D T N) (S : Nat → Int) (hS : ∀ c, T c = 0 → S c = 0) : sumLeft S (Maps.has D) N = 0 := by
  unfold sumLeft
  rw [sumN_congr (g := fun _ => 0) fun c hc => ?_, sumN_zero]
  by_cases e : T c = 0
  · simp [hS c e]
  · rw [if_pos ((h.has _).2 ⟨c, hc, rfl, e⟩)]
theorem term_le {f : Nat → Int} {q : Nat} : ∀ {n : Nat}, q < n → (∀ i, 0 ≤ f i) → f q ≤ sumN f n
  | 0, h, _ => by omega
  | n + 1, h, h0 => by
    rw [sumN]
    by_cases e : q = n
    · subst e; have := sumN_nonneg (f := f) (n := q) fun i _ => h0 i; omega
    · have := term_le (f := f) (q := q) (n := n) (by omega) h0; have := h0 n; omega

set_option maxRecDepth 100000 in
set_option maxHeartbeats 1000000 in
theorem unlike_any (B n k N : Nat) (D : DataW Unit) (T : Nat → Int) (w : World) (hown : w.ownsMap Try.prog 3 (plainElem Try.prog 3) B n D) (hT : TallyIs D T N) (hT0 : ∀ c, 0 ≤ T c) (hk : 1 ≤ k) (hkk : k < 9223372036854775808)
    (hN : N ≤ 1000) (hs : sumN (fun c => T c * ((k ^ c : Nat) : Int)) N < 9223372036854775808) (hm : 0 < sumN T N) :
    Calls Try.prog 46 #[.map (some B), .int .i64 (k : Int)] w fun e w' => e = .returned (.int .i64 ((sumN (fun c => T c * ((k ^ c : Nat) : Int)) N).tdiv (sumN T N))) ∧ Below w.heap.size w w' := by
  obtain ⟨S, HS⟩ : ∃ S : Nat → Int, Hid ((fun c => T c * ((k ^ c : Nat) : Int)) = S) := ⟨_, rfl⟩
  rw [HS.out] at hs ⊢
  have hSc : ∀ c, S c = T c * ((k ^ c : Nat) : Int) := fun c => by rw [← HS.out]
  have hS0 : ∀ c, 0 ≤ S c := fun c => by rw [hSc]; exact Int.mul_nonneg (hT0 c) (Int.natCast_nonneg _)
  have hTS : ∀ c, T c ≤ S c := fun c => by
    rw [hSc]
    have h1 : (1 : Int) ≤ ((k ^ c : Nat) : Int) := by have := Nat.pow_pos (n := c) (show 0 < k by omega); omega
    have := Int.mul_le_mul_of_nonneg_left h1 (hT0 c)
    omega
  have hle : sumN T N ≤ sumN S N := sumN_le fun c _ => hTS c
  have HA : Hid ((∀ c, 0 ≤ T c) ∧ (∀ c, 0 ≤ S c) ∧ TallyIs D T N ∧ (∀ c, S c = T c * ((k ^ c : Nat) : Int)) ∧ sumN S N < 9223372036854775808 ∧ 0 < sumN T N ∧ sumN T N ≤ sumN S N) := ⟨hT0, hS0, hT, hSc, hs, hm, hle⟩
  have hst1 := sumLeft_start hT T (fun _ h => h)
  have hst2 := sumLeft_start hT S (fun c h => by rw [hSc, h, Int.zero_mul])
  have HST : Hid (sumLeft T (Maps.has D) N = 0 ∧ sumLeft S (Maps.has D) N = 0) := ⟨hst1, hst2⟩
  have hbl := hown.lt
  obtain ⟨R, HR⟩ : ∃ R : Int, Hid ((sumN S N).tdiv (sumN T N) = R) := ⟨_, rfl⟩
  rw [HR.out]
  clear hT0 hT hSc hS0 hTS hle hs hm hst1 hst2 HS
  go_enter Try.func46, Try.ntmps46
  go_wp2_with (first
    | (at_range; refine wpList_range_own _ rfl _ 63 rfl 3 3 law3 und63 _ B n _ rfl hown ?_; intro w0 hrg0 hg0 hs0)
    | go_in)
  go_frame
  go_loopw [5, 6] (fun a b wr => ∃ (left : Lit → Bool) (cnt : Nat), wr.ranges Try.prog 3 (plainElem Try.prog 3) B w.heap.size n D left cnt ∧ a = .int .i64 (sumLeft T left N) ∧ b = .int .i64 (sumLeft S left N) ∧ Below w.heap.size w wr)
    (fun _ _ wr => wr.rangeLeft B w.heap.size)
  case atStart =>
    exact ⟨_, _, hrg0, by rw [HST.out.1], by rw [HST.out.2], (Below.refl _ _).grown hg0 (Nat.le_refl _) (fun j hj => by cases hj)⟩
  case round =>
    clear HST hrg0 hg0 hs0
    obtain ⟨left, cnt, hrg, rfl, rfl, hnx⟩ := hrel
    obtain ⟨t, Ht⟩ : ∃ t, Hid (sumLeft T left N = t) := ⟨_, rfl⟩
    obtain ⟨s, Hs⟩ : ∃ s, Hid (sumLeft S left N = s) := ⟨_, rfl⟩
    rw [Ht.out, Hs.out]
    go_wp2_with (first
      | (at_next; refine wpList_next_ranges_ii _ rfl _ rfl 3 3 .i64 .i64 law3 und3 und3 B w.heap.size n _ _ _ rfl hrg ?_ ?_)
      | go_in)
    · intro hc0 hl0
      have e1 : t = sumN T N := by rw [← Ht.out, sumLeft_all hl0]
      have e2 : s = sumN S N := by rw [← Hs.out, sumLeft_all hl0]
      obtain ⟨h1, h2, h3, h4, h5, h6, h7⟩ := HA.out
      rw [← e1] at h6 h7
      rw [← e2] at h5 h7
      have HRR : Hid (s / t = R) := by
        show s / t = R
        rw [← HR.out, ← e1, ← e2, Int.tdiv_eq_ediv_of_nonneg (by omega)]
      have hRb : R ≤ s := by rw [← HRR.out]; exact Int.ediv_le_self _ (by omega)
      have hR0 : 0 ≤ R := by rw [← HRR.out]; exact Int.ediv_nonneg (by omega) (by omega)
      have ht0 : t ≠ 0 := by omega
      have hRR := HRR.out
      clear h1 h2 h3 h4 e1 e2 hl0
      go_wp2
      go_ret
      exact ⟨ret_int hRR, hnx⟩
    · intro x c w1 cnt1 hwx hwc hlx hat hrg1 hlt hg1 hs1 hen
      obtain ⟨h1, h2, h3, h4, h5, h6, h7⟩ := HA.out
      obtain ⟨q, hq, rfl, hq0⟩ := (h3.has x).1 (has_true_of_atKey hat)
      have hcq : c = T q := by
        have := hat (.lit (.int .i64 0))
        rw [h3.at_ q hq hq0] at this
        simp only [DataW.lit.injEq, Lit.int.injEq, true_and] at this
        exact this.symm
      subst hcq
      have es1 := sumLeft_strike (T := T) hq hlx
      have es2 := sumLeft_strike (T := S) hq hlx
      rw [Ht.out] at es1
      rw [Hs.out] at es2
      have ht0 : 0 ≤ t := by rw [← Ht.out]; exact sumLeft_nonneg h1
      have hs0 : 0 ≤ s := by rw [← Hs.out]; exact sumLeft_nonneg h2
      have hl1 : t + T q ≤ sumN T N := by rw [← es1]; exact sumLeft_le h1
      have hl2 : s + S q ≤ sumN S N := by rw [← es2]; exact sumLeft_le h2
      have hTq := h1 q
      have hSq := h2 q
      have hSe := h4 q
      obtain ⟨p, Hp⟩ : ∃ p : Nat, Hid (k ^ q = p) := ⟨_, rfl⟩
      have hpl : k ^ q < 9223372036854775808 := by
        have hT1 : 1 ≤ T q := by omega
        have := Int.mul_le_mul_of_nonneg_right hT1 (Int.natCast_nonneg (k ^ q))
        rw [← hSe] at this
        omega
      have hP := power_any k q w1 (by omega) hpl (by omega)
      rw [Hp.out] at hSe hP
      rw [Hp.out] at hpl
      obtain ⟨tq, Htq⟩ : ∃ tq, Hid (T q = tq) := ⟨_, rfl⟩
      obtain ⟨sq, Hsq⟩ : ∃ sq, Hid (S q = sq) := ⟨_, rfl⟩
      rw [Htq.out] at hen hTq hSe es1 hl1 ⊢
      rw [Hsq.out] at hSq hSe es2 hl2
      have hmul : tq * (p : Int) = sq := hSe.symm
      have hb1 : t + tq < 9223372036854775808 := by omega
      have hb2 : s + sq < 9223372036854775808 := by omega
      have hsq2 : sq < 9223372036854775808 := by omega
      have HE : Hid (sumLeft T (fun z => left z && !z.sameKey (.int .i64 (q : Int))) N = t + tq ∧ sumLeft S (fun z => left z && !z.sameKey (.int .i64 (q : Int))) N = s + sq) := ⟨es1, es2⟩
      clear h1 h2 h3 h4 h5 h6 h7 es1 es2 hat hq0 hwx hwc hSe hl1 hl2
      go_wp2_with (go_at_call 66; refine hP.mono ?_; rintro e w2 ⟨rfl, rfl⟩)
      go_roundw
      case rel =>
        exact ⟨_, cnt1, hrg1, by rw [HE.out.1], by rw [HE.out.2], hnx.grown hg1 hnx.size (fun j hj => by cases hj; exact Nat.le_refl _)⟩
      case measure => rw [hrg1.left_eq, hrg.left_eq]; exact hlt

end Go.Proofs.Ytmaplmgecohjbaa
