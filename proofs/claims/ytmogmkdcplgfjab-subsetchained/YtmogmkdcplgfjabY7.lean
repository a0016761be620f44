/- The faces Rank, Unrank, Cascade, Least and Check. -/
import Derived.Test.YtmogmkdcplgfjabY6
import Derived.Test.YtmogmkdcplgfjabVQ
namespace Go.Proofs.Ytmogmkdcplgfjab
open Go.RowKit

def FCheck : Prop := ∀ (n : Int) (l : List Int) (v : Value) (w : World), Sw w v l → Calls Try.prog 13 #[.int .i64 n, v] w fun e w' => e = .returned (.int .i64 (fmF n l : Int)) ∧ Below w.heap.size w w'
set_option maxRecDepth 100000 in
set_option maxHeartbeats 4000000 in
theorem Rank_face : FRank := by
  intro l v w hS
  have HF : rkF l = if 30 < l.length then 3 else if upB 60 l = true then (if rsB l = true then 0 else 2) else 1 := riF_asks
  by_cases h30 : 30 < l.length
  · rw [if_pos h30] at HF
    have HZ : rkZ l = 0 := by unfold rkZ; rw [if_neg (by rw [HF]; decide)]
    rw [HF, HZ]
    obtain ⟨⟨a, c, rfl, -⟩, -, -⟩ := hS
    obtain ⟨n, Hn⟩ : ∃ n, Hid (l.length = n) := ⟨_, rfl⟩
    rw [Hn.out] at h30 ⊢
    have hd : decide ((30 : Int) < (n : Int)) = true := by simp; omega
    clear HF HZ
    go_enter Try.func12, Try.ntmps12
    go_wp2
    go_ret2
    exact ⟨rfl, Below.refl _ _⟩
  · rw [if_neg h30] at HF
    have C34 := areUpTo_any 60 l v w hS.1 (by omega)
    have C35 := rises_any l v w hS.1 (by omega)
    have C36 : rkF l = 0 → Calls Try.prog 20 #[v] w fun e w' => e = .returned (.int .i64 (rkZ l : Int)) ∧ Below w.heap.size w w' := fun h0 => by
      obtain ⟨h1, h2, h3, h4⟩ := rises_ok h0
      have e : rkZ l = rkS (toN l) (toN l).length := by unfold rkZ; rw [if_pos h0]
      rw [e]
      exact prank_any (toN l) v w (hS.toN h4) h3 h1 fun i hi => by have := h2 i hi; omega
    have HW : Hid (∀ W, Below w.heap.size w W → rkF l = 0 → Calls Try.prog 20 #[v] W fun e w' => e = .returned (.int .i64 (rkZ l : Int)) ∧ Below W.heap.size W w') := fun W b h0 => by
      obtain ⟨h1, h2, h3, h4⟩ := rises_ok h0
      have e : rkZ l = rkS (toN l) (toN l).length := by unfold rkZ; rw [if_pos h0]
      rw [e]
      exact prank_any (toN l) v W ((hS.below b).toN h4) h3 h1 fun i hi => by have := h2 i hi; omega
    have HZ : rkF l ≠ 0 → rkZ l = 0 := fun h => by unfold rkZ; rw [if_neg h]
    clear C36
    obtain ⟨⟨a, c, rfl, -⟩, -, -⟩ := hS
    obtain ⟨n, Hn⟩ : ∃ n, Hid (l.length = n) := ⟨_, rfl⟩
    rw [Hn.out] at h30 C34 C35 HW ⊢
    have hd : decide ((30 : Int) < (n : Int)) = false := by simp; omega
    obtain ⟨p, Hp⟩ : ∃ p, Hid (upB 60 l = p) := ⟨_, rfl⟩
    obtain ⟨q, Hq⟩ : ∃ q, Hid (rsB l = q) := ⟨_, rfl⟩
    obtain ⟨f, Hf⟩ : ∃ f, Hid (rkF l = f) := ⟨_, rfl⟩
    obtain ⟨z, Hz⟩ : ∃ z, Hid (rkZ l = z) := ⟨_, rfl⟩
    rw [Hp.out] at C34 HF
    rw [Hq.out] at C35 HF
    rw [Hf.out] at HF HW HZ ⊢
    rw [Hz.out] at HW HZ ⊢
    cases p with
    | false =>
      have hf : f = 1 := HF
      have hz := HZ (by omega)
      subst hf; subst hz
      clear HF HZ HW C35
      go_enter Try.func12, Try.ntmps12
      go_wp2_with (go_at_call 18; refine C34.mono ?_; rintro e w1 ⟨rfl, rfl⟩; clear C34)
      go_ret2
      exact ⟨rfl, Below.refl _ _⟩
    | true =>
      cases q with
      | false =>
        have hf : f = 2 := HF
        have hz := HZ (by omega)
        subst hf; subst hz
        clear HF HZ HW
        go_enter Try.func12, Try.ntmps12
        go_wp2_with (first
          | (go_at_call 18; refine C34.mono ?_; rintro e w1 ⟨rfl, rfl⟩; clear C34)
          | (go_at_call 19; refine C35.mono ?_; rintro e w2 ⟨rfl, b2⟩; clear C35))
        go_ret2
        exact ⟨rfl, b2⟩
      | true =>
        have hf : f = 0 := HF
        subst hf
        have HW2 : Hid (∀ W, Below w.heap.size w W → Calls Try.prog 20 #[.slice a n c] W fun e w' => e = .returned (.int .i64 (z : Int)) ∧ Below W.heap.size W w') := fun W b => HW.out W b rfl
        clear HF HZ HW
        go_enter Try.func12, Try.ntmps12
        go_wp2_with (first
          | (go_at_call 18; refine C34.mono ?_; rintro e w1 ⟨rfl, rfl⟩; clear C34)
          | (go_at_call 19; refine C35.mono ?_; rintro e w2 ⟨rfl, b2⟩; clear C35; have C36 := HW2.out w2 b2; clear HW2)
          | (go_at_call 20; refine C36.mono ?_; rintro e w3 ⟨rfl, b3⟩; clear C36))
        go_ret2
        exact ⟨rfl, Below.next b2 b3⟩
set_option maxRecDepth 100000 in
set_option maxHeartbeats 4000000 in
theorem Cascade_face : FCascade := by
  intro m k w
  have C42 : Calls Try.prog 16 #[.int .i64 m, .int .i64 k] w fun e w' => e = .returned (.int .i64 (caE m k : Int)) ∧ w' = w := checkSum_any m k w
  by_cases h0 : caE m k = 0
  · have e2 : caZ m k = casL k.toNat m.toNat := by unfold caZ; rw [if_pos h0]
    rw [h0] at C42 ⊢
    rw [e2]
    unfold caE at h0
    by_cases h1 : m < 0 ∨ k < 1 ∨ 30 < k
    · rw [if_pos h1] at h0; cases h0
    · rw [if_neg h1] at h0
      by_cases h2 : 1000000000 < m
      · rw [if_pos h2] at h0; cases h0
      · obtain ⟨j, rfl⟩ : ∃ j : Nat, k = j := ⟨k.toNat, by omega⟩
        obtain ⟨s, rfl⟩ : ∃ s : Nat, m = s := ⟨m.toNat, by omega⟩
        rw [Int.toNat_natCast, Int.toNat_natCast]
        have C43 := falling_any s j (j + s) w (by omega) (chs_big (by omega) s) (.inl ⟨by omega, by omega⟩)
        rw [show ((j + s : Nat) : Int) = (s : Int) + (j : Int) by omega] at C43
        have e1 : IntKind.i64.wrap ((s : Int) + (j : Int)) = (s : Int) + (j : Int) := IntWalk.i64_in _ (by omega)
        obtain ⟨Z, HZ⟩ : ∃ Z, Hid (casL j s = Z) := ⟨_, rfl⟩
        rw [HZ.out] at C43 ⊢
        clear h0 e2
        go_enter Try.func10, Try.ntmps10
        go_wp2_with (first
          | (go_at_call 16; refine C42.mono ?_; rintro e w1 ⟨rfl, rfl⟩; clear C42)
          | (go_at_call 17; refine C43.mono ?_; rintro e w2 ⟨y, rfl, hy, b2⟩; clear C43))
        go_ret2
        exact ⟨⟨_, rfl, ORow.own hy⟩, b2⟩
  · have e2 : caZ m k = [] := by unfold caZ; rw [if_neg h0]
    rw [e2]
    obtain ⟨f, Hf⟩ : ∃ f, Hid (caE m k = f) := ⟨_, rfl⟩
    rw [Hf.out] at C42 h0 ⊢
    have hd : ((f : Int) != 0) = true := by simpa using h0
    clear e2
    go_enter Try.func10, Try.ntmps10
    go_wp2_with (go_at_call 16; refine C42.mono ?_; rintro e w1 ⟨rfl, rfl⟩; clear C42)
    go_ret2
    exact ⟨⟨_, rfl, Wd.nil _⟩, Below.refl _ _⟩
set_option maxRecDepth 100000 in
set_option maxHeartbeats 4000000 in
theorem check_in (m A : Nat) (hm : m ≤ 12) (HA2 : Hid (2 ^ m = A)) (l : List Int) (v : Value) (w : World) (hv : Sl w v l) :
    Calls Try.prog 13 #[.int .i64 (m : Int), v] w fun e w' => e = .returned (.int .i64 (riF 4096 (A : Int) l : Int)) ∧ Below w.heap.size w w' := by
  have eA : (1 : Int) * 2 ^ m = (A : Int) := by rw [Int.one_mul, ← HA2.out]; simp
  have hA12 : A ≤ 4096 := by rw [← HA2.out]; exact (Nat.pow_le_pow_right (by decide) hm : 2 ^ m ≤ 2 ^ 12)
  have hAw : IntKind.i64.wrap (A : Int) = (A : Int) := IntWalk.i64_in _ (by omega)
  have hAw2 : IntKind.i64.wrap ((A : Int) - 1) = (A : Int) - 1 := IntWalk.i64_in _ (by omega)
  have hdm1 : decide ((m : Int) < 0) = false := by simp
  have hdm2 : decide ((12 : Int) < (m : Int)) = false := by simp; omega
  have HF := riF_asks (cap := 4096) (b := (A : Int)) (l := l)
  by_cases h4 : 4096 < l.length
  · rw [if_pos h4] at HF
    rw [HF]
    obtain ⟨a, c, rfl, -⟩ := hv
    obtain ⟨n, Hn⟩ : ∃ n, Hid (l.length = n) := ⟨_, rfl⟩
    rw [Hn.out] at h4 ⊢
    have hd : decide ((4096 : Int) < (n : Int)) = true := by simp; omega
    clear HF
    go_enter Try.func13, Try.ntmps13
    go_wp2
    go_ret
    exact ⟨rfl, Below.refl _ _⟩
  · rw [if_neg h4] at HF
    have C34 := areUpTo_any ((A : Int) - 1) l v w hv (by omega)
    have C35 := rises_any l v w hv (by omega)
    obtain ⟨a, c, rfl, -⟩ := hv
    obtain ⟨n, Hn⟩ : ∃ n, Hid (l.length = n) := ⟨_, rfl⟩
    rw [Hn.out] at h4 C34 C35 ⊢
    have hd : decide ((4096 : Int) < (n : Int)) = false := by simp; omega
    obtain ⟨p, Hp⟩ : ∃ p, Hid (upB ((A : Int) - 1) l = p) := ⟨_, rfl⟩
    obtain ⟨q, Hq⟩ : ∃ q, Hid (rsB l = q) := ⟨_, rfl⟩
    obtain ⟨f, Hf⟩ : ∃ f, Hid (riF 4096 (A : Int) l = f) := ⟨_, rfl⟩
    rw [Hp.out] at C34 HF
    rw [Hq.out] at C35 HF
    rw [Hf.out] at HF ⊢
    cases p with
    | false =>
      have hf : f = 1 := HF
      subst hf
      clear HF C35
      go_enter Try.func13, Try.ntmps13
      go_wp2_with (go_at_call 18; refine C34.mono ?_; rintro e w1 ⟨rfl, rfl⟩; clear C34)
      go_ret
      exact ⟨rfl, Below.refl _ _⟩
    | true =>
      cases q with
      | false =>
        have hf : f = 2 := HF
        subst hf
        clear HF
        go_enter Try.func13, Try.ntmps13
        go_wp2_with (first
          | (go_at_call 18; refine C34.mono ?_; rintro e w1 ⟨rfl, rfl⟩; clear C34)
          | (go_at_call 19; refine C35.mono ?_; rintro e w2 ⟨rfl, b2⟩; clear C35))
        go_ret
        exact ⟨rfl, b2⟩
      | true =>
        have hf : f = 0 := HF
        subst hf
        clear HF
        go_enter Try.func13, Try.ntmps13
        go_wp2_with (first
          | (go_at_call 18; refine C34.mono ?_; rintro e w1 ⟨rfl, rfl⟩; clear C34)
          | (go_at_call 19; refine C35.mono ?_; rintro e w2 ⟨rfl, b2⟩; clear C35))
        go_ret
        exact ⟨rfl, b2⟩
set_option maxRecDepth 100000 in
set_option maxHeartbeats 4000000 in
theorem Check_face : FCheck := by
  intro n l v w hS
  by_cases h1 : n < 0
  · have e1 : fmF n l = 1 := by unfold fmF; rw [if_pos (.inl h1)]
    have hd1 : decide (n < 0) = true := by simpa using h1
    obtain ⟨⟨a, c, rfl, -⟩, -, -⟩ := hS
    rw [e1]
    clear h1
    go_enter Try.func13, Try.ntmps13
    go_wp2
    go_ret
    exact ⟨rfl, Below.refl _ _⟩
  by_cases h2 : 12 < n
  · have e1 : fmF n l = 1 := by unfold fmF; rw [if_pos (.inr h2)]
    have hd1 : decide (n < 0) = false := by simpa using h1
    have hd2 : decide (12 < n) = true := by simpa using h2
    obtain ⟨⟨a, c, rfl, -⟩, -, -⟩ := hS
    rw [e1]
    clear h1 h2
    go_enter Try.func13, Try.ntmps13
    go_wp2
    go_ret
    exact ⟨rfl, Below.refl _ _⟩
  obtain ⟨m, rfl⟩ : ∃ m : Nat, n = m := ⟨n.toNat, by omega⟩
  have e1 : fmF m l = riF 4096 ((2 ^ m : Nat) : Int) l := by unfold fmF; rw [if_neg (by omega), Int.toNat_natCast]
  rw [e1]
  exact check_in m (2 ^ m) (by omega) rfl l v w hS.1
end Go.Proofs.Ytmogmkdcplgfjab
