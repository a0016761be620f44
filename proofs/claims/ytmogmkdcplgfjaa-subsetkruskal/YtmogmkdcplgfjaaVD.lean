/- The law SubsetMakes over the contracts. -/
import Derived.Test.YtmogmkdcplgfjaaVC
namespace Go.Proofs.Ytmogmkdcplgfjaa
open Go.RowKit

theorem toZ_map (ls : List (List Nat)) : toZ ls = ls.map fun l => l.map Int.ofNat := rfl
theorem chE_cases (n : Int) : (∃ m : Nat, n = m ∧ m ≤ 10 ∧ chE n = 0 ∧ chR n = cnR m (2 ^ m)) ∨ (chE n = 1 ∧ chR n = []) := by
  by_cases h : n < 0 ∨ 10 < n
  · right
    have e : chE n = 1 := by unfold chE; rw [if_pos h]
    exact ⟨e, by unfold chR; rw [e]; rfl⟩
  · left
    obtain ⟨m, rfl⟩ : ∃ m : Nat, n = m := ⟨n.toNat, by omega⟩
    have e : chE m = 0 := by unfold chE; rw [if_neg h]
    exact ⟨m, rfl, by omega, e, by unfold chR; rw [if_pos e, Int.toNat_natCast]⟩
theorem cnR_rows {n : Nat} (hn : n ≤ 10) : ∀ s, s ≤ 2 ^ n → ∀ l ∈ cnR n s, l.length ≤ 11
  | 0, _, l, h => by cases h
  | s + 1, hs, l, h => by
    unfold cnR at h
    by_cases e : (alS s n).1 = 0
    · rw [if_pos e] at h
      rcases List.mem_append.1 h with h | h
      · exact cnR_rows hn s (by omega) l h
      · obtain ⟨R, hR⟩ := ch_at hn (by omega) e
        rw [hR] at h
        rw [List.mem_singleton.1 h]
        have := chO_len hR
        show R.length + 1 ≤ 11
        omega
    · rw [if_neg e] at h
      exact cnR_rows hn s (by omega) l h
theorem chR_small (n : Int) : (toZ (chR n)).length ≤ maxLen ∧ ∀ l ∈ toZ (chR n), l.length ≤ maxLen := by
  rcases chE_cases n with ⟨m, rfl, hm, -, e⟩ | ⟨-, e⟩
  · rw [e, toZ_map]
    have h1 := cnR_len m (2 ^ m)
    have h2 : 2 ^ m ≤ 2 ^ 10 := Nat.pow_le_pow_right (by decide) hm
    refine ⟨by rw [List.length_map]; unfold maxLen; omega, fun l hl => ?_⟩
    obtain ⟨r, hr, rfl⟩ := List.mem_map.1 hl
    rw [List.length_map]
    have := cnR_rows hm (2 ^ m) (Nat.le_refl _) r hr
    unfold maxLen; omega
  · rw [e]
    exact ⟨Nat.zero_le _, fun l hl => by cases hl⟩
theorem ChainsOf_any (n : Int) (w : World) :
    Calls Try.prog 28 #[.int .i64 n] w fun e w' => (∃ y, e = .returned (.tuple #[y, .int .i64 (chE n : Int)]) ∧ Rw w' y (toZ (chR n))) ∧ Below w.heap.size w w' := by
  rcases chE_cases n with ⟨m, rfl, hm, e1, e2⟩ | ⟨e1, e2⟩
  · rw [e1, e2]
    exact (chains_in m (2 ^ m) w hm rfl).mono fun e w' ⟨⟨y, h1, h2⟩, h3⟩ => ⟨⟨y, h1, h2.rw⟩, h3⟩
  · rw [e1, e2]
    have hb : n < 0 ∨ 10 < n := by
      by_cases h : n < 0 ∨ 10 < n
      · exact h
      · unfold chE at e1; rw [if_neg h] at e1; cases e1
    have hnil : Rw w (.slice none 0 0) (toZ []) := (OR.nil w 0).rw
    by_cases h1 : n < 0
    · have hd1 : decide (n < 0) = true := by simpa using h1
      clear hb h1 e1 e2
      go_enter Try.func28, Try.ntmps28
      go_wp2
      go_ret2
      exact ⟨⟨_, rfl, hnil⟩, Below.refl _ _⟩
    · have hd1 : decide (n < 0) = false := by simpa using h1
      have hd2 : decide (10 < n) = true := by simp; omega
      clear hb h1 e1 e2
      go_enter Try.func28, Try.ntmps28
      go_wp2
      go_ret2
      exact ⟨⟨_, rfl, hnil⟩, Below.refl _ _⟩
theorem caZ_len (m k : Int) : (caZ m k).length ≤ 4096 := by
  unfold caZ
  split
  · rename_i h
    unfold caE at h
    by_cases h2 : m < 0 ∨ k < 1 ∨ 30 < k
    · rw [if_pos h2] at h; cases h
    · have := cas_len k.toNat m.toNat
      omega
  · exact Nat.zero_le _
theorem LeastOf_doc (m k : Int) (v : Value) (w : World) (hv : Wd w v (caZ m k)) :
    Calls Try.prog 26 #[v, .int .i64 k] w fun e w' => e = .returned (.int .i64 (lsZ m k : Int)) ∧ Below w.heap.size w w' := by
  by_cases h : caE m k = 0
  · have e1 : caZ m k = casL k.toNat m.toNat := by unfold caZ; rw [if_pos h]
    have e2 : lsZ m k = leN k.toNat (casL k.toNat m.toNat) := by unfold lsZ; rw [if_pos h]
    unfold caE at h
    by_cases h2 : m < 0 ∨ k < 1 ∨ 30 < k
    · rw [if_pos h2] at h; cases h
    · rw [if_neg h2] at h
      by_cases h3 : 1000000000 < m
      · rw [if_pos h3] at h; cases h
      · obtain ⟨M, rfl⟩ : ∃ M : Nat, m = M := ⟨m.toNat, by omega⟩
        obtain ⟨K, rfl⟩ : ∃ K : Nat, k = K := ⟨k.toNat, by omega⟩
        rw [e1] at hv
        rw [e2]
        rw [Int.toNat_natCast, Int.toNat_natCast] at hv ⊢
        exact LeastOf_cas K M v w hv (by omega) (by omega)
  · have e1 : caZ m k = [] := by unfold caZ; rw [if_neg h]
    have e2 : lsZ m k = 0 := by unfold lsZ; rw [if_neg h]
    rw [e1] at hv
    rw [e2]
    exact LeastOf_none k v w hv
set_option maxRecDepth 100000 in
set_option maxHeartbeats 16000000 in
theorem Makes_law (FC : FCascade) (FL : FLeast) (FH : FChains) (m k n : Int) (w : World) :
    Calls Try.prog 5 #[.int .i64 m, .int .i64 k, .int .i64 n] w fun e w' => e = .returned (.bool true) ∧ Below w.heap.size w w' := by
  have H23 : Hid (∀ W, Calls Try.prog 23 #[.int .i64 m, .int .i64 k] W fun e w' => (∃ y, e = .returned (.tuple #[y, .int .i64 (caE m k : Int)]) ∧ Wd w' y (caZ m k)) ∧ Below W.heap.size W w') := fun W => FC m k W
  have H24 : Hid (∀ W, Calls Try.prog 24 #[.int .i64 m, .int .i64 k] W fun e w' => e = .returned (.tuple #[.int .i64 (lsZ m k : Int), .int .i64 (caE m k : Int)]) ∧ Below W.heap.size W w') := fun W => FL m k W
  have H25 : Hid (∀ W, Calls Try.prog 25 #[.int .i64 m, .int .i64 k] W fun e w' => (∃ y, e = .returned (.tuple #[y, .int .i64 (caE m k : Int)]) ∧ Wd w' y (caZ m k)) ∧ Below W.heap.size W w') := fun W => CascadeOf_any m k W
  have H26 : Hid (∀ W v, Wd W v (caZ m k) → Calls Try.prog 26 #[v, .int .i64 k] W fun e w' => e = .returned (.int .i64 (lsZ m k : Int)) ∧ Below W.heap.size W w') := fun W v hv => LeastOf_doc m k v W hv
  have H27 : Hid (∀ W, Calls Try.prog 27 #[.int .i64 n] W fun e w' => (∃ y, e = .returned (.tuple #[y, .int .i64 (chE n : Int)]) ∧ Rw w' y (toZ (chR n))) ∧ Below W.heap.size W w') := fun W => FH n W
  have H28 : Hid (∀ W, Calls Try.prog 28 #[.int .i64 n] W fun e w' => (∃ y, e = .returned (.tuple #[y, .int .i64 (chE n : Int)]) ∧ Rw w' y (toZ (chR n))) ∧ Below W.heap.size W w') := fun W => ChainsOf_any n W
  have H14 : Hid (∀ W a b, Wd W a (caZ m k) → Wd W b (caZ m k) → Calls Try.prog 14 #[a, b] W fun e w' => e = .returned (.bool true) ∧ Below W.heap.size W w') := fun W a b ha hb => same_any (caZ_len m k) ha hb
  have H29 : Hid (∀ W a b, Rw W a (toZ (chR n)) → Rw W b (toZ (chR n)) → Calls Try.prog 29 #[a, b] W fun e w' => e = .returned (.bool true) ∧ Below W.heap.size W w') := fun W a b ha hb => (Lists_any _ _ a b W ha hb (chR_small n).1 (chR_small n).1 (chR_small n).2 (chR_small n).2).mono fun e w' ⟨b, h1, h2, h3⟩ => ⟨by rw [h1, h2.2 rfl], h3⟩
  obtain ⟨f, Hf⟩ : ∃ f, Hid (caE m k = f) := ⟨_, rfl⟩
  obtain ⟨z, Hz⟩ : ∃ z, Hid (lsZ m k = z) := ⟨_, rfl⟩
  obtain ⟨g, Hg⟩ : ∃ g, Hid (chE n = g) := ⟨_, rfl⟩
  obtain ⟨L, HL⟩ : ∃ L, Hid (caZ m k = L) := ⟨_, rfl⟩
  obtain ⟨C, HC⟩ : ∃ C, Hid (toZ (chR n) = C) := ⟨_, rfl⟩
  rw [Hf.out, HL.out] at H23 H25
  rw [Hf.out, Hz.out] at H24
  rw [HL.out, Hz.out] at H26
  rw [Hg.out, HC.out] at H27 H28
  rw [HL.out] at H14
  rw [HC.out] at H29
  have hff : ((f : Int) != (f : Int)) = false := by simp
  have hzz : ((z : Int) != (z : Int)) = false := by simp
  have hgg : ((g : Int) == (g : Int)) = true := by simp
  have hB : Below w.heap.size w w := Below.refl _ _
  go_enter Try.func5, Try.ntmps5
  go_wp2_with (first
    | (go_at_call 23; refine (H23.out _).mono ?_; rintro e wa ⟨⟨y1, rfl, hy1⟩, bb⟩; replace hB := hB.trans (bb.mono hB.size))
    | (go_at_call 24; refine (H24.out _).mono ?_; rintro e wa ⟨rfl, bb⟩; replace hB := hB.trans (bb.mono hB.size); replace hy1 := hy1.below bb)
    | (go_at_call 25; refine (H25.out _).mono ?_; rintro e wa ⟨⟨y2, rfl, hy2⟩, bb⟩; replace hB := hB.trans (bb.mono hB.size); replace hy1 := hy1.below bb)
    | (go_at_call 14; refine (H14.out _ _ _ hy1 hy2).mono ?_; rintro e wa ⟨rfl, bb⟩; replace hB := hB.trans (bb.mono hB.size); replace hy2 := hy2.below bb; clear hy1)
    | (go_at_call 26; refine (H26.out _ _ hy2).mono ?_; rintro e wa ⟨rfl, bb⟩; replace hB := hB.trans (bb.mono hB.size); clear hy2)
    | (go_at_call 27; refine (H27.out _).mono ?_; rintro e wa ⟨⟨y3, rfl, hy3⟩, bb⟩; replace hB := hB.trans (bb.mono hB.size))
    | (go_at_call 28; refine (H28.out _).mono ?_; rintro e wa ⟨⟨y4, rfl, hy4⟩, bb⟩; replace hB := hB.trans (bb.mono hB.size); replace hy3 := hy3.below bb)
    | (go_at_call 29; refine (H29.out _ _ _ hy3 hy4).mono ?_; rintro e wa ⟨rfl, bb⟩; replace hB := hB.trans (bb.mono hB.size); clear hy3 hy4)
    | go_in)
  go_ret
  exact ⟨rfl, hB⟩
end Go.Proofs.Ytmogmkdcplgfjaa
