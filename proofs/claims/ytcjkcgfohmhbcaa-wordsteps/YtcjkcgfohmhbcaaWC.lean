/- The laws WordFactors, WordPrimes over the contracts. -/
import Derived.Test.YtcjkcgfohmhbcaaWB
namespace Go.Proofs.Ytcjkcgfohmhbcaa
open Go.RowKit

set_option maxRecDepth 100000 in
set_option maxHeartbeats 16000000 in
theorem Factors_law (FF : FFactors) (FL : FLyndon) (l : List Int) (v : Value) (w : World) (h : Sw w v l) :
    Calls Try.prog 4 #[v] w fun e w' => e = .returned (.bool true) ∧ Below w.heap.size w w' := by
  have HS : Hid (∀ W, Below w.heap.size w W → Sw W v l) := fun W b => h.below b
  have D13 := WordFault_any l v w h.1 h.2.2
  have H14 : Hid (∀ W, Below w.heap.size w W → Calls Try.prog 14 #[v] W fun e w' => (∃ y, e = .returned (.tuple #[y, .int .i64 (wF l : Int)]) ∧ Wd w' y (faZ l)) ∧ Below W.heap.size W w') := fun W b => FF l v W (HS.out W b)
  have H15 : Hid (∀ W, Below w.heap.size w W → Calls Try.prog 15 #[v] W fun e w' => e = .returned (.tuple #[.bool (lyZ l), .int .i64 (wF l : Int)]) ∧ Below W.heap.size W w') := fun W b => FL l v W (HS.out W b)
  obtain ⟨a, n, c, hv, hn⟩ : ∃ a n c, v = .slice a n c ∧ n = l.length := by obtain ⟨⟨a, c, e, _⟩, _⟩ := h; exact ⟨a, _, c, e, rfl⟩
  have hB : Below w.heap.size w w := Below.refl _ _
  have hnm : n ≤ maxLen := by rw [hn]; exact h.2.2
  unfold maxLen at hnm
  by_cases h0 : wF l = 0
  · have e1 : faZ l = facL (wdN l) := by unfold faZ; rw [if_pos h0]
    have e2 : lyZ l = lyB (wdN l) := by unfold lyZ; rw [decide_eq_true h0, Bool.true_and]
    obtain ⟨-, hlM, h9, -⟩ := h.wd h0
    have hln : (wdN l).length = n := by rw [hn]; unfold wdN; rw [List.length_map]
    have H16 : Hid (∀ W, Below w.heap.size w W → Calls Try.prog 16 #[v] W fun e w' => (∃ y, e = .returned y ∧ Wd w' y (facL (wdN l))) ∧ Below W.heap.size W w') := fun W b => (FactorsOf_any (wdN l) v W ((HS.out W b).wd h0).1 hlM).mono fun e w' ⟨⟨y, h1, h2⟩, h3⟩ => ⟨⟨y, h1, h2.own⟩, h3⟩
    have H17 : Hid (∀ W, Below w.heap.size w W → Calls Try.prog 17 #[v] W fun e w' => e = .returned (.bool (lyB (wdN l))) ∧ Below W.heap.size W w') := fun W b => LyndonOf_any (wdN l) v W ((HS.out W b).wd h0).1 hlM
    have HLL : (facL (wdN l)).length ≤ 4096 := Nat.le_trans (facL_len _) hlM
    rw [e1, h0] at H14
    rw [e2, h0] at H15
    rw [h0] at D13
    obtain ⟨L, HL⟩ : ∃ L, Hid (facL (wdN l) = L) := ⟨_, rfl⟩
    obtain ⟨q, Hq⟩ : ∃ q, Hid (lyB (wdN l) = q) := ⟨_, rfl⟩
    rw [HL.out] at H14 H16 HLL
    rw [Hq.out] at H15 H17
    have H11 : Hid (∀ W a b, Wd W a L → Wd W b L → Calls Try.prog 11 #[a, b] W fun e w' => e = .returned (.bool true) ∧ Below W.heap.size W w') := fun W a b ha hb => same_any HLL ha hb
    subst hv
    have hqq : (q == q) = true := by simp
    clear h0 e1 e2 hlM h9 hln HLL h hn
    by_cases h60 : 60 < n
    · have d1 : decide ((60 : Int) < (n : Int)) = true := by simp; omega
      go_enter Try.func4, Try.ntmps4
      go_wp2_with (first
        | (go_at_call 13; refine D13.mono ?_; rintro e wa ⟨rfl, bb⟩; clear D13; replace hB := hB.trans (bb.mono hB.size); have D14 := H14.out wa hB)
        | (go_at_call 14; refine D14.mono ?_; rintro e wb ⟨⟨y1, rfl, hy1⟩, bb⟩; clear D14; replace hB := hB.trans (bb.mono hB.size); have D15 := H15.out wb hB)
        | (go_at_call 15; refine D15.mono ?_; rintro e wc ⟨rfl, bb⟩; clear D15; replace hB := hB.trans (bb.mono hB.size); clear hy1)
        | go_in)
      go_ret
      exact ⟨rfl, hB⟩
    · have d1 : decide ((60 : Int) < (n : Int)) = false := by simp; omega
      go_enter Try.func4, Try.ntmps4
      go_wp2_with (first
        | (go_at_call 13; refine D13.mono ?_; rintro e wa ⟨rfl, bb⟩; clear D13; replace hB := hB.trans (bb.mono hB.size); have D14 := H14.out wa hB)
        | (go_at_call 14; refine D14.mono ?_; rintro e wb ⟨⟨y1, rfl, hy1⟩, bb⟩; clear D14; replace hB := hB.trans (bb.mono hB.size); have D15 := H15.out wb hB)
        | (go_at_call 15; refine D15.mono ?_; rintro e wc ⟨rfl, bb⟩; clear D15; replace hB := hB.trans (bb.mono hB.size); replace hy1 := hy1.below bb; have D16 := H16.out wc hB)
        | (go_at_call 16; refine D16.mono ?_; rintro e wd ⟨⟨y2, rfl, hy2⟩, bb⟩; clear D16; replace hB := hB.trans (bb.mono hB.size); replace hy1 := hy1.below bb; have D17 := H17.out wd hB)
        | (go_at_call 17; refine D17.mono ?_; rintro e we ⟨rfl, bb⟩; clear D17; replace hB := hB.trans (bb.mono hB.size); replace hy1 := hy1.below bb; replace hy2 := hy2.below bb; have D11 := H11.out we _ _ hy1 hy2)
        | (go_at_call 11; refine D11.mono ?_; rintro e wf ⟨rfl, bb⟩; clear D11; replace hB := hB.trans (bb.mono hB.size); clear hy1 hy2)
        | go_in)
      go_ret
      exact ⟨rfl, hB⟩
  · have e1 : faZ l = [] := by unfold faZ; rw [if_neg h0]
    have e2 : lyZ l = false := by unfold lyZ; rw [decide_eq_false h0, Bool.false_and]
    rw [e1] at H14
    rw [e2] at H15
    obtain ⟨z, Hz⟩ : ∃ z, Hid (wF l = z) := ⟨_, rfl⟩
    rw [Hz.out] at D13 H14 H15 h0
    have hzb : ((z : Int) != 0) = true := by simp [h0]
    have hzz : ((z : Int) != (z : Int)) = false := by simp
    subst hv
    clear e1 e2 h hn
    go_enter Try.func4, Try.ntmps4
    go_wp2_with (first
      | (go_at_call 13; refine D13.mono ?_; rintro e wa ⟨rfl, bb⟩; clear D13; replace hB := hB.trans (bb.mono hB.size); have D14 := H14.out wa hB)
      | (go_at_call 14; refine D14.mono ?_; rintro e wb ⟨⟨y1, rfl, hy1⟩, bb⟩; clear D14; replace hB := hB.trans (bb.mono hB.size); obtain ⟨a1, c1, rfl⟩ := hy1.len (m := 0) rfl; have D15 := H15.out wb hB)
      | (go_at_call 15; refine D15.mono ?_; rintro e wc ⟨rfl, bb⟩; clear D15; replace hB := hB.trans (bb.mono hB.size))
      | go_in)
    go_ret
    exact ⟨rfl, hB⟩
theorem bfE_ok {k n : Int} (h : bfE k n = 0) : ∃ a b : Nat, k = a ∧ n = b ∧ 1 ≤ a ∧ a ≤ 10 ∧ 1 ≤ b ∧ b ≤ 12 ∧ a ^ b ≤ 4096 := by
  unfold bfE at h
  split at h
  · cases h
  · rename_i h1
    split at h
    · cases h
    · rename_i h2
      refine ⟨k.toNat, n.toNat, by omega, by omega, by omega, by omega, by omega, by omega, by omega⟩
theorem prE_ok {k n : Int} (h : prE k n = 0) : ∃ a b : Nat, k = a ∧ n = b ∧ 1 ≤ a ∧ 1 ≤ b ∧ b ≤ 60 ∧ a ^ b ≤ 1000000000000000000 := by
  unfold prE at h
  split at h
  · cases h
  · rename_i h1
    split at h
    · cases h
    · rename_i h2
      refine ⟨k.toNat, n.toNat, by omega, by omega, by omega, by omega, by omega, by omega⟩
theorem bjN_len {a b : Nat} (h1 : 1 ≤ a) (h2 : a ≤ 10) (h3 : 1 ≤ b) (h4 : b ≤ 12) (h5 : a ^ b ≤ 4096) : (bjN a b).length = a ^ b := (bru_good a (a ^ b) (a ^ b) (a ^ b - 1) 0 (chB_at h1 h2 h3 h4 h5)).1
set_option maxRecDepth 100000 in
set_option maxHeartbeats 16000000 in
theorem Primes_law (FP : FPrimes) (FB : FBruijn) (k n a b : Int) (w : World) (hk : k < 2 ^ 63) :
    Calls Try.prog 5 #[.int .i64 k, .int .i64 n, .int .i64 a, .int .i64 b] w fun e w' => e = .returned (.bool true) ∧ Below w.heap.size w w' := by
  have D18 := PrimesFault_any k n w hk
  have H19 : Hid (∀ W, Calls Try.prog 19 #[.int .i64 k, .int .i64 n] W fun e w' => e = .returned (.tuple #[.int .i64 (pmZ k n), .int .i64 (prE k n : Int)]) ∧ Below W.heap.size W w') := fun W => FP k n W hk
  have H20 : Hid (prE k n = 0 → ∀ W, Calls Try.prog 20 #[.int .i64 k, .int .i64 n] W fun e w' => e = .returned (.int .i64 (pmZ k n)) ∧ w' = W) := fun h0 W => by
    obtain ⟨k', n', rfl, rfl, h1, h2, h3, h4⟩ := prE_ok h0
    have e : pmZ (k' : Int) (n' : Int) = prZ k' n' := by unfold pmZ; rw [if_pos h0, Int.toNat_natCast, Int.toNat_natCast]
    rw [e]
    exact PrimesOf_any k' n' W h1 h2 h3 h4
  have HP0 : Hid (prE k n ≠ 0 → pmZ k n = 0) := fun h => by unfold pmZ; rw [if_neg h]
  have H21 : Hid (∀ W, Calls Try.prog 21 #[.int .i64 a, .int .i64 b] W fun e w' => e = .returned (.int .i64 (bfE a b : Int)) ∧ w' = W) := fun W => BruijnFault_any a b W
  have H22 : Hid (∀ W, Calls Try.prog 22 #[.int .i64 a, .int .i64 b] W fun e w' => (∃ y, e = .returned (.tuple #[y, .int .i64 (bfE a b : Int)]) ∧ Wd w' y (bjZ a b)) ∧ Below W.heap.size W w') := fun W => FB a b W
  have H23 : Hid (bfE a b = 0 → ∀ W, Calls Try.prog 23 #[.int .i64 a, .int .i64 b] W fun e w' => (∃ y, e = .returned y ∧ Wd w' y (bjZ a b)) ∧ Below W.heap.size W w') := fun h0 W => by
    obtain ⟨k', n', rfl, rfl, h1, h2, h3, h4, h5⟩ := bfE_ok h0
    have e : bjZ (k' : Int) (n' : Int) = bjN k' n' := by unfold bjZ; rw [if_pos h0, Int.toNat_natCast, Int.toNat_natCast]
    rw [e]
    exact (BruijnOf_any k' n' W h1 h2 h3 h4 h5).mono fun e w' ⟨⟨y, h1, h2⟩, h3⟩ => ⟨⟨y, h1, h2.own⟩, h3⟩
  have HBL : (bjZ a b).length ≤ 4096 := by
    unfold bjZ
    split
    · rename_i h0
      obtain ⟨k', n', rfl, rfl, h1, h2, h3, h4, h5⟩ := bfE_ok h0
      rw [Int.toNat_natCast, Int.toNat_natCast, bjN_len h1 h2 h3 h4 h5]
      exact h5
    · exact Nat.zero_le _
  have HB0 : Hid (bfE a b ≠ 0 → bjZ a b = []) := fun h => by unfold bjZ; rw [if_neg h]
  have H11 : Hid (∀ W x y, Wd W x (bjZ a b) → Wd W y (bjZ a b) → Calls Try.prog 11 #[x, y] W fun e w' => e = .returned (.bool true) ∧ Below W.heap.size W w') := fun W x y hx hy => same_any HBL hx hy
  obtain ⟨z, Hz⟩ : ∃ z, Hid (prE k n = z) := ⟨_, rfl⟩
  obtain ⟨p, Hp⟩ : ∃ p, Hid (pmZ k n = p) := ⟨_, rfl⟩
  obtain ⟨t, Ht⟩ : ∃ t, Hid (bfE a b = t) := ⟨_, rfl⟩
  obtain ⟨L, HL⟩ : ∃ L, Hid (bjZ a b = L) := ⟨_, rfl⟩
  rw [Hz.out] at D18 H19 H20 HP0
  rw [Hp.out] at H19 H20 HP0
  rw [Ht.out] at H21 H22 H23 HB0
  rw [HL.out] at H22 H23 HB0 H11
  have hzz : ((z : Int) != (z : Int)) = false := by simp
  have hpp : (p != p) = false := by simp
  have htt : ((t : Int) == (t : Int)) = true := by simp
  have hB : Below w.heap.size w w := Below.refl _ _
  clear HBL
  by_cases hz : z = 0 <;> by_cases ht : t = 0
  · subst hz ht
    have HQ20 : Hid (∀ W, Calls Try.prog 20 #[.int .i64 k, .int .i64 n] W fun e w' => e = .returned (.int .i64 p) ∧ w' = W) := H20.out rfl
    have HQ23 : Hid (∀ W, Calls Try.prog 23 #[.int .i64 a, .int .i64 b] W fun e w' => (∃ y, e = .returned y ∧ Wd w' y L) ∧ Below W.heap.size W w') := H23.out rfl
    go_enter Try.func5, Try.ntmps5
    go_wp2_with (first
      | (go_at_call 18; refine D18.mono ?_; rintro e wa ⟨rfl, e1⟩; subst e1; clear D18; have D19 := H19.out wa)
      | (go_at_call 19; refine D19.mono ?_; rintro e wb ⟨rfl, bb⟩; clear D19; replace hB := hB.trans (bb.mono hB.size); have D20 := HQ20.out wb)
      | (go_at_call 20; refine D20.mono ?_; rintro e wc ⟨rfl, e1⟩; subst e1; clear D20; have D21 := H21.out wc)
      | (go_at_call 21; refine D21.mono ?_; rintro e wd ⟨rfl, e1⟩; subst e1; clear D21; have D22 := H22.out wd)
      | (go_at_call 22; refine D22.mono ?_; rintro e we ⟨⟨y1, rfl, hy1⟩, bb⟩; clear D22; replace hB := hB.trans (bb.mono hB.size); have D23 := HQ23.out we)
      | (go_at_call 23; refine D23.mono ?_; rintro e wf ⟨⟨y2, rfl, hy2⟩, bb⟩; clear D23; replace hB := hB.trans (bb.mono hB.size); replace hy1 := hy1.below bb; have D11 := H11.out wf _ _ hy1 hy2)
      | (go_at_call 11; refine D11.mono ?_; rintro e wg ⟨rfl, bb⟩; clear D11; replace hB := hB.trans (bb.mono hB.size); clear hy1 hy2)
      | go_in)
    go_ret
    exact ⟨rfl, hB⟩
  · subst hz
    obtain rfl := HB0.out ht
    have htb : ((t : Int) != 0) = true := by simp [ht]
    have HQ20 : Hid (∀ W, Calls Try.prog 20 #[.int .i64 k, .int .i64 n] W fun e w' => e = .returned (.int .i64 p) ∧ w' = W) := H20.out rfl
    go_enter Try.func5, Try.ntmps5
    go_wp2_with (first
      | (go_at_call 18; refine D18.mono ?_; rintro e wa ⟨rfl, e1⟩; subst e1; clear D18; have D19 := H19.out wa)
      | (go_at_call 19; refine D19.mono ?_; rintro e wb ⟨rfl, bb⟩; clear D19; replace hB := hB.trans (bb.mono hB.size); have D20 := HQ20.out wb)
      | (go_at_call 20; refine D20.mono ?_; rintro e wc ⟨rfl, e1⟩; subst e1; clear D20; have D21 := H21.out wc)
      | (go_at_call 21; refine D21.mono ?_; rintro e wd ⟨rfl, e1⟩; subst e1; clear D21; have D22 := H22.out wd)
      | (go_at_call 22; refine D22.mono ?_; rintro e we ⟨⟨y1, rfl, hy1⟩, bb⟩; clear D22; replace hB := hB.trans (bb.mono hB.size); obtain ⟨a1, c1, rfl⟩ := hy1.len (m := 0) rfl)
      | go_in)
    go_ret
    exact ⟨rfl, hB⟩
  · subst ht
    obtain rfl := HP0.out hz
    have hzb : ((z : Int) == 0) = false := by simp [hz]
    have HQ23 : Hid (∀ W, Calls Try.prog 23 #[.int .i64 a, .int .i64 b] W fun e w' => (∃ y, e = .returned y ∧ Wd w' y L) ∧ Below W.heap.size W w') := H23.out rfl
    go_enter Try.func5, Try.ntmps5
    go_wp2_with (first
      | (go_at_call 18; refine D18.mono ?_; rintro e wa ⟨rfl, e1⟩; subst e1; clear D18; have D19 := H19.out wa)
      | (go_at_call 19; refine D19.mono ?_; rintro e wb ⟨rfl, bb⟩; clear D19; replace hB := hB.trans (bb.mono hB.size); have D21 := H21.out wb)
      | (go_at_call 21; refine D21.mono ?_; rintro e wd ⟨rfl, e1⟩; subst e1; clear D21; have D22 := H22.out wd)
      | (go_at_call 22; refine D22.mono ?_; rintro e we ⟨⟨y1, rfl, hy1⟩, bb⟩; clear D22; replace hB := hB.trans (bb.mono hB.size); have D23 := HQ23.out we)
      | (go_at_call 23; refine D23.mono ?_; rintro e wf ⟨⟨y2, rfl, hy2⟩, bb⟩; clear D23; replace hB := hB.trans (bb.mono hB.size); replace hy1 := hy1.below bb; have D11 := H11.out wf _ _ hy1 hy2)
      | (go_at_call 11; refine D11.mono ?_; rintro e wg ⟨rfl, bb⟩; clear D11; replace hB := hB.trans (bb.mono hB.size); clear hy1 hy2)
      | go_in)
    go_ret
    exact ⟨rfl, hB⟩
  · obtain rfl := HB0.out ht
    obtain rfl := HP0.out hz
    have hzb : ((z : Int) == 0) = false := by simp [hz]
    have htb : ((t : Int) != 0) = true := by simp [ht]
    go_enter Try.func5, Try.ntmps5
    go_wp2_with (first
      | (go_at_call 18; refine D18.mono ?_; rintro e wa ⟨rfl, e1⟩; subst e1; clear D18; have D19 := H19.out wa)
      | (go_at_call 19; refine D19.mono ?_; rintro e wb ⟨rfl, bb⟩; clear D19; replace hB := hB.trans (bb.mono hB.size); have D21 := H21.out wb)
      | (go_at_call 21; refine D21.mono ?_; rintro e wd ⟨rfl, e1⟩; subst e1; clear D21; have D22 := H22.out wd)
      | (go_at_call 22; refine D22.mono ?_; rintro e we ⟨⟨y1, rfl, hy1⟩, bb⟩; clear D22; replace hB := hB.trans (bb.mono hB.size); obtain ⟨a1, c1, rfl⟩ := hy1.len (m := 0) rfl)
      | go_in)
    go_ret
    exact ⟨rfl, hB⟩
end Go.Proofs.Ytcjkcgfohmhbcaa
