/- The laws WordGrays, WordFactors, WordPrimes over the contracts. -/
import Derived.Test.YtcjkcgfohmhbcaaWA
namespace Go.Proofs.Ytcjkcgfohmhbcaa
open Go.RowKit

theorem grZ_len (n : Int) : (grZ n).length ≤ 4096 := by
  unfold grZ
  split
  · exact Nat.zero_le _
  · rename_i h
    rw [grL_len]
    exact Nat.le_trans (Nat.pow_le_pow_right (n := 2) (by decide) (show n.toNat ≤ 12 by omega)) (by decide)
theorem grE_one {n : Int} (h : grE n ≠ 0) : grE n = 1 ∧ grZ n = [] := by
  unfold grE at h ⊢
  unfold grZ
  split at h
  · rename_i h2; rw [if_pos h2, if_pos h2]; exact ⟨rfl, rfl⟩
  · exact absurd rfl h
/-- Every number below 2 ^ i stands in Gray's. -/
theorem grL_mem : ∀ i x, x < 2 ^ i → x ∈ grL i
  | 0, x, h => by have : x = 0 := by simpa using h
                  subst this; simp [grL]
  | i + 1, x, h => by
    unfold grL
    rw [Nat.pow_succ] at h
    rcases Nat.lt_or_ge x (2 ^ i) with h1 | h1
    · exact List.mem_append_left _ (grL_mem i x h1)
    · refine List.mem_append_right _ (List.mem_map.2 ⟨x - 2 ^ i, List.mem_reverse.2 (grL_mem i _ (by omega)), by omega⟩)
theorem plZ_is {n x : Int} (h : plE n x = 0) : plZ n x < (grZ n).length ∧ (((grZ n).getD (plZ n x) 0 : Nat) : Int) = x := by
  have h2 := h
  unfold plE at h2
  split at h2
  · rename_i hh
    obtain ⟨h3, h4, h5⟩ := hh
    have hz : grZ n = grL n.toNat := by
      unfold grE at h3
      unfold grZ
      split at h3
      · cases h3
      · rename_i h6; rw [if_neg h6]
    have e : plZ n x = (grZ n).idxOf x.toNat := by unfold plZ; rw [if_pos h]
    have hm : x.toNat ∈ grZ n := by
      rw [hz] at h5 ⊢
      rw [grL_len] at h5
      exact grL_mem _ _ (by omega)
    have hl := List.idxOf_lt_length_of_mem hm
    rw [e]
    refine ⟨hl, ?_⟩
    rw [List.getD_eq_getElem?_getD, List.getElem?_eq_getElem hl, Option.getD_some, List.getElem_idxOf hl]
    omega
  · cases h2
set_option maxRecDepth 100000 in
set_option maxHeartbeats 16000000 in
theorem Grays_law (FG : FGray) (FP : FPlace) (n x : Int) (w : World) :
    Calls Try.prog 3 #[.int .i64 n, .int .i64 x] w fun e w' => e = .returned (.bool true) ∧ Below w.heap.size w w' := by
  have D9 := FG n w
  have H10 : Hid (∀ W, Calls Try.prog 10 #[.int .i64 n] W fun e w' => (∃ y, e = .returned (.tuple #[y, .int .i64 (grE n : Int)]) ∧ Wd w' y (grZ n)) ∧ Below W.heap.size W w') := fun W => (GrayOf_any n W).mono fun e w' ⟨⟨y, h1, h2⟩, h3⟩ => ⟨⟨y, h1, h2.own⟩, h3⟩
  have H12 : Hid (∀ W, Calls Try.prog 12 #[.int .i64 n, .int .i64 x] W fun e w' => e = .returned (.tuple #[.int .i64 (plZ n x : Int), .int .i64 (plE n x : Int)]) ∧ Below W.heap.size W w') := fun W => FP n x W
  have HL := grZ_len n
  have H11 : Hid (∀ W a b, Wd W a (grZ n) → Wd W b (grZ n) → Calls Try.prog 11 #[a, b] W fun e w' => e = .returned (.bool true) ∧ Below W.heap.size W w') := fun W a b ha hb => same_any HL ha hb
  have HBX : Hid (plE n x ≠ 0 → plE n x = 1 ∧ plZ n x = 0) := fun h => by
    have : plZ n x = 0 := by unfold plZ; rw [if_neg h]
    refine ⟨?_, this⟩
    unfold plE at h ⊢
    split at h
    · exact absurd rfl h
    · rename_i h2; rw [if_neg h2]
  have HBY : Hid (plE n x = 0 ↔ grE n = 0 ∧ 0 ≤ x ∧ x < ((grZ n).length : Int)) := by
    show plE n x = 0 ↔ _
    unfold plE
    constructor
    · intro h; split at h
      · rename_i h2; exact h2
      · cases h
    · intro h; rw [if_pos h]
  have HPI : Hid (plE n x = 0 → plZ n x < (grZ n).length ∧ (((grZ n).getD (plZ n x) 0 : Nat) : Int) = x) := plZ_is
  have HGE : Hid (grE n ≠ 0 → grE n = 1 ∧ grZ n = []) := grE_one
  obtain ⟨z, Hz⟩ : ∃ z, Hid (grE n = z) := ⟨_, rfl⟩
  obtain ⟨L, HLz⟩ : ∃ L, Hid (grZ n = L) := ⟨_, rfl⟩
  obtain ⟨pe, Hpe⟩ : ∃ pe, Hid (plE n x = pe) := ⟨_, rfl⟩
  obtain ⟨pz, Hpz⟩ : ∃ pz, Hid (plZ n x = pz) := ⟨_, rfl⟩
  rw [Hz.out, HLz.out] at D9 H10 HGE
  rw [Hpe.out, Hpz.out] at H12 HBX
  rw [Hz.out, HLz.out, Hpe.out] at HBY
  rw [HLz.out, Hpe.out, Hpz.out] at HPI
  rw [HLz.out] at H11 HL
  have hzz : ((z : Int) != (z : Int)) = false := by simp
  have hB : Below w.heap.size w w := Below.refl _ _
  by_cases hp : pe = 0
  · obtain ⟨hz, hx0, hxl⟩ := HBY.out.1 hp
    obtain ⟨hpl, hpx⟩ := HPI.out hp
    subst hp
    subst hz
    obtain ⟨len, Hln⟩ : ∃ len, Hid (L.length = len) := ⟨_, rfl⟩
    rw [Hln.out] at hxl hpl HL
    have d1 : decide (x < 0) = false := by simp; omega
    have d2 : decide ((len : Int) ≤ x) = false := by simp; omega
    have d3 : decide ((0 : Int) ≤ (pz : Int)) = true := by simp
    have d4 : decide ((pz : Int) < (len : Int)) = true := by simp; omega
    have d5 : (x == x) = true := by simp
    have pl1 : (0 : Int) ≤ (pz : Int) := by omega
    have pl2 : (pz : Int) < (len : Int) := by omega
    have hlen0 : 0 < L.length := by have := Hln.out; omega
    go_enter Try.func3, Try.ntmps3
    go_wp2_with (first
      | (go_at_call 9; refine D9.mono ?_; rintro e wa ⟨⟨y1, rfl, hy1⟩, bb⟩; clear D9; replace hB := hB.trans (bb.mono hB.size); have D10 := H10.out wa; obtain ⟨b1, o1, c1, rfl, -⟩ := hy1.some hlen0)
      | (go_at_call 10; refine D10.mono ?_; rintro e wb ⟨⟨y2, rfl, hy2⟩, bb⟩; clear D10; replace hB := hB.trans (bb.mono hB.size); replace hy1 := hy1.below bb; obtain ⟨b2, o2, c2, rfl, -⟩ := hy2.some hlen0; have D11 := H11.out wb _ _ hy1 hy2; rw [Hln.out] at D11 hy2 ⊢)
      | (go_at_call 11; refine D11.mono ?_; rintro e wc ⟨rfl, bb⟩; clear D11; replace hB := hB.trans (bb.mono hB.size); replace hy2 := hy2.below bb; have D12 := H12.out wc)
      | (go_at_call 12; refine D12.mono ?_; rintro e wd ⟨rfl, bb⟩; clear D12; replace hB := hB.trans (bb.mono hB.size); replace hy2 := hy2.below bb; have hcx := hy2.cellAt hpl; rw [hpx] at hcx; clear hy2)
      | go_in)
    go_ret
    exact ⟨rfl, hB⟩
  · obtain ⟨rfl, rfl⟩ := HBX.out hp
    by_cases hz : z = 0
    · subst hz
      have hx : ¬ (0 ≤ x ∧ x < (L.length : Int)) := fun h => hp (HBY.out.2 ⟨rfl, h⟩)
      obtain ⟨len, Hln⟩ : ∃ len, Hid (L.length = len) := ⟨_, rfl⟩
      rw [Hln.out] at hx HL
      by_cases hx0 : x < 0
      · have d1 : decide (x < 0) = true := by simpa using hx0
        go_enter Try.func3, Try.ntmps3
        go_wp2_with (first
          | (go_at_call 9; refine D9.mono ?_; rintro e wa ⟨⟨y1, rfl, hy1⟩, bb⟩; clear D9; replace hB := hB.trans (bb.mono hB.size); have D10 := H10.out wa; obtain ⟨a1, c1, rfl⟩ := hy1.len Hln.out)
          | (go_at_call 10; refine D10.mono ?_; rintro e wb ⟨⟨y2, rfl, hy2⟩, bb⟩; clear D10; replace hB := hB.trans (bb.mono hB.size); replace hy1 := hy1.below bb; obtain ⟨a2, c2, rfl⟩ := hy2.len Hln.out; have D11 := H11.out wb _ _ hy1 hy2)
          | (go_at_call 11; refine D11.mono ?_; rintro e wc ⟨rfl, bb⟩; clear D11; replace hB := hB.trans (bb.mono hB.size); have D12 := H12.out wc)
          | (go_at_call 12; refine D12.mono ?_; rintro e wd ⟨rfl, bb⟩; clear D12; replace hB := hB.trans (bb.mono hB.size))
          | go_in)
        go_ret
        exact ⟨rfl, hB⟩
      · have d1 : decide (x < 0) = false := by simpa using hx0
        have d2 : decide ((len : Int) ≤ x) = true := by simp; omega
        go_enter Try.func3, Try.ntmps3
        go_wp2_with (first
          | (go_at_call 9; refine D9.mono ?_; rintro e wa ⟨⟨y1, rfl, hy1⟩, bb⟩; clear D9; replace hB := hB.trans (bb.mono hB.size); have D10 := H10.out wa; obtain ⟨a1, c1, rfl⟩ := hy1.len Hln.out)
          | (go_at_call 10; refine D10.mono ?_; rintro e wb ⟨⟨y2, rfl, hy2⟩, bb⟩; clear D10; replace hB := hB.trans (bb.mono hB.size); replace hy1 := hy1.below bb; obtain ⟨a2, c2, rfl⟩ := hy2.len Hln.out; have D11 := H11.out wb _ _ hy1 hy2)
          | (go_at_call 11; refine D11.mono ?_; rintro e wc ⟨rfl, bb⟩; clear D11; replace hB := hB.trans (bb.mono hB.size); have D12 := H12.out wc)
          | (go_at_call 12; refine D12.mono ?_; rintro e wd ⟨rfl, bb⟩; clear D12; replace hB := hB.trans (bb.mono hB.size))
          | go_in)
        go_ret
        exact ⟨rfl, hB⟩
    · obtain ⟨rfl, rfl⟩ := HGE.out hz
      go_enter Try.func3, Try.ntmps3
      go_wp2_with (first
        | (go_at_call 9; refine D9.mono ?_; rintro e wa ⟨⟨y1, rfl, hy1⟩, bb⟩; clear D9; replace hB := hB.trans (bb.mono hB.size); have D10 := H10.out wa; obtain ⟨a1, c1, rfl⟩ := hy1.len (m := 0) rfl)
        | (go_at_call 10; refine D10.mono ?_; rintro e wb ⟨⟨y2, rfl, hy2⟩, bb⟩; clear D10; replace hB := hB.trans (bb.mono hB.size); replace hy1 := hy1.below bb; obtain ⟨a2, c2, rfl⟩ := hy2.len (m := 0) rfl; have D11 := H11.out wb _ _ hy1 hy2)
        | (go_at_call 11; refine D11.mono ?_; rintro e wc ⟨rfl, bb⟩; clear D11; replace hB := hB.trans (bb.mono hB.size); have D12 := H12.out wc)
        | (go_at_call 12; refine D12.mono ?_; rintro e wd ⟨rfl, bb⟩; clear D12; replace hB := hB.trans (bb.mono hB.size))
        | go_in)
      go_ret
      exact ⟨rfl, hB⟩
end Go.Proofs.Ytcjkcgfohmhbcaa
