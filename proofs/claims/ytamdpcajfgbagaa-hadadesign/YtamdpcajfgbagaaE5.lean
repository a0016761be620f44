/- The walks of Check, size, holding. -/
import Derived.Test.YtamdpcajfgbagaaE4
namespace Go.Proofs.Ytamdpcajfgbagaa
open Go.RowKit

/-- A row of sets that is read. -/
def SS (w : World) (v : Value) (S : List Nat) : Prop := ∃ a cap, v = .slice a S.length cap ∧ ∀ j, j < S.length → ∃ g off, a = some ⟨g, off, none⟩ ∧ w.cell? ⟨g, off + j, none⟩ = some (.int .u64 ((S.getD j 0 : Nat) : Int))
theorem SS.below {w w' : World} {v : Value} {S : List Nat} (h : SS w v S) (hb : Below w.heap.size w w') : SS w' v S := by
  obtain ⟨a, cap, rfl, h⟩ := h
  refine ⟨a, cap, rfl, fun j hj => ?_⟩
  obtain ⟨b, off, e, hc⟩ := h j hj
  exact ⟨b, off, e, (hb.cell (p := ⟨b, off + j, none⟩) (block_lt_of_cell hc)).trans hc⟩
theorem SRow.ss {w : World} {base : Nat} {v : Value} {S : List Nat} (h : SRow w base v S) : SS w v S := by
  obtain ⟨_, ⟨rfl, hn⟩ | ⟨g, cap, cur, rfl, _, hg, _, _, _, ht⟩⟩ := h
  · have : S = [] := List.length_eq_zero_iff.1 hn
    subst this
    exact ⟨none, 0, rfl, fun j hj => by simp at hj⟩
  · refine ⟨_, cap, rfl, fun j hj => ⟨g, 0, rfl, ?_⟩⟩
    rw [cell_of_row w g _ cur 61 (0, 0) hg]
    have h2 : (cur.toList.take (S.length * 1))[j]? = (S.map fun s => Value.int .u64 ((s : Nat) : Int))[j]? := by rw [ht]
    rw [List.getElem?_take, if_pos (by omega)] at h2
    rw [Nat.zero_add, ← Array.getElem?_toList, h2]
    simp [hj]

set_option maxHeartbeats 4000000 in
theorem holding_any (S : List Nat) (s : Nat) (u : Value) (w : World) (hu : SS w u S) (hl : S.length ≤ 200) (hs : s < 2 ^ 64) (hS : ∀ x ∈ S, x < 2 ^ 64) :
    Calls Try.prog 36 #[u, .int .u64 (s : Int)] w fun e w' => e = .returned (.int .i64 ((S.countP fun b => decide (an s b = 0) : Nat) : Int)) ∧ w' = w := by
  obtain ⟨a, cap, rfl, hc⟩ := hu
  have HC : Hid (∀ j, j < S.length → ∃ g off, a = some ⟨g, off, none⟩ ∧ w.cell? ⟨g, off + j, none⟩ = some (.int .u64 ((S.getD j 0 : Nat) : Int))) := hc
  have HT : Hid (∀ j, j < S.length → (S.take (j + 1)).countP (fun b => decide (an s b = 0)) = (S.take j).countP (fun b => decide (an s b = 0)) + if decide (an s (S.getD j 0) = 0) = true then 1 else 0) := fun j hj => by
    rw [List.take_succ_eq_append_getElem hj, List.countP_append, List.getD_eq_getElem?_getD, List.getElem?_eq_getElem hj, List.countP_singleton]
    rfl
  have HA : Hid ((S.take S.length).countP (fun b => decide (an s b = 0)) = S.countP fun b => decide (an s b = 0)) := by show _ = _; rw [List.take_of_length_le (Nat.le_refl _)]
  have HW : Hid (∀ j, j < S.length → ∀ W, Calls Try.prog 43 #[.int .u64 (s : Int), .int .u64 ((S.getD j 0 : Nat) : Int)] W fun e w' => e = .returned (.bool (decide (an s (S.getD j 0) = 0))) ∧ w' = W) := fun j hj W => within_any s _ _ hs (hS _ (getD_in hj)) rfl W
  have HN : Hid (∀ j, j ≤ S.length → (S.take j).countP (fun b => decide (an s b = 0)) ≤ 200) := fun j hj => by
    refine Nat.le_trans List.countP_le_length ?_
    rw [List.length_take]; omega
  generalize hn : S.length = n at *
  clear hc hS hs
  go_enter Try.func36, Try.ntmps36
  go_wp2
  go_loopw [5, 10] (fun cv iv wr => ∃ (j : Nat), iv = .int .i64 (j : Int) ∧ cv = .int .i64 (((S.take j).countP (fun b => decide (an s b = 0)) : Nat) : Int) ∧ j ≤ n ∧ wr = w) (fun _ iv _ => (n - intOf iv).toNat)
  case atStart => exact ⟨0, rfl, rfl, by omega, rfl⟩
  case round =>
    obtain ⟨j, rfl, rfl, hj, rfl⟩ := hrel
    by_cases hlt : j < n
    · have hd : decide ((j : Int) < (n : Int)) = true := by simp; omega
      have hji : (j : Int) < (n : Int) := by omega
      obtain ⟨g, off, rfl, hcj⟩ := HC.out j hlt
      have C1 := HW.out j hlt wr
      have hT := HT.out j hlt
      have hN := HN.out j hj
      obtain ⟨y, Hy⟩ : ∃ y, Hid (S.getD j 0 = y) := ⟨_, rfl⟩
      rw [Hy.out] at hcj C1 hT
      obtain ⟨q, Hq⟩ : ∃ q, Hid (decide (an s y = 0) = q) := ⟨_, rfl⟩
      rw [Hq.out] at C1 hT
      obtain ⟨c0, Hc0⟩ : ∃ c, Hid ((S.take j).countP (fun b => decide (an s b = 0)) = c) := ⟨_, rfl⟩
      obtain ⟨c1, Hc1⟩ : ∃ c, Hid ((S.take (j + 1)).countP (fun b => decide (an s b = 0)) = c) := ⟨_, rfl⟩
      rw [Hc0.out] at hT hN ⊢
      rw [Hc1.out] at hT
      cases q with
      | true =>
        rw [if_pos rfl] at hT
        go_wp2_with (go_at_call 43; refine C1.mono ?_; rintro e w' ⟨rfl, hw⟩; replace hw := hw.symm; subst hw)
        go_roundw
        case rel => exact ⟨j + 1, by go_num, by rw [Hc1.out, hT]; go_num, by omega, by trivial⟩
        case measure => simp [intOf]; omega
      | false =>
        rw [if_neg (by decide)] at hT
        go_wp2_with (go_at_call 43; refine C1.mono ?_; rintro e w' ⟨rfl, hw⟩; replace hw := hw.symm; subst hw)
        go_roundw
        case rel => exact ⟨j + 1, by go_num, by rw [Hc1.out, hT]; rfl, by omega, by trivial⟩
        case measure => simp [intOf]; omega
    · have hd : decide ((j : Int) < (n : Int)) = false := by simp; omega
      obtain rfl : j = n := by omega
      rw [HA.out]
      clear HT HW HN
      go_wp2
      go_ret
      exact ⟨rfl, rfl⟩

end Go.Proofs.Ytamdpcajfgbagaa
