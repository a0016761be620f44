/- The walk of size. -/
import Derived.Test.YtgpkhfpejopacaaDoorE4
/- The walks of Check, size, holding. -/
namespace Go.Proofs.YtgpkhfpejopacaaDoor
open Go.RowKit

theorem Check_any (p : Int) (ls : List (List Int)) (v : Value) (w : World) (hv : Rw w v ls) (hl : ls.length ≤ maxLen) (hll : ∀ l ∈ ls, l.length ≤ maxLen) :
    Calls Tryd.prog 40 #[.agg #[.int .i64 p, v]] w fun e w' => e = .returned (.int .i64 (dF p ls : Int)) ∧ Below w.heap.size w w' := by
  obtain ⟨x0, x1⟩ := des_box p v w _ (Below.refl _ _)
  have b0 := balloc w (.cells #[.int .i64 p, v] 29)
  have C1 := open_any p ls v _ (hv.below b0) hl hll
  generalize dF p ls = z at *
  clear hv hl hll
  go_enter Tryd.func40, Tryd.ntmps40
  go_wp2_with (go_at_call 49; refine C1.mono ?_; rintro e w3 ⟨⟨x, rfl, _, _⟩, hb3⟩; clear C1)
  go_ret
  exact ⟨rfl, Below.next b0 hb3⟩

/-- A row of sets that is read. -/
def SS (w : World) (v : Value) (S : List Nat) : Prop := ∃ a cap, v = .slice a S.length cap ∧ ∀ j, j < S.length → ∃ g off, a = some ⟨g, off, none⟩ ∧ w.cell? ⟨g, off + j, none⟩ = some (.int .u64 ((S.getD j 0 : Nat) : Int))
theorem SS.below {w w' : World} {v : Value} {S : List Nat} (h : SS w v S) (hb : Below w.heap.size w w') : SS w' v S := by
  obtain ⟨a, cap, rfl, h⟩ := h
  refine ⟨a, cap, rfl, fun j hj => ?_⟩
  obtain ⟨b, off, e, hc⟩ := h j hj
  exact ⟨b, off, e, (hb.cell (p := ⟨b, off + j, none⟩) (block_lt_of_cell hc)).trans hc⟩
theorem SRow.ss {w : World} {base : Nat} {v : Value} {S : List Nat} (h : SRow w base v S) : SS w v S := by
  obtain ⟨_, ⟨rfl, hn⟩ | ⟨g, cap, cur, rfl, _, hg, _, _, _, ht⟩⟩ := h
  · have : S = [] := List.length_eq_zero_iff.1 hn
    subst this
    exact ⟨none, 0, rfl, fun j hj => by simp at hj⟩
  · refine ⟨_, cap, rfl, fun j hj => ⟨g, 0, rfl, ?_⟩⟩
    rw [cell_of_row w g _ cur 72 (0, 0) hg]
    have h2 : (cur.toList.take (S.length * 1))[j]? = (S.map fun s => Value.int .u64 ((s : Nat) : Int))[j]? := by rw [ht]
    rw [List.getElem?_take, if_pos (by omega)] at h2
    rw [Nat.zero_add, ← Array.getElem?_toList, h2]
    simp [hj]

set_option maxHeartbeats 4000000 in
theorem holding_any (S : List Nat) (s : Nat) (u : Value) (w : World) (hu : SS w u S) (hl : S.length ≤ 200) (hs : s < 2 ^ 64) (hS : ∀ x ∈ S, x < 2 ^ 64) :
    Calls Tryd.prog 99 #[u, .int .u64 (s : Int)] w fun e w' => e = .returned (.int .i64 ((S.countP fun b => decide (an s b = 0) : Nat) : Int)) ∧ w' = w := by
  obtain ⟨a, cap, rfl, hc⟩ := hu
  have HC : Hid (∀ j, j < S.length → ∃ g off, a = some ⟨g, off, none⟩ ∧ w.cell? ⟨g, off + j, none⟩ = some (.int .u64 ((S.getD j 0 : Nat) : Int))) := hc
  have HT : Hid (∀ j, j < S.length → (S.take (j + 1)).countP (fun b => decide (an s b = 0)) = (S.take j).countP (fun b => decide (an s b = 0)) + if decide (an s (S.getD j 0) = 0) = true then 1 else 0) := fun j hj => by
    rw [List.take_succ_eq_append_getElem hj, List.countP_append, List.getD_eq_getElem?_getD, List.getElem?_eq_getElem hj, List.countP_singleton]
    rfl
  have HA : Hid ((S.take S.length).countP (fun b => decide (an s b = 0)) = S.countP fun b => decide (an s b = 0)) := by show _ = _; rw [List.take_of_length_le (Nat.le_refl _)]
  have HW : Hid (∀ j, j < S.length → ∀ W, Calls Tryd.prog 103 #[.int .u64 (s : Int), .int .u64 ((S.getD j 0 : Nat) : Int)] W fun e w' => e = .returned (.bool (decide (an s (S.getD j 0) = 0))) ∧ w' = W) := fun j hj W => within_any s _ _ hs (hS _ (getD_in hj)) rfl W
  have HN : Hid (∀ j, j ≤ S.length → (S.take j).countP (fun b => decide (an s b = 0)) ≤ 200) := fun j hj => by
    refine Nat.le_trans List.countP_le_length ?_
    rw [List.length_take]; omega
  generalize hn : S.length = n at *
  clear hc hS hs
  go_enter Tryd.func99, Tryd.ntmps99
  go_wp2
  go_loopw [5, 10] (fun cv iv wr => ∃ (j : Nat), iv = .int .i64 (j : Int) ∧ cv = .int .i64 (((S.take j).countP (fun b => decide (an s b = 0)) : Nat) : Int) ∧ j ≤ n ∧ wr = w) (fun _ iv _ => (n - intOf iv).toNat)
  case atStart => exact ⟨0, rfl, rfl, by omega, rfl⟩
  case round =>
    obtain ⟨j, rfl, rfl, hj, rfl⟩ := hrel
    by_cases hlt : j < n
    · have hd : decide ((j : Int) < (n : Int)) = true := by simp; omega
      have hji : (j : Int) < (n : Int) := by omega
      obtain ⟨g, off, rfl, hcj⟩ := HC.out j hlt
      have C1 := HW.out j hlt wr
      have hT := HT.out j hlt
      have hN := HN.out j hj
      obtain ⟨y, Hy⟩ : ∃ y, Hid (S.getD j 0 = y) := ⟨_, rfl⟩
      rw [Hy.out] at hcj C1 hT
      obtain ⟨q, Hq⟩ : ∃ q, Hid (decide (an s y = 0) = q) := ⟨_, rfl⟩
      rw [Hq.out] at C1 hT
      obtain ⟨c0, Hc0⟩ : ∃ c, Hid ((S.take j).countP (fun b => decide (an s b = 0)) = c) := ⟨_, rfl⟩
      obtain ⟨c1, Hc1⟩ : ∃ c, Hid ((S.take (j + 1)).countP (fun b => decide (an s b = 0)) = c) := ⟨_, rfl⟩
      rw [Hc0.out] at hT hN ⊢
      rw [Hc1.out] at hT
      cases q with
      | true =>
        rw [if_pos rfl] at hT
        go_wp2_with (go_at_call 103; refine C1.mono ?_; rintro e w' ⟨rfl, hw⟩; replace hw := hw.symm; subst hw)
        go_roundw
        case rel => exact ⟨j + 1, by go_num, by rw [Hc1.out, hT]; go_num, by omega, by trivial⟩
        case measure => simp [intOf]; omega
      | false =>
        rw [if_neg (by decide)] at hT
        go_wp2_with (go_at_call 103; refine C1.mono ?_; rintro e w' ⟨rfl, hw⟩; replace hw := hw.symm; subst hw)
        go_roundw
        case rel => exact ⟨j + 1, by go_num, by rw [Hc1.out, hT]; rfl, by omega, by trivial⟩
        case measure => simp [intOf]; omega
    · have hd : decide ((j : Int) < (n : Int)) = false := by simp; omega
      obtain rfl : j = n := by omega
      rw [HA.out]
      clear HT HW HN
      go_wp2
      go_ret
      exact ⟨rfl, rfl⟩

end Go.Proofs.YtgpkhfpejopacaaDoor

namespace Go.Proofs.YtgpkhfpejopacaaDoor
open Go.RowKit

theorem sizes_none (w : World) (a : Option Addr) (c : Nat) :
    Calls Tryd.prog 85 #[.slice a 0 c] w fun e w' => e = .returned (.tuple #[.int .i64 0, .bool false]) ∧ w' = w := by
  go_enter Tryd.func85, Tryd.ntmps85
  go_wp2
  exact bodyPost_ret (v := .tuple #[.int .i64 0, .bool false]) (by simp [results, Tryd.results85, go_sem]) rfl ⟨rfl, rfl⟩

set_option maxHeartbeats 4000000 in
theorem sizes_main (S : List Nat) (u : Value) (w : World) (hu : SS w u S) (hl : S.length ≤ 200) (hS : ∀ x ∈ S, x < 2 ^ 64) (hne : 0 < S.length) :
    Calls Tryd.prog 85 #[u] w fun e w' => ((e = .returned (.tuple #[.int .i64 (pc (S.getD 0 0) : Int), .bool true]) ∧ ∀ x ∈ S, pc x = pc (S.getD 0 0)) ∨ (e = .returned (.tuple #[.int .i64 0, .bool false]) ∧ ¬ ∃ k, ∀ x ∈ S, pc x = k)) ∧ w' = w := by
  obtain ⟨a, cap, rfl, hc⟩ := hu
  have HC : Hid (∀ j, j < S.length → ∃ g off, a = some ⟨g, off, none⟩ ∧ w.cell? ⟨g, off + j, none⟩ = some (.int .u64 ((S.getD j 0 : Nat) : Int))) := hc
  have HW : Hid (∀ j, j < S.length → ∀ W, Calls Tryd.prog 78 #[.int .u64 ((S.getD j 0 : Nat) : Int)] W fun e w' => e = .returned (.int .i64 (pc (S.getD j 0) : Int)) ∧ w' = W) := fun j hj W => size_any _ (hS _ (getD_in hj)) W
  have HY : Hid ((∀ m, m < S.length → pc (S.getD m 0) = pc (S.getD 0 0)) → ∀ x ∈ S, pc x = pc (S.getD 0 0)) := fun h x hx => by
    obtain ⟨m, hm, rfl⟩ := List.mem_iff_getElem.1 hx
    have := h m hm
    rwa [List.getD_eq_getElem?_getD, List.getElem?_eq_getElem hm] at this
  have HNo : Hid (∀ m, m < S.length → pc (S.getD m 0) ≠ pc (S.getD 0 0) → ¬ ∃ k, ∀ x ∈ S, pc x = k) := fun m hm h => by
    rintro ⟨k, hk⟩
    exact h ((hk _ (getD_in hm)).trans (hk _ (getD_in hne)).symm)
  have HP : Hid (∀ m, pc (S.getD m 0) ≤ 64) := fun m => pc_le _
  obtain ⟨g0, off0, rfl, hc0⟩ := HC.out 0 hne
  have C0 := HW.out 0 hne w
  obtain ⟨k0, Hk0⟩ : ∃ k, Hid (pc (S.getD 0 0) = k) := ⟨_, rfl⟩
  have hk64 := HP.out 0
  rw [Hk0.out] at C0 HY HNo hk64 ⊢
  obtain ⟨y0, Hy0⟩ : ∃ y, Hid (S.getD 0 0 = y) := ⟨_, rfl⟩
  rw [Hy0.out] at hc0 C0
  rw [Nat.add_zero] at hc0
  generalize hn : S.length = n at *
  have hn0 : ((n : Int) == 0) = false := by simp; omega
  have hn1 : (0 : Int) < (n : Int) := by omega
  clear hc hS
  go_enter Tryd.func85, Tryd.ntmps85
  go_wp2_with (go_at_call 78; refine C0.mono ?_; rintro e w' ⟨rfl, hw⟩; replace hw := hw.symm; subst hw; clear C0)
  go_loopw [16] (fun iv wr => ∃ (j : Nat), iv = .int .i64 (j : Int) ∧ j ≤ n ∧ Hid (∀ m, m < j → pc (S.getD m 0) = k0) ∧ wr = w) (fun iv _ => (n - intOf iv).toNat)
  case atStart => exact ⟨0, rfl, by omega, (show ∀ m, m < 0 → _ from fun m h => by omega), rfl⟩
  case round =>
    obtain ⟨j, rfl, hj, HJ, rfl⟩ := hrel
    by_cases hlt : j < n
    · have hd : decide ((j : Int) < (n : Int)) = true := by simp; omega
      have hji : (j : Int) < (n : Int) := by omega
      obtain ⟨g, off, e2, hcj⟩ := HC.out j hlt
      obtain ⟨rfl, rfl⟩ : g0 = g ∧ off0 = off := by
        simp only [Option.some.injEq, Addr.mk.injEq] at e2
        exact ⟨e2.1, e2.2.1⟩
      have C1 := HW.out j hlt wr
      have hp := HP.out j
      obtain ⟨y, Hy⟩ : ∃ y, Hid (S.getD j 0 = y) := ⟨_, rfl⟩
      rw [Hy.out] at hcj C1 hp
      obtain ⟨k1, Hk1⟩ : ∃ k, Hid (pc y = k) := ⟨_, rfl⟩
      rw [Hk1.out] at C1 hp
      by_cases he : k1 = k0
      · have hd2 : ((k1 : Int) != (k0 : Int)) = false := by simp [he]
        have HJ2 : Hid (∀ m, m < j + 1 → pc (S.getD m 0) = k0) := fun m hm => by
          by_cases e : m = j
          · subst e; rw [Hy.out, Hk1.out]; exact he
          · exact HJ.out m (by omega)
        clear he HJ e2
        go_wp2_with (go_at_call 78; refine C1.mono ?_; rintro e w' ⟨rfl, hw⟩; replace hw := hw.symm; subst hw; clear C1)
        go_roundw
        case rel => exact ⟨j + 1, by go_num, by omega, HJ2, by trivial⟩
        case measure => simp [intOf]; omega
      · have hd2 : ((k1 : Int) != (k0 : Int)) = true := by simp; omega
        have hno := HNo.out j hlt (by rw [Hy.out, Hk1.out]; exact he)
        have HNO : Hid (¬ ∃ k, ∀ x ∈ S, pc x = k) := hno
        clear he HJ e2 hno
        go_wp2_with (go_at_call 78; refine C1.mono ?_; rintro e w' ⟨rfl, hw⟩; replace hw := hw.symm; subst hw; clear C1)
        exact bodyPost_ret (v := .tuple #[.int .i64 0, .bool false]) (by simp [results, Tryd.results85, go_sem]) rfl ⟨.inr ⟨rfl, HNO.out⟩, rfl⟩
    · have hd : decide ((j : Int) < (n : Int)) = false := by simp; omega
      obtain rfl : j = n := by omega
      have hy := HY.out HJ.out
      have HYS : Hid (∀ x ∈ S, pc x = k0) := hy
      clear hy HJ
      go_wp2
      exact bodyPost_ret (v := .tuple #[.int .i64 (k0 : Int), .bool true]) (by simp [results, Tryd.results85, go_sem]) rfl ⟨.inl ⟨rfl, HYS.out⟩, rfl⟩

end Go.Proofs.YtgpkhfpejopacaaDoor
