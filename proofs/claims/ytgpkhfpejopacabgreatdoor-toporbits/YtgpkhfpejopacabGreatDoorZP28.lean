/- The walks of allBelow, twice and Check. -/
import Derived.Test.YtgpkhfpejopacabGreatDoorZPList
import Derived.Deep.QuietTactic
import Derived.BigQuiet
namespace Go.Proofs.YtgpkhfpejopacabGreatDoor.Gc
open Go.RowKit

set_option maxRecDepth 100000 in
set_option maxHeartbeats 400000 in
theorem allBelow_any (l : List Int) (v : Value) (bd : Int) (w : World) (hl : Sl w v l) (hll : l.length ≤ 12) :
    Calls Tryz.prog 103 #[v, .int .i64 bd] w fun e w' => e = .returned (.bool (inLB bd l)) ∧ w' = w := by
  obtain ⟨n, Hn⟩ : ∃ n : Nat, Hid (l.length = n) := ⟨_, rfl⟩
  have hn63 : n ≤ 9223372036854775807 := by have := Hn.out; omega
  obtain ⟨a, cap, rfl, hc⟩ := hl
  rw [Hn.out] at hc ⊢
  have HC : Hid (∀ j, j < n → ∃ b off, a = some ⟨b, off, none⟩ ∧ w.cell? ⟨b, off + j, none⟩ = some (.int .i64 (l.getD j 0))) := hc
  clear hc hll
  go_enter Tryz.func103, Tryz.ntmps103
  go_wp2
  go_loop [9] (fun i => ∃ j : Nat, i = .int .i64 j ∧ j ≤ n ∧ Hid (∀ t, t < j → 0 ≤ l.getD t 0 ∧ l.getD t 0 < bd)) (fun i => (n - intOf i).toNat)
  case atStart => exact ⟨0, rfl, by omega, (fun t ht => by omega : ∀ t, t < 0 → _)⟩
  case round =>
    obtain ⟨j, rfl, hj, HALL⟩ := hrel
    by_cases hlt : j < n
    · obtain ⟨z, Hz⟩ : ∃ z : Int, Hid (z = l.getD j 0) := ⟨_, rfl⟩
      obtain ⟨b, off, rfl, hcz⟩ := HC.out j hlt
      rw [← Hz.out] at hcz
      have hji : (j : Int) < n := by omega
      have hdec : decide ((j : Int) < n) = true := by simp; omega
      by_cases hz0 : z < 0
      · have hd : decide (z < 0) = true := by simpa using hz0
        go_wp2
        go_ret
        refine ⟨ret_bool (inLB_no fun h => ?_).symm, rfl⟩
        have := h j (by have := Hn.out; omega)
        rw [← Hz.out] at this
        omega
      · have hd : decide (z < 0) = false := by simpa using hz0
        by_cases hzp : bd ≤ z
        · have hd2 : decide (bd ≤ z) = true := by simpa using hzp
          go_wp2
          go_ret
          refine ⟨ret_bool (inLB_no fun h => ?_).symm, rfl⟩
          have := h j (by have := Hn.out; omega)
          rw [← Hz.out] at this
          omega
        · have hd2 : decide (bd ≤ z) = false := by simpa using hzp
          go_wp2
          go_round
          case rel =>
            refine ⟨j + 1, by go_num, by omega, (fun t ht => ?_ : ∀ t, t < j + 1 → _)⟩
            by_cases e : t = j
            · subst e; rw [← Hz.out]; omega
            · exact HALL.out t (by omega)
          case measure => simp [intOf]; omega
    · go_wp2
      go_ret
      exact ⟨ret_bool ((inLB_iff bd l).2 fun t ht => HALL.out t (by have := Hn.out; omega)).symm, rfl⟩

set_option maxRecDepth 100000 in
set_option maxHeartbeats 1000000 in
theorem twice_any (l : List Int) (v : Value) (w : World) (hl : Sl w v l) (hll : l.length ≤ 12) (hr : ∀ j, j < l.length → 0 ≤ l.getD j 0 ∧ l.getD j 0 < 12) :
    Calls Tryz.prog 104 #[v] w fun e w' => e = .returned (.bool (dupB l)) ∧ Below w.heap.size w w' := by
  obtain ⟨n, Hn⟩ : ∃ n : Nat, Hid (l.length = n) := ⟨_, rfl⟩
  have hn12 : n ≤ 12 := by have := Hn.out; omega
  obtain ⟨a, cap, rfl, hc⟩ := hl
  rw [Hn.out] at hc hr ⊢
  have HC : Hid (∀ j, j < n → ∃ b off, a = some ⟨b, off, none⟩ ∧ w.cell? ⟨b, off + j, none⟩ = some (.int .i64 (l.getD j 0))) := hc
  have HR : Hid (∀ j, j < n → 0 ≤ l.getD j 0 ∧ l.getD j 0 < 12) := hr
  clear hc hll hr
  have hb0 := BRow.made0 w
  have hB0 : Below w.heap.size w (w.alloc (.cells #[.bool false, .bool false, .bool false, .bool false, .bool false, .bool false, .bool false, .bool false, .bool false, .bool false, .bool false, .bool false] 188)) := balloc w _
  go_enter Tryz.func104, Tryz.ntmps104
  go_wp2
  go_loopw [8] (fun i wr => ∃ (j : Nat) (m : Nat → Bool), i = .int .i64 j ∧ j ≤ n ∧ BRow wr w.heap.size m ∧ Hid (∀ x : Nat, x < 12 → (m x = true ↔ ∃ t, t < j ∧ l.getD t 0 = (x : Int))) ∧ Hid (∀ i j', j' < i → i < j → l.getD i 0 ≠ l.getD j' 0) ∧ Below w.heap.size w wr) (fun i _ => (n - intOf i).toNat)
  case atStart => exact ⟨0, _, rfl, by omega, hb0, (fun x _ => ⟨fun h => by simp at h, fun ⟨t, h, _⟩ => by omega⟩ : ∀ x : Nat, x < 12 → _), (fun i j' h1 h2 => by omega : ∀ i j', j' < i → i < 0 → _), hB0⟩
  case round =>
    clear hb0 hB0
    obtain ⟨j, m, rfl, hj, hbr, HM, HD, hB⟩ := hrel
    by_cases hlt : j < n
    · obtain ⟨b, off, rfl, hcz⟩ := HC.out j hlt
      have hr := HR.out j hlt
      obtain ⟨x, hx⟩ : ∃ x : Nat, l.getD j 0 = (x : Int) := ⟨(l.getD j 0).toNat, by omega⟩
      rw [hx] at hcz
      have hx12 : (x : Int) < 12 := by omega
      clear hr
      have HX : Hid (l.getD j 0 = (x : Int)) := hx
      clear hx
      have hbw : b < w.heap.size := by simpa using block_lt_of_cell hcz
      have hcw := (hB.cell (p := ⟨b, off + j, none⟩) hbw).trans hcz
      have hcx := hbr.cell x (by omega)
      have hfx := hbr.frozen x
      have hji : (j : Int) < n := by omega
      have hdec : decide ((j : Int) < n) = true := by simp; omega
      cases hm : m x
      · rw [hm] at hcx
        go_wp2
        go_roundw
        case rel =>
          refine ⟨j + 1, updB m x, by go_num, by omega, hbr.set x, ?_, ?_, hB.setCell (by simp) _⟩
          · intro y hy
            unfold updB
            by_cases e : y = x
            · subst e
              rw [if_pos rfl]
              exact ⟨fun _ => ⟨j, by omega, HX.out⟩, fun _ => rfl⟩
            · rw [if_neg e, HM.out y hy]
              constructor
              · rintro ⟨t, h1, h2⟩; exact ⟨t, by omega, h2⟩
              · rintro ⟨t, h1, h2⟩
                by_cases et : t = j
                · subst et; rw [HX.out] at h2; omega
                · exact ⟨t, by omega, h2⟩
          · intro i j' h1 h2 e
            by_cases ei : i = j
            · subst ei
              have : m x = true := (HM.out x (by omega)).2 ⟨j', h1, by rw [← e]; exact HX.out⟩
              rw [hm] at this; simp at this
            · exact HD.out i j' h1 (by omega) e
        case measure => simp [intOf]; omega
      · rw [hm] at hcx
        go_wp2
        go_ret
        refine ⟨ret_bool ?_, hB⟩
        obtain ⟨t, h1, h2⟩ := (HM.out x (by omega)).1 hm
        exact ((dupB_iff l).2 ⟨j, t, h1, by rw [Hn.out]; exact hlt, by rw [HX.out, h2]⟩).symm
    · obtain rfl : j = n := by omega
      have hjd : decide ((j : Int) < (j : Int)) = false := by simp
      go_wp2
      go_ret
      exact ⟨ret_bool (dupB_no fun i j' h1 h2 => HD.out i j' h1 (by rw [← Hn.out]; exact h2)).symm, hB⟩

set_option maxRecDepth 100000 in
set_option maxHeartbeats 400000 in
theorem Check_any (l : List Int) (v : Value) (w : World) (hl : Sl w v l) (hll : l.length ≤ maxLen) :
    Calls Tryz.prog 52 #[v] w fun e w' => e = .returned (.int .i64 (pF l)) ∧ Below w.heap.size w w' := by
  unfold maxLen at hll
  obtain ⟨z, Hz⟩ : ∃ z : Int, Hid (pF l = z) := ⟨_, rfl⟩
  rw [Hz.out]
  have hl' := hl
  obtain ⟨a, cap, rfl, _⟩ := hl'
  by_cases h1 : 12 < l.length
  · have hd : decide ((12 : Int) < (l.length : Int)) = true := by simp; omega
    have hz : z = 3 := by rw [← Hz.out]; unfold pF; rw [if_pos h1]
    subst hz
    go_enter Tryz.func52, Tryz.ntmps52
    go_wp2
    go_ret
    exact ⟨rfl, Below.refl _ _⟩
  · have hd : decide ((12 : Int) < (l.length : Int)) = false := by simp; omega
    have C1 := allBelow_any l _ l.length w hl (by omega)
    by_cases h2 : inLB l.length l = true
    · have C2 := twice_any l _ w hl (by omega) (fun j hj => by have := (inLB_iff _ _).1 h2 j hj; omega)
      rw [h2] at C1
      have hz : z = if dupB l = true then 6 else 0 := by rw [← Hz.out]; unfold pF; rw [if_neg h1, h2, if_neg (by simp)]
      cases h3 : dupB l with
      | true =>
        rw [h3] at C2
        rw [h3, if_pos rfl] at hz
        subst hz
        go_enter Tryz.func52, Tryz.ntmps52
        go_wp2_with (first
          | (go_at_call 103; refine C1.mono ?_; rintro e w1 ⟨rfl, hw⟩; replace hw := hw.symm; subst hw)
          | (go_at_call 104; refine C2.mono ?_; rintro e w1 ⟨rfl, hb⟩))
        go_ret
        exact ⟨rfl, hb⟩
      | false =>
        rw [h3] at C2
        rw [h3, if_neg (by simp)] at hz
        subst hz
        go_enter Tryz.func52, Tryz.ntmps52
        go_wp2_with (first
          | (go_at_call 103; refine C1.mono ?_; rintro e w1 ⟨rfl, hw⟩; replace hw := hw.symm; subst hw)
          | (go_at_call 104; refine C2.mono ?_; rintro e w1 ⟨rfl, hb⟩))
        go_ret
        exact ⟨rfl, hb⟩
    · have h2 : inLB l.length l = false := by simpa using h2
      rw [h2] at C1
      have hz : z = 1 := by rw [← Hz.out]; unfold pF; rw [if_neg h1, if_pos h2]
      subst hz
      go_enter Tryz.func52, Tryz.ntmps52
      go_wp2_with (first
        | (go_at_call 103; refine C1.mono ?_; rintro e w1 ⟨rfl, hw⟩; replace hw := hw.symm; subst hw))
      go_ret
      exact ⟨rfl, Below.refl _ _⟩

end Go.Proofs.YtgpkhfpejopacabGreatDoor.Gc
