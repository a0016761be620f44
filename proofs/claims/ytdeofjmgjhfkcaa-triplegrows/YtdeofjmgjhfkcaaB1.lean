/- Which of two lists comes first: the walks of the library's Compare and of the document's Ahead. -/
import Derived.Test.YtdeofjmgjhfkcaaShC
import Derived.Test.YtdeofjmgjhfkcaaTSo
import Derived.Test.YtdeofjmgjhfkcaaDLw
import Derived.Deep.QuietTactic
import Derived.BigQuiet
namespace Go.Proofs.Ytdeofjmgjhfkcaa
open Go.RowKit

theorem cmp_drop {s t : List Nat} {i : Nat} (h1 : i < s.length) (h2 : i < t.length) : cmpL (s.drop i) (t.drop i) = if s.getD i 0 < t.getD i 0 then -1 else if t.getD i 0 < s.getD i 0 then 1 else cmpL (s.drop (i + 1)) (t.drop (i + 1)) := by
  rw [List.drop_eq_getElem_cons h1, List.drop_eq_getElem_cons h2]
  simp only [List.getD_eq_getElem?_getD, List.getElem?_eq_getElem h1, List.getElem?_eq_getElem h2, Option.getD_some]
  rfl
theorem sl_at {w : World} {u : Value} {s : List Nat} (h : Sl w u (s.map Int.ofNat)) : ∃ a cap, u = .slice a s.length cap ∧ ∀ i, i < s.length → ∃ b off, a = some ⟨b, off, none⟩ ∧ w.cell? ⟨b, off + i, none⟩ = some (.int .i64 ((s.getD i 0 : Nat) : Int)) := by
  obtain ⟨a, cap, rfl, h⟩ := h
  refine ⟨a, cap, by simp, fun i hi => ?_⟩
  obtain ⟨b, off, e, hc⟩ := h i (by simpa using hi)
  refine ⟨b, off, e, hc.trans ?_⟩
  simp [List.getD_eq_getElem?_getD, List.getElem?_eq_getElem hi]
theorem cmpI_any (x y : Nat) (w : World) : Calls Try.prog 75 #[.int .i64 (x : Int), .int .i64 (y : Int)] w fun e w' => e = .returned (.int .i64 (Lib.compareInt x y)) ∧ w' = w := by
  have h := AnyG.cmp_Compare_int cmpI x y w
  change Calls Try.prog 75 _ _ _ at h
  exact h
set_option maxRecDepth 100000 in
set_option maxHeartbeats 4000000 in
theorem Compare_any (s t : List Nat) (u v : Value) (w : World) (hu : Sl w u (s.map Int.ofNat)) (hv : Sl w v (t.map Int.ofNat)) (hl : s.length = t.length) (h9 : s.length ≤ 99) :
    Calls Try.prog 64 #[u, v] w fun e w' => e = .returned (.int .i64 (cmpL s t)) ∧ w' = w := by
  obtain ⟨a, ca, rfl, hA⟩ := sl_at hu
  obtain ⟨b, cb, rfl, hB⟩ := sl_at hv
  have HA : Hid (∀ i, i < s.length → ∃ b off, a = some ⟨b, off, none⟩ ∧ w.cell? ⟨b, off + i, none⟩ = some (.int .i64 ((s.getD i 0 : Nat) : Int))) := hA
  have HB : Hid (∀ i, i < s.length → ∃ c off, b = some ⟨c, off, none⟩ ∧ w.cell? ⟨c, off + i, none⟩ = some (.int .i64 ((t.getD i 0 : Nat) : Int))) := fun i hi => hB i (by omega)
  have HD : Hid (∀ i, i < s.length → cmpL (s.drop i) (t.drop i) = if s.getD i 0 < t.getD i 0 then -1 else if t.getD i 0 < s.getD i 0 then 1 else cmpL (s.drop (i + 1)) (t.drop (i + 1))) := fun i hi => cmp_drop hi (by omega)
  have HE : Hid (cmpL (s.drop s.length) (t.drop s.length) = 0) := by show _ = _; rw [List.drop_length]; rfl
  rw [← hl]
  obtain ⟨z, Hz⟩ : ∃ z, Hid (cmpL s t = z) := ⟨_, rfl⟩
  rw [Hz.out]
  have Hz0 : Hid (cmpL (s.drop 0) (t.drop 0) = z) := Hz.out
  generalize s.length = n at *
  clear hu hv hA hB hl
  go_enter Try.func64, Try.ntmps64
  go_wp2
  go_loopw [11] (fun iv wr => ∃ (i : Nat), iv = .int .i64 (i : Int) ∧ i ≤ n ∧ Hid (cmpL (s.drop i) (t.drop i) = z) ∧ wr = w) (fun iv _ => (n - intOf iv).toNat)
  case atStart => exact ⟨0, rfl, by omega, Hz0, rfl⟩
  case round =>
    obtain ⟨i, rfl, hi, Hi, hw⟩ := hrel
    subst hw
    by_cases hlt : i < n
    · have hdi : decide ((i : Int) < (n : Int)) = true := by simp; omega
      have hii : (i : Int) < (n : Int) := by omega
      have hge : decide ((n : Int) ≤ (i : Int)) = false := by simp; omega
      have hge2 : ¬ (n : Int) ≤ (i : Int) := by omega
      obtain ⟨b1, o1, rfl, c1⟩ := HA.out i hlt
      obtain ⟨b2, o2, rfl, c2⟩ := HB.out i hlt
      have hd := HD.out i hlt
      rw [Hi.out] at hd
      have C := fun W => cmpI_any (s.getD i 0) (t.getD i 0) W
      generalize hx : s.getD i 0 = x at *
      generalize hy : t.getD i 0 = y at *
      by_cases h1 : x < y
      · have e1 : Lib.compareInt (x : Int) (y : Int) = -1 := by unfold Lib.compareInt; rw [if_pos (by omega)]
        rw [if_pos h1] at hd
        rw [e1] at C
        clear hx hy h1
        go_wp2_with (go_at_call 75; refine (C _).mono ?_; rintro e w4 ⟨rfl, hw⟩; replace hw := hw.symm; subst hw; clear C)
        go_ret
        exact ⟨by rw [hd]; rfl, rfl⟩
      · by_cases h2 : y < x
        · have e1 : Lib.compareInt (x : Int) (y : Int) = 1 := by unfold Lib.compareInt; rw [if_neg (by omega), if_pos (by omega)]
          rw [if_neg h1, if_pos h2] at hd
          rw [e1] at C
          clear hx hy h1 h2
          go_wp2_with (go_at_call 75; refine (C _).mono ?_; rintro e w4 ⟨rfl, hw⟩; replace hw := hw.symm; subst hw; clear C)
          go_ret
          exact ⟨by rw [hd]; rfl, rfl⟩
        · have e1 : Lib.compareInt (x : Int) (y : Int) = 0 := by unfold Lib.compareInt; rw [if_neg (by omega), if_neg (by omega)]
          rw [if_neg h1, if_neg h2] at hd
          rw [e1] at C
          have Hd : Hid (cmpL (s.drop (i + 1)) (t.drop (i + 1)) = z) := hd.symm
          clear hx hy h1 h2 hd
          go_wp2_with (go_at_call 75; refine (C _).mono ?_; rintro e w4 ⟨rfl, hw⟩; replace hw := hw.symm; subst hw; clear C)
          go_roundw
          case rel => exact ⟨i + 1, by go_num, by omega, Hd, trivial⟩
          case measure => simp [intOf]; omega
    · have hdi : decide ((i : Int) < (n : Int)) = false := by simp; omega
      obtain rfl : i = n := by omega
      have hz : z = 0 := by rw [← Hi.out]; exact HE.out
      go_wp2
      go_ret
      exact ⟨by rw [hz]; rfl, rfl⟩
set_option maxRecDepth 100000 in
set_option maxHeartbeats 4000000 in
theorem Ahead_any (s t : List Nat) (u v : Value) (w : World) (hu : Sl w u (s.map Int.ofNat)) (hv : Sl w v (t.map Int.ofNat)) (hl : s.length = t.length) (h9 : s.length ≤ 99) :
    Calls Try.prog 55 #[u, v] w fun e w' => e = .returned (.bool (decide (cmpL s t < 0))) ∧ Below w.heap.size w w' := by
  obtain ⟨a, ca, rfl, hA⟩ := sl_at hu
  obtain ⟨b, cb, rfl, hB⟩ := sl_at hv
  have HA : Hid (∀ i, i < s.length → ∃ b off, a = some ⟨b, off, none⟩ ∧ w.cell? ⟨b, off + i, none⟩ = some (.int .i64 ((s.getD i 0 : Nat) : Int))) := hA
  have HB : Hid (∀ i, i < s.length → ∃ c off, b = some ⟨c, off, none⟩ ∧ w.cell? ⟨c, off + i, none⟩ = some (.int .i64 ((t.getD i 0 : Nat) : Int))) := fun i hi => hB i (by omega)
  have HD : Hid (∀ i, i < s.length → cmpL (s.drop i) (t.drop i) = if s.getD i 0 < t.getD i 0 then -1 else if t.getD i 0 < s.getD i 0 then 1 else cmpL (s.drop (i + 1)) (t.drop (i + 1))) := fun i hi => cmp_drop hi (by omega)
  have HE : Hid (cmpL (s.drop s.length) (t.drop s.length) = 0) := by show _ = _; rw [List.drop_length]; rfl
  rw [← hl]
  obtain ⟨z, Hz⟩ : ∃ z, Hid (cmpL s t = z) := ⟨_, rfl⟩
  rw [Hz.out]
  have Hz0 : Hid (cmpL (s.drop 0) (t.drop 0) = z) := Hz.out
  generalize s.length = n at *
  clear hu hv hA hB hl
  go_enter Try.func55, Try.ntmps55
  go_wp2
  go_loopw [5] (fun iv wr => ∃ (i : Nat), iv = .int .i64 (i : Int) ∧ i ≤ n ∧ Hid (cmpL (s.drop i) (t.drop i) = z) ∧ Below w.heap.size w wr) (fun iv _ => (n - intOf iv).toNat)
  case atStart => exact ⟨0, rfl, by omega, Hz0, Below.refl _ _⟩
  case round =>
    obtain ⟨i, rfl, hi, Hi, hw⟩ := hrel
    by_cases hlt : i < n
    · have hdi : decide ((i : Int) < (n : Int)) = true := by simp; omega
      have hii : (i : Int) < (n : Int) := by omega
      obtain ⟨b1, o1, rfl, c1⟩ := HA.out i hlt
      obtain ⟨b2, o2, rfl, c2⟩ := HB.out i hlt
      replace c1 := (hw.cell (World.block_lt_of_cell? _ _ c1)).trans c1
      replace c2 := (hw.cell (World.block_lt_of_cell? _ _ c2)).trans c2
      have hd := HD.out i hlt
      rw [Hi.out] at hd
      generalize hx : s.getD i 0 = x at *
      generalize hy : t.getD i 0 = y at *
      by_cases h0 : x = y
      · subst h0
        rw [if_neg (by omega), if_neg (by omega)] at hd
        have Hd : Hid (cmpL (s.drop (i + 1)) (t.drop (i + 1)) = z) := hd.symm
        have hne : ((x : Int) != (x : Int)) = false := by simp
        clear hx hy hd
        go_wp2
        go_quiet (fail)
        go_wp2
        go_roundw
        case rel => exact ⟨i + 1, by go_num, by omega, Hd, hw.trans ⟨rfl, rfl, rfl, Nat.le_refl _, fun _ _ => rfl⟩⟩
        case measure => simp [intOf]; omega
      · have hne : ((x : Int) != (y : Int)) = true := by simp; omega
        have hne2 : ¬ (x : Int) = (y : Int) := by omega
        have hz : Hid (decide (z < 0) = decide (x < y)) := by
          show _ = _
          rw [hd]
          by_cases h1 : x < y
          · rw [if_pos h1]; simp [h1]
          · rw [if_neg h1, if_pos (by omega)]; simp [h1]
        clear hx hy hd h0
        go_wp2
        go_quiet (fail)
        go_wp2
        go_quiet (fail)
        go_wp2
        go_ret
        exact ⟨by rw [hz.out]; rfl, hw.trans ⟨rfl, rfl, rfl, Nat.le_refl _, fun _ _ => rfl⟩⟩
    · have hdi : decide ((i : Int) < (n : Int)) = false := by simp; omega
      obtain rfl : i = n := by omega
      have hz : z = 0 := by rw [← Hi.out]; exact HE.out
      have hdi2 : decide ((i : Int) < (i : Int)) = false := by simp
      go_wp2
      go_ret
      exact ⟨by rw [hz]; simp, hw⟩

end Go.Proofs.Ytdeofjmgjhfkcaa
