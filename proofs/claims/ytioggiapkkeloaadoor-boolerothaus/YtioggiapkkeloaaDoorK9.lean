/- The walks of Anf, Degree, Immune. -/
import Derived.Test.YtioggiapkkeloaaDoorK7
namespace Go.Proofs.YtioggiapkkeloaaDoor
open Go.RowKit

theorem anf_bit (n : Nat) (t : Nat → Int) (u : Nat) : anF n t u = if (anF n t u == 1) = true then 1 else 0 := by
  unfold anF
  rcases (show Pu n u t % 2 = 0 ∨ Pu n u t % 2 = 1 by omega) with h | h <;> rw [h] <;> rfl
set_option maxRecDepth 100000 in
set_option maxHeartbeats 8000000 in
theorem Anf_any : FAnf := by
  intro l v w hT hv hl
  by_cases hz : tF l = 0
  · have C := check_ok hT hv hl hz
    have D : Hid (∀ W, Below w.heap.size w W → _) := prod_later hv hz
    have e : anR l = (List.range (2 ^ bN l)).map (anF (bN l) (tf l)) := by unfold anR; rw [if_pos hz]; rfl
    have HBT : Hid (∀ u, anF (bN l) (tf l) u = if (anF (bN l) (tf l) u == 1) = true then 1 else 0) := anf_bit _ _
    rw [e, hz]
    have hls := (tF_ok hz).len
    have hpw := pow256 (tF_ok hz).le
    change l.length = 2 ^ bN l at hls
    change 1 ≤ 2 ^ bN l ∧ 2 ^ bN l ≤ 256 at hpw
    obtain ⟨a, c, rfl⟩ := sl_len hv
    rw [hls] at C D ⊢
    obtain ⟨P, hP⟩ : ∃ P : Nat → Bool, (fun u => anF (bN l) (tf l) u == 1) = P := ⟨_, rfl⟩
    have HPU : Hid (∀ u, anF (bN l) (tf l) u = if P u = true then 1 else 0) := fun u => by rw [← hP]; exact HBT.out u
    rw [hP] at D
    generalize anF (bN l) (tf l) = S at *
    obtain ⟨n, hn⟩ : ∃ n, bN l = n := ⟨_, rfl⟩
    rw [hn] at C D hpw ⊢
    obtain ⟨z, Hz⟩ : ∃ z : Nat, Hid (2 ^ n = z) := ⟨_, rfl⟩
    rw [Hz.out] at C D hpw ⊢
    obtain ⟨p1, p2⟩ := hpw
    have hmk := foldI_make z (by omega)
    clear hv e hT hl hz Hz hP HBT hls
    go_enter Tryd.func11, Tryd.ntmps11
    go_wp2_with (first
      | (go_at_call 10; refine C.mono ?_; rintro e w1 ⟨rfl, b1⟩; clear C; have D2 := D.out _ (Below.next b1 (balloc w1 (.cells (madeCells #[.int .i64 0] z) 3))); clear D)
      | (go_at_call 29; refine D2.mono ?_; rintro e w2 ⟨⟨g, hg, rfl, hO⟩, b2⟩; clear D2))
    have hg2 : w1.heap.size < g := by simp at hg; omega
    have hsz := b1.size
    have hB0 := Below.next (Below.next b1 (balloc w1 (.cells (madeCells #[.int .i64 0] z) 3))) b2
    have hT0 : OwV 3 (fun b => .int .i64 b) w2 w1.heap.size z (fun x => if x < 0 then S x else 0) := OwV.below (OwV.made z w1 _ _ rfl) b2
    clear hg b2 b1
    generalize w1.heap.size = s at *
    go_loopw [23] (fun iv wr => ∃ (j : Nat), iv = .int .i64 (j : Int) ∧ j ≤ z ∧ OwV 4 (fun b => .bool b) wr g z P ∧ OwV 3 (fun b => .int .i64 b) wr s z (fun x => if x < j then S x else 0) ∧ Below w.heap.size w wr) (fun iv _ => (z - intOf iv).toNat)
    case atStart => exact ⟨0, rfl, by omega, hO, hT0, hB0⟩
    case round =>
      clear hO hT0 hB0
      obtain ⟨j, rfl, hj, hO, hT, hB⟩ := hrel
      by_cases hlt : j < z
      · have hdj : decide ((j : Int) < (z : Int)) = true := by simp; omega
        have hji : (j : Int) < z := by omega
        have cj := hO.cell j hlt
        have ct := hT.cell j hlt
        have hfz := hT.frozen j
        have hlo := hT.lt
        have hPj := HPU.out j
        cases hp : P j with
        | true =>
          rw [hp] at cj hPj
          have HT3 : Hid (OwV 3 (fun b => .int .i64 b) (wr.setCell ⟨s, j, none⟩ (.int .i64 1)) s z (fun x => if x < j + 1 then S x else 0)) := ((hT.set j 1).congr fun x hx => by
            unfold updV
            by_cases e : x = j
            · subst e; rw [if_pos rfl, if_pos (by omega), hPj]; rfl
            · rw [if_neg e]
              dsimp only
              by_cases c : x < j
              · rw [if_pos c, if_pos (by omega)]
              · rw [if_neg c, if_neg (by omega)] : OwV _ _ _ _ _ _)
          have HO3 : Hid (OwV 4 (fun b => .bool b) (wr.setCell ⟨s, j, none⟩ (.int .i64 1)) g z P) := (hO.other _ _ (by dsimp only; omega) : OwV _ _ _ _ _ _)
          have HB3 : Hid (Below w.heap.size w (wr.setCell ⟨s, j, none⟩ (.int .i64 1))) := (hB.setCell hsz _ : Below _ _ _)
          clear hp hPj hT hO
          go_wp2
          go_roundw
          case rel => exact ⟨j + 1, by go_num, by omega, HO3.out, HT3.out, HB3.out⟩
          case measure => simp [intOf]; omega
        | false =>
          rw [hp] at cj hPj
          have HT3 : Hid (OwV 3 (fun b => .int .i64 b) wr s z (fun x => if x < j + 1 then S x else 0)) := (hT.congr fun x hx => by
            by_cases e : x = j
            · subst e; rw [if_neg (Nat.lt_irrefl _), if_pos (Nat.lt_succ_self _), hPj]; rfl
            · by_cases c : x < j
              · rw [if_pos c, if_pos (by omega)]
              · rw [if_neg c, if_neg (by omega)] : OwV _ _ _ _ _ _)
          clear hp hPj hT
          go_wp2
          go_roundw
          case rel => exact ⟨j + 1, by go_num, by omega, hO, HT3.out, hB⟩
          case measure => simp [intOf]; omega
      · have hdj : decide ((j : Int) < (z : Int)) = false := by simp; omega
        have hsl := (hT.congr (f' := S) fun x hx => if_pos (by omega)).sl z
        clear hT hO
        go_wp2
        go_ret2
        exact ⟨⟨_, rfl, hsl⟩, hB⟩
  · obtain ⟨u, hu, hne, C⟩ := check_bad hT hv hl hz
    have e : anR l = [] := by unfold anR; rw [if_neg hz]
    rw [e, hu]
    clear hv e hT hl hz hu
    go_enter Tryd.func11, Tryd.ntmps11
    go_wp2_with (go_at_call 10; refine C.mono ?_; rintro e w1 ⟨rfl, b1⟩; clear C)
    go_ret2
    exact ⟨⟨_, rfl, Sl.nil _⟩, b1⟩
set_option maxRecDepth 100000 in
set_option maxHeartbeats 8000000 in
theorem Degree_any : FDegree := by
  intro l v w hT hv hl
  by_cases hz : tF l = 0
  · have C := check_ok hT hv hl hz
    have D : Hid (∀ W, Below w.heap.size w W → _) := prod_later hv hz
    have e : dgR l = dgT (anF (bN l) (tf l)) (2 ^ bN l) := by unfold dgR; rw [if_pos hz]; rfl
    rw [e, hz]
    have hpw := pow256 (tF_ok hz).le
    change 1 ≤ 2 ^ bN l ∧ 2 ^ bN l ≤ 256 at hpw
    obtain ⟨P, hP⟩ : ∃ P : Nat → Bool, (fun u => anF (bN l) (tf l) u == 1) = P := ⟨_, rfl⟩
    have HPU : Hid (∀ u, anF (bN l) (tf l) u = 1 ↔ P u = true) := fun u => by rw [← hP]; simp
    rw [hP] at D
    have HD : Hid (∀ u, dgT (anF (bN l) (tf l)) (u + 1) = if anF (bN l) (tf l) u = 1 ∧ dgT (anF (bN l) (tf l)) u < wt u then wt u else dgT (anF (bN l) (tf l)) u) := fun _ => rfl
    have HL : Hid (∀ u, dgT (anF (bN l) (tf l)) u ≤ 8) := dgT_le _
    have HD0 : Hid (dgT (anF (bN l) (tf l)) 0 = 0) := rfl
    generalize dgT (anF (bN l) (tf l)) = T at *
    generalize anF (bN l) (tf l) = S at *
    have CW : Hid (∀ (u : Nat) (W : World), u < 999 - 743 → Calls Tryd.prog 30 #[.int .i64 (u : Int)] W fun e w' => e = .returned (.int .i64 (wt u : Int)) ∧ w' = W) := fun u W h => weight_any u W h
    obtain ⟨n, hn⟩ : ∃ n, bN l = n := ⟨_, rfl⟩
    rw [hn] at C D hpw ⊢
    obtain ⟨z, Hz⟩ : ∃ z : Nat, Hid (2 ^ n = z) := ⟨_, rfl⟩
    rw [Hz.out] at D hpw ⊢
    obtain ⟨p1, p2⟩ := hpw
    obtain ⟨Y, HY⟩ : ∃ y, Hid (T z = y) := ⟨_, rfl⟩
    rw [HY.out]
    clear hv e hT hl hz Hz hP
    go_enter Tryd.func12, Tryd.ntmps12
    go_wp2_with (first
      | (go_at_call 10; refine C.mono ?_; rintro e w1 ⟨rfl, b1⟩; clear C; have D2 := D.out _ b1; clear D)
      | (go_at_call 29; refine D2.mono ?_; rintro e w2 ⟨⟨g, hg, rfl, hO⟩, b2⟩; clear D2))
    have hB := Below.next b1 b2
    clear hg b2 b1
    go_loopw [6, 20] (fun dv iv wr => ∃ (j m : Nat), iv = .int .i64 (j : Int) ∧ j ≤ z ∧ dv = .int .i64 (m : Int) ∧ m ≤ 8 ∧ Hid (T j = m) ∧ wr = w2) (fun _ iv _ => (z - intOf iv).toNat)
    case atStart => exact ⟨0, 0, rfl, by omega, rfl, by omega, HD0, rfl⟩
    case round =>
      obtain ⟨j, m, rfl, hj, rfl, hm8, HM, hw⟩ := hrel
      replace hw := hw.symm
      subst hw
      by_cases hlt : j < z
      · have hdj : decide ((j : Int) < (z : Int)) = true := by simp; omega
        have hji : (j : Int) < z := by omega
        have cj := hO.cell j hlt
        have hd := HD.out j
        rw [HM.out] at hd
        have CJ := CW.out j w2 (by omega)
        have hwl := wt_le j
        have hpu := HPU.out j
        obtain ⟨t, Ht⟩ : ∃ t, Hid (wt j = t) := ⟨_, rfl⟩
        rw [Ht.out] at CJ hd hwl
        cases hp : P j with
        | true =>
          rw [hp] at cj
          have h1 := hpu.2 hp
          have HN : Hid (T (j + 1) = max m t) := by
            show _ = _
            rw [hd]
            by_cases k : m < t
            · rw [if_pos ⟨h1, k⟩, Nat.max_eq_right (by omega)]
            · rw [if_neg (fun h => k h.2), Nat.max_eq_left (by omega)]
          clear hp h1 hpu hd HM
          go_wp2_with (go_at_call 30; refine CJ.mono ?_; rintro e w3 ⟨rfl, hw⟩; replace hw := hw.symm; subst hw; clear CJ)
          go_roundw
          case rel => exact ⟨j + 1, max m t, by go_num, by omega, by go_num, by omega, HN, trivial⟩
          case measure => simp [intOf]; omega
        | false =>
          rw [hp] at cj
          have HN : Hid (T (j + 1) = m) := by
            show _ = _
            rw [hd, if_neg (fun h => by rw [hpu.1 h.1] at hp; cases hp)]
          clear hp hpu hd HM CJ
          go_wp2
          go_roundw
          case rel => exact ⟨j + 1, m, by go_num, by omega, rfl, hm8, HN, trivial⟩
          case measure => simp [intOf]; omega
      · have hdj : decide ((j : Int) < (z : Int)) = false := by simp; omega
        obtain rfl : j = z := by omega
        obtain rfl : m = Y := HM.out.symm.trans HY.out
        clear hO
        go_wp2
        go_ret2
        exact ⟨rfl, hB⟩
  · obtain ⟨u, hu, hne, C⟩ := check_bad hT hv hl hz
    have e : dgR l = 0 := by unfold dgR; rw [if_neg hz]
    rw [e, hu]
    clear hv e hT hl hz hu
    go_enter Tryd.func12, Tryd.ntmps12
    go_wp2_with (go_at_call 10; refine C.mono ?_; rintro e w1 ⟨rfl, b1⟩; clear C)
    go_ret2
    exact ⟨rfl, b1⟩
set_option maxRecDepth 100000 in
set_option maxHeartbeats 8000000 in
theorem Immune_any : FImmune := by
  intro l v w hT hv hl
  by_cases hz : tF l = 0
  · have C := check_ok hT hv hl hz
    have D : Hid (∀ W, Below w.heap.size w W → _) := spec_later hv hz
    have e : imR l = imT (bN l) (spF (bN l) l) (2 ^ bN l) := by unfold imR; rw [if_pos hz]; exact (imT_imN _ (tF_ok hz).le).symm
    rw [e, hz]
    have hpw := pow256 (tF_ok hz).le
    have h8 := (tF_ok hz).le
    change 1 ≤ 2 ^ bN l ∧ 2 ^ bN l ≤ 256 at hpw
    change bN l ≤ 8 at h8
    have HD : Hid (∀ u, imT (bN l) (spF (bN l) l) (u + 1) = if 0 < u ∧ spF (bN l) l u ≠ 0 then min (imT (bN l) (spF (bN l) l) u) (wt u - 1) else imT (bN l) (spF (bN l) l) u) := fun _ => rfl
    have HD0 : Hid (imT (bN l) (spF (bN l) l) 0 = bN l) := rfl
    have HWP : Hid (∀ a, a < 2 ^ bN l → 0 < a → 1 ≤ wt a) := fun a ha h0 => wt_pos h8 ha h0
    generalize imT (bN l) (spF (bN l) l) = T at *
    generalize spF (bN l) l = S at *
    have CW : Hid (∀ (u : Nat) (W : World), u < 999 - 743 → Calls Tryd.prog 30 #[.int .i64 (u : Int)] W fun e w' => e = .returned (.int .i64 (wt u : Int)) ∧ w' = W) := fun u W h => weight_any u W h
    obtain ⟨n, hn⟩ : ∃ n, bN l = n := ⟨_, rfl⟩
    rw [hn] at C D hpw h8 HD0 HWP ⊢
    obtain ⟨z, Hz⟩ : ∃ z : Nat, Hid (2 ^ n = z) := ⟨_, rfl⟩
    rw [Hz.out] at D hpw HWP ⊢
    obtain ⟨p1, p2⟩ := hpw
    obtain ⟨Y, HY⟩ : ∃ y, Hid (T z = y) := ⟨_, rfl⟩
    rw [HY.out]
    clear hv e hT hl hz Hz
    go_enter Tryd.func21, Tryd.ntmps21
    go_wp2_with (first
      | (go_at_call 10; refine C.mono ?_; rintro e w1 ⟨rfl, b1⟩; clear C; have D2 := D.out _ b1; clear D)
      | (go_at_call 31; refine D2.mono ?_; rintro e w2 ⟨⟨g, hg, rfl, hO⟩, b2⟩; clear D2))
    have hB := Below.next b1 b2
    clear hg b2 b1
    go_loopw [6, 21] (fun dv iv wr => ∃ (j m : Nat), iv = .int .i64 (j : Int) ∧ j ≤ z ∧ dv = .int .i64 (m : Int) ∧ m ≤ 8 ∧ Hid (T j = m) ∧ wr = w2) (fun _ iv _ => (z - intOf iv).toNat)
    case atStart => exact ⟨0, n, rfl, by omega, rfl, h8, HD0, rfl⟩
    case round =>
      obtain ⟨j, m, rfl, hj, rfl, hm8, HM, hw⟩ := hrel
      replace hw := hw.symm
      subst hw
      by_cases hlt : j < z
      · have hdj : decide ((j : Int) < (z : Int)) = true := by simp; omega
        have hji : (j : Int) < z := by omega
        have cj := hO.cell j hlt
        have hd := HD.out j
        rw [HM.out] at hd
        have CJ := CW.out j w2 (by omega)
        have hwl := wt_le j
        have hwp := HWP.out j hlt
        obtain ⟨t, Ht⟩ : ∃ t, Hid (wt j = t) := ⟨_, rfl⟩
        obtain ⟨x, Hx⟩ : ∃ x, Hid (S j = x) := ⟨_, rfl⟩
        rw [Ht.out] at CJ hd hwl hwp
        rw [Hx.out] at cj hd
        by_cases h0 : 0 < j
        · have d0 : decide ((0 : Int) < (j : Int)) = true := by simp; omega
          have d0' : decide (0 < j) = true := by simp; omega
          have ht1 := hwp h0
          by_cases hx : x = 0
          · have dx : (x != 0) = false := by simp [hx]
            have HN : Hid (T (j + 1) = m) := by show _ = _; rw [hd, if_neg (fun h => h.2 hx)]
            clear hx hd HM CJ hwp
            go_wp2
            go_roundw
            case rel => exact ⟨j + 1, m, by go_num, by omega, rfl, hm8, HN, trivial⟩
            case measure => simp [intOf]; omega
          · have dx : (x != 0) = true := by simp [hx]
            have HN : Hid (T (j + 1) = min m (t - 1)) := by show _ = _; rw [hd, if_pos ⟨h0, hx⟩]
            clear hx hd HM hwp
            go_wp2_with (go_at_call 30; refine CJ.mono ?_; rintro e w3 ⟨rfl, hw⟩; replace hw := hw.symm; subst hw; clear CJ)
            go_roundw
            case rel => exact ⟨j + 1, min m (t - 1), by go_num, by omega, by go_num, by omega, HN, trivial⟩
            case measure => simp [intOf]; omega
        · have d0 : decide ((0 : Int) < (j : Int)) = false := by simp; omega
          have d0' : decide (0 < j) = false := by simp; omega
          have HN : Hid (T (j + 1) = m) := by show _ = _; rw [hd, if_neg (fun h => h0 h.1)]
          clear hd HM CJ hwp
          go_wp2
          go_roundw
          case rel => exact ⟨j + 1, m, by go_num, by omega, rfl, hm8, HN, trivial⟩
          case measure => simp [intOf]; omega
      · have hdj : decide ((j : Int) < (z : Int)) = false := by simp; omega
        obtain rfl : j = z := by omega
        obtain rfl : m = Y := HM.out.symm.trans HY.out
        clear hO
        go_wp2
        go_ret2
        exact ⟨rfl, hB⟩
  · obtain ⟨u, hu, hne, C⟩ := check_bad hT hv hl hz
    have e : imR l = 0 := by unfold imR; rw [if_neg hz]
    rw [e, hu]
    clear hv e hT hl hz hu
    go_enter Tryd.func21, Tryd.ntmps21
    go_wp2_with (go_at_call 10; refine C.mono ?_; rintro e w1 ⟨rfl, b1⟩; clear C)
    go_ret2
    exact ⟨rfl, b1⟩
end Go.Proofs.YtioggiapkkeloaaDoor
