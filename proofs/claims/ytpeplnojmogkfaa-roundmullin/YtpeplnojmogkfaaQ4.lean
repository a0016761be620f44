/- The document's RoomsOf, walked. -/
import Derived.Test.YtpeplnojmogkfaaQ3
namespace Go.Proofs.Ytpeplnojmogkfaa
open Go.RowKit

theorem comR_step (x : Nat) (k l : List Nat) : comR (x + 1) k l = comR x k l + if k.getD x 0 = l.getD x 0 then 1 else 0 := by
  unfold comR
  rw [List.range_succ, List.countP_append]
  congr 1
  by_cases h : k.getD x 0 = l.getD x 0
  · rw [if_pos h]; simp [-List.getD_eq_getElem?_getD, h]
  · rw [if_neg h]; simp [-List.getD_eq_getElem?_getD, h]
theorem comR_le (x : Nat) (k l : List Nat) : comR x k l ≤ x := by
  unfold comR
  have := List.countP_le_length (p := fun x => k.getD x 0 == l.getD x 0) (l := List.range x)
  rwa [List.length_range] at this
set_option maxRecDepth 100000 in
set_option maxHeartbeats 16000000 in
theorem RoomsOf_any (n : Nat) (A B : List (List Nat)) (u v : Value) (w : World) (hu : Rw w u (toZ A)) (hv : Rw w v (toZ B)) (hG : GoodR n A) (hH : GoodR n B) :
    Calls Try.prog 13 #[.int .i64 (n : Int), u, v] w fun e w' => (∃ b : Bool, e = .returned (.bool b) ∧ (b = true ↔ Rms n A B)) ∧ Below w.heap.size w w' := by
  have h2 := hG.two
  have h16 := hG.le
  have hfa := hG.few
  have hfb := hH.few
  obtain ⟨ma, Hma⟩ : ∃ m, Hid (A.length = m) := ⟨_, rfl⟩
  obtain ⟨mb, Hmb⟩ : ∃ m, Hid (B.length = m) := ⟨_, rfl⟩
  rw [Hma.out] at hfa
  rw [Hmb.out] at hfb
  by_cases hab : ma = n - 1 ∧ mb = n - 1
  · obtain ⟨b, o, cap, rfl, hN⟩ := rwN_of hu (by rw [Hma.out]; omega) (by omega) hG.rds.len
    obtain ⟨b2, o2, cap2, rfl, hN2⟩ := rwN_of hv (by rw [Hmb.out]; omega) (by omega) hH.rds.len
    have HN : Hid (∀ W, Below w.heap.size w W → RwN W b o n A) := hN
    have HN2 : Hid (∀ W, Below w.heap.size w W → RwN W b2 o2 n B) := hN2
    have HY : Hid ((∀ i j, i < ma → j < mb → comR n (A.getD i []) (B.getD j []) ≤ 2) → Rms n A B) := fun h => ⟨by rw [Hma.out]; exact hab.1, by rw [Hmb.out]; exact hab.2, fun i j hi hj => h i j (by rw [← Hma.out]; exact hi) (by rw [← Hmb.out]; exact hj)⟩
    have HNo : Hid (∀ i j, i < ma → j < mb → ¬ comR n (A.getD i []) (B.getD j []) ≤ 2 → ¬ Rms n A B) := fun i j hi hj h hp => h (hp.2.2 i j (by rw [Hma.out]; exact hi) (by rw [Hmb.out]; exact hj))
    rw [Hma.out, Hmb.out]
    have hne : ((ma : Int) != (n : Int) - 1) = false := by simp; omega
    have hne2 : ((mb : Int) != (n : Int) - 1) = false := by simp; omega
    clear hN hN2 hu hv hG hH hab
    go_enter Try.func13, Try.ntmps13
    go_wp2
    go_loopw [7] (fun iv wr => ∃ i : Nat, iv = .int .i64 (i : Int) ∧ i ≤ ma ∧ Hid (∀ x y, x < i → y < mb → comR n (A.getD x []) (B.getD y []) ≤ 2) ∧ Below w.heap.size w wr) (fun iv _ => (ma - intOf iv).toNat)
    case atStart => exact ⟨0, rfl, by omega, (show ∀ x y, x < 0 → _ from fun x y h => by omega), Below.refl _ _⟩
    case round =>
      obtain ⟨i, rfl, hi, HI, hB⟩ := hrel
      by_cases hlt : i < ma
      · have hdi : decide ((i : Int) < (ma : Int)) = true := by simp; omega
        have hii : (i : Int) < (ma : Int) := by omega
        go_wp2
        go_loopw [8] (fun jv wr => ∃ j : Nat, jv = .int .i64 (j : Int) ∧ j ≤ mb ∧ Hid (∀ y, y < j → comR n (A.getD i []) (B.getD y []) ≤ 2) ∧ Below w.heap.size w wr) (fun jv _ => (mb - intOf jv).toNat)
        case atStart => exact ⟨0, rfl, by omega, (show ∀ y, y < 0 → _ from fun y h => by omega), hB⟩
        case round =>
          clear hB
          obtain ⟨j, rfl, hj, HJ, hB⟩ := hrel
          by_cases hlj : j < mb
          · have hdj : decide ((j : Int) < (mb : Int)) = true := by simp; omega
            have hjj : (j : Int) < (mb : Int) := by omega
            obtain ⟨k, Hk⟩ : ∃ k, Hid (A.getD i [] = k) := ⟨_, rfl⟩
            obtain ⟨l, Hl⟩ : ∃ l, Hid (B.getD j [] = l) := ⟨_, rfl⟩
            go_wp2
            go_loopw [9, 10] (fun sv xv wr => ∃ x s : Nat, sv = .int .i64 (s : Int) ∧ xv = .int .i64 (x : Int) ∧ x ≤ n ∧ s ≤ x ∧ Hid (comR x k l = s) ∧ Below w.heap.size w wr) (fun _ xv _ => (n - intOf xv).toNat)
            case atStart => exact ⟨0, 0, rfl, rfl, by omega, by omega, rfl, hB⟩
            case round =>
              clear hB
              obtain ⟨x, s, rfl, rfl, hx, hs, HS, hB⟩ := hrel
              by_cases hlx : x < n
              · have hdx : decide ((x : Int) < (n : Int)) = true := by simp; omega
                have hxi : (x : Int) < (n : Int) := by omega
                obtain ⟨g1, p1, c1, r1, _, k1⟩ := (HN.out wr hB).row i (by rw [Hma.out]; exact hlt)
                obtain ⟨g2, p2, c2, r2, _, k2⟩ := (HN2.out wr hB).row j (by rw [Hmb.out]; exact hlj)
                have e1 := k1 x hlx
                have e2 := k2 x hlx
                have st := comR_step x k l
                rw [HS.out] at st
                rw [Hk.out] at e1
                rw [Hl.out] at e2
                obtain ⟨y, Hy⟩ : ∃ y, Hid (k.getD x 0 = y) := ⟨_, rfl⟩
                obtain ⟨z, Hz⟩ : ∃ z, Hid (l.getD x 0 = z) := ⟨_, rfl⟩
                rw [Hy.out] at e1 st
                rw [Hz.out] at e2 st
                clear k1 k2
                by_cases hyz : y = z
                · have hye : ((y : Int) == (z : Int)) = true := by simp [hyz]
                  have HS2 : Hid (comR (x + 1) k l = s + 1) := by show _ = _; rw [st, if_pos hyz]
                  clear st hyz
                  go_wp2
                  go_quiet (fail)
                  go_wp2
                  go_roundw
                  case rel => exact ⟨x + 1, s + 1, by go_num, by go_num, by omega, by omega, HS2, bdrewN hB _⟩
                  case measure => simp [intOf]; omega
                · have hye : ((y : Int) == (z : Int)) = false := by simp; omega
                  have HS2 : Hid (comR (x + 1) k l = s) := by show _ = _; rw [st, if_neg hyz]; omega
                  clear st hyz
                  go_wp2
                  go_quiet (fail)
                  go_wp2
                  go_roundw
                  case rel => exact ⟨x + 1, s, rfl, by go_num, by omega, by omega, HS2, bdrewN hB _⟩
                  case measure => simp [intOf]; omega
              · have hdx : decide ((x : Int) < (n : Int)) = false := by simp; omega
                have hdxn : decide (x < n) = false := by simp; omega
                have HS2 : Hid (comR n (A.getD i []) (B.getD j []) = s) := by show _ = _; rw [Hk.out, Hl.out, ← HS.out, show x = n by omega]
                clear HS
                by_cases hs2 : 2 < s
                · have hd : decide ((2 : Int) < (s : Int)) = true := by simp; omega
                  have HP : Hid (¬ Rms n A B) := HNo.out i j hlt hlj (by rw [HS2.out]; omega)
                  go_wp2
                  go_ret
                  exact ⟨⟨false, rfl, by simp [HP.out]⟩, hB⟩
                · have hd : decide ((2 : Int) < (s : Int)) = false := by simp; omega
                  have hdn : decide (2 < s) = false := by simp; omega
                  have HJ2 : Hid (∀ y, y < j + 1 → comR n (A.getD i []) (B.getD y []) ≤ 2) := fun y hy => by
                    by_cases e : y = j
                    · rw [e, HS2.out]; omega
                    · exact HJ.out y (by omega)
                  go_wp2
                  go_roundw
                  case rel => exact ⟨j + 1, by go_num, by omega, HJ2, hB⟩
                  case measure => simp [intOf]; omega
          · have hdj : decide ((j : Int) < (mb : Int)) = false := by simp; omega
            have hdjn : decide (j < mb) = false := by simp; omega
            have HI2 : Hid (∀ x y, x < i + 1 → y < mb → comR n (A.getD x []) (B.getD y []) ≤ 2) := fun x y hx hy => by
              by_cases e : x = i
              · rw [e]; exact HJ.out y (by omega)
              · exact HI.out x y (by omega) hy
            go_wp2
            go_roundw
            case rel => exact ⟨i + 1, by go_num, by omega, HI2, hB⟩
            case measure => simp [intOf]; omega
      · have hdi : decide ((i : Int) < (ma : Int)) = false := by simp; omega
        have hdin : decide (i < ma) = false := by simp; omega
        have HP : Hid (Rms n A B) := HY.out fun x y hx hy => HI.out x y (by omega) hy
        go_wp2
        go_ret
        exact ⟨⟨true, rfl, by simp [HP.out]⟩, hB⟩
  · obtain ⟨a, cap, rfl, _⟩ := id hu
    obtain ⟨a2, cap2, rfl, _⟩ := id hv
    rw [show (toZ A).length = ma by rw [← Hma.out]; simp [toZ], show (toZ B).length = mb by rw [← Hmb.out]; simp [toZ]]
    have HP : Hid (¬ Rms n A B) := fun h => hab ⟨by rw [← Hma.out]; exact h.1, by rw [← Hmb.out]; exact h.2.1⟩
    clear hv hG hu hH
    by_cases ha : ma = n - 1
    · have hne : ((ma : Int) != (n : Int) - 1) = false := by simp; omega
      have hne2 : ((mb : Int) != (n : Int) - 1) = true := by simp; omega
      clear hab ha
      go_enter Try.func13, Try.ntmps13
      go_wp2
      go_ret
      exact ⟨⟨false, rfl, by simp [HP.out]⟩, Below.refl _ _⟩
    · have hne : ((ma : Int) != (n : Int) - 1) = true := by simp; omega
      clear hab ha
      go_enter Try.func13, Try.ntmps13
      go_wp2
      go_ret
      exact ⟨⟨false, rfl, by simp [HP.out]⟩, Below.refl _ _⟩
end Go.Proofs.Ytpeplnojmogkfaa
