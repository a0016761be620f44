/- The walks of isLevels, isBelow, Check. -/
import Derived.Test.YtjfjdidibglhaabDoorDFa
import Derived.Test.YtjfjdidibglhaabDoorArF
namespace Go.Proofs.YtjfjdidibglhaabDoor
open Go.RowKit

theorem isLevels_any (s : Int) (w : World) : Calls Tryd.prog 43 #[.int .i64 s] w fun e w' => e = .returned (.bool (levB s)) ∧ w' = w := by
  unfold levB
  by_cases h : 2 ≤ s
  · have hd : decide (2 ≤ s) = true := decide_eq_true h
    by_cases h2 : s ≤ 64
    · have hd2 : decide (s ≤ 64) = true := decide_eq_true h2
      go_enter Tryd.func43, Tryd.ntmps43
      go_wp2
      go_ret
      simp [hd, hd2]
    · have hd2 : decide (s ≤ 64) = false := decide_eq_false h2
      go_enter Tryd.func43, Tryd.ntmps43
      go_wp2
      go_ret
      simp
  · have hd : decide (2 ≤ s) = false := decide_eq_false h
    go_enter Tryd.func43, Tryd.ntmps43
    go_wp2
    go_ret
    simp
theorem isBelow_any (s x : Int) (w : World) : Calls Tryd.prog 44 #[.int .i64 s, .int .i64 x] w fun e w' => e = .returned (.bool (belB s x)) ∧ w' = w := by
  unfold belB
  by_cases h : 0 ≤ x
  · have hd : decide (0 ≤ x) = true := decide_eq_true h
    by_cases h2 : x < s
    · have hd2 : decide (x < s) = true := decide_eq_true h2
      go_enter Tryd.func44, Tryd.ntmps44
      go_wp2
      go_ret
      simp [hd, hd2]
    · have hd2 : decide (x < s) = false := decide_eq_false h2
      go_enter Tryd.func44, Tryd.ntmps44
      go_wp2
      go_ret
      simp
  · have hd : decide (0 ≤ x) = false := decide_eq_false h
    go_enter Tryd.func44, Tryd.ntmps44
    go_wp2
    go_ret
    simp
theorem Rw.at {w : World} {v : Value} {ls : List (List Int)} (h : Rw w v ls) {i : Nat} {l : List Int} (hi : ls[i]? = some l) {a : Option Addr} {n cap : Nat} (e : v = .slice a n cap) : ∃ b off u, a = some ⟨b, off, none⟩ ∧ w.cell? ⟨b, off + i, none⟩ = some u ∧ Sl w u l := by
  obtain ⟨a', cap', e', hr⟩ := h
  rw [e] at e'
  simp only [Value.slice.injEq] at e'
  obtain ⟨rfl, _, _⟩ := e'
  exact hr i l hi
set_option maxRecDepth 100000 in
set_option maxHeartbeats 16000000 in
theorem ACheck_any (s : Int) (ls : List (List Int)) (v : Value) (w : World) (hv : Rw w v ls) (hl : ls.length ≤ maxLen) (hll : ∀ l ∈ ls, l.length ≤ maxLen) :
    Calls Tryd.prog 21 #[.int .i64 s, v] w fun e w' => e = .returned (.int .i64 (aF s ls : Int)) ∧ w' = w := by
  have CL := isLevels_any s w
  obtain ⟨z, Hz⟩ : ∃ z, Hid (aF s ls = z) := ⟨_, rfl⟩
  rw [Hz.out]
  have HV : Hid (Rw w v ls) := hv
  have HLL : Hid (∀ l ∈ ls, l.length ≤ maxLen) := hll
  obtain ⟨n, Hn⟩ : ∃ n, Hid (ls.length = n) := ⟨_, rfl⟩
  obtain ⟨a, cap, rfl, -⟩ := hv
  rw [Hn.out] at hl ⊢
  have HV : Hid (Rw w (.slice a n cap) ls) := by rw [← Hn.out]; exact HV.out
  unfold maxLen at hl
  clear hll
  by_cases hs : levB s = false
  · obtain rfl : z = 1 := by rw [← Hz.out]; unfold aF; rw [if_pos hs]
    rw [hs] at CL
    go_enter Tryd.func21, Tryd.ntmps21
    go_wp2_with (go_at_call 43; refine CL.mono ?_; rintro e w1 ⟨rfl, h1⟩; replace h1 := h1.symm; subst h1)
    go_ret
    exact ⟨rfl, rfl⟩
  · have hs' : levB s = true := by simpa using hs
    rw [hs'] at CL
    by_cases h0 : n = 0
    · obtain rfl : z = 2 := by rw [← Hz.out]; unfold aF; rw [if_neg hs, if_pos (by rw [Hn.out]; exact h0)]
      subst h0
      go_enter Tryd.func21, Tryd.ntmps21
      go_wp2_with (go_at_call 43; refine CL.mono ?_; rintro e w1 ⟨rfl, h1⟩; replace h1 := h1.symm; subst h1)
      go_ret
      exact ⟨rfl, rfl⟩
    · have e0 : ((n : Int) == 0) = false := by rw [beq_eq_false_iff_ne]; omega
      have e0n : (n == 0) = false := by rw [beq_eq_false_iff_ne]; omega
      by_cases hb : 128 < n
      · obtain rfl : z = 3 := by rw [← Hz.out]; unfold aF; rw [Hn.out, if_neg hs, if_neg h0, if_pos hb]
        have e1 : decide ((128 : Int) < (n : Int)) = true := by simp; omega
        have e1n : decide (128 < n) = true := by simp; omega
        go_enter Tryd.func21, Tryd.ntmps21
        go_wp2_with (go_at_call 43; refine CL.mono ?_; rintro e w1 ⟨rfl, h1⟩; replace h1 := h1.symm; subst h1)
        go_ret
        exact ⟨rfl, rfl⟩
      · obtain ⟨r0, hr0⟩ : ∃ r0, ls[0]? = some r0 := ⟨_, List.getElem?_eq_getElem (by have := Hn.out; omega)⟩
        have hk0 : ls.headD [] = r0 := by cases ls with
          | nil => simp at hr0
          | cons x xs => simpa using hr0
        obtain ⟨b, off, u, rfl, hc0, hS0⟩ := HV.out.at hr0 rfl
        rw [Nat.add_zero] at hc0
        obtain ⟨ua, uc, rfl, -⟩ := id hS0
        have hk9 := HLL.out r0 (List.mem_of_getElem? hr0)
        unfold maxLen at hk9
        have e1 : decide ((128 : Int) < (n : Int)) = false := by simp; omega
        have e1n : decide (128 < n) = false := by simp; omega
        have hip : (0 : Int) < (n : Int) := by omega
        obtain ⟨k, Hk⟩ : ∃ k, Hid (r0.length = k) := ⟨_, rfl⟩
        rw [Hk.out] at hc0 hk9
        by_cases hw : k = 0 ∨ 8 < k
        · obtain rfl : z = 2 := by
            rw [← Hz.out]; unfold aF
            rw [Hn.out, if_neg hs, if_neg h0, if_neg hb, hk0, Hk.out, if_pos hw]
          clear hr0 hS0 hk0
          by_cases hk00 : k = 0
          · subst hk00
            go_enter Tryd.func21, Tryd.ntmps21
            go_wp2_with (go_at_call 43; refine CL.mono ?_; rintro e w1 ⟨rfl, h1⟩; replace h1 := h1.symm; subst h1)
            go_ret
            exact ⟨rfl, rfl⟩
          · have e2 : ((k : Int) == 0) = false := by rw [beq_eq_false_iff_ne]; omega
            have e2n : (k == 0) = false := by rw [beq_eq_false_iff_ne]; omega
            have e3 : decide ((8 : Int) < (k : Int)) = true := by simp; omega
            have e3n : decide (8 < k) = true := by simp; omega
            clear hw
            go_enter Tryd.func21, Tryd.ntmps21
            go_wp2_with (go_at_call 43; refine CL.mono ?_; rintro e w1 ⟨rfl, h1⟩; replace h1 := h1.symm; subst h1)
            go_ret
            exact ⟨rfl, rfl⟩
        · have hz : rsF s k ls = z := by
            rw [← Hz.out]; unfold aF
            rw [Hn.out, if_neg hs, if_neg h0, if_neg hb, hk0, Hk.out, if_neg hw]
          have e2 : ((k : Int) == 0) = false := by rw [beq_eq_false_iff_ne]; omega
          have e2n : (k == 0) = false := by rw [beq_eq_false_iff_ne]; omega
          have e3 : decide ((8 : Int) < (k : Int)) = false := by simp; omega
          have e3n : decide (8 < k) = false := by simp; omega
          have hk8 : k ≤ 8 := by omega
          have HZ1 : Hid (∀ i b, ls[i]? = some b → (∀ m c, m < i → ls[m]? = some c → ruF s k c = 0) → ruF s k b ≠ 0 → z = ruF s k b) := fun i b h1 h2 h3 => by rw [← hz]; exact rsF_at h1 h2 h3
          have HZ0 : Hid ((∀ (m : Nat) (c : List Int), ls[m]? = some c → ruF s k c = 0) → z = 0) := fun h => by rw [← hz]; exact rsF_none h
          have HAT : Hid (∀ i, i < n → ∃ b, ls[i]? = some b) := fun i hi => ⟨_, List.getElem?_eq_getElem (by rw [Hn.out]; exact hi)⟩
          have HLE : Hid (∀ i b, ls[i]? = some b → i < n) := fun i b h => by rw [← Hn.out]; exact (List.getElem?_eq_some_iff.1 h).1
          have HB : Hid (∀ x (W : World), Calls Tryd.prog 44 #[.int .i64 s, .int .i64 x] W fun e w' => e = .returned (.bool (belB s x)) ∧ w' = W) := fun x W => isBelow_any s x W
          have hn128 : n ≤ 128 := by omega
          clear hr0 hS0 hk0 hw hz hs h0 hb Hz
          go_enter Tryd.func21, Tryd.ntmps21
          go_wp2_with (go_at_call 43; refine CL.mono ?_; rintro e w1 ⟨rfl, h1⟩; replace h1 := h1.symm; subst h1; clear CL)
          go_loopw [7, 9, 31, 41] (fun _ _ iv _ wr => ∃ i : Nat, iv = .int .i64 (i : Int) ∧ i ≤ n ∧ Hid (∀ m c, m < i → ls[m]? = some c → ruF s k c = 0) ∧ wr = w) (fun _ _ iv _ _ => (n - intOf iv).toNat)
          case atStart => exact ⟨0, rfl, by omega, (show ∀ m c, m < 0 → _ from fun m c h => by omega), rfl⟩
          case round =>
            obtain ⟨i, rfl, hi, HI, hw⟩ := hrel
            replace hw := hw.symm
            subst hw
            by_cases hlt : i < n
            · have hdi : decide ((i : Int) < (n : Int)) = true := by simp; omega
              have hii : (i : Int) < (n : Int) := by omega
              obtain ⟨r, hri⟩ := HAT.out i hlt
              have HRI : Hid (ls[i]? = some r) := hri
              have hrl := HLL.out r (List.mem_of_getElem? hri)
              unfold maxLen at hrl
              obtain ⟨b', off', x, eb, hci, hSi⟩ := HV.out.at hri rfl
              simp only [Option.some.injEq, Addr.mk.injEq, and_true] at eb
              obtain ⟨rfl, rfl⟩ := eb
              have HSI : Hid (Sl w x r) := hSi
              obtain ⟨xa, xc, rfl, -⟩ := hSi
              obtain ⟨m, Hm⟩ : ∃ m, Hid (r.length = m) := ⟨_, rfl⟩
              rw [Hm.out] at hrl hci
              have HSI : Hid (Sl w (.slice xa m xc) r) := by rw [← Hm.out]; exact HSI.out
              by_cases hmk : m = k
              · subst hmk
                have e4 : ((m : Int) != (m : Int)) = false := by simp
                clear hri
                go_wp2
                go_loopw [9, 41] (fun _ jv wr' => ∃ j : Nat, jv = .int .i64 (j : Int) ∧ j ≤ m ∧ Hid (∀ q, q < j → belB s (r.getD q 0) = true) ∧ wr' = w) (fun _ jv _ => (m - intOf jv).toNat)
                case atStart => exact ⟨0, rfl, by omega, (show ∀ q, q < 0 → _ from fun q h => by omega), rfl⟩
                case round =>
                  obtain ⟨j, rfl, hj, HJ, hw⟩ := hrel
                  replace hw := hw.symm
                  subst hw
                  by_cases hlj : j < m
                  · have hdj : decide ((j : Int) < (m : Int)) = true := by simp; omega
                    have hjj : (j : Int) < (m : Int) := by omega
                    obtain ⟨xb, xo, xc', exa, -, hcj0⟩ := HSI.out.form Hm.out (show 0 < m by omega)
                    simp only [Value.slice.injEq, true_and] at exa
                    obtain ⟨rfl, rfl⟩ := exa
                    have hcj := hcj0 j hlj
                    clear hcj0
                    obtain ⟨y, Hy⟩ : ∃ y, Hid (r.getD j 0 = y) := ⟨_, rfl⟩
                    rw [Hy.out] at hcj
                    have CB := HB.out y w
                    cases hq : belB s y with
                    | true =>
                      rw [hq] at CB
                      have HJ2 : Hid (∀ q, q < j + 1 → belB s (r.getD q 0) = true) := fun q hq' => by
                        by_cases e : q = j
                        · subst e; rw [Hy.out]; exact hq
                        · exact HJ.out q (by omega)
                      clear HJ hq
                      go_wp2_with (go_at_call 44; refine CB.mono ?_; rintro e w1 ⟨rfl, h1⟩; replace h1 := h1.symm; subst h1; clear CB)
                      go_roundw
                      case rel => exact ⟨j + 1, by go_num, by omega, HJ2, by first | rfl | trivial⟩
                      case measure => simp [intOf]; omega
                    | false =>
                      rw [hq] at CB
                      have h1 : ruF s m r = 1 := ruF_out Hm.out hlj (by rw [Hy.out]; exact hq)
                      obtain rfl : z = 1 := by rw [HZ1.out i r HRI.out HI.out (by omega), h1]
                      clear HJ hq h1
                      go_wp2_with (go_at_call 44; refine CB.mono ?_; rintro e w1 ⟨rfl, h1⟩; replace h1 := h1.symm; subst h1; clear CB)
                      go_ret
                      exact ⟨rfl, rfl⟩
                  · have hdj : decide ((j : Int) < (m : Int)) = false := by simp; omega
                    obtain rfl : j = m := by omega
                    have HI2 : Hid (∀ m c, m < i + 1 → ls[m]? = some c → ruF s j c = 0) := fun q c hq hc => by
                      by_cases e : q = i
                      · subst e
                        have := HRI.out.symm.trans hc
                        cases this
                        exact ruF_ok Hm.out HJ.out
                      · exact HI.out q c (by omega) hc
                    clear HI HJ
                    go_wp2
                    go_roundw
                    case rel => exact ⟨i + 1, by go_num, by omega, HI2, by first | rfl | trivial⟩
                    case measure => simp [intOf]; omega
              · have e4 : ((m : Int) != (k : Int)) = true := by simp; omega
                have h2 : ruF s k r = 2 := ruF_len (by rw [Hm.out]; exact hmk)
                obtain rfl : z = 2 := by rw [HZ1.out i r HRI.out HI.out (by omega), h2]
                clear hri h2
                go_wp2
                go_ret
                exact ⟨rfl, rfl⟩
            · have hdi : decide ((i : Int) < (n : Int)) = false := by simp; omega
              obtain rfl : i = n := by omega
              obtain rfl : z = 0 := HZ0.out fun m c hc => HI.out m c (HLE.out m c hc) hc
              go_wp2
              go_ret
              exact ⟨rfl, rfl⟩
end Go.Proofs.YtjfjdidibglhaabDoor
