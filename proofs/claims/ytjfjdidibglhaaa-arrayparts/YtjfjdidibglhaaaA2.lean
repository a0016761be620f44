/- The walk of the document's RunsFault. -/
import Derived.Test.YtjfjdidibglhaaaA1
namespace Go.Proofs.Ytjfjdidibglhaaa
open Go.RowKit

set_option maxRecDepth 100000 in
set_option maxHeartbeats 16000000 in
theorem RunsFault_any (s : Int) (ls : List (List Int)) (v : Value) (w : World) (hv : Rw w v ls) (hl : ls.length ≤ maxLen) (hll : ∀ l ∈ ls, l.length ≤ maxLen) :
    Calls Try.prog 8 #[.int .i64 s, v] w fun e w' => e = .returned (.int .i64 (aF s ls : Int)) ∧ Below w.heap.size w w' := by
  obtain ⟨z, Hz⟩ : ∃ z, Hid (aF s ls = z) := ⟨_, rfl⟩
  rw [Hz.out]
  have HV : Hid (Rw w v ls) := hv
  have HLL : Hid (∀ l ∈ ls, l.length ≤ maxLen) := hll
  obtain ⟨n, Hn⟩ : ∃ n, Hid (ls.length = n) := ⟨_, rfl⟩
  obtain ⟨a, cap, rfl, -⟩ := hv
  rw [Hn.out] at hl ⊢
  have HV : Hid (∀ W, Below w.heap.size w W → Rw W (.slice a n cap) ls) := fun W b => by rw [← Hn.out]; exact HV.out.below b
  unfold maxLen at hl
  clear hll
  by_cases hs : levB s = false
  · obtain rfl : z = 1 := by rw [← Hz.out]; unfold aF; rw [if_pos hs]
    unfold levB at hs
    rw [Bool.and_eq_false_iff, decide_eq_false_iff_not, decide_eq_false_iff_not] at hs
    by_cases h2 : s < 2
    · have hd : decide (s < 2) = true := decide_eq_true h2
      clear hs
      go_enter Try.func8, Try.ntmps8
      go_wp2
      go_ret
      exact ⟨rfl, Below.refl _ _⟩
    · have hd : decide (s < 2) = false := decide_eq_false h2
      have hd2 : decide (64 < s) = true := decide_eq_true (by omega)
      clear hs
      go_enter Try.func8, Try.ntmps8
      go_wp2
      go_ret
      exact ⟨rfl, Below.refl _ _⟩
  · have hs' : levB s = true := by simpa using hs
    unfold levB at hs'
    rw [Bool.and_eq_true, decide_eq_true_eq, decide_eq_true_eq] at hs'
    have hd : decide (s < 2) = false := decide_eq_false (by omega)
    have hd2 : decide (64 < s) = false := decide_eq_false (by omega)
    by_cases h0 : n = 0
    · obtain rfl : z = 2 := by rw [← Hz.out]; unfold aF; rw [if_neg hs, if_pos (by rw [Hn.out]; exact h0)]
      subst h0
      go_enter Try.func8, Try.ntmps8
      go_wp2
      go_ret
      exact ⟨rfl, Below.refl _ _⟩
    · have e0 : ((n : Int) == 0) = false := by rw [beq_eq_false_iff_ne]; omega
      have e0n : (n == 0) = false := by rw [beq_eq_false_iff_ne]; omega
      by_cases hb : 128 < n
      · obtain rfl : z = 3 := by rw [← Hz.out]; unfold aF; rw [Hn.out, if_neg hs, if_neg h0, if_pos hb]
        have e1 : decide ((128 : Int) < (n : Int)) = true := by simp; omega
        have e1n : decide (128 < n) = true := by simp; omega
        go_enter Try.func8, Try.ntmps8
        go_wp2
        go_ret
        exact ⟨rfl, Below.refl _ _⟩
      · obtain ⟨r0, hr0⟩ : ∃ r0, ls[0]? = some r0 := ⟨_, List.getElem?_eq_getElem (by have := Hn.out; omega)⟩
        have hk0 : ls.headD [] = r0 := by cases ls with
          | nil => simp at hr0
          | cons x xs => simpa using hr0
        obtain ⟨b, off, u, rfl, hc0, hS0⟩ := (HV.out w (Below.refl _ _)).at hr0 rfl
        rw [Nat.add_zero] at hc0
        obtain ⟨ua, uc, rfl, -⟩ := id hS0
        have hk9 := HLL.out r0 (List.mem_of_getElem? hr0)
        unfold maxLen at hk9
        have e1 : decide ((128 : Int) < (n : Int)) = false := by simp; omega
        have e1n : decide (128 < n) = false := by simp; omega
        have hip : (0 : Int) < (n : Int) := by omega
        obtain ⟨k, Hk⟩ : ∃ k, Hid (r0.length = k) := ⟨_, rfl⟩
        rw [Hk.out] at hc0 hk9
        have hk0 : ls.headD [] = r0 := hk0
        have HR0 : Hid (ls[0]? = some r0) := hr0
        have HW : Hid ((k = 0 ∨ 8 < k) → z = 2) := fun hw => by
          rw [← Hz.out]; unfold aF
          rw [Hn.out, if_neg hs, if_neg h0, if_neg hb, hk0, Hk.out, if_pos hw]
        have hz : ¬ (k = 0 ∨ 8 < k) → rsF s k ls = z := fun hw => by
          rw [← Hz.out]; unfold aF
          rw [Hn.out, if_neg hs, if_neg h0, if_neg hb, hk0, Hk.out, if_neg hw]
        have HZ1 : Hid (∀ i b, ¬ (k = 0 ∨ 8 < k) → ls[i]? = some b → (∀ m c, m < i → ls[m]? = some c → ruF s k c = 0) → ruF s k b ≠ 0 → z = ruF s k b) := fun i b hw h1 h2 h3 => by rw [← hz hw]; exact rsF_at h1 h2 h3
        have HZ0 : Hid (¬ (k = 0 ∨ 8 < k) → (∀ (m : Nat) (c : List Int), ls[m]? = some c → ruF s k c = 0) → z = 0) := fun hw h => by rw [← hz hw]; exact rsF_none h
        have HAT : Hid (∀ i, i < n → ∃ b, ls[i]? = some b) := fun i hi => ⟨_, List.getElem?_eq_getElem (by rw [Hn.out]; exact hi)⟩
        have HLE : Hid (∀ i b, ls[i]? = some b → i < n) := fun i b h => by rw [← Hn.out]; exact (List.getElem?_eq_some_iff.1 h).1
        have hn128 : n ≤ 128 := by omega
        clear hr0 hS0 hk0 hz hs hs' h0 hb Hz
        go_enter Try.func8, Try.ntmps8
        go_wp2
        go_loopw [6, 7] (fun iv _ wr => ∃ i : Nat, iv = .int .i64 (i : Int) ∧ i ≤ n ∧ Hid (∀ m c, m < i → ls[m]? = some c → ruF s k c = 0) ∧ Hid (0 < i → ¬ (k = 0 ∨ 8 < k)) ∧ Below w.heap.size w wr) (fun iv _ _ => (n - intOf iv).toNat)
        case atStart => exact ⟨0, rfl, by omega, (show ∀ m c, m < 0 → _ from fun m c h => by omega), (show 0 < 0 → _ from fun h => by omega), Below.refl _ _⟩
        case round =>
          obtain ⟨i, rfl, hi, HI, HK0, hB⟩ := hrel
          by_cases hlt : i < n
          · have hdi : decide ((i : Int) < (n : Int)) = true := by simp; omega
            have hii : (i : Int) < (n : Int) := by omega
            obtain ⟨r, hri⟩ := HAT.out i hlt
            have HRI : Hid (ls[i]? = some r) := hri
            have hrl := HLL.out r (List.mem_of_getElem? hri)
            unfold maxLen at hrl
            obtain ⟨b', off', x, eb, hci, hSi⟩ := (HV.out wr hB).at hri rfl
            simp only [Option.some.injEq, Addr.mk.injEq, and_true] at eb
            obtain ⟨rfl, rfl⟩ := eb
            have hbl := block_lt_of_cell hci
            have HSI : Hid (Sl wr x r) := hSi
            obtain ⟨xa, xc, rfl, -⟩ := hSi
            obtain ⟨m, Hm⟩ : ∃ m, Hid (r.length = m) := ⟨_, rfl⟩
            rw [Hm.out] at hrl hci
            obtain ⟨w1, Hw1⟩ : ∃ w1 : World, Hid (w1 = wr) := ⟨_, rfl⟩
            have HSI : Hid (∀ W, Below w1.heap.size w1 W → Sl W (.slice xa m xc) r) := fun W b => by rw [← Hm.out]; rw [Hw1.out] at b; exact HSI.out.below b
            have HCI : Hid (∀ W, Below w1.heap.size w1 W → W.cell? ⟨b, off + i, none⟩ = some (.slice xa m xc)) := fun W b' => by rw [Hw1.out] at b'; exact (b'.cell (p := ⟨b, off + i, none⟩) hbl).trans hci
            have HB1 : Hid (Below w.heap.size w w1) := by rw [Hw1.out]; exact hB
            by_cases hmk : m = k
            · subst hmk
              have e4 : ((m : Int) != (m : Int)) = false := by simp
              by_cases hw : m = 0 ∨ 8 < m
              · obtain rfl : z = 2 := HW.out hw
                by_cases hm0 : m = 0
                · subst hm0
                  clear hri hw
                  go_wp2
                  go_ret
                  exact ⟨rfl, hB⟩
                · have e5 : ((m : Int) == 0) = false := by rw [beq_eq_false_iff_ne]; omega
                  have e5n : (m == 0) = false := by rw [beq_eq_false_iff_ne]; omega
                  have e6 : decide ((8 : Int) < (m : Int)) = true := by simp; omega
                  have e6n : decide (8 < m) = true := by simp; omega
                  clear hri hw
                  go_wp2
                  go_ret
                  exact ⟨rfl, hB⟩
              · have e5 : ((m : Int) == 0) = false := by rw [beq_eq_false_iff_ne]; omega
                have e5n : (m == 0) = false := by rw [beq_eq_false_iff_ne]; omega
                have e6 : decide ((8 : Int) < (m : Int)) = false := by simp; omega
                have e6n : decide (8 < m) = false := by simp; omega
                have hm8 : m ≤ 8 := by omega
                have HNW : Hid (¬ (m = 0 ∨ 8 < m)) := hw
                clear hri hw HK0
                go_wp2
                go_loopw [7] (fun jv wr' => ∃ j : Nat, jv = .int .i64 (j : Int) ∧ j ≤ m ∧ Hid (∀ q, q < j → belB s (r.getD q 0) = true) ∧ Below w1.heap.size w1 wr') (fun jv _ => (m - intOf jv).toNat)
                case atStart => exact ⟨0, rfl, by omega, (show ∀ q, q < 0 → _ from fun q h => by omega), by rw [Hw1.out]; exact Below.refl _ _⟩
                case round =>
                  clear hB hci
                  obtain ⟨j, rfl, hj, HJ, hB2⟩ := hrel
                  by_cases hlj : j < m
                  · have hdj : decide ((j : Int) < (m : Int)) = true := by simp; omega
                    have hjj : (j : Int) < (m : Int) := by omega
                    obtain ⟨xb, xo, xc', exa, -, hcj0⟩ := (HSI.out _ hB2).form Hm.out (show 0 < m by omega)
                    simp only [Value.slice.injEq, true_and] at exa
                    obtain ⟨rfl, rfl⟩ := exa
                    have hcj := hcj0 j hlj
                    have hci := HCI.out _ hB2
                    clear hcj0
                    obtain ⟨y, Hy⟩ : ∃ y, Hid (r.getD j 0 = y) := ⟨_, rfl⟩
                    rw [Hy.out] at hcj
                    by_cases hneg : y < 0
                    · have h1 : ruF s m r = 1 := ruF_out Hm.out hlj (by rw [Hy.out]; unfold belB; simp; omega)
                      obtain rfl : z = 1 := by rw [HZ1.out i r HNW.out HRI.out HI.out (by omega), h1]
                      have hdx : decide (y < 0) = true := decide_eq_true hneg
                      clear hneg h1 HJ
                      go_wp2
                      go_ret
                      exact ⟨rfl, Below.next HB1.out hB2⟩
                    · have hdx : decide (y < 0) = false := decide_eq_false hneg
                      by_cases hge : s ≤ y
                      · have h1 : ruF s m r = 1 := ruF_out Hm.out hlj (by rw [Hy.out]; unfold belB; simp; omega)
                        obtain rfl : z = 1 := by rw [HZ1.out i r HNW.out HRI.out HI.out (by omega), h1]
                        have hdx2 : decide (s ≤ y) = true := decide_eq_true hge
                        clear hneg hge h1 HJ
                        go_wp2
                        go_ret
                        exact ⟨rfl, Below.next HB1.out hB2⟩
                      · have hdx2 : decide (s ≤ y) = false := decide_eq_false hge
                        have HJ2 : Hid (∀ q, q < j + 1 → belB s (r.getD q 0) = true) := fun q hq' => by
                          by_cases e : q = j
                          · subst e; rw [Hy.out]; exact belB_iff.2 (by omega)
                          · exact HJ.out q (by omega)
                        clear hneg hge HJ
                        go_wp2
                        go_roundw
                        case rel => exact ⟨j + 1, by go_num, by omega, HJ2, hB2⟩
                        case measure => simp [intOf]; omega
                  · have hdj : decide ((j : Int) < (m : Int)) = false := by simp; omega
                    obtain rfl : j = m := by omega
                    have HI2 : Hid (∀ m c, m < i + 1 → ls[m]? = some c → ruF s j c = 0) := fun q c hq hc => by
                      by_cases e : q = i
                      · subst e
                        have := HRI.out.symm.trans hc
                        cases this
                        exact ruF_ok Hm.out HJ.out
                      · exact HI.out q c (by omega) hc
                    have HK2 : Hid (0 < i + 1 → ¬ (j = 0 ∨ 8 < j)) := fun _ => HNW.out
                    clear HI HJ
                    go_wp2
                    go_roundw
                    case rel => exact ⟨i + 1, by go_num, by omega, HI2, HK2, Below.next HB1.out hB2⟩
                    case measure => simp [intOf]; omega
            · have e4 : ((m : Int) != (k : Int)) = true := by simp; omega
              have h2 : ruF s k r = 2 := ruF_len (by rw [Hm.out]; exact hmk)
              have hi0 : 0 < i := by
                rcases Nat.eq_zero_or_pos i with e | e
                · subst e
                  have := HR0.out.symm.trans hri
                  cases this
                  exact absurd (Hm.out.symm.trans Hk.out) hmk
                · exact e
              obtain rfl : z = 2 := by rw [HZ1.out i r (HK0.out hi0) HRI.out HI.out (by omega), h2]
              clear hri h2
              go_wp2
              go_ret
              exact ⟨rfl, hB⟩
          · have hdi : decide ((i : Int) < (n : Int)) = false := by simp; omega
            obtain rfl : i = n := by omega
            obtain rfl : z = 0 := HZ0.out (HK0.out (by omega)) fun m c hc => HI.out m c (HLE.out m c hc) hc
            go_wp2
            go_ret
            exact ⟨rfl, hB⟩
end Go.Proofs.Ytjfjdidibglhaaa
