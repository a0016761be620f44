/- The document's RoundsFault, walked. -/
import Derived.Test.YtpeplnojmogkfaaRdC
import Derived.Test.YtpeplnojmogkfaaDOw
namespace Go.Proofs.Ytpeplnojmogkfaa
open Go.RowKit

theorem Rw.at {w : World} {v : Value} {ls : List (List Int)} (h : Rw w v ls) {i : Nat} {l : List Int} (hi : ls[i]? = some l) {a : Option Addr} {n cap : Nat} (e : v = .slice a n cap) : ∃ b off u, a = some ⟨b, off, none⟩ ∧ w.cell? ⟨b, off + i, none⟩ = some u ∧ Sl w u l := by
  obtain ⟨a', cap', e', _, hr⟩ := h
  rw [e] at e'
  simp only [Value.slice.injEq] at e'
  obtain ⟨rfl, _, _⟩ := e'
  exact hr i l hi
theorem Sl.dest {w : World} {u : Value} {l : List Int} (h : Sl w u l) : ∃ a c, u = .slice a l.length c := by
  obtain ⟨a, c, e, _⟩ := h
  exact ⟨a, c, e⟩
theorem rF_range {n : Int} (ls : List (List Int)) (h : n < 2 ∨ 16 < n ∨ n % 2 = 1) : rF n ls = 1 := by unfold rF; rw [if_pos h]
theorem rF_full {n : Nat} {ls : List (List Int)} (h : ¬ ((n : Int) < 2 ∨ (16 : Int) < n ∨ (n : Int) % 2 = 1)) (h2 : n - 1 < ls.length) : rF n ls = 3 := by unfold rF; rw [if_neg h, if_pos (by omega)]
theorem rF_main {n : Nat} {ls : List (List Int)} (h : ¬ ((n : Int) < 2 ∨ (16 : Int) < n ∨ (n : Int) % 2 = 1)) (h2 : ls.length ≤ n - 1) : rF n ls = if rdsF n ls ≠ 0 then rdsF n ls else if twB n ls then 6 else 0 := by
  unfold rF
  rw [if_neg h, if_neg (by omega), Int.toNat_natCast]
theorem rdF_len {n : Nat} {l : List Int} (h : l.length ≠ n) : rdF n l = 2 := by unfold rdF; rw [if_pos h]
theorem rdF_out {n : Nat} {l : List Int} (h : l.length = n) {a : Nat} (ha : a < n) (hb : l.getD a 0 < 0 ∨ (n : Int) ≤ l.getD a 0) : rdF n l = 1 := by
  unfold rdF
  rw [if_neg (by simp [h]), if_pos]
  exact List.any_eq_true.2 ⟨a, List.mem_range.2 ha, by simpa [-List.getD_eq_getElem?_getD] using hb⟩
theorem outB_no {n : Nat} {l : List Int} (h : ∀ a, a < n → 0 ≤ l.getD a 0 ∧ l.getD a 0 < n) : outB n l = false := by
  rw [Bool.eq_false_iff]
  intro k
  obtain ⟨a, ha, k⟩ := List.any_eq_true.1 k
  have := h a (List.mem_range.1 ha)
  simp only [Bool.or_eq_true, decide_eq_true_eq] at k
  omega
theorem rdF_not {n : Nat} {l : List Int} (h : l.length = n) (ho : ∀ a, a < n → 0 ≤ l.getD a 0 ∧ l.getD a 0 < n) {a : Nat} (ha : a < n) (hb : l.getD a 0 = a ∨ l.getD (l.getD a 0).toNat 0 ≠ a) : rdF n l = 4 := by
  unfold rdF
  rw [if_neg (by simp [h]), if_neg (by rw [outB_no ho]; simp), if_pos]
  exact List.any_eq_true.2 ⟨a, List.mem_range.2 ha, by simpa [-List.getD_eq_getElem?_getD] using hb⟩
theorem rdF_zero {n : Nat} {l : List Int} (h : l.length = n) (ho : ∀ a, a < n → 0 ≤ l.getD a 0 ∧ l.getD a 0 < n) (hn : ∀ a, a < n → l.getD a 0 ≠ a ∧ l.getD (l.getD a 0).toNat 0 = a) : rdF n l = 0 := by
  unfold rdF
  rw [if_neg (by simp [h]), if_neg (by rw [outB_no ho]; simp), if_neg]
  intro k
  obtain ⟨a, ha, k⟩ := List.any_eq_true.1 k
  have := hn a (List.mem_range.1 ha)
  simp only [Bool.or_eq_true, beq_iff_eq, bne_iff_ne] at k
  rcases k with k | k
  · exact this.1 k
  · exact k this.2
theorem twB_yes {n : Nat} {ls : List (List Int)} {i j a : Nat} {l m : List Int} (hi : ls[i]? = some l) (hj : ls[j]? = some m) (hji : j < i) (ha : a < n) (e : l.getD a 0 = m.getD a 0) : twB n ls = true := by
  refine List.any_eq_true.2 ⟨i, List.mem_range.2 (List.getElem?_eq_some_iff.1 hi).1, List.any_eq_true.2 ⟨j, List.mem_range.2 hji, List.any_eq_true.2 ⟨a, List.mem_range.2 ha, ?_⟩⟩⟩
  rw [List.getD_eq_getElem?_getD (l := ls), List.getD_eq_getElem?_getD (l := ls), hi, hj]
  simp only [Option.getD_some]
  rw [e]
  simp
theorem twB_no {n : Nat} {ls : List (List Int)} (h : ∀ (i j a : Nat) l m, ls[i]? = some l → ls[j]? = some m → j < i → a < n → l.getD a 0 ≠ m.getD a 0) : twB n ls = false := by
  rw [Bool.eq_false_iff]
  intro k
  obtain ⟨i, hi, k⟩ := List.any_eq_true.1 k
  obtain ⟨j, hj, k⟩ := List.any_eq_true.1 k
  obtain ⟨a, ha, k⟩ := List.any_eq_true.1 k
  have hi := List.mem_range.1 hi
  have hj := List.mem_range.1 hj
  have e1 := List.getElem?_eq_getElem hi
  have e2 := List.getElem?_eq_getElem (show j < ls.length by omega)
  rw [List.getD_eq_getElem?_getD (l := ls), List.getD_eq_getElem?_getD (l := ls), e1, e2] at k
  exact h i j a _ _ e1 e2 hj (List.mem_range.1 ha) (eq_of_beq k)
theorem rdF_is {n : Nat} {l : List Int} (h : rdF n l = 0) : l.length = n := by
  obtain ⟨s, rfl, h1, _⟩ := rdF_ok h
  rw [List.length_map]
  exact h1
/-- What is told of each row, of pairs of rows, of all. -/
structure RfZ (n : Nat) (ls : List (List Int)) (z : Nat) : Prop where
  row : ∀ (i : Nat) l, ls[i]? = some l → (∀ (j : Nat) m, j < i → ls[j]? = some m → rdF n m = 0) → rdF n l ≠ 0 → z = rdF n l
  two : (∀ (j : Nat) m, ls[j]? = some m → rdF n m = 0) → ∀ (i j a : Nat) l m, ls[i]? = some l → ls[j]? = some m → j < i → a < n → l.getD a 0 = m.getD a 0 → z = 6
  ok : (∀ (j : Nat) m, ls[j]? = some m → rdF n m = 0) → (∀ (i j a : Nat) l m, ls[i]? = some l → ls[j]? = some m → j < i → a < n → l.getD a 0 ≠ m.getD a 0) → z = 0
theorem rfZ_of {n : Nat} {ls : List (List Int)} (h : ¬ ((n : Int) < 2 ∨ (16 : Int) < n ∨ (n : Int) % 2 = 1)) (h2 : ls.length ≤ n - 1) : RfZ n ls (rF n ls) := by
  rw [rF_main h h2]
  refine ⟨fun i l hi h1 h3 => ?_, fun h1 i j a l m hi hj hji ha e => ?_, fun h1 h3 => ?_⟩
  · rw [rdsF_at hi h1 h3, if_pos h3]
  · rw [rdsF_none h1, if_neg (by simp), if_pos (twB_yes hi hj hji ha e)]
  · rw [rdsF_none h1, if_neg (by simp), if_neg (by rw [twB_no h3]; simp)]
set_option maxRecDepth 100000 in
set_option maxHeartbeats 16000000 in
theorem RoundsFault_any (n : Int) (ls : List (List Int)) (v : Value) (w : World) (hv : Rw w v ls) (hl : ls.length ≤ maxLen) (hll : ∀ l ∈ ls, l.length ≤ maxLen) :
    Calls Try.prog 8 #[.int .i64 n, v] w fun e w' => e = .returned (.int .i64 (rF n ls : Int)) ∧ Below w.heap.size w w' := by
  obtain ⟨z, Hz⟩ : ∃ z, Hid (rF n ls = z) := ⟨_, rfl⟩
  have HV : Hid (∀ W, Below w.heap.size w W → Rw W v ls) := fun W b => hv.below b
  have HLL : Hid (∀ (i : Nat) l, ls[i]? = some l → l.length ≤ maxLen) := fun i l h => hll l (List.mem_of_getElem? h)
  obtain ⟨a, cap, rfl, -⟩ := hv
  unfold maxLen at hl
  have HAT : Hid (∀ i, i < ls.length → ∃ l, ls[i]? = some l) := fun i hi => ⟨_, List.getElem?_eq_getElem hi⟩
  have HLT : Hid (∀ (i : Nat) l, ls[i]? = some l → i < ls.length) := fun i l h => (List.getElem?_eq_some_iff.1 h).1
  by_cases h1 : n < 2 ∨ 16 < n ∨ n % 2 = 1
  · have HZ : Hid (z = 1) := by show _ = _; rw [← Hz.out]; exact rF_range ls h1
    obtain ⟨m, Hm⟩ : ∃ m, Hid (ls.length = m) := ⟨_, rfl⟩
    rw [Hz.out, HZ.out]
    rw [Hm.out]
    clear HV HAT HLT HLL hll hl
    by_cases ha : n < 2
    · have hd : decide (n < 2) = true := by simpa using ha
      go_enter Try.func8, Try.ntmps8
      go_wp2
      go_ret
      exact ⟨rfl, Below.refl _ _⟩
    · have hd : decide (n < 2) = false := by simpa using ha
      by_cases hb : 16 < n
      · have hd2 : decide (16 < n) = true := by simpa using hb
        go_enter Try.func8, Try.ntmps8
        go_wp2
        go_ret
        exact ⟨rfl, Below.refl _ _⟩
      · have hd2 : decide (16 < n) = false := by simpa using hb
        have he : (n.tmod 2 == 1) = true := by rw [beq_iff_eq, Int.tmod_eq_emod_of_nonneg (by omega)]; omega
        go_enter Try.func8, Try.ntmps8
        go_wp2
        go_ret
        exact ⟨rfl, Below.refl _ _⟩
  · obtain ⟨N, rfl⟩ : ∃ N : Nat, n = N := ⟨n.toNat, by omega⟩
    have hd : decide ((N : Int) < 2) = false := by simp; omega
    have hd2 : decide ((16 : Int) < (N : Int)) = false := by simp; omega
    have he : ((N : Int).tmod 2 == 1) = false := by rw [beq_eq_false_iff_ne, Int.tmod_eq_emod_of_nonneg (by omega)]; omega
    have he2 : ((N : Int) % 2 == 1) = false := by rw [beq_eq_false_iff_ne]; omega
    have hN2 : 2 ≤ N := by omega
    have hN16 : N ≤ 16 := by omega
    obtain ⟨m, Hm⟩ : ∃ m, Hid (ls.length = m) := ⟨_, rfl⟩
    by_cases h2 : N - 1 < m
    · have HZ : Hid (z = 3) := by show _ = _; rw [← Hz.out]; exact rF_full h1 (by rw [Hm.out]; exact h2)
      rw [Hz.out, HZ.out]
      rw [Hm.out] at hl ⊢
      have hd3 : decide ((N : Int) - 1 < (m : Int)) = true := by simp; omega
      clear HV HAT HLT HLL hll h1
      go_enter Try.func8, Try.ntmps8
      go_wp2
      go_ret
      exact ⟨rfl, Below.refl _ _⟩
    · have hd3 : decide ((N : Int) - 1 < (m : Int)) = false := by simp; omega
      have HZ : Hid (RfZ N ls z) := by show RfZ N ls z; rw [← Hz.out]; exact rfZ_of h1 (by rw [Hm.out]; omega)
      rw [Hz.out]
      rw [Hm.out] at hl HAT HLT ⊢
      have hm16 : m ≤ 16 := by omega
      clear hll h1 hl h2 Hz
      go_enter Try.func8, Try.ntmps8
      go_wp2
      go_loopw [5] (fun iv wr => ∃ i : Nat, iv = .int .i64 (i : Int) ∧ i ≤ m ∧ Hid (∀ (j : Nat) l, j < i → ls[j]? = some l → rdF N l = 0) ∧ Below w.heap.size w wr) (fun iv _ => (m - intOf iv).toNat)
      case atStart => exact ⟨0, rfl, by omega, (show ∀ (j : Nat) l, j < 0 → _ from fun j l h => by omega), Below.refl _ _⟩
      case round =>
        obtain ⟨i, rfl, hi, HO, hB⟩ := hrel
        by_cases hlt : i < m
        · have hdi : decide ((i : Int) < (m : Int)) = true := by simp; omega
          have hii : (i : Int) < (m : Int) := by omega
          obtain ⟨l, hli⟩ := HAT.out i hlt
          obtain ⟨b, off, u, rfl, hc, hs⟩ := (HV.out wr hB).at hli rfl
          have HROW : Hid (rdF N l ≠ 0 → z = rdF N l) := fun h => HZ.out.row i l hli (fun j q hj hq => HO.out j q hj hq) h
          have HO2 : Hid (rdF N l = 0 → ∀ (j : Nat) q, j < i + 1 → ls[j]? = some q → rdF N q = 0) := fun h j q hj hq => by
            by_cases e : j = i
            · subst e; rw [hli] at hq; cases hq; exact h
            · exact HO.out j q (by omega) hq
          have hlm := HLL.out i l hli
          unfold maxLen at hlm
          obtain ⟨k, Hk⟩ : ∃ k, Hid (l.length = k) := ⟨_, rfl⟩
          by_cases hk : k = N
          · obtain ⟨b1, o1, c1, rfl, _, hcell⟩ := hs.form (Hk.out.trans hk) (by omega)
            have HC : Hid (∀ j, j < N → wr.cell? ⟨b1, o1 + j, none⟩ = some (.int .i64 (l.getD j 0))) := hcell
            have HLEN : Hid (l.length = N) := Hk.out.trans hk
            have hne : ((N : Int) != (N : Int)) = false := by simp
            obtain ⟨wz, hwz⟩ : ∃ wz : World, wz = wr := ⟨_, rfl⟩
            subst hwz
            clear hcell hs hk Hk hli HO
            go_wp2
            go_loopw [7] (fun jv wr => ∃ j : Nat, jv = .int .i64 (j : Int) ∧ j ≤ N ∧ Hid (∀ c, c < j → 0 ≤ l.getD c 0 ∧ l.getD c 0 < N) ∧ wr = wz) (fun jv _ => (N - intOf jv).toNat)
            case atStart => exact ⟨0, rfl, by omega, (show ∀ c, c < 0 → _ from fun c h => by omega), rfl⟩
            case round =>
              obtain ⟨j, rfl, hj, HJ, hw⟩ := hrel
              replace hw := hw.symm
              subst hw
              by_cases hlj : j < N
              · have hdj : decide ((j : Int) < (N : Int)) = true := by simp; omega
                have hjj : (j : Int) < (N : Int) := by omega
                have hcj := HC.out j hlj
                obtain ⟨x, Hx⟩ : ∃ x, Hid (l.getD j 0 = x) := ⟨_, rfl⟩
                rw [Hx.out] at hcj
                by_cases hx0 : x < 0
                · have hdx : decide (x < 0) = true := by simpa using hx0
                  have HZ1 : Hid (z = 1) := by
                    have := rdF_out HLEN.out hlj (.inl (by rw [Hx.out]; exact hx0))
                    show _ = _
                    rw [HROW.out (by rw [this]; decide), this]
                  go_wp2
                  go_ret
                  exact ⟨by rw [HZ1.out]; rfl, hB⟩
                · have hdx : decide (x < 0) = false := by simpa using hx0
                  by_cases hxN : (N : Int) ≤ x
                  · have hdn : decide ((N : Int) ≤ x) = true := by simpa using hxN
                    have HZ1 : Hid (z = 1) := by
                      have := rdF_out HLEN.out hlj (.inr (by rw [Hx.out]; exact hxN))
                      show _ = _
                      rw [HROW.out (by rw [this]; decide), this]
                    go_wp2
                    go_ret
                    exact ⟨by rw [HZ1.out]; rfl, hB⟩
                  · have hdn : decide ((N : Int) ≤ x) = false := by simpa using hxN
                    have HJ2 : Hid (∀ c, c < j + 1 → 0 ≤ l.getD c 0 ∧ l.getD c 0 < N) := fun c hc => by
                      by_cases e : c = j
                      · rw [e, Hx.out]; omega
                      · exact HJ.out c (by omega)
                    go_wp2
                    go_roundw
                    case rel => exact ⟨j + 1, by go_num, by omega, HJ2, by first | rfl | trivial⟩
                    case measure => simp [intOf]; omega
              · have hdj : decide ((j : Int) < (N : Int)) = false := by simp; omega
                have hdjn : decide (j < N) = false := by simp; omega
                have HJ2 : Hid (∀ c, c < N → 0 ≤ l.getD c 0 ∧ l.getD c 0 < N) := fun c hc => HJ.out c (by omega)
                clear HJ hj
                go_wp2
                go_loopw [8] (fun jv wr => ∃ j : Nat, jv = .int .i64 (j : Int) ∧ j ≤ N ∧ Hid (∀ c, c < j → l.getD c 0 ≠ c ∧ l.getD (l.getD c 0).toNat 0 = c) ∧ wr = wz) (fun jv _ => (N - intOf jv).toNat)
                case atStart => exact ⟨0, rfl, by omega, (show ∀ c, c < 0 → _ from fun c h => by omega), by first | rfl | trivial⟩
                case round =>
                  obtain ⟨j, rfl, hj, HJ, hw⟩ := hrel
                  replace hw := hw.symm
                  subst hw
                  by_cases hlj : j < N
                  · have hdj : decide ((j : Int) < (N : Int)) = true := by simp; omega
                    have hjj : (j : Int) < (N : Int) := by omega
                    have hcj := HC.out j hlj
                    have ho := HJ2.out j hlj
                    obtain ⟨x, Hx⟩ : ∃ x : Nat, Hid (l.getD j 0 = (x : Int)) := ⟨(l.getD j 0).toNat, by show _ = _; omega⟩
                    rw [Hx.out] at hcj ho
                    have hxN : x < N := by omega
                    have hcx := HC.out x hxN
                    obtain ⟨y, Hy⟩ : ∃ y, Hid (l.getD x 0 = y) := ⟨_, rfl⟩
                    rw [Hy.out] at hcx
                    clear ho
                    by_cases hxj : x = j
                    · have hxe : ((x : Int) == (j : Int)) = true := by simp [hxj]
                      have HZ1 : Hid (z = 4) := by
                        have := rdF_not HLEN.out HJ2.out hlj (.inl (by rw [Hx.out, hxj]))
                        show _ = _
                        rw [HROW.out (by rw [this]; decide), this]
                      clear hxj
                      go_wp2
                      go_ret
                      exact ⟨by rw [HZ1.out]; rfl, hB⟩
                    · have hxe : ((x : Int) == (j : Int)) = false := by simp; omega
                      by_cases hyj : y = (j : Int)
                      · have hye : (y != (j : Int)) = false := by simp [hyj]
                        have HJ3 : Hid (∀ c, c < j + 1 → l.getD c 0 ≠ c ∧ l.getD (l.getD c 0).toNat 0 = c) := fun c hc => by
                          by_cases e : c = j
                          · rw [e, Hx.out, Int.toNat_natCast, Hy.out]; exact ⟨by omega, hyj⟩
                          · exact HJ.out c (by omega)
                        clear hyj hxj
                        go_wp2
                        go_roundw
                        case rel => exact ⟨j + 1, by go_num, by omega, HJ3, by first | rfl | trivial⟩
                        case measure => simp [intOf]; omega
                      · have hye : (y != (j : Int)) = true := by simp [hyj]
                        have HZ1 : Hid (z = 4) := by
                          have := rdF_not HLEN.out HJ2.out hlj (.inr (by rw [Hx.out, Int.toNat_natCast, Hy.out]; exact hyj))
                          show _ = _
                          rw [HROW.out (by rw [this]; decide), this]
                        clear hyj hxj
                        go_wp2
                        go_ret
                        exact ⟨by rw [HZ1.out]; rfl, hB⟩
                  · have hdj : decide ((j : Int) < (N : Int)) = false := by simp; omega
                    have hdjn : decide (j < N) = false := by simp; omega
                    have HO3 : Hid (∀ (c : Nat) q, c < i + 1 → ls[c]? = some q → rdF N q = 0) := HO2.out (rdF_zero HLEN.out HJ2.out fun c hc => HJ.out c (by omega))
                    go_wp2
                    go_roundw
                    case rel => exact ⟨i + 1, by go_num, by omega, HO3, hB⟩
                    case measure => simp [intOf]; omega
          · have HZ1 : Hid (z = 2) := by
              have := rdF_len (n := N) (l := l) (by rw [Hk.out]; exact hk)
              show _ = _
              rw [HROW.out (by rw [this]; decide), this]
            obtain ⟨ua, uc, rfl⟩ := hs.dest
            rw [Hk.out] at hc hlm
            have hne : ((k : Int) != (N : Int)) = true := by simp; omega
            clear hs
            go_wp2
            go_ret
            exact ⟨by rw [HZ1.out]; rfl, hB⟩
        · have hdi : decide ((i : Int) < (m : Int)) = false := by simp; omega
          have hdin : decide (i < m) = false := by simp; omega
          have HA : Hid (∀ (j : Nat) l, ls[j]? = some l → rdF N l = 0) := fun j l h => HO.out j l (by have := HLT.out j l h; omega) h
          clear HO hi
          go_wp2
          go_loopw [9] (fun iv wr => ∃ i : Nat, iv = .int .i64 (i : Int) ∧ i ≤ m ∧ Hid (∀ (x y a : Nat) l q, x < i → ls[x]? = some l → ls[y]? = some q → y < x → a < N → l.getD a 0 ≠ q.getD a 0) ∧ Below w.heap.size w wr) (fun iv _ => (m - intOf iv).toNat)
          case atStart => exact ⟨0, rfl, by omega, (show ∀ (x y a : Nat) l q, x < 0 → _ from fun x y a l q h => by omega), hB⟩
          case round =>
            clear hB
            obtain ⟨i, rfl, hi, HI, hB⟩ := hrel
            by_cases hlt : i < m
            · have hdi : decide ((i : Int) < (m : Int)) = true := by simp; omega
              have hii : (i : Int) < (m : Int) := by omega
              obtain ⟨l, hli⟩ := HAT.out i hlt
              have HLI : Hid (ls[i]? = some l) := hli
              clear hli
              go_wp2
              go_loopw [10] (fun jv wr => ∃ j : Nat, jv = .int .i64 (j : Int) ∧ j ≤ i ∧ Hid (∀ (y a : Nat) q, y < j → ls[y]? = some q → a < N → l.getD a 0 ≠ q.getD a 0) ∧ Below w.heap.size w wr) (fun jv _ => (i - intOf jv).toNat)
              case atStart => exact ⟨0, rfl, by omega, (show ∀ (y a : Nat) q, y < 0 → _ from fun y a q h => by omega), hB⟩
              case round =>
                clear hB
                obtain ⟨j, rfl, hj, HJ, hB⟩ := hrel
                by_cases hlj : j < i
                · have hdj : decide ((j : Int) < (i : Int)) = true := by simp; omega
                  have hjj : (j : Int) < (i : Int) := by omega
                  obtain ⟨q, hqj⟩ := HAT.out j (by omega)
                  have HQJ : Hid (ls[j]? = some q) := hqj
                  clear hqj
                  go_wp2
                  go_loopw [11] (fun av wr => ∃ a : Nat, av = .int .i64 (a : Int) ∧ a ≤ N ∧ Hid (∀ c, c < a → l.getD c 0 ≠ q.getD c 0) ∧ Below w.heap.size w wr) (fun av _ => (N - intOf av).toNat)
                  case atStart => exact ⟨0, rfl, by omega, (show ∀ c, c < 0 → _ from fun c h => by omega), hB⟩
                  case round =>
                    clear hB
                    obtain ⟨a2, rfl, ha, HA2, hB⟩ := hrel
                    by_cases hla : a2 < N
                    · have hda : decide ((a2 : Int) < (N : Int)) = true := by simp; omega
                      have haa : (a2 : Int) < (N : Int) := by omega
                      obtain ⟨b, off, u, rfl, hc1, hs1⟩ := (HV.out wr hB).at HLI.out rfl
                      obtain ⟨b', off', u2, e', hc2, hs2⟩ := (HV.out wr hB).at HQJ.out rfl
                      simp only [Option.some.injEq, Addr.mk.injEq, and_true] at e'
                      obtain ⟨rfl, rfl⟩ := e'
                      obtain ⟨g1, o1, c1, rfl, _, k1⟩ := hs1.form (n := N) (rdF_is (HA.out _ _ HLI.out)) (by omega)
                      obtain ⟨g2, o2, c2, rfl, _, k2⟩ := hs2.form (n := N) (rdF_is (HA.out _ _ HQJ.out)) (by omega)
                      have hk1 := k1 a2 hla
                      have hk2 := k2 a2 hla
                      obtain ⟨x, Hx⟩ : ∃ x, Hid (l.getD a2 0 = x) := ⟨_, rfl⟩
                      obtain ⟨y, Hy⟩ : ∃ y, Hid (q.getD a2 0 = y) := ⟨_, rfl⟩
                      rw [Hx.out] at hk1
                      rw [Hy.out] at hk2
                      clear k1 k2 hs1 hs2
                      by_cases hxy : x = y
                      · have hxe : (x == y) = true := by simp [hxy]
                        have HZ1 : Hid (z = 6) := HZ.out.two HA.out i j a2 l q HLI.out HQJ.out hlj hla (by rw [Hx.out, Hy.out, hxy])
                        clear hxy
                        go_wp2
                        go_quiet (fail)
                        go_wp2
                        go_ret
                        exact ⟨by rw [HZ1.out]; rfl, bdrewN hB _⟩
                      · have hxe : (x == y) = false := by simp [hxy]
                        have HA3 : Hid (∀ c, c < a2 + 1 → l.getD c 0 ≠ q.getD c 0) := fun c hc => by
                          by_cases e : c = a2
                          · rw [e, Hx.out, Hy.out]; exact hxy
                          · exact HA2.out c (by omega)
                        clear hxy
                        go_wp2
                        go_quiet (fail)
                        go_wp2
                        go_roundw
                        case rel => exact ⟨a2 + 1, by go_num, by omega, HA3, bdrewN hB _⟩
                        case measure => simp [intOf]; omega
                    · have hda : decide ((a2 : Int) < (N : Int)) = false := by simp; omega
                      have hdan : decide (a2 < N) = false := by simp; omega
                      have HJ2 : Hid (∀ (y a : Nat) p, y < j + 1 → ls[y]? = some p → a < N → l.getD a 0 ≠ p.getD a 0) := fun y a p hy hp ha' => by
                        by_cases e : y = j
                        · subst e
                          have := HQJ.out
                          rw [hp] at this
                          cases this
                          exact HA2.out a (by omega)
                        · exact HJ.out y a p (by omega) hp ha'
                      go_wp2
                      go_roundw
                      case rel => exact ⟨j + 1, by go_num, by omega, HJ2, hB⟩
                      case measure => simp [intOf]; omega
                · have hdj : decide ((j : Int) < (i : Int)) = false := by simp; omega
                  have hdjn : decide (j < i) = false := by simp; omega
                  have HI2 : Hid (∀ (x y a : Nat) p q, x < i + 1 → ls[x]? = some p → ls[y]? = some q → y < x → a < N → p.getD a 0 ≠ q.getD a 0) := fun x y a p q hx hp hq hy ha' => by
                    by_cases e : x = i
                    · subst e
                      have := HLI.out
                      rw [hp] at this
                      cases this
                      exact HJ.out y a q (by omega) hq ha'
                    · exact HI.out x y a p q (by omega) hp hq hy ha'
                  go_wp2
                  go_roundw
                  case rel => exact ⟨i + 1, by go_num, by omega, HI2, hB⟩
                  case measure => simp [intOf]; omega
            · have hdi : decide ((i : Int) < (m : Int)) = false := by simp; omega
              have hdin : decide (i < m) = false := by simp; omega
              have HZ1 : Hid (z = 0) := HZ.out.ok HA.out fun x y a p q hp hq hy ha' => HI.out x y a p q (by have := HLT.out x p hp; omega) hp hq hy ha'
              go_wp2
              go_ret
              exact ⟨by rw [HZ1.out]; rfl, hB⟩
end Go.Proofs.Ytpeplnojmogkfaa
