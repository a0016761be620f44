/- The document's CouldOf, walked. -/
import Derived.Test.YtgkfddcmngodgaaU4
namespace Go.Proofs.Ytgkfddcmngodgaa
open Go.RowKit

theorem and_i64 {a : Nat} (ha : a < 2 ^ 62) : bits .and .i64 (a : Int) 1 = ((a % 2 : Nat) : Int) := by
  have h1 : (BitVec.ofInt 64 (a : Int)).toNat = a := by rw [BitVec.ofInt_natCast, BitVec.toNat_ofNat]; exact Nat.mod_eq_of_lt (by omega)
  have h2 : (BitVec.ofInt 64 (1 : Int)).toNat = 1 := rfl
  show IntKind.i64.wrap ((BitVec.ofInt 64 (a : Int) &&& BitVec.ofInt 64 (1 : Int)).toNat : Int) = _
  rw [BitVec.toNat_and, h1, h2, Nat.and_one_is_mod, IntKind.wrap_i64]
  omega
theorem bit_i64 {x : Nat} (hx : x < 2 ^ 62) (b : Nat) : (bits .and .i64 ((x : Int) / 2 ^ b) 1 == 1) = x.testBit b := by
  have h1 : x / 2 ^ b < 2 ^ 62 := Nat.lt_of_le_of_lt (Nat.div_le_self _ _) hx
  rw [show (x : Int) / 2 ^ b = ((x / 2 ^ b : Nat) : Int) by simp, and_i64 h1]
  unfold Nat.testBit
  rw [Nat.one_and_eq_mod_two, Nat.shiftRight_eq_div_pow]
  have := Nat.mod_two_eq_zero_or_one (x / 2 ^ b)
  rcases this with e | e <;> rw [e] <;> rfl
def kS (s i : Nat) : Nat := (inS i s).length
def qS (L : List Nat) (s i : Nat) : Nat := sumL ((inS i s).map fun j => L.getD j 0)
theorem inS_more (s i : Nat) : inS (i + 1) s = inS i s ++ if s.testBit i then [i] else [] := by
  unfold inS; rw [List.range_succ, List.filter_append]; simp [List.filter_cons]
theorem kS_yes {s i : Nat} (h : s.testBit i = true) : kS s (i + 1) = kS s i + 1 := by unfold kS; rw [inS_more, if_pos h, List.length_append]; rfl
theorem kS_no {s i : Nat} (h : s.testBit i = false) : kS s (i + 1) = kS s i := by unfold kS; rw [inS_more, h]; simp
theorem qS_yes (L : List Nat) {s i : Nat} (h : s.testBit i = true) : qS L s (i + 1) = qS L s i + L.getD i 0 := by
  unfold qS; rw [inS_more, if_pos h, List.map_append, sumL_append]; simp [sumL]
theorem qS_no (L : List Nat) {s i : Nat} (h : s.testBit i = false) : qS L s (i + 1) = qS L s i := by unfold qS; rw [inS_more, h]; simp
theorem okS_is (L : List Nat) (s : Nat) : okS L s = !(decide (qS L s L.length < kS s L.length * (kS s L.length - 1) / 2) || (kS s L.length == L.length && decide (kS s L.length * (kS s L.length - 1) / 2 < qS L s L.length))) := rfl
/-- What the document says of scores. -/
def cZ (l : List Int) : Bool × Nat :=
  if 9 < l.length then (false, 3) else if l.length = 0 then (false, 2)
  else if (List.range l.length).any fun i => decide (l.getD i 0 < 0) || decide ((l.length : Int) ≤ l.getD i 0) then (false, 1)
  else (coB (l.map Int.toNat), 0)
set_option maxRecDepth 100000 in
set_option maxHeartbeats 16000000 in
theorem CouldOf_any (l : List Int) (v : Value) (w : World) (hv : Sl w v l) (hl : l.length ≤ maxLen) :
    Calls Try.prog 27 #[v] w fun e w' => e = .returned (.tuple #[.bool (cZ l).1, .int .i64 ((cZ l).2 : Int)]) ∧ Below w.heap.size w w' := by
  obtain ⟨z, Hz⟩ : ∃ z, Hid (cZ l = z) := ⟨_, rfl⟩
  unfold maxLen at hl
  obtain ⟨m, Hm⟩ : ∃ m, Hid (l.length = m) := ⟨_, rfl⟩
  rw [Hm.out] at hl
  rw [Hz.out]
  by_cases h9 : 9 < m
  · have HZ : Hid (z = (false, 3)) := by show _ = _; rw [← Hz.out]; unfold cZ; rw [Hm.out, if_pos h9]
    rw [HZ.out]
    have hm9 : decide ((9 : Int) < (m : Int)) = true := by simp; omega
    obtain ⟨a, cap, rfl, -⟩ := hv
    rw [Hm.out]
    go_enter Try.func27, Try.ntmps27
    go_wp2
    go_ret2
    exact ⟨rfl, Below.refl _ _⟩
  have hm9 : decide ((9 : Int) < (m : Int)) = false := by simp; omega
  by_cases h0 : m = 0
  · have HZ : Hid (z = (false, 2)) := by show _ = _; rw [← Hz.out]; unfold cZ; rw [Hm.out, if_neg h9, if_pos h0]
    rw [HZ.out]
    have hm0 : ((m : Int) == 0) = true := by simp; omega
    obtain ⟨a, cap, rfl, -⟩ := hv
    rw [Hm.out]
    clear h0
    go_enter Try.func27, Try.ntmps27
    go_wp2
    go_ret2
    exact ⟨rfl, Below.refl _ _⟩
  have hm0 : ((m : Int) == 0) = false := by simp; omega
  have hm1 : 1 ≤ m := by omega
  have hmle : m ≤ 9 := by omega
  obtain ⟨b, o, c, rfl, hC⟩ := sl_all hv (by rw [Hm.out]; omega)
  rw [Hm.out] at hC ⊢
  have HC : Hid (∀ W, Below w.heap.size w W → ∀ j, j < m → W.cell? ⟨b, o + j, none⟩ = some (.int .i64 (l.getD j 0))) := hC
  have HBad : Hid (∀ i, i < m → (l.getD i 0 < 0 ∨ (m : Int) ≤ l.getD i 0) → z = (false, 1)) := fun i hi hb => by
    rw [← Hz.out]; unfold cZ
    rw [Hm.out, if_neg h9, if_neg h0, if_pos]
    exact List.any_eq_true.2 ⟨i, List.mem_range.2 hi, by simpa using hb⟩
  obtain ⟨L, HL⟩ : ∃ L, Hid (l.map Int.toNat = L) := ⟨_, rfl⟩
  have HLL : Hid (L.length = m) := by show _ = _; rw [← HL.out, List.length_map]; exact Hm.out
  have HOk : Hid ((∀ i, i < m → 0 ≤ l.getD i 0 ∧ l.getD i 0 < (m : Int)) → z = (coB L, 0)) := fun h => by
    rw [← Hz.out, ← HL.out]; unfold cZ
    rw [Hm.out, if_neg h9, if_neg h0, if_neg]
    intro k
    obtain ⟨i, hi, k⟩ := List.any_eq_true.1 k
    have := h i (List.mem_range.1 hi)
    simp only [Bool.or_eq_true, decide_eq_true_eq] at k
    omega
  have HAt : Hid ((∀ i, i < m → 0 ≤ l.getD i 0 ∧ l.getD i 0 < (m : Int)) → ∀ i, i < m → ∃ x : Nat, x < m ∧ L.getD i 0 = x ∧ l.getD i 0 = (x : Int)) := fun h i hi => by
    have hh := h i hi
    refine ⟨(l.getD i 0).toNat, by omega, ?_, by omega⟩
    rw [← HL.out, List.getD_eq_getElem?_getD, List.getElem?_map, List.getD_eq_getElem?_getD]
    cases l[i]? <;> rfl
  clear hC hv h9 h0 Hz HL
  go_enter Try.func27, Try.ntmps27
  go_wp2
  go_loopw [5] (fun iv wr => ∃ i : Nat, iv = .int .i64 (i : Int) ∧ i ≤ m ∧ Hid (∀ j, j < i → 0 ≤ l.getD j 0 ∧ l.getD j 0 < (m : Int)) ∧ wr = w) (fun iv _ => (m - intOf iv).toNat)
  case atStart => exact ⟨0, rfl, by omega, (show ∀ j, j < 0 → _ from fun j h => by omega), rfl⟩
  case round =>
    obtain ⟨i, rfl, hi, HI, e1⟩ := hrel
    subst e1
    by_cases hlt : i < m
    · have hdi : decide ((i : Int) < (m : Int)) = true := by simp; omega
      have hii : (i : Int) < (m : Int) := by omega
      have hc := HC.out wr (Below.refl _ _) i hlt
      obtain ⟨x, Hx⟩ : ∃ x, Hid (l.getD i 0 = x) := ⟨_, rfl⟩
      rw [Hx.out] at hc
      by_cases ha : x < 0
      · have hd : decide (x < 0) = true := by simpa using ha
        have HZ : Hid (z = (false, 1)) := HBad.out i hlt (.inl (by rw [Hx.out]; exact ha))
        go_wp2
        go_ret2
        exact ⟨by rw [HZ.out]; rfl, Below.refl _ _⟩
      · have hd : decide (x < 0) = false := by simpa using ha
        by_cases hb : (m : Int) ≤ x
        · have hd2 : decide ((m : Int) ≤ x) = true := by simpa using hb
          have HZ : Hid (z = (false, 1)) := HBad.out i hlt (.inr (by rw [Hx.out]; exact hb))
          go_wp2
          go_ret2
          exact ⟨by rw [HZ.out]; rfl, Below.refl _ _⟩
        · have hd2 : decide ((m : Int) ≤ x) = false := by simpa using hb
          have HI2 : Hid (∀ j, j < i + 1 → 0 ≤ l.getD j 0 ∧ l.getD j 0 < (m : Int)) := fun j hj => by
            by_cases e : j = i
            · rw [e, Hx.out]; omega
            · exact HI.out j (by omega)
          clear HI
          go_wp2
          go_roundw
          case rel => exact ⟨i + 1, by go_num, by omega, HI2, trivial⟩
          case measure => simp [intOf]; omega
    · have hdi : decide ((i : Int) < (m : Int)) = false := by simp; omega
      have hdin : decide (i < m) = false := by simp; omega
      obtain rfl : i = m := by omega
      have HZ : Hid (z = (coB L, 0)) := HOk.out HI.out
      have HAT : Hid (∀ j, j < i → ∃ x : Nat, x < i ∧ L.getD j 0 = x ∧ l.getD j 0 = (x : Int)) := HAt.out HI.out
      obtain ⟨T, HT⟩ : ∃ T : Nat, Hid (2 ^ i = T) := ⟨_, rfl⟩
      have hT512 : T ≤ 512 := by rw [← HT.out]; exact Nat.pow_le_pow_right (n := 2) (by omega) hmle
      have hT1 : 1 ≤ T := by rw [← HT.out]; exact Nat.one_le_two_pow
      have hTi : (2 : Int) ^ i = (T : Int) := by rw [← HT.out]; simp
      clear HOk HAt HBad HI hi hlt hdin
      go_wp2
      go_loopw [6] (fun sv wr' => ∃ s : Nat, sv = .int .i64 (s : Int) ∧ 1 ≤ s ∧ s ≤ T ∧ Hid (∀ j, 1 ≤ j → j < s → okS L j = true) ∧ wr' = wr) (fun sv _ => (T - intOf sv).toNat)
      case atStart => exact ⟨1, rfl, by omega, by omega, (show ∀ j, 1 ≤ j → j < 1 → _ from fun j h h2 => by omega), rfl⟩
      case round =>
        obtain ⟨s, rfl, hs1, hsT, HS, e1⟩ := hrel
        subst e1
        by_cases hls : s < T
        · have hds : decide ((s : Int) < (T : Int)) = true := by simp; omega
          have hss : (s : Int) < (T : Int) := by omega
          go_wp2
          go_loopw [7, 8, 9] (fun kv qv iv wr' => ∃ (j k q : Nat), iv = .int .i64 (j : Int) ∧ kv = .int .i64 (k : Int) ∧ qv = .int .i64 (q : Int) ∧ j ≤ i ∧ k ≤ j ∧ q ≤ 9 * j ∧ Hid (kS s j = k) ∧ Hid (qS L s j = q) ∧ wr' = wr) (fun _ _ iv _ => (i - intOf iv).toNat)
          case atStart => exact ⟨0, 0, 0, rfl, rfl, rfl, by omega, by omega, by omega, rfl, rfl, rfl⟩
          case round =>
            obtain ⟨j, k, q, rfl, rfl, rfl, hj, hk, hq, HK, HQ, e1⟩ := hrel
            subst e1
            by_cases hlj : j < i
            · have hdj : decide ((j : Int) < (i : Int)) = true := by simp; omega
              have hjj : (j : Int) < (i : Int) := by omega
              obtain ⟨x, hx, HX1, HX2⟩ := HAT.out j hlj
              have hc := HC.out wr (Below.refl _ _) j hlj
              rw [HX2] at hc
              have hbt := bit_i64 (x := s) (by omega) j
              obtain ⟨y, Hy⟩ : ∃ y, Hid (s.testBit j = y) := ⟨_, rfl⟩
              rw [Hy.out] at hbt
              clear HX2
              cases y with
              | true =>
                have HK2 : Hid (kS s (j + 1) = k + 1) := by show _ = _; rw [kS_yes Hy.out, HK.out]
                have HQ2 : Hid (qS L s (j + 1) = q + x) := by show _ = _; rw [qS_yes L Hy.out, HQ.out, HX1]
                clear HX1
                go_wp2
                go_roundw
                case rel => exact ⟨j + 1, k + 1, q + x, by go_num, by go_num, by go_num, by omega, by omega, by omega, HK2, HQ2, trivial⟩
                case measure => simp [intOf]; omega
              | false =>
                have HK2 : Hid (kS s (j + 1) = k) := by show _ = _; rw [kS_no Hy.out, HK.out]
                have HQ2 : Hid (qS L s (j + 1) = q) := by show _ = _; rw [qS_no L Hy.out, HQ.out]
                clear HX1
                go_wp2
                go_roundw
                case rel => exact ⟨j + 1, k, q, by go_num, rfl, rfl, by omega, by omega, by omega, HK2, HQ2, trivial⟩
                case measure => simp [intOf]; omega
            · have hdj : decide ((j : Int) < (i : Int)) = false := by simp; omega
              have hdjn : decide (j < i) = false := by simp; omega
              obtain ⟨d, Hd⟩ : ∃ d, Hid (k * (k - 1) = d) := ⟨_, rfl⟩
              obtain ⟨h, Hh⟩ : ∃ h, Hid (d / 2 = h) := ⟨_, rfl⟩
              have hd81 : d ≤ 81 := by
                have h1 : k ≤ 9 := by omega
                have h2 : k - 1 ≤ 9 := by omega
                rw [← Hd.out]; exact Nat.mul_le_mul h1 h2
              have hh81 : h ≤ 81 := by rw [← Hh.out]; omega
              have ed : (k : Int) * ((k : Int) - 1) = (d : Int) := by
                rw [← Hd.out]
                rcases Nat.eq_zero_or_pos k with e | e
                · rw [e]; rfl
                · rw [Int.natCast_mul]; congr 1; omega
              have eh2 : (d : Int) / 2 = (h : Int) := by rw [← Hh.out]; simp
              have eh : (d : Int).tdiv 2 = (h : Int) := by rw [Int.tdiv_eq_ediv_of_nonneg (by omega)]; exact eh2
              have HO : Hid (okS L s = !(decide (q < h) || (k == i && decide (h < q)))) := by
                show _ = _
                rw [okS_is, HLL.out, show i = j by omega, HK.out, HQ.out, Hd.out, Hh.out]
              clear HK HQ
              by_cases hqh : q < h
              · have hd1 : decide ((q : Int) < (h : Int)) = true := by simp; omega
                have HF : Hid (coB L = false) := by
                  show _ = _
                  rw [Bool.eq_false_iff]
                  intro hh
                  have := List.all_eq_true.1 hh s (List.mem_range.2 (by rw [HLL.out, HT.out]; exact hls))
                  rw [HO.out, decide_eq_true hqh, show (s == 0) = false by simp; omega] at this
                  simp at this
                go_wp2
                go_ret2
                exact ⟨by rw [HZ.out, HF.out]; rfl, Below.refl _ _⟩
              · have hd1 : decide ((q : Int) < (h : Int)) = false := by simp; omega
                have hd1n : decide (q < h) = false := by simp; omega
                have hd1l : h ≤ q := by omega
                by_cases hki : k = i
                · have hke : ((k : Int) == (i : Int)) = true := by simp [hki]
                  by_cases hhq : h < q
                  · have hd2 : decide ((h : Int) < (q : Int)) = true := by simp; omega
                    have HF : Hid (coB L = false) := by
                      show _ = _
                      rw [Bool.eq_false_iff]
                      intro hh
                      have := List.all_eq_true.1 hh s (List.mem_range.2 (by rw [HLL.out, HT.out]; exact hls))
                      rw [HO.out, decide_eq_true hhq, show (s == 0) = false by simp; omega, show (k == i) = true by simp [hki]] at this
                      simp at this
                    clear hki hqh HO
                    go_wp2
                    go_ret2
                    exact ⟨by rw [HZ.out, HF.out]; rfl, Below.refl _ _⟩
                  · have hd2 : decide ((h : Int) < (q : Int)) = false := by simp; omega
                    have hd2n : decide (h < q) = false := by simp; omega
                    have HS2 : Hid (∀ r, 1 ≤ r → r < s + 1 → okS L r = true) := fun r h1 h2 => by
                      by_cases e : r = s
                      · rw [e, HO.out, decide_eq_false hqh, decide_eq_false hhq]; simp
                      · exact HS.out r h1 (by omega)
                    clear hki hqh hhq HO HS
                    go_wp2
                    go_roundw
                    case rel => exact ⟨s + 1, by go_num, by omega, by omega, HS2, trivial⟩
                    case measure => simp [intOf]; omega
                · have hke : ((k : Int) == (i : Int)) = false := by simp; omega
                  have hkx : ¬ ((k : Int) = (i : Int)) := by omega
                  have HS2 : Hid (∀ r, 1 ≤ r → r < s + 1 → okS L r = true) := fun r h1 h2 => by
                    by_cases e : r = s
                    · rw [e, HO.out, decide_eq_false hqh, show (k == i) = false by simpa using hki]; simp
                    · exact HS.out r h1 (by omega)
                  clear hqh hki HO HS
                  go_wp2
                  go_roundw
                  case rel => exact ⟨s + 1, by go_num, by omega, by omega, HS2, trivial⟩
                  case measure => simp [intOf]; omega
        · have hds : decide ((s : Int) < (T : Int)) = false := by simp; omega
          have hdsn : decide (s < T) = false := by simp; omega
          have HF : Hid (coB L = true) := by
            refine List.all_eq_true.2 fun r hr => ?_
            have hr2 := List.mem_range.1 hr
            rw [HLL.out, HT.out] at hr2
            by_cases e : r = 0
            · rw [e]; rfl
            · rw [HS.out r (by omega) (by omega)]; simp
          clear HS
          go_wp2
          go_ret2
          exact ⟨by rw [HZ.out, HF.out]; rfl, Below.refl _ _⟩
end Go.Proofs.Ytgkfddcmngodgaa
