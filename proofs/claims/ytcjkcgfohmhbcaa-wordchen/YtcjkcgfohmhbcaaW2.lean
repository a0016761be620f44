/- The document's WordFault and LyndonOf, walked. -/
import Derived.Test.YtcjkcgfohmhbcaaW1
namespace Go.Proofs.Ytcjkcgfohmhbcaa
open Go.RowKit

/-- What is wrong with a word. -/
def wF (l : List Int) : Nat := if 4096 < l.length then 3 else if (List.range l.length).any (fun i => decide (l.getD i 0 < 0) || decide (9 < l.getD i 0)) = true then 1 else 0
theorem wF_ok {l : List Int} (h : wF l = 0) : l.length ≤ 4096 ∧ ∃ M : List Nat, l = M.map Int.ofNat ∧ ∀ x ∈ M, x ≤ 9 := by
  unfold wF at h
  by_cases h1 : 4096 < l.length
  · rw [if_pos h1] at h; cases h
  rw [if_neg h1] at h
  by_cases h2 : (List.range l.length).any (fun i => decide (l.getD i 0 < 0) || decide (9 < l.getD i 0)) = true
  · rw [if_pos h2] at h; cases h
  have hx : ∀ x ∈ l, 0 ≤ x ∧ x ≤ 9 := fun x hx => by
    obtain ⟨i, hi, e⟩ := List.getElem_of_mem hx
    have hg : l.getD i 0 = x := by rw [List.getD_eq_getElem?_getD, List.getElem?_eq_getElem hi]; exact e
    have h4 : ¬ ((decide (l.getD i 0 < 0) || decide (9 < l.getD i 0)) = true) := fun hh => h2 (List.any_eq_true.2 ⟨i, List.mem_range.2 hi, hh⟩)
    rw [hg] at h4
    simp at h4
    omega
  refine ⟨by omega, l.map Int.toNat, ?_, fun x hm => ?_⟩
  · rw [List.map_map]
    refine ((List.map_congr_left fun x hm => ?_).trans (List.map_id l)).symm
    show ((x.toNat : Nat) : Int) = x
    have := (hx x hm).1
    omega
  · obtain ⟨y, hy, rfl⟩ := List.mem_map.1 hm
    have := hx y hy
    omega
set_option maxRecDepth 100000 in
set_option maxHeartbeats 4000000 in
theorem WordFault_any (l : List Int) (v : Value) (w : World) (hv : Sl w v l) (hl : l.length ≤ maxLen) :
    Calls Try.prog 13 #[v] w fun e w' => e = .returned (.int .i64 (wF l : Int)) ∧ Below w.heap.size w w' := by
  unfold maxLen at hl
  obtain ⟨z, Hz⟩ : ∃ z, Hid (wF l = z) := ⟨_, rfl⟩
  obtain ⟨a, c, rfl, hA⟩ := hv
  have HA : Hid (∀ i, i < l.length → ∃ b off, a = some ⟨b, off, none⟩ ∧ w.cell? ⟨b, off + i, none⟩ = some (.int .i64 (l.getD i 0))) := hA
  have HB : Hid (¬ 4096 < l.length → ∀ i, i < l.length → (l.getD i 0 < 0 ∨ 9 < l.getD i 0) → z = 1) := fun h i hi hb => by
    rw [← Hz.out]; unfold wF
    rw [if_neg h, if_pos]
    exact List.any_eq_true.2 ⟨i, List.mem_range.2 hi, by simpa using hb⟩
  have HG : Hid (¬ 4096 < l.length → (∀ i, i < l.length → 0 ≤ l.getD i 0 ∧ l.getD i 0 ≤ 9) → z = 0) := fun h hg => by
    rw [← Hz.out]; unfold wF
    rw [if_neg h, if_neg]
    intro k
    obtain ⟨i, hi, k⟩ := List.any_eq_true.1 k
    have := hg i (List.mem_range.1 hi)
    simp only [Bool.or_eq_true, decide_eq_true_eq] at k
    omega
  have HL : Hid (4096 < l.length → z = 3) := fun h => by rw [← Hz.out]; unfold wF; rw [if_pos h]
  rw [Hz.out]
  obtain ⟨n, Hn⟩ : ∃ n, Hid (l.length = n) := ⟨_, rfl⟩
  rw [Hn.out] at HA HB HG HL hl ⊢
  clear hA
  by_cases h4 : 4096 < n
  · have hd : decide ((4096 : Int) < (n : Int)) = true := by simp; omega
    have HZ : Hid (z = 3) := HL.out h4
    clear h4
    go_enter Try.func13, Try.ntmps13
    go_wp2
    go_ret
    exact ⟨by rw [HZ.out]; rfl, Below.refl _ _⟩
  · have hd : decide ((4096 : Int) < (n : Int)) = false := by simp; omega
    have HB2 : Hid (∀ i, i < n → (l.getD i 0 < 0 ∨ 9 < l.getD i 0) → z = 1) := HB.out h4
    have HG2 : Hid ((∀ i, i < n → 0 ≤ l.getD i 0 ∧ l.getD i 0 ≤ 9) → z = 0) := HG.out h4
    clear HB HG HL
    go_enter Try.func13, Try.ntmps13
    go_wp2
    go_loopw [3] (fun iv wr => ∃ (i : Nat), iv = .int .i64 (i : Int) ∧ i ≤ n ∧ Hid (∀ j, j < i → 0 ≤ l.getD j 0 ∧ l.getD j 0 ≤ 9) ∧ wr = w) (fun iv _ => (n - intOf iv).toNat)
    case atStart => exact ⟨0, rfl, by omega, (show ∀ j, j < 0 → _ from fun j h => by omega), rfl⟩
    case round =>
      obtain ⟨i, rfl, hi, HI, e1⟩ := hrel
      subst e1
      by_cases hlt : i < n
      · have hdi : decide ((i : Int) < (n : Int)) = true := by simp; omega
        have hii : (i : Int) < (n : Int) := by omega
        obtain ⟨b1, o1, rfl, c1⟩ := HA.out i hlt
        obtain ⟨x, hx⟩ : ∃ x, Hid (l.getD i 0 = x) := ⟨_, rfl⟩
        rw [hx.out] at c1
        by_cases ha : x < 0
        · have hd1 : decide (x < 0) = true := by simpa using ha
          have HZ : Hid (z = 1) := HB2.out i hlt (.inl (by rw [hx.out]; exact ha))
          go_wp2
          go_ret
          exact ⟨by rw [HZ.out]; rfl, Below.refl _ _⟩
        · have hd1 : decide (x < 0) = false := by simpa using ha
          by_cases hb : 9 < x
          · have hd2 : decide ((9 : Int) < x) = true := by simpa using hb
            have HZ : Hid (z = 1) := HB2.out i hlt (.inr (by rw [hx.out]; exact hb))
            go_wp2
            go_ret
            exact ⟨by rw [HZ.out]; rfl, Below.refl _ _⟩
          · have hd2 : decide ((9 : Int) < x) = false := by simpa using hb
            have HI2 : Hid (∀ j, j < i + 1 → 0 ≤ l.getD j 0 ∧ l.getD j 0 ≤ 9) := fun j hj => by
              by_cases e : j = i
              · rw [e, hx.out]; omega
              · exact HI.out j (by omega)
            clear HI
            go_wp2
            go_roundw
            case rel => exact ⟨i + 1, by go_num, by omega, HI2, trivial⟩
            case measure => simp [intOf]; omega
      · have hdi : decide ((i : Int) < (n : Int)) = false := by simp; omega
        have HZ : Hid (z = 0) := HG2.out fun j hj => HI.out j (by omega)
        go_wp2
        go_ret
        exact ⟨by rw [HZ.out]; rfl, Below.refl _ _⟩
theorem lyB_no {M : List Nat} {i : Nat} (h0 : 0 < i) (hi : i < M.length) (h : ahB M (M.drop i) = false) : lyB M = false := by
  cases e : lyB M with
  | false => rfl
  | true =>
    unfold lyB at e
    rw [Bool.and_eq_true, List.all_eq_true] at e
    have := e.2 i (List.mem_range.2 hi)
    rw [h] at this
    simp at this
    omega
theorem lyB_yes {M : List Nat} (h : ∀ i, 0 < i → i < M.length → ahB M (M.drop i) = true) : lyB M = decide (0 < M.length) := by
  unfold lyB
  have : ((List.range M.length).all fun i => i == 0 || ahB M (M.drop i)) = true := by
    rw [List.all_eq_true]
    intro i hi
    rcases Nat.eq_zero_or_pos i with e | e
    · rw [e]; rfl
    · rw [h i e (List.mem_range.1 hi)]; simp
  rw [this, Bool.and_true]
theorem Wd.drop {w : World} {b o n c : Nat} {M : List Nat} (h : Wd w (.slice (some ⟨b, o, none⟩) n c) M) {i : Nat} (hi : i ≤ n) : Wd w (.slice (some ⟨b, o + i, none⟩) (n - i) (c - i)) (M.drop i) := by
  obtain ⟨a', c', e, h0, hk⟩ := h
  cases e
  refine ⟨_, _, by rw [List.length_drop], by rw [List.length_drop]; omega, fun j hj => ?_⟩
  rw [List.length_drop] at hj
  obtain ⟨b', o', e, hc⟩ := hk (i + j) (by omega)
  cases e
  refine ⟨b, o + i, rfl, ?_⟩
  rw [Nat.add_assoc, hc, List.getD_eq_getElem?_getD, List.getD_eq_getElem?_getD, List.getElem?_drop]
theorem Wd.take {w : World} {b o n c : Nat} {M : List Nat} (h : Wd w (.slice (some ⟨b, o, none⟩) n c) M) {i : Nat} (hi : i ≤ n) : Wd w (.slice (some ⟨b, o, none⟩) i c) (M.take i) := by
  obtain ⟨a', c', e, h0, hk⟩ := h
  cases e
  have hl : (M.take i).length = i := by rw [List.length_take]; omega
  refine ⟨_, c, by rw [hl], by rw [hl]; omega, fun j hj => ?_⟩
  rw [hl] at hj
  obtain ⟨b', o', e, hc⟩ := hk j (by omega)
  cases e
  refine ⟨b, o, rfl, ?_⟩
  rw [hc, List.getD_eq_getElem?_getD, List.getD_eq_getElem?_getD, List.getElem?_take, if_pos hj]
theorem Wd.some {w : World} {v : Value} {M : List Nat} (h : Wd w v M) (h0 : 0 < M.length) : ∃ b o c, v = .slice (some ⟨b, o, none⟩) M.length c ∧ M.length ≤ c := by
  obtain ⟨a, c, rfl, h1, hk⟩ := h
  obtain ⟨b, o, rfl, _⟩ := hk 0 h0
  exact ⟨b, o, c, rfl, h1⟩
set_option maxRecDepth 100000 in
set_option maxHeartbeats 4000000 in
theorem LyndonOf_any (M : List Nat) (v : Value) (w : World) (hv : Wd w v M) (hl : M.length ≤ 4096) :
    Calls Try.prog 17 #[v] w fun e w' => e = .returned (.bool (lyB M)) ∧ Below w.heap.size w w' := by
  rcases Nat.eq_zero_or_pos M.length with h0 | h0
  · have e : lyB M = false := by rw [List.length_eq_zero_iff.1 h0]; rfl
    obtain ⟨a, c, rfl, -, -⟩ := hv
    rw [h0, e]
    go_enter Try.func17, Try.ntmps17
    go_wp2
    refine wp_loop_rounds 1 ?_
    rw [rounds_succ]
    go_wp2
    go_ret
    exact ⟨rfl, Below.refl _ _⟩
  · have HW : Hid (∀ W, Below w.heap.size w W → Wd W v M) := fun W b => hv.below b
    obtain ⟨b, o, c, rfl, hc⟩ := hv.some h0
    have HC : Hid (∀ W i, Below w.heap.size w W → i ≤ M.length → Calls Try.prog 27 #[.slice (some ⟨b, o, none⟩) M.length c, .slice (some ⟨b, o + i, none⟩) (M.length - i) (c - i)] W fun e w' => e = .returned (.bool (ahB M (M.drop i))) ∧ Below W.heap.size W w') := fun W i bW hi => Ahead_any M (M.drop i) _ _ W (HW.out W bW).sl ((HW.out W bW).drop hi).sl (by omega) (by rw [List.length_drop]; omega)
    have HNO : Hid (∀ i, 0 < i → i < M.length → ahB M (M.drop i) = false → lyB M = false) := fun i a b => lyB_no a b
    have HYE : Hid ((∀ i, 0 < i → i < M.length → ahB M (M.drop i) = true) → lyB M = true) := fun h => by rw [lyB_yes h, decide_eq_true h0]
    obtain ⟨z, Hz⟩ : ∃ z, Hid (lyB M = z) := ⟨_, rfl⟩
    obtain ⟨n, Hn⟩ : ∃ n, Hid (M.length = n) := ⟨_, rfl⟩
    rw [Hz.out] at HNO HYE
    rw [Hn.out] at HC HNO HYE h0 hc hl
    rw [Hz.out, Hn.out]
    have hni : (0 : Int) < (n : Int) := by omega
    have hd0 : decide ((0 : Int) < (n : Int)) = true := by simp; omega
    clear hv HW
    go_enter Try.func17, Try.ntmps17
    go_wp2
    go_loopw [3] (fun iv wr => ∃ (i : Nat), iv = .int .i64 (i : Int) ∧ 1 ≤ i ∧ i ≤ n ∧ Hid (∀ j, 0 < j → j < i → ahB M (M.drop j) = true) ∧ Below w.heap.size w wr) (fun iv _ => (n - intOf iv).toNat)
    case atStart => exact ⟨1, rfl, by omega, by omega, (show ∀ j, 0 < j → j < 1 → _ from fun j a b => by omega), Below.refl _ _⟩
    case round =>
      obtain ⟨i, rfl, h1, hi, HI, hB⟩ := hrel
      by_cases hlt : i < n
      · have hdi : decide ((i : Int) < (n : Int)) = true := by simp; omega
        have hii : (i : Int) ≤ (n : Int) := by omega
        have hi0 : (0 : Int) ≤ (i : Int) := by omega
        have hnc : (n : Int) ≤ (c : Int) := by omega
        have C := HC.out wr i hB hi
        have hno := HNO.out i (by omega) hlt
        obtain ⟨p, Hp⟩ : ∃ p, Hid (ahB M (M.drop i) = p) := ⟨_, rfl⟩
        rw [Hp.out] at C hno
        cases p with
        | false =>
          have HZ : Hid (z = false) := hno rfl
          go_wp2_with (first
            | (go_at_call 27; refine C.mono ?_; rintro e w2 ⟨rfl, hb2⟩; clear C)
            | go_in)
          go_ret
          exact ⟨by rw [HZ.out]; rfl, Below.next hB hb2⟩
        | true =>
          have HI2 : Hid (∀ j, 0 < j → j < i + 1 → ahB M (M.drop j) = true) := fun j a b => by
            by_cases e : j = i
            · rw [e]; exact Hp.out
            · exact HI.out j a (by omega)
          clear HI hno
          go_wp2_with (first
            | (go_at_call 27; refine C.mono ?_; rintro e w2 ⟨rfl, hb2⟩; clear C)
            | go_in)
          go_roundw
          case rel => exact ⟨i + 1, by go_num, by omega, by omega, HI2, Below.next hB hb2⟩
          case measure => simp [intOf]; omega
      · have hdi : decide ((i : Int) < (n : Int)) = false := by simp; omega
        have HZ : Hid (z = true) := HYE.out fun j a b => HI.out j a (by omega)
        go_wp2
        go_ret
        exact ⟨by rw [HZ.out]; rfl, hB⟩
end Go.Proofs.Ytcjkcgfohmhbcaa
