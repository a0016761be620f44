/- What the landed package asks of its lists, walked. -/
import Derived.Test.YtmogmkdcplgfjaaV2
namespace Go.Proofs.Ytmogmkdcplgfjaa
open Go.RowKit

/-- Are all numbers no more than it, and none below 0? -/
def upB (k : Int) (l : List Int) : Bool := (List.range l.length).all fun i => decide (0 ≤ l.getD i 0) && decide (l.getD i 0 ≤ k)
set_option maxRecDepth 100000 in
set_option maxHeartbeats 4000000 in
theorem areUpTo_any (k : Int) (l : List Int) (v : Value) (w : World) (hv : Sl w v l) (hl : l.length ≤ 4096) :
    Calls Try.prog 34 #[.int .i64 k, v] w fun e w' => e = .returned (.bool (upB k l)) ∧ w' = w := by
  obtain ⟨z, Hz⟩ : ∃ z, Hid (upB k l = z) := ⟨_, rfl⟩
  obtain ⟨a, c, rfl, hA⟩ := hv
  have HA : Hid (∀ i, i < l.length → ∃ b off, a = some ⟨b, off, none⟩ ∧ w.cell? ⟨b, off + i, none⟩ = some (.int .i64 (l.getD i 0))) := hA
  have HB : Hid (∀ i, i < l.length → (l.getD i 0 < 0 ∨ k < l.getD i 0) → z = false) := fun i hi hb => by
    rw [← Hz.out]; unfold upB
    cases e : (List.range l.length).all fun i => decide (0 ≤ l.getD i 0) && decide (l.getD i 0 ≤ k) with
    | false => rfl
    | true =>
      have := List.all_eq_true.1 e i (List.mem_range.2 hi)
      simp only [Bool.and_eq_true, decide_eq_true_eq] at this
      omega
  have HG : Hid ((∀ i, i < l.length → 0 ≤ l.getD i 0 ∧ l.getD i 0 ≤ k) → z = true) := fun hg => by
    rw [← Hz.out]; unfold upB
    rw [List.all_eq_true]
    intro i hi
    have := hg i (List.mem_range.1 hi)
    simp only [Bool.and_eq_true, decide_eq_true_eq]
    exact this
  rw [Hz.out]
  obtain ⟨n, Hn⟩ : ∃ n, Hid (l.length = n) := ⟨_, rfl⟩
  rw [Hn.out] at HA HB HG hl ⊢
  clear hA
  go_enter Try.func34, Try.ntmps34
  go_wp2
  go_loopw [9] (fun iv wr => ∃ (i : Nat), iv = .int .i64 (i : Int) ∧ i ≤ n ∧ Hid (∀ j, j < i → 0 ≤ l.getD j 0 ∧ l.getD j 0 ≤ k) ∧ wr = w) (fun iv _ => (n - intOf iv).toNat)
  case atStart => exact ⟨0, rfl, by omega, (show ∀ j, j < 0 → _ from fun j h => by omega), rfl⟩
  case round =>
    obtain ⟨i, rfl, hi, HI, e1⟩ := hrel
    subst e1
    by_cases hlt : i < n
    · have hdi : decide ((i : Int) < (n : Int)) = true := by simp; omega
      have hii : (i : Int) < (n : Int) := by omega
      obtain ⟨b1, o1, rfl, c1⟩ := HA.out i hlt
      obtain ⟨x, hx⟩ : ∃ x, Hid (l.getD i 0 = x) := ⟨_, rfl⟩
      rw [hx.out] at c1
      by_cases ha : x < 0
      · have hd1 : decide (x < 0) = true := by simpa using ha
        have HZ : Hid (z = false) := HB.out i hlt (.inl (by rw [hx.out]; exact ha))
        go_wp2
        go_ret
        exact ⟨by rw [HZ.out]; rfl, rfl⟩
      · have hd1 : decide (x < 0) = false := by simpa using ha
        by_cases hb : k < x
        · have hd2 : decide (k < x) = true := by simpa using hb
          have HZ : Hid (z = false) := HB.out i hlt (.inr (by rw [hx.out]; exact hb))
          go_wp2
          go_ret
          exact ⟨by rw [HZ.out]; rfl, rfl⟩
        · have hd2 : decide (k < x) = false := by simpa using hb
          have HI2 : Hid (∀ j, j < i + 1 → 0 ≤ l.getD j 0 ∧ l.getD j 0 ≤ k) := fun j hj => by
            by_cases e : j = i
            · rw [e, hx.out]; omega
            · exact HI.out j (by omega)
          clear HI
          go_wp2
          go_roundw
          case rel => exact ⟨i + 1, by go_num, by omega, HI2, trivial⟩
          case measure => simp [intOf]; omega
    · have hdi : decide ((i : Int) < (n : Int)) = false := by simp; omega
      have HZ : Hid (z = true) := HG.out fun j hj => HI.out j (by omega)
      go_wp2
      go_ret
      exact ⟨by rw [HZ.out]; rfl, rfl⟩

/-- Does each rise over the one ahead? -/
def rsB (l : List Int) : Bool := !((List.range l.length).any fun i => decide (1 ≤ i) && decide (l.getD i 0 ≤ l.getD (i - 1) 0))
set_option maxRecDepth 100000 in
set_option maxHeartbeats 4000000 in
theorem rises_any (l : List Int) (v : Value) (w : World) (hv : Sl w v l) (hl : l.length ≤ 4096) :
    Calls Try.prog 35 #[v] w fun e w' => e = .returned (.bool (rsB l)) ∧ Below w.heap.size w w' := by
  obtain ⟨z, Hz⟩ : ∃ z, Hid (rsB l = z) := ⟨_, rfl⟩
  obtain ⟨a, c, rfl, hA⟩ := hv
  have HA : Hid (∀ W, Below w.heap.size w W → ∀ i, i < l.length → ∃ b off, a = some ⟨b, off, none⟩ ∧ W.cell? ⟨b, off + i, none⟩ = some (.int .i64 (l.getD i 0))) := fun W bW i hi => by
    obtain ⟨b, o, e, hc⟩ := hA i hi
    exact ⟨b, o, e, (bW.cell (World.block_lt_of_cell? _ _ hc)).trans hc⟩
  have HF : Hid (∀ i, 1 ≤ i → i < l.length → l.getD i 0 ≤ l.getD (i - 1) 0 → z = false) := fun i h1 hi hb => by
    rw [← Hz.out]; unfold rsB
    rw [List.any_eq_true.2 ⟨i, List.mem_range.2 hi, by simp only [Bool.and_eq_true, decide_eq_true_eq]; exact ⟨h1, hb⟩⟩]
    rfl
  have HG : Hid ((∀ i, 1 ≤ i → i < l.length → l.getD (i - 1) 0 < l.getD i 0) → z = true) := fun hg => by
    rw [← Hz.out]; unfold rsB
    cases e : (List.range l.length).any fun i => decide (1 ≤ i) && decide (l.getD i 0 ≤ l.getD (i - 1) 0) with
    | false => rfl
    | true =>
      obtain ⟨i, hi, k⟩ := List.any_eq_true.1 e
      simp only [Bool.and_eq_true, decide_eq_true_eq] at k
      have := hg i k.1 (List.mem_range.1 hi)
      omega
  rw [Hz.out]
  obtain ⟨n, Hn⟩ : ∃ n, Hid (l.length = n) := ⟨_, rfl⟩
  rw [Hn.out] at HA HF HG hl ⊢
  clear hA
  go_enter Try.func35, Try.ntmps35
  go_wp2
  go_loopw [3] (fun iv wr => ∃ (i : Nat), iv = .int .i64 (i : Int) ∧ 1 ≤ i ∧ i ≤ n + 1 ∧ Hid (∀ j, 1 ≤ j → j < i → l.getD (j - 1) 0 < l.getD j 0) ∧ Below w.heap.size w wr) (fun iv _ => (n + 1 - intOf iv).toNat)
  case atStart => exact ⟨1, rfl, by omega, by omega, (show ∀ j, 1 ≤ j → j < 1 → _ from fun j h1 h2 => by omega), Below.refl _ _⟩
  case round =>
    obtain ⟨i, rfl, h1, hi, HI, hB⟩ := hrel
    by_cases hlt : i < n
    · have hdi : decide ((i : Int) < (n : Int)) = true := by simp; omega
      have hii : (i : Int) < (n : Int) := by omega
      obtain ⟨p, rfl⟩ : ∃ p, i = p + 1 := ⟨i - 1, by omega⟩
      obtain ⟨b1, o1, rfl, c1⟩ := HA.out wr hB (p + 1) hlt
      obtain ⟨b2, o2, e2, c2⟩ := HA.out wr hB p (by omega)
      cases e2
      obtain ⟨x, hx⟩ : ∃ x, Hid (l.getD (p + 1) 0 = x) := ⟨_, rfl⟩
      obtain ⟨y, hy⟩ : ∃ y, Hid (l.getD p 0 = y) := ⟨_, rfl⟩
      rw [hx.out] at c1
      rw [hy.out] at c2
      have hpw : IntKind.i64.wrap (p : Int) = (p : Int) := IntWalk.i64_in _ (by omega)
      have hpn : (p : Int) < (n : Int) := by omega
      have hpn1 : (p : Int) + 1 < (n : Int) := by omega
      have hp0 : ¬ ((p : Int) + 1 < 0) := by omega
      have hp00 : (0 : Int) ≤ (p : Int) + 1 := by omega
      by_cases hle : x ≤ y
      · have hd1 : decide (x ≤ y) = true := by simpa using hle
        have HZ : Hid (z = false) := HF.out (p + 1) h1 hlt (by rw [Nat.add_sub_cancel, hx.out, hy.out]; exact hle)
        go_wp2
        go_quiet (fail)
        go_wp2
        go_ret
        exact ⟨by rw [HZ.out]; rfl, bdrewN hB _⟩
      · have hd1 : decide (x ≤ y) = false := by simpa using hle
        have HI4 : Hid (∀ j, 1 ≤ j → j < p + 1 + 1 → l.getD (j - 1) 0 < l.getD j 0) := fun j h2 hj => by
          by_cases e : j = p + 1
          · rw [e, Nat.add_sub_cancel, hx.out, hy.out]; omega
          · exact HI.out j h2 (by omega)
        clear HI
        go_wp2
        go_quiet (fail)
        go_wp2
        go_roundw
        case rel => exact ⟨p + 1 + 1, by go_num, by omega, by omega, HI4, bdrewN hB _⟩
        case measure => simp [intOf]; omega
    · have hdi : decide ((i : Int) < (n : Int)) = false := by simp; omega
      have HZ : Hid (z = true) := HG.out fun j h2 hj => HI.out j h2 (by omega)
      go_wp2
      go_ret
      exact ⟨by rw [HZ.out]; rfl, hB⟩
/-- What is wrong, asked so. -/
theorem riF_asks {cap : Nat} {b : Int} {l : List Int} : riF cap b l = if cap < l.length then 3 else if upB (b - 1) l = true then (if rsB l = true then 0 else 2) else 1 := by
  by_cases h : cap < l.length
  · rw [riF_cap h, if_pos h]
  rw [if_neg h]
  cases e : upB (b - 1) l with
  | true =>
    rw [if_pos rfl]
    have hg : ∀ i, i < l.length → 0 ≤ l.getD i 0 ∧ l.getD i 0 < b := fun i hi => by
      have := List.all_eq_true.1 e i (List.mem_range.2 hi)
      simp only [Bool.and_eq_true, decide_eq_true_eq] at this
      omega
    rw [riF_mid h hg]
    unfold rsB
    cases (List.range l.length).any fun i => decide (1 ≤ i) && decide (l.getD i 0 ≤ l.getD (i - 1) 0) <;> rfl
  | false =>
    rw [if_neg (by decide)]
    have : ∃ i, i < l.length ∧ (l.getD i 0 < 0 ∨ b ≤ l.getD i 0) := by
      apply Classical.byContradiction
      intro hn
      have : upB (b - 1) l = true := List.all_eq_true.2 fun i hi => by
        have hi := List.mem_range.1 hi
        have : ¬ (l.getD i 0 < 0 ∨ b ≤ l.getD i 0) := fun k => hn ⟨i, hi, k⟩
        simp only [Bool.and_eq_true, decide_eq_true_eq]
        omega
      rw [e] at this; cases this
    obtain ⟨i, hi, hb⟩ := this
    exact riF_bad h hi hb
set_option maxRecDepth 100000 in
set_option maxHeartbeats 4000000 in
theorem checkSum_any (m k : Int) (w : World) :
    Calls Try.prog 42 #[.int .i64 m, .int .i64 k] w fun e w' => e = .returned (.int .i64 ((if m < 0 ∨ k < 1 ∨ 30 < k then 1 else if 1000000000 < m then 3 else 0 : Nat) : Int)) ∧ w' = w := by
  by_cases h1 : m < 0
  · have hd1 : decide (m < 0) = true := by simpa using h1
    rw [if_pos (.inl h1)]
    clear h1
    go_enter Try.func42, Try.ntmps42
    go_wp2
    go_ret
    exact ⟨rfl, rfl⟩
  have hd1 : decide (m < 0) = false := by simpa using h1
  by_cases h2 : k < 1
  · have hd2 : decide (k < 1) = true := by simpa using h2
    rw [if_pos (.inr (.inl h2))]
    clear h1 h2
    go_enter Try.func42, Try.ntmps42
    go_wp2
    go_ret
    exact ⟨rfl, rfl⟩
  have hd2 : decide (k < 1) = false := by simpa using h2
  by_cases h3 : 30 < k
  · have hd3 : decide (30 < k) = true := by simpa using h3
    rw [if_pos (.inr (.inr h3))]
    clear h1 h2 h3
    go_enter Try.func42, Try.ntmps42
    go_wp2
    go_ret
    exact ⟨rfl, rfl⟩
  have hd3 : decide (30 < k) = false := by simpa using h3
  rw [if_neg (by omega)]
  by_cases h4 : 1000000000 < m
  · have hd4 : decide (1000000000 < m) = true := by simpa using h4
    rw [if_pos h4]
    clear h1 h2 h3 h4
    go_enter Try.func42, Try.ntmps42
    go_wp2
    go_ret
    exact ⟨rfl, rfl⟩
  have hd4 : decide (1000000000 < m) = false := by simpa using h4
  rw [if_neg h4]
  clear h1 h2 h3 h4
  go_enter Try.func42, Try.ntmps42
  go_wp2
  go_ret
  exact ⟨rfl, rfl⟩
end Go.Proofs.Ytmogmkdcplgfjaa
