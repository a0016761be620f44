/- The document's RankFault and FamilyFault, walked. -/
import Derived.Test.YtmogmkdcplgfjaaV1
namespace Go.Proofs.Ytmogmkdcplgfjaa
open Go.RowKit

/-- What is wrong with a list that is to rise. -/
def riF (cap : Nat) (b : Int) (l : List Int) : Nat := if cap < l.length then 3 else if (List.range l.length).any (fun i => decide (l.getD i 0 < 0) || decide (b ≤ l.getD i 0)) = true then 1 else if (List.range l.length).any (fun i => decide (1 ≤ i) && decide (l.getD i 0 ≤ l.getD (i - 1) 0)) = true then 2 else 0
theorem riF_cap {cap : Nat} {b : Int} {l : List Int} (h : cap < l.length) : riF cap b l = 3 := by unfold riF; rw [if_pos h]
theorem riF_bad {cap : Nat} {b : Int} {l : List Int} (h : ¬ cap < l.length) {i : Nat} (hi : i < l.length) (hb : l.getD i 0 < 0 ∨ b ≤ l.getD i 0) : riF cap b l = 1 := by
  unfold riF
  rw [if_neg h, if_pos]
  exact List.any_eq_true.2 ⟨i, List.mem_range.2 hi, by simpa using hb⟩
theorem riF_mid {cap : Nat} {b : Int} {l : List Int} (h : ¬ cap < l.length) (hg : ∀ i, i < l.length → 0 ≤ l.getD i 0 ∧ l.getD i 0 < b) : riF cap b l = if (List.range l.length).any (fun i => decide (1 ≤ i) && decide (l.getD i 0 ≤ l.getD (i - 1) 0)) = true then 2 else 0 := by
  unfold riF
  rw [if_neg h, if_neg]
  intro k
  obtain ⟨i, hi, k⟩ := List.any_eq_true.1 k
  have := hg i (List.mem_range.1 hi)
  simp only [Bool.or_eq_true, decide_eq_true_eq] at k
  omega
theorem riF_fall {cap : Nat} {b : Int} {l : List Int} (h : ¬ cap < l.length) (hg : ∀ i, i < l.length → 0 ≤ l.getD i 0 ∧ l.getD i 0 < b) {i : Nat} (h1 : 1 ≤ i) (hi : i < l.length) (hb : l.getD i 0 ≤ l.getD (i - 1) 0) : riF cap b l = 2 := by
  rw [riF_mid h hg, if_pos]
  exact List.any_eq_true.2 ⟨i, List.mem_range.2 hi, by simp only [Bool.and_eq_true, decide_eq_true_eq]; exact ⟨h1, hb⟩⟩
theorem riF_good {cap : Nat} {b : Int} {l : List Int} (h : ¬ cap < l.length) (hg : ∀ i, i < l.length → 0 ≤ l.getD i 0 ∧ l.getD i 0 < b) (hr : ∀ i, 1 ≤ i → i < l.length → l.getD (i - 1) 0 < l.getD i 0) : riF cap b l = 0 := by
  rw [riF_mid h hg, if_neg]
  intro k
  obtain ⟨i, hi, k⟩ := List.any_eq_true.1 k
  simp only [Bool.and_eq_true, decide_eq_true_eq] at k
  have := hr i k.1 (List.mem_range.1 hi)
  omega
theorem riF_ok {cap : Nat} {b : Int} {l : List Int} (h : riF cap b l = 0) : l.length ≤ cap ∧ (∀ i, i < l.length → 0 ≤ l.getD i 0 ∧ l.getD i 0 < b) ∧ ∀ i, 1 ≤ i → i < l.length → l.getD (i - 1) 0 < l.getD i 0 := by
  by_cases h1 : cap < l.length
  · rw [riF_cap h1] at h; cases h
  have hg : ∀ i, i < l.length → 0 ≤ l.getD i 0 ∧ l.getD i 0 < b := fun i hi => by
    by_cases hb : l.getD i 0 < 0 ∨ b ≤ l.getD i 0
    · rw [riF_bad h1 hi hb] at h; cases h
    · omega
  refine ⟨by omega, hg, fun i h2 hi => ?_⟩
  by_cases hb : l.getD i 0 ≤ l.getD (i - 1) 0
  · rw [riF_fall h1 hg h2 hi hb] at h; cases h
  · omega
def rkF (l : List Int) : Nat := riF 30 61 l
def fmF (n : Int) (l : List Int) : Nat := if n < 0 ∨ 12 < n then 1 else riF 4096 ((2 ^ n.toNat : Nat) : Int) l
set_option maxRecDepth 100000 in
set_option maxHeartbeats 8000000 in
theorem RankFault_any (l : List Int) (v : Value) (w : World) (hv : Sl w v l) (hl : l.length ≤ maxLen) :
    Calls Try.prog 9 #[v] w fun e w' => e = .returned (.int .i64 (rkF l : Int)) ∧ Below w.heap.size w w' := by
  unfold maxLen at hl
  unfold rkF
  obtain ⟨z, Hz⟩ : ∃ z, Hid (riF 30 61 l = z) := ⟨_, rfl⟩
  obtain ⟨a, c, rfl, hA⟩ := hv
  have HA : Hid (∀ W, Below w.heap.size w W → ∀ i, i < l.length → ∃ b off, a = some ⟨b, off, none⟩ ∧ W.cell? ⟨b, off + i, none⟩ = some (.int .i64 (l.getD i 0))) := fun W bW i hi => by
    obtain ⟨b, o, e, hc⟩ := hA i hi
    exact ⟨b, o, e, (bW.cell (World.block_lt_of_cell? _ _ hc)).trans hc⟩
  have HL : Hid (30 < l.length → z = 3) := fun h => by rw [← Hz.out]; exact riF_cap h
  have HB : Hid (¬ 30 < l.length → ∀ i, i < l.length → (l.getD i 0 < 0 ∨ 61 ≤ l.getD i 0) → z = 1) := fun h i hi hb => by rw [← Hz.out]; exact riF_bad h hi hb
  have HF : Hid (¬ 30 < l.length → (∀ i, i < l.length → 0 ≤ l.getD i 0 ∧ l.getD i 0 < 61) → ∀ i, 1 ≤ i → i < l.length → l.getD i 0 ≤ l.getD (i - 1) 0 → z = 2) := fun h hg i h1 hi hb => by rw [← Hz.out]; exact riF_fall h hg h1 hi hb
  have HG : Hid (¬ 30 < l.length → (∀ i, i < l.length → 0 ≤ l.getD i 0 ∧ l.getD i 0 < 61) → (∀ i, 1 ≤ i → i < l.length → l.getD (i - 1) 0 < l.getD i 0) → z = 0) := fun h hg hr => by rw [← Hz.out]; exact riF_good h hg hr
  rw [Hz.out]
  obtain ⟨n, Hn⟩ : ∃ n, Hid (l.length = n) := ⟨_, rfl⟩
  rw [Hn.out] at HA HB HG HF HL hl ⊢
  clear hA
  by_cases h4 : 30 < n
  · have hd : decide ((30 : Int) < (n : Int)) = true := by simp; omega
    have HZ : Hid (z = 3) := HL.out h4
    clear h4
    go_enter Try.func9, Try.ntmps9
    go_wp2
    go_ret
    exact ⟨by rw [HZ.out]; rfl, Below.refl _ _⟩
  · have hd : decide ((30 : Int) < (n : Int)) = false := by simp; omega
    have HB2 : Hid (∀ i, i < n → (l.getD i 0 < 0 ∨ 61 ≤ l.getD i 0) → z = 1) := HB.out h4
    have HF2 : Hid ((∀ i, i < n → 0 ≤ l.getD i 0 ∧ l.getD i 0 < 61) → ∀ i, 1 ≤ i → i < n → l.getD i 0 ≤ l.getD (i - 1) 0 → z = 2) := HF.out h4
    have HG2 : Hid ((∀ i, i < n → 0 ≤ l.getD i 0 ∧ l.getD i 0 < 61) → (∀ i, 1 ≤ i → i < n → l.getD (i - 1) 0 < l.getD i 0) → z = 0) := HG.out h4
    clear HB HG HL HF
    go_enter Try.func9, Try.ntmps9
    go_wp2
    go_loopw [3] (fun iv wr => ∃ (i : Nat), iv = .int .i64 (i : Int) ∧ i ≤ n ∧ Hid (∀ j, j < i → 0 ≤ l.getD j 0 ∧ l.getD j 0 < 61) ∧ Below w.heap.size w wr) (fun iv _ => (n - intOf iv).toNat)
    case atStart => exact ⟨0, rfl, by omega, (show ∀ j, j < 0 → _ from fun j h => by omega), Below.refl _ _⟩
    case round =>
      obtain ⟨i, rfl, hi, HI, hB⟩ := hrel
      by_cases hlt : i < n
      · have hdi : decide ((i : Int) < (n : Int)) = true := by simp; omega
        have hii : (i : Int) < (n : Int) := by omega
        obtain ⟨b1, o1, rfl, c1⟩ := HA.out wr hB i hlt
        obtain ⟨x, hx⟩ : ∃ x, Hid (l.getD i 0 = x) := ⟨_, rfl⟩
        rw [hx.out] at c1
        by_cases ha : x < 0
        · have hd1 : decide (x < 0) = true := by simpa using ha
          have HZ : Hid (z = 1) := HB2.out i hlt (.inl (by rw [hx.out]; exact ha))
          go_wp2
          go_ret
          exact ⟨by rw [HZ.out]; rfl, hB⟩
        · have hd1 : decide (x < 0) = false := by simpa using ha
          by_cases hb : 61 ≤ x
          · have hd2 : decide (60 < x) = true := by simp; omega
            have HZ : Hid (z = 1) := HB2.out i hlt (.inr (by rw [hx.out]; exact hb))
            go_wp2
            go_ret
            exact ⟨by rw [HZ.out]; rfl, hB⟩
          · have hd2 : decide (60 < x) = false := by simp; omega
            have HI2 : Hid (∀ j, j < i + 1 → 0 ≤ l.getD j 0 ∧ l.getD j 0 < 61) := fun j hj => by
              by_cases e : j = i
              · rw [e, hx.out]; omega
              · exact HI.out j (by omega)
            clear HI
            go_wp2
            go_roundw
            case rel => exact ⟨i + 1, by go_num, by omega, HI2, hB⟩
            case measure => simp [intOf]; omega
      · have hdi : decide ((i : Int) < (n : Int)) = false := by simp; omega
        have HI3 : Hid (∀ j, j < n → 0 ≤ l.getD j 0 ∧ l.getD j 0 < 61) := fun j hj => HI.out j (by omega)
        clear HI
        go_wp2
        go_loopw [4] (fun iv wr => ∃ (i : Nat), iv = .int .i64 (i : Int) ∧ 1 ≤ i ∧ i ≤ n + 1 ∧ Hid (∀ j, 1 ≤ j → j < i → l.getD (j - 1) 0 < l.getD j 0) ∧ Below w.heap.size w wr) (fun iv _ => (n + 1 - intOf iv).toNat)
        case atStart => exact ⟨1, rfl, by omega, by omega, (show ∀ j, 1 ≤ j → j < 1 → _ from fun j h1 h2 => by omega), hB⟩
        case round =>
          clear hB
          obtain ⟨i, rfl, h1, hi, HI, hB⟩ := hrel
          by_cases hlt : i < n
          · have hdi : decide ((i : Int) < (n : Int)) = true := by simp; omega
            have hii : (i : Int) < (n : Int) := by omega
            obtain ⟨p, rfl⟩ : ∃ p, i = p + 1 := ⟨i - 1, by omega⟩
            obtain ⟨b1, o1, rfl, c1⟩ := HA.out wr hB (p + 1) hlt
            obtain ⟨b2, o2, e2, c2⟩ := HA.out wr hB p (by omega)
            cases e2
            obtain ⟨x, hx⟩ : ∃ x, Hid (l.getD (p + 1) 0 = x) := ⟨_, rfl⟩
            obtain ⟨y, hy⟩ : ∃ y, Hid (l.getD p 0 = y) := ⟨_, rfl⟩
            rw [hx.out] at c1
            rw [hy.out] at c2
            have hpw : IntKind.i64.wrap (p : Int) = (p : Int) := IntWalk.i64_in _ (by omega)
            have hpn : (p : Int) < (n : Int) := by omega
            have hpn1 : (p : Int) + 1 < (n : Int) := by omega
            have hp0 : ¬ ((p : Int) + 1 < 0) := by omega
            have hp00 : (0 : Int) ≤ (p : Int) + 1 := by omega
            have eo : o1 + (p + 1) = o1 + p + 1 := rfl
            by_cases hle : x ≤ y
            · have hd1 : decide (x ≤ y) = true := by simpa using hle
              have HZ : Hid (z = 2) := HF2.out HI3.out (p + 1) h1 hlt (by rw [Nat.add_sub_cancel, hx.out, hy.out]; exact hle)
              clear eo
              go_wp2
              go_quiet (fail)
              go_wp2
              go_ret
              exact ⟨by rw [HZ.out]; rfl, bdrewN hB _⟩
            · have hd1 : decide (x ≤ y) = false := by simpa using hle
              have HI4 : Hid (∀ j, 1 ≤ j → j < p + 1 + 1 → l.getD (j - 1) 0 < l.getD j 0) := fun j h2 hj => by
                by_cases e : j = p + 1
                · rw [e, Nat.add_sub_cancel, hx.out, hy.out]; omega
                · exact HI.out j h2 (by omega)
              clear HI eo
              go_wp2
              go_quiet (fail)
              go_wp2
              go_roundw
              case rel => exact ⟨p + 1 + 1, by go_num, by omega, by omega, HI4, bdrewN hB _⟩
              case measure => simp [intOf]; omega
          · have hdi : decide ((i : Int) < (n : Int)) = false := by simp; omega
            have HZ : Hid (z = 0) := HG2.out HI3.out fun j h2 hj => HI.out j h2 (by omega)
            go_wp2
            go_ret
            exact ⟨by rw [HZ.out]; rfl, hB⟩
set_option maxRecDepth 100000 in
set_option maxHeartbeats 8000000 in
theorem family_in (m A : Nat) (hm : m ≤ 12) (HA2 : Hid (2 ^ m = A)) (l : List Int) (v : Value) (w : World) (hv : Sl w v l) (hl : l.length ≤ maxLen) :
    Calls Try.prog 15 #[.int .i64 (m : Int), v] w fun e w' => e = .returned (.int .i64 (riF 4096 (A : Int) l : Int)) ∧ Below w.heap.size w w' := by
  unfold maxLen at hl
  have eA : (1 : Int) * 2 ^ m = (A : Int) := by rw [Int.one_mul, ← HA2.out]; simp
  have hA12 : A ≤ 4096 := by rw [← HA2.out]; exact (Nat.pow_le_pow_right (by decide) hm : 2 ^ m ≤ 2 ^ 12)
  have hAw : IntKind.i64.wrap (A : Int) = (A : Int) := IntWalk.i64_in _ (by omega)
  have hdm1 : decide ((m : Int) < 0) = false := by simp
  have hdm2 : decide ((12 : Int) < (m : Int)) = false := by simp; omega
  obtain ⟨z, Hz⟩ : ∃ z, Hid (riF 4096 (A : Int) l = z) := ⟨_, rfl⟩
  obtain ⟨a, c, rfl, hA⟩ := hv
  have HA : Hid (∀ W, Below w.heap.size w W → ∀ i, i < l.length → ∃ b off, a = some ⟨b, off, none⟩ ∧ W.cell? ⟨b, off + i, none⟩ = some (.int .i64 (l.getD i 0))) := fun W bW i hi => by
    obtain ⟨b, o, e, hc⟩ := hA i hi
    exact ⟨b, o, e, (bW.cell (World.block_lt_of_cell? _ _ hc)).trans hc⟩
  have HL : Hid (4096 < l.length → z = 3) := fun h => by rw [← Hz.out]; exact riF_cap h
  have HB : Hid (¬ 4096 < l.length → ∀ i, i < l.length → (l.getD i 0 < 0 ∨ (A : Int) ≤ l.getD i 0) → z = 1) := fun h i hi hb => by rw [← Hz.out]; exact riF_bad h hi hb
  have HF : Hid (¬ 4096 < l.length → (∀ i, i < l.length → 0 ≤ l.getD i 0 ∧ l.getD i 0 < (A : Int)) → ∀ i, 1 ≤ i → i < l.length → l.getD i 0 ≤ l.getD (i - 1) 0 → z = 2) := fun h hg i h1 hi hb => by rw [← Hz.out]; exact riF_fall h hg h1 hi hb
  have HG : Hid (¬ 4096 < l.length → (∀ i, i < l.length → 0 ≤ l.getD i 0 ∧ l.getD i 0 < (A : Int)) → (∀ i, 1 ≤ i → i < l.length → l.getD (i - 1) 0 < l.getD i 0) → z = 0) := fun h hg hr => by rw [← Hz.out]; exact riF_good h hg hr
  rw [Hz.out]
  obtain ⟨n, Hn⟩ : ∃ n, Hid (l.length = n) := ⟨_, rfl⟩
  rw [Hn.out] at HA HB HG HF HL hl ⊢
  clear hA
  by_cases h4 : 4096 < n
  · have hd : decide ((4096 : Int) < (n : Int)) = true := by simp; omega
    have HZ : Hid (z = 3) := HL.out h4
    clear h4
    go_enter Try.func15, Try.ntmps15
    go_wp2
    go_ret
    exact ⟨by rw [HZ.out]; rfl, Below.refl _ _⟩
  · have hd : decide ((4096 : Int) < (n : Int)) = false := by simp; omega
    have HB2 : Hid (∀ i, i < n → (l.getD i 0 < 0 ∨ (A : Int) ≤ l.getD i 0) → z = 1) := HB.out h4
    have HF2 : Hid ((∀ i, i < n → 0 ≤ l.getD i 0 ∧ l.getD i 0 < (A : Int)) → ∀ i, 1 ≤ i → i < n → l.getD i 0 ≤ l.getD (i - 1) 0 → z = 2) := HF.out h4
    have HG2 : Hid ((∀ i, i < n → 0 ≤ l.getD i 0 ∧ l.getD i 0 < (A : Int)) → (∀ i, 1 ≤ i → i < n → l.getD (i - 1) 0 < l.getD i 0) → z = 0) := HG.out h4
    clear HB HG HL HF
    go_enter Try.func15, Try.ntmps15
    go_wp2
    go_loopw [5] (fun iv wr => ∃ (i : Nat), iv = .int .i64 (i : Int) ∧ i ≤ n ∧ Hid (∀ j, j < i → 0 ≤ l.getD j 0 ∧ l.getD j 0 < (A : Int)) ∧ Below w.heap.size w wr) (fun iv _ => (n - intOf iv).toNat)
    case atStart => exact ⟨0, rfl, by omega, (show ∀ j, j < 0 → _ from fun j h => by omega), Below.refl _ _⟩
    case round =>
      obtain ⟨i, rfl, hi, HI, hB⟩ := hrel
      by_cases hlt : i < n
      · have hdi : decide ((i : Int) < (n : Int)) = true := by simp; omega
        have hii : (i : Int) < (n : Int) := by omega
        obtain ⟨b1, o1, rfl, c1⟩ := HA.out wr hB i hlt
        obtain ⟨x, hx⟩ : ∃ x, Hid (l.getD i 0 = x) := ⟨_, rfl⟩
        rw [hx.out] at c1
        by_cases ha : x < 0
        · have hd1 : decide (x < 0) = true := by simpa using ha
          have HZ : Hid (z = 1) := HB2.out i hlt (.inl (by rw [hx.out]; exact ha))
          go_wp2
          go_quiet (fail)
          go_wp2
          go_ret
          exact ⟨by rw [HZ.out]; rfl, bdrewN hB _⟩
        · have hd1 : decide (x < 0) = false := by simpa using ha
          by_cases hb : (A : Int) ≤ x
          · have hd2 : decide ((A : Int) ≤ x) = true := by simpa using hb
            have HZ : Hid (z = 1) := HB2.out i hlt (.inr (by rw [hx.out]; exact hb))
            go_wp2
            go_quiet (fail)
            go_wp2
            go_ret
            exact ⟨by rw [HZ.out]; rfl, bdrewN hB _⟩
          · have hd2 : decide ((A : Int) ≤ x) = false := by simpa using hb
            have HI2 : Hid (∀ j, j < i + 1 → 0 ≤ l.getD j 0 ∧ l.getD j 0 < (A : Int)) := fun j hj => by
              by_cases e : j = i
              · rw [e, hx.out]; omega
              · exact HI.out j (by omega)
            clear HI
            go_wp2
            go_quiet (fail)
            go_wp2
            go_roundw
            case rel => exact ⟨i + 1, by go_num, by omega, HI2, bdrewN hB _⟩
            case measure => simp [intOf]; omega
      · have hdi : decide ((i : Int) < (n : Int)) = false := by simp; omega
        have HI3 : Hid (∀ j, j < n → 0 ≤ l.getD j 0 ∧ l.getD j 0 < (A : Int)) := fun j hj => HI.out j (by omega)
        clear HI
        go_wp2
        go_loopw [6] (fun iv wr => ∃ (i : Nat), iv = .int .i64 (i : Int) ∧ 1 ≤ i ∧ i ≤ n + 1 ∧ Hid (∀ j, 1 ≤ j → j < i → l.getD (j - 1) 0 < l.getD j 0) ∧ Below w.heap.size w wr) (fun iv _ => (n + 1 - intOf iv).toNat)
        case atStart => exact ⟨1, rfl, by omega, by omega, (show ∀ j, 1 ≤ j → j < 1 → _ from fun j h1 h2 => by omega), hB⟩
        case round =>
          clear hB
          obtain ⟨i, rfl, h1, hi, HI, hB⟩ := hrel
          by_cases hlt : i < n
          · have hdi : decide ((i : Int) < (n : Int)) = true := by simp; omega
            have hii : (i : Int) < (n : Int) := by omega
            obtain ⟨p, rfl⟩ : ∃ p, i = p + 1 := ⟨i - 1, by omega⟩
            obtain ⟨b1, o1, rfl, c1⟩ := HA.out wr hB (p + 1) hlt
            obtain ⟨b2, o2, e2, c2⟩ := HA.out wr hB p (by omega)
            cases e2
            obtain ⟨x, hx⟩ : ∃ x, Hid (l.getD (p + 1) 0 = x) := ⟨_, rfl⟩
            obtain ⟨y, hy⟩ : ∃ y, Hid (l.getD p 0 = y) := ⟨_, rfl⟩
            rw [hx.out] at c1
            rw [hy.out] at c2
            have hpw : IntKind.i64.wrap (p : Int) = (p : Int) := IntWalk.i64_in _ (by omega)
            have hpn : (p : Int) < (n : Int) := by omega
            have hpn1 : (p : Int) + 1 < (n : Int) := by omega
            have hp0 : ¬ ((p : Int) + 1 < 0) := by omega
            have hp00 : (0 : Int) ≤ (p : Int) + 1 := by omega
            have eo : o1 + (p + 1) = o1 + p + 1 := rfl
            by_cases hle : x ≤ y
            · have hd1 : decide (x ≤ y) = true := by simpa using hle
              have HZ : Hid (z = 2) := HF2.out HI3.out (p + 1) h1 hlt (by rw [Nat.add_sub_cancel, hx.out, hy.out]; exact hle)
              clear eo
              go_wp2
              go_quiet (fail)
              go_wp2
              go_ret
              exact ⟨by rw [HZ.out]; rfl, bdrewN hB _⟩
            · have hd1 : decide (x ≤ y) = false := by simpa using hle
              have HI4 : Hid (∀ j, 1 ≤ j → j < p + 1 + 1 → l.getD (j - 1) 0 < l.getD j 0) := fun j h2 hj => by
                by_cases e : j = p + 1
                · rw [e, Nat.add_sub_cancel, hx.out, hy.out]; omega
                · exact HI.out j h2 (by omega)
              clear HI eo
              go_wp2
              go_quiet (fail)
              go_wp2
              go_roundw
              case rel => exact ⟨p + 1 + 1, by go_num, by omega, by omega, HI4, bdrewN hB _⟩
              case measure => simp [intOf]; omega
          · have hdi : decide ((i : Int) < (n : Int)) = false := by simp; omega
            have HZ : Hid (z = 0) := HG2.out HI3.out fun j h2 hj => HI.out j h2 (by omega)
            go_wp2
            go_ret
            exact ⟨by rw [HZ.out]; rfl, hB⟩
set_option maxRecDepth 100000 in
set_option maxHeartbeats 4000000 in
theorem FamilyFault_any (n : Int) (l : List Int) (v : Value) (w : World) (hv : Sl w v l) (hl : l.length ≤ maxLen) :
    Calls Try.prog 15 #[.int .i64 n, v] w fun e w' => e = .returned (.int .i64 (fmF n l : Int)) ∧ Below w.heap.size w w' := by
  by_cases h1 : n < 0
  · have e1 : fmF n l = 1 := by unfold fmF; rw [if_pos (.inl h1)]
    have hd1 : decide (n < 0) = true := by simpa using h1
    obtain ⟨a, c, rfl, -⟩ := hv
    rw [e1]
    clear h1
    go_enter Try.func15, Try.ntmps15
    go_wp2
    go_ret
    exact ⟨rfl, Below.refl _ _⟩
  by_cases h2 : 12 < n
  · have e1 : fmF n l = 1 := by unfold fmF; rw [if_pos (.inr h2)]
    have hd1 : decide (n < 0) = false := by simpa using h1
    have hd2 : decide (12 < n) = true := by simpa using h2
    obtain ⟨a, c, rfl, -⟩ := hv
    rw [e1]
    clear h1 h2
    go_enter Try.func15, Try.ntmps15
    go_wp2
    go_ret
    exact ⟨rfl, Below.refl _ _⟩
  obtain ⟨m, rfl⟩ : ∃ m : Nat, n = m := ⟨n.toNat, by omega⟩
  have e1 : fmF m l = riF 4096 ((2 ^ m : Nat) : Int) l := by unfold fmF; rw [if_neg (by omega), Int.toNat_natCast]
  rw [e1]
  exact family_in m (2 ^ m) (by omega) rfl l v w hv hl
end Go.Proofs.Ytmogmkdcplgfjaa
