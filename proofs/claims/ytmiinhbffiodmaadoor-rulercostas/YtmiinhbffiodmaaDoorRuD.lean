/- No Golomb ruler is shorter; nothing of the program. -/
import Derived.Test.YtmiinhbffiodmaaDoorDfP
/- Rulers: all differences, all sums unlike; nothing of the program. -/
namespace Go.Proofs.YtmiinhbffiodmaaDoor

/-- What comes of all pairs, as they come: of each with those behind it. -/
def prL (f : Nat → Nat → Int) (n : Nat) : List Int := (List.range n).flatMap fun i => (List.range i).map fun j => f i j
/-- The same, up to the j-th of the i-th. -/
def prP (f : Nat → Nat → Int) (i j : Nat) : List Int := prL f i ++ (List.range j).map fun k => f i k
theorem prP_zero (f : Nat → Nat → Int) (i : Nat) : prP f i 0 = prL f i := by simp [prP]
theorem prP_next (f : Nat → Nat → Int) (i j : Nat) : prP f i (j + 1) = prP f i j ++ [f i j] := by
  unfold prP
  rw [List.range_succ, List.map_append, List.append_assoc]
  rfl
theorem prP_row (f : Nat → Nat → Int) (i : Nat) : prP f i i = prP f (i + 1) 0 := by
  rw [prP_zero]
  unfold prP prL
  rw [List.range_succ, List.flatMap_append]
  simp
theorem prL_len (f : Nat → Nat → Int) : ∀ n, (prL f n).length ≤ n * n
  | 0 => by simp [prL]
  | n + 1 => by
    have h := prL_len f n
    rw [← prP_zero, ← prP_row]
    unfold prP
    rw [List.length_append, List.length_map, List.length_range]
    have : (n + 1) * (n + 1) = n * n + 2 * n + 1 := by rw [Nat.add_mul, Nat.mul_add]; omega
    omega
theorem prL_mem {f : Nat → Nat → Int} {n : Nat} {x : Int} : x ∈ prL f n ↔ ∃ i j, j < i ∧ i < n ∧ f i j = x := by
  unfold prL
  rw [List.mem_flatMap]
  constructor
  · rintro ⟨i, hi, hx⟩
    obtain ⟨j, hj, rfl⟩ := List.mem_map.1 hx
    exact ⟨i, j, List.mem_range.1 hj, List.mem_range.1 hi, rfl⟩
  · rintro ⟨i, j, hj, hi, rfl⟩
    exact ⟨i, List.mem_range.2 hi, List.mem_map.2 ⟨j, List.mem_range.2 hj, rfl⟩⟩
/-- Unlike: no two pairs have the same. -/
def Unl (f : Nat → Nat → Int) (n : Nat) : Prop := ∀ i j k m, j < i → i < n → m < k → k < n → f i j = f k m → i = k ∧ j = m
theorem prL_nodup {f : Nat → Nat → Int} : ∀ {n : Nat}, (prL f n).Nodup ↔ Unl f n
  | 0 => ⟨fun _ i j k m h1 h2 => by omega, fun _ => by simp [prL]⟩
  | n + 1 => by
    rw [← prP_zero, ← prP_row]
    unfold prP
    rw [List.nodup_append, prL_nodup (n := n)]
    constructor
    · rintro ⟨h1, h2, h3⟩ i j k m hj hi hm hk e
      have hinj : ∀ a b, a < n → b < n → f n a = f n b → a = b := fun a b ha hb e => by
        rw [List.nodup_iff_pairwise_ne, List.pairwise_map] at h2
        have h2' := List.pairwise_iff_getElem.1 h2
        rcases Nat.lt_trichotomy a b with h | h | h
        · exact absurd e (by have := h2' a b (by simpa using ha) (by simpa using hb) h; rwa [List.getElem_range, List.getElem_range] at this)
        · exact h
        · exact absurd e.symm (by have := h2' b a (by simpa using hb) (by simpa using ha) h; rwa [List.getElem_range, List.getElem_range] at this)
      by_cases e1 : i = n
      · by_cases e2 : k = n
        · subst e1
          subst e2
          exact ⟨rfl, hinj j m hj hm e⟩
        · subst e1
          exact absurd e.symm (h3 (f k m) (prL_mem.2 ⟨k, m, hm, by omega, rfl⟩) (f i j) (List.mem_map.2 ⟨j, List.mem_range.2 hj, rfl⟩))
      · by_cases e2 : k = n
        · subst e2
          exact absurd e (h3 (f i j) (prL_mem.2 ⟨i, j, hj, by omega, rfl⟩) (f k m) (List.mem_map.2 ⟨m, List.mem_range.2 hm, rfl⟩))
        · exact h1 i j k m hj (by omega) hm (by omega) e
    · intro h
      refine ⟨fun i j k m hj hi hm hk e => h i j k m hj (by omega) hm (by omega) e, ?_, ?_⟩
      · rw [List.nodup_iff_pairwise_ne, List.pairwise_map]
        refine List.Pairwise.imp_of_mem (R := fun a b => a ≠ b) (fun {a b} ha hb hne e => ?_) List.nodup_range
        exact hne (h n a n b (List.mem_range.1 ha) (by omega) (List.mem_range.1 hb) (by omega) e).2
      · intro x hx y hy e
        obtain ⟨k, m, hm, hk, rfl⟩ := prL_mem.1 hx
        obtain ⟨j, hj, rfl⟩ := List.mem_map.1 hy
        have := (h k m n j hm (by omega) (List.mem_range.1 hj) (by omega) e).1
        omega
/-- A Golomb ruler: all differences are unlike. -/
def gdF (l : List Nat) (i j : Nat) : Int := (l.getD i 0 : Int) - (l.getD j 0 : Int)
def golB (l : List Nat) : Bool := decide ((prL (gdF l) l.length).Nodup)
theorem golB_iff {l : List Nat} : golB l = true ↔ Unl (gdF l) l.length := by
  unfold golB
  rw [decide_eq_true_eq, prL_nodup]
/-- All sums of two unlike, those with itself too: the j-th of the i-th row is the sum with the one ahead. -/
def sdF (v : Nat) (l : List Nat) (i j : Nat) : Int := (((l.getD (i - 1) 0 + l.getD j 0) % v : Nat) : Int)
def sidB (v : Nat) (l : List Nat) : Bool := decide ((prL (sdF v l) (l.length + 1)).Nodup)
theorem sidB_iff {v : Nat} {l : List Nat} : sidB v l = true ↔ Unl (sdF v l) (l.length + 1) := by
  unfold sidB
  rw [decide_eq_true_eq, prL_nodup]
theorem rise_lt {l : List Nat} (h : l.Pairwise (· < ·)) {i j : Nat} (hij : j < i) (hi : i < l.length) : l.getD j 0 < l.getD i 0 := by
  rw [List.getD_eq_getElem?_getD, List.getD_eq_getElem?_getD, List.getElem?_eq_getElem hi, List.getElem?_eq_getElem (by omega : j < l.length)]
  exact List.pairwise_iff_getElem.1 h j i (by omega) hi hij
theorem rise_inj {l : List Nat} (h : l.Pairwise (· < ·)) {i j : Nat} (hj : j < l.length) (hi : i < l.length) (e : l.getD j 0 = l.getD i 0) : j = i := by
  rcases Nat.lt_trichotomy i j with hlt | hlt | hlt
  · have := rise_lt h hlt hj; omega
  · exact hlt.symm
  · have := rise_lt h hlt hi; omega
theorem rise_le {l : List Nat} (h : l.Pairwise (· < ·)) {i j : Nat} (hij : j ≤ i) (hi : i < l.length) : l.getD j 0 ≤ l.getD i 0 := by
  by_cases e : j = i
  · rw [e]; exact Nat.le_refl _
  · exact Nat.le_of_lt (rise_lt h (by omega) hi)
/-- On a ring of more than twice its length a ruler's sums are unlike where its differences are. -/
theorem gol_sid {v : Nat} {l : List Nat} (h : l.Pairwise (· < ·)) (hv : ∀ x ∈ l, 2 * x < v) : golB l = sidB v l := by
  have hat : ∀ i, i < l.length → 2 * l.getD i 0 < v := fun i hi => by
    rw [List.getD_eq_getElem?_getD, List.getElem?_eq_getElem hi]; exact hv _ (List.getElem_mem hi)
  rw [Bool.eq_iff_iff, golB_iff, sidB_iff]
  constructor
  · intro hg i j k m hj hi hm hk e
    obtain ⟨a, rfl⟩ : ∃ a, i = a + 1 := ⟨i - 1, by omega⟩
    obtain ⟨c, rfl⟩ : ∃ c, k = c + 1 := ⟨k - 1, by omega⟩
    unfold sdF at e
    rw [Nat.add_sub_cancel, Nat.add_sub_cancel] at e
    have h1 := hat a (by omega)
    have h2 := hat j (by omega)
    have h3 := hat c (by omega)
    have h4 := hat m (by omega)
    rw [Nat.mod_eq_of_lt (by omega), Nat.mod_eq_of_lt (by omega)] at e
    have e' : l.getD a 0 + l.getD j 0 = l.getD c 0 + l.getD m 0 := by omega
    rcases Nat.lt_trichotomy a c with hlt | hlt | hlt
    · have q1 := rise_lt h hlt (by omega)
      have q2 : m < j := by
        rcases Nat.lt_or_ge m j with q | q
        · exact q
        · have := rise_le h q (by omega); omega
      have := hg c a j m hlt (by omega) q2 (by omega) (by unfold gdF; omega)
      omega
    · subst hlt
      have : j = m := rise_inj h (by omega) (by omega) (by omega)
      exact ⟨rfl, this⟩
    · have q1 := rise_lt h hlt (by omega)
      have q2 : j < m := by
        rcases Nat.lt_or_ge j m with q | q
        · exact q
        · have := rise_le h q (by omega); omega
      have := hg a c m j hlt (by omega) q2 (by omega) (by unfold gdF; omega)
      omega
  · intro hs i j k m hj hi hm hk e
    unfold gdF at e
    have h1 := hat i (by omega)
    have h2 := hat j (by omega)
    have h3 := hat k (by omega)
    have h4 := hat m (by omega)
    have e' : l.getD i 0 + l.getD m 0 = l.getD k 0 + l.getD j 0 := by omega
    have key : ∀ a b c d, b ≤ a → d ≤ c → a < l.length → c < l.length → l.getD a 0 + l.getD b 0 = l.getD c 0 + l.getD d 0 → a = c ∧ b = d := fun a b c d hb hd ha hc e => by
      have := hs (a + 1) b (c + 1) d (by omega) (by omega) (by omega) (by omega) (by unfold sdF; rw [Nat.add_sub_cancel, Nat.add_sub_cancel, e])
      omega
    rcases Nat.le_total m i with q1 | q1 <;> rcases Nat.le_total j k with q2 | q2
    · obtain ⟨r1, r2⟩ := key i m k j q1 q2 (by omega) (by omega) e'
      exact ⟨r1, r2.symm⟩
    · obtain ⟨r1, r2⟩ := key i m j k q1 q2 (by omega) (by omega) (by omega)
      omega
    · obtain ⟨r1, r2⟩ := key m i k j q1 q2 (by omega) (by omega) (by omega)
      omega
    · obtain ⟨r1, r2⟩ := key m i j k q1 q2 (by omega) (by omega) (by omega)
      omega

end Go.Proofs.YtmiinhbffiodmaaDoor

/- No Golomb ruler is shorter: a search over sets as bits, which the kernel makes; nothing of the program. -/
namespace Go.Proofs.YtmiinhbffiodmaaDoor

/-- Can r marks more be laid, none further on than 'room', where B has how far behind the marks lie and ds what differences there are? -/
def srch : Nat → Nat → Nat → Nat → Bool
  | 0, _, _, _ => true
  | r + 1, room, B, ds => (List.range room).any fun d => (Nat.land (Nat.shiftLeft B (d + 1)) ds == 0) && srch r (room - (d + 1)) (Nat.lor (Nat.shiftLeft B (d + 1)) 1) (Nat.lor (Nat.shiftLeft B (d + 1)) ds)
theorem srch2 : srch 1 0 1 0 = false := by decide +kernel
theorem srch3 : srch 2 2 1 0 = false := by decide +kernel
theorem srch4 : srch 3 5 1 0 = false := by decide +kernel
theorem srch5 : srch 4 10 1 0 = false := by decide +kernel
theorem srch6 : srch 5 16 1 0 = false := by decide +kernel
theorem srch7 : srch 6 24 1 0 = false := by decide +kernel

end Go.Proofs.YtmiinhbffiodmaaDoor

namespace Go.Proofs.YtmiinhbffiodmaaDoor

theorem tb_shl {x i j : Nat} (h : (Nat.shiftLeft x i).testBit j = true) : i ≤ j ∧ x.testBit (j - i) = true := by
  have h' : (x <<< i).testBit j = true := h
  rw [Nat.testBit_shiftLeft, Bool.and_eq_true, decide_eq_true_eq] at h'
  exact h'
theorem tb_or {x y j : Nat} (h : (Nat.lor x y).testBit j = true) : x.testBit j = true ∨ y.testBit j = true := by
  have h' : (x ||| y).testBit j = true := h
  rwa [Nat.testBit_or, Bool.or_eq_true] at h'
theorem tb_one {j : Nat} (h : (1 : Nat).testBit j = true) : j = 0 := by
  rcases Nat.eq_zero_or_pos j with e | e
  · exact e
  · obtain ⟨k, rfl⟩ : ∃ k, j = k + 1 := ⟨j - 1, by omega⟩
    rw [Nat.testBit_succ] at h
    simp at h
theorem srch_sound {l : List Nat} (hr : l.Pairwise (· < ·)) (hg : Unl (gdF l) l.length) : ∀ (r i room B ds : Nat), i + r + 1 = l.length → l.getD (l.length - 1) 0 - l.getD i 0 ≤ room →
    (∀ d, B.testBit d = true → ∃ j, j ≤ i ∧ l.getD i 0 - l.getD j 0 = d) → (∀ d, ds.testBit d = true → ∃ k j, j < k ∧ k ≤ i ∧ l.getD k 0 - l.getD j 0 = d) → srch r room B ds = true
  | 0, _, _, _, _, _, _, _, _ => rfl
  | r + 1, i, room, B, ds, hl, hroom, hB, hds => by
    have h1 := rise_lt hr (show i < i + 1 by omega) (by omega)
    have h2 := rise_le hr (show i + 1 ≤ l.length - 1 by omega) (by omega)
    obtain ⟨d, hd⟩ : ∃ d, l.getD (i + 1) 0 = l.getD i 0 + (d + 1) := ⟨l.getD (i + 1) 0 - l.getD i 0 - 1, by omega⟩
    have hnew : ∀ e, (Nat.shiftLeft B (d + 1)).testBit e = true → ∃ j, j ≤ i ∧ l.getD (i + 1) 0 - l.getD j 0 = e := fun e he => by
      obtain ⟨a, b⟩ := tb_shl he
      obtain ⟨j, hj, ej⟩ := hB _ b
      have := rise_le hr hj (by omega)
      exact ⟨j, hj, by omega⟩
    unfold srch
    rw [List.any_eq_true]
    refine ⟨d, List.mem_range.2 (by omega), ?_⟩
    rw [Bool.and_eq_true]
    refine ⟨?_, srch_sound hr hg r (i + 1) _ _ _ (by omega) (by omega) (fun e he => ?_) (fun e he => ?_)⟩
    · rw [beq_iff_eq]
      refine Nat.eq_of_testBit_eq fun e => ?_
      rw [Nat.zero_testBit]
      show ((Nat.shiftLeft B (d + 1)) &&& ds).testBit e = false
      rw [Nat.testBit_and, Bool.and_eq_false_iff]
      cases c1 : (Nat.shiftLeft B (d + 1)).testBit e
      · exact .inl rfl
      · refine .inr ?_
        cases c2 : ds.testBit e
        · rfl
        · obtain ⟨j, hj, ej⟩ := hnew e c1
          obtain ⟨k, m, hm, hk, ek⟩ := hds e c2
          have q1 := rise_le hr (show j ≤ i + 1 by omega) (by omega)
          have q2 := rise_lt hr hm (by omega)
          have := (hg (i + 1) j k m (by omega) (by omega) hm (by omega) (by unfold gdF; omega)).1
          omega
    · rcases tb_or he with h | h
      · obtain ⟨j, hj, ej⟩ := hnew e h
        exact ⟨j, by omega, ej⟩
      · obtain rfl := tb_one h
        exact ⟨i + 1, Nat.le_refl _, by omega⟩
    · rcases tb_or he with h | h
      · obtain ⟨j, hj, ej⟩ := hnew e h
        exact ⟨i + 1, j, by omega, Nat.le_refl _, ej⟩
      · obtain ⟨k, m, hm, hk, ek⟩ := hds e h
        exact ⟨k, m, hm, by omega, ek⟩
/-- How long the best are, and which the first ones are. -/
def bestL : Nat → List Nat
  | 1 => [0]
  | 2 => [0, 1]
  | 3 => [0, 1, 3]
  | 4 => [0, 1, 4, 6]
  | 5 => [0, 1, 4, 9, 11]
  | 6 => [0, 1, 4, 10, 12, 17]
  | 7 => [0, 1, 4, 10, 18, 23, 25]
  | _ => []
def bestN (n : Nat) : Nat := (bestL n).getD (n - 1) 0
theorem best_none : ∀ n : Fin 8, 2 ≤ n.val → srch (n.val - 1) (bestN n.val - 1) 1 0 = false := by
  intro n h
  match n, h with
  | ⟨2, _⟩, _ => exact srch2
  | ⟨3, _⟩, _ => exact srch3
  | ⟨4, _⟩, _ => exact srch4
  | ⟨5, _⟩, _ => exact srch5
  | ⟨6, _⟩, _ => exact srch6
  | ⟨7, _⟩, _ => exact srch7
/-- No Golomb ruler of as many marks is shorter. -/
theorem best_short {l : List Nat} (hr : l.Pairwise (· < ·)) (h0 : l.getD 0 0 = 0) (hg : golB l = true) (h1 : 1 ≤ l.length) (h7 : l.length ≤ 7) : bestN l.length ≤ l.getD (l.length - 1) 0 := by
  by_cases e : l.length = 1
  · rw [e]; exact Nat.zero_le _
  · apply Classical.byContradiction
    intro hn
    have hs := srch_sound hr (golB_iff.1 hg) (l.length - 1) 0 (bestN l.length - 1) 1 0 (by omega) (by omega) (fun d hd => ⟨0, Nat.le_refl _, by rw [tb_one hd]; omega⟩) (fun d hd => by rw [Nat.zero_testBit] at hd; cases hd)
    have := best_none ⟨l.length, by omega⟩ (by show 2 ≤ l.length; omega)
    rw [hs] at this
    cases this
theorem best_gol : ∀ n : Fin 8, 1 ≤ n.val → golB (bestL n.val) = true ∧ (bestL n.val).length = n.val ∧ (bestL n.val).Pairwise (· < ·) ∧ (bestL n.val).getD 0 0 = 0 := by decide +kernel

end Go.Proofs.YtmiinhbffiodmaaDoor
