/- Words in which all stands: always the least that is new. -/
import Derived.RowKit
namespace Go.Proofs.YtcjkcgfohmhbcabDoor

/-- The first number from x on whose list was not there; k if there is none. -/
def frX (k all code seen : Nat) : Nat → Nat → Nat
  | 0, x => x
  | j + 1, x => match Nat.beq (Nat.mod (Nat.shiftRight seen (Nat.mod (Nat.add (Nat.mul code k) x) all)) 2) 0 with
    | true => x
    | false => frX k all code seen j (Nat.succ x)
/-- Does each step find one, and is the end the beginning? -/
def chB (k all : Nat) : Nat → Nat → Nat → Bool
  | 0, code, _ => Nat.beq (Nat.succ code) all
  | i + 1, code, seen => match frX k all code seen k 0 with
    | x => match Nat.ble (Nat.succ x) k with
      | false => false
      | true => match Nat.mod (Nat.add (Nat.mul code k) x) all with
        | c => chB k all i c (Nat.lor seen (Nat.shiftLeft 1 c))
/-- The word itself. -/
def bru (k all : Nat) : Nat → Nat → Nat → List Nat
  | 0, _, _ => []
  | i + 1, code, seen => if frX k all code seen k 0 < k then frX k all code seen k 0 :: bru k all i ((code * k + frX k all code seen k 0) % all) (seen ||| 1 <<< ((code * k + frX k all code seen k 0) % all)) else bru k all i code seen
theorem chB_step (k all i code seen : Nat) : chB k all (i + 1) code seen = (decide (frX k all code seen k 0 < k) && chB k all i ((code * k + frX k all code seen k 0) % all) (seen ||| 1 <<< ((code * k + frX k all code seen k 0) % all))) := by
  show (match Nat.ble (Nat.succ (frX k all code seen k 0)) k with
      | false => false
      | true => chB k all i ((code * k + frX k all code seen k 0) % all) (seen ||| 1 <<< ((code * k + frX k all code seen k 0) % all))) = _
  cases h : Nat.ble (Nat.succ (frX k all code seen k 0)) k with
  | false =>
    have : ¬ frX k all code seen k 0 < k := fun hh => by
      have := Nat.ble_eq_true_of_le (Nat.succ_le_of_lt hh)
      rw [h] at this
      cases this
    simp [this]
  | true =>
    have : frX k all code seen k 0 < k := Nat.le_of_ble_eq_true h
    simp [this]
theorem bit_beq (seen c : Nat) : Nat.beq (Nat.mod (Nat.shiftRight seen c) 2) 0 = !seen.testBit c := by
  have e : Nat.mod (Nat.shiftRight seen c) 2 = (seen >>> c) % 2 := rfl
  rw [e]
  have h : seen.testBit c = ((seen >>> c) % 2 == 1) := by
    rw [Nat.testBit_eq_decide_div_mod_eq, Nat.shiftRight_eq_div_pow]
    rfl
  rw [h]
  rcases Nat.mod_two_eq_zero_or_one (seen >>> c) with e | e <;> rw [e] <;> rfl
theorem frX_is (k all code seen : Nat) : ∀ j x, x ≤ frX k all code seen j x ∧ frX k all code seen j x ≤ x + j ∧ (∀ y, x ≤ y → y < frX k all code seen j x → seen.testBit ((code * k + y) % all) = true) ∧ (frX k all code seen j x < x + j → seen.testBit ((code * k + frX k all code seen j x) % all) = false)
  | 0, x => ⟨Nat.le_refl _, Nat.le_refl _, fun y h1 h2 => absurd h2 (by show ¬ y < x; omega), fun h => absurd h (by show ¬ x < x + 0; omega)⟩
  | j + 1, x => by
    have e : frX k all code seen (j + 1) x = match Nat.beq (Nat.mod (Nat.shiftRight seen ((code * k + x) % all)) 2) 0 with
      | true => x
      | false => frX k all code seen j (x + 1) := rfl
    rw [bit_beq] at e
    obtain ⟨h1, h2, h3, h4⟩ := frX_is k all code seen j (x + 1)
    cases hb : seen.testBit ((code * k + x) % all) with
    | false =>
      rw [hb] at e
      rw [show frX k all code seen (j + 1) x = x from e]
      exact ⟨Nat.le_refl _, by omega, fun y a b => by omega, fun _ => hb⟩
    | true =>
      rw [hb] at e
      rw [show frX k all code seen (j + 1) x = frX k all code seen j (x + 1) from e]
      refine ⟨by omega, by omega, fun y a b => ?_, fun h => h4 (by omega)⟩
      by_cases hy : y = x
      · rw [hy]; exact hb
      · exact h3 y (by omega) b
/-- The codes that a word goes through. -/
def cdL (k all : Nat) : Nat → List Nat → List Nat
  | _, [] => []
  | c, x :: l => ((c * k + x) % all) :: cdL k all ((c * k + x) % all) l
/-- Where it ends. -/
def cdE (k all : Nat) : Nat → List Nat → Nat
  | c, [] => c
  | c, x :: l => cdE k all ((c * k + x) % all) l
theorem bru_good (k all : Nat) : ∀ i code seen, chB k all i code seen = true → (bru k all i code seen).length = i ∧ (∀ x ∈ bru k all i code seen, x < k) ∧ cdE k all code (bru k all i code seen) + 1 = all ∧ (∀ c ∈ cdL k all code (bru k all i code seen), seen.testBit c = false) ∧ (cdL k all code (bru k all i code seen)).Nodup
  | 0, code, seen, h => by
    have h0 : code + 1 = all := Nat.eq_of_beq_eq_true h
    have e : bru k all 0 code seen = [] := rfl
    rw [e]
    exact ⟨rfl, fun x hx => absurd hx List.not_mem_nil, h0, fun c hc => absurd hc List.not_mem_nil, List.nodup_nil⟩
  | i + 1, code, seen, h => by
    rw [chB_step, Bool.and_eq_true] at h
    obtain ⟨h1, h2⟩ := h
    have hk : frX k all code seen k 0 < k := of_decide_eq_true h1
    have hf := (frX_is k all code seen k 0).2.2.2 (by omega)
    have e : bru k all (i + 1) code seen = frX k all code seen k 0 :: bru k all i ((code * k + frX k all code seen k 0) % all) (seen ||| 1 <<< ((code * k + frX k all code seen k 0) % all)) := by
      rw [bru, if_pos hk]
    rw [e]
    generalize frX k all code seen k 0 = x at *
    have ec : ∀ l, cdL k all code (x :: l) = ((code * k + x) % all) :: cdL k all ((code * k + x) % all) l := fun l => rfl
    have ee : ∀ l, cdE k all code (x :: l) = cdE k all ((code * k + x) % all) l := fun l => rfl
    rw [ec, ee]
    generalize (code * k + x) % all = c at *
    obtain ⟨g1, g2, g3, g4, g5⟩ := bru_good k all i c (seen ||| 1 <<< c) h2
    have g4' : ∀ d ∈ cdL k all c (bru k all i c (seen ||| 1 <<< c)), seen.testBit d = false ∧ d ≠ c := fun d hd => by
      have h := g4 d hd
      rw [Nat.testBit_or, Bool.or_eq_false_iff] at h
      refine ⟨h.1, fun e => ?_⟩
      have h3 := h.2
      rw [e, Nat.testBit_shiftLeft] at h3
      simp at h3
    refine ⟨by rw [List.length_cons, g1], fun y hy => ?_, g3, fun d hd => ?_, List.nodup_cons.2 ⟨fun hm => (g4' c hm).2 rfl, g5⟩⟩
    · rcases List.mem_cons.1 hy with rfl | hy
      · exact hk
      · exact g2 y hy
    · rcases List.mem_cons.1 hd with rfl | hd
      · exact hf
      · exact (g4' d hd).1
set_option maxRecDepth 100000 in
theorem chB_all : (List.range 10).all (fun k => (List.range 12).all fun n => decide (4096 < (k + 1) ^ (n + 1)) || chB (k + 1) ((k + 1) ^ (n + 1)) ((k + 1) ^ (n + 1)) ((k + 1) ^ (n + 1) - 1) 0) = true := by decide +kernel
theorem chB_at {k n : Nat} (hk : 1 ≤ k) (hk9 : k ≤ 10) (hn : 1 ≤ n) (hn9 : n ≤ 12) (h : k ^ n ≤ 4096) : chB k (k ^ n) (k ^ n) (k ^ n - 1) 0 = true := by
  have a := List.all_eq_true.1 (List.all_eq_true.1 chB_all (k - 1) (List.mem_range.2 (by omega))) (n - 1) (List.mem_range.2 (by omega))
  rw [show k - 1 + 1 = k by omega, show n - 1 + 1 = n by omega, Bool.or_eq_true] at a
  rcases a with a | a
  · have := of_decide_eq_true a; omega
  · exact a
/-- The code of the n numbers from place i on, read round. -/
def wnD (k all : Nat) (l : List Nat) (i : Nat) : Nat → Nat
  | 0 => 0
  | n + 1 => wnD k all l i n * k + l.getD ((i + n) % all) 0
/-- The code after t steps, going round. -/
def cdN (k all : Nat) (l : List Nat) (s : Nat) : Nat → Nat
  | 0 => s
  | t + 1 => (cdN k all l s t * k + l.getD (t % all) 0) % all
theorem wnD_lt {k all : Nat} {l : List Nat} (hl : ∀ j, l.getD j 0 < k) (i : Nat) : ∀ n, wnD k all l i n < k ^ n
  | 0 => by show 0 < 1; omega
  | n + 1 => by
    have h1 := wnD_lt (all := all) hl i n
    have h2 := hl ((i + n) % all)
    show wnD k all l i n * k + l.getD ((i + n) % all) 0 < k ^ n * k
    have h3 : (wnD k all l i n + 1) * k ≤ k ^ n * k := Nat.mul_le_mul_right k h1
    rw [Nat.succ_mul] at h3
    omega
theorem cdN_wnD {k all : Nat} {l : List Nat} {s : Nat} (i : Nat) : ∀ n, cdN k all l s (i + n) % all = (cdN k all l s i * k ^ n + wnD k all l i n) % all
  | 0 => by show cdN k all l s i % all = (cdN k all l s i * 1 + 0) % all; rw [Nat.mul_one]; rfl
  | n + 1 => by
    show (cdN k all l s (i + n) * k + l.getD ((i + n) % all) 0) % all % all = (cdN k all l s i * (k ^ n * k) + (wnD k all l i n * k + l.getD ((i + n) % all) 0)) % all
    rw [Nat.mod_mod, Nat.add_mod, Nat.mul_mod, cdN_wnD i n, ← Nat.mul_mod, ← Nat.add_mod, Nat.add_mul, Nat.mul_assoc, Nat.add_assoc]
theorem cdN_lt {k all : Nat} {l : List Nat} {s : Nat} (hs : s < all) : ∀ t, cdN k all l s t < all
  | 0 => hs
  | t + 1 => Nat.mod_lt _ (by omega)
theorem win_is {k n : Nat} {l : List Nat} {s : Nat} (hl : ∀ j, l.getD j 0 < k) (hs : s < k ^ n) (i : Nat) : wnD k (k ^ n) l i n = cdN k (k ^ n) l s (i + n) := by
  have h := cdN_wnD (k := k) (all := k ^ n) (l := l) (s := s) i n
  rw [Nat.mod_eq_of_lt (cdN_lt hs _), Nat.mul_add_mod_self_right, Nat.mod_eq_of_lt (wnD_lt hl i n)] at h
  exact h.symm
theorem cdE_cdN (k all : Nat) (l : List Nat) (s : Nat) : ∀ (m : List Nat) (t : Nat), l.drop t = m → l.length = all → t ≤ all → cdE k all (cdN k all l s t) m = cdN k all l s all ∧ ∀ j, j < m.length → (cdL k all (cdN k all l s t) m)[j]? = some (cdN k all l s (t + j + 1))
  | [], t, h, hl, hta => by
    have h1 : l.length ≤ t := List.drop_eq_nil_iff.1 h
    obtain rfl : t = all := by omega
    exact ⟨rfl, fun j hj => absurd hj (Nat.not_lt_zero j)⟩
  | x :: m, t, h, hl, hta => by
    have ht : t < l.length := by
      rcases Nat.lt_or_ge t l.length with k | k
      · exact k
      · rw [List.drop_eq_nil_iff.2 k] at h; cases h
    have hx : l.getD t 0 = x := by
      rw [List.getD_eq_getElem?_getD, ← Nat.add_zero t, ← List.getElem?_drop, h]
      rfl
    have hm : l.drop (t + 1) = m := by
      rw [← List.drop_drop, h]
      rfl
    have e : cdN k all l s (t + 1) = (cdN k all l s t * k + x) % all := by
      have htm : t % all = t := Nat.mod_eq_of_lt (by omega)
      show (cdN k all l s t * k + l.getD (t % all) 0) % all = _
      rw [htm, hx]
    obtain ⟨h1, h2⟩ := cdE_cdN k all l s m (t + 1) hm hl (by omega)
    rw [e] at h1 h2
    refine ⟨h1, fun j hj => ?_⟩
    cases j with
    | zero => rw [show t + 0 + 1 = t + 1 by omega, e]; rfl
    | succ j =>
      have := h2 j (by simp at hj; omega)
      rw [show t + (j + 1) + 1 = t + 1 + j + 1 by omega, ← this]
      rfl
theorem cdN_round {k all : Nat} {l : List Nat} {s : Nat} (h0 : 0 < all) (h : cdN k all l s all = s) : ∀ t, cdN k all l s t = cdN k all l s (t % all)
  | 0 => by rw [Nat.zero_mod]
  | t + 1 => by
    have e : cdN k all l s (t + 1) = cdN k all l s (t % all + 1) := by
      show (cdN k all l s t * k + l.getD (t % all) 0) % all = (cdN k all l s (t % all) * k + l.getD (t % all % all) 0) % all
      rw [Nat.mod_mod, ← cdN_round h0 h t]
    rw [e]
    have hlt := Nat.mod_lt t h0
    rcases Nat.lt_or_ge (t % all + 1) all with hh | hh
    · have e1 : (t + 1) % all = t % all + 1 := by
        rw [Nat.add_mod]
        rcases Nat.lt_or_ge 1 all with h1 | h1
        · rw [Nat.mod_eq_of_lt h1, Nat.mod_eq_of_lt hh]
        · omega
      rw [e1]
    · have e2 : t % all + 1 = all := by omega
      have e1 : (t + 1) % all = 0 := by
        have := Nat.div_add_mod t all
        rw [show t + 1 = all * (t / all) + (t % all + 1) by omega, e2, Nat.mul_add_mod_self_left, Nat.mod_self]
      rw [e1, e2, h]
      rfl
/-- In that word each list stands once, read round. -/
theorem bru_once {k n : Nat} (hk : 1 ≤ k) (hk9 : k ≤ 10) (hn : 1 ≤ n) (hn9 : n ≤ 12) (h : k ^ n ≤ 4096) {l : List Nat} (hL : l = bru k (k ^ n) (k ^ n) (k ^ n - 1) 0) :
    l.length = k ^ n ∧ (∀ x ∈ l, x < k) ∧ (∀ i, wnD k (k ^ n) l i n < k ^ n) ∧ ∀ i j, i < k ^ n → j < k ^ n → wnD k (k ^ n) l i n = wnD k (k ^ n) l j n → i = j := by
  have h0 : 0 < k ^ n := Nat.pow_pos (by omega)
  obtain ⟨g1, g2, g3, _, g5⟩ := bru_good k (k ^ n) (k ^ n) (k ^ n - 1) 0 (chB_at hk hk9 hn hn9 h)
  rw [← hL] at g1 g2 g3 g5
  have hl : ∀ j, l.getD j 0 < k := fun j => by
    rw [List.getD_eq_getElem?_getD]
    rcases Nat.lt_or_ge j l.length with hh | hh
    · rw [List.getElem?_eq_getElem hh]; exact g2 _ (List.getElem_mem hh)
    · rw [List.getElem?_eq_none hh]; exact hk
  have hs : k ^ n - 1 < k ^ n := by omega
  obtain ⟨e1, e2⟩ := cdE_cdN k (k ^ n) l (k ^ n - 1) l 0 rfl g1 (Nat.zero_le _)
  have e1 : cdE k (k ^ n) (k ^ n - 1) l = cdN k (k ^ n) l (k ^ n - 1) (k ^ n) := e1
  have hE : cdN k (k ^ n) l (k ^ n - 1) (k ^ n) = k ^ n - 1 := by omega
  have key : ∀ i, (cdL k (k ^ n) (k ^ n - 1) l)[(i + n - 1) % k ^ n]? = some (wnD k (k ^ n) l i n) := fun i => by
    have hlt := Nat.mod_lt (i + n - 1) h0
    have := e2 ((i + n - 1) % k ^ n) (by rw [g1]; exact hlt)
    refine this.trans (congrArg some ?_)
    rw [win_is hl hs, Nat.zero_add, show i + n = i + n - 1 + 1 by omega]
    show (cdN k (k ^ n) l (k ^ n - 1) ((i + n - 1 + 1 - 1) % k ^ n) * k + l.getD ((i + n - 1 + 1 - 1) % k ^ n % k ^ n) 0) % k ^ n = (cdN k (k ^ n) l (k ^ n - 1) (i + n - 1) * k + l.getD ((i + n - 1) % k ^ n) 0) % k ^ n
    rw [Nat.add_sub_cancel, Nat.mod_mod, ← cdN_round h0 hE (i + n - 1)]
  refine ⟨g1, g2, fun i => wnD_lt hl i n, fun i j hi hj e => ?_⟩
  have ki := key i
  have kj := key j
  rw [e] at ki
  have hij : (i + n - 1) % k ^ n = (j + n - 1) % k ^ n := by
    obtain ⟨p1, q1⟩ := List.getElem?_eq_some_iff.1 ki
    obtain ⟨p2, q2⟩ := List.getElem?_eq_some_iff.1 kj
    exact (List.getElem_inj g5).1 (q1.trans q2.symm)
  rcases Nat.le_total i j with hle | hle
  · have := Nat.sub_mod_eq_zero_of_mod_eq hij.symm
    rw [show j + n - 1 - (i + n - 1) = j - i by omega, Nat.mod_eq_of_lt (by omega)] at this
    omega
  · have := Nat.sub_mod_eq_zero_of_mod_eq hij
    rw [show i + n - 1 - (j + n - 1) = i - j by omega, Nat.mod_eq_of_lt (by omega)] at this
    omega
end Go.Proofs.YtcjkcgfohmhbcabDoor
