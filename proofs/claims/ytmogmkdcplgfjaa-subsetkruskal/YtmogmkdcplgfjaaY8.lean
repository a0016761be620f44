/- A set with one thing left out: which sets those are, what they mark, and which sets have a set of the family within them. -/
import Derived.Test.YtmogmkdcplgfjaaVA
namespace Go.Proofs.Ytmogmkdcplgfjaa
open Go.RowKit

/-- The things of a set, and what it becomes when one of them is left out. -/
def bt (s : Nat) : List Nat := (List.range 12).filter s.testBit
def lsL (s : Nat) : List Nat := (bt s).map fun u => s - 2 ^ u
def ckG (l : Nat) : Bool := match bt l with
  | [] => l == 0
  | u :: t => decide (bits .and .i64 (l : Int) (-(l : Int)) = ((2 ^ u : Nat) : Int)) && decide (bits .and .i64 (l : Int) ((l - 1 : Nat) : Int) = ((l - 2 ^ u : Nat) : Int)) && bt (l - 2 ^ u) == t
def ckS (s : Nat) : Bool := (bt s).all fun u => decide (bits .andNot .i64 (s : Int) ((2 ^ u : Nat) : Int) = ((s - 2 ^ u : Nat) : Int)) && Nat.ble (2 ^ u) s && (s - 2 ^ u == s ^^^ 2 ^ u)
set_option maxRecDepth 100000 in
theorem ck_all : (List.range 4096).all (fun l => ckG l && ckS l) = true := by decide +kernel
theorem ck_at {l : Nat} (h : l < 4096) : ckG l = true ∧ ckS l = true := by
  have := List.all_eq_true.1 ck_all l (List.mem_range.2 h)
  rwa [Bool.and_eq_true] at this
theorem bt_mem {s u : Nat} : u ∈ bt s ↔ u < 12 ∧ s.testBit u = true := by unfold bt; rw [List.mem_filter, List.mem_range]
theorem bt_len (s : Nat) : (bt s).length ≤ 12 := Nat.le_trans (List.length_filter_le ..) (by rw [List.length_range]; exact Nat.le_refl _)
/-- One round of the program's loop over what is left. -/
theorem bt_off {l u : Nat} {t : List Nat} (h : l < 4096) (e : bt l = u :: t) : bits .and .i64 (l : Int) (-(l : Int)) = ((2 ^ u : Nat) : Int) ∧ bits .and .i64 (l : Int) ((l - 1 : Nat) : Int) = ((l - 2 ^ u : Nat) : Int) ∧ bt (l - 2 ^ u) = t := by
  have := (ck_at h).1
  unfold ckG at this
  rw [e] at this
  simp only [Bool.and_eq_true, decide_eq_true_eq, beq_iff_eq] at this
  exact ⟨this.1.1, this.1.2, this.2⟩
theorem bt_none {l : Nat} (h : l < 4096) (e : bt l = []) : l = 0 := by
  have := (ck_at h).1
  unfold ckG at this
  rw [e] at this
  simpa using this
theorem bt_less {s u : Nat} (h : s < 4096) (e : u ∈ bt s) : bits .andNot .i64 (s : Int) ((2 ^ u : Nat) : Int) = ((s - 2 ^ u : Nat) : Int) ∧ 2 ^ u ≤ s ∧ s - 2 ^ u = s ^^^ 2 ^ u := by
  have := List.all_eq_true.1 (ck_at h).2 u e
  simp only [Bool.and_eq_true, decide_eq_true_eq, beq_iff_eq, Nat.ble_eq] at this
  exact ⟨this.1.1, this.1.2, this.2⟩
theorem ls_mem {s x : Nat} : x ∈ lsL s ↔ ∃ u, u < 12 ∧ s.testBit u = true ∧ s - 2 ^ u = x := by
  unfold lsL
  rw [List.mem_map]
  constructor
  · rintro ⟨u, h, e⟩
    exact ⟨u, (bt_mem.1 h).1, (bt_mem.1 h).2, e⟩
  · rintro ⟨u, h1, h2, e⟩
    exact ⟨u, bt_mem.2 ⟨h1, h2⟩, e⟩
theorem ls_lt {s x : Nat} (h : x ∈ lsL s) (hs : s < 4096) : x < s := by
  obtain ⟨u, h1, h2, rfl⟩ := ls_mem.1 h
  have := (bt_less hs (bt_mem.2 ⟨h1, h2⟩)).2.1
  have : 0 < 2 ^ u := Nat.two_pow_pos u
  omega
/-- Bits of what is left. -/
theorem less_bit {s u : Nat} (hs : s < 4096) (h : u ∈ bt s) (v : Nat) : (s - 2 ^ u).testBit v = (s.testBit v && decide (u ≠ v)) := by
  rw [(bt_less hs h).2.2, Nat.testBit_xor, Nat.testBit_two_pow]
  by_cases e : u = v
  · subst e
    rw [(bt_mem.1 h).2]; simp
  · simp [e]
/-- A set of the family lies within. -/
def hd (M : List Nat) (s : Nat) : Bool := M.any fun t => t &&& s == t
theorem hd_iff {M : List Nat} {s : Nat} : hd M s = true ↔ ∃ t ∈ M, t &&& s = t := by
  unfold hd; rw [List.any_eq_true]; simp
theorem sub_bit {t s : Nat} (h : t &&& s = t) {v : Nat} (hv : t.testBit v = true) : s.testBit v = true := by
  rw [← h, Nat.testBit_and, Bool.and_eq_true] at hv; exact hv.2
theorem sub_of {t s : Nat} (h : ∀ v, t.testBit v = true → s.testBit v = true) : t &&& s = t := by
  refine Nat.eq_of_testBit_eq fun v => ?_
  rw [Nat.testBit_and]
  cases e : t.testBit v with
  | false => rfl
  | true => rw [h v e]; rfl
theorem bit12 {s v : Nat} (hs : s < 4096) (h : s.testBit v = true) : v < 12 := by
  rcases Nat.lt_or_ge v 12 with h1 | h1
  · exact h1
  · rw [Nat.testBit_lt_two_pow (Nat.lt_of_lt_of_le hs (Nat.pow_le_pow_right (by decide) h1 : 2 ^ 12 ≤ 2 ^ v))] at h; cases h
/-- Within, and not all: within what is left when some thing goes. -/
theorem sub_less {t s : Nat} (hs : s < 4096) (h : t &&& s = t) (hne : t ≠ s) : ∃ x ∈ lsL s, t &&& x = t := by
  obtain ⟨v, hv⟩ : ∃ v, t.testBit v ≠ s.testBit v := Classical.byContradiction fun hc => hne (Nat.eq_of_testBit_eq fun v => Classical.byContradiction fun h2 => hc ⟨v, h2⟩)
  have h1 : s.testBit v = true := by
    cases e : s.testBit v with
    | true => rfl
    | false =>
      cases e2 : t.testBit v with
      | false => rw [e, e2] at hv; exact absurd rfl hv
      | true => rw [sub_bit h e2] at e; cases e
  have h2 : t.testBit v = false := by
    cases e : t.testBit v with
    | false => rfl
    | true => rw [h1, e] at hv; exact absurd rfl hv
  have hm : v ∈ bt s := bt_mem.2 ⟨bit12 hs h1, h1⟩
  refine ⟨s - 2 ^ v, ls_mem.2 ⟨v, bit12 hs h1, h1, rfl⟩, sub_of fun z hz => ?_⟩
  rw [less_bit hs hm, sub_bit h hz]
  have : v ≠ z := fun e => by rw [← e, h2] at hz; cases hz
  simp [this]
theorem less_sub {t s x : Nat} (hs : s < 4096) (hx : x ∈ lsL s) (h : t &&& x = t) : t &&& s = t ∧ t < s := by
  obtain ⟨u, h1, h2, rfl⟩ := ls_mem.1 hx
  have hlt := ls_lt hx hs
  refine ⟨sub_of fun z hz => ?_, ?_⟩
  · have := sub_bit h hz
    rw [less_bit hs (bt_mem.2 ⟨h1, h2⟩), Bool.and_eq_true] at this
    exact this.1
  · have : t ≤ s - 2 ^ u := by rw [← h]; exact Nat.and_le_right
    omega
theorem hd_eq {M : List Nat} {s : Nat} (hs : s < 4096) : hd M s = (M.contains s || (lsL s).any (hd M)) := by
  rw [Bool.eq_iff_iff, hd_iff, Bool.or_eq_true, List.contains_iff_mem, List.any_eq_true]
  constructor
  · rintro ⟨t, ht, h⟩
    by_cases e : t = s
    · exact .inl (e ▸ ht)
    · obtain ⟨x, hx, h2⟩ := sub_less hs h e
      exact .inr ⟨x, hx, hd_iff.2 ⟨t, ht, h2⟩⟩
  · rintro (h | ⟨x, hx, h⟩)
    · exact ⟨s, h, Nat.and_self s⟩
    · obtain ⟨t, ht, h2⟩ := hd_iff.1 h
      exact ⟨t, ht, (less_sub hs hx h2).1⟩
/-- What holders has marked: the sets ahead of one are done, that one as far as its rounds go. -/
def hmB (M : List Nat) (S k s : Nat) : Bool := if s < S then hd M s else if s = S then M.contains s || ((lsL S).take k).any (hd M) else M.contains s
theorem hm_zero (M : List Nat) (s : Nat) : hmB M 0 0 s = M.contains s := by
  unfold hmB
  rw [if_neg (Nat.not_lt_zero s)]
  split
  · rw [List.take_zero, List.any_nil, Bool.or_false]
  · rfl
theorem hm_step {M : List Nat} {S k x : Nat} (hS : S < 4096) (h : (lsL S)[k]? = some x) : updV (hmB M S k) S (hmB M S k S || hmB M S k x) = hmB M S (k + 1) := by
  have hx := ls_lt (List.mem_of_getElem? h) hS
  have e : (lsL S).take (k + 1) = (lsL S).take k ++ [x] := by rw [List.take_add_one, h]; rfl
  funext s
  unfold updV hmB
  by_cases e1 : s = S
  · subst e1
    simp only [if_true, Nat.lt_irrefl, if_false, if_pos hx, e, List.any_append, List.any_cons, List.any_nil, Bool.or_false, Bool.or_assoc]
  · simp only [if_neg e1]
theorem hm_next {M : List Nat} {S : Nat} (hS : S < 4096) : hmB M S (lsL S).length = hmB M (S + 1) 0 := by
  funext s
  unfold hmB
  by_cases e1 : s < S
  · rw [if_pos e1, if_pos (by omega)]
  · rw [if_neg e1]
    by_cases e2 : s = S
    · subst e2
      rw [if_pos rfl, if_pos (by omega), List.take_of_length_le (Nat.le_refl _), hd_eq hS]
    · rw [if_neg e2, if_neg (by omega), List.take_zero, List.any_nil, Bool.or_false]
      split <;> rfl
/-- What shadow has marked. -/
def shB (M : List Nat) (i k s : Nat) : Bool := ((List.range i).any fun a => (lsL (M.getD a 0)).contains s) || ((lsL (M.getD i 0)).take k).contains s
theorem sh_zero (M : List Nat) (s : Nat) : shB M 0 0 s = false := by unfold shB; rw [List.take_zero]; rfl
theorem sh_step {M : List Nat} {i k x : Nat} (h : (lsL (M.getD i 0))[k]? = some x) : updV (shB M i k) x true = shB M i (k + 1) := by
  have e : (lsL (M.getD i 0)).take (k + 1) = (lsL (M.getD i 0)).take k ++ [x] := by rw [List.take_add_one, h]; rfl
  funext s
  unfold updV shB
  rw [e, Bool.eq_iff_iff]
  by_cases e1 : s = x
  · simp [e1]
  · rw [if_neg e1]
    simp only [Bool.or_eq_true, List.contains_iff_mem, List.mem_append, List.mem_singleton, e1, or_false]
theorem sh_next (M : List Nat) (i : Nat) : shB M i (lsL (M.getD i 0)).length = shB M (i + 1) 0 := by
  funext s
  unfold shB
  rw [List.take_of_length_le (Nat.le_refl _), List.take_zero, List.range_succ, List.any_append]
  simp only [List.any_cons, List.any_nil, Bool.or_false]
  rw [show ([] : List Nat).contains s = false from rfl, Bool.or_false]
theorem sh_all {n : Nat} {M : List Nat} (hn : n ≤ 12) (h4 : ∀ i, i < M.length → M.getD i 0 < 2 ^ n) : shB M M.length 0 = mkB n M M.length 0 := by
  funext s
  unfold shB mkB
  rw [List.take_zero, List.range_zero, show ([] : List Nat).contains s = false from rfl, List.any_nil, Bool.or_false, Bool.or_false, Bool.eq_iff_iff, List.any_eq_true, List.any_eq_true]
  have key : ∀ a, a ∈ List.range M.length → ((lsL (M.getD a 0)).contains s = true ↔ ((List.range n).any fun u => (M.getD a 0).testBit u && (M.getD a 0 - 2 ^ u == s)) = true) := fun a ha => by
    rw [List.contains_iff_mem, ls_mem, List.any_eq_true]
    constructor
    · rintro ⟨u, h1, h2, h3⟩
      refine ⟨u, List.mem_range.2 ?_, by rw [h2, h3, beq_self_eq_true]; rfl⟩
      rcases Nat.lt_or_ge u n with h | h
      · exact h
      · rw [Nat.testBit_lt_two_pow (Nat.lt_of_lt_of_le (h4 a (List.mem_range.1 ha)) (Nat.pow_le_pow_right (by decide) h))] at h2; cases h2
    · rintro ⟨u, h1, h2⟩
      have h1 := List.mem_range.1 h1
      simp only [Bool.and_eq_true, beq_iff_eq] at h2
      exact ⟨u, by omega, h2.1, h2.2⟩
  exact ⟨fun ⟨a, h1, h2⟩ => ⟨a, h1, (key a h1).1 h2⟩, fun ⟨a, h1, h2⟩ => ⟨a, h1, (key a h1).2 h2⟩⟩
theorem rises_mono {M : List Nat} (h : Rises M) : ∀ {i j : Nat}, j < i → i < M.length → M.getD j 0 < M.getD i 0
  | 0, j, hj, _ => absurd hj (Nat.not_lt_zero j)
  | i + 1, j, hj, hi => by
    have h1 := h (i + 1) (by omega) hi
    rw [Nat.add_sub_cancel] at h1
    rcases Nat.lt_or_ge j i with h2 | h2
    · exact Nat.lt_trans (rises_mono h h2 (by omega)) h1
    · rw [show j = i by omega]; exact h1
theorem mem_at {M : List Nat} {t : Nat} (h : t ∈ M) : ∃ j, j < M.length ∧ M.getD j 0 = t := by
  obtain ⟨j, hj, e⟩ := List.mem_iff_getElem.1 h
  exact ⟨j, hj, by rw [List.getD_eq_getElem?_getD, List.getElem?_eq_getElem hj, e]; rfl⟩
theorem at_mem {M : List Nat} {j : Nat} (h : j < M.length) : M.getD j 0 ∈ M := by
  rw [List.getD_eq_getElem?_getD, List.getElem?_eq_getElem h]; exact List.getElem_mem h
/-- Apart, as the program asks it. -/
theorem apart_no {M : List Nat} (hr : Rises M) (h4 : ∀ i, i < M.length → M.getD i 0 < 4096) {i x : Nat} (hi : i < M.length) (hx : x ∈ lsL (M.getD i 0)) (h : hd M x = true) : twB apP 0 M = false := by
  obtain ⟨t, ht, h1⟩ := hd_iff.1 h
  obtain ⟨h2, h3⟩ := less_sub (h4 i hi) hx h1
  obtain ⟨j, hj, rfl⟩ := mem_at ht
  refine tw_no hi (j := j) ?_ ?_
  · rcases Nat.lt_or_ge j i with h | h
    · omega
    · rcases Nat.lt_or_eq_of_le h with h | h
      · have := rises_mono hr h hj; omega
      · subst h; omega
  · unfold apP
    rw [Nat.and_comm, h2]; simp
theorem apart_yes {M : List Nat} (hr : Rises M) (h4 : ∀ i, i < M.length → M.getD i 0 < 4096) (h : ∀ i, i < M.length → ∀ x, x ∈ lsL (M.getD i 0) → hd M x = false) : twB apP 0 M = true := by
  refine tw_yes fun i hi j hj => ?_
  have hlt := rises_mono hr (show j < i by omega) hi
  unfold apP
  by_cases e1 : M.getD i 0 &&& M.getD j 0 = M.getD i 0
  · have : M.getD i 0 &&& M.getD j 0 ≤ M.getD j 0 := Nat.and_le_right
    omega
  · by_cases e2 : M.getD i 0 &&& M.getD j 0 = M.getD j 0
    · obtain ⟨x, hx, h2⟩ := sub_less (h4 i hi) (by rw [Nat.and_comm]; exact e2) (show M.getD j 0 ≠ M.getD i 0 by omega)
      have := h i hi x hx
      rw [hd_iff.2 ⟨_, at_mem (show j < M.length by omega), h2⟩] at this
      cases this
    · simp only [Bool.not_eq_true', Bool.or_eq_false_iff, beq_eq_false_iff_ne]
      exact ⟨e1, e2⟩
/-- What lies within what a set lacks. -/
theorem lack_iff {n a b : Nat} (ha : a < 2 ^ n) (hb : b < 2 ^ n) : b &&& (2 ^ n - 1 - a) = b ↔ a &&& b = 0 := by
  rw [show 2 ^ n - 1 - a = 2 ^ n - (a + 1) by omega]
  constructor
  · intro h
    refine Nat.eq_of_testBit_eq fun v => ?_
    rw [Nat.zero_testBit, Nat.testBit_and]
    cases e : b.testBit v with
    | false => rw [Bool.and_false]
    | true =>
      have := sub_bit h e
      rw [Nat.testBit_two_pow_sub_succ ha, Bool.and_eq_true] at this
      have h2 := this.2
      cases e2 : a.testBit v with
      | false => rfl
      | true => rw [e2] at h2; cases h2
  · intro h
    refine sub_of fun v hv => ?_
    have h2 := congrArg (fun x => x.testBit v) h
    simp only [Nat.testBit_and, Nat.zero_testBit, hv, Bool.and_true] at h2
    rw [Nat.testBit_two_pow_sub_succ ha, h2]
    have : v < n := by
      rcases Nat.lt_or_ge v n with h | h
      · exact h
      · rw [Nat.testBit_lt_two_pow (Nat.lt_of_lt_of_le hb (Nat.pow_le_pow_right (by decide) h))] at hv; cases hv
    simp [this]
theorem cross_no {n : Nat} {M : List Nat} (h4 : ∀ i, i < M.length → M.getD i 0 < 2 ^ n) {i : Nat} (hi : i < M.length) (h : hd M (2 ^ n - 1 - M.getD i 0) = true) : twB crP 1 M = false := by
  obtain ⟨t, ht, h1⟩ := hd_iff.1 h
  obtain ⟨j, hj, rfl⟩ := mem_at ht
  have h2 := (lack_iff (h4 i hi) (h4 j hj)).1 h1
  rcases Nat.lt_or_ge i j with h | h
  · refine tw_no hj (j := i) (by omega) ?_
    unfold crP
    rw [Nat.and_comm, h2]; rfl
  · refine tw_no hi (j := j) (by omega) ?_
    unfold crP
    rw [h2]; rfl
theorem cross_yes {n : Nat} {M : List Nat} (h4 : ∀ i, i < M.length → M.getD i 0 < 2 ^ n) (h : ∀ i, i < M.length → hd M (2 ^ n - 1 - M.getD i 0) = false) : twB crP 1 M = true := by
  refine tw_yes fun i hi j hj => ?_
  unfold crP
  by_cases e : M.getD i 0 &&& M.getD j 0 = 0
  · have := h i hi
    rw [hd_iff.2 ⟨_, at_mem (show j < M.length by omega), (lack_iff (h4 i hi) (h4 j (by omega))).2 e⟩] at this
    cases this
  · simp only [Bool.not_eq_true', beq_eq_false_iff_ne]
    exact e
def ckA (n : Nat) : Bool := (List.range (2 ^ n)).all fun s => decide (bits .andNot .i64 ((2 ^ n - 1 : Nat) : Int) (s : Int) = ((2 ^ n - 1 - s : Nat) : Int))
set_option maxRecDepth 100000 in
theorem ckA_all : (List.range 13).all ckA = true := by decide +kernel
theorem lack_at {n s : Nat} (hn : n ≤ 12) (hs : s < 2 ^ n) : bits .andNot .i64 ((2 ^ n - 1 : Nat) : Int) (s : Int) = ((2 ^ n - 1 - s : Nat) : Int) := by
  have := List.all_eq_true.1 (List.all_eq_true.1 ckA_all n (List.mem_range.2 (by omega))) s (List.mem_range.2 hs)
  simpa using this
end Go.Proofs.Ytmogmkdcplgfjaa
