/- A range over the pairs of places: one law. The iterator has a number at hand, keeps nothing in memory, hands its rounds two numbers. -/
import Derived.Test.YtlmjlffipinjiabDoorSgF
import Derived.Test.YtlmjlffipinjiabDoorBPure
import Derived.RangeFuncNested
import Derived.RangeFuncBox
import Derived.RangeFuncLeaves
/- The pairs of places in their order, as numbers 32 a + b; what is kept of one kind of them. Nothing of the program. -/
/- Graphs as rows of bits: nothing of the program. -/
namespace Go.Proofs.YtlmjlffipinjiabDoor.Sg

/-- The neighbours of a, as bits. -/
def nbL (n : Nat) (A : Nat → Nat → Int) (a : Nat) : List Nat := (List.range n).filter fun b => A a b == 1
def rbG (n : Nat) (A : Nat → Nat → Int) (a : Nat) : Nat := sb (nbL n A a)
theorem filter_rise (n : Nat) (p : Nat → Bool) : ((List.range n).filter p).Pairwise (· < ·) := List.Pairwise.filter _ List.pairwise_lt_range
theorem filter_lt {n : Nat} {p : Nat → Bool} : ∀ x ∈ (List.range n).filter p, x < n := fun _ hx => List.mem_range.1 (List.mem_filter.1 hx).1
theorem sbf_bit (n : Nat) (p : Nat → Bool) (b : Nat) : (sb ((List.range n).filter p)).testBit b = (decide (b < n) && p b) := by
  rw [sb_bit, Bool.eq_iff_iff]
  simp
theorem sbf_pc {n : Nat} (h : n ≤ 64) (p : Nat → Bool) : pc (sb ((List.range n).filter p)) = ((List.range n).filter p).length := pc_sb (filter_rise n p) fun x hx => by have := filter_lt x hx; omega
theorem rb_bit (n : Nat) (A : Nat → Nat → Int) (a b : Nat) : (rbG n A a).testBit b = (decide (b < n) && (A a b == 1)) := sbf_bit _ _ _
theorem rb_lt (n : Nat) (A : Nat → Nat → Int) (a : Nat) : rbG n A a < 2 ^ n := sb_lt filter_lt
theorem sR_count (f : Nat → Int) : ∀ n, (∀ c, c < n → f c = 0 ∨ f c = 1) → sR n f = (((List.range n).filter fun c => f c == 1).length : Nat)
  | 0, _ => rfl
  | n + 1, h => by
    have ih := sR_count f n fun c hc => h c (by omega)
    rw [sR, ih, List.range_succ, List.filter_append, List.length_append]
    rcases h n (by omega) with e | e <;> simp [e]
theorem rb_deg {n : Nat} {A : Nat → Nat → Int} (G : Gr n A) (hn : n ≤ 64) {a : Nat} (ha : a < n) : dgG n A a = (pc (rbG n A a) : Nat) := by
  unfold dgG rbG nbL
  rw [sbf_pc hn, sR_count _ _ fun c hc => G.bit a c ha hc]
theorem rb_cm {n : Nat} {A : Nat → Nat → Int} (G : Gr n A) (hn : n ≤ 64) {a b : Nat} (ha : a < n) (hb : b < n) : cmG n A a b = (pc (rbG n A a &&& rbG n A b) : Nat) := by
  have e : rbG n A a &&& rbG n A b = sb ((List.range n).filter fun c => A a c * A b c == 1) := by
    apply Nat.eq_of_testBit_eq
    intro i
    rw [Nat.testBit_and, rb_bit, rb_bit, sbf_bit]
    by_cases hi : i < n
    · rcases G.bit a i ha hi with e1 | e1 <;> rcases G.bit b i hb hi with e2 | e2 <;> simp [e1, e2]
    · simp [hi]
  unfold cmG
  rw [e, sbf_pc hn, sR_count]
  intro c hc
  rcases G.bit a c ha hc with e1 | e1 <;> rcases G.bit b c hb hc with e2 | e2 <;> simp [e1, e2]
/-- The rows of bits when the first i cells have been looked at. -/
def btG2 (n : Nat) (L : List Int) (i a : Nat) : Nat := sb ((List.range n).filter fun b => decide (a * n + b < i) && (L.getD (a * n + b) 0 == 1))
theorem bt2_bit (n : Nat) (L : List Int) (i a b : Nat) : (btG2 n L i a).testBit b = (decide (b < n) && (decide (a * n + b < i) && (L.getD (a * n + b) 0 == 1))) := sbf_bit _ _ _
theorem bt2_lt (n : Nat) (L : List Int) (i a : Nat) : btG2 n L i a < 2 ^ n := sb_lt filter_lt
theorem bt2_zero (n : Nat) (L : List Int) (a : Nat) : btG2 n L 0 a = 0 := by
  apply Nat.eq_of_testBit_eq
  intro b
  rw [bt2_bit]
  simp
theorem bt2_skip {n : Nat} {L : List Int} {i : Nat} (h : L.getD i 0 = 0) (a : Nat) : btG2 n L (i + 1) a = btG2 n L i a := by
  apply Nat.eq_of_testBit_eq
  intro b
  rw [bt2_bit, bt2_bit]
  by_cases e : a * n + b = i
  · rw [e, h]; simp
  · rw [Bool.eq_iff_iff]; simp; omega
theorem bt2_put {n : Nat} {L : List Int} {i : Nat} (hn : 0 < n) (h : L.getD i 0 = 1) (a : Nat) : btG2 n L (i + 1) a = if a = i / n then btG2 n L i a ||| 2 ^ (i % n) else btG2 n L i a := by
  have hr := Nat.mod_lt i hn
  have hd := Nat.div_add_mod i n
  apply Nat.eq_of_testBit_eq
  intro b
  by_cases e : a = i / n
  · subst e
    rw [if_pos rfl, Nat.testBit_or, bt2_bit, bt2_bit, Nat.testBit_two_pow]
    rw [Nat.mul_comm n] at hd
    by_cases eb : b = i % n
    · subst eb
      rw [hd, h]
      simp [hr]
    · have h2 : decide (i % n = b) = false := by simp; omega
      rw [h2, Bool.or_false, Bool.eq_iff_iff]
      simp
      omega
  · rw [if_neg e, bt2_bit, bt2_bit]
    by_cases hb : b < n
    · have : a * n + b ≠ i := by
        intro k
        apply e
        have := cell_div (i := a) (j := b) hb
        rw [k] at this
        exact this.1.symm
      rw [Bool.eq_iff_iff]
      simp
      omega
    · simp [hb]
theorem bt2_all {n : Nat} {L : List Int} {a : Nat} (ha : a < n) : btG2 n L (n * n) a = rbG n (gx n L) a := by
  apply Nat.eq_of_testBit_eq
  intro b
  rw [bt2_bit, rb_bit]
  by_cases hb : b < n
  · have := cell_ltG ha hb
    simp [hb, this, gx]
  · simp [hb]
end Go.Proofs.YtlmjlffipinjiabDoor.Sg

namespace Go.Proofs.YtlmjlffipinjiabDoor.Sg

/-- All pairs whose lower place is below a. -/
def prR (n a : Nat) : List Nat := (List.range' (a + 1) (n - 1 - a)).map fun b => a * 32 + b
def prL (n : Nat) : List Nat := (List.range n).flatMap (prR n)
def prC (n a : Nat) : Nat := ((List.range a).flatMap (prR n)).length
theorem prC_zero (n : Nat) : prC n 0 = 0 := rfl
theorem prC_succ (n a : Nat) : prC n (a + 1) = prC n a + (n - 1 - a) := by
  unfold prC
  rw [List.range_succ, List.flatMap_append, List.length_append]
  simp [prR]
theorem prL_len (n : Nat) : (prL n).length = prC n n := rfl
theorem prL_at {n a i : Nat} (ha : a < n) (hi : i < n - 1 - a) : (prL n)[prC n a + i]? = some (a * 32 + (a + 1 + i)) := by
  have e : prL n = (List.range a).flatMap (prR n) ++ (prR n a ++ (List.range' (a + 1) (n - a - 1)).flatMap (prR n)) := by
    unfold prL
    rw [← List.flatMap_cons, ← List.flatMap_append]
    congr 1
    rw [List.range_eq_range', List.range_eq_range', show n = a + ((n - a - 1) + 1) by omega, ← List.range'_append, Nat.one_mul, Nat.zero_add, List.range'_succ]
    congr 3
    omega
  rw [e, List.getElem?_append_right (by unfold prC; omega)]
  have : prC n a + i - ((List.range a).flatMap (prR n)).length = i := by unfold prC; omega
  rw [this, List.getElem?_append_left (by unfold prR; simpa using hi)]
  unfold prR
  rw [List.getElem?_map, List.getElem?_range' (by omega)]
  simp
theorem prL_mem {n x : Nat} : x ∈ prL n ↔ ∃ a b, a < b ∧ b < n ∧ x = a * 32 + b := by
  unfold prL prR
  simp only [List.mem_flatMap, List.mem_range, List.mem_map, List.mem_range'_1]
  constructor
  · rintro ⟨a, ha, b, hb, rfl⟩
    exact ⟨a, b, by omega, by omega, rfl⟩
  · rintro ⟨a, b, h1, h2, rfl⟩
    exact ⟨a, by omega, b, by omega, rfl⟩
theorem prL_at' {n i x : Nat} (hn : n ≤ 32) (h : (prL n)[i]? = some x) : x / 32 < x % 32 ∧ x % 32 < n := by
  obtain ⟨a, b, h1, h2, rfl⟩ := prL_mem.1 (List.mem_of_getElem? h)
  omega
theorem prL_of {n a b : Nat} (hn : n ≤ 32) (h1 : a < b) (h2 : b < n) : ∃ i, i < (prL n).length ∧ (prL n)[i]? = some (a * 32 + b) ∧ (a * 32 + b) / 32 = a ∧ (a * 32 + b) % 32 = b := by
  obtain ⟨i, hi⟩ := List.mem_iff_getElem?.1 (prL_mem.2 ⟨a, b, h1, h2, rfl⟩)
  exact ⟨i, (List.getElem?_eq_some_iff.1 hi).1, hi, by omega, by omega⟩
theorem prL_lt {n i : Nat} {x : Nat} (h : (prL n)[i]? = some x) : i < (prL n).length := (List.getElem?_eq_some_iff.1 h).1

/-- What is kept of one kind of pairs, when the first i have been looked at. -/
structure Lv (n : Nat) (A : Nat → Nat → Int) (x : Int) (i : Nat) (z : Int) (s : Bool) : Prop where
  all : ∀ j y, j < i → (prL n)[j]? = some y → A (y / 32) (y % 32) = x → s = true ∧ cmG n A (y / 32) (y % 32) = z
  non : s = false → z = 0
  wit : s = true → ∃ j y, j < i ∧ (prL n)[j]? = some y ∧ A (y / 32) (y % 32) = x ∧ cmG n A (y / 32) (y % 32) = z
section
variable {n i y : Nat} {A : Nat → Nat → Int} {x z : Int} {s : Bool}
theorem Lv.start : Lv n A x 0 0 false := ⟨fun j y h => absurd h (by omega), fun _ => rfl, fun h => (by cases h)⟩
theorem Lv.skip (K : Lv n A x i z s) (h : (prL n)[i]? = some y) (hne : A (y / 32) (y % 32) ≠ x) : Lv n A x (i + 1) z s := by
  refine ⟨fun j y' hj hy e => ?_, K.non, fun hs => ?_⟩
  · by_cases q : j = i
    · subst q
      rw [h] at hy
      cases hy
      exact absurd e hne
    · exact K.all j y' (by omega) hy e
  · obtain ⟨j, y', h1, h2⟩ := K.wit hs
    exact ⟨j, y', by omega, h2⟩
theorem Lv.first (K : Lv n A x i z false) (h : (prL n)[i]? = some y) (e : A (y / 32) (y % 32) = x) : Lv n A x (i + 1) (cmG n A (y / 32) (y % 32)) true := by
  refine ⟨fun j y' hj hy e' => ⟨rfl, ?_⟩, fun h => (by cases h), fun _ => ⟨i, y, by omega, h, e, rfl⟩⟩
  by_cases q : j = i
  · subst q
    rw [h] at hy
    cases hy
    rfl
  · have := (K.all j y' (by omega) hy e').1
    cases this
theorem Lv.again (K : Lv n A x i z true) (h : (prL n)[i]? = some y) (e : cmG n A (y / 32) (y % 32) = z) : Lv n A x (i + 1) z true := by
  refine ⟨fun j y' hj hy e' => ⟨rfl, ?_⟩, fun h => (by cases h), fun hs => ?_⟩
  · by_cases q : j = i
    · subst q
      rw [h] at hy
      cases hy
      exact e
    · exact (K.all j y' (by omega) hy e').2
  · obtain ⟨j, y', h1, h2⟩ := K.wit hs
    exact ⟨j, y', by omega, h2⟩
theorem Lv.no (K : Lv n A x i z true) (hn : n ≤ 32) (h : (prL n)[i]? = some y) (h01 : x = 0 ∨ x = 1) (e : A (y / 32) (y % 32) = x) (hne : cmG n A (y / 32) (y % 32) ≠ z) : ¬ ∃ k l m, StN n k l m A := by
  rintro ⟨k, l, m, S⟩
  obtain ⟨j, y', h1, h2, h3, h4⟩ := K.wit rfl
  obtain ⟨p1, p2⟩ := prL_at' hn h
  obtain ⟨p3, p4⟩ := prL_at' hn h2
  apply hne
  rw [← h4]
  rcases h01 with rfl | rfl
  · rw [S.st.far _ _ (by omega) p2 (by omega) e, S.st.far _ _ (by omega) p4 (by omega) h3]
  · rw [S.st.near _ _ (by omega) p2 e, S.st.near _ _ (by omega) p4 h3]
end
theorem lv_stn {n : Nat} {A : Nat → Nat → Int} {k l m : Int} {s t : Bool} (G : Gr n A) (hn : n ≤ 32) (hd : ∀ a, a < n → dgG n A a = k) (K1 : Lv n A 1 (prL n).length l s) (K0 : Lv n A 0 (prL n).length m t) : StN n k l m A := by
  have key : ∀ {x z : Int} {s : Bool}, Lv n A x (prL n).length z s → ∀ a b, a < n → b < n → a ≠ b → A a b = x → cmG n A a b = z := fun {x z s} K a b ha hb hne e => by
    rcases Nat.lt_or_gt_of_ne hne with q | q
    · obtain ⟨i, h1, h2, h3, h4⟩ := prL_of hn q hb
      have := (K.all i _ h1 h2 (by rw [h3, h4]; exact e)).2
      rwa [h3, h4] at this
    · obtain ⟨i, h1, h2, h3, h4⟩ := prL_of hn q ha
      rw [Gr.cm_sym]
      have := (K.all i _ h1 h2 (by rw [h3, h4, G.sym b a hb ha]; exact e)).2
      rwa [h3, h4] at this
  have off : ∀ {x z : Int} {s : Bool}, Lv n A x (prL n).length z s → (∀ a b, a < n → b < n → a ≠ b → A a b ≠ x) → z = 0 := fun {x z s} K h => by
    cases s with
    | false => exact K.non rfl
    | true =>
      obtain ⟨j, y, h1, h2, h3, _⟩ := K.wit rfl
      obtain ⟨p1, p2⟩ := prL_at' hn h2
      exact absurd h3 (h _ _ (by omega) p2 (by omega))
  refine ⟨⟨hd, fun a b ha hb e => key K1 a b ha hb (fun q => ?_) e, fun a b ha hb hne e => key K0 a b ha hb hne e⟩, fun h => off K1 fun a b ha hb _ => h a b ha hb, fun h => off K0 h⟩
  subst q
  rw [G.diag a ha] at e
  exact absurd e (by decide)
theorem fri_no {n i y : Nat} {A : Nat → Nat → Int} (hn : n ≤ 32) (h : (prL n)[i]? = some y) (hne : cmG n A (y / 32) (y % 32) ≠ 1) : ¬ Fri n A := fun F => by
  obtain ⟨p1, p2⟩ := prL_at' hn h
  exact hne (F _ _ (by omega) p2 (by omega))
theorem fri_all {n : Nat} {A : Nat → Nat → Int} (hn : n ≤ 32) (h : ∀ i y, i < (prL n).length → (prL n)[i]? = some y → cmG n A (y / 32) (y % 32) = 1) : Fri n A := fun a b ha hb hne => by
  rcases Nat.lt_or_gt_of_ne hne with q | q
  · obtain ⟨i, h1, h2, h3, h4⟩ := prL_of hn q hb
    have := h i _ h1 h2
    rwa [h3, h4] at this
  · obtain ⟨i, h1, h2, h3, h4⟩ := prL_of hn q ha
    rw [Gr.cm_sym]
    have := h i _ h1 h2
    rwa [h3, h4] at this

/-- The cells of a graph that is drawn pair by pair, when the first i have been looked at. -/
def DrE (n : Nat) (J : Nat → Nat → Bool) (i j : Nat) : Prop := ∃ k y, k < i ∧ (prL n)[k]? = some y ∧ J (y / 32) (y % 32) = true ∧ (j = y / 32 * n + y % 32 ∨ j = y % 32 * n + y / 32)
def drF (n : Nat) (J : Nat → Nat → Bool) (i j : Nat) : Int := if ((prL n).take i).any (fun y => J (y / 32) (y % 32) && (j == y / 32 * n + y % 32 || j == y % 32 * n + y / 32)) then 1 else 0
theorem dr_iff {n i j : Nat} {J : Nat → Nat → Bool} : ((prL n).take i).any (fun y => J (y / 32) (y % 32) && (j == y / 32 * n + y % 32 || j == y % 32 * n + y / 32)) = true ↔ DrE n J i j := by
  unfold DrE
  simp only [List.any_eq_true, Bool.and_eq_true, Bool.or_eq_true, beq_iff_eq]
  constructor
  · rintro ⟨y, hy, h⟩
    obtain ⟨k, hk⟩ := List.mem_iff_getElem?.1 hy
    rw [List.getElem?_take] at hk
    split at hk
    · exact ⟨k, y, by assumption, hk, h⟩
    · cases hk
  · rintro ⟨k, y, h1, h2, h⟩
    refine ⟨y, List.mem_iff_getElem?.2 ⟨k, ?_⟩, h⟩
    rw [List.getElem?_take, if_pos h1, h2]
theorem drF_pos {n i j : Nat} {J : Nat → Nat → Bool} (h : DrE n J i j) : drF n J i j = 1 := by unfold drF; rw [if_pos (dr_iff.2 h)]
theorem drF_neg {n i j : Nat} {J : Nat → Nat → Bool} (h : ¬ DrE n J i j) : drF n J i j = 0 := by unfold drF; rw [if_neg fun k => h (dr_iff.1 k)]
theorem drF_congr {n i i' j : Nat} {J : Nat → Nat → Bool} (h : DrE n J i j ↔ DrE n J i' j) : drF n J i j = drF n J i' j := by
  by_cases k : DrE n J i j
  · rw [drF_pos k, drF_pos (h.1 k)]
  · rw [drF_neg k, drF_neg fun q => k (h.2 q)]
theorem drF_zero (n : Nat) (J : Nat → Nat → Bool) (j : Nat) : drF n J 0 j = 0 := by
  apply drF_neg
  rintro ⟨k, y, h, _⟩
  omega
theorem drF_skip {n i y : Nat} {J : Nat → Nat → Bool} (h : (prL n)[i]? = some y) (e : J (y / 32) (y % 32) = false) (j : Nat) : drF n J (i + 1) j = drF n J i j := by
  apply drF_congr
  constructor
  · rintro ⟨k, y', h1, h2, h3, h4⟩
    refine ⟨k, y', ?_, h2, h3, h4⟩
    have : k ≠ i := by
      rintro rfl
      rw [h] at h2
      cases h2
      rw [e] at h3
      cases h3
    omega
  · rintro ⟨k, y', h1, h2⟩
    exact ⟨k, y', by omega, h2⟩
theorem drF_put {n i y : Nat} {J : Nat → Nat → Bool} (h : (prL n)[i]? = some y) (e : J (y / 32) (y % 32) = true) (j : Nat) : drF n J (i + 1) j = if j = y % 32 * n + y / 32 then 1 else if j = y / 32 * n + y % 32 then 1 else drF n J i j := by
  by_cases h1 : j = y % 32 * n + y / 32
  · rw [if_pos h1]
    exact drF_pos ⟨i, y, by omega, h, e, .inr h1⟩
  · rw [if_neg h1]
    by_cases h2 : j = y / 32 * n + y % 32
    · rw [if_pos h2]
      exact drF_pos ⟨i, y, by omega, h, e, .inl h2⟩
    · rw [if_neg h2]
      apply drF_congr
      constructor
      · rintro ⟨k, y', q1, q2, q3, q4⟩
        refine ⟨k, y', ?_, q2, q3, q4⟩
        have : k ≠ i := by
          rintro rfl
          rw [h] at q2
          cases q2
          omega
        omega
      · rintro ⟨k, y', q1, q2⟩
        exact ⟨k, y', by omega, q2⟩
theorem drF_all {n : Nat} (hn : n ≤ 32) {J : Nat → Nat → Bool} {f : Nat → Nat → Int} (h1 : ∀ a b, a < b → b < n → f a b = if J a b then 1 else 0) (h2 : ∀ a b, a < n → b < n → f a b = f b a) (h3 : ∀ a, a < n → f a a = 0) {j : Nat} (hj : j < n * n) : drF n J (prL n).length j = f (j / n) (j % n) := by
  have hn0 : 0 < n := Nat.pos_of_ne_zero (by rintro rfl; omega)
  have ha : j / n < n := Nat.div_lt_of_lt_mul hj
  have hb : j % n < n := Nat.mod_lt _ hn0
  have ej : j = j / n * n + j % n := by rw [Nat.mul_comm]; exact (Nat.div_add_mod j n).symm
  generalize j / n = a at *
  generalize j % n = b at *
  have one : ∀ {y : Nat}, y / 32 < y % 32 → y % 32 < n → (j = y / 32 * n + y % 32 ↔ a = y / 32 ∧ b = y % 32) ∧ (j = y % 32 * n + y / 32 ↔ a = y % 32 ∧ b = y / 32) := fun {y} p1 p2 => by
    have u : ∀ {c d : Nat}, d < n → (j = c * n + d ↔ a = c ∧ b = d) := fun {c d} hd => by
      constructor
      · intro k
        rw [ej] at k
        have e1 := cell_div (i := a) (j := b) hb
        have e2 := cell_div (i := c) (j := d) hd
        rw [k] at e1
        exact ⟨e1.1.symm.trans e2.1, e1.2.symm.trans e2.2⟩
      · rintro ⟨rfl, rfl⟩
        exact ej
    exact ⟨u p2, u (by omega)⟩
  rcases Nat.lt_trichotomy a b with q | q | q
  · rw [h1 a b q hb]
    obtain ⟨i, g1, g2, g3, g4⟩ := prL_of hn q hb
    by_cases hJ : J a b = true
    · rw [if_pos hJ]
      exact drF_pos ⟨i, _, g1, g2, by rw [g3, g4]; exact hJ, .inl (by rw [g3, g4]; exact ej)⟩
    · rw [if_neg hJ]
      apply drF_neg
      rintro ⟨k, y, _, k2, k3, k4⟩
      obtain ⟨p1, p2⟩ := prL_at' hn k2
      have := one p1 p2
      rcases k4 with k4 | k4
      · obtain ⟨rfl, rfl⟩ := this.1.1 k4
        exact hJ k3
      · have := this.2.1 k4
        omega
  · subst q
    rw [h3 a ha]
    apply drF_neg
    rintro ⟨k, y, _, k2, k3, k4⟩
    obtain ⟨p1, p2⟩ := prL_at' hn k2
    have := one p1 p2
    rcases k4 with k4 | k4
    · have := this.1.1 k4
      omega
    · have := this.2.1 k4
      omega
  · rw [h2 a b ha hb, h1 b a q ha]
    obtain ⟨i, g1, g2, g3, g4⟩ := prL_of hn q ha
    by_cases hJ : J b a = true
    · rw [if_pos hJ]
      exact drF_pos ⟨i, _, g1, g2, by rw [g3, g4]; exact hJ, .inr (by rw [g3, g4]; exact ej)⟩
    · rw [if_neg hJ]
      apply drF_neg
      rintro ⟨k, y, _, k2, k3, k4⟩
      obtain ⟨p1, p2⟩ := prL_at' hn k2
      have := one p1 p2
      rcases k4 with k4 | k4
      · have := this.1.1 k4
        omega
      · obtain ⟨rfl, rfl⟩ := this.2.1 k4
        exact hJ k3
end Go.Proofs.YtlmjlffipinjiabDoor.Sg

namespace Go.Proofs.YtlmjlffipinjiabDoor.Sg
open Go.RowKit

theorem YieldAt.anyP {P : Program} {l n : Nat} {args : Array Value} {W : World} {R : Ending → World → Prop} (h : YieldAt Fence.wide n P l args W R) (m : Nat) : YieldAt Fence.wide m P l args W R := by
  obtain ⟨fn, tmps, assign, body, hy, h1, h2⟩ := h
  exact ⟨fn, tmps, assign, body, hy, h1, fun c cs _ => h2 c cs (fun d hd => by cases hd)⟩

def encP (x : Nat) : Array Value := #[.int .i64 ((x / 32 : Nat) : Int), .int .i64 ((x % 32 : Nat) : Int)]
/-- The iterator g, over N places. -/
def PrRuns (n : Nat) (P : Program) (g N : Nat) : Prop :=
  ∀ (l : Nat) (J : Nat → World → Prop) (Jx : World → Prop) (W : World),
    (∀ i x A, (prL N)[i]? = some x → J i A → YieldAt Fence.wide (n - 1) P l (encP x) A fun e B => (e = .returned (.bool true) ∧ J (i + 1) B) ∨ (e = .returned (.bool false) ∧ Jx B)) →
    J 0 W → CallsIn Fence.wide n P g (#[.int .i64 (N : Int)] ++ #[.func (.yield l) #[] #[]]) W fun e B => (∃ v, e = .returned v) ∧ (J (prL N).length B ∨ Jx B)

/-- How a round of the caller's may end. -/
def pEnds (D : Nat) (I : Nat → World → Prop) (Ix : World → Prop) (i : Nat) (W : World) : Exit → Act → World → Prop
  | .normal, _, W' => (W'.heap[D]? = W.heap[D]? ∧ W'.heap[D + 1]? = W.heap[D + 1]?) ∧ I (i + 1) W'
  | .ret, _, W' => (W'.heap[D]? = W.heap[D]? ∧ W'.heap[D + 1]? = W.heap[D + 1]?) ∧ Ix W'
  | _, _, _ => False
theorem bput {n l : Nat} (A : World) (o : Obj) (h : n ≤ l) : Below n A (A.putObj l o) := ⟨rfl, rfl, rfl, by simp [World.putObj], fun b hb => World.putObj_heap_other (by omega)⟩

theorem wpIn_pairs {n : Nat} {P : Program} {g : Operand} {ps : Array Tmp} {assign body : Code} {Q : Exit → Act → World → Prop} {a : Act} {w : World} {gf N : Nat}
    (hg : a.eval g = .func (.func gf) #[.int .i64 (N : Int)] #[]) (eg : ∀ args w, (callFunc gf args).run P w = .ok (.enter gf args) w) (hps : ps.size = 2) (hseq : PrRuns (n - 1) P gf N)
    (I : Nat → World → Prop) (Ix : World → Prop) (hI : ∀ i A B, I i A → Below w.heap.size A B → I i B) (hX : ∀ A B, Ix A → Below w.heap.size A B → Ix B)
    (h0 : I 0 w) (a₁ : Nat → Act)
    (hassign : ∀ (l x : Nat) (W : World) (K : Act → World → Prop), x ∈ prL N → K (a₁ x) W →
      assign.wpIn (Fence.wide.inRound l) (n - 1 - 1) P (Exit.then K (fun _ _ _ => False)) { tmps := (ps.zip (encP x)).foldl (fun t (p, v) => t.setIfInBounds p v) a.tmps, defers := [] } W)
    (hbody : ∀ (i x : Nat) (W : World), (prL N)[i]? = some x → I i W → w.heap.size + 1 < W.heap.size → body.wpIn (Fence.wide.inRound (w.heap.size + 1)) (n - 1 - 1) P (pEnds w.heap.size I Ix i W) (a₁ x) W)
    (hdone : ∀ (W : World), I (prL N).length W → W.heap[w.heap.size]? = some (.deferred (some [])) → Q .normal { a with defers := { target := .collected w.heap.size, args := #[] } :: a.defers } W)
    (hstop : ∀ (W : World), Ix W → W.heap[w.heap.size]? = some (.deferred (some [])) → Code.ret.wpIn Fence.wide n P Q { a with defers := { target := .collected w.heap.size, args := #[] } :: a.defers } W) :
    (Code.rangeFunc g ps assign body).wpIn Fence.wide n P Q a w := by
  refine wpIn_rangeFunc fun fn hfn => ?_
  obtain ⟨D, hD⟩ : ∃ D, D = w.heap.size := ⟨_, rfl⟩
  obtain ⟨lp, hlp⟩ : ∃ lp : LoopState → Option Code → Obj, lp = fun st pe => .loop { state := st, pending := pe, fn, tmps := a.tmps, params := ps, assign, body, defers := D } := ⟨_, rfl⟩
  obtain ⟨V, hV⟩ : ∃ V, V = (w.alloc (.deferred (some []))).alloc (lp .ready none) := ⟨_, rfl⟩
  have sV : V.heap.size = D + 2 := by rw [hV, hD]; simp
  have bV : Below w.heap.size w V := by rw [hV]; exact ((Below.refl _ w).alloc (Nat.le_refl _) _).alloc (by simp) _
  have rV : V.heap[D + 1]? = some (lp .ready none) := by
    have h := World.alloc_heap_new (w.alloc (.deferred (some []))) (lp .ready none)
    rw [World.size_alloc] at h
    rw [hV, hD]; exact h
  have dV : V.heap[D]? = some (.deferred (some [])) := by
    rw [hV, hD]; exact (Below.heap_alloc _ _ _ (by simp)).trans (World.alloc_heap_new w _)
  rw [← hD] at hI hX hbody hdone hstop bV
  refine ⟨D + 1, [{ target := .collected D, args := #[] }], V, { target := .fn (.func gf) #[], args := #[.int .i64 (N : Int)] ++ #[.func (.yield (D + 1)) #[] #[]] }, V, gf, #[.int .i64 (N : Int)] ++ #[.func (.yield (D + 1)) #[] #[]], V, ?_, ?_, fun _ _ => trivial, ?_, (fun h => by cases h), ?_⟩
  · rw [hV, hlp, hD]; exact run_enterLoop_outer _ _ _ _ _
  · simp only [resolve, hg]
    simp [go_sem]
  · simp [invoke, go_sem, eg]
  · have lt2 : ∀ {A : World} {o : Obj}, A.heap[D + 1]? = some o → D + 2 ≤ A.heap.size := fun h => (Array.getElem?_eq_some_iff.1 h).1
    refine (hseq (D + 1) (fun i A => I i A ∧ A.heap[D + 1]? = some (lp .ready none) ∧ A.heap[D]? = some (.deferred (some [])))
      (fun A => Ix A ∧ A.heap[D + 1]? = some (lp .done (some .ret)) ∧ A.heap[D]? = some (.deferred (some []))) V ?_ ⟨hI _ _ _ h0 bV, rV, dV⟩).mono ?_
    · -- one round
      rintro i x A hx ⟨hi, hl, hk⟩
      have hmem : x ∈ prL N := List.mem_of_getElem? hx
      have hlt : D + 1 < A.heap.size := (Array.getElem?_eq_some_iff.1 hl).1
      have hy := run_yield (P := P) (args := encP x) (by rw [hlp] at hl; exact hl) (show (encP x).size = ps.size from hps.symm)
      obtain ⟨busy, hbusy⟩ : ∃ o, o = Obj.loop { state := .busy, pending := none, fn, tmps := a.tmps, params := ps, assign, body, defers := D } := ⟨_, rfl⟩
      have hbeg := run_beginRound (P := P) (by rw [hlp] at hl; exact hl) rfl
      refine ⟨fn, _, assign, body, hy, roundIn_of_wpIn hfn (hassign _ x A _ hmem ⟨_, hbeg, ?_⟩)⟩
      rw [show (Obj.loop { state := .busy, pending := none, fn, tmps := a.tmps, params := ps, assign, body, defers := D }) = busy from hbusy.symm]
      have hl2 : (A.putObj (D + 1) busy).heap[D + 1]? = some busy := World.putObj_heap_same hlt
      have hk2 : (A.putObj (D + 1) busy).heap[D]? = some (.deferred (some [])) := (World.putObj_heap_other (by omega)).trans hk
      refine wpIn_mono (hbody i x _ hx (hI i A _ hi (bput _ _ (by omega))) (by have := lt2 hl2; omega)) ?_
      have fin : ∀ (jump : Option Code) (B : World), B.heap[D]? = (A.putObj (D + 1) busy).heap[D]? ∧ B.heap[D + 1]? = (A.putObj (D + 1) busy).heap[D + 1]? →
          (Instr.endRound (D + 1) jump).run P B = .ok (.bool jump.isNone) (B.putObj (D + 1) (lp (if jump.isNone then .ready else .done) jump)) ∧ B.heap[D + 1]? = some busy ∧
          (B.putObj (D + 1) (lp (if jump.isNone then .ready else .done) jump)).heap[D + 1]? = some (lp (if jump.isNone then .ready else .done) jump) ∧
          (B.putObj (D + 1) (lp (if jump.isNone then .ready else .done) jump)).heap[D]? = some (.deferred (some [])) := by
        intro jump B hB
        have hl3 := hB.2.trans hl2
        refine ⟨?_, hl3, World.putObj_heap_same (Array.getElem?_eq_some_iff.1 hl3).1, (World.putObj_heap_other (by omega)).trans (hB.1.trans hk2)⟩
        rw [hbusy] at hl3
        have he := run_endRound (P := P) jump hl3
        rw [hlp]; exact he
      rintro e a3 B hp
      cases e with
      | normal =>
        obtain ⟨h1, h3⟩ := hp
        obtain ⟨r1, r2, r3, r4⟩ := fin none B h1
        exact ⟨_, _, r1, .inl ⟨rfl, hI _ _ _ h3 (bput _ _ (by omega)), r3, r4⟩⟩
      | ret =>
        obtain ⟨h1, h3⟩ := hp
        obtain ⟨r1, r2, r3, r4⟩ := fin (some .ret) B h1
        exact ⟨_, _, r1, .inr ⟨rfl, hX _ _ h3 (bput _ _ (by omega)), r3, r4⟩⟩
      | exit id => exact hp.elim
      | goto t => exact hp.elim
      | panic ch => exact hp.elim
      | outgrown => exact hp.elim
    · rintro e B ⟨⟨v, rfl⟩, (⟨hi, hl, hk⟩ | ⟨hi, hl, hk⟩)⟩
      · rw [hlp] at hl
        exact ⟨none, _, run_endLoop (P := P) hl (by simp), hdone _ (hI _ _ _ hi (bput _ _ (by omega))) ((World.putObj_heap_other (by omega)).trans hk)⟩
      · rw [hlp] at hl
        exact ⟨some .ret, _, run_endLoop (P := P) hl (by simp), hstop _ (hX _ _ hi (bput _ _ (by omega))) ((World.putObj_heap_other (by omega)).trans hk)⟩

end Go.Proofs.YtlmjlffipinjiabDoor.Sg
