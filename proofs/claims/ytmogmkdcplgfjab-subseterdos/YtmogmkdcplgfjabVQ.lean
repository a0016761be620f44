/- What the second seat needs of the first one's texts. -/
import Derived.Test.YtmogmkdcplgfjabV1
import Derived.Test.YtmogmkdcplgfjabSuU
import Derived.Test.YtmogmkdcplgfjabSuC
import Derived.Test.YtmogmkdcplgfjabSuR
namespace Go.Proofs.Ytmogmkdcplgfjab
open Go.RowKit


/-- What is wrong with a list that is to rise. -/
def riF (cap : Nat) (b : Int) (l : List Int) : Nat := if cap < l.length then 3 else if (List.range l.length).any (fun i => decide (l.getD i 0 < 0) || decide (b ≤ l.getD i 0)) = true then 1 else if (List.range l.length).any (fun i => decide (1 ≤ i) && decide (l.getD i 0 ≤ l.getD (i - 1) 0)) = true then 2 else 0
theorem riF_cap {cap : Nat} {b : Int} {l : List Int} (h : cap < l.length) : riF cap b l = 3 := by unfold riF; rw [if_pos h]
theorem riF_bad {cap : Nat} {b : Int} {l : List Int} (h : ¬ cap < l.length) {i : Nat} (hi : i < l.length) (hb : l.getD i 0 < 0 ∨ b ≤ l.getD i 0) : riF cap b l = 1 := by
  unfold riF
  rw [if_neg h, if_pos]
  exact List.any_eq_true.2 ⟨i, List.mem_range.2 hi, by simpa using hb⟩
theorem riF_mid {cap : Nat} {b : Int} {l : List Int} (h : ¬ cap < l.length) (hg : ∀ i, i < l.length → 0 ≤ l.getD i 0 ∧ l.getD i 0 < b) : riF cap b l = if (List.range l.length).any (fun i => decide (1 ≤ i) && decide (l.getD i 0 ≤ l.getD (i - 1) 0)) = true then 2 else 0 := by
  unfold riF
  rw [if_neg h, if_neg]
  intro k
  obtain ⟨i, hi, k⟩ := List.any_eq_true.1 k
  have := hg i (List.mem_range.1 hi)
  simp only [Bool.or_eq_true, decide_eq_true_eq] at k
  omega
theorem riF_fall {cap : Nat} {b : Int} {l : List Int} (h : ¬ cap < l.length) (hg : ∀ i, i < l.length → 0 ≤ l.getD i 0 ∧ l.getD i 0 < b) {i : Nat} (h1 : 1 ≤ i) (hi : i < l.length) (hb : l.getD i 0 ≤ l.getD (i - 1) 0) : riF cap b l = 2 := by
  rw [riF_mid h hg, if_pos]
  exact List.any_eq_true.2 ⟨i, List.mem_range.2 hi, by simp only [Bool.and_eq_true, decide_eq_true_eq]; exact ⟨h1, hb⟩⟩
theorem riF_good {cap : Nat} {b : Int} {l : List Int} (h : ¬ cap < l.length) (hg : ∀ i, i < l.length → 0 ≤ l.getD i 0 ∧ l.getD i 0 < b) (hr : ∀ i, 1 ≤ i → i < l.length → l.getD (i - 1) 0 < l.getD i 0) : riF cap b l = 0 := by
  rw [riF_mid h hg, if_neg]
  intro k
  obtain ⟨i, hi, k⟩ := List.any_eq_true.1 k
  simp only [Bool.and_eq_true, decide_eq_true_eq] at k
  have := hr i k.1 (List.mem_range.1 hi)
  omega
theorem riF_ok {cap : Nat} {b : Int} {l : List Int} (h : riF cap b l = 0) : l.length ≤ cap ∧ (∀ i, i < l.length → 0 ≤ l.getD i 0 ∧ l.getD i 0 < b) ∧ ∀ i, 1 ≤ i → i < l.length → l.getD (i - 1) 0 < l.getD i 0 := by
  by_cases h1 : cap < l.length
  · rw [riF_cap h1] at h; cases h
  have hg : ∀ i, i < l.length → 0 ≤ l.getD i 0 ∧ l.getD i 0 < b := fun i hi => by
    by_cases hb : l.getD i 0 < 0 ∨ b ≤ l.getD i 0
    · rw [riF_bad h1 hi hb] at h; cases h
    · omega
  refine ⟨by omega, hg, fun i h2 hi => ?_⟩
  by_cases hb : l.getD i 0 ≤ l.getD (i - 1) 0
  · rw [riF_fall h1 hg h2 hi hb] at h; cases h
  · omega
def rkF (l : List Int) : Nat := riF 30 61 l
def fmF (n : Int) (l : List Int) : Nat := if n < 0 ∨ 12 < n then 1 else riF 4096 ((2 ^ n.toNat : Nat) : Int) l

theorem wyN_chs {n k : Nat} : wyN n k = chs n k := by
  unfold wyN
  by_cases h : k ≤ n
  · rw [if_pos (by omega), Int.toNat_natCast, Int.toNat_natCast]
  · rw [if_neg (by omega), chs_gt (by omega)]
/-- What is laid so far: from that place on. -/
def unR (Z : List Nat) (i : Nat) : Nat → Nat := fun j => if j < i then 0 else Z.getD j 0
theorem unR_set (Z : List Nat) (i : Nat) : updV (unR Z (i + 1)) i (Z.getD i 0) = unR Z i := by
  funext t
  unfold updV unR
  by_cases e : t = i
  · rw [if_pos e, e, if_neg (Nat.lt_irrefl i)]
  · rw [if_neg e]
    by_cases h : t < i
    · rw [if_pos h, if_pos (by omega)]
    · rw [if_neg h, if_neg (by omega)]
def unE (k r : Int) : Nat := if k < 0 ∨ 30 < k ∨ r < 0 then 1 else if (chs 61 k.toNat : Int) ≤ r then 1 else 0
def unZ (k r : Int) : List Nat := if unE k r = 0 then unS k.toNat r.toNat 61 else []


theorem andM {a b : Nat} (ha : a < 4096) (hb : b < 4096) : bits .and .i64 (a : Int) (b : Int) = ((a &&& b : Nat) : Int) := by
  have hx : a &&& b < 2 ^ 12 := Nat.and_lt_two_pow a (by omega)
  have h1 : (BitVec.ofInt (8 * 8) (a : Int)).toNat = a := by
    rw [BitVec.ofInt_natCast, BitVec.toNat_ofNat]; exact Nat.mod_eq_of_lt (by omega)
  have h2 : (BitVec.ofInt (8 * 8) (b : Int)).toNat = b := by
    rw [BitVec.ofInt_natCast, BitVec.toNat_ofNat]; exact Nat.mod_eq_of_lt (by omega)
  show IntKind.i64.wrap ((BitVec.ofInt (8 * 8) (a : Int) &&& BitVec.ofInt (8 * 8) (b : Int)).toNat : Int) = _
  rw [BitVec.toNat_and, h1, h2, IntKind.wrap_i64]
  omega
/-- Of two places: what is asked of them. -/
def twB (p : Nat → Nat → Bool) (d : Nat) (M : List Nat) : Bool := (List.range M.length).all fun i => (List.range (i + d)).all fun j => p (M.getD i 0) (M.getD j 0)
theorem tw_no {p : Nat → Nat → Bool} {d : Nat} {M : List Nat} {i j : Nat} (hi : i < M.length) (hj : j < i + d) (h : p (M.getD i 0) (M.getD j 0) = false) : twB p d M = false := by
  cases e : twB p d M with
  | false => rfl
  | true =>
    have := List.all_eq_true.1 (List.all_eq_true.1 e i (List.mem_range.2 hi)) j (List.mem_range.2 hj)
    rw [h] at this; cases this
theorem tw_yes {p : Nat → Nat → Bool} {d : Nat} {M : List Nat} (h : ∀ i, i < M.length → ∀ j, j < i + d → p (M.getD i 0) (M.getD j 0) = true) : twB p d M = true :=
  List.all_eq_true.2 fun i hi => List.all_eq_true.2 fun j hj => h i (List.mem_range.1 hi) j (List.mem_range.1 hj)
theorem tw_at {p : Nat → Nat → Bool} {d : Nat} {M : List Nat} (h : twB p d M = true) {i j : Nat} (hi : i < M.length) (hj : j < i + d) : p (M.getD i 0) (M.getD j 0) = true :=
  List.all_eq_true.1 (List.all_eq_true.1 h i (List.mem_range.2 hi)) j (List.mem_range.2 hj)
def apP (a b : Nat) : Bool := !(a &&& b == a || a &&& b == b)
def crP (a b : Nat) : Bool := !(a &&& b == 0)

/-- What is marked: of the sets ahead of one, and of that one, as far as things are looked at. -/
def mkB (n : Nat) (M : List Nat) (i t : Nat) (s : Nat) : Bool := ((List.range i).any fun a => (List.range n).any fun u => (M.getD a 0).testBit u && (M.getD a 0 - 2 ^ u == s)) || ((List.range t).any fun u => (M.getD i 0).testBit u && (M.getD i 0 - 2 ^ u == s))
theorem mkB_yes {n : Nat} {M : List Nat} {i t : Nat} (h : (M.getD i 0).testBit t = true) : updV (mkB n M i t) (M.getD i 0 - 2 ^ t) true = mkB n M i (t + 1) := by
  funext s
  unfold updV mkB
  rw [List.range_succ, List.any_append]
  by_cases e : s = M.getD i 0 - 2 ^ t
  · rw [if_pos e, e]
    simp only [List.any_cons, List.any_nil, h, beq_self_eq_true, Bool.and_self, Bool.or_false, Bool.or_true]
  · rw [if_neg e]
    have : (M.getD i 0 - 2 ^ t == s) = false := by simpa using fun h => e h.symm
    simp only [List.any_cons, List.any_nil, h, this, Bool.and_false, Bool.or_false]
theorem mkB_no {n : Nat} {M : List Nat} {i t : Nat} (h : (M.getD i 0).testBit t = false) : mkB n M i t = mkB n M i (t + 1) := by
  funext s
  unfold mkB
  rw [List.range_succ, List.any_append]
  simp only [List.any_cons, List.any_nil, h, Bool.false_and, Bool.or_false]
theorem mkB_next (n : Nat) (M : List Nat) (i : Nat) : mkB n M i n = mkB n M (i + 1) 0 := by
  funext s
  unfold mkB
  rw [List.range_succ, List.any_append]
  simp only [List.any_cons, List.any_nil, List.range_zero, Bool.or_false]
def shL (n : Nat) (M : List Nat) : List Nat := (List.range (2 ^ n)).filter (mkB n M M.length 0)
theorem filt_yes {p : Nat → Bool} {s : Nat} (h : p s = true) : (List.range (s + 1)).filter p = (List.range s).filter p ++ [s] := by
  rw [List.range_succ, List.filter_append, List.filter_cons_of_pos h]; rfl
theorem filt_no {p : Nat → Bool} {s : Nat} (h : p s = false) : (List.range (s + 1)).filter p = (List.range s).filter p := by
  rw [List.range_succ, List.filter_append, List.filter_cons_of_neg (by rw [h]; decide), List.filter_nil, List.append_nil]
theorem filt_len (p : Nat → Bool) (s : Nat) : ((List.range s).filter p).length ≤ s :=
  Nat.le_trans (List.length_filter_le ..) (by rw [List.length_range]; exact Nat.le_refl _)
theorem bit_and {x t : Nat} (hx : x < 4096) : bits .and .i64 ((x : Int) / 2 ^ t) 1 = (((x / 2 ^ t) % 2 : Nat) : Int) := by
  have h : x / 2 ^ t ≤ x := Nat.div_le_self _ _
  have e : (x : Int) / 2 ^ t = ((x / 2 ^ t : Nat) : Int) := by rw [Int.natCast_ediv]; simp
  rw [e, show (1 : Int) = ((1 : Nat) : Int) from rfl, andM (by omega) (by omega), Nat.and_one_is_mod]
theorem bit_ge {x t : Nat} (h : x.testBit t = true) : 2 ^ t ≤ x := by
  rcases Nat.lt_or_ge x (2 ^ t) with h1 | h1
  · rw [Nat.testBit_lt_two_pow h1] at h; cases h
  · exact h1


def bnN (n k : Nat) : Nat := min (chs n k) 2147483648

def caE (m k : Int) : Nat := if m < 0 ∨ k < 1 ∨ 30 < k then 1 else if 1000000000 < m then 3 else 0
def caZ (m k : Int) : List Nat := if caE m k = 0 then casL k.toNat m.toNat else []
theorem cas_step {k m : Nat} (hk : 0 < k) (hm : 0 < m) : casL k m = topN k m :: casL (k - 1) (m - chs (topN k m) k) := by
  obtain ⟨j, rfl⟩ : ∃ j, k = j + 1 := ⟨k - 1, by omega⟩
  conv => lhs; unfold casL
  rw [if_neg (by omega)]
  rfl
theorem cas_stop {k m : Nat} (h : k = 0 ∨ m = 0) : casL k m = [] := by
  cases k with
  | zero => rfl
  | succ k =>
    unfold casL
    rw [if_pos (by omega)]

theorem sumN_bd {B : Nat} : ∀ (n : Nat) {f : Nat → Nat}, (∀ i, i < n → f i ≤ B) → sumN n f ≤ n * B
  | 0, _, _ => Nat.zero_le _
  | n + 1, f, h => by
    have h1 := sumN_bd n (f := f) fun i hi => h i (by omega)
    have h2 := h n (by omega)
    show sumN n f + f n ≤ _
    rw [Nat.add_mul]
    omega
theorem cas_small {k m i : Nat} (hm : m ≤ 1000000000) (hk : k ≤ 30) (hi : i < (casL k m).length) : (casL k m).getD i 0 ≤ 2000000000 := by
  have : ∀ k m i, k ≤ 30 → m ≤ 1000000000 → i < (casL k m).length → (casL k m).getD i 0 ≤ 1000000030 := by
    intro k
    induction k with
    | zero => intro m i _ _ h; exact absurd h (Nat.not_lt_zero _)
    | succ k ih =>
      intro m i hk hm h
      by_cases e : m = 0
      · rw [cas_stop (.inr e)] at h; exact absurd h (Nat.not_lt_zero _)
      · rw [cas_step (Nat.succ_pos k) (by omega)] at h ⊢
        cases i with
        | zero =>
          have := top_le (k := k + 1) (m := m) (by omega)
          show topN (k + 1) m ≤ _
          omega
        | succ i => exact ih _ i (by omega) (by omega) (by simpa using h)
  have := this k m i hk hm hi
  omega


/-- How many closed brackets are alone, and which open ones: of the first things. -/
def alS (s : Nat) : Nat → Nat × List Nat
  | 0 => (0, [])
  | i + 1 => if s.testBit i = false then ((alS s i).1, (alS s i).2 ++ [i]) else if (alS s i).2 = [] then ((alS s i).1 + 1, []) else ((alS s i).1, (alS s i).2.dropLast)
theorem alS_len (s : Nat) : ∀ i, (alS s i).2.length ≤ i ∧ (alS s i).1 ≤ i
  | 0 => ⟨Nat.le_refl _, Nat.le_refl _⟩
  | i + 1 => by
    have ih := alS_len s i
    unfold alS
    split
    · exact ⟨by rw [List.length_append]; exact Nat.succ_le_succ ih.1, Nat.le_succ_of_le ih.2⟩
    · split
      · exact ⟨Nat.zero_le _, Nat.succ_le_succ ih.2⟩
      · exact ⟨by rw [List.length_dropLast]; show _ - 1 ≤ i + 1; omega, Nat.le_succ_of_le ih.2⟩
theorem own_cut {w : World} {base : Nat} {e : TypeId} {a : Option Addr} {n c : Nat} {xs : List Value} (h : w.ownsRow base e 1 (.slice a (n + 1) c) (n + 1) xs) : ∃ g, a = some ⟨g, 0, none⟩ ∧ n + 1 ≤ c ∧ w.ownsRow base e 1 (.slice a n c) n (xs.take n) := by
  obtain ⟨h0, ⟨h1, h2⟩ | ⟨g, cap, cur, h1, h2, h3, h4, h5, h6, h7⟩⟩ := h
  · omega
  · obtain ⟨rfl, -, rfl⟩ := Value.slice.inj h1
    refine ⟨g, rfl, h4, ?_, .inr ⟨g, c, cur, rfl, h2, h3, by omega, h5, h6, ?_⟩⟩
    · rw [List.length_take]; omega
    · rw [← h7, List.take_take]
      congr 1
      omega
theorem nz_take (P : List Nat) (n : Nat) : (nz P).take n = nz (P.take n) := by unfold nz; rw [List.map_take, List.map_take]

/-- What comes behind a set, while brackets are alone; none if it takes too long. -/
def chO (n : Nat) : Nat → Nat → Option (List Nat)
  | 0, t => match (alS t n).2 with
    | [] => some []
    | _ :: _ => none
  | f + 1, t => match (alS t n).2 with
    | [] => some []
    | a :: _ => if t + 2 ^ a < 2 ^ n then match chO n f (t + 2 ^ a) with
      | none => none
      | some R => some ((t + 2 ^ a) :: R)
      else none
theorem chO_nil {n f t : Nat} {R : List Nat} (h : chO n f t = some R) (e : (alS t n).2 = []) : R = [] := by
  cases f with
  | zero => unfold chO at h; rw [e] at h; exact (Option.some.inj h).symm
  | succ f => unfold chO at h; rw [e] at h; exact (Option.some.inj h).symm
theorem chO_more {n f t a : Nat} {O R : List Nat} (h : chO n f t = some R) (e : (alS t n).2 = a :: O) : ∃ g R', f = g + 1 ∧ t + 2 ^ a < 2 ^ n ∧ chO n g (t + 2 ^ a) = some R' ∧ R = (t + 2 ^ a) :: R' := by
  cases f with
  | zero => unfold chO at h; rw [e] at h; cases h
  | succ f =>
    unfold chO at h
    rw [e] at h
    by_cases hl : t + 2 ^ a < 2 ^ n
    · simp only [if_pos hl] at h
      cases hc : chO n f (t + 2 ^ a) with
      | none => simp only [hc] at h; cases h
      | some R' =>
        simp only [hc] at h
        exact ⟨f, R', rfl, hl, hc, (Option.some.inj h).symm⟩
    · simp only [if_neg hl] at h; cases h
theorem chO_len {n : Nat} : ∀ {f t : Nat} {R : List Nat}, chO n f t = some R → R.length ≤ f
  | f, t, R, h => by
    cases e : (alS t n).2 with
    | nil => rw [chO_nil h e]; exact Nat.zero_le _
    | cons a O =>
      obtain ⟨g, R', rfl, -, h1, rfl⟩ := chO_more h e
      exact Nat.succ_le_succ (chO_len h1)
termination_by f => f
/-- All chains from the sets below one. -/
def cnR (n : Nat) : Nat → List (List Nat)
  | 0 => []
  | s + 1 => if (alS s n).1 = 0 then cnR n s ++ [s :: (chO n n s).getD []] else cnR n s
theorem cnR_len (n : Nat) : ∀ s, (cnR n s).length ≤ s
  | 0 => Nat.le_refl _
  | s + 1 => by
    have := cnR_len n s
    unfold cnR
    split
    · rw [List.length_append]; exact Nat.succ_le_succ this
    · omega
set_option maxRecDepth 100000 in
theorem ch_all : (List.range 11).all (fun n => (List.range (2 ^ n)).all fun s => !((alS s n).1 == 0) || (chO n n s).isSome) = true := by decide +kernel
theorem ch_at {n s : Nat} (hn : n ≤ 10) (hs : s < 2 ^ n) (h : (alS s n).1 = 0) : ∃ R, chO n n s = some R := by
  have a := List.all_eq_true.1 (List.all_eq_true.1 ch_all n (List.mem_range.2 (by omega))) s (List.mem_range.2 hs)
  rw [h] at a
  exact Option.isSome_iff_exists.1 a
def chE (n : Int) : Nat := if n < 0 ∨ 10 < n then 1 else 0
def chR (n : Int) : List (List Nat) := if chE n = 0 then cnR n.toNat (2 ^ n.toNat) else []
theorem own_one (w : World) (s : Nat) : (w.alloc (.cells #[.int .i64 (s : Int)] 3)).ownsRow w.heap.size 3 1 (.slice (some ⟨w.heap.size, 0, none⟩) 1 1) 1 (nz [s]) :=
  ⟨rfl, .inr ⟨w.heap.size, 1, _, rfl, Nat.le_refl _, heap_alloc_new w _, Nat.le_refl _, by unfold maxLen; omega, rfl, rfl⟩⟩

def toN (l : List Int) : List Nat := l.map Int.toNat
theorem toN_len (l : List Int) : (toN l).length = l.length := by unfold toN; rw [List.length_map]
theorem toN_at {l : List Int} {i : Nat} (hi : i < l.length) (h : 0 ≤ l.getD i 0) : (((toN l).getD i 0 : Nat) : Int) = l.getD i 0 := by
  unfold toN
  rw [List.getD_eq_getElem?_getD, List.getElem?_map, List.getElem?_eq_getElem hi]
  rw [List.getD_eq_getElem?_getD, List.getElem?_eq_getElem hi] at h ⊢
  show ((l[i].toNat : Nat) : Int) = l[i]
  exact Int.toNat_of_nonneg h
theorem Sw.toN {w : World} {v : Value} {l : List Int} (h : Sw w v l) (h0 : ∀ i, i < l.length → 0 ≤ l.getD i 0) : Wd w v (toN l) := by
  obtain ⟨⟨a, c, rfl, hc⟩, hr, -⟩ := h
  refine ⟨a, c, by rw [toN_len], by rw [toN_len]; exact hr _ _ _ rfl, fun j hj => ?_⟩
  rw [toN_len] at hj
  obtain ⟨b, o, e, hcell⟩ := hc j hj
  exact ⟨b, o, e, by rw [hcell, toN_at hj (h0 j hj)]⟩
/-- What is known of a list that nothing is wrong with. -/
theorem rises_ok {cap : Nat} {b : Int} {l : List Int} (h : riF cap b l = 0) : (toN l).length ≤ cap ∧ (∀ i, i < (toN l).length → (((toN l).getD i 0 : Nat) : Int) < b) ∧ Rises (toN l) ∧ (∀ i, i < l.length → 0 ≤ l.getD i 0) := by
  obtain ⟨h1, h2, h3⟩ := riF_ok h
  refine ⟨by rw [toN_len]; exact h1, fun i hi => ?_, fun i h4 hi => ?_, fun i hi => (h2 i hi).1⟩
  · rw [toN_len] at hi
    rw [toN_at hi (h2 i hi).1]
    exact (h2 i hi).2
  · rw [toN_len] at hi
    have a := h3 i h4 hi
    have e1 := toN_at hi (h2 i hi).1
    have e2 := toN_at (l := l) (i := i - 1) (by omega) (h2 (i - 1) (by omega)).1
    omega
def rkZ (l : List Int) : Nat := if rkF l = 0 then rkS (toN l) (toN l).length else 0
def FRank : Prop := ∀ (l : List Int) (v : Value) (w : World), Sw w v l → Calls Try.prog 12 #[v] w fun e w' => e = .returned (.tuple #[.int .i64 (rkZ l : Int), .int .i64 (rkF l : Int)]) ∧ Below w.heap.size w w'
def shZ (n : Int) (l : List Int) : List Nat := if fmF n l = 0 then shL n.toNat (toN l) else []
def apZ (n : Int) (l : List Int) : Bool := decide (fmF n l = 0) && twB apP 0 (toN l)
def crZ (n : Int) (l : List Int) : Bool := decide (fmF n l = 0) && twB crP 1 (toN l)
def FCross : Prop := ∀ (n : Int) (l : List Int) (v : Value) (w : World), Sw w v l → Calls Try.prog 6 #[.int .i64 n, v] w fun e w' => e = .returned (.tuple #[.bool (crZ n l), .int .i64 (fmF n l : Int)]) ∧ Below w.heap.size w w'
def FCascade : Prop := ∀ (m k : Int) (w : World), Calls Try.prog 10 #[.int .i64 m, .int .i64 k] w fun e w' => (∃ y, e = .returned (.tuple #[y, .int .i64 (caE m k : Int)]) ∧ Wd w' y (caZ m k)) ∧ Below w.heap.size w w'
def lsZ (m k : Int) : Nat := if caE m k = 0 then leN k.toNat (casL k.toNat m.toNat) else 0
def FChains : Prop := ∀ (n : Int) (w : World), Calls Try.prog 9 #[.int .i64 n] w fun e w' => (∃ y, e = .returned (.tuple #[y, .int .i64 (chE n : Int)]) ∧ Rw w' y (toZ (chR n))) ∧ Below w.heap.size w w'


theorem fm_nat {n : Int} {l : List Int} (h : fmF n l = 0) : 0 ≤ n ∧ n ≤ 12 ∧ riF 4096 ((2 ^ n.toNat : Nat) : Int) l = 0 := by
  unfold fmF at h
  by_cases h1 : n < 0 ∨ 12 < n
  · rw [if_pos h1] at h; cases h
  · rw [if_neg h1] at h; exact ⟨by omega, by omega, h⟩
/-- What is known of a family that nothing is wrong with. -/
theorem fm_ok {n : Int} {l : List Int} (h : fmF n l = 0) : ∃ m : Nat, n = m ∧ m ≤ 12 ∧ (toN l).length ≤ 4096 ∧ (∀ i, i < (toN l).length → (toN l).getD i 0 < 2 ^ m) ∧ Rises (toN l) ∧ (∀ i, i < l.length → 0 ≤ l.getD i 0) := by
  obtain ⟨h1, h2, h3⟩ := fm_nat h
  obtain ⟨m, rfl⟩ : ∃ m : Nat, n = m := ⟨n.toNat, by omega⟩
  rw [Int.toNat_natCast] at h3
  obtain ⟨a, b, c, d⟩ := rises_ok h3
  exact ⟨m, rfl, by omega, a, fun i hi => by have := b i hi; omega, c, d⟩
theorem shL_len {n : Nat} (hn : n ≤ 12) (M : List Nat) : (shL n M).length ≤ 4096 := by
  unfold shL
  exact Nat.le_trans (filt_len _ _) (Nat.pow_le_pow_right (by decide) hn : 2 ^ n ≤ 2 ^ 12)


theorem toZ_map (ls : List (List Nat)) : toZ ls = ls.map fun l => l.map Int.ofNat := rfl
theorem chE_cases (n : Int) : (∃ m : Nat, n = m ∧ m ≤ 10 ∧ chE n = 0 ∧ chR n = cnR m (2 ^ m)) ∨ (chE n = 1 ∧ chR n = []) := by
  by_cases h : n < 0 ∨ 10 < n
  · right
    have e : chE n = 1 := by unfold chE; rw [if_pos h]
    exact ⟨e, by unfold chR; rw [e]; rfl⟩
  · left
    obtain ⟨m, rfl⟩ : ∃ m : Nat, n = m := ⟨n.toNat, by omega⟩
    have e : chE m = 0 := by unfold chE; rw [if_neg h]
    exact ⟨m, rfl, by omega, e, by unfold chR; rw [if_pos e, Int.toNat_natCast]⟩
theorem cnR_rows {n : Nat} (hn : n ≤ 10) : ∀ s, s ≤ 2 ^ n → ∀ l ∈ cnR n s, l.length ≤ 11
  | 0, _, l, h => by cases h
  | s + 1, hs, l, h => by
    unfold cnR at h
    by_cases e : (alS s n).1 = 0
    · rw [if_pos e] at h
      rcases List.mem_append.1 h with h | h
      · exact cnR_rows hn s (by omega) l h
      · obtain ⟨R, hR⟩ := ch_at hn (by omega) e
        rw [hR] at h
        rw [List.mem_singleton.1 h]
        have := chO_len hR
        show R.length + 1 ≤ 11
        omega
    · rw [if_neg e] at h
      exact cnR_rows hn s (by omega) l h
theorem chR_small (n : Int) : (toZ (chR n)).length ≤ maxLen ∧ ∀ l ∈ toZ (chR n), l.length ≤ maxLen := by
  rcases chE_cases n with ⟨m, rfl, hm, -, e⟩ | ⟨-, e⟩
  · rw [e, toZ_map]
    have h1 := cnR_len m (2 ^ m)
    have h2 : 2 ^ m ≤ 2 ^ 10 := Nat.pow_le_pow_right (by decide) hm
    refine ⟨by rw [List.length_map]; unfold maxLen; omega, fun l hl => ?_⟩
    obtain ⟨r, hr, rfl⟩ := List.mem_map.1 hl
    rw [List.length_map]
    have := cnR_rows hm (2 ^ m) (Nat.le_refl _) r hr
    unfold maxLen; omega
  · rw [e]
    exact ⟨Nat.zero_le _, fun l hl => by cases hl⟩
end Go.Proofs.Ytmogmkdcplgfjab
