/- Rao's bound. Nothing of the program. -/
import Derived.Test.YtjfjdidibglhaabRaS
import Derived.Test.YtjfjdidibglhaabArP
namespace Go.Proofs.Ytjfjdidibglhaab

theorem weights (w : Nat → Int) : ∀ M, (∀ i, i < M → 0 < w i) → ∃ (c : Int) (e : Nat → Int), 0 < c ∧ ∀ i, i < M → e i * w i = c
  | 0, _ => ⟨1, fun _ => 0, by decide, fun i h => by omega⟩
  | M + 1, h => by
    obtain ⟨c, e, hc, he⟩ := weights w M fun i hi => h i (by omega)
    refine ⟨c * w M, fun i => if i = M then c else e i * w M, Int.mul_pos hc (h M (by omega)), fun i hi => ?_⟩
    show (if i = M then c else e i * w M) * w i = c * w M
    by_cases k : i = M
    · subst k
      rw [if_pos rfl]
    · rw [if_neg k]
      have := he i (by omega)
      grind
/-- The i-th run. -/
def rnF (R : List (Nat → Nat)) (i c : Nat) : Nat := (R.getD i fun _ => 0) c
theorem rnF_lt {R : List (Nat → Nat)} {i : Nat} (hi : i < R.length) : R.getD i (fun _ => 0) ∈ R := by
  rw [List.getD_eq_getElem?_getD, List.getElem?_eq_getElem hi]
  exact List.getElem_mem hi
/-- How many runs, as a sum of products. -/
theorem hit_sum (cs : List Nat) (v : Nat → Nat) : ∀ R : List (Nat → Nat), sR R.length (fun i => 1 * pL cs fun c => hitG (rnF R i c) (v c)) = (hit R cs v : Int) := by
  have hp : ∀ x : Nat → Nat, pL cs (fun c => hitG (x c) (v c)) = if mtc cs v x = true then 1 else 0 := fun x => by
    induction cs with
    | nil => rfl
    | cons c cs ih =>
      rw [pL, ih]
      unfold mtc hitG
      rw [List.all_cons]
      by_cases e : x c = v c
      · rw [if_pos e]
        simp [e]
      · rw [if_neg e]
        simp [e]
  have key : ∀ (R : List (Nat → Nat)) (n : Nat), n ≤ R.length → sR n (fun i => 1 * pL cs fun c => hitG (rnF R i c) (v c)) = ((R.take n).countP (mtc cs v) : Int) := by
    intro R n
    induction n with
    | zero => intro _; rfl
    | succ n ih =>
      intro hn
      rw [sR, ih (by omega), List.take_add_one, List.countP_append, List.getElem?_eq_getElem (show n < R.length by omega)]
      have e : pL cs (fun c => hitG (rnF R n c) (v c)) = if mtc cs v (R[n]'(by omega)) = true then 1 else 0 := by
        rw [← hp]
        unfold rnF
        rw [List.getD_eq_getElem?_getD, List.getElem?_eq_getElem (show n < R.length by omega)]
        rfl
      rw [e]
      simp only [Option.toList_some, List.countP_cons, List.countP_nil]
      split <;> simp
  intro R
  have := key R R.length (Nat.le_refl _)
  rw [List.take_length] at this
  exact this
theorem pL_zero {F : Nat → Int} : ∀ {cs : List Nat} {c : Nat}, c ∈ cs → F c = 0 → pL cs F = 0
  | [], c, h, _ => by simp at h
  | d :: cs, c, h, e => by
    rw [pL]
    rcases List.mem_cons.1 h with q | q
    · subst q; rw [e]; omega
    · rw [pL_zero q e]; omega
theorem pL_pos {F : Nat → Int} : ∀ {cs : List Nat}, (∀ c ∈ cs, 0 < F c) → 0 < pL cs F
  | [], _ => by show (0 : Int) < 1; decide
  | c :: cs, h => by
    rw [pL]
    exact Int.mul_pos (h c List.mem_cons_self) (pL_pos fun d hd => h d (List.mem_cons_of_mem _ hd))
theorem pL_filter {F : Nat → Int} {p : Nat → Bool} : ∀ {cs : List Nat}, (∀ c ∈ cs, p c = false → F c = 1) → pL cs F = pL (cs.filter p) F
  | [], _ => rfl
  | c :: cs, h => by
    rw [pL, List.filter_cons, pL_filter fun d hd => h d (List.mem_cons_of_mem _ hd)]
    cases e : p c with
    | true => rw [if_pos rfl, pL]
    | false => rw [if_neg (by simp), h c List.mem_cons_self e]; omega
/-- In how many columns a choice of contrasts is not 0. -/
def nzN (k : Nat) (a b : List Nat) : Nat := (List.range k).countP fun c => decide (a.getD c 0 ≠ 0) || decide (b.getD c 0 ≠ 0)
/-- The list of a choice of contrasts, over the runs. -/
def coF (R : List (Nat → Nat)) (k : Nat) (a : List Nat) (i : Nat) : Int := pL (List.range k) fun c => heG (a.getD c 0) (rnF R i c)
/-- What two of them come to together. -/
theorem co_sum {s k t : Nat} {R : List (Nat → Nat)} (hs : 0 < s) (hr : Lvl s k R) (ht : t ≤ k) (h : Str s k R t) {a b : List Nat} (hn : nzN k a b ≤ t) :
    ∃ q : Nat, (0 < R.length → 0 < q) ∧ sR R.length (fun i => coF R k a i * coF R k b i) = (q : Int) * pL ((List.range k).filter fun c => decide (a.getD c 0 ≠ 0) || decide (b.getD c 0 ≠ 0)) fun c => sR s fun x => heG (a.getD c 0) x * heG (b.getD c 0) x := by
  obtain ⟨p, hp⟩ : ∃ p : Nat → Bool, p = fun c => decide (a.getD c 0 ≠ 0) || decide (b.getD c 0 ≠ 0) := ⟨_, rfl⟩
  have hcs : Pts k ((List.range k).filter p) := ⟨List.nodup_range.filter _, fun c hc => List.mem_range.1 (List.mem_filter.1 hc).1⟩
  have hl : ((List.range k).filter p).length ≤ t := by
    rw [← List.countP_eq_length_filter, hp]
    exact hn
  rw [← hp]
  have h1 := Str.low hs hr ht h _ hl
  obtain ⟨m, hm⟩ : ∃ m, m = ((List.range k).filter p).length := ⟨_, rfl⟩
  have hall : ∀ v : Nat → Nat, (∀ c ∈ (List.range k).filter p, v c < s) → hit R ((List.range k).filter p) v * s ^ m = R.length := fun v hv => by
    rw [hm]
    exact h1.all hs hr hcs rfl hv
  have hpw : 0 < s ^ m := Nat.pow_pos hs
  have hq : ∀ v : Nat → Nat, (∀ c ∈ (List.range k).filter p, v c < s) → hit R ((List.range k).filter p) v = R.length / s ^ m := fun v hv => by
    rw [← hall v hv, Nat.mul_div_cancel _ hpw]
  refine ⟨R.length / s ^ m, fun h0 => ?_, ?_⟩
  · have := hall (fun _ => 0) fun _ _ => hs
    rw [hq (fun _ => 0) fun _ _ => hs] at this
    rcases Nat.eq_zero_or_pos (R.length / s ^ m) with e | e
    · rw [e] at this; omega
    · exact e
  · have e1 : sR R.length (fun i => coF R k a i * coF R k b i) = sR R.length fun i => 1 * pL ((List.range k).filter p) fun c => heG (a.getD c 0) (rnF R i c) * heG (b.getD c 0) (rnF R i c) := sR_congr fun i _ => by
      unfold coF
      rw [← pL_mul, Int.one_mul]
      refine pL_filter fun c _ hc => ?_
      rw [hp] at hc
      simp only [Bool.or_eq_false_iff, decide_eq_false_iff_not, Decidable.not_not] at hc
      rw [hc.1, hc.2, he_zero]
      rfl
    rw [e1]
    refine str_prod (r := rnF R) (fun c x => heG (a.getD c 0) x * heG (b.getD c 0) x) _ (fun _ => 1) _ hcs.nd (fun i c hi hc => hr _ (rnF_lt hi) c (hcs.lt c hc)) fun vs hv => ?_
    rw [hit_sum, hq vs hv]
/-- Choices that meet in few columns are no more than runs. -/
theorem rao_any {s k t : Nat} {R : List (Nat → Nat)} (hs : 0 < s) (hr : Lvl s k R) (ht : t ≤ k) (h : Str s k R t) (h0 : 0 < R.length) {A : List (List Nat)} (hd : A.Nodup) (hl : ∀ a ∈ A, a.length = k) (hA : ∀ a ∈ A, ∀ c, c < k → a.getD c 0 < s)
    (hn : ∀ a ∈ A, ∀ b ∈ A, nzN k a b ≤ t) : A.length ≤ R.length := by
  have hm : ∀ i, i < A.length → A.getD i [] ∈ A := fun i hi => by
    rw [List.getD_eq_getElem?_getD, List.getElem?_eq_getElem hi]
    exact List.getElem_mem hi
  have hw : ∀ i, i < A.length → 0 < sR R.length fun a => coF R k (A.getD i []) a * coF R k (A.getD i []) a := fun i hi => by
    obtain ⟨q, hq, e⟩ := co_sum hs hr ht h (hn _ (hm i hi) _ (hm i hi))
    rw [e]
    refine Int.mul_pos (by have := hq h0; omega) (pL_pos fun c hc => ?_)
    have hck := List.mem_range.1 (List.mem_filter.1 hc).1
    rw [he_norm (hA _ (hm i hi) c hck)]
    have := heN_pos (a := (A.getD i []).getD c 0) (show 1 ≤ s from hs)
    omega
  obtain ⟨c, e, hc, he⟩ := weights _ A.length hw
  refine orth_le (x := fun i a => coF R k (A.getD i []) a) hc he fun i j hi hj => ?_
  by_cases hij : i = j
  · subst hij
    rw [id_self, Int.one_mul]
  · have hne : A.getD i [] ≠ A.getD j [] := fun e => by
      rw [List.getD_eq_getElem?_getD, List.getD_eq_getElem?_getD, List.getElem?_eq_getElem hi, List.getElem?_eq_getElem hj] at e
      have hpw := List.pairwise_iff_getElem.1 hd
      rcases (show i < j ∨ j < i by omega) with q | q
      · exact hpw i j hi hj q e
      · exact hpw j i hj hi q e.symm
    have hcol : ∃ c, c < k ∧ (A.getD i []).getD c 0 ≠ (A.getD j []).getD c 0 := by
      refine Classical.byContradiction fun hno => hne ?_
      have h1 := hl _ (hm i hi)
      have h2 := hl _ (hm j hj)
      refine List.ext_getElem (by omega) fun c hc1 hc2 => ?_
      have h3 : ∀ c, c < k → (A.getD i []).getD c 0 = (A.getD j []).getD c 0 := fun c hck => Classical.byContradiction fun q => hno ⟨c, hck, q⟩
      have h4 := h3 c (by omega)
      simp only [List.getD_eq_getElem?_getD (l := A.getD i []), List.getD_eq_getElem?_getD (l := A.getD j []), List.getElem?_eq_getElem hc1, List.getElem?_eq_getElem hc2] at h4
      exact h4
    obtain ⟨d, hdk, hdn⟩ := hcol
    obtain ⟨q, _, e2⟩ := co_sum hs hr ht h (hn _ (hm i hi) _ (hm j hj))
    show sR R.length (fun a => coF R k (A.getD i []) a * coF R k (A.getD j []) a) = _
    rw [e2, pL_zero (c := d) (List.mem_filter.2 ⟨List.mem_range.2 hdk, by rw [Bool.or_eq_true, decide_eq_true_eq, decide_eq_true_eq]; omega⟩) (he_orth (hA _ (hm i hi) d hdk) (hA _ (hm j hj) d hdk) hdn)]
    unfold idR
    rw [if_neg hij]
    omega
end Go.Proofs.Ytjfjdidibglhaab
