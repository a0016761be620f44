/- Families as lists and as what is asked of numbers: the theorems, said of lists. -/
import Derived.Test.YtmogmkdcplgfjaaVD
import Derived.Test.YtmogmkdcplgfjaaSuR
namespace Go.Proofs.Ytmogmkdcplgfjaa

theorem Rises.tail {x : Nat} {M : List Nat} (h : Rises (x :: M)) : Rises M := fun i h1 hi => by
  have := h (i + 1) (by omega) (by rw [List.length_cons]; omega)
  rw [Nat.add_sub_cancel] at this
  obtain ⟨j, rfl⟩ : ∃ j, i = j + 1 := ⟨i - 1, by omega⟩
  exact this
theorem Rises.head : ∀ {M : List Nat} {x : Nat}, Rises (x :: M) → ∀ y ∈ M, x < y
  | [], _, _, y, hy => by cases hy
  | z :: M, x, h, y, hy => by
    have h1 : x < z := h 1 (Nat.le_refl _) (by simp)
    rcases List.mem_cons.1 hy with rfl | hy
    · exact h1
    · exact Nat.lt_trans h1 (Rises.head h.tail y hy)
theorem Rises.pair : ∀ {M : List Nat}, Rises M → M.Pairwise (· < ·)
  | [], _ => List.Pairwise.nil
  | _ :: _, h => List.Pairwise.cons h.head h.tail.pair
theorem Rises.of_pair : ∀ {M : List Nat}, M.Pairwise (· < ·) → Rises M := fun {M} h i h1 hi => by
  have := List.pairwise_iff_getElem.1 h (i - 1) i (by omega) hi (by omega)
  rw [List.getD_eq_getElem?_getD, List.getD_eq_getElem?_getD, List.getElem?_eq_getElem hi, List.getElem?_eq_getElem (show i - 1 < M.length by omega)]
  exact this
theorem cnt_one : ∀ n x, x < 2 ^ n → cnt n (fun s => s == x) = 1
  | 0, x, h => by
    have : x = 0 := by simpa using h
    subst this
    rfl
  | n + 1, x, h => by
    rw [Nat.pow_succ] at h
    unfold cnt
    by_cases hx : x < 2 ^ n
    · rw [cnt_one n x hx, cnt_none n fun s _ => by simp; omega]
    · rw [cnt_none n fun s hs => by simp; omega, cnt_congr n (G := fun s => s == x - 2 ^ n) fun s hs => by
        rw [Bool.eq_iff_iff]; simp; omega, cnt_one n (x - 2 ^ n) (by omega)]
theorem cnt_list (n : Nat) : ∀ {M : List Nat}, M.Pairwise (· < ·) → (∀ x ∈ M, x < 2 ^ n) → cnt n (fun s => decide (s ∈ M)) = M.length
  | [], _, _ => cnt_none n fun s _ => by simp
  | x :: M, h, hb => by
    rw [List.pairwise_cons] at h
    have ih := cnt_list n h.2 fun y hy => hb y (List.mem_cons_of_mem _ hy)
    have h1 := cnt_one n x (hb x (List.mem_cons_self ..))
    have h2 := cnt_apart n (F := fun s => s == x) (G := fun s => decide (s ∈ M)) fun s _ ⟨a, b⟩ => by
      simp only [beq_iff_eq] at a
      simp only [decide_eq_true_eq] at b
      subst a
      exact absurd (h.1 s b) (Nat.lt_irrefl _)
    rw [List.length_cons, ← ih, Nat.add_comm, ← h1, h2]
    exact cnt_congr n fun s _ => by rw [Bool.eq_iff_iff]; simp
theorem cnt_filt : ∀ (n : Nat) (p : Nat → Bool), ((List.range (2 ^ n)).filter p).length = cnt n p
  | 0, p => by
    show ((List.range 1).filter p).length = (p 0).toNat
    rw [List.range_one]
    cases e : p 0 with
    | true => rw [List.filter_cons_of_pos e]; rfl
    | false => rw [List.filter_cons_of_neg (by rw [e]; decide)]; rfl
  | n + 1, p => by
    rw [Nat.pow_succ, Nat.mul_two, List.range_add, List.filter_append, List.length_append, cnt_filt n p, List.filter_map, List.length_map]
    show cnt n p + _ = cnt n p + cnt n (fun s => p (s + 2 ^ n))
    rw [← cnt_filt n fun s => p (s + 2 ^ n)]
    congr 3
    funext s
    show p (2 ^ n + s) = p (s + 2 ^ n)
    rw [Nat.add_comm]
theorem mem_getD {M : List Nat} {i : Nat} (h : i < M.length) : M.getD i 0 ∈ M := by
  rw [List.getD_eq_getElem?_getD, List.getElem?_eq_getElem h]
  exact List.getElem_mem h
/-- What leaves one thing out of a set of the list is marked. -/
theorem shw_mark {n : Nat} {M : List Nat} {s : Nat} (hs : s < 2 ^ n) (h : shw n (fun s => decide (s ∈ M)) s = true) : mkB n M M.length 0 s = true := by
  obtain ⟨t, h1, h2, h3, h4⟩ := shw_of n hs h
  have h4 : s + 2 ^ t ∈ M := by simpa using h4
  obtain ⟨i, hi, e⟩ := List.getElem_of_mem h4
  have hg : M.getD i 0 = s + 2 ^ t := by rw [List.getD_eq_getElem?_getD, List.getElem?_eq_getElem hi]; exact e
  unfold mkB
  rw [Bool.or_eq_true]
  refine .inl (List.any_eq_true.2 ⟨i, List.mem_range.2 hi, List.any_eq_true.2 ⟨t, List.mem_range.2 h1, ?_⟩⟩)
  rw [hg]
  have hb : (s + 2 ^ t).testBit t = true := by
    rw [Nat.testBit_eq_decide_div_mod_eq] at h2 ⊢
    have h2 := of_decide_eq_false h2
    refine decide_eq_true ?_
    rw [Nat.add_div_right _ (Nat.two_pow_pos t)]
    show (s / 2 ^ t + 1) % 2 = 1
    omega
  rw [hb, Nat.add_sub_cancel]
  simp
theorem kf_le {k m : Nat} (hk : 1 ≤ k) (hk12 : k ≤ 12) (hm : m ≤ chs 12 k) : kfN k m = leN k (casL k m) := by
  have a := List.all_eq_true.1 lt_all (k - 1) (List.mem_range.2 (by omega))
  rw [show k - 1 + 1 = k by omega] at a
  have hl : (ktT k).length = chs 12 k + 1 := eq_of_beq (List.all_eq_true.1 kt_len_all k (List.mem_range.2 (by omega)))
  have h := ltB_is a m (by omega)
  rw [Nat.zero_add] at h
  exact (leK_is k m _ h).symm
/-- Kruskal and Katona, of lists. -/
theorem kruskal {n k : Nat} {M : List Nat} (hn : n ≤ 12) (hk : 1 ≤ k) (hk12 : k ≤ 12) (hr : M.Pairwise (· < ·)) (hb : ∀ x ∈ M, x < 2 ^ n) (hw : ∀ x ∈ M, wgt n x = k) : leN k (casL k M.length) ≤ (shL n M).length := by
  have h1 := cnt_list n hr hb
  have hF : ∀ s, s < 2 ^ n → decide (s ∈ M) = true → wgt n s = k := fun s _ h => hw s (by simpa using h)
  have h2 := kk n k (fun s => decide (s ∈ M)) hn hF
  have h3 : cnt n (fun s => decide (s ∈ M)) ≤ chs n k := cnt_le hF
  rw [h1] at h2 h3
  rw [kf_le hk hk12 (Nat.le_trans h3 (chs_mono hn k))] at h2
  refine Nat.le_trans h2 ?_
  unfold shL
  rw [cnt_filt]
  exact cnt_mono n fun s hs h => shw_mark hs h
/-- Erdos, Ko, Rado, of lists. -/
theorem erdos {n k : Nat} {M : List Nat} (hn : n ≤ 12) (hk : 1 ≤ k) (h2 : 2 * k ≤ n) (hr : M.Pairwise (· < ·)) (hb : ∀ x ∈ M, x < 2 ^ n) (hw : ∀ x ∈ M, wgt n x = k) (hx : ∀ s ∈ M, ∀ t ∈ M, s &&& t ≠ 0) : M.length ≤ chs (n - 1) (k - 1) := by
  rw [← cnt_list n hr hb]
  exact ekr hn hk h2 (fun s _ h => hw s (by simpa using h)) fun s t _ _ h3 h4 => hx s (by simpa using h3) t (by simpa using h4)
theorem cross_pair {M : List Nat} (h : twB crP 1 M = true) : ∀ s ∈ M, ∀ t ∈ M, s &&& t ≠ 0 := by
  have key : ∀ i j, i < M.length → j ≤ i → M.getD i 0 &&& M.getD j 0 ≠ 0 := fun i j hi hj e => by
    have := tw_at h hi (show j < i + 1 by omega)
    unfold crP at this
    rw [e] at this
    simp at this
  intro s hs t ht
  obtain ⟨i, hi, e1⟩ := List.getElem_of_mem hs
  obtain ⟨j, hj, e2⟩ := List.getElem_of_mem ht
  have g1 : M.getD i 0 = s := by rw [List.getD_eq_getElem?_getD, List.getElem?_eq_getElem hi]; exact e1
  have g2 : M.getD j 0 = t := by rw [List.getD_eq_getElem?_getD, List.getElem?_eq_getElem hj]; exact e2
  rcases Nat.le_total j i with hji | hij
  · have := key i j hi hji
    rw [g1, g2] at this; exact this
  · have := key j i hj hij
    rw [g1, g2, Nat.and_comm] at this; exact this
theorem wgt_size : ∀ n s, s < 2 ^ n → szB n s.testBit = wgt n s
  | 0, _, _ => rfl
  | n + 1, s, hs => by
    rw [Nat.pow_succ] at hs
    show szB n s.testBit + (s.testBit n).toNat = wgt (n + 1) s
    by_cases h : s < 2 ^ n
    · rw [wgt_lt n s h, Nat.testBit_lt_two_pow h, wgt_size n s h]; rfl
    · have e : s = s - 2 ^ n + 2 ^ n := by omega
      have hr : s - 2 ^ n < 2 ^ n := by omega
      have h1 : wgt (n + 1) s = wgt n (s - 2 ^ n) + 1 := (congrArg (wgt (n + 1)) e).trans (wgt_ge n _)
      have h2 : s.testBit n = true := by
        rw [e, Nat.add_comm, Nat.testBit_two_pow_add_eq, Nat.testBit_lt_two_pow hr]; rfl
      have h3 : szB n s.testBit = szB n (s - 2 ^ n).testBit := sumN_congr n fun x hx => by
        have : s.testBit x = (s - 2 ^ n).testBit x := by
          conv => lhs; rw [e, Nat.add_comm]
          exact Nat.testBit_two_pow_add_gt hx _
        show (s.testBit x).toNat = ((s - 2 ^ n).testBit x).toNat
        rw [this]
      rw [h1, h2, h3, wgt_size n _ hr]; rfl
theorem in_and {n a b : Nat} (ha : a < 2 ^ n) (h : inB n a.testBit b.testBit = true) : a &&& b = a := by
  refine Nat.eq_of_testBit_eq fun t => ?_
  rw [Nat.testBit_and]
  cases e : a.testBit t with
  | false => rfl
  | true =>
    have ht : t < n := by
      rcases Nat.lt_or_ge t n with h | h
      · exact h
      · rw [Nat.testBit_lt_two_pow (Nat.lt_of_lt_of_le ha (Nat.pow_le_pow_right (by decide) h))] at e; cases e
    rw [inB_is.1 h t ht e]; rfl
theorem sz_full : ∀ n, szB n (fun _ => true) = n
  | 0 => rfl
  | n + 1 => by
    show szB n (fun _ => true) + 1 = n + 1
    rw [sz_full n]
theorem in_full (n : Nat) (B : Nat → Bool) : inB n B (fun _ => true) = true := inB_is.2 fun _ _ _ => rfl
theorem lsN_sum (f : (Nat → Bool) → Nat) : ∀ (M : List Nat), lsN (M.map Nat.testBit) f = sumN M.length fun i => f (M.getD i 0).testBit
  | [] => rfl
  | x :: M => by
    rw [List.length_cons, sumN_first]
    show f x.testBit + lsN (M.map Nat.testBit) f = _
    rw [lsN_sum f M]
    rfl
/-- Lubell, Yamamoto, Meshalkin, of lists. -/
theorem lubell {n : Nat} {M : List Nat} (hb : ∀ x ∈ M, x < 2 ^ n) (hap : twB apP 0 M = true) : sumN M.length (fun i => fac (wgt n (M.getD i 0)) * fac (n - wgt n (M.getD i 0))) ≤ fac n := by
  have hA : ApL n (M.map Nat.testBit) := by
    unfold ApL
    rw [List.pairwise_map]
    refine List.pairwise_iff_getElem.2 fun j i hj hi hji => ?_
    have := tw_at hap hi (show j < i + 0 by omega)
    rw [List.getD_eq_getElem?_getD, List.getD_eq_getElem?_getD, List.getElem?_eq_getElem hi, List.getElem?_eq_getElem hj] at this
    have this : apP M[i] M[j] = true := this
    unfold apP at this
    have hbi := hb _ (List.getElem_mem hi)
    have hbj := hb _ (List.getElem_mem hj)
    constructor
    · cases e : inB n M[j].testBit M[i].testBit with
      | false => rfl
      | true =>
        have h1 := in_and hbj e
        rw [Nat.and_comm] at h1
        rw [h1] at this
        simp at this
    · cases e : inB n M[i].testBit M[j].testBit with
      | false => rfl
      | true =>
        rw [in_and hbi e] at this
        simp at this
  have h := lym hA n (fun _ => true) (sz_full n)
  rw [lsN_sum] at h
  refine Nat.le_trans (Nat.le_of_eq (sumN_congr _ fun i hi => ?_)) h
  unfold trm
  rw [if_pos (in_full n _), sz_full, wgt_size n _ (hb _ (mem_getD hi))]
theorem fac_all : (List.range 13).all (fun n => fac n == chs n (n / 2) * (fac (n / 2) * fac (n - n / 2)) && (List.range (n + 1)).all fun t => decide (fac (n / 2) * fac (n - n / 2) ≤ fac t * fac (n - t))) = true := by decide +kernel
theorem sumN_ge {B : Nat} : ∀ (n : Nat) {f : Nat → Nat}, (∀ i, i < n → B ≤ f i) → n * B ≤ sumN n f
  | 0, _, _ => by rw [Nat.zero_mul]; exact Nat.zero_le _
  | n + 1, f, h => by
    have h1 := sumN_ge n (f := f) fun i hi => h i (by omega)
    have h2 := h n (by omega)
    show _ ≤ sumN n f + f n
    rw [Nat.add_mul]
    omega
theorem wgt_le : ∀ n s, s < 2 ^ n → wgt n s ≤ n
  | 0, _, _ => Nat.le_refl _
  | n + 1, s, hs => by
    rw [Nat.pow_succ] at hs
    unfold wgt
    split
    · exact Nat.le_succ_of_le (wgt_le n s (by assumption))
    · exact Nat.succ_le_succ (wgt_le n _ (by omega))
/-- Sperner. -/
theorem sperner {n : Nat} {M : List Nat} (hn : n ≤ 12) (hb : ∀ x ∈ M, x < 2 ^ n) (hap : twB apP 0 M = true) : M.length ≤ chs n (n / 2) := by
  have h1 := lubell hb hap
  have a := List.all_eq_true.1 fac_all n (List.mem_range.2 (by omega))
  rw [Bool.and_eq_true] at a
  have e := eq_of_beq a.1
  have h2 := sumN_ge (B := fac (n / 2) * fac (n - n / 2)) M.length (f := fun i => fac (wgt n (M.getD i 0)) * fac (n - wgt n (M.getD i 0))) fun i hi => of_decide_eq_true (List.all_eq_true.1 a.2 _ (List.mem_range.2 (by have := wgt_le n _ (hb _ (mem_getD hi)); omega)))
  have h3 := Nat.le_trans h2 h1
  rw [e] at h3
  have hp : 0 < fac (n / 2) * fac (n - n / 2) := by
    have : ∀ m, 0 < fac m := fun m => by
      induction m with
      | zero => decide
      | succ m ih => exact Nat.mul_pos (Nat.succ_pos m) ih
    exact Nat.mul_pos (this _) (this _)
  exact Nat.le_of_mul_le_mul_right h3 hp
end Go.Proofs.Ytmogmkdcplgfjaa
