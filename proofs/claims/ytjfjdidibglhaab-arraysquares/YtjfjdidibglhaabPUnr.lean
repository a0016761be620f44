/- Lists by their ranks; nothing of the program. -/
import Derived.Test.YtjfjdidibglhaabPRank
namespace Go.Proofs.Ytjfjdidibglhaab

/-- Of what is left the one with so many ahead, and so on. -/
def unrL : Nat → List Nat → Nat → List Nat
  | 0, _, _ => []
  | m + 1, left, k => left.getD (k / fac m) 0 :: unrL m (left.eraseIdx (k / fac m)) (k % fac m)
theorem unrL_len : ∀ m left k, (unrL m left k).length = m
  | 0, _, _ => rfl
  | m + 1, left, k => by rw [unrL, List.length_cons, unrL_len m]
theorem div_fac {k m : Nat} (h : k < fac (m + 1)) : k / fac m < m + 1 := by
  rw [Nat.div_lt_iff_lt_mul (fac_pos m)]
  rw [fac, Nat.mul_comm] at h
  exact h
theorem mod_fac (k m : Nat) : k % fac m < fac m := Nat.mod_lt _ (fac_pos m)

/-- What is not used. -/
def lf (n : Nat) (u : Nat → Bool) : List Nat := (List.range n).filter fun x => !u x
theorem lf_succ (n : Nat) (u : Nat → Bool) : lf (n + 1) u = lf n u ++ if u n then [] else [n] := by
  unfold lf
  rw [List.range_succ, List.filter_append]
  cases h : u n <;> simp [h]
theorem lf_none (n : Nat) : lf n (fun _ => false) = List.range n := by
  unfold lf; simp
def upU (u : Nat → Bool) (i : Nat) : Nat → Bool := fun j => if j = i then true else u j
theorem lf_low {u : Nat → Bool} {x : Nat} : ∀ n, n ≤ x → lf n (upU u x) = lf n u
  | 0, _ => rfl
  | n + 1, h => by
    rw [lf_succ, lf_succ, lf_low n (by omega)]
    have : upU u x n = u n := by unfold upU; rw [if_neg (by omega)]
    rw [this]
/-- Behind x the lists go on alike. -/
theorem lf_split {u : Nat → Bool} {x : Nat} (hu : u x = false) : ∀ n, x < n → ∃ B, lf n u = lf x u ++ x :: B ∧ lf n (upU u x) = lf x u ++ B := by
  intro n
  induction n with
  | zero => intro h; omega
  | succ n ih =>
    intro h
    by_cases e : x = n
    · subst e
      refine ⟨[], ?_, ?_⟩
      · rw [lf_succ, hu]; simp
      · rw [lf_succ, lf_low x (Nat.le_refl _)]
        have : upU u x x = true := by unfold upU; rw [if_pos rfl]
        rw [this]; simp
    · obtain ⟨B, h1, h2⟩ := ih (by omega)
      refine ⟨B ++ if u n then [] else [n], ?_, ?_⟩
      · rw [lf_succ, h1, List.append_assoc, List.cons_append]
      · rw [lf_succ, h2]
        have : upU u x n = u n := by unfold upU; rw [if_neg (fun e' => e e'.symm)]
        rw [this, List.append_assoc]
theorem lf_at {u : Nat → Bool} {x n s : Nat} (hu : u x = false) (hx : x < n) (hs : (lf x u).length = s) : (lf n u).getD s 0 = x ∧ lf n (upU u x) = (lf n u).eraseIdx s ∧ s < (lf n u).length := by
  obtain ⟨B, h1, h2⟩ := lf_split hu n hx
  subst hs
  refine ⟨?_, ?_, ?_⟩
  · rw [h1]; simp
  · rw [h1, h2, List.eraseIdx_append_of_length_le (Nat.le_refl _)]; simp
  · rw [h1, List.length_append, List.length_cons]; omega
theorem lf_mono {u : Nat → Bool} (x : Nat) : ∀ n, x ≤ n → (lf x u).length ≤ (lf n u).length := by
  intro n
  induction n with
  | zero => intro h; rw [show x = 0 by omega]; exact Nat.le_refl _
  | succ n ih =>
    intro h
    by_cases e : x = n + 1
    · subst e; exact Nat.le_refl _
    · have := ih (by omega)
      rw [lf_succ, List.length_append]
      omega

/-- What is left behind the first i places of a permutation. -/
def usd (f : Nat → Nat) (i : Nat) : Nat → Bool := fun x => (List.range i).any fun j => f j == x
theorem usd_succ (f : Nat → Nat) (i x : Nat) : usd f (i + 1) x = upU (usd f i) (f i) x := by
  unfold usd upU
  rw [List.range_succ, List.any_append]
  by_cases h : x = f i
  · subst h; simp
  · rw [if_neg h]; simp [Ne.symm h]
theorem lf_congr {n : Nat} {u v : Nat → Bool} (h : ∀ x, x < n → u x = v x) : lf n u = lf n v := by
  unfold lf
  exact List.filter_congr fun x hx => by rw [h x (List.mem_range.1 hx)]
theorem usd_self {n : Nat} {f : Nat → Nat} (P : Pm n f) {i : Nat} (hi : i < n) : usd f i (f i) = false := by
  unfold usd
  rw [List.any_eq_false]
  intro j hj
  have hj := List.mem_range.1 hj
  simp only [beq_iff_eq]
  intro e
  have := P.inj j i (by omega) hi e
  omega
theorem lf_fre (f : Nat → Nat) (i m : Nat) : (lf m (usd f i)).length = fre f i m := by
  unfold lf fre usd
  rw [← List.countP_eq_length_filter]
  refine List.countP_congr fun x _ => ?_
  rw [Bool.not_eq_true', List.any_eq_false, List.all_eq_true]
  constructor
  · intro h j hj
    have := h j hj
    simpa using this
  · intro h j hj
    have := h j hj
    simpa using this
/-- What the places from i on weigh. -/
def rkT (n : Nat) (f : Nat → Nat) : Nat → Nat → Nat
  | 0, _ => 0
  | m + 1, i => les f i n * fac m + rkT n f m (i + 1)
theorem rkT_lt (n : Nat) (f : Nat → Nat) : ∀ m i, i + m = n → rkT n f m i < fac m
  | 0, _, _ => by rw [rkT, fac]; omega
  | m + 1, i, h => by
    have h1 := rkT_lt n f m (i + 1) (by omega)
    have h2 := les_le f i n
    have h3 : les f i n * fac m ≤ m * fac m := Nat.mul_le_mul_right _ (by omega)
    have h4 : fac (m + 1) = m * fac m + fac m := by rw [fac, Nat.mul_comm, Nat.succ_mul]
    rw [rkT, h4]
    omega
theorem rkS_rkT (n : Nat) (f : Nat → Nat) : ∀ m i, i + m = n → rkS n f n = rkS n f i + rkT n f m i
  | 0, i, h => by rw [show i = n by omega, rkT]; omega
  | m + 1, i, h => by
    rw [rkS_rkT n f m (i + 1) (by omega), rkS, rkT, show n - 1 - i = m by omega]; omega
theorem rank_lt (n : Nat) (f : Nat → Nat) : rkS n f n < fac n := by
  rw [rkS_rkT n f n 0 (by omega), rkS]
  have := rkT_lt n f n 0 (by omega)
  omega
theorem unr_back {n : Nat} {f : Nat → Nat} (P : Pm n f) : ∀ m i, i + m = n → unrL m (lf n (usd f i)) (rkT n f m i) = (List.range' i m).map f
  | 0, _, _ => rfl
  | m + 1, i, h => by
    have hi : i < n := by omega
    have h1 := rkT_lt n f m (i + 1) (by omega)
    have hd : rkT n f (m + 1) i / fac m = les f i n := by
      rw [rkT, Nat.mul_comm, Nat.mul_add_div (fac_pos m), Nat.div_eq_of_lt h1, Nat.add_zero]
    have hm : rkT n f (m + 1) i % fac m = rkT n f m (i + 1) := by
      rw [rkT, Nat.mul_comm, Nat.mul_add_mod, Nat.mod_eq_of_lt h1]
    have hs : (lf (f i) (usd f i)).length = les f i n := by rw [lf_fre, fre_les P hi]
    obtain ⟨a1, a2, _⟩ := lf_at (usd_self P hi) (P.lt i hi) hs
    rw [unrL, hd, hm, a1, ← a2, List.range'_succ, List.map_cons]
    congr 1
    rw [lf_congr (v := usd f (i + 1)) (fun x _ => (usd_succ f i x).symm)]
    exact unr_back P m (i + 1) (by omega)
/-- Ranked and unranked is the same. -/
theorem unr_rank {n : Nat} {f : Nat → Nat} (P : Pm n f) : unrL n (List.range n) (rkS n f n) = (List.range n).map f := by
  have h := unr_back P n 0 (by omega)
  have h0 : lf n (usd f 0) = List.range n := by
    rw [lf_congr (u := usd f 0) (v := fun _ => false) (fun x _ => rfl), lf_none]
  rw [h0] at h
  rw [rkS_rkT n f n 0 (by omega), rkS, Nat.zero_add, h, List.range_eq_range']

end Go.Proofs.Ytjfjdidibglhaab
