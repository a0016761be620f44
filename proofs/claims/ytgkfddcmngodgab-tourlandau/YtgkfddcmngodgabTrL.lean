/- Landau: what scores could be. Nothing of the program. -/
import Derived.Test.YtgkfddcmngodgabTrK
namespace Go.Proofs.Ytgkfddcmngodgab

def sumL (l : List Nat) : Nat := l.foldr (· + ·) 0
theorem sumL_cons (x : Nat) (l : List Nat) : sumL (x :: l) = x + sumL l := rfl
theorem sumL_append : ∀ (l m : List Nat), sumL (l ++ m) = sumL l + sumL m
  | [], m => by simp [sumL]
  | x :: l, m => by rw [List.cons_append, sumL_cons, sumL_cons, sumL_append l m]; omega
theorem sum_le {f g : Nat → Nat} : ∀ {l : List Nat}, (∀ x ∈ l, f x ≤ g x) → sumL (l.map f) ≤ sumL (l.map g)
  | [], _ => Nat.le_refl _
  | x :: l, h => by
    rw [List.map_cons, List.map_cons, sumL_cons, sumL_cons]
    have h1 := h x (by simp)
    have h2 := sum_le (l := l) (f := f) (g := g) fun y hy => h y (by simp [hy])
    omega
theorem sum_add (f g : Nat → Nat) : ∀ l : List Nat, sumL (l.map fun x => f x + g x) = sumL (l.map f) + sumL (l.map g)
  | [] => rfl
  | x :: l => by
    rw [List.map_cons, List.map_cons, List.map_cons, sumL_cons, sumL_cons, sumL_cons, sum_add f g l]
    omega
theorem sum_count (p : Nat → Bool) : ∀ l : List Nat, sumL (l.map fun x => if p x then 1 else 0) = l.countP p
  | [] => rfl
  | x :: l => by
    rw [List.map_cons, sumL_cons, sum_count p l, List.countP_cons]
    omega
/-- Each two have played once. -/
theorem games {t : Nat → Nat → Bool} : ∀ {S : List Nat}, S.Nodup → Trn S t → (∀ a ∈ S, t a a = false) → 2 * sumL (S.map fun a => S.countP (t a)) = S.length * (S.length - 1)
  | [], _, _, _ => rfl
  | x :: S, hn, hT, hI => by
    have h1 := List.nodup_cons.1 hn
    have ih := games (S := S) h1.2 (fun p q hp hq hne => hT p q (by simp [hp]) (by simp [hq]) hne) fun a ha => hI a (by simp [ha])
    have e1 : (S.map fun a => (x :: S).countP (t a)) = S.map fun a => S.countP (t a) + if t a x then 1 else 0 := by
      refine List.map_congr_left fun a _ => ?_
      rw [List.countP_cons]
    have e2 : S.countP (t x) + S.countP (fun a => t a x) = S.length := by
      have : S.countP (fun a => t a x) = S.countP (fun a => !t x a) := by
        refine List.countP_congr fun a ha => ?_
        rw [hT a x (by simp [ha]) (by simp) (fun e => h1.1 (by rw [← e]; exact ha))]
      rw [this]
      have := List.length_eq_countP_add_countP (p := t x) (l := S)
      have e : S.countP (fun a => decide ¬ (t x a = true)) = S.countP (fun a => !t x a) := List.countP_congr fun a _ => by simp
      rw [e] at this
      exact this.symm
    rw [List.map_cons, sumL_cons, e1, sum_add, sum_count (fun a => t a x), List.countP_cons, hI x (by simp)]
    simp only [List.length_cons, Bool.false_eq_true, if_false, Nat.add_zero, Nat.add_sub_cancel]
    have : S.length * (S.length - 1) + 2 * S.length = (S.length + 1) * S.length := by
      cases h : S.length with
      | zero => rfl
      | succ m =>
        rw [Nat.add_sub_cancel, Nat.mul_comm 2, ← Nat.mul_add, Nat.mul_comm]
    omega
/-- The numbers of a set; what the document asks of it. -/
def inS (n s : Nat) : List Nat := (List.range n).filter fun i => s.testBit i
def okS (l : List Nat) (s : Nat) : Bool :=
  let k := (inS l.length s).length
  let m := sumL ((inS l.length s).map fun i => l.getD i 0)
  !(decide (m < k * (k - 1) / 2) || (k == l.length && decide (k * (k - 1) / 2 < m)))
def coB (l : List Nat) : Bool := (List.range (2 ^ l.length)).all fun s => s == 0 || okS l s
def scT (t : Nat → Nat → Bool) (n : Nat) : List Nat := (List.range n).map fun a => (List.range n).countP (t a)
theorem scT_at {t : Nat → Nat → Bool} {n a : Nat} (h : a < n) : (scT t n).getD a 0 = (List.range n).countP (t a) := by
  unfold scT
  rw [List.getD_eq_getElem?_getD, List.getElem?_map, List.getElem?_range h]
  rfl
theorem scT_len (t : Nat → Nat → Bool) (n : Nat) : (scT t n).length = n := by simp [scT]
/-- Scores of a tournament are what they could be. -/
theorem landau {n : Nat} {t : Nat → Nat → Bool} (hT : Trn (List.range n) t) (hI : ∀ a, a < n → t a a = false) : coB (scT t n) = true := by
  unfold coB
  rw [List.all_eq_true]
  intro s _
  rw [Bool.or_eq_true]
  right
  unfold okS
  rw [scT_len]
  have hsub : ∀ x ∈ inS n s, x < n := fun x hx => List.mem_range.1 (List.mem_filter.1 hx).1
  have hnd : (inS n s).Nodup := List.nodup_range.filter _
  have hg := games (S := inS n s) hnd (fun p q hp hq hne => hT p q (List.mem_range.2 (hsub p hp)) (List.mem_range.2 (hsub q hq)) hne) fun a ha => hI a (hsub a ha)
  have e : (inS n s).map (fun i => (scT t n).getD i 0) = (inS n s).map fun i => (List.range n).countP (t i) := List.map_congr_left fun i hi => scT_at (hsub i hi)
  rw [e]
  have hle : sumL ((inS n s).map fun a => (inS n s).countP (t a)) ≤ sumL ((inS n s).map fun i => (List.range n).countP (t i)) := sum_le fun a _ => by
    unfold inS
    rw [List.countP_filter]
    exact List.countP_mono_left fun x _ h => by simp only [Bool.and_eq_true] at h; exact h.1
  have hfull : (inS n s).length = n → sumL ((inS n s).map fun i => (List.range n).countP (t i)) = sumL ((inS n s).map fun a => (inS n s).countP (t a)) := fun h => by
    have : inS n s = List.range n := by
      unfold inS at h ⊢
      refine List.filter_eq_self.2 fun x hx => ?_
      have := List.length_filter_eq_length_iff.1 (h.trans (by simp)) x hx
      exact this
    rw [this]
  generalize sumL ((inS n s).map fun a => (inS n s).countP (t a)) = A at hg hle hfull
  generalize sumL ((inS n s).map fun i => (List.range n).countP (t i)) = B at hle hfull ⊢
  generalize (inS n s).length = k at hg hfull ⊢
  simp only [Bool.not_eq_true', Bool.or_eq_false_iff, Bool.and_eq_false_iff, decide_eq_false_iff_not, beq_eq_false_iff_ne]
  refine ⟨by omega, ?_⟩
  by_cases hk : k = n
  · right
    have := hfull hk
    omega
  · exact .inl hk
/-- Few players: all tournaments by their codes. -/
def btC (c a b : Nat) : Bool := if b < a then c.testBit (a * (a - 1) / 2 + b) else if a < b then !c.testBit (b * (b - 1) / 2 + a) else false
theorem btC_trn (n c : Nat) : Trn (List.range n) (btC c) := fun p q _ _ hne => by
  unfold btC
  by_cases h : q < p
  · rw [if_pos h, if_neg (by omega), if_pos h]; simp
  · rw [if_neg h, if_pos (by omega), if_pos (by omega)]
theorem btC_irr (c a : Nat) : btC c a a = false := by unfold btC; rw [if_neg (by omega), if_neg (by omega)]
def enL (n : Nat) : List Nat → Nat
  | [] => 0
  | x :: l => x + n * enL n l
theorem enL_inj {n : Nat} (h : 0 < n) : ∀ {l m : List Nat}, l.length = m.length → (∀ x ∈ l, x < n) → (∀ x ∈ m, x < n) → enL n l = enL n m → l = m
  | [], [], _, _, _, _ => rfl
  | [], _ :: _, hl, _, _, _ => by simp at hl
  | _ :: _, [], hl, _, _, _ => by simp at hl
  | x :: l, y :: m, hl, hx, hy, e => by
    have h1 := hx x (by simp)
    have h2 := hy y (by simp)
    have e' : x + n * enL n l = y + n * enL n m := e
    have k1 : x = y := by
      have a1 : (x + n * enL n l) % n = x := by rw [Nat.add_mul_mod_self_left, Nat.mod_eq_of_lt h1]
      have a2 : (y + n * enL n m) % n = y := by rw [Nat.add_mul_mod_self_left, Nat.mod_eq_of_lt h2]
      rw [← a1, e', a2]
    subst k1
    have k2 : enL n l = enL n m := Nat.eq_of_mul_eq_mul_left h (Nat.add_left_cancel e')
    rw [enL_inj h (by simpa using hl) (fun z hz => hx z (by simp [hz])) (fun z hz => hy z (by simp [hz])) k2]
def allL (n : Nat) : Nat → List (List Nat)
  | 0 => [[]]
  | k + 1 => (List.range n).flatMap fun x => (allL n k).map (x :: ·)
theorem mem_allL {n : Nat} : ∀ {k : Nat} {l : List Nat}, l.length = k → (∀ x ∈ l, x < n) → l ∈ allL n k
  | 0, l, h, _ => by rw [List.length_eq_zero_iff.1 h]; simp [allL]
  | k + 1, [], h, _ => by simp at h
  | k + 1, x :: l, h, hx => List.mem_flatMap.2 ⟨x, List.mem_range.2 (hx x (by simp)), List.mem_map.2 ⟨l, mem_allL (by simpa using h) fun z hz => hx z (by simp [hz]), rfl⟩⟩
/-- Whose scores they are, by the kernel. -/
def mkB (n : Nat) : List Nat → Nat
  | [] => 0
  | c :: cs => mkB n cs ||| 1 <<< enL n (scT (btC c) n)
theorem mkB_at {n i : Nat} : ∀ {cs : List Nat}, (mkB n cs).testBit i = true → ∃ c ∈ cs, enL n (scT (btC c) n) = i
  | [], h => by simp [mkB] at h
  | c :: cs, h => by
    unfold mkB at h
    rw [Nat.testBit_or, Bool.or_eq_true] at h
    rcases h with h | h
    · obtain ⟨d, hd, e⟩ := mkB_at h
      exact ⟨d, by simp [hd], e⟩
    · rw [Nat.one_shiftLeft, Nat.testBit_two_pow] at h
      exact ⟨c, by simp, by simpa using h⟩
/-- What could be is the scores of one; by the kernel, the first score at a time. -/
def fewX (n m x : Nat) : Bool := (allL n (n - 1)).all fun l => !coB (x :: l) || m.testBit (enL n (x :: l))
def mkN (n : Nat) : Nat := mkB n (List.range (2 ^ (n * (n - 1) / 2)))
end Go.Proofs.Ytgkfddcmngodgab
