/- Signs: by pairs that are the wrong way round, and by cycles; they multiply. -/
import Derived.Test.YtjfjdidibglhaabPPure
namespace Go.Proofs.Ytjfjdidibglhaab

/-- 1, if the first is less, -1, if it is greater. -/
def sg (x y : Nat) : Int := if x < y then 1 else if y < x then -1 else 0
theorem sg_anti (x y : Nat) : sg y x = - sg x y := by
  unfold sg
  rcases Nat.lt_trichotomy x y with h | h | h
  · rw [if_pos h, if_neg (by omega), if_pos h]
  · subst h; simp
  · rw [if_pos h, if_neg (by omega), if_pos h]; rfl
theorem sg_sq {x y : Nat} (h : x ≠ y) : sg x y * sg x y = 1 := by
  unfold sg
  rcases Nat.lt_trichotomy x y with h1 | h1 | h1
  · rw [if_pos h1]; rfl
  · exact absurd h1 h
  · rw [if_neg (by omega), if_pos h1]; rfl

def lp (l : List Int) : Int := l.foldr (· * ·) 1
theorem lp_cons (x : Int) (l : List Int) : lp (x :: l) = x * lp l := rfl
theorem lp_perm {l m : List Int} (h : l.Perm m) : lp l = lp m := by
  induction h with
  | nil => rfl
  | cons x _ ih => rw [lp_cons, lp_cons, ih]
  | swap x y l => rw [lp_cons, lp_cons, lp_cons, lp_cons, ← Int.mul_assoc, ← Int.mul_assoc, Int.mul_comm y x]
  | trans _ _ h1 h2 => exact h1.trans h2
theorem lp_append (l m : List Int) : lp (l ++ m) = lp l * lp m := by
  induction l with
  | nil => show lp m = 1 * lp m; rw [Int.one_mul]
  | cons x l ih => rw [List.cons_append, lp_cons, lp_cons, ih, Int.mul_assoc]
theorem lp_mul (F G : Nat → Int) (l : List Nat) : lp (l.map fun x => F x * G x) = lp (l.map F) * lp (l.map G) := by
  induction l with
  | nil => rfl
  | cons x l ih =>
    rw [List.map_cons, List.map_cons, List.map_cons, lp_cons, lp_cons, lp_cons, ih]
    rw [Int.mul_assoc, Int.mul_assoc, ← Int.mul_assoc (G x), Int.mul_comm (G x), Int.mul_assoc]

/-- The product over all pairs. -/
def pp (F : Nat → Nat → Int) : List Nat → Int
  | [] => 1
  | x :: l => lp (l.map (F x)) * pp F l
theorem pp_perm {F : Nat → Nat → Int} (hF : ∀ x y, F x y = F y x) {l m : List Nat} (h : l.Perm m) : pp F l = pp F m := by
  induction h with
  | nil => rfl
  | cons x h ih => rw [pp, pp, ih, lp_perm (h.map _)]
  | swap x y l =>
    rw [pp, pp, pp, pp, List.map_cons, List.map_cons, lp_cons, lp_cons, hF y x]
    rw [Int.mul_assoc, Int.mul_assoc, ← Int.mul_assoc (lp _) (lp _), Int.mul_comm (lp (l.map (F y))), Int.mul_assoc]
  | trans _ _ h1 h2 => exact h1.trans h2
theorem pp_mul (F G : Nat → Nat → Int) (l : List Nat) : pp (fun x y => F x y * G x y) l = pp F l * pp G l := by
  induction l with
  | nil => rfl
  | cons x l ih =>
    rw [pp, pp, pp, ih, lp_mul]
    rw [Int.mul_assoc, Int.mul_assoc, ← Int.mul_assoc (lp _) (pp F l), Int.mul_comm (lp (l.map (G x))), Int.mul_assoc]
theorem pp_congr {F G : Nat → Nat → Int} {l : List Nat} (h : l.Pairwise fun x y => F x y = G x y) : pp F l = pp G l := by
  induction l with
  | nil => rfl
  | cons x l ih =>
    rw [List.pairwise_cons] at h
    rw [pp, pp, ih h.2]
    congr 2
    exact List.map_congr_left fun y hy => h.1 y hy
theorem pp_map (F : Nat → Nat → Int) (f : Nat → Nat) (l : List Nat) : pp F (l.map f) = pp (fun x y => F (f x) (f y)) l := by
  induction l with
  | nil => rfl
  | cons x l ih => rw [List.map_cons, pp, pp, ih, List.map_map]; rfl
theorem pp_end (F : Nat → Nat → Int) (l : List Nat) (x : Nat) : pp F (l ++ [x]) = pp F l * lp (l.map fun y => F y x) := by
  induction l with
  | nil => rfl
  | cons y l ih =>
    rw [List.cons_append, pp, pp, ih, List.map_append, lp_append, List.map_cons, List.map_cons, List.map_nil, lp_cons, lp_cons]
    show lp _ * (F y x * 1) * (_ * _) = _
    rw [Int.mul_one, Int.mul_assoc, Int.mul_assoc, ← Int.mul_assoc (F y x), Int.mul_comm (F y x), Int.mul_assoc]

def sgI (n : Nat) (f : Nat → Nat) : Int := pp (fun x y => sg (f x) (f y)) (List.range n)
theorem Pm.map_range {n : Nat} {f : Nat → Nat} (P : Pm n f) : ((List.range n).map f).Perm (List.range n) := by
  refine (List.perm_ext_iff_of_nodup ?_ List.nodup_range).2 fun x => ?_
  · rw [List.nodup_iff_pairwise_ne, List.pairwise_map]
    refine List.Pairwise.imp_of_mem (fun {a b} ha hb hab => ?_) List.pairwise_lt_range
    intro e
    have := P.inj _ _ (List.mem_range.1 ha) (List.mem_range.1 hb) e
    omega
  · rw [List.mem_range]
    constructor
    · intro h
      obtain ⟨k, hk, rfl⟩ := List.mem_map.1 h
      exact P.lt k (List.mem_range.1 hk)
    · intro h
      obtain ⟨y, hy, rfl⟩ := P.surj h
      exact List.mem_map.2 ⟨y, List.mem_range.2 hy, rfl⟩
theorem sgI_comp {n : Nat} {f g : Nat → Nat} (P : Pm n f) : sgI n (fun x => g (f x)) = sgI n f * sgI n g := by
  have h1 : sgI n (fun x => g (f x)) = pp (fun x y => sg (f x) (f y) * (sg (g (f x)) (g (f y)) * sg (f x) (f y))) (List.range n) := by
    refine pp_congr (List.Pairwise.imp_of_mem (fun {a b} ha hb hab => ?_) List.pairwise_lt_range)
    show sg (g (f a)) (g (f b)) = _
    have hne : f a ≠ f b := fun e => by have := P.inj _ _ (List.mem_range.1 ha) (List.mem_range.1 hb) e; omega
    rw [Int.mul_comm (sg (g (f a)) (g (f b))), ← Int.mul_assoc, sg_sq hne, Int.one_mul]
  rw [h1, pp_mul]
  congr 1
  rw [← pp_map (fun x y => sg (g x) (g y) * sg x y) f]
  rw [pp_perm (fun x y => by rw [sg_anti (g y) (g x), sg_anti y x, Int.neg_mul_neg]) P.map_range]
  refine pp_congr (List.Pairwise.imp (fun {a b} hab => ?_) List.pairwise_lt_range)
  have : sg a b = 1 := by unfold sg; rw [if_pos hab]
  rw [this, Int.mul_one]
theorem sgI_congr {n : Nat} {f g : Nat → Nat} (h : ∀ i, i < n → f i = g i) : sgI n f = sgI n g :=
  pp_congr (List.Pairwise.imp_of_mem (fun {a b} ha hb _ => by rw [h a (List.mem_range.1 ha), h b (List.mem_range.1 hb)]) List.pairwise_lt_range)
theorem sgI_id (n : Nat) : sgI n (fun x => x) = 1 := by
  unfold sgI
  rw [pp_congr (G := fun _ _ => 1) (List.Pairwise.imp (fun {a b} hab => by unfold sg; rw [if_pos hab]) List.pairwise_lt_range)]
  generalize List.range n = l
  induction l with
  | nil => rfl
  | cons x l ih =>
    rw [pp, ih, Int.mul_one]
    clear ih
    induction l with
    | nil => rfl
    | cons y l ih => rw [List.map_cons, lp_cons, ih]; rfl

def sw (j m x : Nat) : Nat := if x = j then m else if x = m then j else x
theorem sgI_sw : ∀ n, n < 13 → ∀ m, m < n → ∀ j, j < m → sgI n (sw j m) = -1 := by decide +kernel
theorem sw_pm {n j m : Nat} (hj : j < n) (hm : m < n) : Pm n (sw j m) := by
  refine ⟨fun i hi => ?_, fun a b ha hb e => ?_⟩
  · unfold sw; split
    · exact hm
    · split
      · exact hj
      · exact hi
  · unfold sw at e
    split at e <;> split at e <;> (try split at e) <;> (try split at e) <;> omega

/-! ### By cycles -/
def par (k : Nat) : Int := if k % 2 = 0 then 1 else -1
theorem par_add (a b : Nat) : par (a + b) = par a * par b := by
  unfold par
  split <;> split <;> split <;> first | rfl | omega
theorem par_sq (a : Nat) : par a * par a = 1 := by unfold par; split <;> rfl

theorem drop_lead {n m j : Nat} {f : Nat → Nat} (P : Pm n f) (hm : m < n) (hj : j < m) (hfj : f j = m) (hfix : ∀ x, m < x → x < n → f x = x) :
    Pm n (fun x => f (sw j m x)) ∧ ∀ x, x < n → leadB n (fun x => f (sw j m x)) x = (leadB n f x || decide (x = m)) := by
  have Q : Pm n (fun x => f (sw j m x)) := (sw_pm (by omega) hm).comp P
  refine ⟨Q, fun x hx => ?_⟩
  generalize hg : (fun x => f (sw j m x)) = g at Q ⊢
  have gm : g m = m := by rw [← hg]; show f (sw j m m) = m; unfold sw; rw [if_neg (by omega), if_pos rfl, hfj]
  have gj : g j = f m := by rw [← hg]; show f (sw j m j) = f m; unfold sw; rw [if_pos rfl]
  have go : ∀ y, y ≠ j → y ≠ m → g y = f y := fun y h1 h2 => by rw [← hg]; show f (sw j m y) = f y; unfold sw; rw [if_neg h1, if_neg h2]
  have fmlt : f m < m := by
    rcases Nat.lt_trichotomy (f m) m with h | h | h
    · exact h
    · have := P.inj m j hm (by omega) (by rw [h, hfj]); omega
    · have h1 := hfix (f m) h (P.lt m hm)
      have := P.inj _ _ (P.lt m hm) hm h1
      omega
  by_cases hxm : x = m
  · subst hxm
    have e1 : leadB n g x = true := (Q.lead hx).2 fun k => by
      have : itr g k x = x := by
        induction k with
        | zero => rfl
        | succ k ih => show g (itr g k x) = x; rw [ih, gm]
      omega
    rw [e1]; simp
  · have hd : decide (x = m) = false := by simp [hxm]
    rw [hd, Bool.or_false]
    rw [Bool.eq_iff_iff, Q.lead hx, P.lead hx]
    constructor
    · intro h k
      have key : (∃ i, itr g i x = itr f k x) ∨ (itr f k x = m ∧ ∃ i, itr g i x = j) := by
        induction k with
        | zero => exact .inl ⟨0, rfl⟩
        | succ k ih =>
          have hs : itr f (k + 1) x = f (itr f k x) := rfl
          rcases ih with ⟨i, hi⟩ | ⟨h1, i, hi⟩
          · by_cases e1 : itr f k x = j
            · exact .inr ⟨by rw [hs, e1, hfj], i, by rw [hi, e1]⟩
            · have e2 : itr f k x ≠ m := by
                rw [← hi]
                intro e
                obtain ⟨q, hq⟩ := Q.back (k := i) hx
                rw [e] at hq
                have : itr g q m = m := by
                  clear hq
                  induction q with
                  | zero => rfl
                  | succ q ih => show g (itr g q m) = m; rw [ih, gm]
                omega
              refine .inl ⟨i + 1, ?_⟩
              rw [hs, ← go _ e1 e2, ← hi]; rfl
          · refine .inl ⟨i + 1, ?_⟩
            rw [hs, h1, ← gj, ← hi]; rfl
      rcases key with ⟨i, hi⟩ | ⟨h1, i, hi⟩
      · rw [← hi]; exact h i
      · have := h i; omega
    · intro h k
      have key : ∃ i, itr f i x = itr g k x := by
        induction k with
        | zero => exact ⟨0, rfl⟩
        | succ k ih =>
          obtain ⟨i, hi⟩ := ih
          have hs : itr g (k + 1) x = g (itr g k x) := rfl
          by_cases e1 : itr g k x = j
          · refine ⟨i + 2, ?_⟩
            show f (f (itr f i x)) = _
            rw [hs, hi, e1, hfj, gj]
          · by_cases e2 : itr g k x = m
            · exact ⟨i, by rw [hs, e2, gm, hi, e2]⟩
            · exact ⟨i + 1, by rw [hs, go _ e1 e2, ← hi]; rfl⟩
      obtain ⟨i, hi⟩ := key
      rw [← hi]; exact h i
theorem countP_or_one (p : Nat → Bool) (m : Nat) : ∀ n, m < n → p m = false → (List.range n).countP (fun x => p x || decide (x = m)) = (List.range n).countP p + 1 := by
  intro n
  induction n with
  | zero => intro h; omega
  | succ n ih =>
    intro h hp
    rw [List.range_succ, List.countP_append, List.countP_append, List.countP_singleton, List.countP_singleton]
    by_cases e : m = n
    · subst e
      rw [hp]
      have : (List.range m).countP (fun x => p x || decide (x = m)) = (List.range m).countP p := List.countP_congr fun x hx => by
        have := List.mem_range.1 hx
        have hd : decide (x = m) = false := by simp; omega
        rw [hd, Bool.or_false]
      rw [this]; simp
    · rw [ih (by omega) hp]
      have hd : decide (n = m) = false := by simp; omega
      rw [hd, Bool.or_false]; omega
theorem leads_length (n : Nat) (f : Nat → Nat) (m : Nat) : (leads n f m).length = (List.range m).countP (leadB n f) := by unfold leads; rw [List.countP_eq_length_filter]
theorem sgI_par {n : Nat} (hn : n < 13) : ∀ m, m ≤ n → ∀ f, Pm n f → (∀ x, m ≤ x → x < n → f x = x) → sgI n f = par (n + (leads n f n).length) := by
  intro m
  induction m with
  | zero =>
    intro _ f P hfix
    rw [sgI_congr (g := fun x => x) (fun i hi => hfix i (by omega) hi), sgI_id]
    have : (leads n f n).length = n := by
      rw [leads_length, List.countP_eq_length.2, List.length_range]
      intro x hx
      have hx := List.mem_range.1 hx
      refine (P.lead hx).2 fun k => ?_
      have : itr f k x = x := by
        induction k with
        | zero => rfl
        | succ k ih => show f (itr f k x) = x; rw [ih, hfix x (by omega) hx]
      omega
    rw [this]
    unfold par; rw [if_pos (by omega)]
  | succ m ih =>
    intro hm f P hfix
    by_cases hfm : f m = m
    · exact ih (by omega) f P fun x h1 h2 => by
        by_cases e : x = m
        · rw [e, hfm]
        · exact hfix x (by omega) h2
    · obtain ⟨j, hj, hfj⟩ := P.surj (show m < n by omega)
      have hjm : j < m := by
        rcases Nat.lt_trichotomy j m with h | h | h
        · exact h
        · rw [h] at hfj; exact absurd hfj hfm
        · have := hfix j h hj; omega
      obtain ⟨Q, hl⟩ := drop_lead P (by omega) hjm hfj (fun x h1 h2 => hfix x (by omega) h2)
      have hI := ih (by omega) _ Q fun x h1 h2 => by
        show f (sw j m x) = x
        unfold sw
        rw [if_neg (by omega)]
        by_cases e : x = m
        · rw [if_pos e, hfj, e]
        · rw [if_neg e]; exact hfix x (by omega) h2
      rw [sgI_comp (sw_pm (by omega) (by omega)), sgI_sw n hn m (by omega) j hjm] at hI
      have hc : (leads n (fun x => f (sw j m x)) n).length = (leads n f n).length + 1 := by
        rw [leads_length, leads_length, List.countP_congr (q := fun x => leadB n f x || decide (x = m)) (fun x hx => by rw [hl x (List.mem_range.1 hx)])]
        refine countP_or_one _ m n (by omega) ?_
        rw [Bool.eq_false_iff]
        intro h
        have := (P.lead (by omega)).1 h 1
        rw [itr_one] at this
        have h3 := hfix (f m)
        rcases Nat.lt_trichotomy (f m) m with h4 | h4 | h4
        · omega
        · exact hfm h4
        · have h5 := hfix (f m) h4 (P.lt m (by omega))
          have := P.inj _ _ (P.lt m (by omega)) (by omega) h5
          omega
      rw [hc, show n + ((leads n f n).length + 1) = n + (leads n f n).length + 1 by omega, par_add] at hI
      have : par 1 = -1 := rfl
      rw [this] at hI
      omega

/-! ### By how many cycles have a length -/
def wsum (h kd : Nat → Nat) : Nat → Nat
  | 0 => 0
  | M + 1 => wsum h kd M + h M * kd M
theorem wsum_add (h k1 k2 : Nat → Nat) (M : Nat) : wsum h (fun L => k1 L + k2 L) M = wsum h k1 M + wsum h k2 M := by
  induction M with
  | zero => rfl
  | succ M ih => rw [wsum, wsum, wsum, ih, Nat.mul_add]; omega
theorem wsum_congr {h k1 k2 : Nat → Nat} {M : Nat} (e : ∀ L, L < M → k1 L = k2 L) : wsum h k1 M = wsum h k2 M := by
  induction M with
  | zero => rfl
  | succ M ih => rw [wsum, wsum, ih (fun L hL => e L (by omega)), e M (by omega)]
theorem wsum_zero (h : Nat → Nat) (M : Nat) : wsum h (fun _ => 0) M = 0 := by
  induction M with
  | zero => rfl
  | succ M ih => rw [wsum, ih]; rfl
theorem wsum_one (h : Nat → Nat) (a : Nat) : ∀ M, a < M → wsum h (fun L => if a = L then 1 else 0) M = h a := by
  intro M
  induction M with
  | zero => intro h; omega
  | succ M ih =>
    intro hM
    rw [wsum]
    by_cases e : a = M
    · subst e
      rw [wsum_congr (k2 := fun _ => 0) (fun L hL => if_neg (by omega)), wsum_zero, if_pos rfl]; omega
    · rw [ih (by omega), if_neg e]; omega
theorem wsum_list (h : Nat → Nat) (M : Nat) (ls : List Nat) (hl : ∀ x ∈ ls, x < M) : wsum h (fun L => ls.count L) M = (ls.map h).sum := by
  induction ls with
  | nil => exact wsum_zero h M
  | cons a ls ih =>
    rw [List.map_cons, List.sum_cons, wsum_congr (k2 := fun L => ls.count L + if a = L then 1 else 0) (fun L _ => by rw [List.count_cons]; simp), wsum_add, ih (fun x hx => hl x (by simp [hx])), wsum_one h a M (hl a (by simp))]
    omega
def sgK (kd : Nat → Nat) : Nat → Int
  | 0 => 1
  | M + 1 => if M % 2 = 0 ∧ kd M % 2 = 1 then - sgK kd M else sgK kd M
theorem sgK_par (kd : Nat → Nat) (M : Nat) : sgK kd M = par (wsum (· + 1) kd M) := by
  induction M with
  | zero => rfl
  | succ M ih =>
    rw [sgK, wsum, par_add, ih]
    have hm : (M + 1) * kd M % 2 = ((M + 1) % 2) * (kd M % 2) % 2 := Nat.mul_mod _ _ _
    split
    · rename_i h
      have : par ((M + 1) * kd M) = -1 := by
        unfold par
        rw [if_neg]
        rw [hm, show (M + 1) % 2 = 1 by omega, h.2]; decide
      rw [this]; omega
    · rename_i h
      have : par ((M + 1) * kd M) = 1 := by
        unfold par
        rw [if_pos]
        rw [hm]
        rcases Nat.mod_two_eq_zero_or_one M with h1 | h1
        · rcases Nat.mod_two_eq_zero_or_one (kd M) with h2 | h2
          · rw [h2, Nat.mul_zero]
          · exact absurd ⟨h1, h2⟩ h
        · rw [show (M + 1) % 2 = 0 by omega, Nat.zero_mul]
      rw [this, Int.mul_one]
theorem sum_succ (ls : List Nat) : (ls.map (· + 1)).sum = ls.sum + ls.length := by
  induction ls with
  | nil => rfl
  | cons a l ih => rw [List.map_cons, List.sum_cons, List.sum_cons, List.length_cons, ih]; omega
/-- The sign by cycles is that by pairs. -/
theorem Pm.sign {n : Nat} {f : Nat → Nat} (P : Pm n f) (hn : n < 13) : sgK (fun L => (lens n f).count L) 13 = sgI n f := by
  rw [sgK_par, wsum_list _ _ _ (fun x hx => by have := P.lens_mem hx; omega), sum_succ, P.lens_sum, sgI_par hn n (Nat.le_refl _) f P (fun x h1 h2 => by omega)]
  unfold lens
  rw [List.length_map]
theorem sgI_one (n : Nat) {f : Nat → Nat} (P : Pm n f) (hn : n < 13) : sgI n f = 1 ∨ sgI n f = -1 := by
  rw [sgI_par hn n (Nat.le_refl _) f P (fun x h1 h2 => by omega)]
  unfold par; split
  · exact .inl rfl
  · exact .inr rfl

/-! ### As the document goes: row by row -/
def sgRow (f : Nat → Nat) (i : Nat) : Nat → Int
  | 0 => 1
  | k + 1 => sgRow f i k * sg (f k) (f i)
def sgR (f : Nat → Nat) : Nat → Int
  | 0 => 1
  | i + 1 => sgR f i * sgRow f i i
theorem sgRow_lp (f : Nat → Nat) (i k : Nat) : sgRow f i k = lp ((List.range k).map fun y => sg (f y) (f i)) := by
  induction k with
  | zero => rfl
  | succ k ih => rw [sgRow, ih, List.range_succ, List.map_append, lp_append, List.map_cons, List.map_nil, lp_cons]; show _ = _ * (_ * 1); rw [Int.mul_one]
theorem sgR_sgI (n : Nat) (f : Nat → Nat) : sgR f n = sgI n f := by
  induction n with
  | zero => rfl
  | succ n ih => rw [sgR, ih, sgRow_lp]; unfold sgI; rw [List.range_succ, pp_end]

end Go.Proofs.Ytjfjdidibglhaab
