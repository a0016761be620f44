/- Redei: a tournament has an odd number of paths. Nothing of the program. -/
import Derived.Test.YtgkfddcmngodgabTrP
namespace Go.Proofs.Ytgkfddcmngodgab

theorem sP_swap : ∀ (R : List Nat) (g : Nat → Nat → List Nat → Bool), sP R (fun c R' => sP R' fun b R'' => g c b R'') = sP R (fun b R' => sP R' fun c R'' => g c b R'')
  | [], _ => rfl
  | x :: xs, g => by
    show (sP xs (fun b R => g x b R) ^^ sP xs (fun c R => g c x R ^^ sP R (fun b R'' => g c b (x :: R'')))) = (sP xs (fun c R => g c x R) ^^ sP xs (fun b R => g x b R ^^ sP R (fun c R'' => g c b (x :: R''))))
    rw [sP_add, sP_add, sP_swap xs (fun c b R'' => g c b (x :: R''))]
    cases sP xs (fun b R => g x b R) <;> cases sP xs (fun c R => g c x R) <;> cases sP xs (fun b R' => sP R' fun c R'' => g c b (x :: R'')) <;> rfl
/-- What is picked, and what is left, is the list. -/
theorem sP_congrP : ∀ {S : List Nat} {f g : Nat → List Nat → Bool}, (∀ b R, (b :: R).Perm S → f b R = g b R) → sP S f = sP S g
  | [], _, _, _ => rfl
  | x :: xs, f, g, h => by
    show (f x xs ^^ sP xs (fun b R => f b (x :: R))) = (g x xs ^^ sP xs (fun b R => g b (x :: R)))
    rw [h x xs (List.Perm.refl _), sP_congrP (S := xs) (f := fun b R => f b (x :: R)) (g := fun b R => g b (x :: R)) fun b R hp => h b (x :: R) ((List.Perm.swap x b R).trans (hp.cons x))]
theorem sP_none {S : List Nat} {f : Nat → List Nat → Bool} (h : ∀ b R, (b :: R).Perm S → f b R = false) : sP S f = false := (sP_congrP h).trans (sP_false S)
def peN (d : Nat → Nat → Bool) : Nat → List Nat → Nat → Nat → Bool
  | 0, _, a, b => d a b
  | k + 1, R, a, b => sP R fun c R' => d a c && peN d k R' c b
/-- Paths from a to b through all of a list, by twos. -/
def pe (d : Nat → Nat → Bool) (R : List Nat) (a b : Nat) : Bool := peN d R.length R a b
theorem pe_nil (d : Nat → Nat → Bool) (a b : Nat) : pe d [] a b = d a b := rfl
theorem pe_cons (d : Nat → Nat → Bool) {R : List Nat} (h : R ≠ []) (a b : Nat) : pe d R a b = sP R fun c R' => d a c && pe d R' c b := by
  cases R with
  | nil => exact absurd rfl h
  | cons x xs =>
    show sP (x :: xs) (fun c R' => d a c && peN d xs.length R' c b) = _
    refine sP_congr fun c R hl _ => ?_
    have : R.length = xs.length := by simp at hl; exact hl
    show (d a c && peN d xs.length R c b) = (d a c && peN d R.length R c b)
    rw [this]
theorem left_ne {b : Nat} {R S : List Nat} (h : (b :: R).Perm S) (hl : 2 ≤ S.length) : R ≠ [] := fun e => by
  have := h.length_eq
  rw [e] at this
  simp at this
  omega
theorem one_of {S : List Nat} (h : S ≠ []) (h2 : ¬ 2 ≤ S.length) : ∃ x, S = [x] := by
  match S, h with
  | [x], _ => exact ⟨x, rfl⟩
  | x :: y :: l, _ => simp at h2
theorem pf_pe (d : Nat → Nat → Bool) {R : List Nat} (h : R ≠ []) (a : Nat) : pf d R a = sP R fun b R' => pe d R' a b := by
  have key : ∀ (m : Nat) (R : List Nat) (a : Nat), R.length = m → R ≠ [] → pf d R a = sP R fun b R' => pe d R' a b := by
    intro m
    induction m with
    | zero => intro R a h1 h2; exact absurd (List.length_eq_zero_iff.1 h1) h2
    | succ m ih =>
      intro R a h1 h2
      by_cases hl : 2 ≤ R.length
      · rw [pf_cons d h2]
        have e1 : (sP R fun b R' => d a b && pf d R' b) = sP R fun c R1 => sP R1 fun b R2 => d a c && pe d R2 c b := by
          refine sP_congrP fun c R1 hp => ?_
          have hl1 := hp.length_eq
          simp only [List.length_cons] at hl1
          rw [ih R1 c (by omega) (left_ne hp hl)]
          rw [Bool.and_comm, ← sP_and]
          congr 1
          funext b R2
          exact Bool.and_comm _ _
        rw [e1, sP_swap R (fun c b R2 => d a c && pe d R2 c b)]
        refine sP_congrP fun b R1 hp => ?_
        rw [pe_cons d (left_ne hp hl)]
      · obtain ⟨x, rfl⟩ := one_of h2 hl
        show pf d [x] a = (pe d [] a x ^^ false)
        rw [pf_cons d (by simp)]
        show ((d a x && pf d [] x) ^^ false) = _
        rw [pf_nil, pe_nil]
        simp
  exact key R.length R a rfl h
theorem pe_back (d : Nat → Nat → Bool) {R : List Nat} (h : R ≠ []) (a b : Nat) : pe d R a b = sP R fun c R' => pe d R' a c && d c b := by
  have key : ∀ (m : Nat) (R : List Nat) (a : Nat), R.length = m → R ≠ [] → pe d R a b = sP R fun c R' => pe d R' a c && d c b := by
    intro m
    induction m with
    | zero => intro R a h1 h2; exact absurd (List.length_eq_zero_iff.1 h1) h2
    | succ m ih =>
      intro R a h1 h2
      by_cases hl : 2 ≤ R.length
      · rw [pe_cons d h2]
        have e1 : (sP R fun c R' => d a c && pe d R' c b) = sP R fun c R1 => sP R1 fun c' R2 => (d a c && pe d R2 c c') && d c' b := by
          refine sP_congrP fun c R1 hp => ?_
          have hl1 := hp.length_eq
          simp only [List.length_cons] at hl1
          rw [ih R1 c (by omega) (left_ne hp hl), Bool.and_comm, ← sP_and]
          congr 1
          funext c' R2
          cases d a c <;> cases pe d R2 c c' <;> cases d c' b <;> rfl
        rw [e1, sP_swap R (fun c c' R2 => (d a c && pe d R2 c c') && d c' b)]
        refine sP_congrP fun c' R1 hp => ?_
        rw [sP_and R1 (fun c R2 => d a c && pe d R2 c c') (d c' b), ← pe_cons d (left_ne hp hl)]
      · obtain ⟨x, rfl⟩ := one_of h2 hl
        rw [pe_cons d (by simp)]
        rfl
  exact key R.length R a rfl h
theorem pe_rev (d : Nat → Nat → Bool) : ∀ (m : Nat) (R : List Nat) (a b : Nat), R.length = m → pe d R a b = pe (fun x y => d y x) R b a
  | 0, R, a, b, h => by
    obtain rfl := List.length_eq_zero_iff.1 h
    rfl
  | m + 1, R, a, b, h => by
    have hR : R ≠ [] := fun e => by rw [e] at h; simp at h
    rw [pe_cons d hR, pe_back (fun x y => d y x) hR]
    refine sP_congrP fun c R1 hp => ?_
    have hl1 := hp.length_eq
    simp only [List.length_cons] at hl1
    rw [pe_rev d m R1 c b (by omega), Bool.and_comm]
/-- Read backwards they are as many. -/
theorem pH_rev (d : Nat → Nat → Bool) (S : List Nat) : pH (fun x y => d y x) S = pH d S := by
  by_cases hl : 2 ≤ S.length
  · have e : ∀ d : Nat → Nat → Bool, pH d S = sP S fun a R => sP R fun b R' => pe d R' a b := fun d => by
      unfold pH
      exact sP_congrP fun a R hp => pf_pe d (left_ne hp hl) a
    rw [e, e, sP_swap S (fun a b R' => pe d R' a b)]
    congr 1
    funext b R
    congr 1
    funext a R'
    exact (pe_rev d R'.length R' a b rfl).symm
  · cases S with
    | nil => rfl
    | cons x xs =>
      obtain ⟨y, e⟩ := one_of (S := x :: xs) (by simp) hl
      rw [e]
      rfl
theorem pf_congr {d d' : Nat → Nat → Bool} : ∀ (m : Nat) (R : List Nat) (a : Nat), R.length = m → (a :: R).Nodup → (∀ p q, p ∈ a :: R → q ∈ a :: R → p ≠ q → d p q = d' p q) → pf d R a = pf d' R a
  | 0, R, a, h, _, _ => by
    obtain rfl := List.length_eq_zero_iff.1 h
    rfl
  | m + 1, R, a, h, hn, hd => by
    have hR : R ≠ [] := fun e => by rw [e] at h; simp at h
    rw [pf_cons d hR, pf_cons d' hR]
    refine sP_congrP fun b R1 hp => ?_
    have hl1 := hp.length_eq
    simp only [List.length_cons] at hl1
    have hn2 := List.nodup_cons.1 hn
    have hb : b ∈ R := hp.mem_iff.1 (by simp)
    rw [hd a b (by simp) (by simp [hb]) (fun e => hn2.1 (by rw [e]; exact hb)), pf_congr m R1 b (by omega) (hp.nodup_iff.2 hn2.2) fun p q h1 h2 h3 => hd p q (List.mem_cons_of_mem _ (hp.mem_iff.1 h1)) (List.mem_cons_of_mem _ (hp.mem_iff.1 h2)) h3]
theorem pH_congr {d d' : Nat → Nat → Bool} {S : List Nat} (hn : S.Nodup) (hd : ∀ p q, p ∈ S → q ∈ S → p ≠ q → d p q = d' p q) : pH d S = pH d' S := by
  unfold pH
  refine sP_congrP fun a R hp => ?_
  exact pf_congr R.length R a rfl (hp.nodup_iff.2 hn) fun p q h1 h2 h3 => hd p q (hp.mem_iff.1 h1) (hp.mem_iff.1 h2) h3
/-- A relation with two values of its own between x and y. -/
def d2 (d : Nat → Nat → Bool) (x y : Nat) (i j : Bool) : Nat → Nat → Bool := fun p q => if p = x ∧ q = y then i else if p = y ∧ q = x then j else d p q
theorem pf_four (d : Nat → Nat → Bool) {x y : Nat} (hxy : x ≠ y) : ∀ (m : Nat) (R : List Nat) (a : Nat), R.length = m → (a :: R).Nodup →
    (((pf (d2 d x y true true) R a ^^ pf (d2 d x y true false) R a) ^^ pf (d2 d x y false true) R a) ^^ pf (d2 d x y false false) R a) = false
  | 0, R, a, h, _ => by
    obtain rfl := List.length_eq_zero_iff.1 h
    rfl
  | m + 1, R, a, h, hn => by
    have hR : R ≠ [] := fun e => by rw [e] at h; simp at h
    rw [pf_cons _ hR, pf_cons _ hR, pf_cons _ hR, pf_cons _ hR, ← sP_add, ← sP_add, ← sP_add]
    refine sP_none fun b R1 hp => ?_
    have hl1 := hp.length_eq
    simp only [List.length_cons] at hl1
    have hn2 := List.nodup_cons.1 hn
    have hb : b ∈ R := hp.mem_iff.1 (by simp)
    have hnb := hp.nodup_iff.2 hn2.2
    have haR : a ∉ b :: R1 := fun e => hn2.1 (hp.mem_iff.1 e)
    have cg : ∀ i j i' j', (∀ p q, p ∈ b :: R1 → q ∈ b :: R1 → p ≠ q → d2 d x y i j p q = d2 d x y i' j' p q) → pf (d2 d x y i j) R1 b = pf (d2 d x y i' j') R1 b := fun i j i' j' hc => pf_congr R1.length R1 b rfl hnb hc
    by_cases h1 : a = x ∧ b = y
    · have v : ∀ i j, d2 d x y i j a b = i := fun i j => by unfold d2; rw [if_pos h1]
      have e : pf (d2 d x y true true) R1 b = pf (d2 d x y true false) R1 b := cg _ _ _ _ fun p q hp' hq' _ => by
        unfold d2
        rw [if_neg (fun e => haR (by rw [h1.1, ← e.1]; exact hp')), if_neg (fun e => haR (by rw [h1.1, ← e.2]; exact hq')), if_neg (fun e => haR (by rw [h1.1, ← e.1]; exact hp')), if_neg (fun e => haR (by rw [h1.1, ← e.2]; exact hq'))]
      simp only [v, e]
      simp
    · by_cases h2 : a = y ∧ b = x
      · have v : ∀ i j, d2 d x y i j a b = j := fun i j => by unfold d2; rw [if_neg h1, if_pos h2]
        have e : pf (d2 d x y true true) R1 b = pf (d2 d x y false true) R1 b := cg _ _ _ _ fun p q hp' hq' _ => by
          unfold d2
          rw [if_neg (fun e => haR (by rw [h2.1, ← e.2]; exact hq')), if_neg (fun e => haR (by rw [h2.1, ← e.1]; exact hp')), if_neg (fun e => haR (by rw [h2.1, ← e.2]; exact hq'))]
        simp only [v, e]
        simp
      · have v : ∀ i j, d2 d x y i j a b = d a b := fun i j => by unfold d2; rw [if_neg h1, if_neg h2]
        have ih := pf_four d hxy m R1 b (by omega) hnb
        simp only [v]
        generalize pf (d2 d x y true true) R1 b = A at ih ⊢
        generalize pf (d2 d x y true false) R1 b = B at ih ⊢
        generalize pf (d2 d x y false true) R1 b = C at ih ⊢
        generalize pf (d2 d x y false false) R1 b = D at ih ⊢
        cases d a b
        · rfl
        · simpa using ih
theorem pH_four (d : Nat → Nat → Bool) {x y : Nat} (hxy : x ≠ y) {S : List Nat} (hn : S.Nodup) : (((pH (d2 d x y true true) S ^^ pH (d2 d x y true false) S) ^^ pH (d2 d x y false true) S) ^^ pH (d2 d x y false false) S) = false := by
  unfold pH
  rw [← sP_add, ← sP_add, ← sP_add]
  exact sP_none fun a R hp => pf_four d hxy R.length R a rfl (hp.nodup_iff.2 hn)
/-- Who beats whom, among some. -/
def Trn (S : List Nat) (t : Nat → Nat → Bool) : Prop := ∀ p q, p ∈ S → q ∈ S → p ≠ q → t p q = !t q p
theorem Trn.set {S : List Nat} {t : Nat → Nat → Bool} (h : Trn S t) {x y : Nat} (_hxy : x ≠ y) (i : Bool) : Trn S (d2 t x y i !i) := fun p q hp hq hne => by
  unfold d2
  by_cases h1 : p = x ∧ q = y
  · rw [if_pos h1, if_neg (fun e => hne (by rw [h1.1, e.1])), if_pos ⟨h1.2, h1.1⟩]
    simp
  · rw [if_neg h1]
    by_cases h2 : p = y ∧ q = x
    · rw [if_pos h2, if_pos ⟨h2.2, h2.1⟩]
    · rw [if_neg h2, if_neg (fun e => h2 ⟨e.2, e.1⟩), if_neg (fun e => h1 ⟨e.2, e.1⟩)]
      exact h p q hp hq hne
/-- One game more or less lost: the paths stay as many, but for twos. -/
theorem pH_flip {S : List Nat} (hn : S.Nodup) {t : Nat → Nat → Bool} (h : Trn S t) {x y : Nat} (hxy : x ≠ y) : pH (d2 t x y true false) S = pH (d2 t x y false true) S := by
  have e : pH (d2 t x y true true) S = pH (d2 t x y false false) S := by
    rw [← pH_not (d2 t x y true true) S, ← pH_rev (d2 t x y false false) S]
    refine pH_congr hn fun p q hp hq hne => ?_
    unfold d2
    by_cases h1 : p = x ∧ q = y
    · rw [if_pos h1, if_neg (fun e => hne (by rw [h1.1, e.1])), if_pos ⟨h1.2, h1.1⟩]
      rfl
    · rw [if_neg h1]
      by_cases h2 : p = y ∧ q = x
      · rw [if_pos h2, if_pos ⟨h2.2, h2.1⟩]
        rfl
      · rw [if_neg h2, if_neg (fun e => h2 ⟨e.2, e.1⟩), if_neg (fun e => h1 ⟨e.2, e.1⟩), h p q hp hq hne]
        simp
  have k := pH_four t hxy hn
  rw [e] at k
  generalize pH (d2 t x y true false) S = A at k ⊢
  generalize pH (d2 t x y false true) S = B at k ⊢
  generalize pH (d2 t x y false false) S = C at k
  cases A <;> cases B <;> cases C <;> first | rfl | exact absurd k (by decide)
theorem pH_set {S : List Nat} (hn : S.Nodup) {t : Nat → Nat → Bool} (h : Trn S t) {x y : Nat} (hx : x ∈ S) (hy : y ∈ S) (hxy : x ≠ y) (i : Bool) : pH (d2 t x y i !i) S = pH t S := by
  have e : pH t S = pH (d2 t x y (t x y) !(t x y)) S := pH_congr hn fun p q hp hq hne => by
    unfold d2
    by_cases h1 : p = x ∧ q = y
    · rw [if_pos h1, h1.1, h1.2]
    · rw [if_neg h1]
      by_cases h2 : p = y ∧ q = x
      · rw [if_pos h2, h2.1, h2.2]
        exact h y x hy hx (Ne.symm hxy)
      · rw [if_neg h2]
  rw [e]
  have k := pH_flip hn h hxy
  cases i <;> cases t x y <;> first | rfl | exact k | exact k.symm
/-- Set by the numbers' order at the pairs of a list. -/
def tO (t : Nat → Nat → Bool) : List (Nat × Nat) → Nat → Nat → Bool
  | [] => t
  | p :: ps => d2 (tO t ps) p.1 p.2 true false
theorem tO_pH {S : List Nat} (hn : S.Nodup) {t : Nat → Nat → Bool} (h : Trn S t) : ∀ ps : List (Nat × Nat), (∀ p ∈ ps, p.1 ∈ S ∧ p.2 ∈ S ∧ p.1 ≠ p.2) → Trn S (tO t ps) ∧ pH (tO t ps) S = pH t S
  | [], _ => ⟨h, rfl⟩
  | p :: ps, hp => by
    obtain ⟨h1, h2, h3⟩ := hp p (by simp)
    obtain ⟨k1, k2⟩ := tO_pH hn h ps fun q hq => hp q (by simp [hq])
    exact ⟨k1.set h3 true, (pH_set hn k1 h1 h2 h3 true).trans k2⟩
theorem tO_at {t : Nat → Nat → Bool} : ∀ {ps : List (Nat × Nat)} {a b : Nat}, (∀ p ∈ ps, p.1 < p.2) → (a, b) ∈ ps → tO t ps a b = true ∧ tO t ps b a = false
  | [], _, _, _, h => by simp at h
  | p :: ps, a, b, hp, h => by
    have hab : a < b := hp _ h
    have hpp := hp p (by simp)
    show d2 (tO t ps) p.1 p.2 true false a b = true ∧ d2 (tO t ps) p.1 p.2 true false b a = false
    unfold d2
    by_cases e : a = p.1 ∧ b = p.2
    · rw [if_pos e, if_neg (by omega), if_pos ⟨e.2, e.1⟩]
      exact ⟨rfl, rfl⟩
    · have hm : (a, b) ∈ ps := by
        rcases List.mem_cons.1 h with e1 | e1
        · exact absurd ⟨congrArg Prod.fst e1, congrArg Prod.snd e1⟩ e
        · exact e1
      obtain ⟨k1, k2⟩ := tO_at (t := t) (fun q hq => hp q (by simp [hq])) hm
      rw [if_neg e, if_neg (by omega), if_neg (by omega), if_neg (fun e' => e ⟨e'.2, e'.1⟩)]
      exact ⟨k1, k2⟩
def oB : Nat → Nat → Bool := fun p q => decide (p < q)
theorem pf_lost : ∀ (m : Nat) (R : List Nat) (a : Nat), R.length = m → (∃ c ∈ R, c < a) → pf oB R a = false
  | 0, R, a, h, ⟨c, hc, _⟩ => by
    obtain rfl := List.length_eq_zero_iff.1 h
    simp at hc
  | m + 1, R, a, h, ⟨c, hc, hca⟩ => by
    have hR : R ≠ [] := fun e => by rw [e] at h; simp at h
    rw [pf_cons _ hR]
    refine sP_none fun b R1 hp => ?_
    have hl1 := hp.length_eq
    simp only [List.length_cons] at hl1
    by_cases hab : a < b
    · have hcm : c ∈ R1 := by
        rcases List.mem_cons.1 (hp.mem_iff.2 hc) with e | e
        · omega
        · exact e
      rw [pf_lost m R1 b (by omega) ⟨c, hcm, by omega⟩]
      simp
    · have : oB a b = false := by unfold oB; simpa using hab
      rw [this]
      rfl
theorem pf_rise : ∀ (R : List Nat) (a : Nat), (a :: R).Pairwise (· < ·) → pf oB R a = true
  | [], _, _ => rfl
  | x :: xs, a, h => by
    have h1 := List.pairwise_cons.1 h
    have h2 := List.pairwise_cons.1 h1.2
    rw [pf_cons _ (by simp)]
    show ((oB a x && pf oB xs x) ^^ sP xs (fun b R => oB a b && pf oB (x :: R) b)) = true
    have e : sP xs (fun b R => oB a b && pf oB (x :: R) b) = false := sP_none fun b R hp => by
      have hb : b ∈ xs := hp.mem_iff.1 (by simp)
      rw [pf_lost (x :: R).length (x :: R) b rfl ⟨x, by simp, h2.1 b hb⟩]
      simp
    rw [e, pf_rise xs x h1.2, show oB a x = true by unfold oB; simpa using h1.1 x (by simp)]
    rfl
theorem pH_rise : ∀ {S : List Nat}, S ≠ [] → S.Pairwise (· < ·) → pH oB S = true
  | [], h, _ => absurd rfl h
  | x :: xs, _, h => by
    have h1 := List.pairwise_cons.1 h
    show (pf oB xs x ^^ sP xs (fun b R => pf oB (x :: R) b)) = true
    rw [pf_rise xs x h, sP_none fun b R hp => pf_lost (x :: R).length (x :: R) b rfl ⟨x, by simp, h1.1 b (hp.mem_iff.1 (by simp))⟩]
    rfl
/-- Redei. -/
theorem redei {n : Nat} (hn : 1 ≤ n) {t : Nat → Nat → Bool} (h : Trn (List.range n) t) : pH t (List.range n) = true := by
  have hnd : (List.range n).Nodup := List.nodup_range
  let ps : List (Nat × Nat) := (List.range n).flatMap fun b => (List.range b).map fun a => (a, b)
  have hps : ∀ p : Nat × Nat, p ∈ ps ↔ p.1 < p.2 ∧ p.2 < n := fun p => by
    show p ∈ (List.range n).flatMap (fun b => (List.range b).map fun a => (a, b)) ↔ _
    rw [List.mem_flatMap]
    constructor
    · rintro ⟨b, hb, hp⟩
      obtain ⟨a, ha, rfl⟩ := List.mem_map.1 hp
      exact ⟨List.mem_range.1 ha, List.mem_range.1 hb⟩
    · rintro ⟨h1, h2⟩
      exact ⟨p.2, List.mem_range.2 h2, List.mem_map.2 ⟨p.1, List.mem_range.2 h1, rfl⟩⟩
  obtain ⟨_, k⟩ := tO_pH hnd h ps fun p hp => by
    obtain ⟨h1, h2⟩ := (hps p).1 hp
    exact ⟨List.mem_range.2 (by omega), List.mem_range.2 h2, by omega⟩
  rw [← k, ← pH_rise (S := List.range n) (fun e => by have := congrArg List.length e; simp at this; omega) List.pairwise_lt_range]
  refine pH_congr hnd fun p q hp hq hne => ?_
  have hp' := List.mem_range.1 hp
  have hq' := List.mem_range.1 hq
  unfold oB
  rcases Nat.lt_or_gt_of_ne hne with hlt | hgt
  · rw [(tO_at (t := t) (ps := ps) (fun p hp => ((hps p).1 hp).1) ((hps (p, q)).2 ⟨hlt, hq'⟩)).1]
    simp [hlt]
  · rw [(tO_at (t := t) (ps := ps) (fun p hp => ((hps p).1 hp).1) ((hps (q, p)).2 ⟨hgt, hp'⟩)).2]
    simp
    omega
end Go.Proofs.Ytgkfddcmngodgab
