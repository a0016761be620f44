/- Parts cut from the players in the order of their scores. Nothing of the program. -/
import Derived.Test.YtgkfddcmngodgaaTrB
import Derived.Test.YtgkfddcmngodgaaTsL
namespace Go.Proofs.Ytgkfddcmngodgaa

theorem sum_full {g : Nat → Nat} {k : Nat} : ∀ {l : List Nat}, (∀ x ∈ l, g x ≤ k) → (sumL (l.map g) = l.length * k ↔ ∀ x ∈ l, g x = k)
  | [], _ => by simp [sumL]
  | x :: l, h => by
    have hx := h x (by simp)
    have hle : ∀ {l : List Nat}, (∀ x ∈ l, g x ≤ k) → sumL (l.map g) ≤ l.length * k := fun {l} => by
      induction l with
      | nil => intro _; simp [sumL]
      | cons x l ih =>
        intro h
        have h1 := h x (by simp)
        have h2 := ih fun y hy => h y (by simp [hy])
        rw [List.map_cons, sumL_cons, List.length_cons, Nat.succ_mul]
        omega
    have h1 := hle (l := l) fun y hy => h y (by simp [hy])
    have ih := sum_full (l := l) fun y hy => h y (by simp [hy])
    rw [List.map_cons, sumL_cons, List.length_cons, Nat.succ_mul]
    constructor
    · intro e
      have e1 : g x = k := by omega
      have e2 := ih.1 (by omega)
      intro y hy
      rcases List.mem_cons.1 hy with rfl | hy
      · exact e1
      · exact e2 y hy
    · intro e
      have e1 := e x (by simp)
      have e2 := ih.2 fun y hy => e y (by simp [hy])
      omega
/-- Where a mark never comes after what has none. -/
theorem part_split {p : Nat → Bool} : ∀ {O : List Nat}, O.Pairwise (fun x y => p y = true → p x = true) → ∃ C D, O = C ++ D ∧ (∀ x ∈ C, p x = true) ∧ ∀ y ∈ D, p y = false
  | [], _ => ⟨[], [], rfl, by simp, by simp⟩
  | x :: O, h => by
    have h1 := List.pairwise_cons.1 h
    cases hx : p x with
    | true =>
      obtain ⟨C, D, e, h2, h3⟩ := part_split h1.2
      refine ⟨x :: C, D, by rw [e]; rfl, fun y hy => ?_, h3⟩
      rcases List.mem_cons.1 hy with rfl | hy
      · exact hx
      · exact h2 y hy
    | false =>
      refine ⟨[], x :: O, rfl, by simp, fun y hy => ?_⟩
      rcases List.mem_cons.1 hy with rfl | hy
      · exact hx
      · cases hp : p y with
        | false => rfl
        | true => rw [h1.1 y hy hp] at hx; cases hx
theorem flat_one {X : List Nat} {h : Nat} : ∀ {n : Nat}, h < n → (List.range n).flatMap (fun a => if a = h then [X] else []) = [X]
  | 0, hh => by omega
  | n + 1, hh => by
    rw [List.range_succ, List.flatMap_append]
    have k0 : ∀ m, m ≤ h → (List.range m).flatMap (fun a => if a = h then [X] else []) = [] := fun m hm =>
      List.flatMap_eq_nil_iff.2 fun a ha => by rw [if_neg (by have := List.mem_range.1 ha; omega)]
    by_cases e : h = n
    · subst e
      rw [k0 h (Nat.le_refl _)]
      simp
    · rw [flat_one (n := n) (by omega)]
      have : (fun a => if a = h then [X] else []) n = [] := if_neg (by omega)
      simp only [List.flatMap_cons, List.flatMap_nil, List.append_nil]
      rw [if_neg (by omega)]
      rfl
section
variable {n : Nat} {t : Nat → Nat → Bool}
def scN (n : Nat) (t : Nat → Nat → Bool) (a : Nat) : Nat := (List.range n).countP (t a)
/-- All of the first beat all of the others. -/
def Bts (t : Nat → Nat → Bool) (P Q : List Nat) : Prop := ∀ x ∈ P, ∀ y ∈ Q, t x y = true
theorem cut_iff (hT : Trn (List.range n) t) (hI : ∀ a, a < n → t a a = false) {P Q : List Nat} (hp : (P ++ Q).Perm (List.range n)) : sumL (P.map (scN n t)) = prN P.length + P.length * (n - P.length) ↔ Bts t P Q := by
  have hlt : ∀ x ∈ P ++ Q, x < n := fun x hx => List.mem_range.1 (hp.mem_iff.1 hx)
  have hnd : (P ++ Q).Nodup := hp.nodup_iff.2 List.nodup_range
  have hl := hp.length_eq
  rw [List.length_append, List.length_range] at hl
  have hP := (List.nodup_append.1 hnd).1
  have g := games (S := P) hP (fun p q hp hq hne => hT p q (List.mem_range.2 (hlt p (by simp [hp]))) (List.mem_range.2 (hlt q (by simp [hq]))) hne) fun a ha => hI a (hlt a (by simp [ha]))
  have e1 : P.map (scN n t) = P.map fun a => P.countP (t a) + Q.countP (t a) := List.map_congr_left fun a _ => by
    unfold scN
    rw [← hp.countP_eq, List.countP_append]
  rw [e1, sum_add]
  have hq : n - P.length = Q.length := by omega
  rw [hq]
  have hf := sum_full (l := P) (g := fun a => Q.countP (t a)) (k := Q.length) fun x _ => List.countP_le_length
  have hg : sumL (P.map fun a => P.countP (t a)) = prN P.length := by unfold prN; omega
  rw [hg]
  have : (prN P.length + sumL (P.map fun a => Q.countP (t a)) = prN P.length + P.length * Q.length) ↔ sumL (P.map fun a => Q.countP (t a)) = P.length * Q.length := by omega
  rw [this, hf]
  unfold Bts
  constructor
  · intro h x hx y hy
    exact List.countP_eq_length.1 (h x hx) y hy
  · intro h x hx
    exact List.countP_eq_length.2 (h x hx)
/-- What is reached stays behind a cut. -/
theorem reach_on (hT : Trn (List.range n) t) (hI : ∀ a, a < n → t a a = false) {P Q : List Nat} (hp : (P ++ Q).Perm (List.range n)) (hB : Bts t P Q) {x y : Nat} (hx : x ∈ Q) (hy : y < n) (h : reB n t x y = true) : y ∈ Q := by
  have hlt : ∀ x ∈ P ++ Q, x < n := fun x hx => List.mem_range.1 (hp.mem_iff.1 hx)
  refine clo_in n x y (Nat.le_refl _) (hlt x (by simp [hx])) hy h (fun z => z ∈ Q) (fun a b ha hb hZ hab => ?_) hx
  have hm : b ∈ P ++ Q := hp.mem_iff.2 (List.mem_range.2 hb)
  rcases List.mem_append.1 hm with hm | hm
  · have := hB b hm a hZ
    have hne : a ≠ b := fun e => by subst e; rw [hI a ha] at hab; cases hab
    rw [hT.tr ha hb hne, this] at hab
    cases hab
  · exact hm
/-- Within a part each comes to all of it and all behind. -/
theorem reach_all (hT : Trn (List.range n) t) (hI : ∀ a, a < n → t a a = false) {A S B : List Nat} (hp : (A ++ (S ++ B)).Perm (List.range n)) (hs : (A ++ (S ++ B)).Pairwise fun x y => scN n t y ≤ scN n t x)
    (hno : ∀ S1 S2, S = S1 ++ S2 → S1 ≠ [] → S2 ≠ [] → ¬ Bts t (A ++ S1) (S2 ++ B)) {x : Nat} (hx : x ∈ S) : ∀ y ∈ S ++ B, reB n t x y = true := by
  have hlt : ∀ x ∈ A ++ (S ++ B), x < n := fun x hx => List.mem_range.1 (hp.mem_iff.1 hx)
  have hxn : x < n := hlt x (by simp [hx])
  have hst : ∀ {r z : Nat}, r < n → reB n t x r = true → t r z = true → reB n t x z = true := fun hr h1 h2 => reB_trans hr h1 (reB_step h2)
  have hpw : (A ++ (S ++ B)).Pairwise (fun a b => (!reB n t x b) = true → (!reB n t x a) = true) := by
    refine List.Pairwise.imp_of_mem (fun {a b} ha hb hab h => ?_) hs
    have han := hlt a ha
    have hbn := hlt b hb
    refine Classical.byContradiction fun hc => ?_
    have hra : reB n t x a = true := by simpa using hc
    have hrb : reB n t x b = false := by simpa using h
    have h1 : rcN (reB n t) x n ≤ scN n t b := by
      unfold rcN scN
      refine List.countP_mono_left fun z hz hzr => ?_
      have hzn := List.mem_range.1 hz
      have hne : b ≠ z := fun e => by rw [e, hzr] at hrb; cases hrb
      rw [hT.tr hbn hzn hne]
      cases e : t z b with
      | false => rfl
      | true => rw [hst hzn hzr e] at hrb; cases hrb
    have h2 : scN n t a < rcN (reB n t) x n := by
      unfold rcN scN
      exact countP_lt' (fun z hz hzt => hst han hra hzt) ⟨a, List.mem_range.2 han, hI a han, hra⟩
    omega
  obtain ⟨C, D, e, hC, hD⟩ := part_split hpw
  have hCD : Bts t C D := fun s hs r hr => by
    have hsn := hlt s (by rw [e]; simp [hs])
    have hrn := hlt r (by rw [e]; simp [hr])
    have h1 : reB n t x s = false := by simpa using hC s hs
    have h2 : reB n t x r = true := by simpa using hD r hr
    have hne : s ≠ r := fun k => by rw [k, h2] at h1; cases h1
    rw [hT.tr hsn hrn hne]
    cases k : t r s with
    | false => rfl
    | true => rw [hst hrn h2 k] at h1; cases h1
  have hDr : ∀ y ∈ D, reB n t x y = true := fun y hy => by simpa using hD y hy
  have hxC : x ∉ C := fun h => by have := hC x h; rw [reB_refl] at this; cases this
  rcases List.append_eq_append_iff.1 e with ⟨a', e1, e2⟩ | ⟨c', e1, e2⟩
  · -- C = A ++ a'
    rcases List.append_eq_append_iff.1 e2 with ⟨b', e3, e4⟩ | ⟨b', e3, e4⟩
    · exact absurd (by rw [e1, e3]; simp [hx]) hxC
    · by_cases h1 : a' = []
      · intro y hy
        rw [e2, h1] at hy
        exact hDr y (by simpa using hy)
      · by_cases h2 : b' = []
        · rw [h2, List.append_nil] at e3
          exact absurd (by rw [e1, ← e3]; simp [hx]) hxC
        · refine absurd ?_ (hno a' b' e3 h1 h2)
          rw [← e1, ← e4]
          exact hCD
  · intro y hy
    exact hDr y (by rw [e2]; exact List.mem_append_right _ hy)
theorem psF_run (R : Nat → Nat → Bool) (m : Nat) : ∀ {k : Nat}, (∀ i, m ≤ i → i < m + k → ptA n R (n - i) n = []) → psF n R (m + k) = psF n R m
  | 0, _ => rfl
  | k + 1, h => by
    rw [← Nat.add_assoc, psF_more, psF_run R m fun i h1 h2 => h i h1 (by omega), h (m + k) (by omega) (by omega), List.append_nil]
/-- From one cut to the next: one part. -/
theorem part_step (hT : Trn (List.range n) t) (hI : ∀ a, a < n → t a a = false) {A S B : List Nat} (hp : (A ++ (S ++ B)).Perm (List.range n)) (hs : (A ++ (S ++ B)).Pairwise fun x y => scN n t y ≤ scN n t x)
    (hno : ∀ S1 S2, S = S1 ++ S2 → S1 ≠ [] → S2 ≠ [] → ¬ Bts t (A ++ S1) (S2 ++ B)) (h1 : Bts t A (S ++ B)) (h2 : Bts t (A ++ S) B) (hS : S ≠ []) :
    psF n (reB n t) (A.length + S.length) = psF n (reB n t) A.length ++ [(List.range n).filter fun x => S.contains x] := by
  have hlt : ∀ x ∈ A ++ (S ++ B), x < n := fun x hx => List.mem_range.1 (hp.mem_iff.1 hx)
  have hnd : (A ++ (S ++ B)).Nodup := hp.nodup_iff.2 List.nodup_range
  have hl := hp.length_eq
  rw [List.length_append, List.length_append, List.length_range] at hl
  have hp2 : ((A ++ S) ++ B).Perm (List.range n) := by rw [List.append_assoc]; exact hp
  have hin : ∀ {y}, y < n → y ∈ A ∨ y ∈ S ∨ y ∈ B := fun {y} hy => by
    have := hp.mem_iff.2 (List.mem_range.2 hy)
    simpa using this
  have hd1 := List.nodup_append.1 hnd
  have hd2 := List.nodup_append.1 hd1.2.1
  have hSl : 0 < S.length := List.length_pos_iff.2 hS
  have hcnt : ∀ Q : List Nat, Q.Nodup → (∀ x ∈ Q, x < n) → (List.range n).countP (fun y => decide (y ∈ Q)) = Q.length := fun Q hQ hQn => by
    rw [List.countP_eq_length_filter]
    refine List.Perm.length_eq ((List.perm_ext_iff_of_nodup (List.nodup_range.filter _) hQ).2 fun x => ?_)
    rw [List.mem_filter, List.mem_range, decide_eq_true_eq]
    exact ⟨fun h => h.2, fun h => ⟨hQn x h, h⟩⟩
  -- how many each one comes to
  have rS : ∀ x ∈ S, rcN (reB n t) x n = n - A.length := fun x hx => by
    have : rcN (reB n t) x n = (List.range n).countP fun y => decide (y ∈ S ++ B) := by
      unfold rcN
      refine List.countP_congr fun y hy => ?_
      rw [decide_eq_true_eq]
      exact ⟨fun h => reach_on hT hI hp h1 (by simp [hx]) (List.mem_range.1 hy) h, fun h => reach_all hT hI hp hs hno hx y h⟩
    rw [this, hcnt (S ++ B) hd1.2.1 fun x hx => hlt x (by simp only [List.mem_append] at hx ⊢; exact .inr hx), List.length_append]
    omega
  have rB : ∀ x ∈ B, rcN (reB n t) x n ≤ B.length := fun x hx => by
    rw [← hcnt B hd2.2.1 fun x hx => hlt x (by simp [hx])]
    unfold rcN
    refine List.countP_mono_left fun y hy h => ?_
    rw [decide_eq_true_eq]
    exact reach_on hT hI hp2 h2 hx (List.mem_range.1 hy) h
  have rA : ∀ x ∈ A, n - A.length < rcN (reB n t) x n := fun x hx => by
    have hxs : x ∉ S ++ B := fun h => hd1.2.2 x hx x h rfl
    have hc := hcnt (x :: (S ++ B)) (List.nodup_cons.2 ⟨hxs, hd1.2.1⟩) fun y hy => by
      rcases List.mem_cons.1 hy with rfl | hy
      · exact hlt _ (by simp [hx])
      · exact hlt y (List.mem_append_right _ hy)
    rw [List.length_cons, List.length_append] at hc
    have : (List.range n).countP (fun y => decide (y ∈ x :: (S ++ B))) ≤ rcN (reB n t) x n := by
      unfold rcN
      refine List.countP_mono_left fun y hy h => ?_
      rw [decide_eq_true_eq] at h
      rcases List.mem_cons.1 h with rfl | h
      · exact reB_refl _
      · exact reB_step (h1 x hx y h)
    omega
  have who : ∀ {a i : Nat}, a < n → A.length ≤ i → i < A.length + S.length → rcN (reB n t) a n = n - i → a ∈ S ∧ i = A.length := fun {a i} ha h3 h4 h5 => by
    rcases hin ha with h | h | h
    · have := rA a h; omega
    · refine ⟨h, ?_⟩
      have := rS a h
      omega
    · have := rB a h; omega
  have hpt : ∀ a ∈ S, ptF n (reB n t) a n = (List.range n).filter fun x => S.contains x := fun a ha => by
    unfold ptF
    refine List.filter_congr fun y hy => ?_
    have hyn := List.mem_range.1 hy
    have han : a < n := hlt a (by simp [ha])
    rw [Bool.eq_iff_iff, Bool.and_eq_true, List.contains_iff_mem]
    constructor
    · rintro ⟨k1, k2⟩
      have hy1 := reach_on hT hI hp h1 (x := a) (by simp [ha]) hyn k1
      rcases List.mem_append.1 hy1 with h | h
      · exact h
      · have := reach_on hT hI hp2 h2 h han k2
        exact absurd rfl (hd2.2.2 a ha a this)
    · intro hyS
      exact ⟨reach_all hT hI hp hs hno ha y (by simp [hyS]), reach_all hT hI hp hs hno hyS a (by simp [ha])⟩
  have hne : ((List.range n).filter fun x => S.contains x) ≠ [] := fun e => by
    obtain ⟨a, ha⟩ := List.exists_mem_of_length_pos hSl
    have : a ∈ (List.range n).filter fun x => S.contains x := List.mem_filter.2 ⟨List.mem_range.2 (hlt a (by simp [ha])), List.contains_iff_mem.2 ha⟩
    rw [e] at this
    simp at this
  obtain ⟨hh1, hh2⟩ := filt_head hne
  obtain ⟨h, Hh⟩ : ∃ h, ((List.range n).filter fun x => S.contains x).getD 0 0 = h := ⟨_, rfl⟩
  rw [Hh] at hh1 hh2
  have hhS : h ∈ S := List.contains_iff_mem.1 hh1
  have hA : ptA n (reB n t) (n - A.length) n = [(List.range n).filter fun x => S.contains x] := by
    unfold ptA
    rw [← flat_one (X := (List.range n).filter fun x => S.contains x) (List.mem_range.1 hh2), List.flatMap_def, List.flatMap_def]
    congr 1
    refine List.map_congr_left fun a ha => ?_
    have han := List.mem_range.1 ha
    by_cases e : a = h
    · subst e
      rw [if_pos rfl, hpt a hhS, if_pos ⟨rS a hhS, Hh⟩]
    · rw [if_neg e, if_neg]
      rintro ⟨k1, k2⟩
      have := (who han (Nat.le_refl _) (by omega) k1).1
      rw [hpt a this, Hh] at k2
      exact e k2.symm
  have hrest : ∀ i, A.length + 1 ≤ i → i < A.length + 1 + (S.length - 1) → ptA n (reB n t) (n - i) n = [] := fun i h3 h4 => by
    unfold ptA
    refine List.flatMap_eq_nil_iff.2 fun a ha => if_neg ?_
    rintro ⟨k1, _⟩
    have := (who (List.mem_range.1 ha) (by omega) (by omega) k1).2
    omega
  rw [show A.length + S.length = A.length + 1 + (S.length - 1) by omega, psF_run (reB n t) (A.length + 1) hrest, psF_more, hA]
/-- A cut behind so many, by the sum of their scores. -/
def cutB (n : Nat) (t : Nat → Nat → Bool) (O : List Nat) (g : Nat) : Bool := sumL ((O.take g).map (scN n t)) == prN g + g * (n - g)
theorem cutB_iff (hT : Trn (List.range n) t) (hI : ∀ a, a < n → t a a = false) {O : List Nat} (hp : O.Perm (List.range n)) {g : Nat} (hg : g ≤ n) : cutB n t O g = true ↔ Bts t (O.take g) (O.drop g) := by
  have hl := hp.length_eq
  rw [List.length_range] at hl
  have := cut_iff hT hI (P := O.take g) (Q := O.drop g) (by rw [List.take_append_drop]; exact hp)
  rw [List.length_take, show min g O.length = g by omega] at this
  unfold cutB
  rw [beq_iff_eq]
  exact this
theorem cutB_zero (O : List Nat) : cutB n t O 0 = true := by unfold cutB; rw [List.take_zero]; simp [sumL, prN]
theorem cutB_all (hT : Trn (List.range n) t) (hI : ∀ a, a < n → t a a = false) {O : List Nat} (hp : O.Perm (List.range n)) : cutB n t O n = true := by
  have hl := hp.length_eq
  rw [List.length_range] at hl
  rw [cutB_iff hT hI hp (Nat.le_refl _)]
  intro x _ y hy
  rw [← hl, List.drop_length] at hy
  simp at hy
/-- The part between two cuts. -/
def sgL (O : List Nat) (f e : Nat) : List Nat := (O.drop f).take (e - f)
theorem cut_step (hT : Trn (List.range n) t) (hI : ∀ a, a < n → t a a = false) {O : List Nat} (hp : O.Perm (List.range n)) (hs : O.Pairwise fun x y => scN n t y ≤ scN n t x) {f e : Nat} (hfe : f < e) (he : e ≤ n) (hf : cutB n t O f = true) (hc : cutB n t O e = true) (hno : ∀ g, f < g → g < e → cutB n t O g = false) :
    psF n (reB n t) e = psF n (reB n t) f ++ [(List.range n).filter fun x => (sgL O f e).contains x] := by
  have hl := hp.length_eq
  rw [List.length_range] at hl
  have e1 : O.take f ++ sgL O f e = O.take e := by
    unfold sgL
    rw [List.take_drop, show f + (e - f) = e by omega]
    have : O.take f = (O.take e).take f := by rw [List.take_take]; congr 1; omega
    rw [this, List.take_append_drop]
  have e2 : sgL O f e ++ O.drop e = O.drop f := by
    unfold sgL
    have : O.drop e = (O.drop f).drop (e - f) := by rw [List.drop_drop]; congr 1; omega
    rw [this, List.take_append_drop]
  have e3 : O.take f ++ (sgL O f e ++ O.drop e) = O := by rw [e2, List.take_append_drop]
  have lA : (O.take f).length = f := by rw [List.length_take]; omega
  have lS : (sgL O f e).length = e - f := by unfold sgL; rw [List.length_take, List.length_drop]; omega
  have k := part_step hT hI (A := O.take f) (S := sgL O f e) (B := O.drop e) (by rw [e3]; exact hp) (by rw [e3]; exact hs) (fun S1 S2 h12 h1 h2 hB => ?_) (by rw [e2]; exact (cutB_iff hT hI hp (by omega)).1 hf) (by rw [e1]; exact (cutB_iff hT hI hp he).1 hc) (fun h => by rw [h] at lS; simp at lS; omega)
  · rw [lA, lS, show f + (e - f) = e by omega] at k
    exact k
  · have l1 : 0 < S1.length := List.length_pos_iff.2 h1
    have l2 : 0 < S2.length := List.length_pos_iff.2 h2
    have l3 : S1.length + S2.length = e - f := by rw [← lS, h12, List.length_append]
    have hO : O = (O.take f ++ S1) ++ (S2 ++ O.drop e) := by
      rw [h12] at e3
      conv => lhs; rw [← e3]
      simp
    have lP : (O.take f ++ S1).length = f + S1.length := by rw [List.length_append, lA]
    have t1 : O.take (f + S1.length) = O.take f ++ S1 := by
      conv => lhs; rw [hO]
      exact List.take_left' lP
    have t2 : O.drop (f + S1.length) = S2 ++ O.drop e := by
      conv => lhs; rw [hO]
      exact List.drop_left' lP
    have := (cutB_iff hT hI hp (g := f + S1.length) (by omega)).2 (by rw [t1, t2]; exact hB)
    rw [hno _ (by omega) (by omega)] at this
    cases this
/-- A part put in order. -/
theorem sg_sorted {O : List Nat} (hp : O.Perm (List.range n)) {f e : Nat} {s : List Nat} (hsp : s.Perm (sgL O f e)) (hs : s.Pairwise (· ≤ ·)) : s = (List.range n).filter fun x => (sgL O f e).contains x := by
  have hnd : O.Nodup := hp.nodup_iff.2 List.nodup_range
  have hsub : (sgL O f e).Sublist O := (List.take_sublist _ _).trans (List.drop_sublist _ _)
  have hq : ((List.range n).filter fun x => (sgL O f e).contains x).Perm (sgL O f e) := (List.perm_ext_iff_of_nodup (List.nodup_range.filter _) (hsub.nodup hnd)).2 fun x => by
    rw [List.mem_filter, List.mem_range, List.contains_iff_mem]
    exact ⟨fun h => h.2, fun h => ⟨List.mem_range.1 (hp.mem_iff.1 (hsub.subset h)), h⟩⟩
  exact List.Perm.eq_of_pairwise (le := (· ≤ ·)) (fun _ _ _ _ => Nat.le_antisymm) hs ((List.pairwise_lt_range.filter _).imp fun h => Nat.le_of_lt h) (hsp.trans hq.symm)
end
end Go.Proofs.Ytgkfddcmngodgaa
