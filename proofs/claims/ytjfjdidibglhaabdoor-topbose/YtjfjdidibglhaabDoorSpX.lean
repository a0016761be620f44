/- Each space of rows has a basis; nothing of the program. -/
import Derived.Test.YtjfjdidibglhaabDoorSpD
/- What is normal to a basis: a row for each column in which none begins; nothing of the program. -/
/- Rows made a basis column by column: swapped, multiplied, taken from one another; nothing of the program. -/
namespace Go.Proofs.YtjfjdidibglhaabDoor
variable {q n : Nat} {ad mu : Nat → Nat → Nat} {ng : Nat → Nat}

/-- The first R rows. -/
def rwF (R n : Nat) (A : Nat → Nat → Nat) : List (List Nat) := (List.range R).map fun i => ofF n (A i)
theorem mem_rwF {R n : Nat} {A : Nat → Nat → Nat} {r : List Nat} : r ∈ rwF R n A ↔ ∃ i, i < R ∧ ofF n (A i) = r := by
  unfold rwF
  rw [List.mem_map]
  exact ⟨fun ⟨i, h, e⟩ => ⟨i, List.mem_range.1 h, e⟩, fun ⟨i, h, e⟩ => ⟨i, List.mem_range.2 h, e⟩⟩
theorem ofF_congr {n : Nat} {f g : Nat → Nat} (h : ∀ i, i < n → f i = g i) : ofF n f = ofF n g := by
  unfold ofF
  exact List.map_congr_left fun i hi => h i (List.mem_range.1 hi)
theorem ofF_getD {n : Nat} (v : List Nat) (h : v.length = n) : ofF n (fun j => v.getD j 0) = v := by
  subst h
  refine List.ext_getElem (by simp [ofF]) fun i h1 h2 => ?_
  simp [ofF, List.getD_eq_getElem?_getD, h2]
/-- What columns ahead of c have come to: t rows are found, the others are 0 there. -/
structure Gz (q n : Nat) (ad mu : Nat → Nat → Nat) (R : Nat) (S : List (List Nat)) (A : Nat → Nat → Nat) (c t : Nat) (ld : Nat → Nat) : Prop where
  lt : ∀ i j, i < R → j < n → A i j < q
  same : ∀ v, Spn q ad mu n (rwF R n A) v ↔ Spn q ad mu n S v
  tR : t ≤ R
  ldc : ∀ i, i < t → ld i < c
  inc : ∀ i j, i < j → j < t → ld i < ld j
  one : ∀ i, i < t → A i (ld i) = 1
  pre : ∀ i j, i < t → j < ld i → A i j = 0
  col : ∀ i r, i < t → r < R → r ≠ i → A r (ld i) = 0
  z : ∀ r j, t ≤ r → r < R → j < c → A r j = 0
theorem rws_rwF {R : Nat} {A : Nat → Nat → Nat} (h : ∀ i j, i < R → j < n → A i j < q) : Rws q n (rwF R n A) := fun r hr => by
  obtain ⟨i, hi, rfl⟩ := mem_rwF.1 hr
  exact ofF_vc fun j hj => h i j hi hj
theorem Gz.start (n : Nat) (ad mu : Nat → Nat → Nat) {R : Nat} {A : Nat → Nat → Nat} (h : ∀ i j, i < R → j < n → A i j < q) : Gz q n ad mu R (rwF R n A) A 0 0 (fun _ => 0) :=
  ⟨h, fun _ => Iff.rfl, Nat.zero_le _, fun _ h => by omega, fun _ _ _ h => by omega, fun _ h => by omega, fun _ _ h => by omega, fun _ _ h => by omega, fun _ _ _ _ h => by omega⟩
theorem Gz.skip {R c t : Nat} {S : List (List Nat)} {A : Nat → Nat → Nat} {ld : Nat → Nat} (G : Gz q n ad mu R S A c t ld) (h : ∀ r, t ≤ r → r < R → A r c = 0) : Gz q n ad mu R S A (c + 1) t ld :=
  ⟨G.lt, G.same, G.tR, fun i hi => by have := G.ldc i hi; omega, G.inc, G.one, G.pre, G.col, fun r j h1 h2 h3 => by
    by_cases e : j = c
    · rw [e]; exact h r h1 h2
    · exact G.z r j h1 h2 (by omega)⟩
/-- Two rows swapped. -/
def swpF (A : Nat → Nat → Nat) (a k : Nat) : Nat → Nat → Nat := fun i => if i = a then A k else if i = k then A a else A i
/-- A row multiplied. -/
def sclF (mu : Nat → Nat → Nat) (A : Nat → Nat → Nat) (t e : Nat) : Nat → Nat → Nat := fun i j => if i = t then mu e (A t j) else A i j
/-- A row taken from the others. -/
def clrF (ad mu : Nat → Nat → Nat) (ng : Nat → Nat) (A : Nat → Nat → Nat) (t c : Nat) : Nat → Nat → Nat := fun i j => if i = t then A t j else ad (A i j) (mu (ng (A i c)) (A t j))
theorem swp_at (A : Nat → Nat → Nat) (a k i : Nat) : ∃ i', swpF A a k i = A i' ∧ (i = a ∧ i' = k ∨ i ≠ a ∧ i = k ∧ i' = a ∨ i ≠ a ∧ i ≠ k ∧ i' = i) := by
  unfold swpF
  by_cases e1 : i = a
  · exact ⟨k, by rw [if_pos e1], .inl ⟨e1, rfl⟩⟩
  · by_cases e2 : i = k
    · exact ⟨a, by rw [if_neg e1, if_pos e2], .inr (.inl ⟨e1, e2, rfl⟩)⟩
    · exact ⟨i, by rw [if_neg e1, if_neg e2], .inr (.inr ⟨e1, e2, rfl⟩)⟩
theorem Gz.swap {R c t k : Nat} {S : List (List Nat)} {A : Nat → Nat → Nat} {ld : Nat → Nat} (G : Gz q n ad mu R S A c t ld) (h1 : t ≤ k) (h2 : k < R) : Gz q n ad mu R S (swpF A t k) c t ld := by
  have lo : ∀ i, i < t → swpF A t k i = A i := fun i hi => by unfold swpF; rw [if_neg (by omega), if_neg (by omega)]
  have perm : ∀ r, r ∈ rwF R n (swpF A t k) ↔ r ∈ rwF R n A := by
    intro r
    rw [mem_rwF, mem_rwF]
    constructor
    · rintro ⟨i, hi, e⟩
      obtain ⟨i', e1, e2⟩ := swp_at A t k i
      exact ⟨i', by omega, by rw [← e, e1]⟩
    · rintro ⟨i, hi, e⟩
      by_cases h3 : i = t
      · refine ⟨k, h2, ?_⟩
        rw [← e]
        unfold swpF
        by_cases h4 : k = t
        · rw [if_pos h4, h3, h4]
        · rw [if_neg h4, if_pos rfl, h3]
      · by_cases h4 : i = k
        · refine ⟨t, by omega, ?_⟩
          rw [← e]
          unfold swpF
          rw [if_pos rfl, h4]
        · refine ⟨i, hi, ?_⟩
          rw [← e]
          unfold swpF
          rw [if_neg h3, if_neg h4]
  refine ⟨fun i j hi hj => ?_, fun v => ?_, G.tR, G.ldc, G.inc, fun i hi => by rw [lo i hi]; exact G.one i hi, fun i j hi hj => by rw [lo i hi]; exact G.pre i j hi hj, fun i r hi hr hne => ?_, fun r j h3 h4 h5 => ?_⟩
  · obtain ⟨i', e1, e2⟩ := swp_at A t k i
    rw [e1]
    exact G.lt i' j (by omega) hj
  · rw [← G.same v]
    exact ⟨fun h => h.mono fun r hr => (perm r).1 hr, fun h => h.mono fun r hr => (perm r).2 hr⟩
  · obtain ⟨i', e1, e2⟩ := swp_at A t k r
    rw [e1]
    exact G.col i i' hi (by omega) (by omega)
  · obtain ⟨i', e1, e2⟩ := swp_at A t k r
    rw [e1]
    exact G.z i' j (by omega) (by omega) h5
/-- The found row is made the next one. -/
theorem Gz.clear (h : FqR q ad mu ng) {R c t e : Nat} {S : List (List Nat)} {A : Nat → Nat → Nat} {ld : Nat → Nat} (G : Gz q n ad mu R S A c t ld) (hc : c < n) (ht : t < R) (he : e < q) (hi : mu e (A t c) = 1) :
    Gz q n ad mu R S (clrF ad mu ng (sclF mu A t e) t c) (c + 1) (t + 1) (fun i => if i = t then c else ld i) := by
  obtain ⟨B, hB⟩ : ∃ B, B = sclF mu A t e := ⟨_, rfl⟩
  have Blt : ∀ i j, i < R → j < n → B i j < q := fun i j hi hj => by
    rw [hB]; unfold sclF
    split
    · exact h.mu_lt _ _ he (G.lt t j ht hj)
    · exact G.lt i j hi hj
  have Bt : ∀ j, B t j = mu e (A t j) := fun j => by rw [hB]; unfold sclF; rw [if_pos rfl]
  have Bo : ∀ i j, i ≠ t → B i j = A i j := fun i j hi => by rw [hB]; unfold sclF; rw [if_neg hi]
  have Btc : B t c = 1 := by rw [Bt, hi]
  have Btz : ∀ j, j < c → B t j = 0 := fun j hj => by rw [Bt, G.z t j (Nat.le_refl _) ht hj, h.mu_zero he]
  have hA : Rws q n (rwF R n A) := rws_rwF G.lt
  have hBr : Rws q n (rwF R n B) := rws_rwF Blt
  have e1 : ∀ v, Spn q ad mu n (rwF R n B) v ↔ Spn q ad mu n (rwF R n A) v := by
    have rt : ofF n (B t) = smV mu n e (ofF n (A t)) := by
      unfold smV
      exact ofF_congr fun j hj => by rw [Bt, ofF_at _ hj]
    have vt : Vc q n (ofF n (A t)) := hA _ (mem_rwF.2 ⟨t, ht, rfl⟩)
    refine spn_same h hBr hA (fun r hr => ?_) (fun r hr => ?_)
    · obtain ⟨i, hi2, rfl⟩ := mem_rwF.1 hr
      by_cases ei : i = t
      · rw [ei, rt]
        exact (Spn.row h hA (mem_rwF.2 ⟨t, ht, rfl⟩)).sm h hA he
      · rw [ofF_congr fun j _ => Bo i j ei]
        exact Spn.row h hA (mem_rwF.2 ⟨i, hi2, rfl⟩)
    · obtain ⟨i, hi2, rfl⟩ := mem_rwF.1 hr
      by_cases ei : i = t
      · have ac : A t c < q := G.lt t c ht hc
        have k : smV mu n (A t c) (ofF n (B t)) = ofF n (A t) := by
          rw [rt, smV_sm h ac he vt, h.mu_comm _ _ ac he, hi, smV_one h vt]
        rw [ei, ← k]
        exact (Spn.row h hBr (mem_rwF.2 ⟨t, ht, rfl⟩)).sm h hBr ac
      · rw [← ofF_congr fun j _ => Bo i j ei]
        exact Spn.row h hBr (mem_rwF.2 ⟨i, hi2, rfl⟩)
  obtain ⟨C, hC⟩ : ∃ C, C = clrF ad mu ng B t c := ⟨_, rfl⟩
  rw [← hB, ← hC]
  have Ct : ∀ j, C t j = B t j := fun j => by rw [hC]; unfold clrF; rw [if_pos rfl]
  have Co : ∀ i j, i ≠ t → C i j = ad (B i j) (mu (ng (B i c)) (B t j)) := fun i j hi => by rw [hC]; unfold clrF; rw [if_neg hi]
  have ngl : ∀ i, i < R → ng (B i c) < q := fun i hi => h.ng_lt _ (Blt i c hi hc)
  have Clt : ∀ i j, i < R → j < n → C i j < q := fun i j hi2 hj => by
    by_cases ei : i = t
    · rw [ei, Ct]; exact Blt t j ht hj
    · rw [Co i j ei]
      exact h.ad_lt _ _ (Blt i j hi2 hj) (h.mu_lt _ _ (ngl i hi2) (Blt t j ht hj))
  have hCr : Rws q n (rwF R n C) := rws_rwF Clt
  have e2 : ∀ v, Spn q ad mu n (rwF R n C) v ↔ Spn q ad mu n (rwF R n B) v := by
    have vt : Vc q n (ofF n (B t)) := hBr _ (mem_rwF.2 ⟨t, ht, rfl⟩)
    have rt : ofF n (C t) = ofF n (B t) := ofF_congr fun j _ => Ct j
    have ro : ∀ i, i ≠ t → ofF n (C i) = adV ad n (ofF n (B i)) (smV mu n (ng (B i c)) (ofF n (B t))) := fun i ei => by
      unfold adV smV
      exact ofF_congr fun j hj => by rw [Co i j ei, ofF_at _ hj, ofF_at _ hj, ofF_at _ hj]
    refine spn_same h hCr hBr (fun r hr => ?_) (fun r hr => ?_)
    · obtain ⟨i, hi2, rfl⟩ := mem_rwF.1 hr
      by_cases ei : i = t
      · rw [ei, rt]
        exact Spn.row h hBr (mem_rwF.2 ⟨t, ht, rfl⟩)
      · rw [ro i ei]
        exact (Spn.row h hBr (mem_rwF.2 ⟨i, hi2, rfl⟩)).plus h hBr ((Spn.row h hBr (mem_rwF.2 ⟨t, ht, rfl⟩)).sm h hBr (ngl i hi2))
    · obtain ⟨i, hi2, rfl⟩ := mem_rwF.1 hr
      by_cases ei : i = t
      · rw [ei, ← rt]
        exact Spn.row h hCr (mem_rwF.2 ⟨t, ht, rfl⟩)
      · have vi : Vc q n (ofF n (B i)) := hBr _ (mem_rwF.2 ⟨i, hi2, rfl⟩)
        have bic := Blt i c hi2 hc
        have k : adV ad n (ofF n (C i)) (smV mu n (B i c) (ofF n (C t))) = ofF n (B i) := by
          rw [ro i ei, rt, adV_assoc h vi (smV_vc h (ngl i hi2) vt) (smV_vc h bic vt), ← ad_smV h (ngl i hi2) bic vt, h.ng_ad _ bic, smV_zero h vt, adV_zero h vi]
        rw [← k]
        exact (Spn.row h hCr (mem_rwF.2 ⟨i, hi2, rfl⟩)).plus h hCr ((Spn.row h hCr (mem_rwF.2 ⟨t, ht, rfl⟩)).sm h hCr bic)
  have ldn : ∀ i, i < t → ld i < n := fun i hi2 => by have := G.ldc i hi2; omega
  have keep : ∀ r j, r < R → r ≠ t → j < n → B t j = 0 → C r j = A r j := fun r j hr hne hj hz => by
    rw [Co r j hne, hz, h.mu_zero (ngl r hr), h.ad_zero _ (Blt r j hr hj), Bo r j hne]
  refine ⟨Clt, fun v => (e2 v).trans ((e1 v).trans (G.same v)), ht, fun i hi2 => ?_, fun i j h1 h2 => ?_, fun i hi2 => ?_, fun i j hi2 hj => ?_, fun i r hi2 hr hne => ?_, fun r j h1 h2 h3 => ?_⟩
  · show (if i = t then c else ld i) < c + 1
    split
    · omega
    · have := G.ldc i (by omega); omega
  · show (if i = t then c else ld i) < (if j = t then c else ld j)
    rw [if_neg (by omega)]
    split
    · exact G.ldc i (by omega)
    · exact G.inc i j h1 (by omega)
  · show C i (if i = t then c else ld i) = 1
    by_cases ei : i = t
    · rw [if_pos ei, ei, Ct, Btc]
    · rw [if_neg ei, keep i _ (by omega) ei (ldn i (by omega)) (Btz _ (G.ldc i (by omega)))]
      exact G.one i (by omega)
  · have hj' : j < (if i = t then c else ld i) := hj
    by_cases ei : i = t
    · rw [if_pos ei] at hj'
      rw [ei, Ct, Btz j hj']
    · rw [if_neg ei] at hj'
      have := G.ldc i (by omega)
      rw [keep i j (by omega) ei (by omega) (Btz j (by omega))]
      exact G.pre i j (by omega) hj'
  · show C r (if i = t then c else ld i) = 0
    by_cases ei : i = t
    · rw [if_pos ei, Co r c (by omega), Btc, h.mu_one _ (ngl r hr), h.ad_ng (Blt r c hr hc)]
    · rw [if_neg ei]
      have hl := G.ldc i (by omega)
      by_cases er : r = t
      · rw [er, Ct, Btz _ hl]
      · rw [keep r _ hr er (by omega) (Btz _ hl)]
        exact G.col i r (by omega) hr hne
  · have hne : r ≠ t := by omega
    by_cases ej : j = c
    · rw [ej, Co r c hne, Btc, h.mu_one _ (ngl r h2), h.ad_ng (Blt r c h2 hc)]
    · rw [keep r j h2 hne (by omega) (Btz j (by omega))]
      exact G.z r j (by omega) h2 (by omega)
/-- At the end the rows that are found are the basis. -/
theorem Gz.done (h : FqR q ad mu ng) {R t : Nat} {S : List (List Nat)} {A : Nat → Nat → Nat} {ld : Nat → Nat} (G : Gz q n ad mu R S A n t ld) : BasIs q ad mu n (Spn q ad mu n S) (rwF t n A) := by
  have tR := G.tR
  have hA : Rws q n (rwF R n A) := rws_rwF G.lt
  have ht : Rws q n (rwF t n A) := rws_rwF fun i j hi hj => G.lt i j (by omega) hj
  have hld : ∀ i, i < t → ldV (ofF n (A i)) = ld i := fun i hi => by
    have hl := G.ldc i hi
    refine ldV_is (by simp [ofF]; exact hl) ?_ fun j hj => ?_
    · rw [ofF_at _ hl, G.one i hi]; omega
    · rw [ofF_at _ (by omega)]; exact G.pre i j hi hj
  constructor
  · refine ⟨ht, fun r hr => ?_, ?_, fun r hr s hs hne => ?_⟩
    · obtain ⟨i, hi, rfl⟩ := mem_rwF.1 hr
      rw [hld i hi, ofF_at _ (G.ldc i hi)]
      exact ⟨G.ldc i hi, G.one i hi⟩
    · unfold rwF
      rw [List.pairwise_map]
      refine List.pairwise_lt_range.imp_of_mem fun {a b} ha hb hab => ?_
      have hb' := List.mem_range.1 hb
      rw [hld a (by omega), hld b hb']
      exact G.inc a b hab hb'
    · obtain ⟨i, hi, rfl⟩ := mem_rwF.1 hr
      obtain ⟨j, hj, rfl⟩ := mem_rwF.1 hs
      rw [hld i hi, ofF_at _ (G.ldc i hi)]
      exact G.col i j hi (by omega) fun e => hne (by rw [e])
  · intro v
    rw [← G.same v]
    refine spn_same h ht hA (fun r hr => ?_) (fun r hr => ?_) v
    · obtain ⟨i, hi, rfl⟩ := mem_rwF.1 hr
      exact Spn.row h hA (mem_rwF.2 ⟨i, by omega, rfl⟩)
    · obtain ⟨i, hi, rfl⟩ := mem_rwF.1 hr
      by_cases hit : i < t
      · exact Spn.row h ht (mem_rwF.2 ⟨i, hit, rfl⟩)
      · have : ofF n (A i) = zV n := ofF_congr fun j hj => G.z i j (by omega) hi hj
        rw [this]
        exact .zero
end Go.Proofs.YtjfjdidibglhaabDoor

namespace Go.Proofs.YtjfjdidibglhaabDoor
variable {q n : Nat} {ad mu : Nat → Nat → Nat} {ng : Nat → Nat}

def nrUp (ng : Nat → Nat) (c : Nat) (f : Nat → Nat) (r : List Nat) : Nat → Nat := fun j => if j = ldV r then ng (r.getD c 0) else f j
def nrF (ng : Nat → Nat) (c : Nat) (R : List (List Nat)) : Nat → Nat := R.foldl (nrUp ng c) fun j => if j = c then 1 else 0
/-- The columns in which none begins. -/
def freB (R : List (List Nat)) (c : Nat) : Bool := R.all fun r => ldV r != c
def fre (n : Nat) (R : List (List Nat)) : List Nat := (List.range n).filter (freB R)
def nrms (ng : Nat → Nat) (n : Nat) (R : List (List Nat)) : List (List Nat) := (fre n R).map fun c => ofF n (nrF ng c R)
theorem freB_iff {R : List (List Nat)} {c : Nat} : freB R c = true ↔ ∀ r ∈ R, ldV r ≠ c := by simp [freB]
theorem mem_fre {R : List (List Nat)} {c : Nat} : c ∈ fre n R ↔ c < n ∧ ∀ r ∈ R, ldV r ≠ c := by
  unfold fre
  rw [List.mem_filter, List.mem_range, freB_iff]
theorem nrUp_other {c j : Nat} : ∀ (R : List (List Nat)) (f : Nat → Nat), (∀ r ∈ R, ldV r ≠ j) → R.foldl (nrUp ng c) f j = f j
  | [], _, _ => rfl
  | r :: R, f, h => by
    rw [List.foldl_cons, nrUp_other R _ fun s hs => h s (by simp [hs])]
    unfold nrUp
    rw [if_neg fun e => h r (by simp) e.symm]
theorem nrUp_at {c : Nat} : ∀ (R : List (List Nat)) (f : Nat → Nat), (R.Pairwise fun a b => ldV a < ldV b) → ∀ r ∈ R, R.foldl (nrUp ng c) f (ldV r) = ng (r.getD c 0)
  | [], _, _, r, hr => by cases hr
  | s :: R, f, inc, r, hr => by
    rw [List.foldl_cons]
    have hi := List.pairwise_cons.1 inc
    rcases List.mem_cons.1 hr with e | e
    · subst e
      rw [nrUp_other R _ fun s hs => by have := hi.1 s hs; omega]
      unfold nrUp
      rw [if_pos rfl]
    · exact nrUp_at R _ hi.2 r e
theorem nrF_one {c : Nat} {R : List (List Nat)} (h : ∀ r ∈ R, ldV r ≠ c) : nrF ng c R c = 1 := by
  unfold nrF
  rw [nrUp_other R _ h, if_pos rfl]
theorem nrF_ld {c : Nat} {R : List (List Nat)} (hR : Rref q n R) {r : List Nat} (hr : r ∈ R) : nrF ng c R (ldV r) = ng (r.getD c 0) := nrUp_at R _ hR.inc r hr
theorem nrF_z {c j : Nat} {R : List (List Nat)} (h : ∀ r ∈ R, ldV r ≠ j) (hj : j ≠ c) : nrF ng c R j = 0 := by
  unfold nrF
  rw [nrUp_other R _ h, if_neg hj]
theorem nrF_lt (h : FqR q ad mu ng) {c : Nat} {R : List (List Nat)} (hR : Rws q n R) (j : Nat) : nrF ng c R j < q := by
  have g : ∀ (R : List (List Nat)) (f : Nat → Nat), Rws q n R → (∀ j, f j < q) → ∀ j, R.foldl (nrUp ng c) f j < q := by
    intro R
    induction R with
    | nil => intro f _ hf j; exact hf j
    | cons r R ih =>
      intro f hR hf j
      rw [List.foldl_cons]
      refine ih _ (fun s hs => hR s (by simp [hs])) (fun j => ?_) j
      unfold nrUp
      split
      · exact h.ng_lt _ ((hR r (by simp)).at h.pos c)
      · exact hf j
  exact g R _ hR (fun j => by split; exact h.one; exact h.pos) j
theorem nrms_rws (h : FqR q ad mu ng) {R : List (List Nat)} (hR : Rws q n R) : Rws q n (nrms ng n R) := fun r hr => by
  obtain ⟨c, _, rfl⟩ := List.mem_map.1 hr
  exact ofF_vc fun j _ => nrF_lt h hR j
/-- A sum in which one product counts, or two. -/
theorem dotV_lo (h : FqR q ad mu ng) {u v : List Nat} : ∀ i, (∀ j, j < i → mu (u.getD j 0) (v.getD j 0) = 0) → dotV ad mu u v i = 0
  | 0, _ => rfl
  | i + 1, k => by rw [dotV, dotV_lo h i fun j hj => k j (by omega), k i (by omega), h.ad_zero 0 h.pos]
theorem dotV_one (h : FqR q ad mu ng) {u v : List Nat} (hu : Vc q n u) (hv : Vc q n v) {a : Nat} : ∀ i, a < i → (∀ j, j < i → j ≠ a → mu (u.getD j 0) (v.getD j 0) = 0) → dotV ad mu u v i = mu (u.getD a 0) (v.getD a 0)
  | 0, ha, _ => by omega
  | i + 1, ha, k => by
    have hm := h.mu_lt _ _ (hu.at h.pos a) (hv.at h.pos a)
    by_cases e : a = i
    · subst e
      rw [dotV, dotV_lo h a fun j hj => k j (by omega) (by omega), h.zero_ad hm]
    · rw [dotV, dotV_one h hu hv i (by omega) fun j hj => k j (by omega), k i (by omega) (fun e2 => e e2.symm), h.ad_zero _ hm]
theorem dotV_two (h : FqR q ad mu ng) {u v : List Nat} (hu : Vc q n u) (hv : Vc q n v) {a b : Nat} (hab : a < b) : ∀ i, b < i → (∀ j, j < i → j ≠ a → j ≠ b → mu (u.getD j 0) (v.getD j 0) = 0) →
    dotV ad mu u v i = ad (mu (u.getD a 0) (v.getD a 0)) (mu (u.getD b 0) (v.getD b 0))
  | 0, hb, _ => by omega
  | i + 1, hb, k => by
    have hm := h.mu_lt _ _ (hu.at h.pos a) (hv.at h.pos a)
    have hm2 := h.mu_lt _ _ (hu.at h.pos b) (hv.at h.pos b)
    by_cases e : b = i
    · subst e
      rw [dotV, dotV_one h hu hv b hab fun j hj hne => k j (by omega) hne (by omega)]
    · rw [dotV, dotV_two h hu hv hab i (by omega) fun j hj => k j (by omega), k i (by omega) (by omega) (fun e2 => e e2.symm), h.ad_zero _ (h.ad_lt _ _ hm hm2)]
theorem nrms_in (h : FqR q ad mu ng) {R : List (List Nat)} (hR : Rref q n R) {v : List Nat} (hv : v ∈ nrms ng n R) : Nrm q ad mu n R v := by
  have hv' := nrms_rws h hR.rws v hv
  refine ⟨hv', fun r hr => ?_⟩
  obtain ⟨c, hc, rfl⟩ := List.mem_map.1 hv
  obtain ⟨hcn, hcl⟩ := mem_fre.1 hc
  obtain ⟨h1, h2⟩ := hR.one r hr
  have hr' := hR.rws r hr
  have hne := hcl r hr
  have rc := hr'.at h.pos c
  have va : (ofF n (nrF ng c R)).getD (ldV r) 0 = ng (r.getD c 0) := by rw [ofF_at _ h1, nrF_ld hR hr]
  have vc : (ofF n (nrF ng c R)).getD c 0 = 1 := by rw [ofF_at _ hcn, nrF_one hcl]
  have oth : ∀ j, j < n → j ≠ ldV r → j ≠ c → mu ((ofF n (nrF ng c R)).getD j 0) (r.getD j 0) = 0 := by
    intro j hj h3 h4
    by_cases hl : ∀ s ∈ R, ldV s ≠ j
    · rw [ofF_at _ hj, nrF_z hl h4, h.zero_mu (hr'.at h.pos j)]
    · have hl' : ∃ s ∈ R, ldV s = j := Classical.byContradiction fun hn => hl fun s hs e => hn ⟨s, hs, e⟩
      obtain ⟨s, hs, e⟩ := hl'
      have : r.getD j 0 = 0 := by
        rw [← e]
        exact hR.col s hs r hr fun e2 => h3 (by rw [← e, e2])
      rw [this, h.mu_zero (hv'.at h.pos j)]
  rcases Nat.lt_or_gt_of_ne hne with e | e
  · rw [dotV_two h hv' hr' e n hcn oth, va, vc, h2, h.mu_one _ (h.ng_lt _ rc), h.one_mu rc, h.ng_ad _ rc]
  · rw [dotV_two h hv' hr' e n h1 fun j hj h3 h4 => oth j hj h4 h3, va, vc, h2, h.mu_one _ (h.ng_lt _ rc), h.one_mu rc, h.ad_ng rc]
theorem nrms_span (h : FqR q ad mu ng) {R : List (List Nat)} (hR : Rref q n R) {v : List Nat} (hv : Vc q n v) : ∀ L : List Nat, (∀ c ∈ L, c ∈ fre n R) → L.Nodup → ∃ u, Spn q ad mu n (L.map fun c => ofF n (nrF ng c R)) u ∧ ∀ c ∈ fre n R, u.getD c 0 = if c ∈ L then v.getD c 0 else 0
  | [], _, _ => ⟨zV n, .zero, fun c _ => by rw [zV_at]; simp⟩
  | c0 :: L, hL, nd => by
    have nd' := List.nodup_cons.1 nd
    obtain ⟨u, hu, hc⟩ := nrms_span h hR hv L (fun c hc => hL c (by simp [hc])) nd'.2
    refine ⟨adV ad n u (smV mu n (v.getD c0 0) (ofF n (nrF ng c0 R))), .step (hu.mono fun r hr => by simp only [List.map_cons, List.mem_cons]; exact .inr hr) (by simp) (hv.at h.pos c0), fun c hcf => ?_⟩
    obtain ⟨hcn, hcl⟩ := mem_fre.1 hcf
    rw [adV_at _ _ hcn, hc c hcf, smV_at _ hcn, ofF_at _ hcn]
    by_cases e : c = c0
    · subst e
      rw [if_neg nd'.1, if_pos (by simp), nrF_one hcl, h.mu_one _ (hv.at h.pos c), h.zero_ad (hv.at h.pos c)]
    · rw [nrF_z hcl e, h.mu_zero (hv.at h.pos c0)]
      by_cases e2 : c ∈ L
      · rw [if_pos e2, if_pos (by simp [e2]), h.ad_zero _ (hv.at h.pos c)]
      · rw [if_neg e2, if_neg (by simp [e, e2]), h.ad_zero 0 h.pos]
/-- They make all that is normal. -/
theorem nrms_is (h : FqR q ad mu ng) {R : List (List Nat)} (hR : Rref q n R) (v : List Nat) : Spn q ad mu n (nrms ng n R) v ↔ Nrm q ad mu n R v := by
  have hN := nrms_rws h hR.rws
  have hS := Nrm.spc h hR.rws
  constructor
  · exact fun k => k.sub hS fun r hr => nrms_in h hR hr
  · intro k
    obtain ⟨u, hu, huc⟩ := nrms_span h hR k.1 (fre n R) (fun _ hc => hc) (List.nodup_range.filter _)
    have hu : Spn q ad mu n (nrms ng n R) u := hu
    have hu' := hu.vc h hN
    have ku : Nrm q ad mu n R u := hu.sub hS fun r hr => nrms_in h hR hr
    have e : v = u := by
      refine eq_of_sub h k.1 hu' ?_
      have kd : Nrm q ad mu n R (adV ad n v (ngV ng n u)) := hS.ad _ _ k (by rw [ngV_sm h hu']; exact hS.sm _ _ (h.ng_lt 1 h.one) ku)
      refine kd.1.ext (zV_vc h) fun j hj => ?_
      rw [zV_at]
      have hfree : ∀ c ∈ fre n R, (adV ad n v (ngV ng n u)).getD c 0 = 0 := by
        intro c hc
        have hcn := (mem_fre.1 hc).1
        rw [adV_at _ _ hcn, show (ngV ng n u).getD c 0 = ng (u.getD c 0) from ofF_at _ hcn, huc c hc, if_pos hc, h.ad_ng (k.1.at h.pos c)]
      by_cases hl : ∀ s ∈ R, ldV s ≠ j
      · exact hfree j (mem_fre.2 ⟨hj, hl⟩)
      · have hl' : ∃ s ∈ R, ldV s = j := Classical.byContradiction fun hn => hl fun s hs e => hn ⟨s, hs, e⟩
        obtain ⟨s, hs, e⟩ := hl'
        have hd := kd.2 s hs
        obtain ⟨h1, h2⟩ := hR.one s hs
        rw [dotV_one h kd.1 (hR.rws s hs) n h1 fun i hi hne => ?_, h2, h.mu_one _ (kd.1.at h.pos _), e] at hd
        · exact hd
        · by_cases hl2 : ∀ r ∈ R, ldV r ≠ i
          · rw [hfree i (mem_fre.2 ⟨hi, hl2⟩), h.zero_mu ((hR.rws s hs).at h.pos i)]
          · have hl3 : ∃ r ∈ R, ldV r = i := Classical.byContradiction fun hn => hl2 fun s hs e => hn ⟨s, hs, e⟩
            obtain ⟨r, hr, e3⟩ := hl3
            have : s.getD i 0 = 0 := by
              rw [← e3]
              exact hR.col r hr s hs fun e2 => hne (by rw [← e3, e2])
            rw [this, h.mu_zero (kd.1.at h.pos i)]
    rw [e]; exact hu
/-- A basis of what is normal to rows, by the basis of the rows. -/
theorem nrm_basis (h : FqR q ad mu ng) {S X U : List (List Nat)} (hS : Rws q n S) (hX : BasIs q ad mu n (Spn q ad mu n S) X) (hU : BasIs q ad mu n (Spn q ad mu n (nrms ng n X)) U) : BasIs q ad mu n (Nrm q ad mu n S) U :=
  hU.congr fun v => by rw [nrms_is h hX.rref v, nrm_same h hX.rref.rws hS hX.same v]
end Go.Proofs.YtjfjdidibglhaabDoor

namespace Go.Proofs.YtjfjdidibglhaabDoor
variable {q n : Nat} {ad mu : Nat → Nat → Nat} {ng : Nat → Nat}
theorem gz_ex (h : FqR q ad mu ng) {S : List (List Nat)} {R : Nat} {A : Nat → Nat → Nat} (hA : ∀ i j, i < R → j < n → A i j < q) (hS : rwF R n A = S) : ∀ c, c ≤ n → ∃ M t ld, Gz q n ad mu R S M c t ld
  | 0, _ => ⟨A, 0, _, by rw [← hS]; exact Gz.start n ad mu hA⟩
  | c + 1, hc => by
    obtain ⟨M, t, ld, G⟩ := gz_ex h hA hS c (by omega)
    by_cases e : ∀ r, t ≤ r → r < R → M r c = 0
    · exact ⟨M, t, ld, G.skip e⟩
    · have : ∃ k, t ≤ k ∧ k < R ∧ M k c ≠ 0 := Classical.byContradiction fun k => e fun r h1 h2 => Classical.byContradiction fun h3 => k ⟨r, h1, h2, h3⟩
      obtain ⟨k, h1, h2, h3⟩ := this
      have G2 := G.swap h1 h2
      have hm : swpF M t k t c ≠ 0 := by unfold swpF; rw [if_pos rfl]; exact h3
      have hl := G2.lt t c (by omega) (by omega)
      obtain ⟨u, hu, e⟩ := h.inv _ (by omega) hl
      exact ⟨_, _, _, G2.clear h (by omega) (by omega) hu (by rw [h.mu_comm _ _ hu hl]; exact e)⟩
theorem basis_ex (h : FqR q ad mu ng) {S : List (List Nat)} (hS : Rws q n S) : ∃ X, BasIs q ad mu n (Spn q ad mu n S) X := by
  have key : rwF S.length n (fun i j => (S.getD i []).getD j 0) = S := by
    refine List.ext_getElem (by simp [rwF]) fun i h1 h2 => ?_
    have : (rwF S.length n (fun i j => (S.getD i []).getD j 0))[i] = ofF n (fun j => (S.getD i []).getD j 0) := by simp [rwF]
    rw [this]
    have e : S.getD i [] = S[i] := by simp [List.getD_eq_getElem?_getD, h2]
    rw [e]
    exact ofF_getD _ (hS _ (List.getElem_mem h2)).len
  obtain ⟨M, t, ld, G⟩ := gz_ex h (S := S) (R := S.length) (A := fun i j => (S.getD i []).getD j 0) (fun i j hi _ => by
    have e : S.getD i [] = S[i] := by simp [List.getD_eq_getElem?_getD, hi]
    show (S.getD i []).getD j 0 < q
    rw [e]
    exact (hS _ (List.getElem_mem hi)).at h.pos j) key n (Nat.le_refl _)
  exact ⟨_, G.done h⟩
end Go.Proofs.YtjfjdidibglhaabDoor
