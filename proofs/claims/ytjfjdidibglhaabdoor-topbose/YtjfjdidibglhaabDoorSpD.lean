/- How many rows bases have: Grassmann; what is normal to the normal; nothing of the program. -/
import Derived.Test.YtjfjdidibglhaabDoorSpF
/- Rows in the form that the document calls a basis: the first element that is not 0 is 1, further right than that of the row ahead, alone in its column; nothing of the program. -/
/- Spaces: what can be made of rows; nothing of the program. -/
namespace Go.Proofs.YtjfjdidibglhaabDoor
variable {q n : Nat} {ad mu : Nat → Nat → Nat} {ng : Nat → Nat}

/-- What can be made of rows. -/
inductive Spn (q : Nat) (ad mu : Nat → Nat → Nat) (n : Nat) (R : List (List Nat)) : List Nat → Prop
  | zero : Spn q ad mu n R (zV n)
  | step {v r : List Nat} {c : Nat} : Spn q ad mu n R v → r ∈ R → c < q → Spn q ad mu n R (adV ad n v (smV mu n c r))
/-- A set of lists that is closed. -/
structure Spc (q : Nat) (ad mu : Nat → Nat → Nat) (n : Nat) (V : List Nat → Prop) : Prop where
  vc : ∀ v, V v → Vc q n v
  zero : V (zV n)
  ad : ∀ u v, V u → V v → V (adV ad n u v)
  sm : ∀ c v, c < q → V v → V (smV mu n c v)
def Rws (q n : Nat) (R : List (List Nat)) : Prop := ∀ r ∈ R, Vc q n r
theorem Spn.vc (h : FqR q ad mu ng) {R : List (List Nat)} (hR : Rws q n R) {v : List Nat} (k : Spn q ad mu n R v) : Vc q n v := by
  induction k with
  | zero => exact zV_vc h
  | step _ hr hc ih => exact adV_vc h ih (smV_vc h hc (hR _ hr))
theorem Spn.plus (h : FqR q ad mu ng) {R : List (List Nat)} (hR : Rws q n R) {u v : List Nat} (hu : Spn q ad mu n R u) (hv : Spn q ad mu n R v) : Spn q ad mu n R (adV ad n u v) := by
  induction hv with
  | zero => rw [adV_zero h (hu.vc h hR)]; exact hu
  | step k hr hc ih =>
    rw [← adV_assoc h (hu.vc h hR) (k.vc h hR) (smV_vc h hc (hR _ hr))]
    exact .step ih hr hc
theorem Spn.sm (h : FqR q ad mu ng) {R : List (List Nat)} (hR : Rws q n R) {c : Nat} {v : List Nat} (hc : c < q) (hv : Spn q ad mu n R v) : Spn q ad mu n R (smV mu n c v) := by
  induction hv with
  | zero => rw [smV_z h hc]; exact .zero
  | step k hr hd ih =>
    rw [smV_ad h hc (k.vc h hR) (smV_vc h hd (hR _ hr)), smV_sm h hc hd (hR _ hr)]
    exact .step ih hr (h.mu_lt _ _ hc hd)
theorem Spn.spc (h : FqR q ad mu ng) {R : List (List Nat)} (hR : Rws q n R) : Spc q ad mu n (Spn q ad mu n R) :=
  ⟨fun _ k => k.vc h hR, .zero, fun _ _ a b => a.plus h hR b, fun _ _ hc a => a.sm h hR hc⟩
theorem Spn.row (h : FqR q ad mu ng) {R : List (List Nat)} (hR : Rws q n R) {r : List Nat} (hr : r ∈ R) : Spn q ad mu n R r := by
  have k := Spn.step (q := q) (ad := ad) (mu := mu) (n := n) (R := R) .zero hr h.one
  rw [smV_one h (hR r hr), zero_adV h (hR r hr)] at k
  exact k
theorem Spn.sub {R : List (List Nat)} {V : List Nat → Prop} (hV : Spc q ad mu n V) (hr : ∀ r ∈ R, V r) {v : List Nat} (k : Spn q ad mu n R v) : V v := by
  induction k with
  | zero => exact hV.zero
  | step _ hr' hc ih => exact hV.ad _ _ ih (hV.sm _ _ hc (hr _ hr'))
/-- Two lists of rows, each made of the other: one space. -/
theorem spn_same (h : FqR q ad mu ng) {R S : List (List Nat)} (hR : Rws q n R) (hS : Rws q n S) (h1 : ∀ r ∈ R, Spn q ad mu n S r) (h2 : ∀ s ∈ S, Spn q ad mu n R s) (v : List Nat) : Spn q ad mu n R v ↔ Spn q ad mu n S v :=
  ⟨fun k => k.sub (Spn.spc h hS) h1, fun k => k.sub (Spn.spc h hR) h2⟩
theorem Spn.mono {R S : List (List Nat)} (hs : ∀ r ∈ R, r ∈ S) {v : List Nat} (k : Spn q ad mu n R v) : Spn q ad mu n S v := by
  induction k with
  | zero => exact .zero
  | step _ hr hc ih => exact .step ih (hs _ hr) hc
/-- One row more. -/
theorem spn_snoc (h : FqR q ad mu ng) {R : List (List Nat)} {r : List Nat} (hR : Rws q n R) (hr : Vc q n r) (v : List Nat) : Spn q ad mu n (R ++ [r]) v ↔ ∃ u c, Spn q ad mu n R u ∧ c < q ∧ v = adV ad n u (smV mu n c r) := by
  constructor
  · intro k
    induction k with
    | zero => exact ⟨zV n, 0, .zero, h.pos, by rw [smV_zero h hr, adV_zero h (zV_vc h)]⟩
    | step k hr' hc ih =>
      obtain ⟨u, d, hu, hd, rfl⟩ := ih
      have hu' := hu.vc h hR
      rcases List.mem_append.1 hr' with hm | hm
      · refine ⟨_, d, .step hu hm hc, hd, ?_⟩
        have hs := hR _ hm
        rw [adV_assoc h hu' (smV_vc h hd hr) (smV_vc h hc hs), adV_comm h (smV_vc h hd hr) (smV_vc h hc hs), ← adV_assoc h hu' (smV_vc h hc hs) (smV_vc h hd hr)]
      · obtain rfl := List.mem_singleton.1 hm
        exact ⟨u, ad d _, hu, h.ad_lt _ _ hd hc, by rw [ad_smV h hd hc hr, adV_assoc h hu' (smV_vc h hd hr) (smV_vc h hc hr)]⟩
  · rintro ⟨u, c, hu, hc, rfl⟩
    exact .step (hu.mono fun r hr => by simp [hr]) (by simp) hc
/-- A space of two. -/
def Both2 (ad : Nat → Nat → Nat) (n : Nat) (V W : List Nat → Prop) (v : List Nat) : Prop := ∃ a b, V a ∧ W b ∧ v = adV ad n a b
theorem spn_append (h : FqR q ad mu ng) {R S : List (List Nat)} (hR : Rws q n R) (hS : Rws q n S) (v : List Nat) : Spn q ad mu n (R ++ S) v ↔ Both2 ad n (Spn q ad mu n R) (Spn q ad mu n S) v := by
  constructor
  · intro k
    induction k with
    | zero => exact ⟨zV n, zV n, .zero, .zero, by rw [adV_zero h (zV_vc h)]⟩
    | step k hr hc ih =>
      obtain ⟨a, b, ha, hb, rfl⟩ := ih
      have ha' := ha.vc h hR
      have hb' := hb.vc h hS
      rcases List.mem_append.1 hr with hm | hm
      · have hs := smV_vc h hc (hR _ hm)
        refine ⟨_, b, .step ha hm hc, hb, ?_⟩
        rw [adV_assoc h ha' hb' hs, adV_comm h hb' hs, ← adV_assoc h ha' hs hb']
      · have hs := smV_vc h hc (hS _ hm)
        exact ⟨a, _, ha, .step hb hm hc, by rw [adV_assoc h ha' hb' hs]⟩
  · rintro ⟨a, b, ha, hb, rfl⟩
    have hRS : Rws q n (R ++ S) := fun r hr => (List.mem_append.1 hr).elim (hR r) (hS r)
    exact (ha.mono fun r hr => by simp [hr]).plus h hRS (hb.mono fun r hr => by simp [hr])
/-- The sum of the products, place by place. -/
def dotV (ad mu : Nat → Nat → Nat) (u v : List Nat) : Nat → Nat
  | 0 => 0
  | i + 1 => ad (dotV ad mu u v i) (mu (u.getD i 0) (v.getD i 0))
theorem dotV_lt (h : FqR q ad mu ng) {u v : List Nat} (hu : Vc q n u) (hv : Vc q n v) : ∀ i, dotV ad mu u v i < q
  | 0 => h.pos
  | i + 1 => h.ad_lt _ _ (dotV_lt h hu hv i) (h.mu_lt _ _ (hu.at h.pos i) (hv.at h.pos i))
theorem dotV_comm (h : FqR q ad mu ng) {u v : List Nat} (hu : Vc q n u) (hv : Vc q n v) : ∀ i, dotV ad mu u v i = dotV ad mu v u i
  | 0 => rfl
  | i + 1 => by rw [dotV, dotV, dotV_comm h hu hv i, h.mu_comm _ _ (hu.at h.pos i) (hv.at h.pos i)]
theorem dotV_ad (h : FqR q ad mu ng) {u v w : List Nat} (hu : Vc q n u) (hv : Vc q n v) (hw : Vc q n w) : ∀ i, i ≤ n → dotV ad mu (adV ad n u v) w i = ad (dotV ad mu u w i) (dotV ad mu v w i)
  | 0, _ => (h.ad_zero 0 h.pos).symm
  | i + 1, hi => by
    have a1 := hu.at h.pos i
    have a2 := hv.at h.pos i
    have a3 := hw.at h.pos i
    rw [dotV, dotV, dotV, dotV_ad h hu hv hw i (by omega), adV_at _ _ (show i < n by omega), h.ad_mu a1 a2 a3]
    exact h.ad_swap (dotV_lt h hu hw i) (dotV_lt h hv hw i) (h.mu_lt _ _ a1 a3) (h.mu_lt _ _ a2 a3)
theorem dotV_sm (h : FqR q ad mu ng) {c : Nat} {u w : List Nat} (hc : c < q) (hu : Vc q n u) (hw : Vc q n w) : ∀ i, i ≤ n → dotV ad mu (smV mu n c u) w i = mu c (dotV ad mu u w i)
  | 0, _ => (h.mu_zero hc).symm
  | i + 1, hi => by
    have a1 := hu.at h.pos i
    have a3 := hw.at h.pos i
    rw [dotV, dotV, dotV_sm h hc hu hw i (by omega), smV_at _ (show i < n by omega), h.mu_assoc _ _ _ hc a1 a3, h.mu_ad _ _ _ hc (dotV_lt h hu hw i) (h.mu_lt _ _ a1 a3)]
theorem dotV_z (h : FqR q ad mu ng) {w : List Nat} (hw : Vc q n w) : ∀ i, dotV ad mu (zV n) w i = 0
  | 0 => rfl
  | i + 1 => by rw [dotV, dotV_z h hw i, zV_at, h.zero_mu (hw.at h.pos i), h.ad_zero 0 h.pos]
/-- What is normal to rows. -/
def Nrm (q : Nat) (ad mu : Nat → Nat → Nat) (n : Nat) (R : List (List Nat)) (v : List Nat) : Prop := Vc q n v ∧ ∀ r ∈ R, dotV ad mu v r n = 0
theorem Nrm.spc (h : FqR q ad mu ng) {R : List (List Nat)} (hR : Rws q n R) : Spc q ad mu n (Nrm q ad mu n R) where
  vc := fun _ k => k.1
  zero := ⟨zV_vc h, fun r hr => dotV_z h (hR r hr) n⟩
  ad := fun u v ku kv => ⟨adV_vc h ku.1 kv.1, fun r hr => by rw [dotV_ad h ku.1 kv.1 (hR r hr) n (Nat.le_refl _), ku.2 r hr, kv.2 r hr, h.ad_zero 0 h.pos]⟩
  sm := fun c v hc k => ⟨smV_vc h hc k.1, fun r hr => by rw [dotV_sm h hc k.1 (hR r hr) n (Nat.le_refl _), k.2 r hr, h.mu_zero hc]⟩
/-- It is normal to all that is made of them. -/
theorem Nrm.all (h : FqR q ad mu ng) {R : List (List Nat)} (hR : Rws q n R) {v w : List Nat} (k : Nrm q ad mu n R v) (hw : Spn q ad mu n R w) : dotV ad mu v w n = 0 := by
  induction hw with
  | zero => rw [dotV_comm h k.1 (zV_vc h), dotV_z h k.1]
  | step kw hr hc ih =>
    have hw' := kw.vc h hR
    have hr' := hR _ hr
    rw [dotV_comm h k.1 (adV_vc h hw' (smV_vc h hc hr')), dotV_ad h hw' (smV_vc h hc hr') k.1 n (Nat.le_refl _), dotV_sm h hc hr' k.1 n (Nat.le_refl _),
      dotV_comm h hw' k.1, ih, dotV_comm h hr' k.1, k.2 _ hr, h.mu_zero hc, h.ad_zero 0 h.pos]
theorem nrm_same (h : FqR q ad mu ng) {R S : List (List Nat)} (hR : Rws q n R) (hS : Rws q n S) (e : ∀ v, Spn q ad mu n R v ↔ Spn q ad mu n S v) (v : List Nat) : Nrm q ad mu n R v ↔ Nrm q ad mu n S v :=
  ⟨fun k => ⟨k.1, fun s hs => k.all h hR ((e s).2 (Spn.row h hS hs))⟩, fun k => ⟨k.1, fun r hr => k.all h hS ((e r).1 (Spn.row h hR hr))⟩⟩
theorem nrm_append {R S : List (List Nat)} (v : List Nat) : Nrm q ad mu n (R ++ S) v ↔ Nrm q ad mu n R v ∧ Nrm q ad mu n S v := by
  constructor
  · intro k
    exact ⟨⟨k.1, fun r hr => k.2 r (by simp [hr])⟩, ⟨k.1, fun r hr => k.2 r (by simp [hr])⟩⟩
  · rintro ⟨k1, k2⟩
    exact ⟨k1.1, fun r hr => (List.mem_append.1 hr).elim (k1.2 r) (k2.2 r)⟩
end Go.Proofs.YtjfjdidibglhaabDoor

namespace Go.Proofs.YtjfjdidibglhaabDoor
variable {q n : Nat} {ad mu : Nat → Nat → Nat} {ng : Nat → Nat}

/-- Where the first element stands that is not 0 (the length, if there is none). -/
def ldV (v : List Nat) : Nat := v.findIdx fun x => x != 0
theorem ldV_lo {v : List Nat} {j : Nat} (h : j < ldV v) : v.getD j 0 = 0 := by
  have hj : j < v.length := Nat.lt_of_lt_of_le h List.findIdx_le_length
  have := List.not_of_lt_findIdx h
  simpa [List.getD_eq_getElem?_getD, hj] using this
theorem ldV_hit {v : List Nat} (h : ldV v < v.length) : v.getD (ldV v) 0 ≠ 0 := by
  have := List.findIdx_getElem (p := fun x => x != 0) (xs := v) (w := h)
  have e : v.getD (ldV v) 0 = v[ldV v]'h := by rw [List.getD_eq_getElem?_getD, List.getElem?_eq_getElem h]; rfl
  rw [e]
  unfold ldV
  simpa using this
theorem ldV_is {v : List Nat} {k : Nat} (hk : k < v.length) (h0 : v.getD k 0 ≠ 0) (h : ∀ j, j < k → v.getD j 0 = 0) : ldV v = k := by
  rcases Nat.lt_trichotomy (ldV v) k with e | e | e
  · exact absurd (h _ e) (ldV_hit (by omega))
  · exact e
  · exact absurd (ldV_lo e) h0
/-- A basis. -/
structure Rref (q n : Nat) (R : List (List Nat)) : Prop where
  rws : Rws q n R
  one : ∀ r ∈ R, ldV r < n ∧ r.getD (ldV r) 0 = 1
  inc : R.Pairwise fun a b => ldV a < ldV b
  col : ∀ r ∈ R, ∀ s ∈ R, r ≠ s → s.getD (ldV r) 0 = 0
theorem Rref.tail {r : List Nat} {R : List (List Nat)} (h : Rref q n (r :: R)) : Rref q n R :=
  ⟨fun x hx => h.rws x (by simp [hx]), fun x hx => h.one x (by simp [hx]), (List.pairwise_cons.1 h.inc).2, fun x hx y hy => h.col x (by simp [hx]) y (by simp [hy])⟩
theorem Rref.lt {r : List Nat} {R : List (List Nat)} (h : Rref q n (r :: R)) {s : List Nat} (hs : s ∈ R) : ldV r < ldV s := (List.pairwise_cons.1 h.inc).1 s hs
theorem Rref.nil : Rref q n [] := ⟨fun _ h => by simp at h, fun _ h => by simp at h, List.Pairwise.nil, fun _ h => by simp at h⟩
/-- One row ahead. -/
theorem spn_cons (h : FqR q ad mu ng) {R : List (List Nat)} {r : List Nat} (hR : Rws q n R) (hr : Vc q n r) (v : List Nat) : Spn q ad mu n (r :: R) v ↔ ∃ c u, c < q ∧ Spn q ad mu n R u ∧ v = adV ad n (smV mu n c r) u := by
  constructor
  · intro k
    have k2 : Spn q ad mu n (R ++ [r]) v := k.mono fun x hx => by
      rcases List.mem_cons.1 hx with e | e <;> simp [e]
    obtain ⟨u, c, hu, hc, e⟩ := (spn_snoc h hR hr v).1 k2
    exact ⟨c, u, hc, hu, by rw [e, adV_comm h (hu.vc h hR) (smV_vc h hc hr)]⟩
  · rintro ⟨c, u, hc, hu, e⟩
    have k2 := (spn_snoc h hR hr v).2 ⟨u, c, hu, hc, by rw [e, adV_comm h (smV_vc h hc hr) (hu.vc h hR)]⟩
    exact k2.mono fun x hx => by
      rcases List.mem_append.1 hx with e | e
      · simp [e]
      · rw [List.mem_singleton.1 e]; simp
/-- Where all rows are 0, all that is made of them is. -/
theorem Spn.col0 (h : FqR q ad mu ng) {R : List (List Nat)} {j : Nat} (hj : j < n) (hz : ∀ r ∈ R, r.getD j 0 = 0) {v : List Nat} (k : Spn q ad mu n R v) : v.getD j 0 = 0 := by
  induction k with
  | zero => exact zV_at j
  | step _ hr hc ih => rw [adV_at _ _ hj, ih, smV_at _ hj, hz _ hr, h.mu_zero hc, h.ad_zero 0 h.pos]
/-- What is made of a basis begins where one of its rows does. -/
theorem Rref.lead (h : FqR q ad mu ng) : ∀ {R : List (List Nat)}, Rref q n R → ∀ {v : List Nat}, Spn q ad mu n R v → v ≠ zV n → ∃ r ∈ R, ldV v = ldV r
  | [], _, v, k, h0 => by
    exfalso
    refine h0 ?_
    cases k with
    | zero => rfl
    | step _ hr _ => simp at hr
  | r :: R, hR, v, k, h0 => by
    have hr := hR.rws r (by simp)
    obtain ⟨c, u, hc, hu, e⟩ := (spn_cons h hR.tail.rws hr v).1 k
    have h1 := hR.one r (by simp)
    have hu' := hu.vc h hR.tail.rws
    by_cases hc0 : c = 0
    · subst hc0
      rw [smV_zero h hr, zero_adV h hu'] at e
      subst e
      obtain ⟨s, hs, e⟩ := Rref.lead h hR.tail hu h0
      exact ⟨s, by simp [hs], e⟩
    · have hv : Vc q n v := by rw [e]; exact adV_vc h (smV_vc h hc hr) hu'
      have uz : ∀ j, j ≤ ldV r → j < n → u.getD j 0 = 0 := fun j hj hn => by
        rcases Nat.lt_or_eq_of_le hj with g | g
        · exact hu.col0 h hn fun s hs => ldV_lo (Nat.lt_trans g (hR.lt hs))
        · exact hu.col0 h hn fun s hs => by
            rw [g]
            exact hR.col r (by simp) s (by simp [hs]) fun q => by have := hR.lt hs; rw [q] at this; omega
      refine ⟨r, by simp, ldV_is (by rw [hv.len]; exact h1.1) ?_ fun j hj => ?_⟩
      · rw [e, adV_at _ _ h1.1, smV_at _ h1.1, h1.2, h.mu_one c hc, uz _ (Nat.le_refl _) h1.1, h.ad_zero c hc]
        exact hc0
      · rw [e, adV_at _ _ (by omega), smV_at _ (by omega), ldV_lo hj, h.mu_zero hc, uz j (by omega) (by omega), h.ad_zero 0 h.pos]
theorem Rref.zero (h : FqR q ad mu ng) {R : List (List Nat)} (hR : Rref q n R) {v : List Nat} (k : Spn q ad mu n R v) (hz : ∀ r ∈ R, v.getD (ldV r) 0 = 0) : v = zV n := by
  by_cases e : v = zV n
  · exact e
  · obtain ⟨r, hr, e2⟩ := hR.lead h k e
    have hv := k.vc h hR.rws
    have := ldV_hit (v := v) (by rw [hv.len, e2]; exact (hR.one r hr).1)
    rw [e2] at this
    exact absurd (hz r hr) this
theorem eq_of_sub (h : FqR q ad mu ng) {u v : List Nat} (hu : Vc q n u) (hv : Vc q n v) (e : adV ad n u (ngV ng n v) = zV n) : u = v := by
  have k : adV ad n (adV ad n u (ngV ng n v)) v = adV ad n (zV n) v := by rw [e]
  rw [adV_assoc h hu (ngV_vc h hv) hv, adV_comm h (ngV_vc h hv) hv, adV_ng h hv, adV_zero h hu, zero_adV h hv] at k
  exact k
/-- There is but one that is as a row of the basis must be. -/
theorem Rref.only (h : FqR q ad mu ng) {R : List (List Nat)} (hR : Rref q n R) {r v : List Nat} (hr : r ∈ R) (k : Spn q ad mu n R v) (h1 : v.getD (ldV r) 0 = 1) (h0 : ∀ s ∈ R, s ≠ r → v.getD (ldV s) 0 = 0) : v = r := by
  have hv := k.vc h hR.rws
  have hr' := hR.rws r hr
  refine eq_of_sub h hv hr' (hR.zero h (k.plus h hR.rws (by rw [ngV_sm h hr']; exact (Spn.row h hR.rws hr).sm h hR.rws (h.ng_lt 1 h.one))) fun s hs => ?_)
  have hs1 := (hR.one s hs).1
  rw [adV_at _ _ hs1, show (ngV ng n r).getD (ldV s) 0 = ng (r.getD (ldV s) 0) from ofF_at _ hs1]
  by_cases e : s = r
  · subst e
    rw [h1, (hR.one s hs).2, h.ad_ng h.one]
  · rw [h0 s hs e, hR.col s hs r hr e, h.ng_zero, h.ad_zero 0 h.pos]
/-- Where something of the space begins: just where a row does. -/
theorem Rref.leads (h : FqR q ad mu ng) {R : List (List Nat)} (hR : Rref q n R) (k : Nat) : (∃ v, Spn q ad mu n R v ∧ v ≠ zV n ∧ ldV v = k) ↔ ∃ r ∈ R, ldV r = k := by
  constructor
  · rintro ⟨v, hv, h0, rfl⟩
    obtain ⟨r, hr, e⟩ := hR.lead h hv h0
    exact ⟨r, hr, e.symm⟩
  · rintro ⟨r, hr, rfl⟩
    refine ⟨r, Spn.row h hR.rws hr, fun e => ?_, rfl⟩
    have := (hR.one r hr).2
    rw [e, zV_at] at this
    omega
/-- A space has but one basis. -/
theorem rref_one (h : FqR q ad mu ng) : ∀ {R S : List (List Nat)}, Rref q n R → Rref q n S → (∀ v, Spn q ad mu n R v ↔ Spn q ad mu n S v) → R = S := by
  intro R S hR hS e
  have key : ∀ {R S : List (List Nat)}, Rref q n R → Rref q n S → (∀ v, Spn q ad mu n R v ↔ Spn q ad mu n S v) → ∀ r ∈ R, r ∈ S := by
    intro R S hR hS e r hr
    have hl := (hS.leads h (ldV r)).1 (by
      obtain ⟨v, hv, h0, hk⟩ := (hR.leads h (ldV r)).2 ⟨r, hr, rfl⟩
      exact ⟨v, (e v).1 hv, h0, hk⟩)
    obtain ⟨s, hs, hk⟩ := hl
    have : r = s := hS.only h hs ((e r).1 (Spn.row h hR.rws hr)) (by rw [hk]; exact (hR.one r hr).2) fun t ht hne => by
      -- t's lead is that of a row of R, another one
      obtain ⟨v, hv, h0, hk2⟩ := (hS.leads h (ldV t)).2 ⟨t, ht, rfl⟩
      obtain ⟨r', hr', e2⟩ := hR.lead h ((e v).2 hv) h0
      rw [hk2] at e2
      rw [e2]
      refine hR.col r' hr' r hr fun q2 => ?_
      rw [q2] at e2
      have ets : ldV t = ldV s := by rw [e2, hk]
      have := (hS.one t ht).2
      by_cases q3 : t = s
      · exact hne q3
      · have := hS.col s hs t ht fun q4 => q3 q4.symm
        rw [← ets] at this
        omega
    rw [this]; exact hs
  have hs : ∀ r, r ∈ R ↔ r ∈ S := fun r => ⟨key hR hS e r, key hS hR (fun v => (e v).symm) r⟩
  have nd : ∀ {R : List (List Nat)}, Rref q n R → R.Nodup := fun hR => hR.inc.imp fun hlt q => by rw [q] at hlt; omega
  have p : R.Perm S := (List.perm_ext_iff_of_nodup (nd hR) (nd hS)).2 hs
  exact p.eq_of_pairwise (le := fun a b => ldV a < ldV b) (fun a b _ _ h1 h2 => by omega) hR.inc hS.inc
end Go.Proofs.YtjfjdidibglhaabDoor

/- Spaces counted: a basis of k rows makes q^k lists; Grassmann; what is normal; nothing of the program. -/
namespace Go.Proofs.YtjfjdidibglhaabDoor
variable {q n : Nat} {ad mu : Nat → Nat → Nat} {ng : Nat → Nat}

/-- A list of its number, the first element the highest digit; and the number. -/
def opn (q : Nat) : Nat → Nat → List Nat
  | 0, _ => []
  | n + 1, c => opn q n (c / q) ++ [c % q]
def shu (q : Nat) (v : List Nat) : Nat := v.foldl (fun c x => c * q + x) 0
theorem shu_snoc (q : Nat) (v : List Nat) (x : Nat) : shu q (v ++ [x]) = shu q v * q + x := by simp [shu]
theorem opn_len (q : Nat) : ∀ n c, (opn q n c).length = n
  | 0, _ => rfl
  | n + 1, c => by rw [opn, List.length_append, opn_len q n]; rfl
theorem opn_vc (hq : 0 < q) : ∀ n c, Vc q n (opn q n c)
  | 0, _ => ⟨rfl, fun _ h => by cases h⟩
  | n + 1, c => ⟨opn_len q (n + 1) c, fun x hx => by
      rw [opn] at hx
      rcases List.mem_append.1 hx with e | e
      · exact (opn_vc hq n _).lt x e
      · rw [List.mem_singleton.1 e]; exact Nat.mod_lt _ hq⟩
theorem shu_opn : ∀ n c, c < q ^ n → shu q (opn q n c) = c
  | 0, c, h => by
    have : c = 0 := by simpa using h
    rw [this]; rfl
  | n + 1, c, h => by
    have hc : c / q < q ^ n := Nat.div_lt_of_lt_mul (by rw [Nat.mul_comm, ← Nat.pow_succ]; exact h)
    rw [opn, shu_snoc, shu_opn n _ hc, Nat.mul_comm]
    exact Nat.div_add_mod c q
theorem shu_lt (hq : 0 < q) : ∀ n (v : List Nat), Vc q n v → shu q v < q ^ n
  | 0, v, h => by
    have : v = [] := List.length_eq_zero_iff.1 h.len
    subst this
    simp [shu]
  | n + 1, v, h => by
    have hl := h.len
    have hne : v ≠ [] := fun e => by rw [e] at hl; simp at hl
    have e : v = v.dropLast ++ [v.getLast hne] := (List.dropLast_concat_getLast hne).symm
    have hv : Vc q n v.dropLast := ⟨by rw [List.length_dropLast, hl]; rfl, fun x hx => h.lt x (List.dropLast_subset v hx)⟩
    have hx := h.lt _ (List.getLast_mem hne)
    have ih := shu_lt hq n v.dropLast hv
    rw [e, shu_snoc, Nat.pow_succ]
    have := Nat.mul_le_mul_right q (Nat.succ_le_of_lt ih)
    rw [Nat.succ_mul] at this
    omega
theorem opn_shu (hq : 0 < q) : ∀ n (v : List Nat), Vc q n v → opn q n (shu q v) = v
  | 0, v, h => (List.length_eq_zero_iff.1 h.len).symm
  | n + 1, v, h => by
    have hl := h.len
    have hne : v ≠ [] := fun e => by rw [e] at hl; simp at hl
    have e : v = v.dropLast ++ [v.getLast hne] := (List.dropLast_concat_getLast hne).symm
    have hv : Vc q n v.dropLast := ⟨by rw [List.length_dropLast, hl]; rfl, fun x hx => h.lt x (List.dropLast_subset v hx)⟩
    have hx := h.lt _ (List.getLast_mem hne)
    have ih := opn_shu hq n v.dropLast hv
    rw [e, shu_snoc, opn]
    have e1 : (shu q v.dropLast * q + v.getLast hne) / q = shu q v.dropLast := by
      rw [Nat.mul_comm, Nat.mul_add_div hq, Nat.div_eq_of_lt hx, Nat.add_zero]
    have e2 : (shu q v.dropLast * q + v.getLast hne) % q = v.getLast hne := by
      rw [Nat.mul_comm, Nat.mul_add_mod, Nat.mod_eq_of_lt hx]
    rw [e1, e2, ih]
/-- All lists. -/
def allV (q n : Nat) : List (List Nat) := (List.range (q ^ n)).map (opn q n)
theorem mem_allV (hq : 0 < q) {v : List Nat} : v ∈ allV q n ↔ Vc q n v := by
  constructor
  · intro h
    obtain ⟨c, _, rfl⟩ := List.mem_map.1 h
    exact opn_vc hq n c
  · intro h
    exact List.mem_map.2 ⟨shu q v, List.mem_range.2 (shu_lt hq n v h), opn_shu hq n v h⟩
theorem allV_nodup : (allV q n).Nodup := by
  refine List.pairwise_map.2 (List.nodup_range.imp_of_mem fun {a b} ha hb hab e => hab ?_)
  have := congrArg (shu q) e
  rwa [shu_opn n a (List.mem_range.1 ha), shu_opn n b (List.mem_range.1 hb)] at this
theorem allV_len : (allV q n).length = q ^ n := by simp [allV]

open Classical in
/-- How many lists are so. -/
noncomputable def cntV (q n : Nat) (V : List Nat → Prop) : Nat := (allV q n).countP fun v => decide (V v)
theorem cnt_congr (hq : 0 < q) {V W : List Nat → Prop} (h : ∀ v, Vc q n v → (V v ↔ W v)) : cntV q n V = cntV q n W :=
  List.countP_congr fun v hv => by
    have := h v ((mem_allV hq).1 hv)
    simp [this]
theorem cnt_all (hq : 0 < q) {V : List Nat → Prop} (h : ∀ v, Vc q n v → V v) : cntV q n V = q ^ n := by
  unfold cntV
  rw [← allV_len (q := q) (n := n)]
  exact List.countP_eq_length.2 fun v hv => by simp [h v ((mem_allV hq).1 hv)]
/-- Lists moved one to one are as many. -/
theorem cnt_bij (hq : 0 < q) {V W : List Nat → Prop} (f g : List Nat → List Nat) (hf : ∀ v, Vc q n v → Vc q n (f v)) (hg : ∀ v, Vc q n v → Vc q n (g v)) (hfg : ∀ v, Vc q n v → f (g v) = v) (hgf : ∀ v, Vc q n v → g (f v) = v)
    (h : ∀ v, Vc q n v → (V (f v) ↔ W v)) : cntV q n V = cntV q n W := by
  have p : ((allV q n).map f).Perm (allV q n) := by
    refine (List.perm_ext_iff_of_nodup ?_ allV_nodup).2 fun v => ?_
    · refine List.pairwise_map.2 (allV_nodup.imp_of_mem fun {a b} ha hb hab e => hab ?_)
      have := congrArg g e
      rwa [hgf a ((mem_allV hq).1 ha), hgf b ((mem_allV hq).1 hb)] at this
    · rw [mem_allV hq]
      constructor
      · intro k
        obtain ⟨u, hu, rfl⟩ := List.mem_map.1 k
        exact hf u ((mem_allV hq).1 hu)
      · intro k
        exact List.mem_map.2 ⟨g v, (mem_allV hq).2 (hg v k), hfg v k⟩
  unfold cntV
  rw [← p.countP_eq, List.countP_map]
  refine List.countP_congr fun v hv => ?_
  have := h v ((mem_allV hq).1 hv)
  simp [this]
theorem cnt_shift (h : FqR q ad mu ng) {V W : List Nat → Prop} {a : List Nat} (ha : Vc q n a) (e : ∀ v, Vc q n v → (V (adV ad n v a) ↔ W v)) : cntV q n V = cntV q n W := by
  have hn := ngV_vc h ha
  refine cnt_bij h.pos (fun v => adV ad n v a) (fun v => adV ad n v (ngV ng n a)) (fun v hv => adV_vc h hv ha) (fun v hv => adV_vc h hv hn) (fun v hv => ?_) (fun v hv => ?_) e
  · show adV ad n (adV ad n v (ngV ng n a)) a = v
    rw [adV_assoc h hv hn ha, adV_comm h hn ha, adV_ng h ha, adV_zero h hv]
  · show adV ad n (adV ad n v a) (ngV ng n a) = v
    rw [adV_assoc h hv ha hn, adV_ng h ha, adV_zero h hv]
theorem fib_sum {α : Type} (f : α → Nat) (P : α → Bool) (q : Nat) : ∀ L : List α, (∀ v ∈ L, f v < q) → L.countP P = ((List.range q).map fun c => L.countP fun v => P v && f v == c).sum
  | [], _ => by
    have : ∀ M : List Nat, (M.map fun _ => (0 : Nat)).sum = 0 := fun M => by induction M <;> simp_all
    simp only [List.countP_nil]
    exact (this _).symm
  | v :: L, h => by
    have ih := fib_sum f P q L fun u hu => h u (by simp [hu])
    have hv := h v (by simp)
    have e : ∀ M : List Nat, (M.map fun c => (v :: L).countP fun v => P v && f v == c).sum = (M.map fun c => L.countP fun v => P v && f v == c).sum + (if P v then M.count (f v) else 0) := by
      intro M
      induction M with
      | nil => simp
      | cons c M ihM =>
        rw [List.map_cons, List.sum_cons, ihM, List.map_cons, List.sum_cons, List.countP_cons, List.count_cons]
        by_cases hp : P v = true
        · by_cases hc : f v = c
          · subst hc; simp [hp]; omega
          · have hc' : ¬ c = f v := fun z => hc z.symm
            simp [hp, hc, hc']; omega
        · simp [hp]
    rw [e, List.countP_cons, ih, List.nodup_range.count]
    simp [hv]
theorem sum_all_same {f : Nat → Nat} {m : Nat} : ∀ M : List Nat, (∀ c ∈ M, f c = m) → (M.map f).sum = M.length * m
  | [], _ => by simp
  | c :: M, h => by
    rw [List.map_cons, List.sum_cons, sum_all_same M fun x hx => h x (by simp [hx]), h c (by simp), List.length_cons, Nat.succ_mul, Nat.add_comm]
theorem cnt_fib (hq : 0 < q) {V : List Nat → Prop} (f : List Nat → Nat) {k m : Nat} (hf : ∀ v, Vc q n v → f v < k) (h : ∀ c, c < k → cntV q n (fun v => V v ∧ f v = c) = m) : cntV q n V = k * m := by
  classical
  unfold cntV
  rw [fib_sum f _ k (allV q n) fun v hv => hf v ((mem_allV hq).1 hv), sum_all_same (m := m) _ fun c hc => ?_, List.length_range]
  rw [← h c (List.mem_range.1 hc)]
  unfold cntV
  refine List.countP_congr fun v _ => ?_
  simp
/-- Rows of a basis make as many lists as it may be. -/
theorem Rref.cnt (h : FqR q ad mu ng) : ∀ {R : List (List Nat)}, Rref q n R → cntV q n (Spn q ad mu n R) = q ^ R.length
  | [], _ => by
    classical
    have e : ∀ v, Spn q ad mu n [] v ↔ v = zV n := fun v => ⟨fun k => by
      cases k with
      | zero => rfl
      | step _ hr _ => simp at hr, fun e => e ▸ .zero⟩
    unfold cntV
    have : (allV q n).countP (fun v => decide (Spn q ad mu n [] v)) = (allV q n).count (zV n) := by
      rw [List.count]
      refine List.countP_congr fun v _ => ?_
      simp [e]
    rw [this, allV_nodup.count, if_pos ((mem_allV h.pos).2 (zV_vc h))]
    rfl
  | r :: R, hR => by
    have hr := hR.rws r (by simp)
    have h1 := hR.one r (by simp)
    have hz : ∀ s ∈ R, s.getD (ldV r) 0 = 0 := fun s hs => hR.col r (by simp) s (by simp [hs]) fun e => by have := hR.lt hs; rw [e] at this; omega
    rw [List.length_cons, Nat.pow_succ, Nat.mul_comm, ← hR.tail.cnt h]
    refine cnt_fib h.pos (fun v => v.getD (ldV r) 0) (fun v hv => hv.at h.pos _) fun c hc => ?_
    refine cnt_shift h (smV_vc h hc hr) fun v hv => ?_
    have ev : (adV ad n v (smV mu n c r)).getD (ldV r) 0 = ad (v.getD (ldV r) 0) c := by rw [adV_at _ _ h1.1, smV_at _ h1.1, h1.2, h.mu_one c hc]
    constructor
    · rintro ⟨k, e⟩
      rw [ev] at e
      have v0 : v.getD (ldV r) 0 = 0 := h.ad_inj (hv.at h.pos _) h.pos hc (by rw [e, h.zero_ad hc])
      have kv : Spn q ad mu n (r :: R) v := by
        have k2 := k.plus h hR.rws (((Spn.row h hR.rws (r := r) (by simp)).sm h hR.rws hc).sm h hR.rws (h.ng_lt 1 h.one))
        have hs := smV_vc h hc hr
        rw [← ngV_sm h hs, adV_assoc h hv hs (ngV_vc h hs), adV_ng h hs, adV_zero h hv] at k2
        exact k2
      obtain ⟨d, u, hd, hu, e2⟩ := (spn_cons h hR.tail.rws hr v).1 kv
      have hu' := hu.vc h hR.tail.rws
      have u0 := hu.col0 h h1.1 hz
      have d0 : d = 0 := by
        rw [e2, adV_at _ _ h1.1, smV_at _ h1.1, h1.2, h.mu_one d hd, u0, h.ad_zero d hd] at v0
        exact v0
      subst d0
      rw [smV_zero h hr, zero_adV h hu'] at e2
      rw [e2]; exact hu
    · intro k
      refine ⟨.step (k.mono fun s hs => by simp [hs]) (by simp) hc, ?_⟩
      rw [ev, k.col0 h h1.1 hz, h.zero_ad hc]
/-- What is normal to a basis. -/
theorem Rref.nrm (h : FqR q ad mu ng) : ∀ {R : List (List Nat)}, Rref q n R → q ^ R.length * cntV q n (Nrm q ad mu n R) = q ^ n
  | [], _ => by
    rw [cnt_all h.pos fun v hv => ⟨hv, fun r hr => by simp at hr⟩]
    simp
  | r :: R, hR => by
    have hr := hR.rws r (by simp)
    have h1 := hR.one r (by simp)
    have hz : ∀ s ∈ R, s.getD (ldV r) 0 = 0 := fun s hs => hR.col r (by simp) s (by simp [hs]) fun e => by have := hR.lt hs; rw [e] at this; omega
    -- one at the place where the row begins
    have he : Vc q n (ofF n fun i => if i = ldV r then 1 else 0) := ofF_vc fun i _ => by split; exact h.one; exact h.pos
    have hdot : ∀ s, Vc q n s → ∀ i, i ≤ n → dotV ad mu (ofF n fun i => if i = ldV r then 1 else 0) s i = if ldV r < i then s.getD (ldV r) 0 else 0 := by
      intro s hs i
      induction i with
      | zero => intro _; simp [dotV]
      | succ i ih =>
        intro hi
        rw [dotV, ih (by omega), ofF_at _ (show i < n by omega)]
        by_cases g : i = ldV r
        · rw [if_pos g, if_neg (by omega), if_pos (by omega), h.one_mu (hs.at h.pos i), g, h.zero_ad (hs.at h.pos _)]
        · rw [if_neg g, h.zero_mu (hs.at h.pos i)]
          by_cases g2 : ldV r < i
          · rw [if_pos g2, if_pos (by omega), h.ad_zero _ (hs.at h.pos _)]
          · rw [if_neg g2, if_neg (by omega), h.ad_zero 0 h.pos]
    have hE : Nrm q ad mu n R (ofF n fun i => if i = ldV r then 1 else 0) := ⟨he, fun s hs => by
      rw [hdot s (hR.tail.rws s hs) n (Nat.le_refl _), if_pos h1.1, hz s hs]⟩
    have hE1 : dotV ad mu (ofF n fun i => if i = ldV r then 1 else 0) r n = 1 := by rw [hdot r hr n (Nat.le_refl _), if_pos h1.1, h1.2]
    generalize (ofF n fun i => if i = ldV r then 1 else 0) = E at he hE hE1
    have ih := Rref.nrm h hR.tail
    have key : cntV q n (Nrm q ad mu n R) = q * cntV q n (Nrm q ad mu n (r :: R)) := by
      refine cnt_fib h.pos (fun v => dotV ad mu v r n % q) (fun v _ => Nat.mod_lt _ h.pos) fun c hc => ?_
      refine cnt_shift h (smV_vc h hc he) fun v hv => ?_
      have hs := smV_vc h hc he
      have hSp := Nrm.spc h hR.tail.rws
      have ed : dotV ad mu (adV ad n v (smV mu n c E)) r n = ad (dotV ad mu v r n) c := by
        rw [dotV_ad h hv hs hr n (Nat.le_refl _), dotV_sm h hc he hr n (Nat.le_refl _), hE1, h.mu_one c hc]
      have hl := dotV_lt h hv hr n
      constructor
      · rintro ⟨k, e⟩
        rw [ed, Nat.mod_eq_of_lt (h.ad_lt _ _ hl hc)] at e
        have d0 : dotV ad mu v r n = 0 := h.ad_inj hl h.pos hc (by rw [e, h.zero_ad hc])
        have kv : Nrm q ad mu n R v := by
          have k2 := hSp.ad _ _ k (hSp.sm _ _ (h.ng_lt 1 h.one) (hSp.sm _ _ hc hE))
          rw [← ngV_sm h hs, adV_assoc h hv hs (ngV_vc h hs), adV_ng h hs, adV_zero h hv] at k2
          exact k2
        exact ⟨hv, fun s hs => by
          rcases List.mem_cons.1 hs with e | e
          · rw [e]; exact d0
          · exact kv.2 s e⟩
      · intro k
        refine ⟨hSp.ad _ _ ⟨hv, fun s hs => k.2 s (by simp [hs])⟩ (hSp.sm _ _ hc hE), ?_⟩
        show dotV ad mu (adV ad n v (smV mu n c E)) r n % q = c
        rw [ed, k.2 r (by simp), h.zero_ad hc, Nat.mod_eq_of_lt hc]
    rw [List.length_cons, Nat.pow_succ, Nat.mul_assoc, ← key]
    exact ih
/-- Grassmann. -/
theorem grassmann (h : FqR q ad mu ng) {A B : List Nat → Prop} (hA : Spc q ad mu n A) (hB : Spc q ad mu n B) :
    cntV q n (Both2 ad n A B) * cntV q n (fun v => A v ∧ B v) = cntV q n A * cntV q n B := by
  classical
  have q0 := h.pos
  have hneg : ∀ {V : List Nat → Prop}, Spc q ad mu n V → ∀ v, V v → V (ngV ng n v) := fun hV v hv => by rw [ngV_sm h (hV.vc v hv)]; exact hV.sm _ _ (h.ng_lt 1 h.one) hv
  have can : ∀ {u a : List Nat}, Vc q n u → Vc q n a → adV ad n (adV ad n u a) (ngV ng n a) = u := fun hu ha => by rw [adV_assoc h hu ha (ngV_vc h ha), adV_ng h ha, adV_zero h hu]
  -- pairs (v, a) with v in the sum, a in A, v - a in B
  have sw : ∀ (p : List Nat → List Nat → Bool) (M : List (List Nat)) (L : List (List Nat)), (L.map fun a => M.countP (p a)).sum = (M.map fun x => L.countP fun a => p a x).sum := by
    intro p M L
    induction L with
    | nil =>
      have : ∀ M : List (List Nat), (M.map fun _ => (0 : Nat)).sum = 0 := fun M => by induction M <;> simp_all
      simp only [List.map_nil, List.sum_nil, List.countP_nil]
      exact (this _).symm
    | cons a L ih =>
      rw [List.map_cons, List.sum_cons, ih]
      clear ih
      induction M with
      | nil => simp
      | cons x M ihM =>
        rw [List.map_cons, List.sum_cons, List.map_cons, List.sum_cons, List.countP_cons, List.countP_cons]
        by_cases hp : p a x = true <;> simp [hp] <;> omega
  have cf : ∀ (V : List Nat → Prop), ((allV q n).filter fun v => decide (V v)).length = cntV q n V := fun V => by unfold cntV; rw [List.countP_eq_length_filter]
  have e1 : (((allV q n).filter fun v => decide (Both2 ad n A B v)).map fun v => (allV q n).countP fun a => decide (A a ∧ B (adV ad n v (ngV ng n a)))).sum = cntV q n (Both2 ad n A B) * cntV q n (fun v => A v ∧ B v) := by
    have g : ∀ v ∈ (allV q n).filter fun v => decide (Both2 ad n A B v), ((allV q n).countP fun a => decide (A a ∧ B (adV ad n v (ngV ng n a)))) = cntV q n (fun v => A v ∧ B v) := by
      intro v hv
      obtain ⟨_, hv⟩ := List.mem_filter.1 hv
      obtain ⟨a0, b0, ha0, hb0, rfl⟩ := of_decide_eq_true hv
      have va := hA.vc _ ha0
      have vb := hB.vc _ hb0
      have eq0 : ((allV q n).countP fun a => decide (A a ∧ B (adV ad n (adV ad n a0 b0) (ngV ng n a)))) = cntV q n (fun a => A a ∧ B (adV ad n (adV ad n a0 b0) (ngV ng n a))) := by
        unfold cntV
        exact List.countP_congr fun v _ => by simp
      rw [eq0]
      refine cnt_shift (V := fun a => A a ∧ B (adV ad n (adV ad n a0 b0) (ngV ng n a))) h va fun t ht => ?_
      have hta := adV_vc h ht va
      have e : adV ad n (adV ad n a0 b0) (ngV ng n (adV ad n t a0)) = adV ad n b0 (ngV ng n t) := by
        refine (adV_vc h (adV_vc h va vb) (ngV_vc h hta)).ext (adV_vc h vb (ngV_vc h ht)) fun i hi => ?_
        have i1 := va.at h.pos i
        have i2 := vb.at h.pos i
        have i3 := ht.at h.pos i
        rw [adV_at _ _ hi, adV_at _ _ hi, adV_at _ _ hi, show (ngV ng n (adV ad n t a0)).getD i 0 = ng ((adV ad n t a0).getD i 0) from ofF_at _ hi, adV_at _ _ hi, show (ngV ng n t).getD i 0 = ng (t.getD i 0) from ofF_at _ hi]
        have hn3 := h.ng_lt _ i3
        have hx := h.ad_lt _ _ i3 i1
        refine h.ad_inj (h.ad_lt _ _ (h.ad_lt _ _ i1 i2) (h.ng_lt _ hx)) (h.ad_lt _ _ i2 hn3) hx ?_
        rw [h.ad_assoc _ _ _ (h.ad_lt _ _ i1 i2) (h.ng_lt _ hx) hx, h.ng_ad _ hx, h.ad_zero _ (h.ad_lt _ _ i1 i2),
          h.ad_assoc _ _ _ i2 hn3 hx, ← h.ad_assoc _ _ _ hn3 i3 i1, h.ng_ad _ i3, h.zero_ad i1, h.ad_comm _ _ i1 i2]
      show (A (adV ad n t a0) ∧ B (adV ad n (adV ad n a0 b0) (ngV ng n (adV ad n t a0)))) ↔ A t ∧ B t
      rw [e]
      constructor
      · rintro ⟨k1, k2⟩
        refine ⟨?_, ?_⟩
        · have := hA.ad _ _ k1 (hneg hA _ ha0)
          rwa [can ht va] at this
        · have k3 := hneg hB _ (hB.ad _ _ (hneg hB _ hb0) k2)
          have e2 : ngV ng n (adV ad n (ngV ng n b0) (adV ad n b0 (ngV ng n t))) = t := by
            have hnt := ngV_vc h ht
            rw [← adV_assoc h (ngV_vc h vb) vb hnt, adV_comm h (ngV_vc h vb) vb, adV_ng h vb, zero_adV h hnt]
            refine eq_of_sub h (ngV_vc h hnt) ht ?_
            rw [adV_comm h (ngV_vc h hnt) hnt, adV_ng h hnt]
          rwa [e2] at k3
      · rintro ⟨k1, k2⟩
        exact ⟨hA.ad _ _ k1 ha0, hB.ad _ _ hb0 (hneg hB _ k2)⟩
    rw [← cf (Both2 ad n A B)]
    have sc : ∀ (L : List (List Nat)) (f : List Nat → Nat) (m : Nat), (∀ v ∈ L, f v = m) → (L.map f).sum = L.length * m := by
      intro L f m
      induction L with
      | nil => intro _; simp
      | cons x L ih => intro hh; rw [List.map_cons, List.sum_cons, ih fun y hy => hh y (by simp [hy]), hh x (by simp), List.length_cons, Nat.succ_mul, Nat.add_comm]
    exact sc _ _ _ g
  have e2 : (((allV q n).filter fun v => decide (Both2 ad n A B v)).map fun v => (allV q n).countP fun a => decide (A a ∧ B (adV ad n v (ngV ng n a)))).sum = cntV q n A * cntV q n B := by
    rw [sw (fun v a => decide (A a ∧ B (adV ad n v (ngV ng n a))))]
    have g : ((allV q n).map fun a => ((allV q n).filter fun v => decide (Both2 ad n A B v)).countP fun v => decide (A a ∧ B (adV ad n v (ngV ng n a)))) = (allV q n).map fun a => if A a then cntV q n B else 0 := by
      refine List.map_congr_left fun a ha => ?_
      have va := (mem_allV q0).1 ha
      rw [List.countP_filter]
      by_cases k : A a
      · rw [if_pos k]
        have : (allV q n).countP (fun v => decide (A a ∧ B (adV ad n v (ngV ng n a))) && decide (Both2 ad n A B v)) = cntV q n (fun v => B (adV ad n v (ngV ng n a)) ∧ Both2 ad n A B v) := by
          unfold cntV
          refine List.countP_congr fun v _ => ?_
          simp [k]
        rw [this]
        refine cnt_shift h va fun t ht => ?_
        show (B (adV ad n (adV ad n t a) (ngV ng n a)) ∧ Both2 ad n A B (adV ad n t a)) ↔ B t
        rw [can ht va]
        exact ⟨fun z => z.1, fun z => ⟨z, a, t, k, z, adV_comm h ht va⟩⟩
      · rw [if_neg k]
        refine List.countP_eq_zero.2 fun v _ => ?_
        simp [k]
    rw [g]
    have si : ∀ L : List (List Nat), (L.map fun a => if A a then cntV q n B else 0).sum = (L.countP fun a => decide (A a)) * cntV q n B := by
      intro L
      induction L with
      | nil => simp
      | cons x L ih =>
        rw [List.map_cons, List.sum_cons, ih, List.countP_cons]
        by_cases k : A x
        · simp [k, Nat.add_mul]; omega
        · simp [k]
    exact si _
  rw [← e1, e2]
end Go.Proofs.YtjfjdidibglhaabDoor

namespace Go.Proofs.YtjfjdidibglhaabDoor
variable {q n : Nat} {ad mu : Nat → Nat → Nat} {ng : Nat → Nat}

/-- A basis of a space. -/
structure BasIs (q : Nat) (ad mu : Nat → Nat → Nat) (n : Nat) (V : List Nat → Prop) (R : List (List Nat)) : Prop where
  rref : Rref q n R
  same : ∀ v, Spn q ad mu n R v ↔ V v
theorem BasIs.one (h : FqR q ad mu ng) {V : List Nat → Prop} {R S : List (List Nat)} (hR : BasIs q ad mu n V R) (hS : BasIs q ad mu n V S) : R = S :=
  rref_one h hR.rref hS.rref fun v => (hR.same v).trans (hS.same v).symm
theorem BasIs.congr {V W : List Nat → Prop} {R : List (List Nat)} (hR : BasIs q ad mu n V R) (e : ∀ v, V v ↔ W v) : BasIs q ad mu n W R := ⟨hR.rref, fun v => (hR.same v).trans (e v)⟩
theorem BasIs.cnt (h : FqR q ad mu ng) {V : List Nat → Prop} {R : List (List Nat)} (hR : BasIs q ad mu n V R) : cntV q n V = q ^ R.length := by
  rw [← hR.rref.cnt h]
  exact cnt_congr h.pos fun v _ => (hR.same v).symm
theorem BasIs.spc (h : FqR q ad mu ng) {V : List Nat → Prop} {R : List (List Nat)} (hR : BasIs q ad mu n V R) : Spc q ad mu n V := by
  have k := Spn.spc h hR.rref.rws
  exact ⟨fun v hv => k.vc v ((hR.same v).2 hv), (hR.same _).1 k.zero, fun u v hu hv => (hR.same _).1 (k.ad u v ((hR.same u).2 hu) ((hR.same v).2 hv)), fun c v hc hv => (hR.same _).1 (k.sm c v hc ((hR.same v).2 hv))⟩
theorem pow_inj (h : FqR q ad mu ng) {a b : Nat} (e : q ^ a = q ^ b) : a = b := by
  rcases Nat.lt_trichotomy a b with k | k | k
  · have := Nat.pow_lt_pow_right h.one k; omega
  · exact k
  · have := Nat.pow_lt_pow_right h.one k; omega
/-- A space and what is normal to it. -/
theorem nrm_len (h : FqR q ad mu ng) {R X U : List (List Nat)} (hR : Rws q n R) (hX : BasIs q ad mu n (Spn q ad mu n R) X) (hU : BasIs q ad mu n (Nrm q ad mu n R) U) : U.length + X.length = n := by
  have k := hX.rref.nrm h
  have e : cntV q n (Nrm q ad mu n X) = q ^ U.length := by
    rw [← hU.cnt h]
    exact cnt_congr h.pos fun v _ => nrm_same h hX.rref.rws hR hX.same v
  rw [e, ← Nat.pow_add] at k
  rw [Nat.add_comm]
  exact pow_inj h k
end Go.Proofs.YtjfjdidibglhaabDoor
