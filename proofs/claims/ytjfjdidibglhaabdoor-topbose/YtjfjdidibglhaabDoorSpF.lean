/- Numbers below q that are added and multiplied as a field's elements are; lists of them; nothing of the program. -/
namespace Go.Proofs.YtjfjdidibglhaabDoor

structure FqR (q : Nat) (ad mu : Nat → Nat → Nat) (ng : Nat → Nat) : Prop where
  one : 1 < q
  ad_lt : ∀ a b, a < q → b < q → ad a b < q
  mu_lt : ∀ a b, a < q → b < q → mu a b < q
  ng_lt : ∀ a, a < q → ng a < q
  ad_zero : ∀ a, a < q → ad a 0 = a
  ad_comm : ∀ a b, a < q → b < q → ad a b = ad b a
  ad_assoc : ∀ a b c, a < q → b < q → c < q → ad (ad a b) c = ad a (ad b c)
  ng_ad : ∀ a, a < q → ad (ng a) a = 0
  mu_comm : ∀ a b, a < q → b < q → mu a b = mu b a
  mu_assoc : ∀ a b c, a < q → b < q → c < q → mu (mu a b) c = mu a (mu b c)
  mu_one : ∀ a, a < q → mu a 1 = a
  mu_ad : ∀ a b c, a < q → b < q → c < q → mu a (ad b c) = ad (mu a b) (mu a c)
  inv : ∀ a, 1 ≤ a → a < q → ∃ c, c < q ∧ mu a c = 1
variable {q : Nat} {ad mu : Nat → Nat → Nat} {ng : Nat → Nat}
theorem FqR.pos (h : FqR q ad mu ng) : 0 < q := by have := h.one; omega
theorem FqR.zero_ad (h : FqR q ad mu ng) {a : Nat} (ha : a < q) : ad 0 a = a := by rw [h.ad_comm 0 a h.pos ha, h.ad_zero a ha]
theorem FqR.mu_zero (h : FqR q ad mu ng) {a : Nat} (ha : a < q) : mu a 0 = 0 := by
  have h0 := h.pos
  have e := h.mu_ad a 0 0 ha h0 h0
  rw [h.ad_zero 0 h0] at e
  have hm := h.mu_lt a 0 ha h0
  have k := h.ad_assoc (ng (mu a 0)) (mu a 0) (mu a 0) (h.ng_lt _ hm) hm hm
  rw [← e, h.ng_ad _ hm, h.ad_comm 0 _ h0 hm, h.ad_zero _ hm] at k
  exact k
theorem FqR.zero_mu (h : FqR q ad mu ng) {a : Nat} (ha : a < q) : mu 0 a = 0 := by rw [h.mu_comm 0 a h.pos ha, h.mu_zero ha]
theorem FqR.one_mu (h : FqR q ad mu ng) {a : Nat} (ha : a < q) : mu 1 a = a := by rw [h.mu_comm 1 a h.one ha, h.mu_one a ha]
theorem FqR.ad_inj (h : FqR q ad mu ng) {a b c : Nat} (ha : a < q) (hb : b < q) (hc : c < q) (e : ad a c = ad b c) : a = b := by
  have k : ad (ad a c) (ng c) = ad (ad b c) (ng c) := by rw [e]
  have hn := h.ng_lt c hc
  rw [h.ad_assoc a c _ ha hc hn, h.ad_assoc b c _ hb hc hn, h.ad_comm c _ hc hn, h.ng_ad c hc, h.ad_zero a ha, h.ad_zero b hb] at k
  exact k
theorem FqR.ad_ng (h : FqR q ad mu ng) {a : Nat} (ha : a < q) : ad a (ng a) = 0 := by rw [h.ad_comm a _ ha (h.ng_lt a ha), h.ng_ad a ha]
theorem FqR.ng_eq (h : FqR q ad mu ng) {a b : Nat} (ha : a < q) (hb : b < q) (e : ad a b = 0) : a = ng b := by
  refine h.ad_inj ha (h.ng_lt b hb) hb ?_
  rw [e, h.ng_ad b hb]
theorem FqR.ng_zero (h : FqR q ad mu ng) : ng 0 = 0 := (h.ng_eq h.pos h.pos (h.ad_zero 0 h.pos)).symm
theorem FqR.ad_mu (h : FqR q ad mu ng) {a b c : Nat} (ha : a < q) (hb : b < q) (hc : c < q) : mu (ad a b) c = ad (mu a c) (mu b c) := by
  rw [h.mu_comm _ c (h.ad_lt a b ha hb) hc, h.mu_ad c a b hc ha hb, h.mu_comm c a hc ha, h.mu_comm c b hc hb]
theorem FqR.ad_swap (h : FqR q ad mu ng) {a b c d : Nat} (ha : a < q) (hb : b < q) (hc : c < q) (hd : d < q) : ad (ad a b) (ad c d) = ad (ad a c) (ad b d) := by
  rw [h.ad_assoc a b _ ha hb (h.ad_lt c d hc hd), ← h.ad_assoc b c d hb hc hd, h.ad_comm b c hb hc, h.ad_assoc c b d hc hb hd, ← h.ad_assoc a c _ ha hc (h.ad_lt b d hb hd)]
theorem FqR.ng_mu (h : FqR q ad mu ng) {a b : Nat} (ha : a < q) (hb : b < q) : mu (ng a) b = ng (mu a b) := by
  refine h.ng_eq (h.mu_lt _ _ (h.ng_lt a ha) hb) (h.mu_lt a b ha hb) ?_
  rw [← h.ad_mu (h.ng_lt a ha) ha hb, h.ng_ad a ha, h.zero_mu hb]

/-! ### lists -/
/-- A list of n elements. -/
structure Vc (q n : Nat) (v : List Nat) : Prop where
  len : v.length = n
  lt : ∀ x ∈ v, x < q
theorem Vc.at {n : Nat} {v : List Nat} (h : Vc q n v) (hq : 0 < q) (i : Nat) : v.getD i 0 < q := by
  by_cases hi : i < v.length
  · have : v.getD i 0 = v[i] := by simp [List.getD_eq_getElem?_getD, hi]
    rw [this]; exact h.lt _ (List.getElem_mem hi)
  · have : v.getD i 0 = 0 := by simp [List.getD_eq_getElem?_getD, Nat.le_of_not_lt hi]
    rw [this]; exact hq
theorem Vc.out {n : Nat} {v : List Nat} (h : Vc q n v) {i : Nat} (hi : n ≤ i) : v.getD i 0 = 0 := by
  have := h.len
  simp [List.getD_eq_getElem?_getD, show v.length ≤ i by omega]
theorem Vc.ext {n : Nat} {u v : List Nat} (hu : Vc q n u) (hv : Vc q n v) (h : ∀ i, i < n → u.getD i 0 = v.getD i 0) : u = v := by
  refine List.ext_getElem (by rw [hu.len, hv.len]) fun i h1 h2 => ?_
  have := h i (by rw [← hu.len]; exact h1)
  simpa [List.getD_eq_getElem?_getD, h1, h2] using this
/-- Of a function. -/
def ofF (n : Nat) (f : Nat → Nat) : List Nat := (List.range n).map f
theorem ofF_at {n : Nat} (f : Nat → Nat) {i : Nat} (hi : i < n) : (ofF n f).getD i 0 = f i := by simp [ofF, List.getD_eq_getElem?_getD, hi]
theorem ofF_vc {n : Nat} {f : Nat → Nat} (h : ∀ i, i < n → f i < q) : Vc q n (ofF n f) := ⟨by simp [ofF], fun x hx => by
  obtain ⟨i, hi, rfl⟩ := List.mem_map.1 hx
  exact h i (List.mem_range.1 hi)⟩
def adV (ad : Nat → Nat → Nat) (n : Nat) (u v : List Nat) : List Nat := ofF n fun i => ad (u.getD i 0) (v.getD i 0)
def smV (mu : Nat → Nat → Nat) (n c : Nat) (v : List Nat) : List Nat := ofF n fun i => mu c (v.getD i 0)
def zV (n : Nat) : List Nat := ofF n fun _ => 0
theorem adV_at {n : Nat} (u v : List Nat) {i : Nat} (hi : i < n) : (adV ad n u v).getD i 0 = ad (u.getD i 0) (v.getD i 0) := ofF_at _ hi
theorem smV_at {n c : Nat} (v : List Nat) {i : Nat} (hi : i < n) : (smV mu n c v).getD i 0 = mu c (v.getD i 0) := ofF_at _ hi
theorem zV_at {n : Nat} (i : Nat) : (zV n).getD i 0 = 0 := by
  by_cases hi : i < n
  · exact ofF_at _ hi
  · simp [zV, ofF, List.getD_eq_getElem?_getD, hi]
variable {n : Nat}
theorem adV_vc (h : FqR q ad mu ng) {u v : List Nat} (hu : Vc q n u) (hv : Vc q n v) : Vc q n (adV ad n u v) := ofF_vc fun i _ => h.ad_lt _ _ (hu.at h.pos i) (hv.at h.pos i)
theorem smV_vc (h : FqR q ad mu ng) {c : Nat} {v : List Nat} (hc : c < q) (hv : Vc q n v) : Vc q n (smV mu n c v) := ofF_vc fun i _ => h.mu_lt _ _ hc (hv.at h.pos i)
theorem zV_vc (h : FqR q ad mu ng) : Vc q n (zV n) := ofF_vc fun _ _ => h.pos
theorem adV_comm (h : FqR q ad mu ng) {u v : List Nat} (hu : Vc q n u) (hv : Vc q n v) : adV ad n u v = adV ad n v u :=
  (adV_vc h hu hv).ext (adV_vc h hv hu) fun i hi => by rw [adV_at _ _ hi, adV_at _ _ hi, h.ad_comm _ _ (hu.at h.pos i) (hv.at h.pos i)]
theorem adV_assoc (h : FqR q ad mu ng) {u v w : List Nat} (hu : Vc q n u) (hv : Vc q n v) (hw : Vc q n w) : adV ad n (adV ad n u v) w = adV ad n u (adV ad n v w) :=
  (adV_vc h (adV_vc h hu hv) hw).ext (adV_vc h hu (adV_vc h hv hw)) fun i hi => by rw [adV_at _ _ hi, adV_at _ _ hi, adV_at _ _ hi, adV_at _ _ hi, h.ad_assoc _ _ _ (hu.at h.pos i) (hv.at h.pos i) (hw.at h.pos i)]
theorem adV_zero (h : FqR q ad mu ng) {u : List Nat} (hu : Vc q n u) : adV ad n u (zV n) = u :=
  (adV_vc h hu (zV_vc h)).ext hu fun i hi => by rw [adV_at _ _ hi, zV_at, h.ad_zero _ (hu.at h.pos i)]
theorem zero_adV (h : FqR q ad mu ng) {u : List Nat} (hu : Vc q n u) : adV ad n (zV n) u = u := by rw [adV_comm h (zV_vc h) hu, adV_zero h hu]
theorem smV_one (h : FqR q ad mu ng) {u : List Nat} (hu : Vc q n u) : smV mu n 1 u = u :=
  (smV_vc h h.one hu).ext hu fun i hi => by rw [smV_at _ hi, h.one_mu (hu.at h.pos i)]
theorem smV_zero (h : FqR q ad mu ng) {u : List Nat} (hu : Vc q n u) : smV mu n 0 u = zV n :=
  (smV_vc h h.pos hu).ext (zV_vc h) fun i hi => by rw [smV_at _ hi, zV_at, h.zero_mu (hu.at h.pos i)]
theorem smV_z (h : FqR q ad mu ng) {c : Nat} (hc : c < q) : smV mu n c (zV n) = zV n :=
  (smV_vc h hc (zV_vc h)).ext (zV_vc h) fun i hi => by rw [smV_at _ hi, zV_at, h.mu_zero hc]
theorem smV_sm (h : FqR q ad mu ng) {c d : Nat} {u : List Nat} (hc : c < q) (hd : d < q) (hu : Vc q n u) : smV mu n c (smV mu n d u) = smV mu n (mu c d) u :=
  (smV_vc h hc (smV_vc h hd hu)).ext (smV_vc h (h.mu_lt _ _ hc hd) hu) fun i hi => by rw [smV_at _ hi, smV_at _ hi, smV_at _ hi, h.mu_assoc _ _ _ hc hd (hu.at h.pos i)]
theorem smV_ad (h : FqR q ad mu ng) {c : Nat} {u v : List Nat} (hc : c < q) (hu : Vc q n u) (hv : Vc q n v) : smV mu n c (adV ad n u v) = adV ad n (smV mu n c u) (smV mu n c v) :=
  (smV_vc h hc (adV_vc h hu hv)).ext (adV_vc h (smV_vc h hc hu) (smV_vc h hc hv)) fun i hi => by rw [smV_at _ hi, adV_at _ _ hi, adV_at _ _ hi, smV_at _ hi, smV_at _ hi, h.mu_ad _ _ _ hc (hu.at h.pos i) (hv.at h.pos i)]
theorem ad_smV (h : FqR q ad mu ng) {c d : Nat} {u : List Nat} (hc : c < q) (hd : d < q) (hu : Vc q n u) : smV mu n (ad c d) u = adV ad n (smV mu n c u) (smV mu n d u) :=
  (smV_vc h (h.ad_lt _ _ hc hd) hu).ext (adV_vc h (smV_vc h hc hu) (smV_vc h hd hu)) fun i hi => by rw [smV_at _ hi, adV_at _ _ hi, smV_at _ hi, smV_at _ hi, h.ad_mu hc hd (hu.at h.pos i)]
/-- The opposite. -/
def ngV (ng : Nat → Nat) (n : Nat) (v : List Nat) : List Nat := ofF n fun i => ng (v.getD i 0)
theorem ngV_vc (h : FqR q ad mu ng) {v : List Nat} (hv : Vc q n v) : Vc q n (ngV ng n v) := ofF_vc fun i _ => h.ng_lt _ (hv.at h.pos i)
theorem adV_ng (h : FqR q ad mu ng) {v : List Nat} (hv : Vc q n v) : adV ad n v (ngV ng n v) = zV n :=
  (adV_vc h hv (ngV_vc h hv)).ext (zV_vc h) fun i hi => by rw [adV_at _ _ hi, zV_at, show (ngV ng n v).getD i 0 = ng (v.getD i 0) from ofF_at _ hi, h.ad_ng (hv.at h.pos i)]
theorem ngV_sm (h : FqR q ad mu ng) {v : List Nat} (hv : Vc q n v) : ngV ng n v = smV mu n (ng 1) v :=
  (ngV_vc h hv).ext (smV_vc h (h.ng_lt 1 h.one) hv) fun i hi => by
    rw [smV_at _ hi, show (ngV ng n v).getD i 0 = ng (v.getD i 0) from ofF_at _ hi, h.ng_mu h.one (hv.at h.pos i), h.one_mu (hv.at h.pos i)]
end Go.Proofs.YtjfjdidibglhaabDoor
