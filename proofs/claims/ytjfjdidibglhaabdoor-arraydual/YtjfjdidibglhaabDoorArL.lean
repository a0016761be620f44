/- All lists of a space, made of its basis, one after another. Nothing of the program. -/
import Derived.Test.YtjfjdidibglhaabDoorSpD
namespace Go.Proofs.YtjfjdidibglhaabDoor
section
variable {q n : Nat} {ad mu : Nat → Nat → Nat} {ng : Nat → Nat}

/-- One row more: each list, and each factor. -/
def spK (q : Nat) (ad mu : Nat → Nat → Nat) (n : Nat) (out : List (List Nat)) (r : List Nat) : List (List Nat) := out.flatMap fun m => (List.range q).map fun c => adV ad n m (smV mu n c r)
def spL (q : Nat) (ad mu : Nat → Nat → Nat) (n : Nat) (R : List (List Nat)) : List (List Nat) := R.foldl (spK q ad mu n) [zV n]
theorem spL_snoc (R : List (List Nat)) (r : List Nat) : spL q ad mu n (R ++ [r]) = spK q ad mu n (spL q ad mu n R) r := by
  unfold spL
  rw [List.foldl_append]
  rfl
theorem spK_len (out : List (List Nat)) (r : List Nat) : (spK q ad mu n out r).length = out.length * q := by
  unfold spK
  induction out with
  | nil => simp
  | cons m out ih => rw [List.flatMap_cons, List.length_append, ih, List.length_map, List.length_range, List.length_cons, Nat.add_mul]; omega
theorem spK_mem {out : List (List Nat)} {r v : List Nat} : v ∈ spK q ad mu n out r ↔ ∃ u c, u ∈ out ∧ c < q ∧ v = adV ad n u (smV mu n c r) := by
  unfold spK
  rw [List.mem_flatMap]
  constructor
  · rintro ⟨u, hu, hv⟩
    obtain ⟨c, hc, rfl⟩ := List.mem_map.1 hv
    exact ⟨u, c, hu, List.mem_range.1 hc, rfl⟩
  · rintro ⟨u, c, hu, hc, rfl⟩
    exact ⟨u, hu, List.mem_map.2 ⟨c, List.mem_range.2 hc, rfl⟩⟩
theorem spL_len : ∀ k (R : List (List Nat)), R.length = k → (spL q ad mu n R).length = q ^ k
  | 0, R, h => by
    have : R = [] := List.length_eq_zero_iff.1 h
    subst this
    rfl
  | k + 1, R, h => by
    have e : R = R.dropLast ++ [R.getLast (fun e => by rw [e] at h; simp at h)] := (List.dropLast_concat_getLast _).symm
    rw [e, spL_snoc, spK_len, spL_len k _ (by rw [List.length_dropLast, h]; rfl), Nat.pow_succ]
/-- The first place where two lists part is where some row leads. -/
def LtB (R : List (List Nat)) (u v : List Nat) : Prop := ∃ r ∈ R, (∀ j, j < ldV r → u.getD j 0 = v.getD j 0) ∧ u.getD (ldV r) 0 < v.getD (ldV r) 0
theorem spn_mem (h : FqR q ad mu ng) : ∀ k {R : List (List Nat)}, R.length = k → Rws q n R → ∀ v, v ∈ spL q ad mu n R ↔ Spn q ad mu n R v
  | 0, R, hl, _, v => by
    have : R = [] := List.length_eq_zero_iff.1 hl
    subst this
    constructor
    · intro hv
      obtain rfl : v = zV n := by simpa [spL] using hv
      exact .zero
    · intro hv
      cases hv with
      | zero => simp [spL]
      | step hc hr _ => simp at hr
  | k + 1, R, hl, hR, v => by
    have hne : R ≠ [] := fun e => by rw [e] at hl; simp at hl
    obtain ⟨A, r, rfl⟩ : ∃ A r, R = A ++ [r] := ⟨_, _, (List.dropLast_concat_getLast hne).symm⟩
    have hA : Rws q n A := fun s hs => hR s (List.mem_append_left _ hs)
    have hr : Vc q n r := hR r (by simp)
    rw [spL_snoc, spK_mem, spn_snoc h hA hr]
    constructor
    · rintro ⟨u, c, hu, hc, e⟩
      exact ⟨u, c, (spn_mem h k (by simpa using hl) hA u).1 hu, hc, e⟩
    · rintro ⟨u, c, hu, hc, e⟩
      exact ⟨u, c, (spn_mem h k (by simpa using hl) hA u).2 hu, hc, e⟩
theorem spL_inc (h : FqR q ad mu ng) : ∀ k {R : List (List Nat)}, R.length = k → Rref q n R → (spL q ad mu n R).Pairwise (LtB R)
  | 0, R, hl, _ => by
    have : R = [] := List.length_eq_zero_iff.1 hl
    subst this
    simp [spL]
  | k + 1, R, hl, hR => by
    have hne : R ≠ [] := fun e => by rw [e] at hl; simp at hl
    obtain ⟨A, r, rfl⟩ : ∃ A r, R = A ++ [r] := ⟨_, _, (List.dropLast_concat_getLast hne).symm⟩
    have hpw := List.pairwise_append.1 hR.inc
    have hlt : ∀ s ∈ A, ldV s < ldV r := fun s hs => hpw.2.2 s hs r (by simp)
    have hA : Rref q n A := ⟨fun s hs => hR.rws s (List.mem_append_left _ hs), fun s hs => hR.one s (List.mem_append_left _ hs), hpw.1, fun s hs t ht => hR.col s (List.mem_append_left _ hs) t (List.mem_append_left _ ht)⟩
    have hrv : Vc q n r := hR.rws r (by simp)
    obtain ⟨hrn, hr1⟩ := hR.one r (by simp)
    have ih := spL_inc h k (by simpa using hl) hA
    have hz : ∀ u ∈ spL q ad mu n A, u.getD (ldV r) 0 = 0 ∧ Vc q n u := fun u hu => by
      have hs := (spn_mem h A.length rfl hA.rws u).1 hu
      refine ⟨hs.col0 h hrn fun s hsA => hR.col r (by simp) s (List.mem_append_left _ hsA) (fun e => ?_), hs.vc h hA.rws⟩
      have := hlt s hsA
      rw [e] at this
      omega
    have lo : ∀ u c j, Vc q n u → c < q → j < ldV r → (adV ad n u (smV mu n c r)).getD j 0 = u.getD j 0 := fun u c j hu hc hj => by
      rw [adV_at _ _ (by omega), smV_at _ (by omega), ldV_lo hj, h.mu_zero hc, h.ad_zero _ (hu.at h.pos j)]
    have at_ : ∀ u c, u ∈ spL q ad mu n A → c < q → (adV ad n u (smV mu n c r)).getD (ldV r) 0 = c := fun u c hu hc => by
      rw [adV_at _ _ hrn, smV_at _ hrn, hr1, (hz u hu).1, h.mu_one c hc, h.zero_ad hc]
    rw [spL_snoc]
    unfold spK
    rw [List.pairwise_flatMap]
    refine ⟨fun u hu => ?_, ih.imp_of_mem fun {u v} hu hv huv => ?_⟩
    · rw [List.pairwise_map]
      refine List.pairwise_lt_range.imp_of_mem fun {c d} hc hd hcd => ?_
      have hc := List.mem_range.1 hc
      have hd := List.mem_range.1 hd
      refine ⟨r, by simp, fun j hj => ?_, ?_⟩
      · rw [lo u c j (hz u hu).2 hc hj, lo u d j (hz u hu).2 hd hj]
      · rw [at_ u c hu hc, at_ u d hu hd]
        exact hcd
    · intro x hx y hy
      obtain ⟨c, hc, rfl⟩ := List.mem_map.1 hx
      obtain ⟨d, hd, rfl⟩ := List.mem_map.1 hy
      have hc := List.mem_range.1 hc
      have hd := List.mem_range.1 hd
      obtain ⟨s, hs, h1, h2⟩ := huv
      have hsr := hlt s hs
      refine ⟨s, List.mem_append_left _ hs, fun j hj => ?_, ?_⟩
      · rw [lo u c j (hz u hu).2 hc (by omega), lo v d j (hz v hv).2 hd (by omega)]
        exact h1 j hj
      · rw [lo u c _ (hz u hu).2 hc hsr, lo v d _ (hz v hv).2 hd hsr]
        exact h2
/-- A list's number from its left. -/
theorem shu_bd (q : Nat) : ∀ (v : List Nat) (a : Nat), (∀ x ∈ v, x < q) → a * q ^ v.length ≤ v.foldl (fun c x => c * q + x) a ∧ v.foldl (fun c x => c * q + x) a < (a + 1) * q ^ v.length
  | [], a, _ => by simp
  | x :: v, a, hv => by
    have hx := hv x List.mem_cons_self
    obtain ⟨h1, h2⟩ := shu_bd q v (a * q + x) fun y hy => hv y (List.mem_cons_of_mem _ hy)
    rw [List.foldl_cons, List.length_cons, Nat.pow_succ]
    have e1 : a * (q ^ v.length * q) = a * q * q ^ v.length := by rw [Nat.mul_comm (q ^ v.length), Nat.mul_assoc]
    have e2 : (a + 1) * (q ^ v.length * q) = (a * q + q) * q ^ v.length := by rw [Nat.mul_comm (q ^ v.length), ← Nat.mul_assoc, Nat.add_mul, Nat.one_mul]
    rw [e1, e2]
    exact ⟨Nat.le_trans (Nat.mul_le_mul_right _ (Nat.le_add_right _ _)) h1, Nat.lt_of_lt_of_le h2 (Nat.mul_le_mul_right _ (by omega))⟩
theorem shu_lex (q : Nat) : ∀ (u v : List Nat) (a d : Nat), u.length = v.length → (∀ x ∈ u, x < q) → (∀ x ∈ v, x < q) → d < u.length → (∀ j, j < d → u.getD j 0 = v.getD j 0) → u.getD d 0 < v.getD d 0 →
    u.foldl (fun c x => c * q + x) a < v.foldl (fun c x => c * q + x) a
  | [], _, a, d, _, _, _, hd, _, _ => by simp at hd
  | x :: u, [], a, d, hl, _, _, _, _, _ => by simp at hl
  | x :: u, y :: v, a, 0, hl, hu, hv, _, _, h => by
    have hxy : x < y := by simpa using h
    have b1 := (shu_bd q u (a * q + x) fun z hz => hu z (List.mem_cons_of_mem _ hz)).2
    have b2 := (shu_bd q v (a * q + y) fun z hz => hv z (List.mem_cons_of_mem _ hz)).1
    rw [List.foldl_cons, List.foldl_cons]
    have e : u.length = v.length := by simpa using hl
    rw [e] at b1
    exact Nat.lt_of_lt_of_le b1 (Nat.le_trans (Nat.mul_le_mul_right _ (by omega)) b2)
  | x :: u, y :: v, a, d + 1, hl, hu, hv, hd, h0, h => by
    have hxy : x = y := by simpa using h0 0 (by omega)
    subst hxy
    rw [List.foldl_cons, List.foldl_cons]
    exact shu_lex q u v (a * q + x) d (by simpa using hl) (fun z hz => hu z (List.mem_cons_of_mem _ hz)) (fun z hz => hv z (List.mem_cons_of_mem _ hz)) (by simpa using hd) (fun j hj => by simpa using h0 (j + 1) (by omega)) (by simpa using h)
theorem LtB.shu {R : List (List Nat)} (hR : Rref q n R) {u v : List Nat} (hu : Vc q n u) (hv : Vc q n v) (h : LtB R u v) : shu q u < shu q v := by
  obtain ⟨r, hr, h1, h2⟩ := h
  exact shu_lex q u v 0 (ldV r) (by rw [hu.len, hv.len]) hu.lt hv.lt (by rw [hu.len]; exact (hR.one r hr).1) h1 h2
theorem rise_extL : ∀ {a b : List Nat}, a.Pairwise (· < ·) → b.Pairwise (· < ·) → (∀ x, x ∈ a ↔ x ∈ b) → a = b := fun ha hb h =>
  List.Perm.eq_of_pairwise (le := fun x y => x ≤ y) (fun _ _ _ _ h1 h2 => Nat.le_antisymm h1 h2) (ha.imp fun h => Nat.le_of_lt h) (hb.imp fun h => Nat.le_of_lt h) ((List.perm_ext_iff_of_nodup (ha.imp fun h => Nat.ne_of_lt h) (hb.imp fun h => Nat.ne_of_lt h)).2 h)
/-- The lists of a space as the document tells them: by their numbers. -/
def liL (q n : Nat) (V : List Nat → Bool) : List (List Nat) := ((List.range (q ^ n)).filter fun c => V (opn q n c)).map (opn q n)
theorem spL_doc (h : FqR q ad mu ng) {V : List Nat → Bool} {R : List (List Nat)} (hR : BasIs q ad mu n (fun v => V v = true) R) : spL q ad mu n R = liL q n V := by
  have hvc : ∀ v ∈ spL q ad mu n R, Vc q n v := fun v hv => ((spn_mem h R.length rfl hR.rref.rws v).1 hv).vc h hR.rref.rws
  have e1 : (spL q ad mu n R).map (shu q) = (List.range (q ^ n)).filter fun c => V (opn q n c) := by
    refine rise_extL ?_ (List.Pairwise.filter _ List.pairwise_lt_range) fun c => ?_
    · rw [List.pairwise_map]
      exact (spL_inc h R.length rfl hR.rref).imp_of_mem fun {u v} hu hv huv => huv.shu hR.rref (hvc u hu) (hvc v hv)
    · rw [List.mem_map, List.mem_filter, List.mem_range]
      constructor
      · rintro ⟨v, hv, rfl⟩
        refine ⟨shu_lt h.pos n v (hvc v hv), ?_⟩
        rw [opn_shu h.pos n v (hvc v hv)]
        exact (hR.same v).1 ((spn_mem h R.length rfl hR.rref.rws v).1 hv)
      · rintro ⟨hc, hV⟩
        exact ⟨opn q n c, (spn_mem h R.length rfl hR.rref.rws _).2 ((hR.same _).2 hV), shu_opn n c hc⟩
  unfold liL
  rw [← e1, List.map_map]
  have e2 : ∀ v ∈ spL q ad mu n R, (opn q n ∘ shu q) v = v := fun v hv => opn_shu h.pos n v (hvc v hv)
  exact ((List.map_congr_left e2).trans (List.map_id _)).symm
end
end Go.Proofs.YtjfjdidibglhaabDoor
