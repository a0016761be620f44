/- Camion: where all come to all there is a cycle of all. Nothing of the program. -/
import Derived.Test.YtgkfddcmngodgabTrR
namespace Go.Proofs.Ytgkfddcmngodgab

/-- Each but the last beats the next. -/
def chn (t : Nat → Nat → Bool) : List Nat → Prop
  | [] => True
  | [_] => True
  | x :: y :: l => t x y = true ∧ chn t (y :: l)
theorem chn_tail {t : Nat → Nat → Bool} {x : Nat} {l : List Nat} (h : chn t (x :: l)) : chn t l := by
  cases l with
  | nil => trivial
  | cons y l => exact h.2
theorem chn_join {t : Nat → Nat → Bool} : ∀ {A : List Nat} {x y : Nat} {B : List Nat}, chn t (A ++ [x]) → t x y = true → chn t (y :: B) → chn t (A ++ x :: y :: B)
  | [], _, _, _, _, h2, h3 => ⟨h2, h3⟩
  | [_a], _, _, _, h1, h2, h3 => ⟨h1.1, h2, h3⟩
  | _a :: b :: A, _x, _y, _B, h1, h2, h3 => ⟨h1.1, chn_join (A := b :: A) h1.2 h2 h3⟩
theorem chn_left {t : Nat → Nat → Bool} : ∀ {A : List Nat} {x : Nat} {B : List Nat}, chn t (A ++ x :: B) → chn t (A ++ [x])
  | [], _, _, _ => trivial
  | [_a], _, _, h => ⟨h.1, trivial⟩
  | _a :: b :: A, _, _, h => ⟨h.1, chn_left (A := b :: A) h.2⟩
theorem chn_right {t : Nat → Nat → Bool} : ∀ {A : List Nat} {B : List Nat}, chn t (A ++ B) → chn t B
  | [], _, h => h
  | _a :: A, _B, h => chn_right (A := A) (chn_tail h)
theorem chn_mid {t : Nat → Nat → Bool} {A : List Nat} {x y : Nat} {B : List Nat} (h : chn t (A ++ x :: y :: B)) : t x y = true := (chn_right h).1
/-- One more between two. -/
theorem chn_put {t : Nat → Nat → Bool} {A : List Nat} {x y v : Nat} {B : List Nat} (h : chn t (A ++ x :: y :: B)) (h1 : t x v = true) (h2 : t v y = true) : chn t (A ++ x :: v :: y :: B) :=
  chn_join (chn_left h) h1 ⟨h2, chn_tail (chn_right h)⟩
/-- A cycle: from h on, round. -/
structure Cyc (t : Nat → Nat → Bool) (h : Nat) (l : List Nat) : Prop where
  nd : (h :: l).Nodup
  ch : chn t (h :: l)
  back : ∀ x A, h :: l = A ++ [x] → l ≠ [] → t x h = true
/-- Somewhere on the way it turns. -/
theorem scan {t : Nat → Nat → Bool} {v : Nat} : ∀ {x : Nat} {l : List Nat}, t x v = true → (∃ y ∈ l, t y v = false) → ∃ A p q B, x :: l = A ++ p :: q :: B ∧ t p v = true ∧ t q v = false
  | _, [], _, ⟨_, h, _⟩ => by simp at h
  | x, y :: l, h, ⟨z, hz, hzv⟩ => by
    cases hy : t y v with
    | false => exact ⟨[], x, y, l, rfl, h, hy⟩
    | true =>
      have hzl : z ∈ l := by
        rcases List.mem_cons.1 hz with e | e
        · rw [e, hy] at hzv; cases hzv
        · exact e
      obtain ⟨A, p, q, B, e, h1, h2⟩ := scan (x := y) (l := l) hy ⟨z, hzl, hzv⟩
      exact ⟨x :: A, p, q, B, by rw [e]; rfl, h1, h2⟩
/-- All come to all. -/
def Strg (n : Nat) (t : Nat → Nat → Bool) : Prop := ∀ Z : Nat → Prop, (∃ x, x < n ∧ Z x) → (∀ x y, x < n → y < n → Z x → t x y = true → Z y) → ∀ y, y < n → Z y
theorem strg_edge {n : Nat} {t : Nat → Nat → Bool} (h : Strg n t) (Z : Nat → Prop) (h1 : ∃ x, x < n ∧ Z x) (h2 : ∃ y, y < n ∧ ¬ Z y) : ∃ x y, x < n ∧ y < n ∧ Z x ∧ ¬ Z y ∧ t x y = true := by
  refine Classical.byContradiction fun hc => ?_
  obtain ⟨y, hy, hny⟩ := h2
  refine hny (h Z h1 (fun a b ha hb hZ hab => ?_) y hy)
  exact Classical.byContradiction fun hb' => hc ⟨a, b, ha, hb, hZ, hb', hab⟩
section
variable {n : Nat} {t : Nat → Nat → Bool}
theorem last_of : ∀ {l : List Nat}, l ≠ [] → ∃ A x, l = A ++ [x]
  | [], h => absurd rfl h
  | [x], _ => ⟨[], x, rfl⟩
  | x :: y :: l, _ => by
    obtain ⟨A, z, e⟩ := last_of (l := y :: l) (by simp)
    exact ⟨x :: A, z, by rw [e]; rfl⟩
theorem snoc_inj {A B : List Nat} {x y : Nat} (h : A ++ [x] = B ++ [y]) : A = B ∧ x = y := by
  have := List.append_inj' h rfl
  exact ⟨this.1, by simpa using this.2⟩
/-- A cycle grows: one more, or two more, while any is left. -/
theorem cyc_grow (hT : Trn (List.range n) t) (hS : Strg n t) {h : Nat} {l : List Nat} (hl : l ≠ []) (hc : Cyc t h l) (hm : ∀ x ∈ h :: l, x < n) (hv : ∃ v, v < n ∧ v ∉ h :: l) : ∃ l', Cyc t h l' ∧ l.length < l'.length ∧ ∀ x ∈ h :: l', x < n := by
  have tr : ∀ {p q}, p < n → q < n → p ≠ q → t p q = !t q p := fun hp hq hne => hT _ _ (List.mem_range.2 hp) (List.mem_range.2 hq) hne
  obtain ⟨A0, z0, e0⟩ := last_of hl
  have eL : h :: l = (h :: A0) ++ [z0] := by rw [e0]; rfl
  have hb := hc.back z0 (h :: A0) eL hl
  have z0m : z0 ∈ h :: l := by rw [eL]; simp
  -- insertion between two
  have put : ∀ v, v < n → v ∉ h :: l → ∀ A p q B, h :: l = A ++ p :: q :: B → t p v = true → t q v = false → ∃ l', Cyc t h l' ∧ l.length < l'.length ∧ ∀ x ∈ h :: l', x < n := fun v hv hvl A p q B e h1 h2 => by
    have hqm : q ∈ h :: l := by rw [e]; simp
    have hqv : t v q = true := by
      rw [tr hv (hm q hqm) (fun e' => hvl (by rw [e']; exact hqm)), h2]
      rfl
    have hnd : (A ++ p :: v :: q :: B).Nodup := by
      have hp : (A ++ p :: v :: q :: B).Perm (v :: (A ++ p :: q :: B)) := by
        have : A ++ p :: v :: q :: B = (A ++ [p]) ++ v :: (q :: B) := by simp
        rw [this]
        refine List.perm_middle.trans ?_
        simp
      rw [hp.nodup_iff, List.nodup_cons, ← e]
      exact ⟨hvl, hc.nd⟩
    have hch : chn t (A ++ p :: v :: q :: B) := chn_put (by rw [← e]; exact hc.ch) h1 hqv
    have hbl : ∃ C, A ++ p :: q :: B = C ++ [z0] ∧ ∃ C', A ++ p :: v :: q :: B = C' ++ [z0] := by
      obtain ⟨D, z, ez⟩ := last_of (l := q :: B) (by simp)
      refine ⟨A ++ p :: D, ?_, A ++ p :: v :: D, ?_⟩
      · have k : A ++ p :: q :: B = (A ++ p :: D) ++ [z] := by rw [ez]; simp
        have := snoc_inj (k.symm.trans (e.symm.trans eL))
        rw [k, this.2]
      · have k : A ++ p :: q :: B = (A ++ p :: D) ++ [z] := by rw [ez]; simp
        have := snoc_inj (k.symm.trans (e.symm.trans eL))
        rw [ez, this.2]; simp
    obtain ⟨_, _, C', eC'⟩ := hbl
    have hd : ∃ l', A ++ p :: v :: q :: B = h :: l' := by
      cases A with
      | nil =>
        simp only [List.nil_append, List.cons.injEq] at e
        exact ⟨v :: q :: B, by rw [e.1]; rfl⟩
      | cons a A =>
        simp only [List.cons_append, List.cons.injEq] at e
        exact ⟨A ++ p :: v :: q :: B, by rw [e.1]; rfl⟩
    obtain ⟨l', el'⟩ := hd
    rw [el'] at hnd hch eC'
    refine ⟨l', ⟨hnd, hch, fun x D hx _ => ?_⟩, ?_, fun x hx => ?_⟩
    · have := snoc_inj (hx.symm.trans eC')
      rw [this.2]
      exact hb
    · have k1 := congrArg List.length e
      have k2 := congrArg List.length el'
      simp at k1 k2
      omega
    · rw [← el'] at hx
      have : x = v ∨ x ∈ A ++ p :: q :: B := by
        simp only [List.mem_append, List.mem_cons] at hx ⊢
        rcases hx with hx | hx | hx | hx | hx
        · exact .inr (.inl hx)
        · exact .inr (.inr (.inl hx))
        · exact .inl hx
        · exact .inr (.inr (.inr (.inl hx)))
        · exact .inr (.inr (.inr (.inr hx)))
      rcases this with rfl | hx
      · exact hv
      · exact hm x (by rw [e]; exact hx)
  -- at the end
  have app : ∀ vs : List Nat, vs ≠ [] → (∀ v ∈ vs, v < n ∧ v ∉ h :: l) → vs.Nodup → chn t (z0 :: vs) → (∀ D x, vs = D ++ [x] → t x h = true) → ∃ l', Cyc t h l' ∧ l.length < l'.length ∧ ∀ x ∈ h :: l', x < n := fun vs hne hvs hnd hch hbk => by
    obtain ⟨v, vs', rfl⟩ : ∃ v vs', vs = v :: vs' := by cases vs with
      | nil => exact absurd rfl hne
      | cons v vs' => exact ⟨v, vs', rfl⟩
    refine ⟨l ++ v :: vs', ⟨?_, ?_, fun x D hx _ => ?_⟩, by simp, fun x hx => ?_⟩
    · show ((h :: l) ++ v :: vs').Nodup
      refine List.nodup_append.2 ⟨hc.nd, hnd, fun a ha b hb e => (hvs b hb).2 (by rw [← e]; exact ha)⟩
    · show chn t ((h :: l) ++ v :: vs')
      have := chn_join (A := h :: A0) (x := z0) (y := v) (B := vs') (by rw [← eL]; exact hc.ch) hch.1 hch.2
      rw [eL]
      simpa using this
    · obtain ⟨D', z, ez⟩ := last_of (l := v :: vs') (by simp)
      have k : h :: (l ++ v :: vs') = (h :: l ++ D') ++ [z] := by rw [ez]; simp
      have := snoc_inj (hx.symm.trans k)
      rw [this.2]
      exact hbk D' z ez
    · have : x ∈ h :: l ∨ x ∈ v :: vs' := by
        rw [← List.cons_append] at hx
        exact List.mem_append.1 hx
      rcases this with hx | hx
      · exact hm x hx
      · exact (hvs x hx).1
  -- who is left beats all of it, or is beaten by all, or can be put in
  have mix : ∀ v, v < n → v ∉ h :: l → (∀ x ∈ h :: l, t x v = true) ∨ (∀ x ∈ h :: l, t x v = false) ∨ ∃ l', Cyc t h l' ∧ l.length < l'.length ∧ ∀ x ∈ h :: l', x < n := fun v hv hvl => by
    by_cases ha : ∀ x ∈ h :: l, t x v = true
    · exact .inl ha
    by_cases hn : ∀ x ∈ h :: l, t x v = false
    · exact .inr (.inl hn)
    refine .inr (.inr ?_)
    have hh : h < n := hm h (by simp)
    cases hhv : t h v with
    | true =>
      obtain ⟨y, hy, hyv⟩ : ∃ y ∈ l, t y v = false := by
        refine Classical.byContradiction fun hc' => ha fun x hx => ?_
        rcases List.mem_cons.1 hx with rfl | hx
        · exact hhv
        · cases hxv : t x v with
          | true => rfl
          | false => exact absurd ⟨x, hx, hxv⟩ hc'
      obtain ⟨A, p, q, B, e, h1, h2⟩ := scan hhv ⟨y, hy, hyv⟩
      exact put v hv hvl A p q B e h1 h2
    | false =>
      cases hzv : t z0 v with
      | true =>
        refine app [v] (by simp) (fun x hx => by rw [List.mem_singleton.1 hx]; exact ⟨hv, hvl⟩) (by simp) ⟨hzv, trivial⟩ fun D x e => ?_
        have := snoc_inj (A := []) (x := v) (B := D) (y := x) (by simpa using e)
        rw [← this.2, tr hv hh (fun e' => hvl (by rw [e']; simp)), hhv]
        rfl
      | false =>
        obtain ⟨x, hx, hxv⟩ : ∃ x ∈ h :: l, t x v = true := by
          refine Classical.byContradiction fun hc' => hn fun x hx => ?_
          cases hxv : t x v with
          | false => rfl
          | true => exact absurd ⟨x, hx, hxv⟩ hc'
        obtain ⟨C, D, eCD⟩ := List.append_of_mem hx
        have hzD : z0 ∈ D := by
          have hD : D ≠ [] := fun e' => by
            rw [e'] at eCD
            have := snoc_inj (eCD.symm.trans eL)
            rw [this.2, hzv] at hxv
            cases hxv
          obtain ⟨D', z, ez⟩ := last_of hD
          have k : h :: l = (C ++ x :: D') ++ [z] := by rw [eCD, ez]; simp
          have := snoc_inj (k.symm.trans eL)
          rw [ez, this.2]
          simp
        obtain ⟨A, p, q, B, e, h1, h2⟩ := scan (l := D) hxv ⟨z0, hzD, hzv⟩
        exact put v hv hvl (C ++ A) p q B (by rw [eCD, e]; simp) h1 h2
  refine Classical.byContradiction fun hno => ?_
  have cases2 : ∀ v, v < n → v ∉ h :: l → (∀ x ∈ h :: l, t x v = true) ∨ ∀ x ∈ h :: l, t x v = false := fun v hv hvl => by
    rcases mix v hv hvl with k | k | k
    · exact .inl k
    · exact .inr k
    · exact absurd k hno
  -- an edge from who is beaten to who beats all
  have edge : ∃ a b, a < n ∧ b < n ∧ a ∉ h :: l ∧ b ∉ h :: l ∧ (∀ x ∈ h :: l, t x a = true) ∧ (∀ x ∈ h :: l, t x b = false) ∧ t a b = true := by
    obtain ⟨v, hv, hvl⟩ := hv
    rcases cases2 v hv hvl with hW | hU
    · obtain ⟨a, b, ha, hb, hZa, hZb, hab⟩ := strg_edge hS (fun x => x ∉ h :: l ∧ ∀ y ∈ h :: l, t y x = true) ⟨v, hv, hvl, hW⟩ ⟨h, hm h (by simp), fun k => k.1 (by simp)⟩
      have hbl : b ∉ h :: l := fun hbm => by
        have k := hZa.2 b hbm
        have := tr ha hb (fun e => hZa.1 (by rw [e]; exact hbm))
        rw [hab, k] at this
        cases this
      rcases cases2 b hb hbl with k | k
      · exact absurd ⟨hbl, k⟩ hZb
      · exact ⟨a, b, ha, hb, hZa.1, hbl, hZa.2, k, hab⟩
    · obtain ⟨a, b, ha, hb, hZa, hZb, hab⟩ := strg_edge hS (fun x => ¬ (x ∉ h :: l ∧ ∀ y ∈ h :: l, t y x = false)) ⟨h, hm h (by simp), fun k => k.1 (by simp)⟩ ⟨v, hv, fun k => k ⟨hvl, hU⟩⟩
      have hbU : b ∉ h :: l ∧ ∀ y ∈ h :: l, t y b = false := Classical.byContradiction hZb
      have hal : a ∉ h :: l := fun ham => by
        rw [hbU.2 a ham] at hab
        cases hab
      rcases cases2 a ha hal with k | k
      · exact ⟨a, b, ha, hb, hal, hbU.1, k, hbU.2, hab⟩
      · exact absurd ⟨hal, k⟩ hZa
  obtain ⟨a, b, ha, hb, hal, hbl, hWa, hUb, hab⟩ := edge
  refine hno (app [a, b] (by simp) (fun x hx => ?_) ?_ ⟨hWa z0 z0m, hab, trivial⟩ fun D x e => ?_)
  · simp only [List.mem_cons, List.not_mem_nil, or_false] at hx
    rcases hx with rfl | rfl
    · exact ⟨ha, hal⟩
    · exact ⟨hb, hbl⟩
  · simp only [List.nodup_cons, List.mem_singleton, List.not_mem_nil, not_false_eq_true, List.nodup_nil, and_true]
    intro e
    have k1 := hWa h (by simp)
    have k2 := hUb h (by simp)
    rw [e, k2] at k1
    cases k1
  · have := snoc_inj (A := [a]) (x := b) (B := D) (y := x) (by simpa using e)
    rw [← this.2, tr hb (hm h (by simp)) (fun e' => hbl (by rw [e']; simp)), hUb h (by simp)]
    rfl
end
end Go.Proofs.Ytgkfddcmngodgab
