/- Blocks that cut the points; the first list of them; nothing of the program. -/
import Derived.Test.YtamdpcajfgbagaaDPure
namespace Go.Proofs.Ytamdpcajfgbagaa

def addD (D : Nat → Bool) (b : List Nat) : Nat → Bool := fun x => D x || b.contains x
/-- A block that is not empty, and of which nothing is done. -/
def fitD (D : Nat → Bool) (b : List Nat) : Bool := !b.isEmpty && b.all fun x => !D x
theorem fitD_iff {D : Nat → Bool} {b : List Nat} : fitD D b = true ↔ b ≠ [] ∧ ∀ x ∈ b, D x = false := by
  unfold fitD
  rw [Bool.and_eq_true, List.all_eq_true]
  constructor
  · rintro ⟨h1, h2⟩
    refine ⟨fun e => by subst e; simp at h1, fun x hx => by have := h2 x hx; simpa using this⟩
  · rintro ⟨h1, h2⟩
    exact ⟨by cases b <;> simp_all, fun x hx => by rw [h2 x hx]; rfl⟩
def fullD (v : Nat) (D : Nat → Bool) : Bool := (List.range v).all D
theorem fullD_iff {v : Nat} {D : Nat → Bool} : fullD v D = true ↔ ∀ x, x < v → D x = true := by
  unfold fullD
  rw [List.all_eq_true]
  exact ⟨fun h x hx => h x (List.mem_range.2 hx), fun h x hx => h x (List.mem_range.1 hx)⟩
/-- Can what is left be cut by some of these blocks? -/
def ccB (v : Nat) : List (List Nat) → (Nat → Bool) → Bool
  | [], D => fullD v D
  | b :: B, D => (fitD D b && ccB v B (addD D b)) || ccB v B D
/-- The first list of their numbers, from i on. -/
def fcB (v : Nat) : List (List Nat) → Nat → (Nat → Bool) → Option (List Nat)
  | [], _, D => if fullD v D then some [] else none
  | b :: B, i, D => if (fitD D b && ccB v B (addD D b)) = true then (fcB v B (i + 1) (addD D b)).map (i :: ·) else fcB v B (i + 1) D
theorem fcB_some {v : Nat} : ∀ {B : List (List Nat)} {i : Nat} {D : Nat → Bool}, (fcB v B i D).isSome = ccB v B D
  | [], i, D => by
    unfold fcB ccB
    cases fullD v D <;> rfl
  | b :: B, i, D => by
    have h1 := fcB_some (v := v) (B := B) (i := i + 1) (D := addD D b)
    have h2 := fcB_some (v := v) (B := B) (i := i + 1) (D := D)
    have e1 : fcB v (b :: B) i D = if (fitD D b && ccB v B (addD D b)) = true then (fcB v B (i + 1) (addD D b)).map (i :: ·) else fcB v B (i + 1) D := rfl
    have e2 : ccB v (b :: B) D = ((fitD D b && ccB v B (addD D b)) || ccB v B D) := rfl
    rw [e1, e2]
    by_cases e : (fitD D b && ccB v B (addD D b)) = true
    · rw [if_pos e, Option.isSome_map, h1, e]
      rw [Bool.and_eq_true] at e
      rw [e.2]; rfl
    · rw [if_neg e, h2, Bool.eq_false_iff.2 e]; rfl
/-- A choice of blocks by their numbers, that cuts what is left. -/
structure Ec (v : Nat) (B : List (List Nat)) (D : Nat → Bool) (sel : Nat → Bool) : Prop where
  fit : ∀ i, i < B.length → sel i = true → fitD D (B.getD i []) = true
  dis : ∀ i j, i < B.length → j < B.length → sel i = true → sel j = true → i ≠ j → ∀ x, x ∈ B.getD i [] → x ∉ B.getD j []
  all : ∀ x, x < v → D x = true ∨ ∃ i, i < B.length ∧ sel i = true ∧ x ∈ B.getD i []
theorem fitD_add {D : Nat → Bool} {b c : List Nat} : fitD (addD D b) c = true ↔ fitD D c = true ∧ ∀ x, x ∈ c → x ∉ b := by
  rw [fitD_iff, fitD_iff]
  unfold addD
  constructor
  · rintro ⟨h1, h2⟩
    refine ⟨⟨h1, fun x hx => ?_⟩, fun x hx => ?_⟩
    · have := h2 x hx
      rw [Bool.or_eq_false_iff] at this
      exact this.1
    · have := h2 x hx
      rw [Bool.or_eq_false_iff] at this
      simpa using this.2
  · rintro ⟨⟨h1, h2⟩, h3⟩
    refine ⟨h1, fun x hx => ?_⟩
    rw [Bool.or_eq_false_iff]
    exact ⟨h2 x hx, by simpa using h3 x hx⟩
theorem cc_iff {v : Nat} : ∀ {B : List (List Nat)} {D : Nat → Bool}, ccB v B D = true ↔ ∃ sel, Ec v B D sel
  | [], D => by
    unfold ccB
    rw [fullD_iff]
    constructor
    · intro h
      exact ⟨fun _ => false, fun i hi => by simp at hi, fun i j hi => by simp at hi, fun x hx => .inl (h x hx)⟩
    · rintro ⟨sel, h⟩ x hx
      rcases h.all x hx with h | ⟨i, hi, _⟩
      · exact h
      · simp at hi
  | b :: B, D => by
    unfold ccB
    rw [Bool.or_eq_true, Bool.and_eq_true, cc_iff (B := B) (D := addD D b), cc_iff (B := B) (D := D)]
    constructor
    · rintro (⟨hf, sel, h⟩ | ⟨sel, h⟩)
      · refine ⟨fun i => match i with | 0 => true | i + 1 => sel i, fun i hi hs => ?_, fun i j hi hj hsi hsj hne x hx => ?_, fun x hx => ?_⟩
        · cases i with
          | zero => exact hf
          | succ i => exact (fitD_add.1 (h.fit i (by simpa using hi) hs)).1
        · cases i with
          | zero =>
            cases j with
            | zero => exact (hne rfl).elim
            | succ j =>
              intro hx2
              exact (fitD_add.1 (h.fit j (by simpa using hj) hsj)).2 x hx2 hx
          | succ i =>
            cases j with
            | zero => exact (fitD_add.1 (h.fit i (by simpa using hi) hsi)).2 x hx
            | succ j => exact h.dis i j (by simpa using hi) (by simpa using hj) hsi hsj (by omega) x hx
        · rcases h.all x hx with h1 | ⟨i, hi, hs, hx2⟩
          · unfold addD at h1
            rw [Bool.or_eq_true] at h1
            rcases h1 with h1 | h1
            · exact .inl h1
            · exact .inr ⟨0, by simp, rfl, List.contains_iff_mem.1 h1⟩
          · exact .inr ⟨i + 1, by simpa using hi, hs, hx2⟩
      · refine ⟨fun i => match i with | 0 => false | i + 1 => sel i, fun i hi hs => ?_, fun i j hi hj hsi hsj hne x hx => ?_, fun x hx => ?_⟩
        · cases i with
          | zero => cases hs
          | succ i => exact h.fit i (by simpa using hi) hs
        · cases i with
          | zero => cases hsi
          | succ i =>
            cases j with
            | zero => cases hsj
            | succ j => exact h.dis i j (by simpa using hi) (by simpa using hj) hsi hsj (by omega) x hx
        · rcases h.all x hx with h1 | ⟨i, hi, hs, hx2⟩
          · exact .inl h1
          · exact .inr ⟨i + 1, by simpa using hi, hs, hx2⟩
    · rintro ⟨sel, h⟩
      cases e : sel 0 with
      | true =>
        refine .inl ⟨h.fit 0 (by simp) e, fun i => sel (i + 1), fun i hi hs => ?_, fun i j hi hj hsi hsj hne x hx => h.dis (i + 1) (j + 1) (by simpa using hi) (by simpa using hj) hsi hsj (by omega) x hx, fun x hx => ?_⟩
        · exact fitD_add.2 ⟨h.fit (i + 1) (by simpa using hi) hs, fun x hx => h.dis (i + 1) 0 (by simpa using hi) (by simp) hs e (by omega) x hx⟩
        · rcases h.all x hx with h1 | ⟨i, hi, hs, hx2⟩
          · left; unfold addD; rw [h1]; rfl
          · cases i with
            | zero => left; unfold addD; rw [show b.contains x = true from List.contains_iff_mem.2 hx2]; simp
            | succ i => exact .inr ⟨i, by simpa using hi, hs, hx2⟩
      | false =>
        refine .inr ⟨fun i => sel (i + 1), fun i hi hs => h.fit (i + 1) (by simpa using hi) hs, fun i j hi hj hsi hsj hne x hx => h.dis (i + 1) (j + 1) (by simpa using hi) (by simpa using hj) hsi hsj (by omega) x hx, fun x hx => ?_⟩
        rcases h.all x hx with h1 | ⟨i, hi, hs, hx2⟩
        · exact .inl h1
        · cases i with
          | zero => rw [e] at hs; cases hs
          | succ i => exact .inr ⟨i, by simpa using hi, hs, hx2⟩
/-- A point that is not done lies in one of the blocks that come: any such point may be asked first. -/
theorem cc_point {v x : Nat} {B : List (List Nat)} {D : Nat → Bool} (hx : x < v) (hd : D x = false) : ccB v B D = true ↔ ∃ i, i < B.length ∧ x ∈ B.getD i [] ∧ fitD D (B.getD i []) = true ∧ ccB v B (addD D (B.getD i [])) = true := by
  constructor
  · intro h
    obtain ⟨sel, h⟩ := cc_iff.1 h
    rcases h.all x hx with h1 | ⟨i, hi, hs, hxi⟩
    · rw [hd] at h1; cases h1
    · refine ⟨i, hi, hxi, h.fit i hi hs, cc_iff.2 ⟨fun j => sel j && j != i, fun j hj hsj => ?_, fun j k hj hk hsj hsk hne => ?_, fun y hy => ?_⟩⟩
      · rw [Bool.and_eq_true, bne_iff_ne] at hsj
        exact fitD_add.2 ⟨h.fit j hj hsj.1, fun y hy => h.dis j i hj hi hsj.1 hs hsj.2 y hy⟩
      · rw [Bool.and_eq_true] at hsj hsk
        exact h.dis j k hj hk hsj.1 hsk.1 hne
      · rcases h.all y hy with h1 | ⟨j, hj, hsj, hyj⟩
        · left; unfold addD; rw [h1]; rfl
        · by_cases e : j = i
          · subst e; left; unfold addD; rw [List.contains_iff_mem.2 hyj]; simp
          · exact .inr ⟨j, hj, by rw [hsj]; simpa using e, hyj⟩
  · rintro ⟨i, hi, hxi, hf, h⟩
    obtain ⟨sel, h⟩ := cc_iff.1 h
    have hni : sel i = false := by
      cases e : sel i with
      | false => rfl
      | true =>
        have := (fitD_add.1 (h.fit i hi e)).2 x hxi
        exact (this hxi).elim
    refine cc_iff.2 ⟨fun j => sel j || j == i, fun j hj hsj => ?_, fun j k hj hk hsj hsk hne y hy => ?_, fun y hy => ?_⟩
    · by_cases e : j = i
      · subst e; exact hf
      · rw [Bool.or_eq_true] at hsj
        rcases hsj with hsj | hsj
        · exact (fitD_add.1 (h.fit j hj hsj)).1
        · exact (e (by simpa using hsj)).elim
    · have K : ∀ m, m < B.length → (sel m || m == i) = true → m ≠ i → sel m = true := fun m _ hm hne => by
        rw [Bool.or_eq_true] at hm
        rcases hm with hm | hm
        · exact hm
        · exact (hne (by simpa using hm)).elim
      by_cases ej : j = i
      · subst ej
        intro hyk
        exact (fitD_add.1 (h.fit k hk (K k hk hsk (Ne.symm hne)))).2 y hyk hy
      · by_cases ek : k = i
        · subst ek
          exact (fitD_add.1 (h.fit j hj (K j hj hsj ej))).2 y hy
        · exact h.dis j k hj hk (K j hj hsj ej) (K k hk hsk ek) hne y hy
    · rcases h.all y hy with h1 | ⟨j, hj, hsj, hyj⟩
      · unfold addD at h1
        rw [Bool.or_eq_true] at h1
        rcases h1 with h1 | h1
        · exact .inl h1
        · exact .inr ⟨i, hi, by simp, List.contains_iff_mem.1 h1⟩
      · exact .inr ⟨j, hj, by rw [hsj]; rfl, hyj⟩
theorem cc_full {v : Nat} {D : Nat → Bool} (h : fullD v D = true) : ∀ B : List (List Nat), ccB v B D = true
  | [] => h
  | b :: B => by
    unfold ccB
    rw [cc_full h B, Bool.or_true]
end Go.Proofs.Ytamdpcajfgbagaa
