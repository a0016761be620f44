/- What is counted: the lists that go on. Nothing of the program. -/
import Derived.Test.YtgkfddcmngodgabTrX
import Derived.Test.YtgkfddcmngodgabTrC
namespace Go.Proofs.Ytgkfddcmngodgab

/-- All lists that go on from L by k players. -/
def goL (n : Nat) (t : Nat → Nat → Bool) : Nat → List Nat → List (List Nat)
  | 0, L => [L]
  | k + 1, L => (List.range n).flatMap fun b => if L.contains b || (decide (0 < L.length) && !t (L.getD (L.length - 1) 0) b) then [] else goL n t k (L ++ [b])
/-- Those asked for: the last beats the first, where a ring is. -/
def okR (n : Nat) (t : Nat → Nat → Bool) (rg : Bool) (M : List Nat) : Bool := !(rg && decide (1 < n) && !t (M.getD (n - 1) 0) (M.getD 0 0))
section
variable {n : Nat} {t : Nat → Nat → Bool} {rg : Bool}
theorem headD_append {α : Type} (A B : List α) (d : α) : (A ++ B).headD d = if A.length = 0 then B.headD d else A.headD d := by
  cases A with
  | nil => rfl
  | cons a A => rfl
theorem wk_is : ∀ (k : Nat) (L : List Nat), wk n t rg k L = (((goL n t k L).filter (okR n t rg)).length, ((goL n t k L).filter (okR n t rg)).headD [])
  | 0, L => by
    unfold wk goL okR
    cases h : (rg && decide (1 < n) && !t (L.getD (n - 1) 0) (L.getD 0 0)) with
    | true => rw [if_pos rfl, List.filter_cons_of_neg (by rw [h]; simp)]; rfl
    | false => rw [if_neg (by simp), List.filter_cons_of_pos (by rw [h]; rfl)]; rfl
  | k + 1, L => by
    rw [wk_succ]
    have key : ∀ j, wkT n t rg k L j = ((((List.range j).flatMap fun b => if L.contains b || (decide (0 < L.length) && !t (L.getD (L.length - 1) 0) b) then [] else goL n t k (L ++ [b])).filter (okR n t rg)).length, (((List.range j).flatMap fun b => if L.contains b || (decide (0 < L.length) && !t (L.getD (L.length - 1) 0) b) then [] else goL n t k (L ++ [b])).filter (okR n t rg)).headD []) := by
      intro j
      induction j with
      | zero => rfl
      | succ j ih =>
        rw [wkT_step, ih, List.range_succ, List.flatMap_append, List.filter_append, List.length_append, headD_append]
        generalize ((List.range j).flatMap fun b => if L.contains b || (decide (0 < L.length) && !t (L.getD (L.length - 1) 0) b) then [] else goL n t k (L ++ [b])).filter (okR n t rg) = A
        rw [List.flatMap_cons, List.flatMap_nil, List.append_nil]
        cases hc : (L.contains j || (decide (0 < L.length) && !t (L.getD (L.length - 1) 0) j)) with
        | true =>
          simp only [reduceIte, List.filter_nil, List.length_nil, Nat.add_zero, List.headD_nil]
          cases A <;> rfl
        | false =>
          simp only [Bool.false_eq_true, reduceIte, wk_is k (L ++ [j])]
          generalize (goL n t k (L ++ [j])).filter (okR n t rg) = B
          cases A with
          | nil => cases B <;> rfl
          | cons a A => rfl
    exact key n
/-- A list that goes on: chain, no doubles. -/
theorem chn_snoc : ∀ {L : List Nat} {b : Nat}, chn t (L ++ [b]) ↔ chn t L ∧ (L.length = 0 ∨ t (L.getD (L.length - 1) 0) b = true)
  | [], b => by simp [chn]
  | [x], b => by simp [chn]
  | x :: y :: L, b => by
    have ih := chn_snoc (L := y :: L) (b := b)
    show (t x y = true ∧ chn t (y :: L ++ [b])) ↔ _
    rw [ih]
    have e : (x :: y :: L).getD ((x :: y :: L).length - 1) 0 = (y :: L).getD ((y :: L).length - 1) 0 := by simp
    rw [e]
    show (t x y = true ∧ chn t (y :: L) ∧ ((y :: L).length = 0 ∨ t ((y :: L).getD ((y :: L).length - 1) 0) b = true)) ↔ ((t x y = true ∧ chn t (y :: L)) ∧ ((x :: y :: L).length = 0 ∨ t ((y :: L).getD ((y :: L).length - 1) 0) b = true))
    simp only [List.length_cons, Nat.add_eq_zero_iff, Nat.one_ne_zero, and_false, false_or]
    exact and_assoc.symm
/-- Lists of players without doubles in which each beats the next. -/
structure Wlk (n : Nat) (t : Nat → Nat → Bool) (M : List Nat) : Prop where
  nd : M.Nodup
  lt : ∀ x ∈ M, x < n
  ch : chn t M
theorem Wlk.snoc {L : List Nat} {b : Nat} : Wlk n t (L ++ [b]) ↔ Wlk n t L ∧ b < n ∧ L.contains b = false ∧ (L.length = 0 ∨ t (L.getD (L.length - 1) 0) b = true) := by
  have hc : L.contains b = false ↔ b ∉ L := by
    rw [Bool.eq_false_iff]
    exact ⟨fun h h' => h (List.contains_iff_mem.2 h'), fun h h' => h (List.contains_iff_mem.1 h')⟩
  rw [hc]
  constructor
  · intro h
    have h1 := List.nodup_append.1 h.nd
    have h2 := chn_snoc.1 h.ch
    exact ⟨⟨h1.1, fun x hx => h.lt x (by simp [hx]), h2.1⟩, h.lt b (by simp), fun hb => h1.2.2 b hb b (by simp) rfl, h2.2⟩
  · rintro ⟨h, h1, h2, h3⟩
    refine ⟨List.nodup_append.2 ⟨h.nd, by simp, fun a ha c hcc e => ?_⟩, fun x hx => ?_, chn_snoc.2 ⟨h.ch, h3⟩⟩
    · rw [List.mem_singleton] at hcc
      exact h2 (by rw [← hcc, ← e]; exact ha)
    · rcases List.mem_append.1 hx with hx | hx
      · exact h.lt x hx
      · rw [List.mem_singleton] at hx; omega
theorem Wlk.pre : ∀ {B A : List Nat}, Wlk n t (A ++ B) → Wlk n t A
  | [], A, h => by rwa [List.append_nil] at h
  | b :: B, A, h => by
    have : A ++ b :: B = (A ++ [b]) ++ B := by simp
    rw [this] at h
    exact (Wlk.snoc.1 (Wlk.pre h)).1
/-- Who is listed. -/
theorem mem_goL : ∀ {k : Nat} {L M : List Nat}, Wlk n t L → (M ∈ goL n t k L ↔ ∃ R, M = L ++ R ∧ R.length = k ∧ Wlk n t M)
  | 0, L, M, hL => by
    unfold goL
    rw [List.mem_singleton]
    constructor
    · rintro rfl
      exact ⟨[], by simp, rfl, hL⟩
    · rintro ⟨R, rfl, hR, _⟩
      rw [List.length_eq_zero_iff.1 hR, List.append_nil]
  | k + 1, L, M, hL => by
    unfold goL
    rw [List.mem_flatMap]
    constructor
    · rintro ⟨b, hb, hM⟩
      by_cases hc : (L.contains b || (decide (0 < L.length) && !t (L.getD (L.length - 1) 0) b)) = true
      · rw [if_pos hc] at hM; simp at hM
      · rw [if_neg hc] at hM
        simp only [Bool.or_eq_true, Bool.and_eq_true, decide_eq_true_eq, Bool.not_eq_true', not_or, not_and] at hc
        have hW : Wlk n t (L ++ [b]) := Wlk.snoc.2 ⟨hL, List.mem_range.1 hb, by simpa using hc.1, by
          rcases Nat.eq_zero_or_pos L.length with h | h
          · exact .inl h
          · exact .inr (by have := hc.2 h; simpa [-List.getD_eq_getElem?_getD] using this)⟩
        obtain ⟨R, rfl, hR, hM⟩ := (mem_goL hW).1 hM
        exact ⟨b :: R, by simp, by simp [hR], hM⟩
    · rintro ⟨R, rfl, hR, hM⟩
      match R, hR with
      | b :: R, hR =>
        have e : L ++ b :: R = (L ++ [b]) ++ R := by simp
        rw [e] at hM ⊢
        have hW := hM.pre
        have h := Wlk.snoc.1 hW
        refine ⟨b, List.mem_range.2 h.2.1, ?_⟩
        have hc : (L.contains b || (decide (0 < L.length) && !t (L.getD (L.length - 1) 0) b)) = false := by
          rw [h.2.2.1, Bool.false_or]
          rcases h.2.2.2 with k0 | k0
          · rw [k0]; rfl
          · rw [k0]; simp
        rw [hc, if_neg (by simp)]
        exact (mem_goL hW).2 ⟨R, rfl, by simpa using hR, hM⟩
theorem goL_nod : ∀ {k : Nat} {L : List Nat}, Wlk n t L → (goL n t k L).Nodup
  | 0, L, _ => by unfold goL; simp
  | k + 1, L, hL => by
    unfold goL
    have hr := List.nodup_range (n := n)
    generalize hrs : List.range n = rs at hr
    have hlt : ∀ b ∈ rs, b < n := fun b hb => by rw [← hrs] at hb; exact List.mem_range.1 hb
    clear hrs
    induction rs with
    | nil => simp
    | cons b rs ih =>
      have hd := List.nodup_cons.1 hr
      rw [List.flatMap_cons, List.nodup_append]
      have hbr : ∀ {c M}, c < n → M ∈ (if L.contains c || (decide (0 < L.length) && !t (L.getD (L.length - 1) 0) c) then [] else goL n t k (L ++ [c])) → Wlk n t (L ++ [c]) ∧ ∃ R, M = (L ++ [c]) ++ R := fun {c M} hcn hM => by
        by_cases hc : (L.contains c || (decide (0 < L.length) && !t (L.getD (L.length - 1) 0) c)) = true
        · rw [if_pos hc] at hM; simp at hM
        · rw [if_neg hc] at hM
          simp only [Bool.or_eq_true, Bool.and_eq_true, decide_eq_true_eq, Bool.not_eq_true', not_or, not_and] at hc
          have hW : Wlk n t (L ++ [c]) := Wlk.snoc.2 ⟨hL, hcn, by simpa using hc.1, by
            rcases Nat.eq_zero_or_pos L.length with h | h
            · exact .inl h
            · exact .inr (by have := hc.2 h; simpa [-List.getD_eq_getElem?_getD] using this)⟩
          obtain ⟨R, e, _, _⟩ := (mem_goL hW).1 hM
          exact ⟨hW, R, e⟩
      refine ⟨?_, ih hd.2 fun c hc => hlt c (by simp [hc]), fun M hM M' hM' e => ?_⟩
      · by_cases hc : (L.contains b || (decide (0 < L.length) && !t (L.getD (L.length - 1) 0) b)) = true
        · rw [if_pos hc]; simp
        · rw [if_neg hc]
          simp only [Bool.or_eq_true, Bool.and_eq_true, decide_eq_true_eq, Bool.not_eq_true', not_or, not_and] at hc
          exact goL_nod (Wlk.snoc.2 ⟨hL, hlt b (by simp), by simpa using hc.1, by
            rcases Nat.eq_zero_or_pos L.length with h | h
            · exact .inl h
            · exact .inr (by have := hc.2 h; simpa [-List.getD_eq_getElem?_getD] using this)⟩)
      · obtain ⟨c, hc, hM'⟩ := List.mem_flatMap.1 hM'
        obtain ⟨_, R, e1⟩ := hbr (hlt b (by simp)) hM
        obtain ⟨_, R', e2⟩ := hbr (hlt c (by simp [hc])) hM'
        rw [e1, e2, List.append_assoc, List.append_assoc] at e
        have := List.append_cancel_left e
        simp only [List.cons_append, List.nil_append, List.cons.injEq] at this
        exact hd.1 (by rw [this.1]; exact hc)
end
end Go.Proofs.Ytgkfddcmngodgab
