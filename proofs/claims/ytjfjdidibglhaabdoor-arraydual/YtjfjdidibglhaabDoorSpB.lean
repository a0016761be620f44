/- The document's way to a basis: all lists are looked at; nothing of the program. -/
import Derived.Test.YtjfjdidibglhaabDoorSpD
namespace Go.Proofs.YtjfjdidibglhaabDoor
variable {q n : Nat} {ad mu : Nat → Nat → Nat} {ng : Nat → Nat}

/-- Does something of the space begin there? -/
def ldsB (q n : Nat) (V : List Nat → Bool) (k : Nat) : Bool := (allV q n).any fun v => V v && (ldV v == k) && v != zV n
/-- Is it as a row of the basis that begins at k? -/
def rowB (q n : Nat) (V : List Nat → Bool) (k : Nat) (v : List Nat) : Bool := V v && (ldV v == k) && (v.getD k 0 == 1) && (List.range n).all fun j => !(ldsB q n V j && j != k && v.getD j 0 != 0)
def basL (q n : Nat) (V : List Nat → Bool) : List (List Nat) := (List.range n).flatMap fun k => if ldsB q n V k then (allV q n).filter (rowB q n V k) else []
theorem only_one {α : Type} {l : List α} {a : α} (nd : l.Nodup) (h : ∀ x, x ∈ l ↔ x = a) : l = [a] := by
  match l, nd, h with
  | [], _, h => exact absurd ((h a).2 rfl) (by simp)
  | [x], _, h => rw [(h x).1 (by simp)]
  | x :: y :: l, nd, h =>
    have e1 := (h x).1 (by simp)
    have e2 := (h y).1 (by simp)
    rw [e1, e2] at nd
    simp at nd
theorem flat_sorted (R : List (List Nat)) (inc : R.Pairwise fun a b => ldV a < ldV b) : ∀ N, (∀ r ∈ R, ldV r < N) → (List.range N).flatMap (fun k => R.filter fun r => ldV r == k) = R := by
  -- those that begin ahead of N
  have g : ∀ N, (List.range N).flatMap (fun k => R.filter fun r => ldV r == k) = R.filter fun r => decide (ldV r < N) := by
    intro N
    induction N with
    | zero => simp
    | succ N ih =>
      rw [List.range_succ, List.flatMap_append, ih]
      simp only [List.flatMap_cons, List.flatMap_nil, List.append_nil]
      clear ih
      induction R with
      | nil => rfl
      | cons r R ihR =>
        obtain ⟨h1, h2⟩ := List.pairwise_cons.1 inc
        have ih := ihR h2
        rcases Nat.lt_trichotomy (ldV r) N with e | e | e
        · have a1 : decide (ldV r < N) = true := by simpa using e
          have a2 : decide (ldV r < N + 1) = true := by simp; omega
          have a3 : (ldV r == N) = false := by simp; omega
          rw [List.filter_cons, if_pos a1, List.filter_cons, if_neg (by rw [a3]; simp), List.filter_cons, if_pos a2, List.cons_append, ih]
        · have z1 : R.filter (fun r => decide (ldV r < N)) = [] := List.filter_eq_nil_iff.2 fun s hs => by have := h1 s hs; simp; omega
          have z2 : R.filter (fun r => decide (ldV r < N + 1)) = [] := List.filter_eq_nil_iff.2 fun s hs => by have := h1 s hs; simp; omega
          have z3 : R.filter (fun r => ldV r == N) = [] := List.filter_eq_nil_iff.2 fun s hs => by have := h1 s hs; simp; omega
          rw [List.filter_cons, List.filter_cons, List.filter_cons, z1, z2, z3]
          have a1 : decide (ldV r < N) = false := by simp; omega
          have a2 : decide (ldV r < N + 1) = true := by simp; omega
          have a3 : (ldV r == N) = true := by simp; omega
          simp [a1, a2, a3]
        · have z1 : R.filter (fun r => decide (ldV r < N)) = [] := List.filter_eq_nil_iff.2 fun s hs => by have := h1 s hs; simp; omega
          have z2 : R.filter (fun r => decide (ldV r < N + 1)) = [] := List.filter_eq_nil_iff.2 fun s hs => by have := h1 s hs; simp; omega
          have z3 : R.filter (fun r => ldV r == N) = [] := List.filter_eq_nil_iff.2 fun s hs => by have := h1 s hs; simp; omega
          rw [List.filter_cons, List.filter_cons, List.filter_cons, z1, z2, z3]
          have a1 : decide (ldV r < N) = false := by simp; omega
          have a2 : decide (ldV r < N + 1) = false := by simp; omega
          have a3 : (ldV r == N) = false := by simp; omega
          simp [a1, a2, a3]
  intro N hN
  rw [g N]
  exact List.filter_eq_self.2 fun r hr => by simpa using hN r hr
/-- What is found so is the basis. -/
theorem bas_is (h : FqR q ad mu ng) {V : List Nat → Bool} {R : List (List Nat)} (hR : BasIs q ad mu n (fun v => V v = true) R) : basL q n V = R := by
  have hl : ∀ k, ldsB q n V k = true ↔ ∃ r ∈ R, ldV r = k := by
    intro k
    rw [← hR.rref.leads h k]
    unfold ldsB
    rw [List.any_eq_true]
    constructor
    · rintro ⟨v, _, hv⟩
      simp only [Bool.and_eq_true, beq_iff_eq, bne_iff_ne] at hv
      exact ⟨v, (hR.same v).2 hv.1.1, hv.2, hv.1.2⟩
    · rintro ⟨v, hv, h0, hk⟩
      refine ⟨v, (mem_allV h.pos).2 (hv.vc h hR.rref.rws), ?_⟩
      simp only [Bool.and_eq_true, beq_iff_eq, bne_iff_ne]
      exact ⟨⟨(hR.same v).1 hv, hk⟩, h0⟩
  have hf : ∀ k, (if ldsB q n V k then (allV q n).filter (rowB q n V k) else []) = R.filter fun r => ldV r == k := by
    intro k
    by_cases hk : ldsB q n V k = true
    · rw [if_pos hk]
      obtain ⟨r, hr, e⟩ := (hl k).1 hk
      have hr1 := hR.rref.one r hr
      have un : ∀ s ∈ R, ldV s = k → s = r := fun s hs es => by
        by_cases g : s = r
        · exact g
        · have := hR.rref.col r hr s hs fun z => g z.symm
          have h2 := (hR.rref.one s hs).2
          rw [es, ← e] at h2
          omega
      have nd : R.Nodup := hR.rref.inc.imp fun hlt z => by rw [z] at hlt; omega
      have e2 : (R.filter fun r => ldV r == k) = [r] := only_one (nd.filter _) fun s => by
        rw [List.mem_filter]
        constructor
        · rintro ⟨hs, es⟩
          exact un s hs (by simpa using es)
        · rintro rfl
          exact ⟨hr, by simpa using e⟩
      rw [e2]
      refine only_one (allV_nodup.filter _) fun v => ?_
      rw [List.mem_filter, mem_allV h.pos]
      unfold rowB
      simp only [Bool.and_eq_true, beq_iff_eq, List.all_eq_true, List.mem_range]
      constructor
      · rintro ⟨hv, ⟨⟨h1, h2⟩, h3⟩, h4⟩
        refine hR.rref.only h hr ((hR.same v).2 h1) (by rw [e]; exact h3) fun s hs hne => ?_
        have hs1 := (hR.rref.one s hs).1
        have := h4 (ldV s) hs1
        have l1 := (hl (ldV s)).2 ⟨s, hs, rfl⟩
        have l2 : ldV s ≠ k := fun z => hne (un s hs z)
        simpa [l1, l2] using this
      · rintro rfl
        refine ⟨hR.rref.rws v hr, ⟨⟨(hR.same v).1 (Spn.row h hR.rref.rws hr), e⟩, by rw [← e]; exact hr1.2⟩, fun j hj => ?_⟩
        by_cases l1 : ldsB q n V j = true
        · by_cases l2 : j = k
          · simp [l2]
          · obtain ⟨s, hs, es⟩ := (hl j).1 l1
            have hne : s ≠ v := fun z => l2 (by rw [← es, z, e])
            have := hR.rref.col s hs v hr hne
            rw [es] at this
            rw [this]
            simp
        · simp [l1]
    · rw [if_neg hk]
      refine (List.filter_eq_nil_iff.2 fun r hr e => hk ((hl k).2 ⟨r, hr, by simpa using e⟩)).symm
  unfold basL
  rw [show (fun k => if ldsB q n V k then (allV q n).filter (rowB q n V k) else []) = fun k => R.filter fun r => ldV r == k from funext hf]
  exact flat_sorted R hR.rref.inc n fun r hr => (hR.rref.one r hr).1
end Go.Proofs.YtjfjdidibglhaabDoor
