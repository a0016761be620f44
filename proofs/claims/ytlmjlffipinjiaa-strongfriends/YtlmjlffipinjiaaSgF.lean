/- Graphs as lists: what is wrong; their numbers, looked for pair by pair; nothing of the program. -/
import Derived.Test.YtlmjlffipinjiaaSrX
namespace Go.Proofs.Ytlmjlffipinjiaa

def gx (n : Nat) (L : List Int) (r c : Nat) : Int := L.getD (r * n + c) 0
theorem cell_ltG {n r c : Nat} (hr : r < n) (hc : c < n) : r * n + c < n * n := by
  have := Nat.mul_le_mul_right n (show r + 1 ≤ n by omega)
  rw [Nat.succ_mul] at this
  omega
def btG (x : Int) : Bool := x == 0 || x == 1
def syB (n : Nat) (A : Nat → Nat → Int) : Bool := (List.range n).all fun a => (List.range n).all fun b => A a b == A b a && !(a == b && A a b == 1)
/-- What is wrong with a graph. -/
def gF (s : Int) (L : List Int) : Nat := if s < 1 ∨ 24 < s then 1 else if L.length ≠ s.toNat * s.toNat then 2 else if (List.range L.length).all (fun j => btG (L.getD j 0)) then if syB s.toNat (gx s.toNat L) then 0 else 4 else 1
structure GoodG (n : Nat) (L : List Int) : Prop where
  pos : 1 ≤ n
  le : n ≤ 24
  len : L.length = n * n
  gr : Gr n (gx n L)
theorem gF_far {s : Int} {L : List Int} (h : s < 1 ∨ 24 < s) : gF s L = 1 := by unfold gF; rw [if_pos h]
theorem gF_shape {n : Nat} {L : List Int} (h1 : 1 ≤ n) (h2 : n ≤ 24) (h : L.length ≠ n * n) : gF n L = 2 := by
  unfold gF
  rw [if_neg (by omega), if_pos (by simpa using h)]
theorem gF_bit {n j : Nat} {L : List Int} (h1 : 1 ≤ n) (h2 : n ≤ 24) (hl : L.length = n * n) (hj : j < n * n) (h : ¬ (L.getD j 0 = 0 ∨ L.getD j 0 = 1)) : gF n L = 1 := by
  unfold gF
  rw [if_neg (by omega), if_neg (by simpa using hl), if_neg]
  intro k
  rw [List.all_eq_true] at k
  have := k j (List.mem_range.2 (by omega))
  unfold btG at this
  exact h (by simpa using this)
theorem gF_on {n : Nat} {L : List Int} (h1 : 1 ≤ n) (h2 : n ≤ 24) (hl : L.length = n * n) (h : ∀ j, j < n * n → L.getD j 0 = 0 ∨ L.getD j 0 = 1) : gF n L = if syB n (gx n L) then 0 else 4 := by
  unfold gF
  rw [if_neg (by omega), if_neg (by simpa using hl), if_pos, Int.toNat_natCast]
  rw [List.all_eq_true]
  intro j hj
  have := h j (by rw [← hl]; exact List.mem_range.1 hj)
  unfold btG
  simpa using this
theorem sy_iff {n : Nat} {A : Nat → Nat → Int} : syB n A = true ↔ ∀ a b, a < n → b < n → A a b = A b a ∧ ¬ (a = b ∧ A a b = 1) := by
  unfold syB
  simp only [List.all_eq_true, List.mem_range, Bool.and_eq_true, Bool.not_eq_true', beq_iff_eq, Bool.and_eq_false_iff, beq_eq_false_iff_ne]
  constructor
  · intro h a b ha hb
    have := h a ha b hb
    refine ⟨this.1, fun k => ?_⟩
    rcases this.2 with q | q
    · exact q k.1
    · exact q k.2
  · intro h a ha b hb
    have := h a b ha hb
    refine ⟨this.1, ?_⟩
    by_cases e : a = b
    · right; exact fun q => this.2 ⟨e, q⟩
    · left; exact e
theorem sy_no {n a b : Nat} {A : Nat → Nat → Int} (ha : a < n) (hb : b < n) (h : ¬ (A a b = A b a ∧ ¬ (a = b ∧ A a b = 1))) : syB n A = false := by
  apply Bool.eq_false_iff.2
  intro k
  exact h (sy_iff.1 k a b ha hb)
theorem gF_good {n : Nat} {L : List Int} (G : GoodG n L) : gF n L = 0 := by
  have hn : 0 < n := G.pos
  rw [gF_on G.pos G.le G.len, if_pos]
  · exact sy_iff.2 fun a b ha hb => ⟨G.gr.sym a b ha hb, fun k => by
      obtain ⟨rfl, k⟩ := k
      rw [G.gr.diag a ha] at k
      exact absurd k (by decide)⟩
  · intro j hj
    have hq : j / n < n := Nat.div_lt_of_lt_mul hj
    have hr : j % n < n := Nat.mod_lt _ hn
    have e : L.getD j 0 = gx n L (j / n) (j % n) := by
      unfold gx
      rw [Nat.mul_comm, Nat.div_add_mod]
    rw [e]
    exact G.gr.bit _ _ hq hr
theorem gF_ok {s : Int} {L : List Int} (h : gF s L = 0) : ∃ n : Nat, s = n ∧ GoodG n L := by
  by_cases h1 : s < 1 ∨ 24 < s
  · rw [gF_far h1] at h; cases h
  · obtain ⟨n, rfl⟩ : ∃ n : Nat, s = n := ⟨s.toNat, by omega⟩
    have p1 : 1 ≤ n := by omega
    have p2 : n ≤ 24 := by omega
    refine ⟨n, rfl, ?_⟩
    by_cases hl : L.length = n * n
    · by_cases hb : ∀ j, j < n * n → L.getD j 0 = 0 ∨ L.getD j 0 = 1
      · rw [gF_on p1 p2 hl hb] at h
        have hs : syB n (gx n L) = true := by
          apply Classical.byContradiction
          intro k
          rw [if_neg k] at h
          cases h
        have hs := sy_iff.1 hs
        refine ⟨p1, p2, hl, fun a b ha hb2 => hb _ (cell_ltG ha hb2), fun a b ha hb2 => (hs a b ha hb2).1, fun a ha => ?_⟩
        rcases hb _ (cell_ltG ha ha) with k | k
        · exact k
        · exact absurd ⟨rfl, k⟩ (hs a a ha ha).2
      · exfalso
        apply hb
        intro j hj
        apply Classical.byContradiction
        intro k
        rw [gF_bit p1 p2 hl hj k] at h
        cases h
    · rw [gF_shape p1 p2 hl] at h; cases h
/-- The pairs that have been looked at, when row a stands at place b. -/
def Done (a b a' b' : Nat) : Prop := b' < a' ∧ (a' < a ∨ (a' = a ∧ b' < b))
/-- What is kept of one kind of pairs. -/
structure Kind (n : Nat) (A : Nat → Nat → Int) (x : Int) (a b : Nat) (z : Int) : Prop where
  all : ∀ a' b', Done a b a' b' → A a' b' = x → cmG n A a' b' = z
  non : (∀ a' b', Done a b a' b' → A a' b' ≠ x) → z = -1
section
variable {n : Nat} {A : Nat → Nat → Int} {x z : Int} {a b : Nat}
theorem Kind.start : Kind n A x 0 0 (-1) := ⟨fun a' b' h => by unfold Done at h; omega, fun _ => rfl⟩
theorem Kind.row (K : Kind n A x a a z) : Kind n A x (a + 1) 0 z := ⟨fun a' b' h e => K.all a' b' (by unfold Done at h ⊢; omega) e, fun h => K.non fun a' b' k => h a' b' (by unfold Done at k ⊢; omega)⟩
theorem Kind.skip (K : Kind n A x a b z) (h : A a b ≠ x) : Kind n A x a (b + 1) z := by
  refine ⟨fun a' b' k e => ?_, fun k => K.non fun a' b' q => k a' b' (by unfold Done at q ⊢; omega)⟩
  by_cases q : a' = a ∧ b' = b
  · obtain ⟨rfl, rfl⟩ := q
    exact absurd e h
  · exact K.all a' b' (by unfold Done at k ⊢; omega) e
theorem Kind.step (K : Kind n A x a b z) (hb : b < a) (h : A a b = x) (hz : z < 0 ∨ z = cmG n A a b) (hg : ∀ a' b', Done a b a' b' → 0 ≤ cmG n A a' b') : Kind n A x a (b + 1) (cmG n A a b) := by
  refine ⟨fun a' b' k e => ?_, fun k => absurd h (k a b (by unfold Done; omega))⟩
  by_cases q : a' = a ∧ b' = b
  · obtain ⟨rfl, rfl⟩ := q
    rfl
  · have d : Done a b a' b' := by unfold Done at k ⊢; omega
    have e1 := K.all a' b' d e
    rcases hz with hz | hz
    · have := hg a' b' d
      omega
    · rw [e1, hz]
/-- Two unlike numbers of one kind. -/
theorem Kind.clash (K : Kind n A x a b z) (hz : 0 ≤ z) (hne : z ≠ cmG n A a b) : ∃ a' b', Done a b a' b' ∧ A a' b' = x ∧ cmG n A a' b' ≠ cmG n A a b := by
  apply Classical.byContradiction
  intro k
  have : z = -1 := K.non fun a' b' d e => k ⟨a', b', d, e, by rw [K.all a' b' d e]; exact hne⟩
  omega
def up0 (z : Int) : Int := if z < 0 then 0 else z
theorem done_lt {a' b' : Nat} (h : Done a b a' b') (ha : a < n) : a' < n ∧ b' < n ∧ a' ≠ b' := by unfold Done at h; omega
/-- When all pairs have been looked at. -/
theorem kinds_stn {k l m : Int} (G : Gr n A) (hd : ∀ a, a < n → dgG n A a = k) (K1 : Kind n A 1 n 0 l) (K0 : Kind n A 0 n 0 m) : StN n k (up0 l) (up0 m) A := by
  have hcm : ∀ a b, a < n → b < n → 0 ≤ cmG n A a b := fun a b ha hb => (G.cm_at ha hb).1
  have key : ∀ (x z : Int), Kind n A x n 0 z → ∀ a b, a < n → b < n → a ≠ b → A a b = x → cmG n A a b = up0 z := fun x z K a b ha hb hne e => by
    have h : cmG n A a b = z := by
      rcases Nat.lt_or_gt_of_ne hne with q | q
      · rw [Gr.cm_sym]
        exact K.all b a (by unfold Done; omega) (by rw [G.sym b a hb ha]; exact e)
      · exact K.all a b (by unfold Done; omega) e
    have := hcm a b ha hb
    unfold up0
    rw [if_neg (by omega)]
    exact h
  refine ⟨⟨hd, fun a b ha hb e => key 1 l K1 a b ha hb (fun q => ?_) e, fun a b ha hb hne e => key 0 m K0 a b ha hb hne e⟩, fun h => ?_, fun h => ?_⟩
  · subst q
    rw [G.diag a ha] at e
    exact absurd e (by decide)
  · rw [K1.non fun a' b' d => by have := done_lt (n := n) (a := n) (b := 0) (a' := a') (b' := b'); unfold Done at d; exact h a' b' (by omega) (by omega)]
    rfl
  · rw [K0.non fun a' b' d => by unfold Done at d; exact h a' b' (by omega) (by omega) (by omega)]
    rfl
theorem stn_deg {k l m : Int} (S : StN n k l m A) {a b : Nat} (ha : a < n) (hb : b < n) : dgG n A a = dgG n A b := by rw [S.st.deg a ha, S.st.deg b hb]
theorem stn_clash {k l m : Int} (S : StN n k l m A) (h01 : x = 0 ∨ x = 1) (ha : a < n) (hb : b < a) (h : A a b = x) {a' b' : Nat} (d : Done a b a' b') (e : A a' b' = x) : cmG n A a' b' = cmG n A a b := by
  obtain ⟨q1, q2, q3⟩ := done_lt d ha
  rcases h01 with rfl | rfl
  · rw [S.st.far a' b' q1 q2 q3 e, S.st.far a b ha (by omega) (by omega) h]
  · rw [S.st.near a' b' q1 q2 e, S.st.near a b ha (by omega) h]
end
/-- What is told of a graph's numbers. -/
def NmT (n : Nat) (A : Nat → Nat → Int) (P D N F : Int) (u : Nat) : Prop := (u = 0 ∧ P = n ∧ StN n D N F A) ∨ (u = 4 ∧ P = 0 ∧ D = 0 ∧ N = 0 ∧ F = 0 ∧ ¬ ∃ k l m, StN n k l m A)
theorem NmT.one {n : Nat} {A : Nat → Nat → Int} {P D N F P' D' N' F' : Int} {u u' : Nat} (h : NmT n A P D N F u) (h' : NmT n A P' D' N' F' u') (hn : 1 ≤ n) : P = P' ∧ D = D' ∧ N = N' ∧ F = F' ∧ u = u' := by
  rcases h with ⟨rfl, rfl, S⟩ | ⟨rfl, rfl, rfl, rfl, rfl, h⟩ <;> rcases h' with ⟨rfl, rfl, S'⟩ | ⟨rfl, rfl, rfl, rfl, rfl, h'⟩
  · obtain ⟨rfl, rfl, rfl⟩ := S.one S' hn
    exact ⟨rfl, rfl, rfl, rfl, rfl⟩
  · exact absurd ⟨_, _, _, S⟩ h'
  · exact absurd ⟨_, _, _, S'⟩ h
  · exact ⟨rfl, rfl, rfl, rfl, rfl⟩
end Go.Proofs.Ytlmjlffipinjiaa
