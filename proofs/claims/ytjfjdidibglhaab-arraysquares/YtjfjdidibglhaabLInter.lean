/- Intercalates as the program and as the document count them; nothing of the program. -/
import Derived.Test.YtjfjdidibglhaabLCross
namespace Go.Proofs.Ytjfjdidibglhaab

theorem if_iff {p q : Prop} [Decidable p] [Decidable q] {a b : Nat} (h : p ↔ q) : (if p then a else b) = if q then a else b := by
  by_cases hp : p
  · rw [if_pos hp, if_pos (h.1 hp)]
  · rw [if_neg hp, if_neg fun hq => hp (h.2 hq)]
theorem sm_none {n : Nat} {f : Nat → Nat} (h : ∀ i, i < n → f i = 0) : Sm n f = 0 := (Sm_congr h).trans (Sm_zero n)
theorem sm_low {n m : Nat} (h : m ≤ n) (f : Nat → Nat) : Sm n (fun i => if i < m then f i else 0) = Sm m f := by
  induction n with
  | zero =>
    have : m = 0 := by omega
    subst this; rfl
  | succ n ih =>
    rw [Sm_succ]
    by_cases e : m = n + 1
    · subst e
      rw [Sm_succ, if_pos (by omega)]
      congr 1
      exact Sm_congr fun i hi => if_pos (by omega)
    · rw [ih (by omega), if_neg (by omega)]; rfl
theorem sm_tri (n : Nat) (F : Nat → Nat → Nat) : (Sm n fun k => Sm k fun i => F i k) = Sm n fun i => Sm n fun k => if i < k then F i k else 0 := by
  rw [Sm_swap n n fun i k => if i < k then F i k else 0]
  exact Sm_congr fun k hk => (sm_low (by omega) fun i => F i k).symm
/-- Counted as the program counts: by the lower row, the right column. -/
def icP (n : Nat) (s : Nat → Nat → Nat) : Nat := Sm n fun k => Sm k fun i => Sm n fun l => Sm l fun j => if s i j = s k l ∧ s i l = s k j then 1 else 0
theorem icP_eq (n : Nat) (s : Nat → Nat → Nat) : icP n s = icN n s := by
  unfold icP icN
  rw [sm_tri]
  refine Sm_congr fun i _ => Sm_congr fun k _ => ?_
  by_cases h : i < k
  · rw [if_pos h, sm_tri]
    refine Sm_congr fun j _ => Sm_congr fun l _ => ?_
    by_cases h2 : j < l
    · rw [if_pos h2]
      refine if_iff ?_
      unfold Ic
      simp only [Bool.and_eq_true, beq_iff_eq]
      exact ⟨fun ⟨a, b⟩ => ⟨h, h2, b.symm, a.symm⟩, fun ⟨_, _, a, b⟩ => ⟨b.symm, a.symm⟩⟩
    · rw [if_neg h2, if_neg fun x => h2 x.2.1]
  · rw [if_neg h]
    symm
    refine sm_none fun j _ => sm_none fun l _ => ?_
    exact if_neg fun x => h x.1
/-- Counted as the document counts: two numbers in four cells. -/
def icD (n : Nat) (s : Nat → Nat → Nat) : Nat := Sm n fun i => Sm n fun k => if i < k then (Sm n fun j => Sm n fun l => if j < l then (if (s k j = s i j ∨ s k j = s i l) ∧ (s k l = s i j ∨ s k l = s i l) then 1 else 0) else 0) else 0
theorem icD_eq {n : Nat} {s : Nat → Nat → Nat} (L : Lat n s) : icD n s = icN n s := by
  unfold icD icN
  refine Sm_congr fun i hi => Sm_congr fun k hk => ?_
  by_cases h : i < k
  · rw [if_pos h]
    refine Sm_congr fun j hj => Sm_congr fun l hl => ?_
    by_cases h2 : j < l
    · rw [if_pos h2]
      refine if_iff ?_
      unfold Ic
      simp only [Bool.and_eq_true, beq_iff_eq]
      constructor
      · rintro ⟨a, b⟩
        refine ⟨h, h2, a.resolve_left fun e => ?_, b.resolve_right fun e => ?_⟩
        · have := L.col j hj k i hk hi e; omega
        · have := L.col l hl k i hk hi e; omega
      · exact fun ⟨_, _, a, b⟩ => ⟨.inr a, .inl b⟩
    · rw [if_neg h2, if_neg fun x => h2 x.2.1]
  · rw [if_neg h]
    symm
    refine sm_none fun j _ => sm_none fun l _ => ?_
    exact if_neg fun x => h x.1
end Go.Proofs.Ytjfjdidibglhaab
