/- What is wrong with a table of games. Nothing of the program. -/
import Derived.Test.YtgkfddcmngodgabTrL
namespace Go.Proofs.Ytgkfddcmngodgab

def celB (l : List Int) : Bool := (List.range l.length).any fun i => l.getD i 0 != 0 && l.getD i 0 != 1
def badT (n : Nat) (l : List Int) (a b : Nat) : Bool := (a == b && (l.getD (a * n + b) 0 + l.getD (b * n + a) 0 != 0)) || (a != b && (l.getD (a * n + b) 0 + l.getD (b * n + a) 0 != 1))
def prsB (n : Nat) (l : List Int) : Bool := (List.range n).any fun a => (List.range (a + 1)).any fun b => badT n l a b
/-- What is wrong. -/
def tF (s : Int) (l : List Int) : Nat := if s < 1 ∨ 9 < s then 1 else if (l.length : Int) ≠ s * s then 2 else if celB l then 1 else if prsB s.toNat l then 4 else 0
/-- Who beats whom. -/
def tB (n : Nat) (l : List Int) : Nat → Nat → Bool := fun a b => l.getD (a * n + b) 0 == 1
structure GoodT (n : Nat) (l : List Int) : Prop where
  one : 1 ≤ n
  le : n ≤ 9
  len : l.length = n * n
  cel : ∀ i, i < n * n → l.getD i 0 = 0 ∨ l.getD i 0 = 1
  trn : Trn (List.range n) (tB n l)
  irr : ∀ a, a < n → tB n l a a = false
theorem idx_lt {n a b : Nat} (ha : a < n) (hb : b < n) : a * n + b < n * n := by
  have : a * n + n ≤ n * n := by rw [← Nat.succ_mul]; exact Nat.mul_le_mul_right _ ha
  omega
theorem GoodT.val {n : Nat} {l : List Int} (h : GoodT n l) {a b : Nat} (ha : a < n) (hb : b < n) : l.getD (a * n + b) 0 = if tB n l a b then 1 else 0 := by
  unfold tB
  rcases h.cel _ (idx_lt ha hb) with e | e
  · rw [e]; rfl
  · rw [e]; rfl
theorem tF_ok {s : Int} {l : List Int} (h : tF s l = 0) : ∃ n : Nat, s = n ∧ GoodT n l := by
  unfold tF at h
  by_cases h1 : s < 1 ∨ 9 < s
  · rw [if_pos h1] at h; omega
  rw [if_neg h1] at h
  by_cases h2 : (l.length : Int) ≠ s * s
  · rw [if_pos h2] at h; omega
  rw [if_neg h2] at h
  by_cases h3 : celB l = true
  · rw [if_pos h3] at h; omega
  rw [if_neg h3] at h
  by_cases h4 : prsB s.toNat l = true
  · rw [if_pos h4] at h; omega
  obtain ⟨n, rfl⟩ : ∃ n : Nat, s = n := ⟨s.toNat, by omega⟩
  rw [Int.toNat_natCast] at h4
  have hlen : l.length = n * n := by
    have : (l.length : Int) = ((n * n : Nat) : Int) := by
      rw [Int.natCast_mul]
      exact Classical.byContradiction h2
    exact Int.ofNat.inj this
  have hcel : ∀ i, i < n * n → l.getD i 0 = 0 ∨ l.getD i 0 = 1 := fun i hi => by
    refine Classical.byContradiction fun hc => h3 (List.any_eq_true.2 ⟨i, List.mem_range.2 (by rw [hlen]; exact hi), ?_⟩)
    simp only [Bool.and_eq_true, bne_iff_ne]
    exact ⟨fun e => hc (.inl e), fun e => hc (.inr e)⟩
  have hp : ∀ a b, a < n → b ≤ a → badT n l a b = false := fun a b ha hb => by
    cases hbt : badT n l a b with
    | false => rfl
    | true => exact absurd (List.any_eq_true.2 ⟨a, List.mem_range.2 ha, List.any_eq_true.2 ⟨b, List.mem_range.2 (by omega), hbt⟩⟩) h4
  have two : ∀ a b, a < n → b < a → l.getD (a * n + b) 0 + l.getD (b * n + a) 0 = 1 := fun a b ha hb => by
    have := hp a b ha (by omega)
    unfold badT at this
    simp only [Bool.or_eq_false_iff, Bool.and_eq_false_iff, bne_eq_false_iff_eq, beq_eq_false_iff_ne] at this
    rcases this.2 with e | e
    · omega
    · exact e
  refine ⟨n, rfl, by omega, by omega, hlen, hcel, fun p q hp' hq' hne => ?_, fun a ha => ?_⟩
  · have hp2 := List.mem_range.1 hp'
    have hq2 := List.mem_range.1 hq'
    have key : l.getD (p * n + q) 0 + l.getD (q * n + p) 0 = 1 := by
      rcases Nat.lt_or_gt_of_ne hne with hlt | hlt
      · have := two q p hq2 hlt; omega
      · exact two p q hp2 hlt
    show (l.getD (p * n + q) 0 == 1) = !(l.getD (q * n + p) 0 == 1)
    rcases hcel _ (idx_lt hp2 hq2) with e | e <;> rcases hcel _ (idx_lt hq2 hp2) with e' | e' <;> rw [e, e'] at key ⊢ <;> first | rfl | omega
  · have := hp a a ha (Nat.le_refl _)
    unfold badT at this
    simp only [Bool.or_eq_false_iff, Bool.and_eq_false_iff, bne_eq_false_iff_eq, beq_eq_false_iff_ne] at this
    have e : l.getD (a * n + a) 0 + l.getD (a * n + a) 0 = 0 := by
      rcases this.1 with e | e
      · exact absurd rfl e
      · exact e
    show (l.getD (a * n + a) 0 == 1) = false
    rw [beq_eq_false_iff_ne]
    omega
/-- What is told of cells, of pairs, of all. -/
structure TfZ (n : Nat) (l : List Int) (z : Nat) : Prop where
  cel : ∀ i, i < l.length → l.getD i 0 ≠ 0 → l.getD i 0 ≠ 1 → z = 1
  two : (∀ i, i < l.length → l.getD i 0 = 0 ∨ l.getD i 0 = 1) → ∀ a b, a < n → b ≤ a → badT n l a b = true → z = 4
  ok : (∀ i, i < l.length → l.getD i 0 = 0 ∨ l.getD i 0 = 1) → (∀ a b, a < n → b ≤ a → badT n l a b = false) → z = 0
theorem tfZ_of {n : Nat} {l : List Int} (h : ¬ ((n : Int) < 1 ∨ (9 : Int) < n)) (h2 : l.length = n * n) : TfZ n l (tF n l) := by
  unfold tF
  rw [if_neg h, if_neg (by rw [h2, Int.natCast_mul]; simp), Int.toNat_natCast]
  have cno : (∀ i, i < l.length → l.getD i 0 = 0 ∨ l.getD i 0 = 1) → celB l = false := fun hc => by
    rw [Bool.eq_false_iff]
    intro k
    obtain ⟨i, hi, k⟩ := List.any_eq_true.1 k
    simp only [Bool.and_eq_true, bne_iff_ne] at k
    rcases hc i (List.mem_range.1 hi) with e | e
    · exact k.1 e
    · exact k.2 e
  refine ⟨fun i hi h0 h1 => ?_, fun hc a b ha hb hbt => ?_, fun hc hp => ?_⟩
  · have c1 : celB l = true := List.any_eq_true.2 ⟨i, List.mem_range.2 hi, by simp only [Bool.and_eq_true, bne_iff_ne]; exact ⟨h0, h1⟩⟩
    rw [if_pos c1]
  · have c1 : prsB n l = true := List.any_eq_true.2 ⟨a, List.mem_range.2 ha, List.any_eq_true.2 ⟨b, List.mem_range.2 (by omega), hbt⟩⟩
    rw [if_neg (by rw [cno hc]; simp), if_pos c1]
  · rw [if_neg (by rw [cno hc]; simp), if_neg]
    intro k
    obtain ⟨a, ha, k⟩ := List.any_eq_true.1 k
    obtain ⟨b, hb, k⟩ := List.any_eq_true.1 k
    rw [hp a b (List.mem_range.1 ha) (by have := List.mem_range.1 hb; omega)] at k
    cases k
end Go.Proofs.Ytgkfddcmngodgab
