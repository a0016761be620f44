/- The two ways of asking for divisors come to one; what is wrong with a field. -/
import Derived.Test.YtcjkcgfohmhbcabDoorPureB
namespace Go.Proofs.YtcjkcgfohmhbcabDoor.Fd

theorem digF_low (c p n t : Nat) (hp : 2 ≤ p) (ht : t < n) : digF (p ^ n + c) p t = digF c p t := by
  unfold digF
  have e : p ^ n = p ^ t * (p * p ^ (n - t - 1)) := by
    rw [← Nat.mul_assoc, ← Nat.pow_succ, ← Nat.pow_add]; congr 1; omega
  rw [e, Nat.mul_add_div (Nat.pow_pos (by omega)), Nat.mul_add_mod]
theorem digF_top (c p n : Nat) (hp : 2 ≤ p) (hc : c < p ^ n) : digF (p ^ n + c) p n = 1 := by
  unfold digF
  have h0 : 0 < p ^ n := Nat.pow_pos (by omega)
  have : (p ^ n + c) / p ^ n = 1 := by
    rw [Nat.add_div_left _ h0, Nat.div_eq_of_lt hc]
  rw [this, Nat.mod_eq_of_lt (by omega)]; rfl
theorem digF_over (c p n t : Nat) (hp : 2 ≤ p) (hc : c < p ^ n) (ht : n < t) : digF (p ^ n + c) p t = 0 := by
  unfold digF
  have h1 : p ^ n * 2 ≤ p ^ n * p := Nat.mul_le_mul_left _ hp
  have h2 : p ^ (n + 1) ≤ p ^ t := Nat.pow_le_pow_right (by omega) (by omega)
  rw [Nat.pow_succ] at h2
  rw [Nat.div_eq_of_lt (by omega)]; simp
theorem monL_dig (c p n : Nat) (hp : 2 ≤ p) (hc : c < p ^ n) : monL (digL c p n) = digF (p ^ n + c) p := by
  funext t
  unfold monL
  rw [digL_length]
  by_cases h : t < n
  · rw [if_pos h, digL_at _ _ _ _ h, digF_low c p n t hp h]
  · rw [if_neg h]
    by_cases e : t = n
    · subst e; rw [if_pos rfl, digF_top c p t hp hc]
    · rw [if_neg e, digF_over c p n t hp hc (by omega)]
theorem rd_none {f m : Nat → Int} {d : Nat} {p : Int} {i : Nat} (hf : inP p f) (h0 : f i = 0) : rd f m d p i = f := by
  funext t
  unfold rd
  split
  · rw [h0, Int.zero_mul, Int.sub_zero]; exact Int.emod_eq_of_lt (hf t).1 (hf t).2
  · rfl
theorem redN_more {f m : Nat → Int} {d : Nat} {p : Int} (k : Nat) (hf : inP p f) (h0 : ∀ t, k < t → f t = 0) (hdk : d ≤ k) : ∀ j, redN m d p (k + 1 - d + j) f = redN m d p (k + 1 - d) f
  | 0 => rfl
  | j + 1 => by
    show redN m d p (k + 1 - d + j) (rd f m d p (d + (k + 1 - d + j))) = _
    rw [rd_none hf (h0 _ (by omega))]
    exact redN_more k hf h0 hdk j
theorem redN_over {m : Nat → Int} {d : Nat} {p : Int} : ∀ (n : Nat) (f : Nat → Int) (t : Nat), d + n ≤ t → redN m d p n f t = f t
  | 0, _, _, _ => rfl
  | n + 1, f, t, h => by
    show redN m d p n (rd f m d p (d + n)) t = f t
    rw [redN_over n _ t (by omega)]
    unfold rd
    rw [if_neg (by omega)]
/-- The document's test of one divisor and the program's are one. -/
theorem div_same {l : List Int} {p k n c : Nat} (hp : 2 ≤ p) (hl : l.length = k) (hin : inP p (monL l)) (hn : n ≤ k) (hk : k ≤ 10) (hc : c < p ^ n) :
    (∀ t, t ≤ k → redN (monL (digL c p n)) n p (k + 1 - n) (monL l) t = 0) ↔ isZ (redN (digF (p ^ n + c) p) n p (11 - n) (monL l)) := by
  rw [monL_dig c p n hp hc]
  have h0 : ∀ t, k < t → monL l t = 0 := fun t ht => by unfold monL; rw [if_neg (by omega), if_neg (by omega)]
  have e : 11 - n = k + 1 - n + (10 - k) := by omega
  rw [e, redN_more k hin h0 hn]
  constructor
  · intro h t _
    by_cases ht : t ≤ k
    · exact h t ht
    · rw [redN_over _ _ t (by omega)]; exact h0 t (by omega)
  · intro h t ht
    exact h t (by omega)

def inL (p : Int) (l : List Int) : Prop := ∀ j, j < l.length → 0 ≤ l.getD j 0 ∧ l.getD j 0 < p
/-- What is wrong with a field: a number that tells it. -/
def FaultIs (p k : Int) (l : List Int) (z : Int) : Prop :=
  (ordZ p k = 0 ∧ z = 1) ∨ (ordZ p k ≠ 0 ∧ (l.length : Int) ≠ k ∧ z = 2) ∨ (ordZ p k ≠ 0 ∧ (l.length : Int) = k ∧ ¬ inL p l ∧ z = 1) ∨
  (ordZ p k ≠ 0 ∧ (l.length : Int) = k ∧ inL p l ∧ ¬ irrP (monL l) k.toNat p.toNat ∧ z = 4) ∨ (ordZ p k ≠ 0 ∧ (l.length : Int) = k ∧ inL p l ∧ irrP (monL l) k.toNat p.toNat ∧ z = 0)
theorem FaultIs.one {p k : Int} {l : List Int} {z z' : Int} (h : FaultIs p k l z) (h' : FaultIs p k l z') : z = z' := by
  unfold FaultIs at h h'
  rcases h with ⟨a, rfl⟩ | ⟨a, b, rfl⟩ | ⟨a, b, c, rfl⟩ | ⟨a, b, c, d, rfl⟩ | ⟨a, b, c, d, rfl⟩ <;> rcases h' with ⟨a', rfl⟩ | ⟨a', b', rfl⟩ | ⟨a', b', c', rfl⟩ | ⟨a', b', c', d', rfl⟩ | ⟨a', b', c', d', rfl⟩ <;> first | rfl | contradiction
theorem FaultIs.ok {p k : Int} {l : List Int} (h : FaultIs p k l 0) : ordZ p k ≠ 0 ∧ (l.length : Int) = k ∧ inL p l ∧ irrP (monL l) k.toNat p.toNat := by
  unfold FaultIs at h
  rcases h with ⟨a, e⟩ | ⟨a, b, e⟩ | ⟨a, b, c, e⟩ | ⟨a, b, c, d, e⟩ | ⟨a, b, c, d, e⟩
  · cases e
  · cases e
  · cases e
  · cases e
  · exact ⟨a, b, c, d⟩
theorem ord_parts {p k : Int} (h : ordZ p k ≠ 0) : isPrimeB p = true ∧ 1 ≤ k ∧ k ≤ 6 ∧ p ^ k.toNat ≤ 64 ∧ ordZ p k = p ^ k.toNat := by
  unfold ordZ at h ⊢
  by_cases c : isPrimeB p = true ∧ 1 ≤ k ∧ k ≤ 6 ∧ p ^ k.toNat ≤ 64
  · rw [if_pos c]; exact ⟨c.1, c.2.1, c.2.2.1, c.2.2.2, rfl⟩
  · rw [if_neg c] at h; exact absurd rfl h
/-- The same in natural numbers. -/
theorem ord_nat {p k : Int} (h : ordZ p k ≠ 0) : ∃ P K : Nat, p = P ∧ k = K ∧ 2 ≤ P ∧ P ≤ 61 ∧ 1 ≤ K ∧ K ≤ 6 ∧ P ^ K ≤ 64 ∧ ordZ p k = ((P ^ K : Nat) : Int) := by
  obtain ⟨h1, h2, h3, h4, h5⟩ := ord_parts h
  have hb := prime_bd h1
  refine ⟨p.toNat, k.toNat, by omega, by omega, by omega, by omega, by omega, by omega, ?_, ?_⟩
  · have e : ((p.toNat ^ k.toNat : Nat) : Int) = p ^ k.toNat := by
      rw [Int.natCast_pow, show ((p.toNat : Nat) : Int) = p by omega]
    omega
  · rw [h5, Int.natCast_pow, show ((p.toNat : Nat) : Int) = p by omega]

end Go.Proofs.YtcjkcgfohmhbcabDoor.Fd
