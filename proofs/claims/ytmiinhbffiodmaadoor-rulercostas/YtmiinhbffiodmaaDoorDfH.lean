/- Multipliers of difference sets (M. Hall; Ryser): nothing of the program. -/
import Derived.Test.YtmiinhbffiodmaaDoorDPure
namespace Go.Proofs.YtmiinhbffiodmaaDoor

/-- Sums over all lists of m things of D, of what h is at their sum. -/
def tF (D : List Nat) : Nat → (Nat → Nat) → Nat
  | 0, h => h 0
  | m + 1, h => dS D fun d => tF D m fun x => h (x + d)
theorem tF_succ (D : List Nat) (m : Nat) (h : Nat → Nat) : tF D (m + 1) h = dS D fun d => tF D m fun x => h (x + d) := rfl
theorem tF_congr {D : List Nat} : ∀ {m : Nat} {h g : Nat → Nat}, (∀ x, h x = g x) → tF D m h = tF D m g
  | 0, _, _, e => e 0
  | _ + 1, _, _, e => dS_congr fun d _ => tF_congr fun x => e (x + d)
theorem tF_last (D : List Nat) : ∀ (m : Nat) (h : Nat → Nat), tF D (m + 1) h = tF D m fun s => dS D fun d => h (s + d)
  | 0, _ => rfl
  | m + 1, h => by
    rw [tF_succ, dS_congr fun d _ => tF_last D m fun x => h (x + d), tF_succ]
    refine dS_congr fun e _ => tF_congr fun x => dS_congr fun d _ => ?_
    rw [Nat.add_right_comm]
theorem tF_add (D : List Nat) : ∀ (m : Nat) (f g : Nat → Nat), tF D m (fun s => f s + g s) = tF D m f + tF D m g
  | 0, f, g => rfl
  | m + 1, f, g => by rw [tF_succ, tF_succ, tF_succ, ← dS_add]; exact dS_congr fun d _ => tF_add D m _ _
theorem tF_mul (D : List Nat) (c : Nat) : ∀ (m : Nat) (f : Nat → Nat), tF D m (fun s => c * f s) = c * tF D m f
  | 0, f => rfl
  | m + 1, f => by rw [tF_succ, tF_succ, ← dS_mul]; exact dS_congr fun d _ => tF_mul D c m _
theorem tF_const (D : List Nat) (c : Nat) : ∀ m : Nat, tF D m (fun _ => c) = D.length ^ m * c
  | 0 => by simp [tF]
  | m + 1 => by rw [tF_succ, dS_congr fun d _ => tF_const D c m, dS_const, Nat.pow_succ, Nat.mul_comm (D.length ^ m) D.length, Nat.mul_assoc]
theorem dS_range_succ (f : Nat → Nat) (K : Nat) : dS (List.range (K + 1)) f = dS (List.range K) f + f K := by rw [List.range_succ, dS_append, dS_cons, dS_nil, Nat.add_zero]
theorem tF_nil (m : Nat) (h : Nat → Nat) : tF [] (m + 1) h = 0 := rfl

/-- Pascal's numbers. -/
def chs : Nat → Nat → Nat
  | _, 0 => 1
  | 0, _ + 1 => 0
  | n + 1, j + 1 => chs n j + chs n (j + 1)
theorem chs_zero (n : Nat) : chs n 0 = 1 := by cases n <;> rfl
theorem chs_succ (n j : Nat) : chs (n + 1) (j + 1) = chs n j + chs n (j + 1) := rfl
theorem chs_over : ∀ {n j : Nat}, n < j → chs n j = 0
  | 0, j + 1, _ => rfl
  | n + 1, j + 1, h => by rw [chs_succ, chs_over (by omega), chs_over (by omega)]
theorem chs_self : ∀ n : Nat, chs n n = 1
  | 0 => rfl
  | n + 1 => by rw [chs_succ, chs_self n, chs_over (by omega)]
theorem chs_times : ∀ n j : Nat, (j + 1) * chs (n + 1) (j + 1) = (n + 1) * chs n j
  | 0, 0 => rfl
  | 0, j + 1 => by simp [chs_succ, chs_over]
  | n + 1, 0 => by
    have h := chs_times n 0
    rw [chs_zero] at h ⊢
    rw [chs_succ (n + 1) 0, chs_zero]
    omega
  | n + 1, j + 1 => by
    have h1 := chs_times n j
    have h2 := chs_times n (j + 1)
    rw [chs_succ (n + 1) (j + 1), Nat.mul_add, h2]
    have e : (j + 1 + 1) * chs (n + 1) (j + 1) = (n + 1) * chs n j + chs (n + 1) (j + 1) := by rw [← h1]; grind
    rw [e, chs_succ n j]
    grind
/-- Primes as the document has them. -/
def PrN (p : Nat) : Prop := 2 ≤ p ∧ ∀ d, 2 ≤ d → d < p → p % d ≠ 0
theorem PrN.cop {p a : Nat} (h : PrN p) (ha : a % p ≠ 0) : Nat.Coprime p a := by
  have hg : Nat.gcd p a ∣ p := Nat.gcd_dvd_left _ _
  have h2 := h.1
  have hle := Nat.le_of_dvd (by omega) hg
  have h0 : 0 < Nat.gcd p a := Nat.gcd_pos_of_pos_left _ (by omega)
  by_cases e1 : Nat.gcd p a = 1
  · exact e1
  · by_cases e2 : Nat.gcd p a = p
    · exact (ha (Nat.mod_eq_zero_of_dvd (by rw [← e2]; exact Nat.gcd_dvd_right _ _))).elim
    · exact (h.2 _ (by omega) (by omega) (Nat.mod_eq_zero_of_dvd hg)).elim
theorem chs_prime {p j : Nat} (h : PrN p) (h0 : 0 < j) (hj : j < p) : chs p j % p = 0 := by
  obtain ⟨j, rfl⟩ : ∃ i, j = i + 1 := ⟨j - 1, by omega⟩
  obtain ⟨n, rfl⟩ : ∃ i, p = i + 1 := ⟨p - 1, by omega⟩
  have e := chs_times n j
  have hc := h.cop (a := j + 1) (by rw [Nat.mod_eq_of_lt hj]; omega)
  exact Nat.mod_eq_zero_of_dvd (hc.dvd_of_dvd_mul_left (e ▸ Nat.dvd_mul_right _ _))
/-- How often one thing is taken. -/
theorem tF_cons (d : Nat) (D : List Nat) : ∀ (m : Nat) (h : Nat → Nat), tF (d :: D) m h = dS (List.range (m + 1)) fun j => chs m j * tF D j fun x => h (x + (m - j) * d)
  | 0, h => by simp [dS, tF, chs]
  | m + 1, h => by
    have e1 : tF (d :: D) (m + 1) h = dS (List.range (m + 1)) (fun j => chs m j * tF D j fun x => h (x + (m + 1 - j) * d)) + dS (List.range (m + 1)) fun j => chs m j * tF D (j + 1) fun x => h (x + (m + 1 - (j + 1)) * d) := by
      rw [tF_succ, dS_cons, tF_cons d D m]
      congr 1
      · refine dS_congr fun j hj => ?_
        have hj := List.mem_range.1 hj
        congr 1
        refine tF_congr fun x => ?_
        rw [show m + 1 - j = (m - j) + 1 by omega, Nat.add_mul, Nat.one_mul, Nat.add_assoc]
      · rw [dS_congr fun e _ => tF_cons d D m fun x => h (x + e), dS_swap]
        refine dS_congr fun j _ => ?_
        rw [dS_mul, tF_succ]
        congr 1
        refine dS_congr fun e _ => tF_congr fun x => ?_
        rw [show m + 1 - (j + 1) = m - j by omega, Nat.add_right_comm]
    rw [e1]
    generalize hT : (fun j => tF D j fun x => h (x + (m + 1 - j) * d)) = T
    have hT1 : ∀ j, (tF D j fun x => h (x + (m + 1 - j) * d)) = T j := fun j => by rw [← hT]
    rw [dS_congr fun j _ => by rw [hT1 j], dS_congr (f := fun j => chs m j * tF D (j + 1) fun x => h (x + (m + 1 - (j + 1)) * d)) fun j _ => by rw [hT1 (j + 1)]]
    rw [dS_congr (f := fun j => chs (m + 1) j * tF D j fun x => h (x + (m + 1 - j) * d)) fun j _ => by rw [hT1 j]]
    have key : ∀ K, dS (List.range (K + 1)) (fun j => chs m j * T j) + dS (List.range K) (fun j => chs m j * T (j + 1)) = dS (List.range (K + 1)) fun j => chs (m + 1) j * T j := fun K => by
      induction K with
      | zero => simp [dS, chs_zero]
      | succ K ih =>
        rw [dS_range_succ (fun j => chs m j * T j) (K + 1), dS_range_succ (fun j => chs m j * T (j + 1)) K, dS_range_succ (fun j => chs (m + 1) j * T j) (K + 1), ← ih, chs_succ, Nat.add_mul]
        omega
    have k := key (m + 1)
    rw [← k, List.range_succ (n := m + 1), dS_append, dS_cons, dS_nil, chs_over (by omega)]
    omega
theorem dS_mod0 {α : Type} {f : α → Nat} {p : Nat} : ∀ {l : List α}, (∀ a ∈ l, f a % p = 0) → dS l f % p = 0
  | [], _ => by simp [dS]
  | a :: l, h => by
    rw [dS_cons, Nat.add_mod, h a (by simp), dS_mod0 fun b hb => h b (by simp [hb])]
    simp
/-- Frobenius. -/
theorem tF_prime {p : Nat} (hp : PrN p) : ∀ (D : List Nat) (h : Nat → Nat), tF D p h % p = dS D (fun d => h (p * d)) % p
  | [], h => by
    have h2 := hp.1
    obtain ⟨n, rfl⟩ : ∃ i, p = i + 1 := ⟨p - 1, by omega⟩
    rfl
  | d :: D, h => by
    have h2 := hp.1
    obtain ⟨n, hn⟩ : ∃ i, p = i + 1 := ⟨p - 1, by omega⟩
    rw [tF_cons, dS_cons, List.range_succ, dS_append, dS_cons, dS_nil, chs_self, Nat.one_mul, Nat.add_zero, Nat.sub_self]
    have e0 : (tF D p fun x => h (x + 0 * d)) = tF D p h := tF_congr fun x => by simp
    rw [e0]
    have e1 : List.range p = 0 :: (List.range n).map Nat.succ := by rw [hn, List.range_succ_eq_map]
    rw [e1, dS_cons, chs_zero, Nat.one_mul, Nat.sub_zero]
    have e2 : dS ((List.range n).map Nat.succ) (fun j => chs p j * tF D j fun x => h (x + (p - j) * d)) % p = 0 := dS_mod0 fun j hj => by
      obtain ⟨i, hi, rfl⟩ := List.mem_map.1 hj
      have := List.mem_range.1 hi
      rw [Nat.mul_mod, chs_prime hp (by omega) (by omega)]
      simp
    have e3 : (tF D 0 fun x => h (x + p * d)) = h (p * d) := by show h (0 + p * d) = _; rw [Nat.zero_add]
    rw [e3, Nat.add_assoc, Nat.add_mod, Nat.add_mod (dS _ _), e2, tF_prime hp D h]
    simp [Nat.add_mod]
theorem fermat_k {p : Nat} (hp : PrN p) (k : Nat) : k ^ p % p = k % p := by
  have h := tF_prime hp (List.replicate k 0) fun _ => 1
  rw [tF_const, dS_const] at h
  simpa using h
/-- Squares that are together the square of the sum: one alone is not 0. -/
theorem dS_sq_le {α : Type} (f : α → Nat) : ∀ l : List α, dS l (fun a => f a * f a) ≤ dS l f * dS l f
  | [] => by simp [dS]
  | a :: l => by
    have := dS_sq_le f l
    rw [dS_cons, dS_cons]
    generalize dS l f = S at *
    have e : (f a + S) * (f a + S) = f a * f a + (2 * (f a * S) + S * S) := by grind
    omega
theorem dS_sq_one {α : Type} {f : α → Nat} : ∀ {l : List α}, dS l (fun a => f a * f a) = dS l f * dS l f → 0 < dS l f → ∃ a ∈ l, f a = dS l f
  | [], _, h => by simp [dS] at h
  | a :: l, e, h0 => by
    have hle := dS_sq_le f l
    rw [dS_cons, dS_cons] at e
    rw [dS_cons] at h0 ⊢
    by_cases hS : dS l f = 0
    · exact ⟨a, by simp, by omega⟩
    · have e2 : (f a + dS l f) * (f a + dS l f) = f a * f a + (2 * (f a * dS l f) + dS l f * dS l f) := by grind
      have e3 : f a * dS l f = 0 := by omega
      have e4 : f a = 0 := by
        rcases Nat.mul_eq_zero.1 e3 with h | h
        · exact h
        · exact (hS h).elim
      obtain ⟨b, hb, e5⟩ := dS_sq_one (f := f) (l := l) (by omega) (by omega)
      exact ⟨b, by simp [hb], by omega⟩
end Go.Proofs.YtmiinhbffiodmaaDoor
