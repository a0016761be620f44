/- The differences of a set, its images, its multipliers; nothing of the program. -/
import Derived.Test.YtjfjdidibglhaabDoorDPure
import Derived.Test.YtjfjdidibglhaabDoorTSo
/- Difference sets: what is left out, moved, multiplied, developed. Nothing of the program. -/
/- Multipliers of difference sets (M. Hall; Ryser): nothing of the program. -/
namespace Go.Proofs.YtjfjdidibglhaabDoor

/-- Sums over all lists of m things of D, of what h is at their sum. -/
def tF (D : List Nat) : Nat → (Nat → Nat) → Nat
  | 0, h => h 0
  | m + 1, h => dS D fun d => tF D m fun x => h (x + d)
theorem tF_succ (D : List Nat) (m : Nat) (h : Nat → Nat) : tF D (m + 1) h = dS D fun d => tF D m fun x => h (x + d) := rfl
theorem tF_congr {D : List Nat} : ∀ {m : Nat} {h g : Nat → Nat}, (∀ x, h x = g x) → tF D m h = tF D m g
  | 0, _, _, e => e 0
  | _ + 1, _, _, e => dS_congr fun d _ => tF_congr fun x => e (x + d)
theorem tF_last (D : List Nat) : ∀ (m : Nat) (h : Nat → Nat), tF D (m + 1) h = tF D m fun s => dS D fun d => h (s + d)
  | 0, _ => rfl
  | m + 1, h => by
    rw [tF_succ, dS_congr fun d _ => tF_last D m fun x => h (x + d), tF_succ]
    refine dS_congr fun e _ => tF_congr fun x => dS_congr fun d _ => ?_
    rw [Nat.add_right_comm]
theorem tF_add (D : List Nat) : ∀ (m : Nat) (f g : Nat → Nat), tF D m (fun s => f s + g s) = tF D m f + tF D m g
  | 0, f, g => rfl
  | m + 1, f, g => by rw [tF_succ, tF_succ, tF_succ, ← dS_add]; exact dS_congr fun d _ => tF_add D m _ _
theorem tF_mul (D : List Nat) (c : Nat) : ∀ (m : Nat) (f : Nat → Nat), tF D m (fun s => c * f s) = c * tF D m f
  | 0, f => rfl
  | m + 1, f => by rw [tF_succ, tF_succ, ← dS_mul]; exact dS_congr fun d _ => tF_mul D c m _
theorem tF_const (D : List Nat) (c : Nat) : ∀ m : Nat, tF D m (fun _ => c) = D.length ^ m * c
  | 0 => by simp [tF]
  | m + 1 => by rw [tF_succ, dS_congr fun d _ => tF_const D c m, dS_const, Nat.pow_succ, Nat.mul_comm (D.length ^ m) D.length, Nat.mul_assoc]
theorem dS_range_succ (f : Nat → Nat) (K : Nat) : dS (List.range (K + 1)) f = dS (List.range K) f + f K := by rw [List.range_succ, dS_append, dS_cons, dS_nil, Nat.add_zero]
/-- Pascal's numbers. -/
def chs : Nat → Nat → Nat
  | _, 0 => 1
  | 0, _ + 1 => 0
  | n + 1, j + 1 => chs n j + chs n (j + 1)
theorem chs_zero (n : Nat) : chs n 0 = 1 := by cases n <;> rfl
theorem chs_succ (n j : Nat) : chs (n + 1) (j + 1) = chs n j + chs n (j + 1) := rfl
theorem chs_over : ∀ {n j : Nat}, n < j → chs n j = 0
  | 0, j + 1, _ => rfl
  | n + 1, j + 1, h => by rw [chs_succ, chs_over (by omega), chs_over (by omega)]
theorem chs_self : ∀ n : Nat, chs n n = 1
  | 0 => rfl
  | n + 1 => by rw [chs_succ, chs_self n, chs_over (by omega)]
theorem chs_times : ∀ n j : Nat, (j + 1) * chs (n + 1) (j + 1) = (n + 1) * chs n j
  | 0, 0 => rfl
  | 0, j + 1 => by simp [chs_succ, chs_over]
  | n + 1, 0 => by
    have h := chs_times n 0
    rw [chs_zero] at h ⊢
    rw [chs_succ (n + 1) 0, chs_zero]
    omega
  | n + 1, j + 1 => by
    have h1 := chs_times n j
    have h2 := chs_times n (j + 1)
    rw [chs_succ (n + 1) (j + 1), Nat.mul_add, h2]
    have e : (j + 1 + 1) * chs (n + 1) (j + 1) = (n + 1) * chs n j + chs (n + 1) (j + 1) := by rw [← h1]; grind
    rw [e, chs_succ n j]
    grind
/-- Primes as the document has them. -/
def PrN (p : Nat) : Prop := 2 ≤ p ∧ ∀ d, 2 ≤ d → d < p → p % d ≠ 0
theorem PrN.cop {p a : Nat} (h : PrN p) (ha : a % p ≠ 0) : Nat.Coprime p a := by
  have hg : Nat.gcd p a ∣ p := Nat.gcd_dvd_left _ _
  have h2 := h.1
  have hle := Nat.le_of_dvd (by omega) hg
  have h0 : 0 < Nat.gcd p a := Nat.gcd_pos_of_pos_left _ (by omega)
  by_cases e1 : Nat.gcd p a = 1
  · exact e1
  · by_cases e2 : Nat.gcd p a = p
    · exact (ha (Nat.mod_eq_zero_of_dvd (by rw [← e2]; exact Nat.gcd_dvd_right _ _))).elim
    · exact (h.2 _ (by omega) (by omega) (Nat.mod_eq_zero_of_dvd hg)).elim
theorem chs_prime {p j : Nat} (h : PrN p) (h0 : 0 < j) (hj : j < p) : chs p j % p = 0 := by
  obtain ⟨j, rfl⟩ : ∃ i, j = i + 1 := ⟨j - 1, by omega⟩
  obtain ⟨n, rfl⟩ : ∃ i, p = i + 1 := ⟨p - 1, by omega⟩
  have e := chs_times n j
  have hc := h.cop (a := j + 1) (by rw [Nat.mod_eq_of_lt hj]; omega)
  exact Nat.mod_eq_zero_of_dvd (hc.dvd_of_dvd_mul_left (e ▸ Nat.dvd_mul_right _ _))
/-- How often one thing is taken. -/
theorem tF_cons (d : Nat) (D : List Nat) : ∀ (m : Nat) (h : Nat → Nat), tF (d :: D) m h = dS (List.range (m + 1)) fun j => chs m j * tF D j fun x => h (x + (m - j) * d)
  | 0, h => by simp [dS, tF, chs]
  | m + 1, h => by
    have e1 : tF (d :: D) (m + 1) h = dS (List.range (m + 1)) (fun j => chs m j * tF D j fun x => h (x + (m + 1 - j) * d)) + dS (List.range (m + 1)) fun j => chs m j * tF D (j + 1) fun x => h (x + (m + 1 - (j + 1)) * d) := by
      rw [tF_succ, dS_cons, tF_cons d D m]
      congr 1
      · refine dS_congr fun j hj => ?_
        have hj := List.mem_range.1 hj
        congr 1
        refine tF_congr fun x => ?_
        rw [show m + 1 - j = (m - j) + 1 by omega, Nat.add_mul, Nat.one_mul, Nat.add_assoc]
      · rw [dS_congr fun e _ => tF_cons d D m fun x => h (x + e), dS_swap]
        refine dS_congr fun j _ => ?_
        rw [dS_mul, tF_succ]
        congr 1
        refine dS_congr fun e _ => tF_congr fun x => ?_
        rw [show m + 1 - (j + 1) = m - j by omega, Nat.add_right_comm]
    rw [e1]
    generalize hT : (fun j => tF D j fun x => h (x + (m + 1 - j) * d)) = T
    have hT1 : ∀ j, (tF D j fun x => h (x + (m + 1 - j) * d)) = T j := fun j => by rw [← hT]
    rw [dS_congr fun j _ => by rw [hT1 j], dS_congr (f := fun j => chs m j * tF D (j + 1) fun x => h (x + (m + 1 - (j + 1)) * d)) fun j _ => by rw [hT1 (j + 1)]]
    rw [dS_congr (f := fun j => chs (m + 1) j * tF D j fun x => h (x + (m + 1 - j) * d)) fun j _ => by rw [hT1 j]]
    have key : ∀ K, dS (List.range (K + 1)) (fun j => chs m j * T j) + dS (List.range K) (fun j => chs m j * T (j + 1)) = dS (List.range (K + 1)) fun j => chs (m + 1) j * T j := fun K => by
      induction K with
      | zero => simp [dS, chs_zero]
      | succ K ih =>
        rw [dS_range_succ (fun j => chs m j * T j) (K + 1), dS_range_succ (fun j => chs m j * T (j + 1)) K, dS_range_succ (fun j => chs (m + 1) j * T j) (K + 1), ← ih, chs_succ, Nat.add_mul]
        omega
    have k := key (m + 1)
    rw [← k, List.range_succ (n := m + 1), dS_append, dS_cons, dS_nil, chs_over (by omega)]
    omega
theorem dS_mod0 {α : Type} {f : α → Nat} {p : Nat} : ∀ {l : List α}, (∀ a ∈ l, f a % p = 0) → dS l f % p = 0
  | [], _ => by simp [dS]
  | a :: l, h => by
    rw [dS_cons, Nat.add_mod, h a (by simp), dS_mod0 fun b hb => h b (by simp [hb])]
    simp
/-- Frobenius. -/
theorem tF_prime {p : Nat} (hp : PrN p) : ∀ (D : List Nat) (h : Nat → Nat), tF D p h % p = dS D (fun d => h (p * d)) % p
  | [], h => by
    have h2 := hp.1
    obtain ⟨n, rfl⟩ : ∃ i, p = i + 1 := ⟨p - 1, by omega⟩
    rfl
  | d :: D, h => by
    have h2 := hp.1
    obtain ⟨n, hn⟩ : ∃ i, p = i + 1 := ⟨p - 1, by omega⟩
    rw [tF_cons, dS_cons, List.range_succ, dS_append, dS_cons, dS_nil, chs_self, Nat.one_mul, Nat.add_zero, Nat.sub_self]
    have e0 : (tF D p fun x => h (x + 0 * d)) = tF D p h := tF_congr fun x => by simp
    rw [e0]
    have e1 : List.range p = 0 :: (List.range n).map Nat.succ := by rw [hn, List.range_succ_eq_map]
    rw [e1, dS_cons, chs_zero, Nat.one_mul, Nat.sub_zero]
    have e2 : dS ((List.range n).map Nat.succ) (fun j => chs p j * tF D j fun x => h (x + (p - j) * d)) % p = 0 := dS_mod0 fun j hj => by
      obtain ⟨i, hi, rfl⟩ := List.mem_map.1 hj
      have := List.mem_range.1 hi
      rw [Nat.mul_mod, chs_prime hp (by omega) (by omega)]
      simp
    have e3 : (tF D 0 fun x => h (x + p * d)) = h (p * d) := by show h (0 + p * d) = _; rw [Nat.zero_add]
    rw [e3, Nat.add_assoc, Nat.add_mod, Nat.add_mod (dS _ _), e2, tF_prime hp D h]
    simp [Nat.add_mod]
theorem fermat_k {p : Nat} (hp : PrN p) (k : Nat) : k ^ p % p = k % p := by
  have h := tF_prime hp (List.replicate k 0) fun _ => 1
  rw [tF_const, dS_const] at h
  simpa using h
/-- Squares that are together the square of the sum: one alone is not 0. -/
theorem dS_sq_le {α : Type} (f : α → Nat) : ∀ l : List α, dS l (fun a => f a * f a) ≤ dS l f * dS l f
  | [] => by simp [dS]
  | a :: l => by
    have := dS_sq_le f l
    rw [dS_cons, dS_cons]
    generalize dS l f = S at *
    have e : (f a + S) * (f a + S) = f a * f a + (2 * (f a * S) + S * S) := by grind
    omega
theorem dS_sq_one {α : Type} {f : α → Nat} : ∀ {l : List α}, dS l (fun a => f a * f a) = dS l f * dS l f → 0 < dS l f → ∃ a ∈ l, f a = dS l f
  | [], _, h => by simp [dS] at h
  | a :: l, e, h0 => by
    have hle := dS_sq_le f l
    rw [dS_cons, dS_cons] at e
    rw [dS_cons] at h0 ⊢
    by_cases hS : dS l f = 0
    · exact ⟨a, by simp, by omega⟩
    · have e2 : (f a + dS l f) * (f a + dS l f) = f a * f a + (2 * (f a * dS l f) + dS l f * dS l f) := by grind
      have e3 : f a * dS l f = 0 := by omega
      have e4 : f a = 0 := by
        rcases Nat.mul_eq_zero.1 e3 with h | h
        · exact h
        · exact (hS h).elim
      obtain ⟨b, hb, e5⟩ := dS_sq_one (f := f) (l := l) (by omega) (by omega)
      exact ⟨b, by simp [hb], by omega⟩
end Go.Proofs.YtjfjdidibglhaabDoor

/- Difference sets: what counting says; the multiplier theorem. Nothing of the program. -/
namespace Go.Proofs.YtjfjdidibglhaabDoor

theorem mod_le {v a b c : Nat} (h : (c + a) % v = (c + b) % v) (hab : a ≤ b) (hv : b - a < v) : a = b := by
  have h1 := Nat.sub_mod_eq_zero_of_mod_eq h.symm
  rw [Nat.add_sub_add_left, Nat.mod_eq_of_lt hv] at h1
  omega
theorem mod_inj {v a b c : Nat} (h : (c + a) % v = (c + b) % v) (h1 : b - a < v) (h2 : a - b < v) : a = b := by
  rcases Nat.le_total a b with g | g
  · exact mod_le h g h1
  · exact (mod_le h.symm g h2).symm
theorem dS_permF {α : Type} {l m : List α} (h : l.Perm m) (f : α → Nat) : dS l f = dS m f := (h.map f).sum_nat
theorem dS_map {α β : Type} (g : β → α) (f : α → Nat) : ∀ l : List β, dS (l.map g) f = dS l fun b => f (g b)
  | [] => rfl
  | b :: l => by rw [List.map_cons, dS_cons, dS_cons, dS_map g f l]
theorem perm_full {v : Nat} {s : List Nat} (h : Pts v s) (hl : s.length = v) : s.Perm (List.range v) := by
  have h1 := h.filter
  have h2 := h.count
  rw [hl] at h2
  have h3 : ∀ x ∈ List.range v, s.contains x = true := List.countP_eq_length.1 (by rw [h2, List.length_range])
  rw [List.filter_eq_self.2 h3] at h1
  exact h1.symm
theorem nodup_map {σ : Nat → Nat} : ∀ {l : List Nat}, l.Nodup → (∀ a ∈ l, ∀ b ∈ l, σ a = σ b → a = b) → (l.map σ).Nodup
  | [], _, _ => List.nodup_nil
  | a :: l, hn, hi => by
    rw [List.map_cons, List.nodup_cons]
    rw [List.nodup_cons] at hn
    refine ⟨fun h => ?_, nodup_map hn.2 fun x hx y hy => hi x (by simp [hx]) y (by simp [hy])⟩
    obtain ⟨b, hb, e⟩ := List.mem_map.1 h
    exact hn.1 (hi b (by simp [hb]) a (by simp) e ▸ hb)
theorem dS_bij {v : Nat} {σ : Nat → Nat} (h1 : ∀ g, g < v → σ g < v) (h2 : ∀ a b, a < v → b < v → σ a = σ b → a = b) (f : Nat → Nat) : dS (List.range v) (fun g => f (σ g)) = dS (List.range v) f := by
  rw [← dS_map]
  refine dS_permF (perm_full ⟨nodup_map List.nodup_range fun a ha b hb => h2 a b (List.mem_range.1 ha) (List.mem_range.1 hb), fun x hx => ?_⟩ (by simp)) f
  obtain ⟨g, hg, rfl⟩ := List.mem_map.1 hx
  exact h1 g (List.mem_range.1 hg)
/-- All numbers, moved; all numbers, turned round. -/
theorem dS_shift {v : Nat} (hv : 0 < v) (c : Nat) (f : Nat → Nat) : dS (List.range v) (fun x => f ((c + x) % v)) = dS (List.range v) f :=
  dS_bij (σ := fun x => (c + x) % v) (fun g _ => Nat.mod_lt _ hv) (fun a b ha hb h => mod_inj h (by omega) (by omega)) f
theorem dS_turn {v : Nat} (hv : 0 < v) (c : Nat) (f : Nat → Nat) : dS (List.range v) (fun x => f ((c + (v - x)) % v)) = dS (List.range v) f :=
  dS_bij (σ := fun x => (c + (v - x)) % v) (fun g _ => Nat.mod_lt _ hv) (fun a b ha hb h => by have := mod_inj h (by omega) (by omega); omega) f
theorem dS_in {v : Nat} {D : List Nat} (hD : Pts v D) (f : Nat → Nat) : dS (List.range v) (fun x => if D.contains x = true then f x else 0) = dS D f := by
  rw [← dS_permF hD.filter f]
  generalize List.range v = l
  induction l with
  | nil => rfl
  | cons a l ih =>
    rw [dS_cons, ih, List.filter_cons]
    by_cases h : D.contains a = true
    · rw [if_pos h, if_pos h, dS_cons]
    · rw [if_neg h, if_neg h, Nat.zero_add]

/-- How many things of D have one of D behind them by c. -/
def me (v : Nat) (D : List Nat) (c : Nat) : Nat := D.countP fun b => D.contains ((b + c) % v)
def DLev (v : Nat) (D : List Nat) (l : Nat) : Prop := ∀ c, c % v ≠ 0 → me v D c = l
theorem me_mod (v : Nat) (D : List Nat) (c : Nat) : me v D (c % v) = me v D c := by
  unfold me
  congr 1
  funext b
  rw [Nat.add_mod_mod]
theorem me_zero {v : Nat} {D : List Nat} (hD : Pts v D) {c : Nat} (hc : c % v = 0) : me v D c = D.length := by
  rw [← me_mod, hc]
  exact List.countP_eq_length.2 fun b hb => by rw [Nat.add_zero, Nat.mod_eq_of_lt (hD.lt b hb)]; simpa using hb
theorem dS_cnt {α : Type} (p : α → Bool) (l : List α) : l.countP p = dS l fun a => if p a = true then 1 else 0 := (dS_count p l).symm
theorem cnt_k {v : Nat} {D : List Nat} (hD : Pts v D) : dS (List.range v) (fun x => if D.contains x = true then 1 else 0) = D.length := by rw [dS_count]; exact hD.count
/-- All differences together. -/
theorem me_total {v : Nat} {D : List Nat} (hv : 0 < v) (hD : Pts v D) : dS (List.range v) (me v D) = D.length * D.length := by
  have e : dS (List.range v) (me v D) = dS (List.range v) fun c => dS D fun b => if D.contains ((b + c) % v) = true then 1 else 0 := dS_congr fun c _ => dS_cnt _ _
  rw [e, dS_swap, dS_congr fun b _ => (dS_shift hv b fun x => if D.contains x = true then 1 else 0).trans (cnt_k hD), dS_const]
theorem lev_count {v l : Nat} {D : List Nat} (hv : 0 < v) (hD : Pts v D) (hL : DLev v D l) : D.length + l * (v - 1) = D.length * D.length := by
  have h := me_total hv hD
  obtain ⟨n, rfl⟩ : ∃ n, v = n + 1 := ⟨v - 1, by omega⟩
  rw [List.range_succ_eq_map, dS_cons, me_zero hD (by simp), dS_congr (g := fun _ => l) (fun c hc => ?_), dS_const] at h
  · rw [← h]; simp [Nat.mul_comm]
  · obtain ⟨i, hi, rfl⟩ := List.mem_map.1 hc
    have := List.mem_range.1 hi
    exact hL _ (by rw [Nat.mod_eq_of_lt (by omega)]; omega)
theorem me_is {v l : Nat} {D : List Nat} (hD : Pts v D) (hL : DLev v D l) {n : Nat} (hn : D.length = l + n) (c : Nat) : me v D c = l + n * if c % v = 0 then 1 else 0 := by
  by_cases h : c % v = 0
  · rw [me_zero hD h, if_pos h]; omega
  · rw [hL c h, if_neg h]; omega

/-- How many of D, times p, have one of D before them by g. -/
def tG (v p : Nat) (D : List Nat) (g : Nat) : Nat := D.countP fun d => D.contains ((p * d + (v - g)) % v)
theorem tG_mod {v l n p : Nat} {D : List Nat} (hD : Pts v D) (hL : DLev v D l) (hn : D.length = l + n) (hp : PrN p) (hpn : n % p = 0) (g : Nat) : tG v p D g % p = l % p := by
  have h2 := hp.1
  obtain ⟨m, hm⟩ : ∃ m, p = m + 1 := ⟨p - 1, by omega⟩
  have h1 := tF_prime hp D fun x => if D.contains ((x + (v - g)) % v) = true then 1 else 0
  have e1 : (dS D fun d => if D.contains ((p * d + (v - g)) % v) = true then 1 else 0) = tG v p D g := (dS_cnt _ _).symm
  rw [e1] at h1
  rw [← h1]
  have e2 : (tF D p fun x => if D.contains ((x + (v - g)) % v) = true then 1 else 0) = D.length ^ m * l + n * tF D m (fun s => if (s + (v - g)) % v = 0 then 1 else 0) := by
    rw [hm, tF_last]
    have e3 : ∀ s, (dS D fun d => if D.contains ((s + d + (v - g)) % v) = true then 1 else 0) = l + n * if (s + (v - g)) % v = 0 then 1 else 0 := fun s => by
      rw [← me_is hD hL hn, dS_count]
      unfold me
      congr 1
      funext d
      rw [show s + d + (v - g) = d + (s + (v - g)) by omega]
    rw [tF_congr e3, tF_add, tF_const, tF_mul]
  rw [e2, Nat.add_mod, Nat.mul_mod n, hpn, Nat.zero_mul, Nat.zero_mod, Nat.add_zero, Nat.mod_mod]
  have ek : D.length % p = l % p := by rw [hn, Nat.add_mod, hpn, Nat.add_zero, Nat.mod_mod]
  have ef := fermat_k hp D.length
  rw [ek] at ef
  rw [← ef, hm, Nat.pow_succ, Nat.mul_mod, ← hm, ← ek, ← Nat.mul_mod]
theorem tG_total {v p : Nat} {D : List Nat} (hv : 0 < v) (hD : Pts v D) : dS (List.range v) (tG v p D) = D.length * D.length := by
  have e : dS (List.range v) (tG v p D) = dS (List.range v) fun g => dS D fun d => if D.contains ((p * d + (v - g)) % v) = true then 1 else 0 := dS_congr fun c _ => dS_cnt _ _
  rw [e, dS_swap, dS_congr fun d _ => (dS_turn hv (p * d) fun x => if D.contains x = true then 1 else 0).trans (cnt_k hD), dS_const]
theorem dS_two {α : Type} (f : α → Nat) (l : List α) : dS l f * dS l f = dS l fun a => dS l fun b => f a * f b := by
  rw [dS_congr fun a _ => dS_mul (f a) f l, ← dS_mul]
  exact dS_congr fun a _ => Nat.mul_comm _ _
theorem tG_pair {v p : Nat} {D : List Nat} (hv : 0 < v) (hD : Pts v D) {a : Nat} (ha : a < v) (b : Nat) :
    (dS (List.range v) fun g => (if D.contains ((p * a + (v - g)) % v) = true then 1 else 0) * if D.contains ((p * b + (v - g)) % v) = true then 1 else 0) = me v D (p * b + p * (v - a)) := by
  have e : ∀ g, g < v → (if D.contains ((p * b + (v - g)) % v) = true then 1 else 0) = (fun x => if D.contains ((x + (p * b + p * (v - a))) % v) = true then 1 else 0) ((p * a + (v - g)) % v) := fun g _ => by
    show _ = if D.contains (((p * a + (v - g)) % v + (p * b + p * (v - a))) % v) = true then 1 else 0
    rw [Nat.mod_add_mod]
    have : p * a + (v - g) + (p * b + p * (v - a)) = p * b + (v - g) + v * p := by
      have h : p * a + p * (v - a) = v * p := by rw [← Nat.mul_add, show a + (v - a) = v by omega, Nat.mul_comm]
      omega
    rw [this, Nat.add_mul_mod_self_left]
  rw [dS_congr fun g hg => by rw [e g (List.mem_range.1 hg)]]
  rw [dS_turn hv (p * a) fun x => (if D.contains x = true then 1 else 0) * if D.contains ((x + (p * b + p * (v - a))) % v) = true then 1 else 0]
  unfold me
  rw [dS_cnt, ← dS_in hD]
  refine dS_congr fun x _ => ?_
  by_cases h : D.contains x = true
  · rw [if_pos h, if_pos h, Nat.one_mul]
  · rw [if_neg h, if_neg h, Nat.zero_mul]
theorem mul_inj {v p a b : Nat} (hc : Nat.Coprime p v) (ha : a < v) (hb : b < v) (h : (p * a) % v = (p * b) % v) : a = b := by
  have key : ∀ {a b : Nat}, a < v → b < v → (p * a) % v = (p * b) % v → a ≤ b := fun {a b} ha hb h => by
    have h1 := Nat.dvd_of_mod_eq_zero (Nat.sub_mod_eq_zero_of_mod_eq h)
    rw [← Nat.mul_sub] at h1
    have h2 := hc.symm.dvd_of_dvd_mul_left h1
    rcases Nat.eq_zero_or_pos (a - b) with h3 | h3
    · omega
    · have := Nat.le_of_dvd h3 h2; omega
  exact Nat.le_antisymm (key ha hb h) (key hb ha h.symm)
theorem zero_iff {v p a b : Nat} (hc : Nat.Coprime p v) (ha : a < v) (hb : b < v) : (p * b + p * (v - a)) % v = 0 ↔ a = b := by
  have e : ((p * b + p * (v - a)) + p * a) % v = (p * b) % v := by
    have h : p * (v - a) + p * a = v * p := by rw [← Nat.mul_add, show v - a + a = v by omega, Nat.mul_comm]
    rw [Nat.add_assoc, h, Nat.add_mul_mod_self_left]
  constructor
  · intro h
    rw [Nat.add_mod, h, Nat.zero_add, Nat.mod_mod] at e
    exact mul_inj hc ha hb e
  · rintro rfl
    rw [← Nat.mul_add, show a + (v - a) = v by omega]
    exact Nat.mul_mod_left _ _
theorem tG_sq {v l n p : Nat} {D : List Nat} (hv : 0 < v) (hD : Pts v D) (hL : DLev v D l) (hn : D.length = l + n) (hc : Nat.Coprime p v) : (dS (List.range v) fun g => tG v p D g * tG v p D g) = D.length * (D.length * l + n) := by
  have e : (dS (List.range v) fun g => tG v p D g * tG v p D g) = dS (List.range v) fun g => dS D fun a => dS D fun b => (if D.contains ((p * a + (v - g)) % v) = true then 1 else 0) * if D.contains ((p * b + (v - g)) % v) = true then 1 else 0 := dS_congr fun g _ => by
    unfold tG
    rw [dS_cnt, dS_two]
  have key : ∀ a ∈ D, (dS (List.range v) fun g => dS D fun b => (if D.contains ((p * a + (v - g)) % v) = true then 1 else 0) * if D.contains ((p * b + (v - g)) % v) = true then 1 else 0) = D.length * l + n := fun a ha => by
    rw [dS_swap, dS_congr fun b _ => tG_pair hv hD (hD.lt a ha) b, dS_congr (g := fun b => l + n * if (decide (b = a)) = true then 1 else 0) (fun b hb => ?_), dS_add, dS_const, dS_mul, dS_count]
    · have : D.countP (fun b => decide (b = a)) = 1 := by
        have h1 : D.count a = 1 := by rw [List.Nodup.count hD.nd, if_pos ha]
        rw [← h1]
        unfold List.count
        congr 1
      rw [this, Nat.mul_one]
    · rw [me_is hD hL hn]
      congr 2
      by_cases h : b = a
      · rw [if_pos (decide_eq_true h), if_pos ((zero_iff hc (hD.lt a ha) (hD.lt b hb)).2 h.symm)]
      · rw [if_neg fun g => h ((zero_iff hc (hD.lt a ha) (hD.lt b hb)).1 g).symm, if_neg fun g => h (of_decide_eq_true g)]
  rw [e, dS_swap, dS_congr key, dS_const]
theorem perm_sub {A B : List Nat} (hA : A.Nodup) (hB : B.Nodup) (hs : ∀ x ∈ A, x ∈ B) (hl : A.length = B.length) : A.Perm B := by
  have key : ∀ {A B : List Nat}, A.Nodup → (∀ x ∈ A, x ∈ B) → A.length ≤ B.length := fun {A} => by
    induction A with
    | nil => intro B _ _; simp
    | cons a A ih =>
      intro B hA hs
      rw [List.nodup_cons] at hA
      have h1 := ih (B := B.erase a) hA.2 fun x hx => (List.mem_erase_of_ne (a := x) (b := a) fun e => hA.1 (e ▸ hx)).2 (hs x (by simp [hx]))
      have h2 := List.length_erase_of_mem (hs a (by simp))
      have h3 := List.length_pos_of_mem (hs a (by simp))
      simp only [List.length_cons]
      omega
  refine (List.perm_ext_iff_of_nodup hA hB).2 fun x => ⟨hs x, fun hx => Classical.byContradiction fun hn => ?_⟩
  have := key (A := x :: A) (B := B) (List.nodup_cons.2 ⟨hn, hA⟩) fun y hy => by
    rcases List.mem_cons.1 hy with rfl | hy
    · exact hx
    · exact hs y hy
  simp only [List.length_cons] at this
  omega
/-- Hall's multipliers. -/
theorem hall {v l n p : Nat} {D : List Nat} (hv : 2 ≤ v) (hD : Pts v D) (hL : DLev v D l) (hn : D.length = l + n) (h0 : 0 < n) (hp : PrN p) (hlp : l < p) (hpn : n % p = 0) (hvp : v % p ≠ 0) :
    ∃ g, g < v ∧ (D.map fun d => (p * d) % v).Perm (D.map fun d => (d + g) % v) := by
  have hc := hp.cop hvp
  have hp2 := hp.1
  have ht : ∀ g, tG v p D g = l + p * (tG v p D g / p) := fun g => by
    have h1 := tG_mod hD hL hn hp hpn g
    rw [Nat.mod_eq_of_lt hlp] at h1
    have h2 := Nat.mod_add_div (tG v p D g) p
    omega
  generalize hs : (fun g => tG v p D g / p) = s at *
  have hs1 : ∀ g, tG v p D g / p = s g := fun g => by rw [← hs]
  have ht1 : ∀ g, tG v p D g = l + p * s g := fun g => by rw [← hs1]; exact ht g
  have c1 := lev_count (by omega) hD hL
  have c2 := tG_total (p := p) (by omega) hD
  have c3 := tG_sq (by omega) hD hL hn hc
  rw [dS_congr fun g _ => ht1 g, dS_add, dS_const, dS_mul, List.length_range] at c2
  have e3 : (dS (List.range v) fun g => tG v p D g * tG v p D g) = v * (l * l) + 2 * l * p * dS (List.range v) s + p * p * dS (List.range v) fun g => s g * s g := by
    rw [dS_congr (g := fun g => l * l + 2 * l * p * s g + p * p * (s g * s g)) fun g _ => by rw [ht1 g]; grind]
    rw [dS_add, dS_add, dS_const, dS_mul, dS_mul, List.length_range]
  rw [e3] at c3
  generalize hS : dS (List.range v) s = S at *
  generalize hQ : (dS (List.range v) fun g => s g * s g) = Q at *
  have hk0 : l + n = D.length := hn.symm
  generalize hkk : D.length = k at *
  obtain ⟨u, rfl⟩ : ∃ u, v = u + 1 := ⟨v - 1, by omega⟩
  rw [Nat.add_sub_cancel] at c1
  have e4 : p * S = n := by
    have : (u + 1) * l = l * u + l := by rw [Nat.add_mul, Nat.one_mul, Nat.mul_comm]
    omega
  have e5 : p * p * Q = n * n := by subst hn; grind
  have e6 : Q = S * S := by
    have : p * p * Q = p * p * (S * S) := by rw [e5, ← e4]; grind
    exact Nat.eq_of_mul_eq_mul_left (Nat.mul_pos (by omega) (by omega)) this
  have hS0 : 0 < S := by
    rcases Nat.eq_zero_or_pos S with h | h
    · rw [h, Nat.mul_zero] at e4; omega
    · exact h
  obtain ⟨g, hg, hg2⟩ := dS_sq_one (f := s) (l := List.range (u + 1)) (by rw [hS, hQ]; exact e6) (by rw [hS]; exact hS0)
  rw [hS] at hg2
  have hg := List.mem_range.1 hg
  have hk : tG (u + 1) p D g = D.length := by rw [ht1 g, hg2, e4, hk0, hkk]
  have hall : ∀ d ∈ D, D.contains ((p * d + (u + 1 - g)) % (u + 1)) = true := List.countP_eq_length.1 hk
  refine ⟨g, hg, perm_sub (nodup_map hD.nd fun a ha b hb => mul_inj hc (hD.lt a ha) (hD.lt b hb)) (nodup_map hD.nd fun a ha b hb h => ?_) (fun x hx => ?_) (by simp)⟩
  · rw [Nat.add_comm a, Nat.add_comm b] at h
    have := hD.lt a ha
    have := hD.lt b hb
    exact mod_inj h (by omega) (by omega)
  · obtain ⟨d, hd, rfl⟩ := List.mem_map.1 hx
    refine List.mem_map.2 ⟨_, by simpa using hall d hd, ?_⟩
    show ((p * d + (u + 1 - g)) % (u + 1) + g) % (u + 1) = _
    rw [Nat.mod_add_mod, show p * d + (u + 1 - g) + g = p * d + (u + 1) by omega, Nat.add_mod_right]
end Go.Proofs.YtjfjdidibglhaabDoor

namespace Go.Proofs.YtjfjdidibglhaabDoor

def mvN (v t s d : Nat) : Nat := (d * t + s) % v
end Go.Proofs.YtjfjdidibglhaabDoor

namespace Go.Proofs.YtjfjdidibglhaabDoor

/-- A set of numbers modulo v. -/
structure GoodS (v : Nat) (D : List Nat) : Prop where
  pos : 1 ≤ v
  le : v ≤ 60
  rise : D.Pairwise (· < ·)
  lt : ∀ x ∈ D, x < v
theorem GoodS.pts {v : Nat} {D : List Nat} (h : GoodS v D) : Pts v D := rise_pts h.rise h.lt
theorem GoodS.len {v : Nat} {D : List Nat} (h : GoodS v D) : D.length ≤ v := h.pts.le
/-- Which numbers a set has behind t times and s more. -/
def imF (v : Nat) (D : List Nat) (t s x : Nat) : Bool := (D.map (mvN v t s)).contains x
def imL (v : Nat) (D : List Nat) (t s : Nat) : List Nat := (List.range 60).filter (imF v D t s)
end Go.Proofs.YtjfjdidibglhaabDoor
