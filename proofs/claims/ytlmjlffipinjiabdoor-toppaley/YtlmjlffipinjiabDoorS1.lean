/- What is wrong with a set: the walks of rises, Check and the document's SetFault. -/
import Derived.Test.YtlmjlffipinjiabDoorDPure
import Derived.Test.YtlmjlffipinjiabDoorTSo
import Derived.Test.YtlmjlffipinjiabDoorDGo
/- The differences of a set, its images, its multipliers; nothing of the program. -/
/- Difference sets: what is left out, moved, multiplied, developed. Nothing of the program. -/
/- Multipliers of difference sets (M. Hall; Ryser): nothing of the program. -/
namespace Go.Proofs.YtlmjlffipinjiabDoor

/-- Sums over all lists of m things of D, of what h is at their sum. -/
def tF (D : List Nat) : Nat → (Nat → Nat) → Nat
  | 0, h => h 0
  | m + 1, h => dS D fun d => tF D m fun x => h (x + d)
theorem tF_succ (D : List Nat) (m : Nat) (h : Nat → Nat) : tF D (m + 1) h = dS D fun d => tF D m fun x => h (x + d) := rfl
theorem tF_congr {D : List Nat} : ∀ {m : Nat} {h g : Nat → Nat}, (∀ x, h x = g x) → tF D m h = tF D m g
  | 0, _, _, e => e 0
  | _ + 1, _, _, e => dS_congr fun d _ => tF_congr fun x => e (x + d)
theorem tF_last (D : List Nat) : ∀ (m : Nat) (h : Nat → Nat), tF D (m + 1) h = tF D m fun s => dS D fun d => h (s + d)
  | 0, _ => rfl
  | m + 1, h => by
    rw [tF_succ, dS_congr fun d _ => tF_last D m fun x => h (x + d), tF_succ]
    refine dS_congr fun e _ => tF_congr fun x => dS_congr fun d _ => ?_
    rw [Nat.add_right_comm]
theorem tF_add (D : List Nat) : ∀ (m : Nat) (f g : Nat → Nat), tF D m (fun s => f s + g s) = tF D m f + tF D m g
  | 0, f, g => rfl
  | m + 1, f, g => by rw [tF_succ, tF_succ, tF_succ, ← dS_add]; exact dS_congr fun d _ => tF_add D m _ _
theorem tF_mul (D : List Nat) (c : Nat) : ∀ (m : Nat) (f : Nat → Nat), tF D m (fun s => c * f s) = c * tF D m f
  | 0, f => rfl
  | m + 1, f => by rw [tF_succ, tF_succ, ← dS_mul]; exact dS_congr fun d _ => tF_mul D c m _
theorem tF_const (D : List Nat) (c : Nat) : ∀ m : Nat, tF D m (fun _ => c) = D.length ^ m * c
  | 0 => by simp [tF]
  | m + 1 => by rw [tF_succ, dS_congr fun d _ => tF_const D c m, dS_const, Nat.pow_succ, Nat.mul_comm (D.length ^ m) D.length, Nat.mul_assoc]
theorem dS_range_succ (f : Nat → Nat) (K : Nat) : dS (List.range (K + 1)) f = dS (List.range K) f + f K := by rw [List.range_succ, dS_append, dS_cons, dS_nil, Nat.add_zero]
theorem tF_nil (m : Nat) (h : Nat → Nat) : tF [] (m + 1) h = 0 := rfl

/-- Pascal's numbers. -/
def chs : Nat → Nat → Nat
  | _, 0 => 1
  | 0, _ + 1 => 0
  | n + 1, j + 1 => chs n j + chs n (j + 1)
theorem chs_zero (n : Nat) : chs n 0 = 1 := by cases n <;> rfl
theorem chs_succ (n j : Nat) : chs (n + 1) (j + 1) = chs n j + chs n (j + 1) := rfl
theorem chs_over : ∀ {n j : Nat}, n < j → chs n j = 0
  | 0, j + 1, _ => rfl
  | n + 1, j + 1, h => by rw [chs_succ, chs_over (by omega), chs_over (by omega)]
theorem chs_self : ∀ n : Nat, chs n n = 1
  | 0 => rfl
  | n + 1 => by rw [chs_succ, chs_self n, chs_over (by omega)]
theorem chs_times : ∀ n j : Nat, (j + 1) * chs (n + 1) (j + 1) = (n + 1) * chs n j
  | 0, 0 => rfl
  | 0, j + 1 => by simp [chs_succ, chs_over]
  | n + 1, 0 => by
    have h := chs_times n 0
    rw [chs_zero] at h ⊢
    rw [chs_succ (n + 1) 0, chs_zero]
    omega
  | n + 1, j + 1 => by
    have h1 := chs_times n j
    have h2 := chs_times n (j + 1)
    rw [chs_succ (n + 1) (j + 1), Nat.mul_add, h2]
    have e : (j + 1 + 1) * chs (n + 1) (j + 1) = (n + 1) * chs n j + chs (n + 1) (j + 1) := by rw [← h1]; grind
    rw [e, chs_succ n j]
    grind
/-- Primes as the document has them. -/
def PrN (p : Nat) : Prop := 2 ≤ p ∧ ∀ d, 2 ≤ d → d < p → p % d ≠ 0
theorem PrN.cop {p a : Nat} (h : PrN p) (ha : a % p ≠ 0) : Nat.Coprime p a := by
  have hg : Nat.gcd p a ∣ p := Nat.gcd_dvd_left _ _
  have h2 := h.1
  have hle := Nat.le_of_dvd (by omega) hg
  have h0 : 0 < Nat.gcd p a := Nat.gcd_pos_of_pos_left _ (by omega)
  by_cases e1 : Nat.gcd p a = 1
  · exact e1
  · by_cases e2 : Nat.gcd p a = p
    · exact (ha (Nat.mod_eq_zero_of_dvd (by rw [← e2]; exact Nat.gcd_dvd_right _ _))).elim
    · exact (h.2 _ (by omega) (by omega) (Nat.mod_eq_zero_of_dvd hg)).elim
theorem chs_prime {p j : Nat} (h : PrN p) (h0 : 0 < j) (hj : j < p) : chs p j % p = 0 := by
  obtain ⟨j, rfl⟩ : ∃ i, j = i + 1 := ⟨j - 1, by omega⟩
  obtain ⟨n, rfl⟩ : ∃ i, p = i + 1 := ⟨p - 1, by omega⟩
  have e := chs_times n j
  have hc := h.cop (a := j + 1) (by rw [Nat.mod_eq_of_lt hj]; omega)
  exact Nat.mod_eq_zero_of_dvd (hc.dvd_of_dvd_mul_left (e ▸ Nat.dvd_mul_right _ _))
/-- How often one thing is taken. -/
theorem tF_cons (d : Nat) (D : List Nat) : ∀ (m : Nat) (h : Nat → Nat), tF (d :: D) m h = dS (List.range (m + 1)) fun j => chs m j * tF D j fun x => h (x + (m - j) * d)
  | 0, h => by simp [dS, tF, chs]
  | m + 1, h => by
    have e1 : tF (d :: D) (m + 1) h = dS (List.range (m + 1)) (fun j => chs m j * tF D j fun x => h (x + (m + 1 - j) * d)) + dS (List.range (m + 1)) fun j => chs m j * tF D (j + 1) fun x => h (x + (m + 1 - (j + 1)) * d) := by
      rw [tF_succ, dS_cons, tF_cons d D m]
      congr 1
      · refine dS_congr fun j hj => ?_
        have hj := List.mem_range.1 hj
        congr 1
        refine tF_congr fun x => ?_
        rw [show m + 1 - j = (m - j) + 1 by omega, Nat.add_mul, Nat.one_mul, Nat.add_assoc]
      · rw [dS_congr fun e _ => tF_cons d D m fun x => h (x + e), dS_swap]
        refine dS_congr fun j _ => ?_
        rw [dS_mul, tF_succ]
        congr 1
        refine dS_congr fun e _ => tF_congr fun x => ?_
        rw [show m + 1 - (j + 1) = m - j by omega, Nat.add_right_comm]
    rw [e1]
    generalize hT : (fun j => tF D j fun x => h (x + (m + 1 - j) * d)) = T
    have hT1 : ∀ j, (tF D j fun x => h (x + (m + 1 - j) * d)) = T j := fun j => by rw [← hT]
    rw [dS_congr fun j _ => by rw [hT1 j], dS_congr (f := fun j => chs m j * tF D (j + 1) fun x => h (x + (m + 1 - (j + 1)) * d)) fun j _ => by rw [hT1 (j + 1)]]
    rw [dS_congr (f := fun j => chs (m + 1) j * tF D j fun x => h (x + (m + 1 - j) * d)) fun j _ => by rw [hT1 j]]
    have key : ∀ K, dS (List.range (K + 1)) (fun j => chs m j * T j) + dS (List.range K) (fun j => chs m j * T (j + 1)) = dS (List.range (K + 1)) fun j => chs (m + 1) j * T j := fun K => by
      induction K with
      | zero => simp [dS, chs_zero]
      | succ K ih =>
        rw [dS_range_succ (fun j => chs m j * T j) (K + 1), dS_range_succ (fun j => chs m j * T (j + 1)) K, dS_range_succ (fun j => chs (m + 1) j * T j) (K + 1), ← ih, chs_succ, Nat.add_mul]
        omega
    have k := key (m + 1)
    rw [← k, List.range_succ (n := m + 1), dS_append, dS_cons, dS_nil, chs_over (by omega)]
    omega
theorem dS_mod0 {α : Type} {f : α → Nat} {p : Nat} : ∀ {l : List α}, (∀ a ∈ l, f a % p = 0) → dS l f % p = 0
  | [], _ => by simp [dS]
  | a :: l, h => by
    rw [dS_cons, Nat.add_mod, h a (by simp), dS_mod0 fun b hb => h b (by simp [hb])]
    simp
/-- Frobenius. -/
theorem tF_prime {p : Nat} (hp : PrN p) : ∀ (D : List Nat) (h : Nat → Nat), tF D p h % p = dS D (fun d => h (p * d)) % p
  | [], h => by
    have h2 := hp.1
    obtain ⟨n, rfl⟩ : ∃ i, p = i + 1 := ⟨p - 1, by omega⟩
    rfl
  | d :: D, h => by
    have h2 := hp.1
    obtain ⟨n, hn⟩ : ∃ i, p = i + 1 := ⟨p - 1, by omega⟩
    rw [tF_cons, dS_cons, List.range_succ, dS_append, dS_cons, dS_nil, chs_self, Nat.one_mul, Nat.add_zero, Nat.sub_self]
    have e0 : (tF D p fun x => h (x + 0 * d)) = tF D p h := tF_congr fun x => by simp
    rw [e0]
    have e1 : List.range p = 0 :: (List.range n).map Nat.succ := by rw [hn, List.range_succ_eq_map]
    rw [e1, dS_cons, chs_zero, Nat.one_mul, Nat.sub_zero]
    have e2 : dS ((List.range n).map Nat.succ) (fun j => chs p j * tF D j fun x => h (x + (p - j) * d)) % p = 0 := dS_mod0 fun j hj => by
      obtain ⟨i, hi, rfl⟩ := List.mem_map.1 hj
      have := List.mem_range.1 hi
      rw [Nat.mul_mod, chs_prime hp (by omega) (by omega)]
      simp
    have e3 : (tF D 0 fun x => h (x + p * d)) = h (p * d) := by show h (0 + p * d) = _; rw [Nat.zero_add]
    rw [e3, Nat.add_assoc, Nat.add_mod, Nat.add_mod (dS _ _), e2, tF_prime hp D h]
    simp [Nat.add_mod]
theorem fermat_k {p : Nat} (hp : PrN p) (k : Nat) : k ^ p % p = k % p := by
  have h := tF_prime hp (List.replicate k 0) fun _ => 1
  rw [tF_const, dS_const] at h
  simpa using h
/-- Squares that are together the square of the sum: one alone is not 0. -/
theorem dS_sq_le {α : Type} (f : α → Nat) : ∀ l : List α, dS l (fun a => f a * f a) ≤ dS l f * dS l f
  | [] => by simp [dS]
  | a :: l => by
    have := dS_sq_le f l
    rw [dS_cons, dS_cons]
    generalize dS l f = S at *
    have e : (f a + S) * (f a + S) = f a * f a + (2 * (f a * S) + S * S) := by grind
    omega
theorem dS_sq_one {α : Type} {f : α → Nat} : ∀ {l : List α}, dS l (fun a => f a * f a) = dS l f * dS l f → 0 < dS l f → ∃ a ∈ l, f a = dS l f
  | [], _, h => by simp [dS] at h
  | a :: l, e, h0 => by
    have hle := dS_sq_le f l
    rw [dS_cons, dS_cons] at e
    rw [dS_cons] at h0 ⊢
    by_cases hS : dS l f = 0
    · exact ⟨a, by simp, by omega⟩
    · have e2 : (f a + dS l f) * (f a + dS l f) = f a * f a + (2 * (f a * dS l f) + dS l f * dS l f) := by grind
      have e3 : f a * dS l f = 0 := by omega
      have e4 : f a = 0 := by
        rcases Nat.mul_eq_zero.1 e3 with h | h
        · exact h
        · exact (hS h).elim
      obtain ⟨b, hb, e5⟩ := dS_sq_one (f := f) (l := l) (by omega) (by omega)
      exact ⟨b, by simp [hb], by omega⟩
end Go.Proofs.YtlmjlffipinjiabDoor

/- Difference sets: what counting says; the multiplier theorem. Nothing of the program. -/
namespace Go.Proofs.YtlmjlffipinjiabDoor

theorem mod_le {v a b c : Nat} (h : (c + a) % v = (c + b) % v) (hab : a ≤ b) (hv : b - a < v) : a = b := by
  have h1 := Nat.sub_mod_eq_zero_of_mod_eq h.symm
  rw [Nat.add_sub_add_left, Nat.mod_eq_of_lt hv] at h1
  omega
theorem mod_inj {v a b c : Nat} (h : (c + a) % v = (c + b) % v) (h1 : b - a < v) (h2 : a - b < v) : a = b := by
  rcases Nat.le_total a b with g | g
  · exact mod_le h g h1
  · exact (mod_le h.symm g h2).symm
theorem dS_permF {α : Type} {l m : List α} (h : l.Perm m) (f : α → Nat) : dS l f = dS m f := (h.map f).sum_nat
theorem dS_map {α β : Type} (g : β → α) (f : α → Nat) : ∀ l : List β, dS (l.map g) f = dS l fun b => f (g b)
  | [] => rfl
  | b :: l => by rw [List.map_cons, dS_cons, dS_cons, dS_map g f l]
theorem perm_full {v : Nat} {s : List Nat} (h : Pts v s) (hl : s.length = v) : s.Perm (List.range v) := by
  have h1 := h.filter
  have h2 := h.count
  rw [hl] at h2
  have h3 : ∀ x ∈ List.range v, s.contains x = true := List.countP_eq_length.1 (by rw [h2, List.length_range])
  rw [List.filter_eq_self.2 h3] at h1
  exact h1.symm
theorem nodup_map {σ : Nat → Nat} : ∀ {l : List Nat}, l.Nodup → (∀ a ∈ l, ∀ b ∈ l, σ a = σ b → a = b) → (l.map σ).Nodup
  | [], _, _ => List.nodup_nil
  | a :: l, hn, hi => by
    rw [List.map_cons, List.nodup_cons]
    rw [List.nodup_cons] at hn
    refine ⟨fun h => ?_, nodup_map hn.2 fun x hx y hy => hi x (by simp [hx]) y (by simp [hy])⟩
    obtain ⟨b, hb, e⟩ := List.mem_map.1 h
    exact hn.1 (hi b (by simp [hb]) a (by simp) e ▸ hb)
theorem dS_bij {v : Nat} {σ : Nat → Nat} (h1 : ∀ g, g < v → σ g < v) (h2 : ∀ a b, a < v → b < v → σ a = σ b → a = b) (f : Nat → Nat) : dS (List.range v) (fun g => f (σ g)) = dS (List.range v) f := by
  rw [← dS_map]
  refine dS_permF (perm_full ⟨nodup_map List.nodup_range fun a ha b hb => h2 a b (List.mem_range.1 ha) (List.mem_range.1 hb), fun x hx => ?_⟩ (by simp)) f
  obtain ⟨g, hg, rfl⟩ := List.mem_map.1 hx
  exact h1 g (List.mem_range.1 hg)
/-- All numbers, moved; all numbers, turned round. -/
theorem dS_shift {v : Nat} (hv : 0 < v) (c : Nat) (f : Nat → Nat) : dS (List.range v) (fun x => f ((c + x) % v)) = dS (List.range v) f :=
  dS_bij (σ := fun x => (c + x) % v) (fun g _ => Nat.mod_lt _ hv) (fun a b ha hb h => mod_inj h (by omega) (by omega)) f
theorem dS_turn {v : Nat} (hv : 0 < v) (c : Nat) (f : Nat → Nat) : dS (List.range v) (fun x => f ((c + (v - x)) % v)) = dS (List.range v) f :=
  dS_bij (σ := fun x => (c + (v - x)) % v) (fun g _ => Nat.mod_lt _ hv) (fun a b ha hb h => by have := mod_inj h (by omega) (by omega); omega) f
theorem dS_in {v : Nat} {D : List Nat} (hD : Pts v D) (f : Nat → Nat) : dS (List.range v) (fun x => if D.contains x = true then f x else 0) = dS D f := by
  rw [← dS_permF hD.filter f]
  generalize List.range v = l
  induction l with
  | nil => rfl
  | cons a l ih =>
    rw [dS_cons, ih, List.filter_cons]
    by_cases h : D.contains a = true
    · rw [if_pos h, if_pos h, dS_cons]
    · rw [if_neg h, if_neg h, Nat.zero_add]

/-- How many things of D have one of D behind them by c. -/
def me (v : Nat) (D : List Nat) (c : Nat) : Nat := D.countP fun b => D.contains ((b + c) % v)
def DLev (v : Nat) (D : List Nat) (l : Nat) : Prop := ∀ c, c % v ≠ 0 → me v D c = l
theorem me_mod (v : Nat) (D : List Nat) (c : Nat) : me v D (c % v) = me v D c := by
  unfold me
  congr 1
  funext b
  rw [Nat.add_mod_mod]
theorem me_zero {v : Nat} {D : List Nat} (hD : Pts v D) {c : Nat} (hc : c % v = 0) : me v D c = D.length := by
  rw [← me_mod, hc]
  exact List.countP_eq_length.2 fun b hb => by rw [Nat.add_zero, Nat.mod_eq_of_lt (hD.lt b hb)]; simpa using hb
theorem dS_cnt {α : Type} (p : α → Bool) (l : List α) : l.countP p = dS l fun a => if p a = true then 1 else 0 := (dS_count p l).symm
theorem cnt_k {v : Nat} {D : List Nat} (hD : Pts v D) : dS (List.range v) (fun x => if D.contains x = true then 1 else 0) = D.length := by rw [dS_count]; exact hD.count
/-- All differences together. -/
theorem me_total {v : Nat} {D : List Nat} (hv : 0 < v) (hD : Pts v D) : dS (List.range v) (me v D) = D.length * D.length := by
  have e : dS (List.range v) (me v D) = dS (List.range v) fun c => dS D fun b => if D.contains ((b + c) % v) = true then 1 else 0 := dS_congr fun c _ => dS_cnt _ _
  rw [e, dS_swap, dS_congr fun b _ => (dS_shift hv b fun x => if D.contains x = true then 1 else 0).trans (cnt_k hD), dS_const]
theorem lev_count {v l : Nat} {D : List Nat} (hv : 0 < v) (hD : Pts v D) (hL : DLev v D l) : D.length + l * (v - 1) = D.length * D.length := by
  have h := me_total hv hD
  obtain ⟨n, rfl⟩ : ∃ n, v = n + 1 := ⟨v - 1, by omega⟩
  rw [List.range_succ_eq_map, dS_cons, me_zero hD (by simp), dS_congr (g := fun _ => l) (fun c hc => ?_), dS_const] at h
  · rw [← h]; simp [Nat.mul_comm]
  · obtain ⟨i, hi, rfl⟩ := List.mem_map.1 hc
    have := List.mem_range.1 hi
    exact hL _ (by rw [Nat.mod_eq_of_lt (by omega)]; omega)
theorem me_is {v l : Nat} {D : List Nat} (hD : Pts v D) (hL : DLev v D l) {n : Nat} (hn : D.length = l + n) (c : Nat) : me v D c = l + n * if c % v = 0 then 1 else 0 := by
  by_cases h : c % v = 0
  · rw [me_zero hD h, if_pos h]; omega
  · rw [hL c h, if_neg h]; omega

/-- How many of D, times p, have one of D before them by g. -/
def tG (v p : Nat) (D : List Nat) (g : Nat) : Nat := D.countP fun d => D.contains ((p * d + (v - g)) % v)
theorem tG_mod {v l n p : Nat} {D : List Nat} (hD : Pts v D) (hL : DLev v D l) (hn : D.length = l + n) (hp : PrN p) (hpn : n % p = 0) (g : Nat) : tG v p D g % p = l % p := by
  have h2 := hp.1
  obtain ⟨m, hm⟩ : ∃ m, p = m + 1 := ⟨p - 1, by omega⟩
  have h1 := tF_prime hp D fun x => if D.contains ((x + (v - g)) % v) = true then 1 else 0
  have e1 : (dS D fun d => if D.contains ((p * d + (v - g)) % v) = true then 1 else 0) = tG v p D g := (dS_cnt _ _).symm
  rw [e1] at h1
  rw [← h1]
  have e2 : (tF D p fun x => if D.contains ((x + (v - g)) % v) = true then 1 else 0) = D.length ^ m * l + n * tF D m (fun s => if (s + (v - g)) % v = 0 then 1 else 0) := by
    rw [hm, tF_last]
    have e3 : ∀ s, (dS D fun d => if D.contains ((s + d + (v - g)) % v) = true then 1 else 0) = l + n * if (s + (v - g)) % v = 0 then 1 else 0 := fun s => by
      rw [← me_is hD hL hn, dS_count]
      unfold me
      congr 1
      funext d
      rw [show s + d + (v - g) = d + (s + (v - g)) by omega]
    rw [tF_congr e3, tF_add, tF_const, tF_mul]
  rw [e2, Nat.add_mod, Nat.mul_mod n, hpn, Nat.zero_mul, Nat.zero_mod, Nat.add_zero, Nat.mod_mod]
  have ek : D.length % p = l % p := by rw [hn, Nat.add_mod, hpn, Nat.add_zero, Nat.mod_mod]
  have ef := fermat_k hp D.length
  rw [ek] at ef
  rw [← ef, hm, Nat.pow_succ, Nat.mul_mod, ← hm, ← ek, ← Nat.mul_mod]
theorem tG_total {v p : Nat} {D : List Nat} (hv : 0 < v) (hD : Pts v D) : dS (List.range v) (tG v p D) = D.length * D.length := by
  have e : dS (List.range v) (tG v p D) = dS (List.range v) fun g => dS D fun d => if D.contains ((p * d + (v - g)) % v) = true then 1 else 0 := dS_congr fun c _ => dS_cnt _ _
  rw [e, dS_swap, dS_congr fun d _ => (dS_turn hv (p * d) fun x => if D.contains x = true then 1 else 0).trans (cnt_k hD), dS_const]
theorem dS_two {α : Type} (f : α → Nat) (l : List α) : dS l f * dS l f = dS l fun a => dS l fun b => f a * f b := by
  rw [dS_congr fun a _ => dS_mul (f a) f l, ← dS_mul]
  exact dS_congr fun a _ => Nat.mul_comm _ _
theorem tG_pair {v p : Nat} {D : List Nat} (hv : 0 < v) (hD : Pts v D) {a : Nat} (ha : a < v) (b : Nat) :
    (dS (List.range v) fun g => (if D.contains ((p * a + (v - g)) % v) = true then 1 else 0) * if D.contains ((p * b + (v - g)) % v) = true then 1 else 0) = me v D (p * b + p * (v - a)) := by
  have e : ∀ g, g < v → (if D.contains ((p * b + (v - g)) % v) = true then 1 else 0) = (fun x => if D.contains ((x + (p * b + p * (v - a))) % v) = true then 1 else 0) ((p * a + (v - g)) % v) := fun g _ => by
    show _ = if D.contains (((p * a + (v - g)) % v + (p * b + p * (v - a))) % v) = true then 1 else 0
    rw [Nat.mod_add_mod]
    have : p * a + (v - g) + (p * b + p * (v - a)) = p * b + (v - g) + v * p := by
      have h : p * a + p * (v - a) = v * p := by rw [← Nat.mul_add, show a + (v - a) = v by omega, Nat.mul_comm]
      omega
    rw [this, Nat.add_mul_mod_self_left]
  rw [dS_congr fun g hg => by rw [e g (List.mem_range.1 hg)]]
  rw [dS_turn hv (p * a) fun x => (if D.contains x = true then 1 else 0) * if D.contains ((x + (p * b + p * (v - a))) % v) = true then 1 else 0]
  unfold me
  rw [dS_cnt, ← dS_in hD]
  refine dS_congr fun x _ => ?_
  by_cases h : D.contains x = true
  · rw [if_pos h, if_pos h, Nat.one_mul]
  · rw [if_neg h, if_neg h, Nat.zero_mul]
theorem mul_inj {v p a b : Nat} (hc : Nat.Coprime p v) (ha : a < v) (hb : b < v) (h : (p * a) % v = (p * b) % v) : a = b := by
  have key : ∀ {a b : Nat}, a < v → b < v → (p * a) % v = (p * b) % v → a ≤ b := fun {a b} ha hb h => by
    have h1 := Nat.dvd_of_mod_eq_zero (Nat.sub_mod_eq_zero_of_mod_eq h)
    rw [← Nat.mul_sub] at h1
    have h2 := hc.symm.dvd_of_dvd_mul_left h1
    rcases Nat.eq_zero_or_pos (a - b) with h3 | h3
    · omega
    · have := Nat.le_of_dvd h3 h2; omega
  exact Nat.le_antisymm (key ha hb h) (key hb ha h.symm)
theorem zero_iff {v p a b : Nat} (hc : Nat.Coprime p v) (ha : a < v) (hb : b < v) : (p * b + p * (v - a)) % v = 0 ↔ a = b := by
  have e : ((p * b + p * (v - a)) + p * a) % v = (p * b) % v := by
    have h : p * (v - a) + p * a = v * p := by rw [← Nat.mul_add, show v - a + a = v by omega, Nat.mul_comm]
    rw [Nat.add_assoc, h, Nat.add_mul_mod_self_left]
  constructor
  · intro h
    rw [Nat.add_mod, h, Nat.zero_add, Nat.mod_mod] at e
    exact mul_inj hc ha hb e
  · rintro rfl
    rw [← Nat.mul_add, show a + (v - a) = v by omega]
    exact Nat.mul_mod_left _ _
theorem tG_sq {v l n p : Nat} {D : List Nat} (hv : 0 < v) (hD : Pts v D) (hL : DLev v D l) (hn : D.length = l + n) (hc : Nat.Coprime p v) : (dS (List.range v) fun g => tG v p D g * tG v p D g) = D.length * (D.length * l + n) := by
  have e : (dS (List.range v) fun g => tG v p D g * tG v p D g) = dS (List.range v) fun g => dS D fun a => dS D fun b => (if D.contains ((p * a + (v - g)) % v) = true then 1 else 0) * if D.contains ((p * b + (v - g)) % v) = true then 1 else 0 := dS_congr fun g _ => by
    unfold tG
    rw [dS_cnt, dS_two]
  have key : ∀ a ∈ D, (dS (List.range v) fun g => dS D fun b => (if D.contains ((p * a + (v - g)) % v) = true then 1 else 0) * if D.contains ((p * b + (v - g)) % v) = true then 1 else 0) = D.length * l + n := fun a ha => by
    rw [dS_swap, dS_congr fun b _ => tG_pair hv hD (hD.lt a ha) b, dS_congr (g := fun b => l + n * if (decide (b = a)) = true then 1 else 0) (fun b hb => ?_), dS_add, dS_const, dS_mul, dS_count]
    · have : D.countP (fun b => decide (b = a)) = 1 := by
        have h1 : D.count a = 1 := by rw [List.Nodup.count hD.nd, if_pos ha]
        rw [← h1]
        unfold List.count
        congr 1
      rw [this, Nat.mul_one]
    · rw [me_is hD hL hn]
      congr 2
      by_cases h : b = a
      · rw [if_pos (decide_eq_true h), if_pos ((zero_iff hc (hD.lt a ha) (hD.lt b hb)).2 h.symm)]
      · rw [if_neg fun g => h ((zero_iff hc (hD.lt a ha) (hD.lt b hb)).1 g).symm, if_neg fun g => h (of_decide_eq_true g)]
  rw [e, dS_swap, dS_congr key, dS_const]
theorem perm_sub {A B : List Nat} (hA : A.Nodup) (hB : B.Nodup) (hs : ∀ x ∈ A, x ∈ B) (hl : A.length = B.length) : A.Perm B := by
  have key : ∀ {A B : List Nat}, A.Nodup → (∀ x ∈ A, x ∈ B) → A.length ≤ B.length := fun {A} => by
    induction A with
    | nil => intro B _ _; simp
    | cons a A ih =>
      intro B hA hs
      rw [List.nodup_cons] at hA
      have h1 := ih (B := B.erase a) hA.2 fun x hx => (List.mem_erase_of_ne (a := x) (b := a) fun e => hA.1 (e ▸ hx)).2 (hs x (by simp [hx]))
      have h2 := List.length_erase_of_mem (hs a (by simp))
      have h3 := List.length_pos_of_mem (hs a (by simp))
      simp only [List.length_cons]
      omega
  refine (List.perm_ext_iff_of_nodup hA hB).2 fun x => ⟨hs x, fun hx => Classical.byContradiction fun hn => ?_⟩
  have := key (A := x :: A) (B := B) (List.nodup_cons.2 ⟨hn, hA⟩) fun y hy => by
    rcases List.mem_cons.1 hy with rfl | hy
    · exact hx
    · exact hs y hy
  simp only [List.length_cons] at this
  omega
/-- Hall's multipliers. -/
theorem hall {v l n p : Nat} {D : List Nat} (hv : 2 ≤ v) (hD : Pts v D) (hL : DLev v D l) (hn : D.length = l + n) (h0 : 0 < n) (hp : PrN p) (hlp : l < p) (hpn : n % p = 0) (hvp : v % p ≠ 0) :
    ∃ g, g < v ∧ (D.map fun d => (p * d) % v).Perm (D.map fun d => (d + g) % v) := by
  have hc := hp.cop hvp
  have hp2 := hp.1
  have ht : ∀ g, tG v p D g = l + p * (tG v p D g / p) := fun g => by
    have h1 := tG_mod hD hL hn hp hpn g
    rw [Nat.mod_eq_of_lt hlp] at h1
    have h2 := Nat.mod_add_div (tG v p D g) p
    omega
  generalize hs : (fun g => tG v p D g / p) = s at *
  have hs1 : ∀ g, tG v p D g / p = s g := fun g => by rw [← hs]
  have ht1 : ∀ g, tG v p D g = l + p * s g := fun g => by rw [← hs1]; exact ht g
  have c1 := lev_count (by omega) hD hL
  have c2 := tG_total (p := p) (by omega) hD
  have c3 := tG_sq (by omega) hD hL hn hc
  rw [dS_congr fun g _ => ht1 g, dS_add, dS_const, dS_mul, List.length_range] at c2
  have e3 : (dS (List.range v) fun g => tG v p D g * tG v p D g) = v * (l * l) + 2 * l * p * dS (List.range v) s + p * p * dS (List.range v) fun g => s g * s g := by
    rw [dS_congr (g := fun g => l * l + 2 * l * p * s g + p * p * (s g * s g)) fun g _ => by rw [ht1 g]; grind]
    rw [dS_add, dS_add, dS_const, dS_mul, dS_mul, List.length_range]
  rw [e3] at c3
  generalize hS : dS (List.range v) s = S at *
  generalize hQ : (dS (List.range v) fun g => s g * s g) = Q at *
  have hk0 : l + n = D.length := hn.symm
  generalize hkk : D.length = k at *
  obtain ⟨u, rfl⟩ : ∃ u, v = u + 1 := ⟨v - 1, by omega⟩
  rw [Nat.add_sub_cancel] at c1
  have e4 : p * S = n := by
    have : (u + 1) * l = l * u + l := by rw [Nat.add_mul, Nat.one_mul, Nat.mul_comm]
    omega
  have e5 : p * p * Q = n * n := by subst hn; grind
  have e6 : Q = S * S := by
    have : p * p * Q = p * p * (S * S) := by rw [e5, ← e4]; grind
    exact Nat.eq_of_mul_eq_mul_left (Nat.mul_pos (by omega) (by omega)) this
  have hS0 : 0 < S := by
    rcases Nat.eq_zero_or_pos S with h | h
    · rw [h, Nat.mul_zero] at e4; omega
    · exact h
  obtain ⟨g, hg, hg2⟩ := dS_sq_one (f := s) (l := List.range (u + 1)) (by rw [hS, hQ]; exact e6) (by rw [hS]; exact hS0)
  rw [hS] at hg2
  have hg := List.mem_range.1 hg
  have hk : tG (u + 1) p D g = D.length := by rw [ht1 g, hg2, e4, hk0, hkk]
  have hall : ∀ d ∈ D, D.contains ((p * d + (u + 1 - g)) % (u + 1)) = true := List.countP_eq_length.1 hk
  refine ⟨g, hg, perm_sub (nodup_map hD.nd fun a ha b hb => mul_inj hc (hD.lt a ha) (hD.lt b hb)) (nodup_map hD.nd fun a ha b hb h => ?_) (fun x hx => ?_) (by simp)⟩
  · rw [Nat.add_comm a, Nat.add_comm b] at h
    have := hD.lt a ha
    have := hD.lt b hb
    exact mod_inj h (by omega) (by omega)
  · obtain ⟨d, hd, rfl⟩ := List.mem_map.1 hx
    refine List.mem_map.2 ⟨_, by simpa using hall d hd, ?_⟩
    show ((p * d + (u + 1 - g)) % (u + 1) + g) % (u + 1) = _
    rw [Nat.mod_add_mod, show p * d + (u + 1 - g) + g = p * d + (u + 1) by omega, Nat.add_mod_right]
end Go.Proofs.YtlmjlffipinjiabDoor

namespace Go.Proofs.YtlmjlffipinjiabDoor

theorem me_range {v : Nat} {D : List Nat} (hD : Pts v D) (c : Nat) : me v D c = dS (List.range v) fun b => if D.contains b = true then (if D.contains ((b + c) % v) = true then 1 else 0) else 0 := by
  unfold me
  rw [dS_in hD, dS_count]
theorem oth_contains {v x : Nat} {D : List Nat} (hx : x < v) : (oth v D).contains x = !D.contains x := by
  rw [Bool.eq_iff_iff, List.contains_iff_mem, oth_mem]
  simp [hx]
/-- What is left out. -/
theorem me_oth {v : Nat} {D : List Nat} (hv : 0 < v) (hD : Pts v D) (c : Nat) : me v (oth v D) c + 2 * D.length = v + me v D c := by
  have e1 : dS (List.range v) (fun b => (if (oth v D).contains b = true then (if (oth v D).contains ((b + c) % v) = true then 1 else 0) else 0) + (if D.contains b = true then 1 else 0) + if D.contains ((c + b) % v) = true then 1 else 0) = dS (List.range v) fun b => 1 + if D.contains b = true then (if D.contains ((b + c) % v) = true then 1 else 0) else 0 := dS_congr fun b hb => by
    rw [oth_contains (List.mem_range.1 hb), oth_contains (Nat.mod_lt _ hv), Nat.add_comm c b]
    cases D.contains b <;> cases D.contains ((b + c) % v) <;> rfl
  rw [dS_add, dS_add, dS_add, dS_const, ← me_range (oth_pts v D), ← me_range hD, dS_shift hv c fun x => if D.contains x = true then 1 else 0, cnt_k hD, List.length_range] at e1
  omega
theorem lev_rest {v l : Nat} {D : List Nat} (hv : 0 < v) (hD : Pts v D) (hL : DLev v D l) : ∃ m, DLev v (oth v D) m ∧ (2 ≤ v → m + 2 * D.length = v + l) := by
  refine ⟨v + l - 2 * D.length, fun c hc => ?_, fun h2 => ?_⟩
  · have := me_oth hv hD c
    rw [hL c hc] at this
    omega
  · have := me_oth hv hD 1
    rw [hL 1 (by rw [Nat.mod_eq_of_lt (by omega)]; omega)] at this
    omega
theorem lev_perm {v l : Nat} {D E : List Nat} (h : D.Perm E) (hL : DLev v D l) : DLev v E l := fun c hc => by
  rw [← hL c hc]
  unfold me
  rw [h.countP_eq]
  congr 1
  funext b
  rw [Bool.eq_iff_iff, List.contains_iff_mem, List.contains_iff_mem, h.mem_iff]
/-- Each number is some other times t. -/
theorem mul_onto {v t : Nat} (hv : 0 < v) (hc : Nat.Coprime t v) (c : Nat) : ∃ d, d < v ∧ (t * d) % v = c % v := by
  have hp : ((List.range v).map fun x => (t * x) % v).Perm (List.range v) := perm_full ⟨nodup_map List.nodup_range fun a ha b hb => mul_inj hc (List.mem_range.1 ha) (List.mem_range.1 hb), fun x hx => by
    obtain ⟨y, _, rfl⟩ := List.mem_map.1 hx
    exact Nat.mod_lt _ hv⟩ (by simp)
  obtain ⟨d, hd, e⟩ := List.mem_map.1 (hp.mem_iff.2 (List.mem_range.2 (Nat.mod_lt c hv)))
  exact ⟨d, List.mem_range.1 hd, e⟩
def mvN (v t s d : Nat) : Nat := (d * t + s) % v
theorem mv_inj {v t s a b : Nat} (hc : Nat.Coprime t v) (ha : a < v) (hb : b < v) (h : mvN v t s a = mvN v t s b) : a = b := by
  unfold mvN at h
  have e1 : ((a * t + s) % v + (v - s % v) ) % v = ((b * t + s) % v + (v - s % v)) % v := by rw [h]
  have key : ∀ a, ((a * t + s) % v + (v - s % v)) % v = (t * a) % v := fun a => by
    have hs : s % v < v := Nat.mod_lt _ (by omega)
    have h1 := Nat.mod_add_div s v
    rw [Nat.mod_add_mod, show a * t + s + (v - s % v) = a * t + v * (s / v + 1) by rw [Nat.mul_add, Nat.mul_one]; omega, Nat.add_mul_mod_self_left, Nat.mul_comm]
  rw [key, key] at e1
  exact mul_inj hc ha hb e1
theorem mv_pts {v t s : Nat} {D : List Nat} (hv : 0 < v) (hD : Pts v D) (hc : Nat.Coprime t v) : Pts v (D.map (mvN v t s)) :=
  ⟨nodup_map hD.nd fun a ha b hb => mv_inj hc (hD.lt a ha) (hD.lt b hb), fun x hx => by
    obtain ⟨y, _, rfl⟩ := List.mem_map.1 hx
    exact Nat.mod_lt _ hv⟩
/-- What is multiplied and moved. -/
theorem lev_moved {v t s l : Nat} {D : List Nat} (hv : 0 < v) (hD : Pts v D) (hc : Nat.Coprime t v) (hL : DLev v D l) : DLev v (D.map (mvN v t s)) l := fun c hc0 => by
  obtain ⟨d, _, hd2⟩ := mul_onto hv hc c
  have hd0 : d % v ≠ 0 := fun h => hc0 (by rw [← hd2, Nat.mul_mod, h, Nat.mul_zero, Nat.zero_mod])
  rw [← hL d hd0]
  unfold me
  rw [List.countP_map]
  refine List.countP_congr fun b hb => ?_
  have e : (mvN v t s b + c) % v = mvN v t s ((b + d) % v) := by
    unfold mvN
    rw [Nat.mod_add_mod, ← Nat.add_mod_mod, ← hd2, Nat.add_mod_mod]
    have h1 : ((b + d) % v * t + s) % v = ((b + d) * t + s) % v := by
      rw [Nat.add_mod ((b + d) % v * t), Nat.mul_mod, Nat.mod_mod, ← Nat.mul_mod, ← Nat.add_mod]
    rw [h1, Nat.add_mul, Nat.mul_comm d t]
    congr 1
    omega
  show (D.map (mvN v t s)).contains ((mvN v t s b + c) % v) = true ↔ _
  rw [e, List.contains_iff_mem, List.contains_iff_mem]
  constructor
  · intro h
    obtain ⟨x, hx, e2⟩ := List.mem_map.1 h
    exact mv_inj hc (hD.lt x hx) (Nat.mod_lt _ hv) e2 ▸ hx
  · exact fun h => List.mem_map.2 ⟨_, h, rfl⟩
/-- What is developed. -/
theorem lev_dev {v l : Nat} {D : List Nat} (hv : 0 < v) (hD : Pts v D) (hL : DLev v D l) {B : List (List Nat)} (hB : B.length = v) (h : ∀ i, i < v → (B.getD i []).Perm (D.map (mvN v 1 i))) : Lev v B 2 l := fun q hq h2 => by
  obtain ⟨x, y, rfl⟩ : ∃ x y, q = [x, y] := by
    match q, h2 with
    | [x, y], _ => exact ⟨x, y, rfl⟩
  have hx := hq.lt x (by simp)
  have hy := hq.lt y (by simp)
  have hn : x ≠ y := by have := hq.nd; simpa using this
  have hin : ∀ i, i < v → ∀ z, z < v → ((B.getD i []).contains z = D.contains ((1 * z + (v - i)) % v)) := fun i hi z hz => by
    rw [Bool.eq_iff_iff, List.contains_iff_mem, List.contains_iff_mem, (h i hi).mem_iff, Nat.one_mul]
    constructor
    · intro hm
      obtain ⟨d, hd, rfl⟩ := List.mem_map.1 hm
      unfold mvN
      rw [Nat.mod_add_mod, show d * 1 + i + (v - i) = d + v by omega, Nat.add_mod_right, Nat.mod_eq_of_lt (hD.lt d hd)]
      exact hd
    · intro hm
      refine List.mem_map.2 ⟨_, hm, ?_⟩
      unfold mvN
      rw [Nat.mul_one, Nat.mod_add_mod, show z + (v - i) + i = z + v by omega, Nat.add_mod_right, Nat.mod_eq_of_lt hz]
  have e0 : B = (List.range v).map fun i => B.getD i [] := by
    refine List.ext_getElem (by simp [hB]) fun i h1 h2 => ?_
    rw [List.getElem_map, List.getElem_range, List.getD_eq_getElem?_getD, List.getElem?_eq_getElem h1]
    rfl
  have e1 : nb B [x, y] = me v D (1 * y + 1 * (v - x)) := by
    rw [← tG_pair hv hD hx y]
    unfold nb
    rw [e0, List.countP_map, dS_cnt]
    refine dS_congr fun i hi => ?_
    have hi := List.mem_range.1 hi
    show (if ([x, y].all fun z => (B.getD i []).contains z) = true then 1 else 0) = _
    simp only [List.all_cons, List.all_nil, Bool.and_true]
    rw [hin i hi x hx, hin i hi y hy]
    cases D.contains ((1 * x + (v - i)) % v) <;> cases D.contains ((1 * y + (v - i)) % v) <;> rfl
  rw [e1]
  exact hL _ fun g => hn ((zero_iff (Nat.coprime_one_left v) hx hy).1 g)
end Go.Proofs.YtlmjlffipinjiabDoor

namespace Go.Proofs.YtlmjlffipinjiabDoor

/-- A set of numbers modulo v. -/
structure GoodS (v : Nat) (D : List Nat) : Prop where
  pos : 1 ≤ v
  le : v ≤ 60
  rise : D.Pairwise (· < ·)
  lt : ∀ x ∈ D, x < v
theorem GoodS.pts {v : Nat} {D : List Nat} (h : GoodS v D) : Pts v D := rise_pts h.rise h.lt
theorem GoodS.len {v : Nat} {D : List Nat} (h : GoodS v D) : D.length ≤ v := h.pts.le
/-- The differences, as they come. -/
def dfL (v : Nat) (D l : List Nat) : List Nat := l.flatMap fun x => D.map fun y => (x + v - y) % v
def dfN (v : Nat) (D : List Nat) (c : Nat) : Nat := (dfL v D D).count c
theorem dfL_dS (v : Nat) (D : List Nat) (c : Nat) : ∀ l : List Nat, (dfL v D l).count c = dS l fun x => dS D fun y => if (x + v - y) % v = c then 1 else 0
  | [] => rfl
  | x :: l => by
    rw [dfL, List.flatMap_cons, List.count_append, dS_cons, ← dfL_dS v D c l, dfL, List.count_eq_countP, List.countP_map, dS_cnt]
    congr 2
    funext y
    simp
theorem df_one {v x y c : Nat} (hv : 0 < v) (hx : x < v) (hy : y < v) (hc : c < v) : (x + v - y) % v = c ↔ x = (y + c) % v := by
  constructor
  · rintro rfl
    rcases Nat.lt_or_ge x y with h | h
    · rw [Nat.mod_eq_of_lt (a := x + v - y) (by omega), show y + (x + v - y) = x + v by omega, Nat.add_mod_right, Nat.mod_eq_of_lt hx]
    · rw [show x + v - y = (x - y) + v by omega, Nat.add_mod_right, Nat.mod_eq_of_lt (a := x - y) (by omega), show y + (x - y) = x by omega, Nat.mod_eq_of_lt hx]
  · rintro rfl
    rcases Nat.lt_or_ge (y + c) v with h | h
    · rw [Nat.mod_eq_of_lt h, show y + c + v - y = c + v by omega, Nat.add_mod_right, Nat.mod_eq_of_lt hc]
    · rw [Nat.mod_eq_sub_mod h, Nat.mod_eq_of_lt (a := y + c - v) (by omega), show y + c - v + v - y = c by omega, Nat.mod_eq_of_lt hc]
theorem df_me {v : Nat} {D : List Nat} (hv : 0 < v) (hD : Pts v D) {c : Nat} (hc : c < v) : dfN v D c = me v D c := by
  rw [dfN, dfL_dS, dS_swap, me, dS_cnt]
  refine dS_congr fun y hy => ?_
  have hy' := hD.lt y hy
  rw [show (dS D fun x => if (x + v - y) % v = c then 1 else 0) = D.count ((y + c) % v) from ?_]
  · rw [hD.nd.count]
    simp
  · rw [List.count_eq_countP, dS_cnt]
    refine dS_congr fun x hx => ?_
    have := df_one hv (hD.lt x hx) hy' hc
    by_cases e : x = (y + c) % v
    · rw [if_pos (this.2 e), if_pos (by simpa using e)]
    · rw [if_neg fun h => e (this.1 h), if_neg (by simpa using e)]
theorem df_over {v : Nat} {D : List Nat} (hv : 0 < v) {c : Nat} (hc : v ≤ c) : dfN v D c = 0 := by
  rw [dfN, List.count_eq_zero]
  intro h
  obtain ⟨x, _, hx⟩ := List.mem_flatMap.1 h
  obtain ⟨y, _, rfl⟩ := List.mem_map.1 hx
  have := Nat.mod_lt (x + v - y) hv
  omega
theorem dfL_len (v : Nat) (D : List Nat) : ∀ l : List Nat, (dfL v D l).length = l.length * D.length
  | [] => by simp [dfL]
  | x :: l => by
    have := dfL_len v D l
    rw [dfL] at this ⊢
    rw [List.flatMap_cons, List.length_append, this, List.length_map, List.length_cons, Nat.add_mul, Nat.one_mul, Nat.add_comm]
/-- Are all differences there equally often? -/
def lvB (v : Nat) (D : List Nat) : Bool := (List.range v).all fun s => decide (s < 2) || dfN v D s == dfN v D 1
theorem lvB_iff {v : Nat} {D : List Nat} : lvB v D = true ↔ ∀ s, 2 ≤ s → s < v → dfN v D s = dfN v D 1 := by
  unfold lvB
  rw [List.all_eq_true]
  constructor
  · intro h s h1 h2
    have := h s (List.mem_range.2 h2)
    rw [decide_eq_false (by omega), Bool.false_or] at this
    exact eq_of_beq this
  · intro h s hs
    by_cases h2 : s < 2
    · simp [h2]
    · rw [h s (by omega) (List.mem_range.1 hs)]
      simp
theorem lvB_lev {v : Nat} {D : List Nat} (hv : 0 < v) (hD : Pts v D) (h : lvB v D = true) : DLev v D (dfN v D 1) := fun c hc => by
  have hlt := Nat.mod_lt c hv
  rw [← me_mod, ← df_me hv hD hlt]
  by_cases e : c % v = 1
  · rw [e]
  · exact lvB_iff.1 h _ (by omega) hlt
theorem lev_lvB {v l : Nat} {D : List Nat} (hv : 0 < v) (hD : Pts v D) (h : DLev v D l) : lvB v D = true ∧ (2 ≤ v → dfN v D 1 = l) := by
  have key : ∀ s, 1 ≤ s → s < v → dfN v D s = l := fun s h1 h2 => by
    rw [df_me hv hD h2]
    exact h s (by rw [Nat.mod_eq_of_lt h2]; omega)
  exact ⟨lvB_iff.2 fun s h1 h2 => by rw [key s (by omega) h2, key 1 (by omega) (by omega)], fun h2 => key 1 (by omega) (by omega)⟩

/-- Which numbers a set has behind t times and s more. -/
def imF (v : Nat) (D : List Nat) (t s x : Nat) : Bool := (D.map (mvN v t s)).contains x
def imL (v : Nat) (D : List Nat) (t s : Nat) : List Nat := (List.range 60).filter (imF v D t s)
theorem filter_s3 {E : List Nat} {n : Nat} (h : Pts n E) (hn : n ≤ 60) : (List.range 60).filter (fun x => E.contains x) = s3 E := by
  refine s3_of ?_ ?_
  · exact (Pts.filter (v := 60) ⟨h.nd, fun x hx => Nat.lt_of_lt_of_le (h.lt x hx) hn⟩)
  · exact (List.pairwise_le_range.sublist List.filter_sublist)
theorem imL_s3 {v t s : Nat} {D : List Nat} (hG : GoodS v D) (hc : Nat.Coprime t v) : imL v D t s = s3 (D.map (mvN v t s)) :=
  filter_s3 (mv_pts hG.pos hG.pts hc) hG.le
theorem imF_lt {v t s x : Nat} {D : List Nat} (hv : 0 < v) (h : imF v D t s x = true) : x < v := by
  unfold imF at h
  obtain ⟨d, _, rfl⟩ := List.mem_map.1 (List.contains_iff_mem.1 h)
  exact Nat.mod_lt _ hv
/-- Does it multiply? -/
def muB (v : Nat) (D : List Nat) (t : Nat) : Bool := (List.range v).any fun s => (List.range 60).all fun x => imF v D t 0 x == imF v D 1 s x
def muL (v : Nat) (D : List Nat) : List Nat := (List.range v).filter fun t => decide (1 ≤ t) && (decide (Nat.gcd t v = 1) && muB v D t)
theorem same_im {v t s : Nat} {D : List Nat} (hG : GoodS v D) (hc : Nat.Coprime t v) : ((List.range 60).all fun x => imF v D t 0 x == imF v D 1 s x) = true ↔ s3 (D.map (mvN v 1 s)) = s3 (D.map (mvN v t 0)) := by
  rw [← imL_s3 hG hc, ← imL_s3 hG (Nat.coprime_one_left v), List.all_eq_true]
  constructor
  · intro h
    exact List.filter_congr fun x hx => (eq_of_beq (h x hx)).symm
  · intro h x hx
    have hm : x ∈ imL v D 1 s ↔ x ∈ imL v D t 0 := by rw [h]
    unfold imL at hm
    rw [List.mem_filter, List.mem_filter] at hm
    have : imF v D 1 s x = true ↔ imF v D t 0 x = true := ⟨fun k => (hm.1 ⟨hx, k⟩).2, fun k => (hm.2 ⟨hx, k⟩).2⟩
    rw [beq_iff_eq]
    exact (Bool.eq_iff_iff.2 this).symm
theorem muB_iff {v t : Nat} {D : List Nat} (hG : GoodS v D) (hc : Nat.Coprime t v) : muB v D t = true ↔ ∃ s, s < v ∧ s3 (D.map (mvN v 1 s)) = s3 (D.map (mvN v t 0)) := by
  unfold muB
  rw [List.any_eq_true]
  constructor
  · rintro ⟨s, hs, h⟩
    exact ⟨s, List.mem_range.1 hs, (same_im hG hc).1 h⟩
  · rintro ⟨s, hs, h⟩
    exact ⟨s, List.mem_range.2 hs, (same_im hG hc).2 h⟩
theorem hall_mu {v l n p : Nat} {D : List Nat} (hv : 2 ≤ v) (hG : GoodS v D) (hL : DLev v D l) (hn : D.length = l + n) (h0 : 0 < n) (hp : PrN p) (hlp : l < p) (hpn : n % p = 0) (hvp : v % p ≠ 0) : p % v ∈ muL v D := by
  have hc : Nat.Coprime p v := hp.cop hvp
  have hcm : Nat.gcd (p % v) v = 1 := by rw [← Nat.gcd_rec, Nat.gcd_comm]; exact hc
  have h1 : 1 ≤ p % v := by
    rcases Nat.eq_zero_or_pos (p % v) with e | h
    · rw [e, Nat.gcd_zero_left] at hcm; omega
    · exact h
  obtain ⟨g, hg, hP⟩ := hall hv hG.pts hL hn h0 hp hlp hpn hvp
  unfold muL
  rw [List.mem_filter]
  refine ⟨List.mem_range.2 (Nat.mod_lt _ (by omega)), ?_⟩
  rw [Bool.and_eq_true, Bool.and_eq_true]
  refine ⟨decide_eq_true h1, decide_eq_true hcm, (muB_iff hG hcm).2 ⟨g, hg, ?_⟩⟩
  refine s3_congr ?_
  have e1 : (D.map (mvN v 1 g)) = D.map fun d => (d + g) % v := List.map_congr_left fun d _ => by rw [mvN, Nat.mul_one]
  have e2 : (D.map (mvN v (p % v) 0)) = D.map fun d => (p * d) % v := List.map_congr_left fun d _ => by rw [mvN, Nat.add_zero, Nat.mul_mod_mod, Nat.mul_comm]
  rw [e1, e2]
  exact hP.symm

end Go.Proofs.YtlmjlffipinjiabDoor

namespace Go.Proofs.YtlmjlffipinjiabDoor
open Go.RowKit

/-- Does a list rise? -/
def riB (b : List Int) : Bool := (List.range b.length).all fun j => decide (j = 0 ∨ b.getD (j - 1) 0 < b.getD j 0)
theorem riB_yes {b : List Int} (h : ∀ j, 1 ≤ j → j < b.length → b.getD (j - 1) 0 < b.getD j 0) : riB b = true := by
  unfold riB
  rw [List.all_eq_true]
  intro j hj
  rw [decide_eq_true_eq]
  by_cases e : j = 0
  · exact .inl e
  · exact .inr (h j (by omega) (List.mem_range.1 hj))
theorem riB_no {b : List Int} {j : Nat} (h1 : 1 ≤ j) (hj : j < b.length) (h : b.getD j 0 ≤ b.getD (j - 1) 0) : riB b = false := by
  rw [Bool.eq_false_iff]
  intro k
  have := List.all_eq_true.1 k j (List.mem_range.2 hj)
  rw [decide_eq_true_eq] at this
  omega
theorem bF_riB {p : Int} {b : List Int} (h : ∀ j, j < b.length → 0 ≤ b.getD j 0 ∧ b.getD j 0 < p) : bF p b = if riB b = true then 0 else 2 := bF_in h
/-- What is wrong with a set. -/
def sF (v : Int) (l : List Int) : Nat := if v < 1 ∨ 60 < v then 1 else bF v l
theorem sF_good {v : Int} {l : List Int} (h : sF v l = 0) : ∃ (V : Nat) (D : List Nat), v = V ∧ l = D.map Int.ofNat ∧ GoodS V D := by
  unfold sF at h
  split at h
  · cases h
  · rename_i h1
    obtain ⟨V, rfl⟩ : ∃ V : Nat, v = V := ⟨v.toNat, by omega⟩
    obtain ⟨a, c⟩ := bF_zero h
    obtain ⟨r1, r2⟩ := toNat_rs (lo := 0) (fun j hj => by have := a j hj; omega) c
    obtain ⟨r3, r4⟩ := rs_iff.1 r1
    exact ⟨V, l.map Int.toNat, rfl, r2.symm, by omega, by omega, r3, fun x hx => (r4 x hx).2⟩
theorem sF_of {v : Nat} {D : List Nat} (h : GoodS v D) : sF (v : Int) (D.map Int.ofNat) = 0 := by
  unfold sF
  have h1 := h.pos
  have h2 := h.le
  rw [if_neg (by omega)]
  have hat : ∀ j, j < D.length → (D.map Int.ofNat).getD j 0 = ((D.getD j 0 : Nat) : Int) := fun j hj => by
    rw [List.getD_eq_getElem?_getD, List.getD_eq_getElem?_getD, List.getElem?_map, List.getElem?_eq_getElem hj]; rfl
  have hD : ∀ j (hj : j < D.length), D.getD j 0 = D[j] := fun j hj => by rw [List.getD_eq_getElem?_getD, List.getElem?_eq_getElem hj]; rfl
  refine bF_ok (fun j hj => ?_) (fun j hj1 hj => ?_)
  · rw [List.length_map] at hj
    rw [hat j hj, hD j hj]
    have := h.lt _ (List.getElem_mem hj)
    omega
  · rw [List.length_map] at hj
    rw [hat j hj, hat (j - 1) (by omega), hD j hj, hD (j - 1) (by omega)]
    have := List.pairwise_iff_getElem.1 h.rise (j - 1) j (by omega) hj (by omega)
    omega
set_option maxRecDepth 100000 in
set_option maxHeartbeats 4000000 in
theorem rises_any (b : List Int) (u : Value) (w : World) (hu : Sl w u b) (hbl : b.length ≤ maxLen) :
    Calls Tryd.prog 54 #[u] w fun e w' => e = .returned (.bool (riB b)) ∧ Below w.heap.size w w' := by
  unfold maxLen at hbl
  obtain ⟨ua, uc, rfl, hub⟩ := hu
  have HUB : Hid (∀ j, j < b.length → ∃ g o, ua = some ⟨g, o, none⟩ ∧ ∀ W, Below w.heap.size w W → W.cell? ⟨g, o + j, none⟩ = some (.int .i64 (b.getD j 0))) := fun j hj => by
    obtain ⟨g, o, e, hc⟩ := hub j hj
    exact ⟨g, o, e, fun W bW => (bW.cell (World.block_lt_of_cell? _ _ hc)).trans hc⟩
  obtain ⟨w1, Hw1⟩ : ∃ w1 : World, Hid (w1 = w) := ⟨_, rfl⟩
  rw [← Hw1.out] at HUB
  obtain ⟨z, HZ⟩ : ∃ z, Hid (riB b = z) := ⟨_, rfl⟩
  rw [HZ.out]
  generalize hbn : b.length = bn at *
  clear hub
  go_enter Tryd.func54, Tryd.ntmps54
  go_wp2
  go_loopw [3] (fun jv wr' => ∃ k : Nat, jv = .int .i64 (k : Int) ∧ 1 ≤ k ∧ (k ≤ bn ∨ k = 1) ∧ Hid (∀ m, 1 ≤ m → m < k → m < bn → b.getD (m - 1) 0 < b.getD m 0) ∧ Below w1.heap.size w1 wr') (fun jv _ => (bn + 1 - intOf jv).toNat)
  case atStart => exact ⟨1, rfl, by omega, .inr rfl, (show ∀ m, 1 ≤ m → m < 1 → _ from fun m h h' => by omega), by rw [Hw1.out]; exact Below.refl _ _⟩
  case round =>
    obtain ⟨k, rfl, hk1, hkj, HK, hB3⟩ := hrel
    by_cases hlk : k < bn
    · have hdk : decide ((k : Int) < (bn : Int)) = true := by simp; omega
      have hki : (k : Int) < (bn : Int) := by omega
      obtain ⟨k', Hk'⟩ : ∃ k', Hid (k = k' + 1) := ⟨k - 1, (by omega : k = k - 1 + 1)⟩
      have hsub : (k : Int) - 1 = (k' : Int) := by have := Hk'.out; omega
      have hk'i : (k' : Int) < (bn : Int) := by have := Hk'.out; omega
      obtain ⟨g, o, rfl, hc0⟩ := HUB.out k hlk
      obtain ⟨g2, o2, e2, hc1⟩ := HUB.out k' (by have := Hk'.out; omega)
      obtain ⟨rfl, rfl⟩ : g = g2 ∧ o = o2 := by
        simp only [Option.some.injEq, Addr.mk.injEq] at e2
        exact ⟨e2.1, e2.2.1⟩
      have hck := hc0 _ hB3
      have hck' := hc1 _ hB3
      obtain ⟨x, Hx⟩ : ∃ x, Hid (x = b.getD k 0) := ⟨_, (rfl : b.getD k 0 = b.getD k 0)⟩
      obtain ⟨y, Hy⟩ : ∃ y, Hid (y = b.getD k' 0) := ⟨_, (rfl : b.getD k' 0 = b.getD k' 0)⟩
      rw [← Hx.out] at hck
      rw [← Hy.out] at hck'
      clear e2 hc0 hc1
      by_cases hle : x ≤ y
      · have hb1 : riB b = false := riB_no hk1 (by omega) (by rw [← Hx.out, show k - 1 = k' by have := Hk'.out; omega, ← Hy.out]; exact hle)
        obtain rfl : z = false := by rw [← HZ.out, hb1]
        have hdx : decide (x ≤ y) = true := decide_eq_true hle
        clear hle hb1
        go_wp2
        go_quiet (fail)
        go_wp2
        go_ret
        exact ⟨rfl, by rw [← Hw1.out]; exact bdrewN hB3 _⟩
      · have hdx : decide (x ≤ y) = false := decide_eq_false hle
        have HK2 : Hid (∀ m, 1 ≤ m → m < k + 1 → m < bn → b.getD (m - 1) 0 < b.getD m 0) := fun m h1 h2 h3 => by
          by_cases e : m = k
          · subst e; rw [show m - 1 = k' by have := Hk'.out; omega, ← Hx.out, ← Hy.out]; omega
          · exact HK.out m h1 (by omega) h3
        clear hle HK
        go_wp2
        go_quiet (fail)
        go_wp2
        go_roundw
        case rel => exact ⟨k + 1, by go_num, by omega, .inl (by omega), HK2, bdrewN hB3 _⟩
        case measure => simp [intOf]; omega
    · have hdk : decide ((k : Int) < (bn : Int)) = false := by simp; omega
      have hb0 : riB b = true := riB_yes (fun m h1 h2 => HK.out m h1 (by omega) (by omega))
      obtain rfl : z = true := by rw [← HZ.out, hb0]
      clear hb0
      go_wp2
      go_ret
      exact ⟨rfl, by rw [← Hw1.out]; exact hB3⟩
set_option maxRecDepth 100000 in
set_option maxHeartbeats 4000000 in
theorem Check_far (p : Int) (u : Value) (w : World) (n c : Nat) (a : Option Addr) (hu : u = .slice a n c) (h : p < 1 ∨ 60 < p) : Calls Tryd.prog 21 #[.int .i64 p, u] w fun e w' => e = .returned (.int .i64 1) ∧ Below w.heap.size w w' := by
  subst hu
  by_cases h1 : p < 1
  · have d1 : decide (p < 1) = true := decide_eq_true h1
    clear h h1
    go_enter Tryd.func21, Tryd.ntmps21
    go_wp2
    go_ret
    exact ⟨rfl, Below.refl _ _⟩
  · have d1 : decide (p < 1) = false := decide_eq_false h1
    have h2 : 60 < p := by omega
    have d2 : decide (60 < p) = true := decide_eq_true h2
    clear h h1 h2
    go_enter Tryd.func21, Tryd.ntmps21
    go_wp2
    go_ret
    exact ⟨rfl, Below.refl _ _⟩
set_option maxRecDepth 100000 in
set_option maxHeartbeats 4000000 in
theorem Check_near (p : Int) (b : List Int) (u : Value) (w : World) (hu : Sl w u b) (hbl : b.length ≤ maxLen) (h1 : 1 ≤ p) (h2 : p ≤ 60) :
    Calls Tryd.prog 21 #[.int .i64 p, u] w fun e w' => e = .returned (.int .i64 (bF p b : Int)) ∧ Below w.heap.size w w' := by
  have HR : Hid (∀ W, Below w.heap.size w W → Calls Tryd.prog 54 #[u] W fun e w' => e = .returned (.bool (riB b)) ∧ Below W.heap.size W w') := fun W bW => rises_any b u W (hu.below bW) hbl
  unfold maxLen at hbl
  obtain ⟨ua, uc, rfl, hub⟩ := hu
  have HUB : Hid (∀ j, j < b.length → ∃ g o, ua = some ⟨g, o, none⟩ ∧ ∀ W, Below w.heap.size w W → W.cell? ⟨g, o + j, none⟩ = some (.int .i64 (b.getD j 0))) := fun j hj => by
    obtain ⟨g, o, e, hc⟩ := hub j hj
    exact ⟨g, o, e, fun W bW => (bW.cell (World.block_lt_of_cell? _ _ hc)).trans hc⟩
  obtain ⟨w1, Hw1⟩ : ∃ w1 : World, Hid (w1 = w) := ⟨_, rfl⟩
  rw [← Hw1.out] at HUB
  rw [← Hw1.out] at HR
  obtain ⟨z, HZ⟩ : ∃ z, Hid (bF p b = z) := ⟨_, rfl⟩
  rw [HZ.out]
  generalize hbn : b.length = bn at *
  have d1 : decide (p < 1) = false := by simp; omega
  have d2 : decide (60 < p) = false := by simp; omega
  clear hub
  go_enter Tryd.func21, Tryd.ntmps21
  go_wp2
  go_loopw [15] (fun jv wr' => ∃ j : Nat, jv = .int .i64 (j : Int) ∧ j ≤ bn ∧ Hid (∀ m, m < j → 0 ≤ b.getD m 0 ∧ b.getD m 0 < p) ∧ Below w1.heap.size w1 wr') (fun jv _ => (bn - intOf jv).toNat)
  case atStart => exact ⟨0, rfl, by omega, (show ∀ m, m < 0 → _ from fun m h => by omega), by rw [Hw1.out]; exact Below.refl _ _⟩
  case round =>
    obtain ⟨j, rfl, hj, HJ, hB2⟩ := hrel
    by_cases hlj : j < bn
    · have hdj : decide ((j : Int) < (bn : Int)) = true := by simp; omega
      have hji : (j : Int) < (bn : Int) := by omega
      obtain ⟨g, o, rfl, hcj0⟩ := HUB.out j hlj
      have hcj := hcj0 _ hB2
      obtain ⟨x, Hx⟩ : ∃ x, Hid (x = b.getD j 0) := ⟨_, (rfl : b.getD j 0 = b.getD j 0)⟩
      rw [← Hx.out] at hcj
      by_cases hneg : x < 0
      · have hb1 : bF p b = 1 := bF_out (j := j) (by omega) (by rw [← Hx.out]; omega)
        obtain rfl : z = 1 := by rw [← HZ.out, hb1]
        have hdx : decide (x < 0) = true := decide_eq_true hneg
        clear hneg hb1 hcj0
        go_wp2
        go_ret
        exact ⟨rfl, by rw [← Hw1.out]; exact hB2⟩
      · have hdx : decide (x < 0) = false := decide_eq_false hneg
        by_cases hge : p ≤ x
        · have hb1 : bF p b = 1 := bF_out (j := j) (by omega) (by rw [← Hx.out]; omega)
          obtain rfl : z = 1 := by rw [← HZ.out, hb1]
          have hdx2 : decide (p ≤ x) = true := decide_eq_true hge
          clear hneg hge hb1 hcj0
          go_wp2
          go_ret
          exact ⟨rfl, by rw [← Hw1.out]; exact hB2⟩
        · have hdx2 : decide (p ≤ x) = false := decide_eq_false hge
          have HJ2 : Hid (∀ m, m < j + 1 → 0 ≤ b.getD m 0 ∧ b.getD m 0 < p) := fun m hm => by
            by_cases e : m = j
            · subst e; rw [← Hx.out]; omega
            · exact HJ.out m (by omega)
          clear hneg hge HJ hcj0
          go_wp2
          go_roundw
          case rel => exact ⟨j + 1, by go_num, by omega, HJ2, hB2⟩
          case measure => simp [intOf]; omega
    · have hdj : decide ((j : Int) < (bn : Int)) = false := by simp; omega
      obtain rfl : j = bn := by omega
      clear hlj
      have hR := HR.out _ hB2
      have hzz : bF p b = if riB b = true then 0 else 2 := bF_riB (by rw [hbn]; exact HJ.out)
      cases hr : riB b
      · rw [hr] at hR hzz
        obtain rfl : z = 2 := by rw [← HZ.out, hzz]; rfl
        clear hr hzz HR HUB
        go_wp2_with (first
          | (go_at_call 54; refine hR.mono ?_; rintro e w2 ⟨rfl, hb⟩; clear hR)
          | go_in)
        go_ret
        exact ⟨rfl, by rw [← Hw1.out]; exact hB2.trans (hb.mono hB2.size)⟩
      · rw [hr] at hR hzz
        obtain rfl : z = 0 := by rw [← HZ.out, hzz]; rfl
        clear hr hzz HR HUB
        go_wp2_with (first
          | (go_at_call 54; refine hR.mono ?_; rintro e w2 ⟨rfl, hb⟩; clear hR)
          | go_in)
        go_ret
        exact ⟨rfl, by rw [← Hw1.out]; exact hB2.trans (hb.mono hB2.size)⟩

theorem CheckS_any (p : Int) (b : List Int) (u : Value) (w : World) (hu : Sl w u b) (hbl : b.length ≤ maxLen) :
    Calls Tryd.prog 21 #[.int .i64 p, u] w fun e w' => e = .returned (.int .i64 (sF p b : Int)) ∧ Below w.heap.size w w' := by
  by_cases h : p < 1 ∨ 60 < p
  · rw [show sF p b = 1 from if_pos h]
    obtain ⟨a, c, rfl, _⟩ := hu
    exact Check_far p _ w _ c a rfl h
  · rw [show sF p b = bF p b from if_neg h]
    exact Check_near p b u w hu hbl (by omega) (by omega)

end Go.Proofs.YtlmjlffipinjiabDoor
