/- Sets as arrays of truths: the walks of image and list. -/
import Derived.Test.YtcjkcgfohmhbcabDoorDNext
import Derived.Test.YtcjkcgfohmhbcabDoorDPure
import Derived.Test.YtcjkcgfohmhbcabDoorDGo
import Derived.Test.YtcjkcgfohmhbcabDoorDLw
import Derived.Deep.QuietTactic
import Derived.BigQuiet
import Derived.Test.YtcjkcgfohmhbcabDoorDCo
import Derived.Laws.OwnMore
import Derived.Deep.MidRow
import Derived.Deep.RegionHeld3
/- Blocks in order; nothing of the program. -/
namespace Go.Proofs.YtcjkcgfohmhbcabDoor

/-- The points of a block in order. -/
def s3 (l : List Nat) : List Nat := l.mergeSort fun x y => decide (x ≤ y)
theorem s3_perm (l : List Nat) : (s3 l).Perm l := List.mergeSort_perm _ _
theorem s3_len (l : List Nat) : (s3 l).length = l.length := (s3_perm l).length_eq
/-- Blocks that come in order: what they are. -/
structure Ordd (L Z : List (List Nat)) : Prop where
  perm : Z.Perm (L.map s3)
  ord : Z.Pairwise fun a b => ¬ llt b a
theorem Ordd.one {L Z Z' : List (List Nat)} (h3 : ∀ b ∈ L, b.length = 3) (h : Ordd L Z) (h' : Ordd L Z') : Z = Z' := by
  have hl : ∀ b ∈ L.map s3, b.length = 3 := fun b hb => by
    obtain ⟨c, hc, rfl⟩ := List.mem_map.1 hb
    rw [s3_len]; exact h3 c hc
  refine (h.perm.trans h'.perm.symm).eq_of_pairwise (fun a b ha hb h1 h2 => ?_) h.ord h'.ord
  have e : a.length = b.length := by rw [hl a (h.perm.mem_iff.1 ha), hl b (h'.perm.mem_iff.1 hb)]
  rcases llt_tri e with g | g | g
  · exact (h2 g).elim
  · exact g
  · exact (h1 g).elim
theorem Ordd.of {L M Z : List (List Nat)} (h : Ordd L Z) (hp : (L.map s3).Perm (M.map s3)) : Ordd M Z := ⟨h.perm.trans hp, h.ord⟩
theorem Ordd.len {L Z : List (List Nat)} (h : Ordd L Z) : Z.length = L.length := by rw [h.perm.length_eq, List.length_map]
theorem Ordd.mem {L Z : List (List Nat)} (h : Ordd L Z) {b : List Nat} (hb : b ∈ Z) : ∃ c ∈ L, b = s3 c := by
  obtain ⟨c, hc, e⟩ := List.mem_map.1 (h.perm.mem_iff.1 hb)
  exact ⟨c, hc, e.symm⟩

end Go.Proofs.YtcjkcgfohmhbcabDoor

/- The differences of a set, its images, its multipliers; nothing of the program. -/
/- Difference sets: what is left out, moved, multiplied, developed. Nothing of the program. -/
/- Multipliers of difference sets (M. Hall; Ryser): nothing of the program. -/
namespace Go.Proofs.YtcjkcgfohmhbcabDoor

/-- Sums over all lists of m things of D, of what h is at their sum. -/
def tF (D : List Nat) : Nat → (Nat → Nat) → Nat
  | 0, h => h 0
  | m + 1, h => dS D fun d => tF D m fun x => h (x + d)
theorem tF_succ (D : List Nat) (m : Nat) (h : Nat → Nat) : tF D (m + 1) h = dS D fun d => tF D m fun x => h (x + d) := rfl
theorem tF_congr {D : List Nat} : ∀ {m : Nat} {h g : Nat → Nat}, (∀ x, h x = g x) → tF D m h = tF D m g
  | 0, _, _, e => e 0
  | _ + 1, _, _, e => dS_congr fun d _ => tF_congr fun x => e (x + d)
theorem tF_last (D : List Nat) : ∀ (m : Nat) (h : Nat → Nat), tF D (m + 1) h = tF D m fun s => dS D fun d => h (s + d)
  | 0, _ => rfl
  | m + 1, h => by
    rw [tF_succ, dS_congr fun d _ => tF_last D m fun x => h (x + d), tF_succ]
    refine dS_congr fun e _ => tF_congr fun x => dS_congr fun d _ => ?_
    rw [Nat.add_right_comm]
theorem tF_add (D : List Nat) : ∀ (m : Nat) (f g : Nat → Nat), tF D m (fun s => f s + g s) = tF D m f + tF D m g
  | 0, f, g => rfl
  | m + 1, f, g => by rw [tF_succ, tF_succ, tF_succ, ← dS_add]; exact dS_congr fun d _ => tF_add D m _ _
theorem tF_mul (D : List Nat) (c : Nat) : ∀ (m : Nat) (f : Nat → Nat), tF D m (fun s => c * f s) = c * tF D m f
  | 0, f => rfl
  | m + 1, f => by rw [tF_succ, tF_succ, ← dS_mul]; exact dS_congr fun d _ => tF_mul D c m _
theorem tF_const (D : List Nat) (c : Nat) : ∀ m : Nat, tF D m (fun _ => c) = D.length ^ m * c
  | 0 => by simp [tF]
  | m + 1 => by rw [tF_succ, dS_congr fun d _ => tF_const D c m, dS_const, Nat.pow_succ, Nat.mul_comm (D.length ^ m) D.length, Nat.mul_assoc]
theorem dS_range_succ (f : Nat → Nat) (K : Nat) : dS (List.range (K + 1)) f = dS (List.range K) f + f K := by rw [List.range_succ, dS_append, dS_cons, dS_nil, Nat.add_zero]
/-- Pascal's numbers. -/
def chs : Nat → Nat → Nat
  | _, 0 => 1
  | 0, _ + 1 => 0
  | n + 1, j + 1 => chs n j + chs n (j + 1)
theorem chs_zero (n : Nat) : chs n 0 = 1 := by cases n <;> rfl
theorem chs_succ (n j : Nat) : chs (n + 1) (j + 1) = chs n j + chs n (j + 1) := rfl
theorem chs_over : ∀ {n j : Nat}, n < j → chs n j = 0
  | 0, j + 1, _ => rfl
  | n + 1, j + 1, h => by rw [chs_succ, chs_over (by omega), chs_over (by omega)]
theorem chs_self : ∀ n : Nat, chs n n = 1
  | 0 => rfl
  | n + 1 => by rw [chs_succ, chs_self n, chs_over (by omega)]
theorem chs_times : ∀ n j : Nat, (j + 1) * chs (n + 1) (j + 1) = (n + 1) * chs n j
  | 0, 0 => rfl
  | 0, j + 1 => by simp [chs_succ, chs_over]
  | n + 1, 0 => by
    have h := chs_times n 0
    rw [chs_zero] at h ⊢
    rw [chs_succ (n + 1) 0, chs_zero]
    omega
  | n + 1, j + 1 => by
    have h1 := chs_times n j
    have h2 := chs_times n (j + 1)
    rw [chs_succ (n + 1) (j + 1), Nat.mul_add, h2]
    have e : (j + 1 + 1) * chs (n + 1) (j + 1) = (n + 1) * chs n j + chs (n + 1) (j + 1) := by rw [← h1]; grind
    rw [e, chs_succ n j]
    grind
/-- Primes as the document has them. -/
def PrN (p : Nat) : Prop := 2 ≤ p ∧ ∀ d, 2 ≤ d → d < p → p % d ≠ 0
theorem PrN.cop {p a : Nat} (h : PrN p) (ha : a % p ≠ 0) : Nat.Coprime p a := by
  have hg : Nat.gcd p a ∣ p := Nat.gcd_dvd_left _ _
  have h2 := h.1
  have hle := Nat.le_of_dvd (by omega) hg
  have h0 : 0 < Nat.gcd p a := Nat.gcd_pos_of_pos_left _ (by omega)
  by_cases e1 : Nat.gcd p a = 1
  · exact e1
  · by_cases e2 : Nat.gcd p a = p
    · exact (ha (Nat.mod_eq_zero_of_dvd (by rw [← e2]; exact Nat.gcd_dvd_right _ _))).elim
    · exact (h.2 _ (by omega) (by omega) (Nat.mod_eq_zero_of_dvd hg)).elim
theorem chs_prime {p j : Nat} (h : PrN p) (h0 : 0 < j) (hj : j < p) : chs p j % p = 0 := by
  obtain ⟨j, rfl⟩ : ∃ i, j = i + 1 := ⟨j - 1, by omega⟩
  obtain ⟨n, rfl⟩ : ∃ i, p = i + 1 := ⟨p - 1, by omega⟩
  have e := chs_times n j
  have hc := h.cop (a := j + 1) (by rw [Nat.mod_eq_of_lt hj]; omega)
  exact Nat.mod_eq_zero_of_dvd (hc.dvd_of_dvd_mul_left (e ▸ Nat.dvd_mul_right _ _))
/-- How often one thing is taken. -/
theorem tF_cons (d : Nat) (D : List Nat) : ∀ (m : Nat) (h : Nat → Nat), tF (d :: D) m h = dS (List.range (m + 1)) fun j => chs m j * tF D j fun x => h (x + (m - j) * d)
  | 0, h => by simp [dS, tF, chs]
  | m + 1, h => by
    have e1 : tF (d :: D) (m + 1) h = dS (List.range (m + 1)) (fun j => chs m j * tF D j fun x => h (x + (m + 1 - j) * d)) + dS (List.range (m + 1)) fun j => chs m j * tF D (j + 1) fun x => h (x + (m + 1 - (j + 1)) * d) := by
      rw [tF_succ, dS_cons, tF_cons d D m]
      congr 1
      · refine dS_congr fun j hj => ?_
        have hj := List.mem_range.1 hj
        congr 1
        refine tF_congr fun x => ?_
        rw [show m + 1 - j = (m - j) + 1 by omega, Nat.add_mul, Nat.one_mul, Nat.add_assoc]
      · rw [dS_congr fun e _ => tF_cons d D m fun x => h (x + e), dS_swap]
        refine dS_congr fun j _ => ?_
        rw [dS_mul, tF_succ]
        congr 1
        refine dS_congr fun e _ => tF_congr fun x => ?_
        rw [show m + 1 - (j + 1) = m - j by omega, Nat.add_right_comm]
    rw [e1]
    generalize hT : (fun j => tF D j fun x => h (x + (m + 1 - j) * d)) = T
    have hT1 : ∀ j, (tF D j fun x => h (x + (m + 1 - j) * d)) = T j := fun j => by rw [← hT]
    rw [dS_congr fun j _ => by rw [hT1 j], dS_congr (f := fun j => chs m j * tF D (j + 1) fun x => h (x + (m + 1 - (j + 1)) * d)) fun j _ => by rw [hT1 (j + 1)]]
    rw [dS_congr (f := fun j => chs (m + 1) j * tF D j fun x => h (x + (m + 1 - j) * d)) fun j _ => by rw [hT1 j]]
    have key : ∀ K, dS (List.range (K + 1)) (fun j => chs m j * T j) + dS (List.range K) (fun j => chs m j * T (j + 1)) = dS (List.range (K + 1)) fun j => chs (m + 1) j * T j := fun K => by
      induction K with
      | zero => simp [dS, chs_zero]
      | succ K ih =>
        rw [dS_range_succ (fun j => chs m j * T j) (K + 1), dS_range_succ (fun j => chs m j * T (j + 1)) K, dS_range_succ (fun j => chs (m + 1) j * T j) (K + 1), ← ih, chs_succ, Nat.add_mul]
        omega
    have k := key (m + 1)
    rw [← k, List.range_succ (n := m + 1), dS_append, dS_cons, dS_nil, chs_over (by omega)]
    omega
theorem dS_mod0 {α : Type} {f : α → Nat} {p : Nat} : ∀ {l : List α}, (∀ a ∈ l, f a % p = 0) → dS l f % p = 0
  | [], _ => by simp [dS]
  | a :: l, h => by
    rw [dS_cons, Nat.add_mod, h a (by simp), dS_mod0 fun b hb => h b (by simp [hb])]
    simp
/-- Frobenius. -/
theorem tF_prime {p : Nat} (hp : PrN p) : ∀ (D : List Nat) (h : Nat → Nat), tF D p h % p = dS D (fun d => h (p * d)) % p
  | [], h => by
    have h2 := hp.1
    obtain ⟨n, rfl⟩ : ∃ i, p = i + 1 := ⟨p - 1, by omega⟩
    rfl
  | d :: D, h => by
    have h2 := hp.1
    obtain ⟨n, hn⟩ : ∃ i, p = i + 1 := ⟨p - 1, by omega⟩
    rw [tF_cons, dS_cons, List.range_succ, dS_append, dS_cons, dS_nil, chs_self, Nat.one_mul, Nat.add_zero, Nat.sub_self]
    have e0 : (tF D p fun x => h (x + 0 * d)) = tF D p h := tF_congr fun x => by simp
    rw [e0]
    have e1 : List.range p = 0 :: (List.range n).map Nat.succ := by rw [hn, List.range_succ_eq_map]
    rw [e1, dS_cons, chs_zero, Nat.one_mul, Nat.sub_zero]
    have e2 : dS ((List.range n).map Nat.succ) (fun j => chs p j * tF D j fun x => h (x + (p - j) * d)) % p = 0 := dS_mod0 fun j hj => by
      obtain ⟨i, hi, rfl⟩ := List.mem_map.1 hj
      have := List.mem_range.1 hi
      rw [Nat.mul_mod, chs_prime hp (by omega) (by omega)]
      simp
    have e3 : (tF D 0 fun x => h (x + p * d)) = h (p * d) := by show h (0 + p * d) = _; rw [Nat.zero_add]
    rw [e3, Nat.add_assoc, Nat.add_mod, Nat.add_mod (dS _ _), e2, tF_prime hp D h]
    simp [Nat.add_mod]
theorem fermat_k {p : Nat} (hp : PrN p) (k : Nat) : k ^ p % p = k % p := by
  have h := tF_prime hp (List.replicate k 0) fun _ => 1
  rw [tF_const, dS_const] at h
  simpa using h
/-- Squares that are together the square of the sum: one alone is not 0. -/
theorem dS_sq_le {α : Type} (f : α → Nat) : ∀ l : List α, dS l (fun a => f a * f a) ≤ dS l f * dS l f
  | [] => by simp [dS]
  | a :: l => by
    have := dS_sq_le f l
    rw [dS_cons, dS_cons]
    generalize dS l f = S at *
    have e : (f a + S) * (f a + S) = f a * f a + (2 * (f a * S) + S * S) := by grind
    omega
theorem dS_sq_one {α : Type} {f : α → Nat} : ∀ {l : List α}, dS l (fun a => f a * f a) = dS l f * dS l f → 0 < dS l f → ∃ a ∈ l, f a = dS l f
  | [], _, h => by simp [dS] at h
  | a :: l, e, h0 => by
    have hle := dS_sq_le f l
    rw [dS_cons, dS_cons] at e
    rw [dS_cons] at h0 ⊢
    by_cases hS : dS l f = 0
    · exact ⟨a, by simp, by omega⟩
    · have e2 : (f a + dS l f) * (f a + dS l f) = f a * f a + (2 * (f a * dS l f) + dS l f * dS l f) := by grind
      have e3 : f a * dS l f = 0 := by omega
      have e4 : f a = 0 := by
        rcases Nat.mul_eq_zero.1 e3 with h | h
        · exact h
        · exact (hS h).elim
      obtain ⟨b, hb, e5⟩ := dS_sq_one (f := f) (l := l) (by omega) (by omega)
      exact ⟨b, by simp [hb], by omega⟩
end Go.Proofs.YtcjkcgfohmhbcabDoor

/- Difference sets: what counting says; the multiplier theorem. Nothing of the program. -/
namespace Go.Proofs.YtcjkcgfohmhbcabDoor

theorem mod_le {v a b c : Nat} (h : (c + a) % v = (c + b) % v) (hab : a ≤ b) (hv : b - a < v) : a = b := by
  have h1 := Nat.sub_mod_eq_zero_of_mod_eq h.symm
  rw [Nat.add_sub_add_left, Nat.mod_eq_of_lt hv] at h1
  omega
theorem mod_inj {v a b c : Nat} (h : (c + a) % v = (c + b) % v) (h1 : b - a < v) (h2 : a - b < v) : a = b := by
  rcases Nat.le_total a b with g | g
  · exact mod_le h g h1
  · exact (mod_le h.symm g h2).symm
theorem dS_permF {α : Type} {l m : List α} (h : l.Perm m) (f : α → Nat) : dS l f = dS m f := (h.map f).sum_nat
theorem dS_map {α β : Type} (g : β → α) (f : α → Nat) : ∀ l : List β, dS (l.map g) f = dS l fun b => f (g b)
  | [] => rfl
  | b :: l => by rw [List.map_cons, dS_cons, dS_cons, dS_map g f l]
theorem perm_full {v : Nat} {s : List Nat} (h : Pts v s) (hl : s.length = v) : s.Perm (List.range v) := by
  have h1 := h.filter
  have h2 := h.count
  rw [hl] at h2
  have h3 : ∀ x ∈ List.range v, s.contains x = true := List.countP_eq_length.1 (by rw [h2, List.length_range])
  rw [List.filter_eq_self.2 h3] at h1
  exact h1.symm
theorem nodup_map {σ : Nat → Nat} : ∀ {l : List Nat}, l.Nodup → (∀ a ∈ l, ∀ b ∈ l, σ a = σ b → a = b) → (l.map σ).Nodup
  | [], _, _ => List.nodup_nil
  | a :: l, hn, hi => by
    rw [List.map_cons, List.nodup_cons]
    rw [List.nodup_cons] at hn
    refine ⟨fun h => ?_, nodup_map hn.2 fun x hx y hy => hi x (by simp [hx]) y (by simp [hy])⟩
    obtain ⟨b, hb, e⟩ := List.mem_map.1 h
    exact hn.1 (hi b (by simp [hb]) a (by simp) e ▸ hb)
theorem dS_bij {v : Nat} {σ : Nat → Nat} (h1 : ∀ g, g < v → σ g < v) (h2 : ∀ a b, a < v → b < v → σ a = σ b → a = b) (f : Nat → Nat) : dS (List.range v) (fun g => f (σ g)) = dS (List.range v) f := by
  rw [← dS_map]
  refine dS_permF (perm_full ⟨nodup_map List.nodup_range fun a ha b hb => h2 a b (List.mem_range.1 ha) (List.mem_range.1 hb), fun x hx => ?_⟩ (by simp)) f
  obtain ⟨g, hg, rfl⟩ := List.mem_map.1 hx
  exact h1 g (List.mem_range.1 hg)
/-- All numbers, moved; all numbers, turned round. -/
theorem dS_shift {v : Nat} (hv : 0 < v) (c : Nat) (f : Nat → Nat) : dS (List.range v) (fun x => f ((c + x) % v)) = dS (List.range v) f :=
  dS_bij (σ := fun x => (c + x) % v) (fun g _ => Nat.mod_lt _ hv) (fun a b ha hb h => mod_inj h (by omega) (by omega)) f
theorem dS_turn {v : Nat} (hv : 0 < v) (c : Nat) (f : Nat → Nat) : dS (List.range v) (fun x => f ((c + (v - x)) % v)) = dS (List.range v) f :=
  dS_bij (σ := fun x => (c + (v - x)) % v) (fun g _ => Nat.mod_lt _ hv) (fun a b ha hb h => by have := mod_inj h (by omega) (by omega); omega) f
theorem dS_in {v : Nat} {D : List Nat} (hD : Pts v D) (f : Nat → Nat) : dS (List.range v) (fun x => if D.contains x = true then f x else 0) = dS D f := by
  rw [← dS_permF hD.filter f]
  generalize List.range v = l
  induction l with
  | nil => rfl
  | cons a l ih =>
    rw [dS_cons, ih, List.filter_cons]
    by_cases h : D.contains a = true
    · rw [if_pos h, if_pos h, dS_cons]
    · rw [if_neg h, if_neg h, Nat.zero_add]

/-- How many things of D have one of D behind them by c. -/
def me (v : Nat) (D : List Nat) (c : Nat) : Nat := D.countP fun b => D.contains ((b + c) % v)
def DLev (v : Nat) (D : List Nat) (l : Nat) : Prop := ∀ c, c % v ≠ 0 → me v D c = l
theorem me_mod (v : Nat) (D : List Nat) (c : Nat) : me v D (c % v) = me v D c := by
  unfold me
  congr 1
  funext b
  rw [Nat.add_mod_mod]
theorem me_zero {v : Nat} {D : List Nat} (hD : Pts v D) {c : Nat} (hc : c % v = 0) : me v D c = D.length := by
  rw [← me_mod, hc]
  exact List.countP_eq_length.2 fun b hb => by rw [Nat.add_zero, Nat.mod_eq_of_lt (hD.lt b hb)]; simpa using hb
theorem dS_cnt {α : Type} (p : α → Bool) (l : List α) : l.countP p = dS l fun a => if p a = true then 1 else 0 := (dS_count p l).symm
theorem cnt_k {v : Nat} {D : List Nat} (hD : Pts v D) : dS (List.range v) (fun x => if D.contains x = true then 1 else 0) = D.length := by rw [dS_count]; exact hD.count
/-- All differences together. -/
theorem me_total {v : Nat} {D : List Nat} (hv : 0 < v) (hD : Pts v D) : dS (List.range v) (me v D) = D.length * D.length := by
  have e : dS (List.range v) (me v D) = dS (List.range v) fun c => dS D fun b => if D.contains ((b + c) % v) = true then 1 else 0 := dS_congr fun c _ => dS_cnt _ _
  rw [e, dS_swap, dS_congr fun b _ => (dS_shift hv b fun x => if D.contains x = true then 1 else 0).trans (cnt_k hD), dS_const]
theorem lev_count {v l : Nat} {D : List Nat} (hv : 0 < v) (hD : Pts v D) (hL : DLev v D l) : D.length + l * (v - 1) = D.length * D.length := by
  have h := me_total hv hD
  obtain ⟨n, rfl⟩ : ∃ n, v = n + 1 := ⟨v - 1, by omega⟩
  rw [List.range_succ_eq_map, dS_cons, me_zero hD (by simp), dS_congr (g := fun _ => l) (fun c hc => ?_), dS_const] at h
  · rw [← h]; simp [Nat.mul_comm]
  · obtain ⟨i, hi, rfl⟩ := List.mem_map.1 hc
    have := List.mem_range.1 hi
    exact hL _ (by rw [Nat.mod_eq_of_lt (by omega)]; omega)
theorem me_is {v l : Nat} {D : List Nat} (hD : Pts v D) (hL : DLev v D l) {n : Nat} (hn : D.length = l + n) (c : Nat) : me v D c = l + n * if c % v = 0 then 1 else 0 := by
  by_cases h : c % v = 0
  · rw [me_zero hD h, if_pos h]; omega
  · rw [hL c h, if_neg h]; omega

/-- How many of D, times p, have one of D before them by g. -/
def tG (v p : Nat) (D : List Nat) (g : Nat) : Nat := D.countP fun d => D.contains ((p * d + (v - g)) % v)
theorem tG_mod {v l n p : Nat} {D : List Nat} (hD : Pts v D) (hL : DLev v D l) (hn : D.length = l + n) (hp : PrN p) (hpn : n % p = 0) (g : Nat) : tG v p D g % p = l % p := by
  have h2 := hp.1
  obtain ⟨m, hm⟩ : ∃ m, p = m + 1 := ⟨p - 1, by omega⟩
  have h1 := tF_prime hp D fun x => if D.contains ((x + (v - g)) % v) = true then 1 else 0
  have e1 : (dS D fun d => if D.contains ((p * d + (v - g)) % v) = true then 1 else 0) = tG v p D g := (dS_cnt _ _).symm
  rw [e1] at h1
  rw [← h1]
  have e2 : (tF D p fun x => if D.contains ((x + (v - g)) % v) = true then 1 else 0) = D.length ^ m * l + n * tF D m (fun s => if (s + (v - g)) % v = 0 then 1 else 0) := by
    rw [hm, tF_last]
    have e3 : ∀ s, (dS D fun d => if D.contains ((s + d + (v - g)) % v) = true then 1 else 0) = l + n * if (s + (v - g)) % v = 0 then 1 else 0 := fun s => by
      rw [← me_is hD hL hn, dS_count]
      unfold me
      congr 1
      funext d
      rw [show s + d + (v - g) = d + (s + (v - g)) by omega]
    rw [tF_congr e3, tF_add, tF_const, tF_mul]
  rw [e2, Nat.add_mod, Nat.mul_mod n, hpn, Nat.zero_mul, Nat.zero_mod, Nat.add_zero, Nat.mod_mod]
  have ek : D.length % p = l % p := by rw [hn, Nat.add_mod, hpn, Nat.add_zero, Nat.mod_mod]
  have ef := fermat_k hp D.length
  rw [ek] at ef
  rw [← ef, hm, Nat.pow_succ, Nat.mul_mod, ← hm, ← ek, ← Nat.mul_mod]
theorem tG_total {v p : Nat} {D : List Nat} (hv : 0 < v) (hD : Pts v D) : dS (List.range v) (tG v p D) = D.length * D.length := by
  have e : dS (List.range v) (tG v p D) = dS (List.range v) fun g => dS D fun d => if D.contains ((p * d + (v - g)) % v) = true then 1 else 0 := dS_congr fun c _ => dS_cnt _ _
  rw [e, dS_swap, dS_congr fun d _ => (dS_turn hv (p * d) fun x => if D.contains x = true then 1 else 0).trans (cnt_k hD), dS_const]
theorem dS_two {α : Type} (f : α → Nat) (l : List α) : dS l f * dS l f = dS l fun a => dS l fun b => f a * f b := by
  rw [dS_congr fun a _ => dS_mul (f a) f l, ← dS_mul]
  exact dS_congr fun a _ => Nat.mul_comm _ _
theorem tG_pair {v p : Nat} {D : List Nat} (hv : 0 < v) (hD : Pts v D) {a : Nat} (ha : a < v) (b : Nat) :
    (dS (List.range v) fun g => (if D.contains ((p * a + (v - g)) % v) = true then 1 else 0) * if D.contains ((p * b + (v - g)) % v) = true then 1 else 0) = me v D (p * b + p * (v - a)) := by
  have e : ∀ g, g < v → (if D.contains ((p * b + (v - g)) % v) = true then 1 else 0) = (fun x => if D.contains ((x + (p * b + p * (v - a))) % v) = true then 1 else 0) ((p * a + (v - g)) % v) := fun g _ => by
    show _ = if D.contains (((p * a + (v - g)) % v + (p * b + p * (v - a))) % v) = true then 1 else 0
    rw [Nat.mod_add_mod]
    have : p * a + (v - g) + (p * b + p * (v - a)) = p * b + (v - g) + v * p := by
      have h : p * a + p * (v - a) = v * p := by rw [← Nat.mul_add, show a + (v - a) = v by omega, Nat.mul_comm]
      omega
    rw [this, Nat.add_mul_mod_self_left]
  rw [dS_congr fun g hg => by rw [e g (List.mem_range.1 hg)]]
  rw [dS_turn hv (p * a) fun x => (if D.contains x = true then 1 else 0) * if D.contains ((x + (p * b + p * (v - a))) % v) = true then 1 else 0]
  unfold me
  rw [dS_cnt, ← dS_in hD]
  refine dS_congr fun x _ => ?_
  by_cases h : D.contains x = true
  · rw [if_pos h, if_pos h, Nat.one_mul]
  · rw [if_neg h, if_neg h, Nat.zero_mul]
theorem mul_inj {v p a b : Nat} (hc : Nat.Coprime p v) (ha : a < v) (hb : b < v) (h : (p * a) % v = (p * b) % v) : a = b := by
  have key : ∀ {a b : Nat}, a < v → b < v → (p * a) % v = (p * b) % v → a ≤ b := fun {a b} ha hb h => by
    have h1 := Nat.dvd_of_mod_eq_zero (Nat.sub_mod_eq_zero_of_mod_eq h)
    rw [← Nat.mul_sub] at h1
    have h2 := hc.symm.dvd_of_dvd_mul_left h1
    rcases Nat.eq_zero_or_pos (a - b) with h3 | h3
    · omega
    · have := Nat.le_of_dvd h3 h2; omega
  exact Nat.le_antisymm (key ha hb h) (key hb ha h.symm)
theorem zero_iff {v p a b : Nat} (hc : Nat.Coprime p v) (ha : a < v) (hb : b < v) : (p * b + p * (v - a)) % v = 0 ↔ a = b := by
  have e : ((p * b + p * (v - a)) + p * a) % v = (p * b) % v := by
    have h : p * (v - a) + p * a = v * p := by rw [← Nat.mul_add, show v - a + a = v by omega, Nat.mul_comm]
    rw [Nat.add_assoc, h, Nat.add_mul_mod_self_left]
  constructor
  · intro h
    rw [Nat.add_mod, h, Nat.zero_add, Nat.mod_mod] at e
    exact mul_inj hc ha hb e
  · rintro rfl
    rw [← Nat.mul_add, show a + (v - a) = v by omega]
    exact Nat.mul_mod_left _ _
theorem tG_sq {v l n p : Nat} {D : List Nat} (hv : 0 < v) (hD : Pts v D) (hL : DLev v D l) (hn : D.length = l + n) (hc : Nat.Coprime p v) : (dS (List.range v) fun g => tG v p D g * tG v p D g) = D.length * (D.length * l + n) := by
  have e : (dS (List.range v) fun g => tG v p D g * tG v p D g) = dS (List.range v) fun g => dS D fun a => dS D fun b => (if D.contains ((p * a + (v - g)) % v) = true then 1 else 0) * if D.contains ((p * b + (v - g)) % v) = true then 1 else 0 := dS_congr fun g _ => by
    unfold tG
    rw [dS_cnt, dS_two]
  have key : ∀ a ∈ D, (dS (List.range v) fun g => dS D fun b => (if D.contains ((p * a + (v - g)) % v) = true then 1 else 0) * if D.contains ((p * b + (v - g)) % v) = true then 1 else 0) = D.length * l + n := fun a ha => by
    rw [dS_swap, dS_congr fun b _ => tG_pair hv hD (hD.lt a ha) b, dS_congr (g := fun b => l + n * if (decide (b = a)) = true then 1 else 0) (fun b hb => ?_), dS_add, dS_const, dS_mul, dS_count]
    · have : D.countP (fun b => decide (b = a)) = 1 := by
        have h1 : D.count a = 1 := by rw [List.Nodup.count hD.nd, if_pos ha]
        rw [← h1]
        unfold List.count
        congr 1
      rw [this, Nat.mul_one]
    · rw [me_is hD hL hn]
      congr 2
      by_cases h : b = a
      · rw [if_pos (decide_eq_true h), if_pos ((zero_iff hc (hD.lt a ha) (hD.lt b hb)).2 h.symm)]
      · rw [if_neg fun g => h ((zero_iff hc (hD.lt a ha) (hD.lt b hb)).1 g).symm, if_neg fun g => h (of_decide_eq_true g)]
  rw [e, dS_swap, dS_congr key, dS_const]
theorem perm_sub {A B : List Nat} (hA : A.Nodup) (hB : B.Nodup) (hs : ∀ x ∈ A, x ∈ B) (hl : A.length = B.length) : A.Perm B := by
  have key : ∀ {A B : List Nat}, A.Nodup → (∀ x ∈ A, x ∈ B) → A.length ≤ B.length := fun {A} => by
    induction A with
    | nil => intro B _ _; simp
    | cons a A ih =>
      intro B hA hs
      rw [List.nodup_cons] at hA
      have h1 := ih (B := B.erase a) hA.2 fun x hx => (List.mem_erase_of_ne (a := x) (b := a) fun e => hA.1 (e ▸ hx)).2 (hs x (by simp [hx]))
      have h2 := List.length_erase_of_mem (hs a (by simp))
      have h3 := List.length_pos_of_mem (hs a (by simp))
      simp only [List.length_cons]
      omega
  refine (List.perm_ext_iff_of_nodup hA hB).2 fun x => ⟨hs x, fun hx => Classical.byContradiction fun hn => ?_⟩
  have := key (A := x :: A) (B := B) (List.nodup_cons.2 ⟨hn, hA⟩) fun y hy => by
    rcases List.mem_cons.1 hy with rfl | hy
    · exact hx
    · exact hs y hy
  simp only [List.length_cons] at this
  omega
/-- Hall's multipliers. -/
theorem hall {v l n p : Nat} {D : List Nat} (hv : 2 ≤ v) (hD : Pts v D) (hL : DLev v D l) (hn : D.length = l + n) (h0 : 0 < n) (hp : PrN p) (hlp : l < p) (hpn : n % p = 0) (hvp : v % p ≠ 0) :
    ∃ g, g < v ∧ (D.map fun d => (p * d) % v).Perm (D.map fun d => (d + g) % v) := by
  have hc := hp.cop hvp
  have hp2 := hp.1
  have ht : ∀ g, tG v p D g = l + p * (tG v p D g / p) := fun g => by
    have h1 := tG_mod hD hL hn hp hpn g
    rw [Nat.mod_eq_of_lt hlp] at h1
    have h2 := Nat.mod_add_div (tG v p D g) p
    omega
  generalize hs : (fun g => tG v p D g / p) = s at *
  have hs1 : ∀ g, tG v p D g / p = s g := fun g => by rw [← hs]
  have ht1 : ∀ g, tG v p D g = l + p * s g := fun g => by rw [← hs1]; exact ht g
  have c1 := lev_count (by omega) hD hL
  have c2 := tG_total (p := p) (by omega) hD
  have c3 := tG_sq (by omega) hD hL hn hc
  rw [dS_congr fun g _ => ht1 g, dS_add, dS_const, dS_mul, List.length_range] at c2
  have e3 : (dS (List.range v) fun g => tG v p D g * tG v p D g) = v * (l * l) + 2 * l * p * dS (List.range v) s + p * p * dS (List.range v) fun g => s g * s g := by
    rw [dS_congr (g := fun g => l * l + 2 * l * p * s g + p * p * (s g * s g)) fun g _ => by rw [ht1 g]; grind]
    rw [dS_add, dS_add, dS_const, dS_mul, dS_mul, List.length_range]
  rw [e3] at c3
  generalize hS : dS (List.range v) s = S at *
  generalize hQ : (dS (List.range v) fun g => s g * s g) = Q at *
  have hk0 : l + n = D.length := hn.symm
  generalize hkk : D.length = k at *
  obtain ⟨u, rfl⟩ : ∃ u, v = u + 1 := ⟨v - 1, by omega⟩
  rw [Nat.add_sub_cancel] at c1
  have e4 : p * S = n := by
    have : (u + 1) * l = l * u + l := by rw [Nat.add_mul, Nat.one_mul, Nat.mul_comm]
    omega
  have e5 : p * p * Q = n * n := by subst hn; grind
  have e6 : Q = S * S := by
    have : p * p * Q = p * p * (S * S) := by rw [e5, ← e4]; grind
    exact Nat.eq_of_mul_eq_mul_left (Nat.mul_pos (by omega) (by omega)) this
  have hS0 : 0 < S := by
    rcases Nat.eq_zero_or_pos S with h | h
    · rw [h, Nat.mul_zero] at e4; omega
    · exact h
  obtain ⟨g, hg, hg2⟩ := dS_sq_one (f := s) (l := List.range (u + 1)) (by rw [hS, hQ]; exact e6) (by rw [hS]; exact hS0)
  rw [hS] at hg2
  have hg := List.mem_range.1 hg
  have hk : tG (u + 1) p D g = D.length := by rw [ht1 g, hg2, e4, hk0, hkk]
  have hall : ∀ d ∈ D, D.contains ((p * d + (u + 1 - g)) % (u + 1)) = true := List.countP_eq_length.1 hk
  refine ⟨g, hg, perm_sub (nodup_map hD.nd fun a ha b hb => mul_inj hc (hD.lt a ha) (hD.lt b hb)) (nodup_map hD.nd fun a ha b hb h => ?_) (fun x hx => ?_) (by simp)⟩
  · rw [Nat.add_comm a, Nat.add_comm b] at h
    have := hD.lt a ha
    have := hD.lt b hb
    exact mod_inj h (by omega) (by omega)
  · obtain ⟨d, hd, rfl⟩ := List.mem_map.1 hx
    refine List.mem_map.2 ⟨_, by simpa using hall d hd, ?_⟩
    show ((p * d + (u + 1 - g)) % (u + 1) + g) % (u + 1) = _
    rw [Nat.mod_add_mod, show p * d + (u + 1 - g) + g = p * d + (u + 1) by omega, Nat.add_mod_right]
end Go.Proofs.YtcjkcgfohmhbcabDoor

namespace Go.Proofs.YtcjkcgfohmhbcabDoor

def mvN (v t s d : Nat) : Nat := (d * t + s) % v
end Go.Proofs.YtcjkcgfohmhbcabDoor

namespace Go.Proofs.YtcjkcgfohmhbcabDoor

/-- A set of numbers modulo v. -/
structure GoodS (v : Nat) (D : List Nat) : Prop where
  pos : 1 ≤ v
  le : v ≤ 60
  rise : D.Pairwise (· < ·)
  lt : ∀ x ∈ D, x < v
theorem GoodS.pts {v : Nat} {D : List Nat} (h : GoodS v D) : Pts v D := rise_pts h.rise h.lt
theorem GoodS.len {v : Nat} {D : List Nat} (h : GoodS v D) : D.length ≤ v := h.pts.le
/-- Which numbers a set has behind t times and s more. -/
def imF (v : Nat) (D : List Nat) (t s x : Nat) : Bool := (D.map (mvN v t s)).contains x
def imL (v : Nat) (D : List Nat) (t s : Nat) : List Nat := (List.range 60).filter (imF v D t s)
end Go.Proofs.YtcjkcgfohmhbcabDoor

/- One more among those in order; nothing of the program. -/
namespace Go.Proofs.YtcjkcgfohmhbcabDoor

end Go.Proofs.YtcjkcgfohmhbcabDoor

/- What is wrong with a set: the walks of rises, Check and the document's SetFault. -/
namespace Go.Proofs.YtcjkcgfohmhbcabDoor
open Go.RowKit

/-- Does a list rise? -/
def riB (b : List Int) : Bool := (List.range b.length).all fun j => decide (j = 0 ∨ b.getD (j - 1) 0 < b.getD j 0)
theorem riB_yes {b : List Int} (h : ∀ j, 1 ≤ j → j < b.length → b.getD (j - 1) 0 < b.getD j 0) : riB b = true := by
  unfold riB
  rw [List.all_eq_true]
  intro j hj
  rw [decide_eq_true_eq]
  by_cases e : j = 0
  · exact .inl e
  · exact .inr (h j (by omega) (List.mem_range.1 hj))
theorem riB_no {b : List Int} {j : Nat} (h1 : 1 ≤ j) (hj : j < b.length) (h : b.getD j 0 ≤ b.getD (j - 1) 0) : riB b = false := by
  rw [Bool.eq_false_iff]
  intro k
  have := List.all_eq_true.1 k j (List.mem_range.2 hj)
  rw [decide_eq_true_eq] at this
  omega
theorem bF_riB {p : Int} {b : List Int} (h : ∀ j, j < b.length → 0 ≤ b.getD j 0 ∧ b.getD j 0 < p) : bF p b = if riB b = true then 0 else 2 := bF_in h
/-- What is wrong with a set. -/
def sF (v : Int) (l : List Int) : Nat := if v < 1 ∨ 60 < v then 1 else bF v l
theorem sF_of {v : Nat} {D : List Nat} (h : GoodS v D) : sF (v : Int) (D.map Int.ofNat) = 0 := by
  unfold sF
  have h1 := h.pos
  have h2 := h.le
  rw [if_neg (by omega)]
  have hat : ∀ j, j < D.length → (D.map Int.ofNat).getD j 0 = ((D.getD j 0 : Nat) : Int) := fun j hj => by
    rw [List.getD_eq_getElem?_getD, List.getD_eq_getElem?_getD, List.getElem?_map, List.getElem?_eq_getElem hj]; rfl
  have hD : ∀ j (hj : j < D.length), D.getD j 0 = D[j] := fun j hj => by rw [List.getD_eq_getElem?_getD, List.getElem?_eq_getElem hj]; rfl
  refine bF_ok (fun j hj => ?_) (fun j hj1 hj => ?_)
  · rw [List.length_map] at hj
    rw [hat j hj, hD j hj]
    have := h.lt _ (List.getElem_mem hj)
    omega
  · rw [List.length_map] at hj
    rw [hat j hj, hat (j - 1) (by omega), hD j hj, hD (j - 1) (by omega)]
    have := List.pairwise_iff_getElem.1 h.rise (j - 1) j (by omega) hj (by omega)
    omega
set_option maxRecDepth 100000 in
set_option maxHeartbeats 4000000 in
theorem rises_any (b : List Int) (u : Value) (w : World) (hu : Sl w u b) (hbl : b.length ≤ maxLen) :
    Calls Tryd.prog 51 #[u] w fun e w' => e = .returned (.bool (riB b)) ∧ Below w.heap.size w w' := by
  unfold maxLen at hbl
  obtain ⟨ua, uc, rfl, hub⟩ := hu
  have HUB : Hid (∀ j, j < b.length → ∃ g o, ua = some ⟨g, o, none⟩ ∧ ∀ W, Below w.heap.size w W → W.cell? ⟨g, o + j, none⟩ = some (.int .i64 (b.getD j 0))) := fun j hj => by
    obtain ⟨g, o, e, hc⟩ := hub j hj
    exact ⟨g, o, e, fun W bW => (bW.cell (World.block_lt_of_cell? _ _ hc)).trans hc⟩
  obtain ⟨w1, Hw1⟩ : ∃ w1 : World, Hid (w1 = w) := ⟨_, rfl⟩
  rw [← Hw1.out] at HUB
  obtain ⟨z, HZ⟩ : ∃ z, Hid (riB b = z) := ⟨_, rfl⟩
  rw [HZ.out]
  generalize hbn : b.length = bn at *
  clear hub
  go_enter Tryd.func51, Tryd.ntmps51
  go_wp2
  go_loopw [3] (fun jv wr' => ∃ k : Nat, jv = .int .i64 (k : Int) ∧ 1 ≤ k ∧ (k ≤ bn ∨ k = 1) ∧ Hid (∀ m, 1 ≤ m → m < k → m < bn → b.getD (m - 1) 0 < b.getD m 0) ∧ Below w1.heap.size w1 wr') (fun jv _ => (bn + 1 - intOf jv).toNat)
  case atStart => exact ⟨1, rfl, by omega, .inr rfl, (show ∀ m, 1 ≤ m → m < 1 → _ from fun m h h' => by omega), by rw [Hw1.out]; exact Below.refl _ _⟩
  case round =>
    obtain ⟨k, rfl, hk1, hkj, HK, hB3⟩ := hrel
    by_cases hlk : k < bn
    · have hdk : decide ((k : Int) < (bn : Int)) = true := by simp; omega
      have hki : (k : Int) < (bn : Int) := by omega
      obtain ⟨k', Hk'⟩ : ∃ k', Hid (k = k' + 1) := ⟨k - 1, (by omega : k = k - 1 + 1)⟩
      have hsub : (k : Int) - 1 = (k' : Int) := by have := Hk'.out; omega
      have hk'i : (k' : Int) < (bn : Int) := by have := Hk'.out; omega
      obtain ⟨g, o, rfl, hc0⟩ := HUB.out k hlk
      obtain ⟨g2, o2, e2, hc1⟩ := HUB.out k' (by have := Hk'.out; omega)
      obtain ⟨rfl, rfl⟩ : g = g2 ∧ o = o2 := by
        simp only [Option.some.injEq, Addr.mk.injEq] at e2
        exact ⟨e2.1, e2.2.1⟩
      have hck := hc0 _ hB3
      have hck' := hc1 _ hB3
      obtain ⟨x, Hx⟩ : ∃ x, Hid (x = b.getD k 0) := ⟨_, (rfl : b.getD k 0 = b.getD k 0)⟩
      obtain ⟨y, Hy⟩ : ∃ y, Hid (y = b.getD k' 0) := ⟨_, (rfl : b.getD k' 0 = b.getD k' 0)⟩
      rw [← Hx.out] at hck
      rw [← Hy.out] at hck'
      clear e2 hc0 hc1
      by_cases hle : x ≤ y
      · have hb1 : riB b = false := riB_no hk1 (by omega) (by rw [← Hx.out, show k - 1 = k' by have := Hk'.out; omega, ← Hy.out]; exact hle)
        obtain rfl : z = false := by rw [← HZ.out, hb1]
        have hdx : decide (x ≤ y) = true := decide_eq_true hle
        clear hle hb1
        go_wp2
        go_quiet (fail)
        go_wp2
        go_ret
        exact ⟨rfl, by rw [← Hw1.out]; exact bdrewN hB3 _⟩
      · have hdx : decide (x ≤ y) = false := decide_eq_false hle
        have HK2 : Hid (∀ m, 1 ≤ m → m < k + 1 → m < bn → b.getD (m - 1) 0 < b.getD m 0) := fun m h1 h2 h3 => by
          by_cases e : m = k
          · subst e; rw [show m - 1 = k' by have := Hk'.out; omega, ← Hx.out, ← Hy.out]; omega
          · exact HK.out m h1 (by omega) h3
        clear hle HK
        go_wp2
        go_quiet (fail)
        go_wp2
        go_roundw
        case rel => exact ⟨k + 1, by go_num, by omega, .inl (by omega), HK2, bdrewN hB3 _⟩
        case measure => simp [intOf]; omega
    · have hdk : decide ((k : Int) < (bn : Int)) = false := by simp; omega
      have hb0 : riB b = true := riB_yes (fun m h1 h2 => HK.out m h1 (by omega) (by omega))
      obtain rfl : z = true := by rw [← HZ.out, hb0]
      clear hb0
      go_wp2
      go_ret
      exact ⟨rfl, by rw [← Hw1.out]; exact hB3⟩
set_option maxRecDepth 100000 in
set_option maxHeartbeats 4000000 in
theorem Check_far (p : Int) (u : Value) (w : World) (n c : Nat) (a : Option Addr) (hu : u = .slice a n c) (h : p < 1 ∨ 60 < p) : Calls Tryd.prog 34 #[.int .i64 p, u] w fun e w' => e = .returned (.int .i64 1) ∧ Below w.heap.size w w' := by
  subst hu
  by_cases h1 : p < 1
  · have d1 : decide (p < 1) = true := decide_eq_true h1
    clear h h1
    go_enter Tryd.func34, Tryd.ntmps34
    go_wp2
    go_ret
    exact ⟨rfl, Below.refl _ _⟩
  · have d1 : decide (p < 1) = false := decide_eq_false h1
    have h2 : 60 < p := by omega
    have d2 : decide (60 < p) = true := decide_eq_true h2
    clear h h1 h2
    go_enter Tryd.func34, Tryd.ntmps34
    go_wp2
    go_ret
    exact ⟨rfl, Below.refl _ _⟩
set_option maxRecDepth 100000 in
set_option maxHeartbeats 4000000 in
theorem Check_near (p : Int) (b : List Int) (u : Value) (w : World) (hu : Sl w u b) (hbl : b.length ≤ maxLen) (h1 : 1 ≤ p) (h2 : p ≤ 60) :
    Calls Tryd.prog 34 #[.int .i64 p, u] w fun e w' => e = .returned (.int .i64 (bF p b : Int)) ∧ Below w.heap.size w w' := by
  have HR : Hid (∀ W, Below w.heap.size w W → Calls Tryd.prog 51 #[u] W fun e w' => e = .returned (.bool (riB b)) ∧ Below W.heap.size W w') := fun W bW => rises_any b u W (hu.below bW) hbl
  unfold maxLen at hbl
  obtain ⟨ua, uc, rfl, hub⟩ := hu
  have HUB : Hid (∀ j, j < b.length → ∃ g o, ua = some ⟨g, o, none⟩ ∧ ∀ W, Below w.heap.size w W → W.cell? ⟨g, o + j, none⟩ = some (.int .i64 (b.getD j 0))) := fun j hj => by
    obtain ⟨g, o, e, hc⟩ := hub j hj
    exact ⟨g, o, e, fun W bW => (bW.cell (World.block_lt_of_cell? _ _ hc)).trans hc⟩
  obtain ⟨w1, Hw1⟩ : ∃ w1 : World, Hid (w1 = w) := ⟨_, rfl⟩
  rw [← Hw1.out] at HUB
  rw [← Hw1.out] at HR
  obtain ⟨z, HZ⟩ : ∃ z, Hid (bF p b = z) := ⟨_, rfl⟩
  rw [HZ.out]
  generalize hbn : b.length = bn at *
  have d1 : decide (p < 1) = false := by simp; omega
  have d2 : decide (60 < p) = false := by simp; omega
  clear hub
  go_enter Tryd.func34, Tryd.ntmps34
  go_wp2
  go_loopw [15] (fun jv wr' => ∃ j : Nat, jv = .int .i64 (j : Int) ∧ j ≤ bn ∧ Hid (∀ m, m < j → 0 ≤ b.getD m 0 ∧ b.getD m 0 < p) ∧ Below w1.heap.size w1 wr') (fun jv _ => (bn - intOf jv).toNat)
  case atStart => exact ⟨0, rfl, by omega, (show ∀ m, m < 0 → _ from fun m h => by omega), by rw [Hw1.out]; exact Below.refl _ _⟩
  case round =>
    obtain ⟨j, rfl, hj, HJ, hB2⟩ := hrel
    by_cases hlj : j < bn
    · have hdj : decide ((j : Int) < (bn : Int)) = true := by simp; omega
      have hji : (j : Int) < (bn : Int) := by omega
      obtain ⟨g, o, rfl, hcj0⟩ := HUB.out j hlj
      have hcj := hcj0 _ hB2
      obtain ⟨x, Hx⟩ : ∃ x, Hid (x = b.getD j 0) := ⟨_, (rfl : b.getD j 0 = b.getD j 0)⟩
      rw [← Hx.out] at hcj
      by_cases hneg : x < 0
      · have hb1 : bF p b = 1 := bF_out (j := j) (by omega) (by rw [← Hx.out]; omega)
        obtain rfl : z = 1 := by rw [← HZ.out, hb1]
        have hdx : decide (x < 0) = true := decide_eq_true hneg
        clear hneg hb1 hcj0
        go_wp2
        go_ret
        exact ⟨rfl, by rw [← Hw1.out]; exact hB2⟩
      · have hdx : decide (x < 0) = false := decide_eq_false hneg
        by_cases hge : p ≤ x
        · have hb1 : bF p b = 1 := bF_out (j := j) (by omega) (by rw [← Hx.out]; omega)
          obtain rfl : z = 1 := by rw [← HZ.out, hb1]
          have hdx2 : decide (p ≤ x) = true := decide_eq_true hge
          clear hneg hge hb1 hcj0
          go_wp2
          go_ret
          exact ⟨rfl, by rw [← Hw1.out]; exact hB2⟩
        · have hdx2 : decide (p ≤ x) = false := decide_eq_false hge
          have HJ2 : Hid (∀ m, m < j + 1 → 0 ≤ b.getD m 0 ∧ b.getD m 0 < p) := fun m hm => by
            by_cases e : m = j
            · subst e; rw [← Hx.out]; omega
            · exact HJ.out m (by omega)
          clear hneg hge HJ hcj0
          go_wp2
          go_roundw
          case rel => exact ⟨j + 1, by go_num, by omega, HJ2, hB2⟩
          case measure => simp [intOf]; omega
    · have hdj : decide ((j : Int) < (bn : Int)) = false := by simp; omega
      obtain rfl : j = bn := by omega
      clear hlj
      have hR := HR.out _ hB2
      have hzz : bF p b = if riB b = true then 0 else 2 := bF_riB (by rw [hbn]; exact HJ.out)
      cases hr : riB b
      · rw [hr] at hR hzz
        obtain rfl : z = 2 := by rw [← HZ.out, hzz]; rfl
        clear hr hzz HR HUB
        go_wp2_with (first
          | (go_at_call 51; refine hR.mono ?_; rintro e w2 ⟨rfl, hb⟩; clear hR)
          | go_in)
        go_ret
        exact ⟨rfl, by rw [← Hw1.out]; exact hB2.trans (hb.mono hB2.size)⟩
      · rw [hr] at hR hzz
        obtain rfl : z = 0 := by rw [← HZ.out, hzz]; rfl
        clear hr hzz HR HUB
        go_wp2_with (first
          | (go_at_call 51; refine hR.mono ?_; rintro e w2 ⟨rfl, hb⟩; clear hR)
          | go_in)
        go_ret
        exact ⟨rfl, by rw [← Hw1.out]; exact hB2.trans (hb.mono hB2.size)⟩

theorem CheckS_any (p : Int) (b : List Int) (u : Value) (w : World) (hu : Sl w u b) (hbl : b.length ≤ maxLen) :
    Calls Tryd.prog 34 #[.int .i64 p, u] w fun e w' => e = .returned (.int .i64 (sF p b : Int)) ∧ Below w.heap.size w w' := by
  by_cases h : p < 1 ∨ 60 < p
  · rw [show sF p b = 1 from if_pos h]
    obtain ⟨a, c, rfl, _⟩ := hu
    exact Check_far p _ w _ c a rfl h
  · rw [show sF p b = bF p b from if_neg h]
    exact Check_near p b u w hu hbl (by omega) (by omega)

end Go.Proofs.YtcjkcgfohmhbcabDoor

/- Which of two lists comes first: the walks of the library's Compare and of the document's Ahead. -/
namespace Go.Proofs.YtcjkcgfohmhbcabDoor
open Go.RowKit

theorem sl_at {w : World} {u : Value} {s : List Nat} (h : Sl w u (s.map Int.ofNat)) : ∃ a cap, u = .slice a s.length cap ∧ ∀ i, i < s.length → ∃ b off, a = some ⟨b, off, none⟩ ∧ w.cell? ⟨b, off + i, none⟩ = some (.int .i64 ((s.getD i 0 : Nat) : Int)) := by
  obtain ⟨a, cap, rfl, h⟩ := h
  refine ⟨a, cap, by simp, fun i hi => ?_⟩
  obtain ⟨b, off, e, hc⟩ := h i (by simpa using hi)
  refine ⟨b, off, e, hc.trans ?_⟩
  simp [List.getD_eq_getElem?_getD, List.getElem?_eq_getElem hi]
end Go.Proofs.YtcjkcgfohmhbcabDoor

/- The walk of the document's Sorted. -/
namespace Go.Proofs.YtcjkcgfohmhbcabDoor
open Go.RowKit

end Go.Proofs.YtcjkcgfohmhbcabDoor

namespace Go.Proofs.YtcjkcgfohmhbcabDoor
open Go.RowKit

theorem take_up {D : List Nat} {i : Nat} (h : i < D.length) : D.take (i + 1) = D.take i ++ [D.getD i 0] := by
  rw [List.take_add_one, List.getElem?_eq_getElem h, List.getD_eq_getElem?_getD, List.getElem?_eq_getElem h]; rfl

/-- A row of 60 truths. -/
def zrow (f : Nat → Bool) : Array Value := ((List.range 60).map fun j => Value.bool (f j)).toArray
@[simp] theorem zrow_size (f : Nat → Bool) : (zrow f).size = 60 := by simp [zrow]
theorem zrow_at (f : Nat → Bool) (j : Nat) (h : j < 60) : (zrow f)[j]? = some (.bool (f j)) := by simp [zrow, h]
theorem zrow_set (f : Nat → Bool) (i : Nat) (v : Bool) : (zrow f).setIfInBounds i (.bool v) = zrow (upT f i v) := by
  apply Array.ext_getElem?
  intro j
  rw [Array.getElem?_setIfInBounds]
  by_cases hj : j < 60
  · rw [zrow_at _ _ hj]
    by_cases e : i = j
    · subst e; rw [if_pos rfl, zrow_at _ _ hj, if_pos (by simpa using hj)]; simp [upT]
    · rw [if_neg e, zrow_at _ _ hj]; simp [upT, Ne.symm e]
  · simp [zrow, hj]; omega
theorem zrow_one (f : Nat → Bool) : (zrow f).all (·.oneCell') = true := by
  rw [Array.all_eq_true]
  intro i hi
  have h := zrow_at f i (by simpa using hi)
  rw [Array.getElem?_eq_getElem hi] at h
  rw [Option.some.inj h]; rfl
def ZRow (w : World) (g : Nat) (f : Nat → Bool) : Prop := w.heap[g]? = some (.cells (zrow f) 70 (0, 0))
theorem ZRow.lt {w : World} {g : Nat} {f : Nat → Bool} (h : ZRow w g f) : g < w.heap.size := (Array.getElem?_eq_some_iff.1 h).1
theorem ZRow.cell {w : World} {g : Nat} {f : Nat → Bool} (h : ZRow w g f) (j : Nat) (hj : j < 60) : w.cell? ⟨g, j, none⟩ = some (.bool (f j)) := by
  rw [cell_of_row w g j _ _ _ h, zrow_at _ _ hj]
theorem ZRow.frozen {w : World} {g : Nat} {f : Nat → Bool} (h : ZRow w g f) (j : Nat) : w.frozen? ⟨g, j, none⟩ = false := frozen_of_row w g j _ _ h
theorem ZRow.set {w : World} {g : Nat} {f : Nat → Bool} (h : ZRow w g f) (i : Nat) (v : Bool) : ZRow (w.setCell ⟨g, i, none⟩ (.bool v)) g (upT f i v) := by
  unfold ZRow
  rw [heap_setCell_same w g i _ _ _ h, zrow_set]
theorem ZRow.other {w : World} {g : Nat} {f : Nat → Bool} (h : ZRow w g f) (a : Addr) (v : Value) (hne : g ≠ a.block) : ZRow (w.setCell a v) g f := by
  unfold ZRow
  rw [heap_setCell_other w a g v hne]; exact h
theorem ZRow.below {w w' : World} {g : Nat} {f : Nat → Bool} (h : ZRow w g f) (hb : Below w.heap.size w w') : ZRow w' g f := (hb.block g h.lt).trans h
theorem ZRow.whole {w : World} {g : Nat} {f : Nat → Bool} (h : ZRow w g f) (f' : Nat → Bool) : ZRow (w.setRow g (zrow f')) g f' := setRow_heap w g _ _ _ _ h
theorem ZRow.made (w : World) (f : Nat → Bool) : ZRow (w.alloc (.cells (zrow f) 70)) w.heap.size f := heap_alloc_new w _
theorem bsetRow {B g : Nat} {w0 w : World} (hb : Below B w0 w) (hBg : B ≤ g) (cs : Array Value) : Below B w0 (w.setRow g cs) :=
  ⟨hb.os, hb.tape, hb.output, by simpa using hb.size, fun k hk => (setRow_other w g k cs (by omega)).trans (hb.block k hk)⟩
set_option maxRecDepth 100000 in
theorem undB : Tryd.prog.underlying 70 = some (.array 60 4) := by kernel_rfl
set_option maxRecDepth 100000 in
theorem infB (f : Nat → Bool) : (Tryd.prog.info? 70).map (·.size) = some (zrow f).size := by rw [zrow_size]; kernel_rfl
set_option maxRecDepth 100000 in
theorem post_zrow {fn : Func} {R : Ending → World → Prop} {a : Act} {w : World} {g : Nat} {f : Nat → Bool} (slot : Tmp) (hres : fn.results = #[.cell slot 70])
    (hp : a.tmps.getD slot undef = .pointer (some ⟨g, 0, none⟩)) (hr : ZRow w g f) (hd : a.defers = []) (hR : R (.returned (.agg (zrow f))) w) : bodyPost Tryd.prog fn R .ret a w :=
  bodyPost_ret (results_cell_row hres a.tmps w g 70 (zrow f) (0, 0) _ hp hr undB rfl (infB f)) hd hR
set_option maxRecDepth 100000 in
theorem idxB (f : Nat → Bool) (k : Nat) (h : k < 60) (w : World) : (Instr.index 70 (.agg (zrow f)) (.int .i64 (k : Int))).run Tryd.prog w = .ok (.bool (f k)) w := by
  have hi : (0 : Int) ≤ (k : Int) ∧ (k : Int) < ((60 : Nat) : Int) := by omega
  simp [Instr.index, run_underlying undB, asIntOf, hi, go_sem]
  rw [if_pos h, zrow_at f k h]
  rfl
theorem imF_none (v : Nat) (t s : Nat) : imF v [] t s = fun _ => false := by funext x; simp [imF]
theorem imF_next (v : Nat) (l : List Nat) (t s x : Nat) : upT (imF v l t s) (mvN v t s x) true = imF v (l ++ [x]) t s := by
  funext y
  unfold upT imF
  rw [List.map_append]
  by_cases e : y = mvN v t s x
  · rw [if_pos e]; simp [e]
  · rw [if_neg e]; simp [e]
theorem mv_int {v x t s m : Nat} (hm : x * t = m) : ((m : Int) + (s : Int)).tmod (v : Int) = (mvN v t s x : Int) := by
  unfold mvN
  rw [hm, ← Int.natCast_add, Int.ofNat_tmod]
set_option maxRecDepth 100000 in
set_option maxHeartbeats 8000000 in
theorem image_any (v t s : Nat) (D : List Nat) (u : Value) (w : World) (hG : GoodS v D) (hu : Sl w u (D.map Int.ofNat)) (ht : t < 60) (hs : s < 60) :
    Calls Tryd.prog 35 #[.int .i64 (v : Int), u, .int .i64 (t : Int), .int .i64 (s : Int)] w fun e w' => e = .returned (.agg (zrow (imF v D t s))) ∧ Below w.heap.size w w' := by
  obtain ⟨a, ca, rfl, hA⟩ := sl_at hu
  have hz : ∀ w, (zeroValue 70).run Tryd.prog w = .ok (.agg (zrow fun _ => false)) w := fun w => by kernel_rfl
  have h1 := hG.pos
  have h60 := hG.le
  have hlen := hG.len
  obtain ⟨g, Hg⟩ : ∃ g, Hid (w.heap.size = g) := ⟨_, rfl⟩
  have HA : Hid (∀ i, i < D.length → ∃ b off, a = some ⟨b, off, none⟩ ∧ ∀ W, Below g w W → W.cell? ⟨b, off + i, none⟩ = some (.int .i64 ((D.getD i 0 : Nat) : Int))) := fun i hi => by
    obtain ⟨b, o, e, hc⟩ := hA i hi
    exact ⟨b, o, e, fun W bW => (bW.cell (by rw [← Hg.out]; exact World.block_lt_of_cell? _ _ hc)).trans hc⟩
  have HV : Hid (∀ i, i < D.length → D.getD i 0 < v) := fun i hi => by
    rw [List.getD_eq_getElem?_getD, List.getElem?_eq_getElem hi]; exact hG.lt _ (List.getElem_mem hi)
  have HN : Hid (∀ i, i < D.length → upT (imF v (D.take i) t s) (mvN v t s (D.getD i 0)) true = imF v (D.take (i + 1)) t s) := fun i hi => by rw [imF_next, take_up hi]
  have HE : Hid (imF v (D.take D.length) t s = imF v D t s) := by show imF v (D.take D.length) t s = imF v D t s; rw [List.take_length]
  have hr1 := ZRow.made w (fun _ => false)
  have hr0 := hr1.below (balloc _ (.cells (zrow fun _ => false) 70))
  have hr2 := ZRow.made (w.alloc (.cells (zrow fun _ => false) 70)) (fun _ => false)
  rw [World.size_alloc] at hr2
  have hb0 := Below.next (balloc w (.cells (zrow fun _ => false) 70)) (balloc _ (.cells (zrow fun _ => false) 70))
  rw [Hg.out] at hr0 hr2 hb0 ⊢
  generalize D.length = n at *
  have hv0 : (v : Int) ≠ 0 := by omega
  have hw4 : ¬ v = 0 := by omega
  have hgw : w.heap.size = g := Hg.out
  have h60i : ((60 : Nat) : Int) = 60 := rfl
  clear hu hA hr1
  go_enter Tryd.func35, Tryd.ntmps35
  go_wp2
  (try rw [hgw])
  go_loopw [14] (fun iv wr => ∃ i : Nat, iv = .int .i64 (i : Int) ∧ i ≤ n ∧ ZRow wr g (fun _ => false) ∧ ZRow wr (g + 1) (imF v (D.take i) t s) ∧ Below g w wr) (fun iv _ => (n - intOf iv).toNat)
  case atStart => exact ⟨0, rfl, by omega, hr0, by rw [List.take_zero, imF_none]; exact hr2, hb0⟩
  case round =>
    clear hr0 hr2 hb0 hz
    obtain ⟨i, rfl, hi, hr0, hr2, hB⟩ := hrel
    by_cases hlt : i < n
    · have hii : (i : Int) < n := by omega
      have hdec : decide ((i : Int) < n) = true := by simp; omega
      obtain ⟨b1, o1, rfl, c1⟩ := HA.out i hlt
      replace c1 := c1 _ hB
      have hxv := HV.out i hlt
      have hN := HN.out i hlt
      obtain ⟨x, hx⟩ : ∃ x, D.getD i 0 = x := ⟨_, rfl⟩
      rw [hx] at c1 hxv hN
      obtain ⟨m, hm⟩ : ∃ m, x * t = m := ⟨_, rfl⟩
      have hmi : (x : Int) * (t : Int) = (m : Int) := by rw [← hm]; simp
      have hmb : m ≤ 60 * 60 := by rw [← hm]; exact Nat.mul_le_mul (by omega) (by omega)
      have hmod := mv_int (v := v) (s := s) hm
      obtain ⟨k, Hk⟩ : ∃ k, Hid (mvN v t s x = k) := ⟨_, rfl⟩
      have hkv : k < v := by rw [← Hk.out]; exact Nat.mod_lt _ (by omega)
      rw [Hk.out] at hmod hN
      have hk60 : (k : Int) < 60 := by omega
      have hfz := hr2.frozen k
      have hcm := hr2.cell k (by omega)
      have hset := hr2.set k true
      have hset0 := hr0.other ⟨g + 1, k, none⟩ (.bool true) (by simp)
      have hB2 := hB.setCell (p := ⟨g + 1, k, none⟩) (Nat.le_succ _) (.bool true)
      rw [hN] at hset
      generalize imF v (D.take i) t s k = fk at hcm
      clear hN hx hm HA HV HN HE hr0 hr2 hB hkv
      go_wp2
      go_roundw
      case rel => exact ⟨i + 1, by go_num, by omega, hset0, hset, hB2⟩
      case measure => simp [intOf]; omega
    · have hdec : decide ((i : Int) < n) = false := by simp; omega
      obtain rfl : i = n := by omega
      rw [HE.out] at hr2
      go_wp2_with (first
        | (refine wpList_load_row rfl 70 _ rfl (g + 1) rfl 70 _ (0, 0) _ hr2 undB rfl (infB _) ?_)
        | (refine wpList_store_row rfl 70 _ _ rfl g _ rfl rfl 70 _ hr0 (infB _) (by simp) (zrow_one _) ?_))
      exact post_zrow 8 Tryd.results35 rfl (hr0.whole _) rfl ⟨rfl, bsetRow hB (Nat.le_refl _) _⟩
theorem ran_up (f : Nat → Bool) (k : Nat) : (List.range (k + 1)).filter f = (List.range k).filter f ++ if f k = true then [k] else [] := by
  rw [List.range_succ, List.filter_append]
  cases h : f k <;> simp [h]
set_option maxRecDepth 100000 in
set_option maxHeartbeats 8000000 in
theorem list_any (f : Nat → Bool) (w : World) :
    Calls Tryd.prog 36 #[.agg (zrow f)] w fun e w' => ∃ x, e = .returned x ∧ ORow w' w.heap.size x ((List.range 60).filter f) ∧ Below w.heap.size w w' := by
  obtain ⟨i3, hi3, hz0, hz1, hz2⟩ := info3
  have hr0 := ZRow.made w f
  have hb0 := balloc w (.cells (zrow f) 70)
  obtain ⟨g, Hg⟩ : ∃ g, Hid (w.heap.size = g) := ⟨_, rfl⟩
  have HIx : Hid (∀ k : Nat, k < 60 → ∀ w, (Instr.index 70 (.agg (zrow f)) (.int .i64 (k : Int))).run Tryd.prog w = .ok (.bool (f k)) w) := fun k hk w => idxB f k hk w
  have HU : Hid (∀ k, (List.range (k + 1)).filter f = (List.range k).filter f ++ if f k = true then [k] else []) := ran_up f
  have HLn : Hid (∀ k, ((List.range k).filter f).length ≤ k) := fun k => Nat.le_trans (List.length_filter_le _ _) (by simp)
  rw [Hg.out] at hr0 hb0 ⊢
  obtain ⟨F, HF⟩ : ∃ F : Nat → List Nat, Hid (∀ k, (List.range k).filter f = F k) := ⟨fun k => (List.range k).filter f, fun _ => rfl⟩
  have HU2 : Hid (∀ k, F (k + 1) = F k ++ if f k = true then [k] else []) := fun k => by rw [← HF.out, ← HF.out]; exact HU.out k
  have HL2 : Hid (∀ k, (F k).length ≤ k) := fun k => by rw [← HF.out]; exact HLn.out k
  have HF0 : Hid (F 0 = []) := by show F 0 = []; rw [← HF.out]; rfl
  rw [HF.out]
  have hgw : w.heap.size = g := Hg.out
  clear HU HLn HF
  go_enter Tryd.func36, Tryd.ntmps36
  go_wp2_with (first
    | (refine wpList_load_row rfl 70 _ rfl g rfl 70 _ (0, 0) _ hr0 undB rfl (infB _) ?_))
  clear hr0
  go_loopw [3, 7] (fun ov kv wr => ∃ k : Nat, kv = .int .i64 (k : Int) ∧ k ≤ 60 ∧ ORow wr g ov (F k) ∧ Below g w wr) (fun _ kv _ => (60 - intOf kv).toNat)
  case atStart => exact ⟨0, rfl, by omega, by rw [HF0.out]; exact World.ownsRow_nil _ _ _ _, hb0⟩
  case round =>
    clear hb0
    obtain ⟨k, rfl, hk, hown, hB⟩ := hrel
    have hgs : g ≤ wr.heap.size := by rw [← hgw]; exact hB.size
    by_cases hlt : k < 60
    · have hdi : decide ((k : Int) < 60) = true := by simp; omega
      have hii : (k : Int) < 60 := by omega
      have hix := HIx.out k hlt
      have hU := HU2.out k
      have hL := HL2.out k
      cases hf : f k
      · rw [hf] at hix hU
        have HUU : Hid (F (k + 1) = F k) := by show _ = _; rw [hU]; simp
        clear hU hf HIx HU2 HL2 HF0
        go_wp2
        go_roundw
        case rel => exact ⟨k + 1, by go_num, by omega, by rw [HUU.out]; exact hown, hB⟩
        case measure => simp [intOf]; omega
      · rw [hf] at hix hU
        have HUU : Hid (F (k + 1) = F k ++ [k]) := by show _ = _; rw [hU]; simp
        obtain ⟨l, Hl⟩ : ∃ l, Hid (F k = l) := ⟨_, rfl⟩
        rw [Hl.out] at HUU hL hown
        unfold ORow at hown
        obtain ⟨oa, oc, rfl⟩ := own_form hown
        clear hU hf HIx HU2 HL2 HF0 Hl
        go_wp2_with (first
          | (at_builtin; refine wpList_append_own _ rfl _ _ 23 rfl g 3 i3 (.int .i64 0) 1 8 und22 hi3 hz0 hz1 hz2 rfl (by decide) _ _ _ rfl (hown.alloc _) ⟨wr.heap.size, 0, none⟩ 1 1 [.int .i64 (k : Int)] rfl rfl ?c1 ?c2 ?c3 ?c4 ?c5 ?_)
          | go_in)
        case c1 =>
          intro j u hj
          match j, hj with
          | 0, hj => simp at hj; subst hj; simp [Addr.add]
        case c2 => intro u hu; simp at hu; subst hu; rfl
        case c3 => unfold maxLen; omega
        case c4 => omega
        case c5 => simp; omega
        · intro v' w2 hown' hgrow _
          have hb2 : Below g w w2 := (hB.alloc (by omega) _).grown hgrow (by simp; omega) (fun k hk => (hown.lt k hk).1)
          have hown2 : w2.ownsRow g 3 1 v' (l.length + 1) (((l ++ [k]).map Int.ofNat).map (Value.int .i64)) := by simpa using hown'
          have hown3 : ORow w2 g v' (F (k + 1)) := by
            rw [HUU.out]
            unfold ORow
            rw [List.length_append]
            exact hown2
          clear hown' hown2 hgrow hown hB
          go_wp2
          go_roundw
          case rel => exact ⟨k + 1, by go_num, by omega, hown3, hb2⟩
          case measure => simp [intOf]; omega
    · have hdi : decide ((k : Int) < 60) = false := by simp; omega
      obtain rfl : k = 60 := by omega
      go_wp2
      go_ret
      exact ⟨_, rfl, hown, hB⟩

end Go.Proofs.YtcjkcgfohmhbcabDoor
