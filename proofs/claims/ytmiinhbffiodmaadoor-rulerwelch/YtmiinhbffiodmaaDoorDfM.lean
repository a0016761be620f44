/- Difference sets: what counting says; the multiplier theorem. Nothing of the program. -/
import Derived.Test.YtmiinhbffiodmaaDoorDfH
namespace Go.Proofs.YtmiinhbffiodmaaDoor

theorem mod_le {v a b c : Nat} (h : (c + a) % v = (c + b) % v) (hab : a ≤ b) (hv : b - a < v) : a = b := by
  have h1 := Nat.sub_mod_eq_zero_of_mod_eq h.symm
  rw [Nat.add_sub_add_left, Nat.mod_eq_of_lt hv] at h1
  omega
theorem mod_inj {v a b c : Nat} (h : (c + a) % v = (c + b) % v) (h1 : b - a < v) (h2 : a - b < v) : a = b := by
  rcases Nat.le_total a b with g | g
  · exact mod_le h g h1
  · exact (mod_le h.symm g h2).symm
theorem dS_permF {α : Type} {l m : List α} (h : l.Perm m) (f : α → Nat) : dS l f = dS m f := (h.map f).sum_nat
theorem dS_map {α β : Type} (g : β → α) (f : α → Nat) : ∀ l : List β, dS (l.map g) f = dS l fun b => f (g b)
  | [] => rfl
  | b :: l => by rw [List.map_cons, dS_cons, dS_cons, dS_map g f l]
theorem perm_full {v : Nat} {s : List Nat} (h : Pts v s) (hl : s.length = v) : s.Perm (List.range v) := by
  have h1 := h.filter
  have h2 := h.count
  rw [hl] at h2
  have h3 : ∀ x ∈ List.range v, s.contains x = true := List.countP_eq_length.1 (by rw [h2, List.length_range])
  rw [List.filter_eq_self.2 h3] at h1
  exact h1.symm
theorem nodup_map {σ : Nat → Nat} : ∀ {l : List Nat}, l.Nodup → (∀ a ∈ l, ∀ b ∈ l, σ a = σ b → a = b) → (l.map σ).Nodup
  | [], _, _ => List.nodup_nil
  | a :: l, hn, hi => by
    rw [List.map_cons, List.nodup_cons]
    rw [List.nodup_cons] at hn
    refine ⟨fun h => ?_, nodup_map hn.2 fun x hx y hy => hi x (by simp [hx]) y (by simp [hy])⟩
    obtain ⟨b, hb, e⟩ := List.mem_map.1 h
    exact hn.1 (hi b (by simp [hb]) a (by simp) e ▸ hb)
theorem dS_bij {v : Nat} {σ : Nat → Nat} (h1 : ∀ g, g < v → σ g < v) (h2 : ∀ a b, a < v → b < v → σ a = σ b → a = b) (f : Nat → Nat) : dS (List.range v) (fun g => f (σ g)) = dS (List.range v) f := by
  rw [← dS_map]
  refine dS_permF (perm_full ⟨nodup_map List.nodup_range fun a ha b hb => h2 a b (List.mem_range.1 ha) (List.mem_range.1 hb), fun x hx => ?_⟩ (by simp)) f
  obtain ⟨g, hg, rfl⟩ := List.mem_map.1 hx
  exact h1 g (List.mem_range.1 hg)
/-- All numbers, moved; all numbers, turned round. -/
theorem dS_shift {v : Nat} (hv : 0 < v) (c : Nat) (f : Nat → Nat) : dS (List.range v) (fun x => f ((c + x) % v)) = dS (List.range v) f :=
  dS_bij (σ := fun x => (c + x) % v) (fun g _ => Nat.mod_lt _ hv) (fun a b ha hb h => mod_inj h (by omega) (by omega)) f
theorem dS_turn {v : Nat} (hv : 0 < v) (c : Nat) (f : Nat → Nat) : dS (List.range v) (fun x => f ((c + (v - x)) % v)) = dS (List.range v) f :=
  dS_bij (σ := fun x => (c + (v - x)) % v) (fun g _ => Nat.mod_lt _ hv) (fun a b ha hb h => by have := mod_inj h (by omega) (by omega); omega) f
theorem dS_in {v : Nat} {D : List Nat} (hD : Pts v D) (f : Nat → Nat) : dS (List.range v) (fun x => if D.contains x = true then f x else 0) = dS D f := by
  rw [← dS_permF hD.filter f]
  generalize List.range v = l
  induction l with
  | nil => rfl
  | cons a l ih =>
    rw [dS_cons, ih, List.filter_cons]
    by_cases h : D.contains a = true
    · rw [if_pos h, if_pos h, dS_cons]
    · rw [if_neg h, if_neg h, Nat.zero_add]

/-- How many things of D have one of D behind them by c. -/
def me (v : Nat) (D : List Nat) (c : Nat) : Nat := D.countP fun b => D.contains ((b + c) % v)
def DLev (v : Nat) (D : List Nat) (l : Nat) : Prop := ∀ c, c % v ≠ 0 → me v D c = l
theorem me_mod (v : Nat) (D : List Nat) (c : Nat) : me v D (c % v) = me v D c := by
  unfold me
  congr 1
  funext b
  rw [Nat.add_mod_mod]
theorem me_zero {v : Nat} {D : List Nat} (hD : Pts v D) {c : Nat} (hc : c % v = 0) : me v D c = D.length := by
  rw [← me_mod, hc]
  exact List.countP_eq_length.2 fun b hb => by rw [Nat.add_zero, Nat.mod_eq_of_lt (hD.lt b hb)]; simpa using hb
theorem dS_cnt {α : Type} (p : α → Bool) (l : List α) : l.countP p = dS l fun a => if p a = true then 1 else 0 := (dS_count p l).symm
theorem cnt_k {v : Nat} {D : List Nat} (hD : Pts v D) : dS (List.range v) (fun x => if D.contains x = true then 1 else 0) = D.length := by rw [dS_count]; exact hD.count
/-- All differences together. -/
theorem me_total {v : Nat} {D : List Nat} (hv : 0 < v) (hD : Pts v D) : dS (List.range v) (me v D) = D.length * D.length := by
  have e : dS (List.range v) (me v D) = dS (List.range v) fun c => dS D fun b => if D.contains ((b + c) % v) = true then 1 else 0 := dS_congr fun c _ => dS_cnt _ _
  rw [e, dS_swap, dS_congr fun b _ => (dS_shift hv b fun x => if D.contains x = true then 1 else 0).trans (cnt_k hD), dS_const]
theorem lev_count {v l : Nat} {D : List Nat} (hv : 0 < v) (hD : Pts v D) (hL : DLev v D l) : D.length + l * (v - 1) = D.length * D.length := by
  have h := me_total hv hD
  obtain ⟨n, rfl⟩ : ∃ n, v = n + 1 := ⟨v - 1, by omega⟩
  rw [List.range_succ_eq_map, dS_cons, me_zero hD (by simp), dS_congr (g := fun _ => l) (fun c hc => ?_), dS_const] at h
  · rw [← h]; simp [Nat.mul_comm]
  · obtain ⟨i, hi, rfl⟩ := List.mem_map.1 hc
    have := List.mem_range.1 hi
    exact hL _ (by rw [Nat.mod_eq_of_lt (by omega)]; omega)
theorem me_is {v l : Nat} {D : List Nat} (hD : Pts v D) (hL : DLev v D l) {n : Nat} (hn : D.length = l + n) (c : Nat) : me v D c = l + n * if c % v = 0 then 1 else 0 := by
  by_cases h : c % v = 0
  · rw [me_zero hD h, if_pos h]; omega
  · rw [hL c h, if_neg h]; omega

/-- How many of D, times p, have one of D before them by g. -/
def tG (v p : Nat) (D : List Nat) (g : Nat) : Nat := D.countP fun d => D.contains ((p * d + (v - g)) % v)
theorem tG_mod {v l n p : Nat} {D : List Nat} (hD : Pts v D) (hL : DLev v D l) (hn : D.length = l + n) (hp : PrN p) (hpn : n % p = 0) (g : Nat) : tG v p D g % p = l % p := by
  have h2 := hp.1
  obtain ⟨m, hm⟩ : ∃ m, p = m + 1 := ⟨p - 1, by omega⟩
  have h1 := tF_prime hp D fun x => if D.contains ((x + (v - g)) % v) = true then 1 else 0
  have e1 : (dS D fun d => if D.contains ((p * d + (v - g)) % v) = true then 1 else 0) = tG v p D g := (dS_cnt _ _).symm
  rw [e1] at h1
  rw [← h1]
  have e2 : (tF D p fun x => if D.contains ((x + (v - g)) % v) = true then 1 else 0) = D.length ^ m * l + n * tF D m (fun s => if (s + (v - g)) % v = 0 then 1 else 0) := by
    rw [hm, tF_last]
    have e3 : ∀ s, (dS D fun d => if D.contains ((s + d + (v - g)) % v) = true then 1 else 0) = l + n * if (s + (v - g)) % v = 0 then 1 else 0 := fun s => by
      rw [← me_is hD hL hn, dS_count]
      unfold me
      congr 1
      funext d
      rw [show s + d + (v - g) = d + (s + (v - g)) by omega]
    rw [tF_congr e3, tF_add, tF_const, tF_mul]
  rw [e2, Nat.add_mod, Nat.mul_mod n, hpn, Nat.zero_mul, Nat.zero_mod, Nat.add_zero, Nat.mod_mod]
  have ek : D.length % p = l % p := by rw [hn, Nat.add_mod, hpn, Nat.add_zero, Nat.mod_mod]
  have ef := fermat_k hp D.length
  rw [ek] at ef
  rw [← ef, hm, Nat.pow_succ, Nat.mul_mod, ← hm, ← ek, ← Nat.mul_mod]
theorem tG_total {v p : Nat} {D : List Nat} (hv : 0 < v) (hD : Pts v D) : dS (List.range v) (tG v p D) = D.length * D.length := by
  have e : dS (List.range v) (tG v p D) = dS (List.range v) fun g => dS D fun d => if D.contains ((p * d + (v - g)) % v) = true then 1 else 0 := dS_congr fun c _ => dS_cnt _ _
  rw [e, dS_swap, dS_congr fun d _ => (dS_turn hv (p * d) fun x => if D.contains x = true then 1 else 0).trans (cnt_k hD), dS_const]
theorem dS_two {α : Type} (f : α → Nat) (l : List α) : dS l f * dS l f = dS l fun a => dS l fun b => f a * f b := by
  rw [dS_congr fun a _ => dS_mul (f a) f l, ← dS_mul]
  exact dS_congr fun a _ => Nat.mul_comm _ _
theorem tG_pair {v p : Nat} {D : List Nat} (hv : 0 < v) (hD : Pts v D) {a : Nat} (ha : a < v) (b : Nat) :
    (dS (List.range v) fun g => (if D.contains ((p * a + (v - g)) % v) = true then 1 else 0) * if D.contains ((p * b + (v - g)) % v) = true then 1 else 0) = me v D (p * b + p * (v - a)) := by
  have e : ∀ g, g < v → (if D.contains ((p * b + (v - g)) % v) = true then 1 else 0) = (fun x => if D.contains ((x + (p * b + p * (v - a))) % v) = true then 1 else 0) ((p * a + (v - g)) % v) := fun g _ => by
    show _ = if D.contains (((p * a + (v - g)) % v + (p * b + p * (v - a))) % v) = true then 1 else 0
    rw [Nat.mod_add_mod]
    have : p * a + (v - g) + (p * b + p * (v - a)) = p * b + (v - g) + v * p := by
      have h : p * a + p * (v - a) = v * p := by rw [← Nat.mul_add, show a + (v - a) = v by omega, Nat.mul_comm]
      omega
    rw [this, Nat.add_mul_mod_self_left]
  rw [dS_congr fun g hg => by rw [e g (List.mem_range.1 hg)]]
  rw [dS_turn hv (p * a) fun x => (if D.contains x = true then 1 else 0) * if D.contains ((x + (p * b + p * (v - a))) % v) = true then 1 else 0]
  unfold me
  rw [dS_cnt, ← dS_in hD]
  refine dS_congr fun x _ => ?_
  by_cases h : D.contains x = true
  · rw [if_pos h, if_pos h, Nat.one_mul]
  · rw [if_neg h, if_neg h, Nat.zero_mul]
theorem mul_inj {v p a b : Nat} (hc : Nat.Coprime p v) (ha : a < v) (hb : b < v) (h : (p * a) % v = (p * b) % v) : a = b := by
  have key : ∀ {a b : Nat}, a < v → b < v → (p * a) % v = (p * b) % v → a ≤ b := fun {a b} ha hb h => by
    have h1 := Nat.dvd_of_mod_eq_zero (Nat.sub_mod_eq_zero_of_mod_eq h)
    rw [← Nat.mul_sub] at h1
    have h2 := hc.symm.dvd_of_dvd_mul_left h1
    rcases Nat.eq_zero_or_pos (a - b) with h3 | h3
    · omega
    · have := Nat.le_of_dvd h3 h2; omega
  exact Nat.le_antisymm (key ha hb h) (key hb ha h.symm)
theorem zero_iff {v p a b : Nat} (hc : Nat.Coprime p v) (ha : a < v) (hb : b < v) : (p * b + p * (v - a)) % v = 0 ↔ a = b := by
  have e : ((p * b + p * (v - a)) + p * a) % v = (p * b) % v := by
    have h : p * (v - a) + p * a = v * p := by rw [← Nat.mul_add, show v - a + a = v by omega, Nat.mul_comm]
    rw [Nat.add_assoc, h, Nat.add_mul_mod_self_left]
  constructor
  · intro h
    rw [Nat.add_mod, h, Nat.zero_add, Nat.mod_mod] at e
    exact mul_inj hc ha hb e
  · rintro rfl
    rw [← Nat.mul_add, show a + (v - a) = v by omega]
    exact Nat.mul_mod_left _ _
theorem tG_sq {v l n p : Nat} {D : List Nat} (hv : 0 < v) (hD : Pts v D) (hL : DLev v D l) (hn : D.length = l + n) (hc : Nat.Coprime p v) : (dS (List.range v) fun g => tG v p D g * tG v p D g) = D.length * (D.length * l + n) := by
  have e : (dS (List.range v) fun g => tG v p D g * tG v p D g) = dS (List.range v) fun g => dS D fun a => dS D fun b => (if D.contains ((p * a + (v - g)) % v) = true then 1 else 0) * if D.contains ((p * b + (v - g)) % v) = true then 1 else 0 := dS_congr fun g _ => by
    unfold tG
    rw [dS_cnt, dS_two]
  have key : ∀ a ∈ D, (dS (List.range v) fun g => dS D fun b => (if D.contains ((p * a + (v - g)) % v) = true then 1 else 0) * if D.contains ((p * b + (v - g)) % v) = true then 1 else 0) = D.length * l + n := fun a ha => by
    rw [dS_swap, dS_congr fun b _ => tG_pair hv hD (hD.lt a ha) b, dS_congr (g := fun b => l + n * if (decide (b = a)) = true then 1 else 0) (fun b hb => ?_), dS_add, dS_const, dS_mul, dS_count]
    · have : D.countP (fun b => decide (b = a)) = 1 := by
        have h1 : D.count a = 1 := by rw [List.Nodup.count hD.nd, if_pos ha]
        rw [← h1]
        unfold List.count
        congr 1
      rw [this, Nat.mul_one]
    · rw [me_is hD hL hn]
      congr 2
      by_cases h : b = a
      · rw [if_pos (decide_eq_true h), if_pos ((zero_iff hc (hD.lt a ha) (hD.lt b hb)).2 h.symm)]
      · rw [if_neg fun g => h ((zero_iff hc (hD.lt a ha) (hD.lt b hb)).1 g).symm, if_neg fun g => h (of_decide_eq_true g)]
  rw [e, dS_swap, dS_congr key, dS_const]
theorem perm_sub {A B : List Nat} (hA : A.Nodup) (hB : B.Nodup) (hs : ∀ x ∈ A, x ∈ B) (hl : A.length = B.length) : A.Perm B := by
  have key : ∀ {A B : List Nat}, A.Nodup → (∀ x ∈ A, x ∈ B) → A.length ≤ B.length := fun {A} => by
    induction A with
    | nil => intro B _ _; simp
    | cons a A ih =>
      intro B hA hs
      rw [List.nodup_cons] at hA
      have h1 := ih (B := B.erase a) hA.2 fun x hx => (List.mem_erase_of_ne (a := x) (b := a) fun e => hA.1 (e ▸ hx)).2 (hs x (by simp [hx]))
      have h2 := List.length_erase_of_mem (hs a (by simp))
      have h3 := List.length_pos_of_mem (hs a (by simp))
      simp only [List.length_cons]
      omega
  refine (List.perm_ext_iff_of_nodup hA hB).2 fun x => ⟨hs x, fun hx => Classical.byContradiction fun hn => ?_⟩
  have := key (A := x :: A) (B := B) (List.nodup_cons.2 ⟨hn, hA⟩) fun y hy => by
    rcases List.mem_cons.1 hy with rfl | hy
    · exact hx
    · exact hs y hy
  simp only [List.length_cons] at this
  omega
/-- Hall's multipliers. -/
theorem hall {v l n p : Nat} {D : List Nat} (hv : 2 ≤ v) (hD : Pts v D) (hL : DLev v D l) (hn : D.length = l + n) (h0 : 0 < n) (hp : PrN p) (hlp : l < p) (hpn : n % p = 0) (hvp : v % p ≠ 0) :
    ∃ g, g < v ∧ (D.map fun d => (p * d) % v).Perm (D.map fun d => (d + g) % v) := by
  have hc := hp.cop hvp
  have hp2 := hp.1
  have ht : ∀ g, tG v p D g = l + p * (tG v p D g / p) := fun g => by
    have h1 := tG_mod hD hL hn hp hpn g
    rw [Nat.mod_eq_of_lt hlp] at h1
    have h2 := Nat.mod_add_div (tG v p D g) p
    omega
  generalize hs : (fun g => tG v p D g / p) = s at *
  have hs1 : ∀ g, tG v p D g / p = s g := fun g => by rw [← hs]
  have ht1 : ∀ g, tG v p D g = l + p * s g := fun g => by rw [← hs1]; exact ht g
  have c1 := lev_count (by omega) hD hL
  have c2 := tG_total (p := p) (by omega) hD
  have c3 := tG_sq (by omega) hD hL hn hc
  rw [dS_congr fun g _ => ht1 g, dS_add, dS_const, dS_mul, List.length_range] at c2
  have e3 : (dS (List.range v) fun g => tG v p D g * tG v p D g) = v * (l * l) + 2 * l * p * dS (List.range v) s + p * p * dS (List.range v) fun g => s g * s g := by
    rw [dS_congr (g := fun g => l * l + 2 * l * p * s g + p * p * (s g * s g)) fun g _ => by rw [ht1 g]; grind]
    rw [dS_add, dS_add, dS_const, dS_mul, dS_mul, List.length_range]
  rw [e3] at c3
  generalize hS : dS (List.range v) s = S at *
  generalize hQ : (dS (List.range v) fun g => s g * s g) = Q at *
  have hk0 : l + n = D.length := hn.symm
  generalize hkk : D.length = k at *
  obtain ⟨u, rfl⟩ : ∃ u, v = u + 1 := ⟨v - 1, by omega⟩
  rw [Nat.add_sub_cancel] at c1
  have e4 : p * S = n := by
    have : (u + 1) * l = l * u + l := by rw [Nat.add_mul, Nat.one_mul, Nat.mul_comm]
    omega
  have e5 : p * p * Q = n * n := by subst hn; grind
  have e6 : Q = S * S := by
    have : p * p * Q = p * p * (S * S) := by rw [e5, ← e4]; grind
    exact Nat.eq_of_mul_eq_mul_left (Nat.mul_pos (by omega) (by omega)) this
  have hS0 : 0 < S := by
    rcases Nat.eq_zero_or_pos S with h | h
    · rw [h, Nat.mul_zero] at e4; omega
    · exact h
  obtain ⟨g, hg, hg2⟩ := dS_sq_one (f := s) (l := List.range (u + 1)) (by rw [hS, hQ]; exact e6) (by rw [hS]; exact hS0)
  rw [hS] at hg2
  have hg := List.mem_range.1 hg
  have hk : tG (u + 1) p D g = D.length := by rw [ht1 g, hg2, e4, hk0, hkk]
  have hall : ∀ d ∈ D, D.contains ((p * d + (u + 1 - g)) % (u + 1)) = true := List.countP_eq_length.1 hk
  refine ⟨g, hg, perm_sub (nodup_map hD.nd fun a ha b hb => mul_inj hc (hD.lt a ha) (hD.lt b hb)) (nodup_map hD.nd fun a ha b hb h => ?_) (fun x hx => ?_) (by simp)⟩
  · rw [Nat.add_comm a, Nat.add_comm b] at h
    have := hD.lt a ha
    have := hD.lt b hb
    exact mod_inj h (by omega) (by omega)
  · obtain ⟨d, hd, rfl⟩ := List.mem_map.1 hx
    refine List.mem_map.2 ⟨_, by simpa using hall d hd, ?_⟩
    show ((p * d + (u + 1 - g)) % (u + 1) + g) % (u + 1) = _
    rw [Nat.mod_add_mod, show p * d + (u + 1 - g) + g = p * d + (u + 1) by omega, Nat.add_mod_right]
end Go.Proofs.YtmiinhbffiodmaaDoor
