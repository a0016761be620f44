/- Rao's bound, counted. Nothing of the program. -/
import Derived.Test.YtjfjdidibglhaabRaR
namespace Go.Proofs.Ytjfjdidibglhaab

/-- Ways to choose, by Pascal. -/
def chB : Nat → Nat → Nat
  | _, 0 => 1
  | 0, _ + 1 => 0
  | n + 1, k + 1 => chB n k + chB n (k + 1)
theorem chB_zero (n : Nat) : chB n 0 = 1 := by cases n <;> rfl
theorem chB_pas (n k : Nat) : chB (n + 1) (k + 1) = chB n k + chB n (k + 1) := rfl
theorem chB_gt : ∀ {n k : Nat}, n < k → chB n k = 0
  | _, 0, h => by omega
  | 0, k + 1, _ => rfl
  | n + 1, k + 1, h => by rw [chB_pas, chB_gt (by omega), chB_gt (by omega)]
theorem chB_pos : ∀ {n k : Nat}, k ≤ n → 1 ≤ chB n k
  | n, 0, _ => by rw [chB_zero]; omega
  | 0, k + 1, h => by omega
  | n + 1, k + 1, h => by
    rw [chB_pas]
    have := chB_pos (n := n) (k := k) (by omega)
    omega
theorem chB_self : ∀ n, chB n n = 1
  | 0 => rfl
  | n + 1 => by rw [chB_pas, chB_self n, chB_gt (by omega)]
theorem chB_step : ∀ {n k : Nat}, k ≤ n → chB n (k + 1) * (k + 1) = chB n k * (n - k)
  | 0, 0, _ => rfl
  | 0, k + 1, h => by omega
  | n + 1, 0, _ => by
    rw [chB_pas, chB_zero, chB_zero]
    have := chB_step (n := n) (k := 0) (by omega)
    rw [chB_zero] at this
    omega
  | n + 1, k + 1, h => by
    have h2 := chB_step (n := n) (k := k) (by omega)
    rw [chB_pas, chB_pas]
    by_cases e : k + 1 ≤ n
    · have h1 := chB_step (n := n) (k := k + 1) e
      obtain ⟨d, rfl⟩ : ∃ d, n = k + 1 + d := ⟨n - (k + 1), by omega⟩
      have e1 : k + 1 + d - (k + 1) = d := by omega
      have e2 : k + 1 + d - k = d + 1 := by omega
      have e3 : k + 1 + d + 1 - (k + 1) = d + 1 := by omega
      rw [e1] at h1
      rw [e2] at h2
      rw [e3]
      grind
    · obtain rfl : n = k := by omega
      rw [chB_gt (show n < n + 1 by omega), chB_gt (show n < n + 1 + 1 by omega)]
      simp
theorem chB_le : ∀ n k, chB n k ≤ 2 ^ n
  | n, 0 => by rw [chB_zero]; exact Nat.one_le_two_pow
  | 0, k + 1 => by show 0 ≤ _; omega
  | n + 1, k + 1 => by
    rw [chB_pas, Nat.pow_succ]
    have := chB_le n k
    have := chB_le n (k + 1)
    omega
/-- The sum to u. -/
def raS (k s : Nat) : Nat → Nat
  | 0 => 1
  | u + 1 => raS k s u + (s - 1) ^ (u + 1) * chB k (u + 1)
def raN (k s t : Nat) : Nat := if t % 2 = 1 then raS k s (t / 2) + (s - 1) ^ (t / 2 + 1) * chB (k - 1) (t / 2) else raS k s (t / 2)
theorem raS_pas (k s : Nat) : ∀ u, raS (k + 1) s (u + 1) = raS k s (u + 1) + (s - 1) * raS k s u
  | 0 => by
    simp only [raS, chB_pas, chB_zero]
    grind
  | u + 1 => by
    rw [raS, raS_pas k s u, chB_pas, raS]
    have e : raS k s (u + 1 + 1) = raS k s (u + 1) + (s - 1) ^ (u + 1 + 1) * chB k (u + 1 + 1) := rfl
    rw [e, raS]
    have : (s - 1) ^ (u + 1 + 1) = (s - 1) * (s - 1) ^ (u + 1) := by rw [Nat.pow_succ, Nat.mul_comm]
    rw [this]
    generalize (s - 1) ^ (u + 1) = p
    grind
theorem raS_none (s : Nat) : ∀ u, raS 0 s u = 1
  | 0 => rfl
  | u + 1 => by rw [raS, raS_none s u, chB_gt (by omega)]; simp
/-- Choices of contrasts with at most u columns that are not 0. -/
def alL (s : Nat) : Nat → Nat → List (List Nat)
  | 0, _ => [[]]
  | k + 1, 0 => (alL s k 0).map (fun a => 0 :: a)
  | k + 1, u + 1 => (alL s k (u + 1)).map (fun a => 0 :: a) ++ (List.range (s - 1)).flatMap fun y => (alL s k u).map (fun a => (y + 1) :: a)
theorem flat_len2 (l : List (List Nat)) (f : Nat → Nat) : ∀ n : Nat, ((List.range n).flatMap fun y => l.map (f y :: ·)).length = n * l.length
  | 0 => by simp
  | n + 1 => by rw [List.range_succ, List.flatMap_append, List.length_append, flat_len2 l f n]; simp [Nat.add_mul]
theorem alL_len (s : Nat) : ∀ k u, (alL s k u).length = raS k s u
  | 0, u => by rw [raS_none]; rfl
  | k + 1, 0 => by
    rw [alL, List.length_map, alL_len s k 0]
    rfl
  | k + 1, u + 1 => by
    rw [alL, List.length_append, List.length_map, alL_len s k (u + 1), flat_len2, alL_len s k u, raS_pas]
theorem alL_is {s : Nat} (hs : 0 < s) : ∀ {k u : Nat} {a : List Nat}, a ∈ alL s k u → a.length = k ∧ (∀ c, c < k → a.getD c 0 < s) ∧ (List.range k).countP (fun c => decide (a.getD c 0 ≠ 0)) ≤ u
  | 0, u, a, h => by
    obtain rfl : a = [] := by simpa [alL] using h
    exact ⟨rfl, fun c hc => by omega, by simp⟩
  | k + 1, u, a, h => by
    have cnt : ∀ (y : Nat) (b : List Nat), (List.range (k + 1)).countP (fun c => decide ((y :: b).getD c 0 ≠ 0)) = (if y ≠ 0 then 1 else 0) + (List.range k).countP fun c => decide (b.getD c 0 ≠ 0) := fun y b => by
      rw [List.range_succ_eq_map, List.countP_cons, List.countP_map]
      have e : ((fun c => decide ((y :: b).getD c 0 ≠ 0)) ∘ Nat.succ) = fun c => decide (b.getD c 0 ≠ 0) := funext fun c => by simp
      rw [e]
      simp
      omega
    have lev : ∀ (y : Nat) (b : List Nat), y < s → (∀ c, c < k → b.getD c 0 < s) → ∀ c, c < k + 1 → (y :: b).getD c 0 < s := fun y b hy hb c hc => by
      cases c with
      | zero => exact hy
      | succ c => simpa using hb c (by omega)
    have zero : ∀ u, a ∈ (alL s k u).map (fun a => 0 :: a) → a.length = k + 1 ∧ (∀ c, c < k + 1 → a.getD c 0 < s) ∧ (List.range (k + 1)).countP (fun c => decide (a.getD c 0 ≠ 0)) ≤ u := fun u h => by
      obtain ⟨b, hb, rfl⟩ := List.mem_map.1 h
      obtain ⟨h1, h2, h3⟩ := alL_is hs hb
      refine ⟨by rw [List.length_cons, h1], lev 0 b hs h2, ?_⟩
      rw [cnt, if_neg (by simp)]
      omega
    cases u with
    | zero => exact zero 0 h
    | succ u =>
      rw [alL, List.mem_append] at h
      rcases h with h | h
      · exact zero _ h
      · obtain ⟨y, hy, h⟩ := List.mem_flatMap.1 h
        have hy := List.mem_range.1 hy
        obtain ⟨b, hb, rfl⟩ := List.mem_map.1 h
        obtain ⟨h1, h2, h3⟩ := alL_is hs hb
        refine ⟨by rw [List.length_cons, h1], lev (y + 1) b (by omega) h2, ?_⟩
        rw [cnt, if_pos (by omega)]
        omega
theorem map_nd {l : List (List Nat)} (h : l.Nodup) (y : Nat) : (l.map (y :: ·)).Nodup := by
  unfold List.Nodup
  rw [List.pairwise_map]
  exact h.imp fun hne e => hne (List.cons.inj e).2
theorem flat_nd {l : List (List Nat)} (h : l.Nodup) {f : Nat → Nat} (hf : ∀ a b, f a = f b → a = b) : ∀ n, ((List.range n).flatMap fun y => l.map (f y :: ·)).Nodup
  | 0 => by simp
  | n + 1 => by
    rw [List.range_succ, List.flatMap_append, List.nodup_append]
    refine ⟨flat_nd h hf n, by simpa using map_nd h (f n), fun a ha b hb e => ?_⟩
    obtain ⟨y, hy, ha⟩ := List.mem_flatMap.1 ha
    obtain ⟨a', _, rfl⟩ := List.mem_map.1 ha
    obtain ⟨z, hz, hb⟩ := List.mem_flatMap.1 hb
    obtain ⟨b', _, rfl⟩ := List.mem_map.1 hb
    obtain rfl : z = n := by simpa using hz
    have := hf _ _ (List.cons.inj e).1
    have := List.mem_range.1 hy
    omega
theorem alL_nd (s : Nat) : ∀ k u, (alL s k u).Nodup
  | 0, u => by simp [alL]
  | k + 1, 0 => map_nd (alL_nd s k 0) 0
  | k + 1, u + 1 => by
    rw [alL, List.nodup_append]
    refine ⟨map_nd (alL_nd s k (u + 1)) 0, flat_nd (alL_nd s k u) (fun a b h => by omega) _, fun a ha b hb e => ?_⟩
    obtain ⟨a', _, rfl⟩ := List.mem_map.1 ha
    obtain ⟨z, hz, hb⟩ := List.mem_flatMap.1 hb
    obtain ⟨b', _, rfl⟩ := List.mem_map.1 hb
    have := (List.cons.inj e).1
    omega
theorem cnt_or (p q : Nat → Bool) : ∀ l : List Nat, l.countP (fun c => p c || q c) ≤ l.countP p + l.countP q
  | [] => by simp
  | c :: l => by
    rw [List.countP_cons, List.countP_cons, List.countP_cons]
    have := cnt_or p q l
    cases p c <;> cases q c <;> simp <;> omega
theorem nz_le (k : Nat) (a b : List Nat) : nzN k a b ≤ (List.range k).countP (fun c => decide (a.getD c 0 ≠ 0)) + (List.range k).countP fun c => decide (b.getD c 0 ≠ 0) := cnt_or _ _ _
/-- RAO: there are as many runs, or more. -/
theorem rao_le {s k t : Nat} {R : List (Nat → Nat)} (hs : 0 < s) (hr : Lvl s k R) (ht : t ≤ k) (h : Str s k R t) (h0 : 0 < R.length) : raN k s t ≤ R.length := by
  unfold raN
  by_cases e : t % 2 = 1
  · rw [if_pos e]
    obtain ⟨m, rfl⟩ : ∃ m, k = m + 1 := ⟨k - 1, by omega⟩
    obtain ⟨u, hu⟩ : ∃ u, u = t / 2 := ⟨_, rfl⟩
    rw [← hu, Nat.add_sub_cancel]
    have key : raS (m + 1) s u + (s - 1) ^ (u + 1) * chB m u = s * raS m s u := by
      obtain ⟨q, rfl⟩ : ∃ q, s = q + 1 := ⟨s - 1, by omega⟩
      cases u with
      | zero => simp only [raS, chB_zero]; simp; omega
      | succ u =>
        rw [raS_pas]
        have e2 : raS m (q + 1) (u + 1) = raS m (q + 1) u + (q + 1 - 1) ^ (u + 1) * chB m (u + 1) := rfl
        rw [Nat.add_sub_cancel] at e2 ⊢
        have : q ^ (u + 1 + 1) = q * q ^ (u + 1) := by rw [Nat.pow_succ, Nat.mul_comm]
        rw [this]
        generalize q ^ (u + 1) = p at *
        generalize raS m (q + 1) (u + 1) = A at *
        subst e2
        grind
    have hlen : ((List.range s).flatMap fun y => (alL s m u).map (y :: ·)).length = s * raS m s u := by
      rw [flat_len2 _ (fun y => y), alL_len]
    rw [key, ← hlen]
    have cnt : ∀ a b : List Nat, nzN (m + 1) a b ≤ 1 + nzN m a.tail b.tail := fun a b => by
      unfold nzN
      rw [List.range_succ_eq_map, List.countP_cons, List.countP_map]
      have e : ((fun c => decide (a.getD c 0 ≠ 0) || decide (b.getD c 0 ≠ 0)) ∘ Nat.succ) = fun c => decide (a.tail.getD c 0 ≠ 0) || decide (b.tail.getD c 0 ≠ 0) := funext fun c => by
        have g : ∀ l : List Nat, l.getD (c + 1) 0 = l.tail.getD c 0 := fun l => by cases l <;> simp
        simp only [Function.comp, Nat.succ_eq_add_one, g]
      rw [e]
      split <;> omega
    have part : ∀ a, a ∈ ((List.range s).flatMap fun y => (alL s m u).map (y :: ·)) → ∃ y b, y < s ∧ b ∈ alL s m u ∧ a = y :: b := fun a ha => by
      obtain ⟨y, hy, ha⟩ := List.mem_flatMap.1 ha
      obtain ⟨b, hb, rfl⟩ := List.mem_map.1 ha
      exact ⟨y, b, List.mem_range.1 hy, hb, rfl⟩
    refine rao_any hs hr ht h h0 (flat_nd (alL_nd s m u) (f := fun y => y) (fun _ _ h => h) s) (fun a ha => ?_) (fun a ha c hc => ?_) (fun a ha b hb => ?_)
    · obtain ⟨y, b, _, hb, rfl⟩ := part a ha
      rw [List.length_cons, (alL_is hs hb).1]
    · obtain ⟨y, b, hy, hb, rfl⟩ := part a ha
      cases c with
      | zero => exact hy
      | succ c => simpa using (alL_is hs hb).2.1 c (by omega)
    · obtain ⟨y, a, _, ha', rfl⟩ := part a ha
      obtain ⟨z, b, _, hb', rfl⟩ := part b hb
      have h1 := cnt (y :: a) (z :: b)
      have h2 := nz_le m a b
      have h3 := (alL_is hs ha').2.2
      have h4 := (alL_is hs hb').2.2
      simp only [List.tail_cons] at h1
      omega
  · rw [if_neg e, ← alL_len]
    refine rao_any hs hr ht h h0 (alL_nd _ _ _) (fun a ha => (alL_is hs ha).1) (fun a ha => (alL_is hs ha).2.1) fun a ha b hb => ?_
    have h2 := nz_le k a b
    have h3 := (alL_is hs ha).2.2
    have h4 := (alL_is hs hb).2.2
    omega
end Go.Proofs.Ytjfjdidibglhaab
