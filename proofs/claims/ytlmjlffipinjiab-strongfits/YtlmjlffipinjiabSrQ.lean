/- The graph of a Latin square is strong. Nothing of the program. -/
import Derived.Test.YtlmjlffipinjiabSrL
namespace Go.Proofs.Ytlmjlffipinjiab
section
theorem sR_app (F : Nat → Int) (m : Nat) : ∀ n, sR (m + n) F = sR m F + sR n fun j => F (m + j)
  | 0 => by rw [Nat.add_zero, sR]; omega
  | n + 1 => by rw [← Nat.add_assoc, sR, sR, sR_app F m n]; omega
theorem sR_grid (F : Nat → Int) (n : Nat) : ∀ k, sR (k * n) F = sR k fun i => sR n fun j => F (i * n + j)
  | 0 => by rw [Nat.zero_mul]; rfl
  | k + 1 => by rw [Nat.succ_mul, sR_app, sR_grid F n k, sR]
theorem sR_uniq {n j0 : Nat} {f : Nat → Int} (h0 : j0 < n) (h1 : f j0 = 1) (h : ∀ j, j < n → j ≠ j0 → f j = 0) : sR n f = 1 := by
  have e := sR_id (fun _ => 1) j0 n
  rw [if_pos h0] at e
  rw [← e]
  exact sR_congr fun j hj => by
    unfold idR
    by_cases k : j0 = j
    · subst k; rw [if_pos rfl, h1]; decide
    · rw [if_neg k, h j hj fun q => k q.symm]; decide
theorem cell_div {n i j : Nat} (hj : j < n) : (i * n + j) / n = i ∧ (i * n + j) % n = j := by
  have hn : 0 < n := by omega
  constructor
  · rw [Nat.mul_comm, Nat.mul_add_div hn, Nat.div_eq_of_lt hj, Nat.add_zero]
  · rw [Nat.mul_comm, Nat.mul_add_mod, Nat.mod_eq_of_lt hj]
variable {n : Nat} {s : Nat → Nat → Nat}
/-- Just one in each row and in each column. -/
structure LatU (n : Nat) (s : Nat → Nat → Nat) : Prop where
  lt : ∀ i j, i < n → j < n → s i j < n
  row : ∀ i x, i < n → x < n → ∃ j, j < n ∧ s i j = x ∧ ∀ k, k < n → s i k = x → k = j
  col : ∀ j x, j < n → x < n → ∃ i, i < n ∧ s i j = x ∧ ∀ k, k < n → s k j = x → k = i
def roG (n c : Nat) : Nat := c / n
def coG (n c : Nat) : Nat := c % n
def nuG (n : Nat) (s : Nat → Nat → Nat) (c : Nat) : Nat := s (c / n) (c % n)
theorem cell_ltQ {n a : Nat} (ha : a < n * n) : a / n < n ∧ a % n < n := by
  have hn : 0 < n := by
    rcases Nat.eq_zero_or_pos n with h | h
    · subst h; omega
    · exact h
  exact ⟨Nat.div_lt_of_lt_mul ha, Nat.mod_lt _ hn⟩
theorem ro_at (n a : Nat) {i j : Nat} (hj : j < n) : akG (roG n) a (i * n + j) = if a / n = i then 1 else 0 := by
  unfold akG roG
  rw [(cell_div hj).1]
theorem co_at (n a : Nat) {i j : Nat} (hj : j < n) : akG (coG n) a (i * n + j) = if a % n = j then 1 else 0 := by
  unfold akG coG
  rw [(cell_div hj).2]
theorem nu_at (a : Nat) {i j : Nat} (hj : j < n) : akG (nuG n s) a (i * n + j) = if nuG n s a = s i j then 1 else 0 := by
  unfold akG
  rw [show nuG n s (i * n + j) = s i j by unfold nuG; rw [(cell_div hj).1, (cell_div hj).2]]
theorem lat_crs (L : LatU n s) : Crs (n * n) (roG n) (coG n) ∧ Crs (n * n) (roG n) (nuG n s) ∧ Crs (n * n) (coG n) (nuG n s) := by
  refine ⟨fun a b ha hb => ?_, fun a b ha hb => ?_, fun a b ha hb => ?_⟩
  · obtain ⟨a1, a2⟩ := cell_ltQ ha
    obtain ⟨b1, b2⟩ := cell_ltQ hb
    rw [sR_grid]
    refine sR_uniq a1 (sR_uniq b2 ?_ fun j hj hne => ?_) fun i _ hne => ?_
    · rw [ro_at n a b2, co_at n b b2, if_pos rfl, if_pos rfl]; decide
    · rw [ro_at n a hj, co_at n b hj, if_neg (c := b % n = j) fun q => hne q.symm]; omega
    · rw [← sR_nil n]
      exact sR_congr fun j hj => by rw [ro_at n a hj, if_neg fun q => hne q.symm]; omega
  · obtain ⟨a1, a2⟩ := cell_ltQ ha
    obtain ⟨b1, b2⟩ := cell_ltQ hb
    have hx : nuG n s b < n := L.lt _ _ b1 b2
    obtain ⟨j0, h0, e0, u0⟩ := L.row (a / n) _ a1 hx
    rw [sR_grid]
    refine sR_uniq a1 (sR_uniq h0 ?_ fun j hj hne => ?_) fun i _ hne => ?_
    · rw [ro_at n a h0, nu_at b h0, if_pos rfl, if_pos e0.symm]; decide
    · rw [ro_at n a hj, nu_at b hj, if_neg (c := nuG n s b = s (a / n) j) fun q => hne (u0 j hj q.symm)]; omega
    · rw [← sR_nil n]
      exact sR_congr fun j hj => by rw [ro_at n a hj, if_neg fun q => hne q.symm]; omega
  · obtain ⟨a1, a2⟩ := cell_ltQ ha
    obtain ⟨b1, b2⟩ := cell_ltQ hb
    have hx : nuG n s b < n := L.lt _ _ b1 b2
    obtain ⟨i0, h0, e0, u0⟩ := L.col (a % n) _ a2 hx
    rw [sR_grid, sR_swap]
    refine sR_uniq a2 (sR_uniq h0 ?_ fun i hi hne => ?_) fun j hj hne => ?_
    · rw [co_at n a a2, nu_at b a2, if_pos rfl, if_pos e0.symm]; decide
    · rw [co_at n a a2, nu_at b a2, if_neg (c := nuG n s b = s i (a % n)) fun q => hne (u0 i hi q.symm)]; omega
    · rw [← sR_nil n]
      exact sR_congr fun i _ => by rw [co_at n a hj, if_neg fun q => hne q.symm]; omega
theorem lat_par (L : LatU n s) : Par (n * n) n (roG n) ∧ Par (n * n) n (coG n) ∧ Par (n * n) n (nuG n s) := by
  refine ⟨fun a ha => ?_, fun a ha => ?_, fun a ha => ?_⟩
  · obtain ⟨a1, a2⟩ := cell_ltQ ha
    rw [sR_grid, sR_swap]
    have e : sR n (fun j => sR n fun i => akG (roG n) a (i * n + j)) = sR n fun _ => 1 := sR_congr fun j hj => sR_uniq a1 (by rw [ro_at n a hj, if_pos rfl]) fun i _ hne => by rw [ro_at n a hj, if_neg fun q => hne q.symm]
    rw [e, sR_one, nR_int]
  · obtain ⟨a1, a2⟩ := cell_ltQ ha
    rw [sR_grid]
    have e : sR n (fun i => sR n fun j => akG (coG n) a (i * n + j)) = sR n fun _ => 1 := sR_congr fun i _ => sR_uniq a2 (by rw [co_at n a a2, if_pos rfl]) fun j hj hne => by rw [co_at n a hj, if_neg fun q => hne q.symm]
    rw [e, sR_one, nR_int]
  · obtain ⟨a1, a2⟩ := cell_ltQ ha
    have hx : nuG n s a < n := L.lt _ _ a1 a2
    rw [sR_grid]
    have e : sR n (fun i => sR n fun j => akG (nuG n s) a (i * n + j)) = sR n fun _ => 1 := sR_congr fun i hi => by
      obtain ⟨j0, h0, e0, u0⟩ := L.row i _ hi hx
      exact sR_uniq h0 (by rw [nu_at a h0, if_pos e0.symm]) fun j hj hne => by rw [nu_at a hj, if_neg fun q => hne (u0 j hj q.symm)]
    rw [e, sR_one, nR_int]
/-- The graph of a Latin square. -/
def laG (n : Nat) (s : Nat → Nat → Nat) (a b : Nat) : Int := if a ≠ b ∧ (a / n = b / n ∨ a % n = b % n ∨ s (a / n) (a % n) = s (b / n) (b % n)) then 1 else 0
theorem la_tp (L : LatU n s) {a b : Nat} (ha : a < n * n) (hb : b < n * n) : laG n s a b = tpG (roG n) (coG n) (nuG n s) a b := by
  obtain ⟨c1, c2, c3⟩ := lat_crs L
  unfold laG
  by_cases e : a = b
  · subst e
    rw [if_neg (fun k => k.1 rfl), (tp_gr c1 c2 c3).diag a ha]
  · have k1 := c1.one ha hb e
    have k2 := c2.one ha hb e
    have k3 := c3.one ha hb e
    have k4 : (idR a b : Int) = 0 := if_neg e
    unfold tpG
    rw [k4]
    by_cases h1 : a / n = b / n
    · have : akG (roG n) a b = 1 := if_pos h1
      rw [if_pos ⟨e, .inl h1⟩]
      rcases ak_bit (coG n) a b with q | q <;> rcases ak_bit (nuG n s) a b with q' | q' <;> omega
    · have z1 : akG (roG n) a b = 0 := if_neg h1
      by_cases h2 : a % n = b % n
      · have : akG (coG n) a b = 1 := if_pos h2
        rw [if_pos ⟨e, .inr (.inl h2)⟩]
        rcases ak_bit (nuG n s) a b with q' | q' <;> omega
      · have z2 : akG (coG n) a b = 0 := if_neg h2
        by_cases h3 : s (a / n) (a % n) = s (b / n) (b % n)
        · have : akG (nuG n s) a b = 1 := if_pos h3
          rw [if_pos ⟨e, .inr (.inr h3)⟩]
          omega
        · have z3 : akG (nuG n s) a b = 0 := if_neg h3
          rw [if_neg fun k => by rcases k.2 with q | q | q; exact h1 q; exact h2 q; exact h3 q]
          omega
theorem cm_congr {v : Nat} {A B : Nat → Nat → Int} (h : ∀ a b, a < v → b < v → A a b = B a b) {a b : Nat} (ha : a < v) (hb : b < v) : cmG v A a b = cmG v B a b := sR_congr fun c hc => by rw [h a c ha hc, h b c hb hc]
theorem Stg.congr {v : Nat} {k l m : Int} {A B : Nat → Nat → Int} (S : Stg v k l m A) (h : ∀ a b, a < v → b < v → B a b = A a b) : Stg v k l m B where
  deg a ha := by rw [← S.deg a ha]; exact sR_congr fun b hb => h a b ha hb
  near a b ha hb q := by rw [cm_congr h ha hb]; exact S.near a b ha hb (by rw [← h a b ha hb]; exact q)
  far a b ha hb hne q := by rw [cm_congr h ha hb]; exact S.far a b ha hb hne (by rw [← h a b ha hb]; exact q)
/-- The graph of a Latin square is strong. -/
theorem la_stg (L : LatU n s) : Stg (n * n) (3 * (n - 1)) n 6 (laG n s) := by
  obtain ⟨c1, c2, c3⟩ := lat_crs L
  obtain ⟨p1, p2, p3⟩ := lat_par L
  exact (tp_stg p1 p2 p3 c1 c2 c3).congr fun a b ha hb => la_tp L ha hb
end
end Go.Proofs.Ytlmjlffipinjiab
