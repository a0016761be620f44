/- Starters: pairs of numbers modulo v. Nothing of the program. -/
namespace Go.Proofs.Ytpeplnojmogkfaa

theorem md {v x r : Nat} (hx : x < v) (hr : r < v) : ((x + r) % v = x + r ∧ x + r < v) ∨ ((x + r) % v = x + r - v ∧ v ≤ x + r) := by
  by_cases h : x + r < v
  · exact .inl ⟨Nat.mod_eq_of_lt h, h⟩
  · refine .inr ⟨?_, by omega⟩
    rw [Nat.mod_eq_sub_mod (by omega), Nat.mod_eq_of_lt (by omega)]
theorem nodL_len : ∀ {l m : List Nat}, l.Nodup → (∀ x ∈ l, x ∈ m) → l.length ≤ m.length
  | [], _, _, _ => by simp
  | a :: l, m, hd, hs => by
    have h1 := List.nodup_cons.1 hd
    have ha := hs a (by simp)
    have h2 : l.length ≤ (m.erase a).length := nodL_len h1.2 fun x hx => (List.mem_erase_of_ne (fun e : x = a => h1.1 (by rw [← e]; exact hx))).2 (hs x (by simp [hx]))
    rw [List.length_erase_of_mem ha] at h2
    have : 0 < m.length := List.length_pos_of_mem ha
    simp only [List.length_cons]
    omega
/-- A list that has all of as many things has none twice. -/
theorem nod_cover : ∀ {l R : List Nat}, R.Nodup → (∀ x ∈ R, x ∈ l) → l.length ≤ R.length → l.Nodup
  | [], _, _, _, _ => List.nodup_nil
  | a :: t, R, hR, hs, hl => by
    simp only [List.length_cons] at hl
    have hat : a ∉ t := fun h => by
      have := nodL_len hR (m := t) fun x hx => by
        rcases List.mem_cons.1 (hs x hx) with rfl | h'
        · exact h
        · exact h'
      omega
    have haR : a ∈ R := Classical.byContradiction fun h => by
      have := nodL_len hR (m := t) fun x hx => by
        rcases List.mem_cons.1 (hs x hx) with rfl | h'
        · exact absurd hx h
        · exact h'
      omega
    refine List.nodup_cons.2 ⟨hat, nod_cover (R := R.erase a) (hR.erase a) (fun x hx => ?_) (by rw [List.length_erase_of_mem haR]; omega)⟩
    have hne : x ≠ a := fun e => by
      rw [e] at hx
      exact (List.Nodup.not_mem_erase hR) hx
    rcases List.mem_cons.1 (hs x ((List.mem_erase_of_ne hne).1 hx)) with e | h
    · exact absurd e hne
    · exact h
def alS (ps : List (Nat × Nat)) : List Nat := ps.flatMap fun p => [p.1, p.2]
def dfS (v : Nat) (ps : List (Nat × Nat)) : List Nat := ps.flatMap fun p => [(p.1 + v - p.2) % v, (p.2 + v - p.1) % v]
theorem two_len {α : Type} (f g : α → Nat) : ∀ ps : List α, (ps.flatMap fun p => [f p, g p]).length = 2 * ps.length
  | [] => rfl
  | p :: ps => by
    rw [List.flatMap_cons, List.length_append, two_len f g ps]
    simp
    omega
structure St (v : Nat) (ps : List (Nat × Nat)) : Prop where
  v3 : 3 ≤ v
  v15 : v ≤ 15
  odd : v % 2 = 1
  len : ps.length = (v - 1) / 2
  rng : ∀ p ∈ ps, (1 ≤ p.1 ∧ p.1 < v) ∧ 1 ≤ p.2 ∧ p.2 < v
  all : ∀ x, 1 ≤ x → x < v → x ∈ alS ps
  df : ∀ d, 1 ≤ d → d < v → d ∈ dfS v ps
theorem one_to (v : Nat) : ((List.range v).filter fun x => decide (1 ≤ x)).Nodup := List.nodup_range.filter _
theorem one_len : ∀ v, ((List.range v).filter fun x => decide (1 ≤ x)).length = v - 1
  | 0 => rfl
  | 1 => rfl
  | v + 2 => by
    rw [List.range_succ, List.filter_append, List.length_append, one_len (v + 1)]
    simp
theorem St.nd_all {v : Nat} {ps : List (Nat × Nat)} (h : St v ps) : (alS ps).Nodup := by
  refine nod_cover (one_to v) (fun x hx => ?_) ?_
  · obtain ⟨h1, h2⟩ := List.mem_filter.1 hx
    exact h.all x (by simpa using h2) (List.mem_range.1 h1)
  · rw [one_len]
    unfold alS
    rw [two_len, h.len]
    have := h.odd
    omega
theorem St.nd_df {v : Nat} {ps : List (Nat × Nat)} (h : St v ps) : (dfS v ps).Nodup := by
  refine nod_cover (one_to v) (fun x hx => ?_) ?_
  · obtain ⟨h1, h2⟩ := List.mem_filter.1 hx
    exact h.df x (by simpa using h2) (List.mem_range.1 h1)
  · rw [one_len]
    unfold dfS
    rw [two_len, h.len]
    have := h.odd
    omega
/-- They are a pair, this way round or the other. -/
def Pr (ps : List (Nat × Nat)) (x y : Nat) : Prop := (x, y) ∈ ps ∨ (y, x) ∈ ps
theorem Pr.symm {ps : List (Nat × Nat)} {x y : Nat} (h : Pr ps x y) : Pr ps y x := h.elim .inr .inl
/-- What is told twice of unlike pairs is unlike. -/
theorem two_nod {α : Type} {f g : α → Nat} : ∀ {ps : List α}, (ps.flatMap fun p => [f p, g p]).Nodup → (∀ p ∈ ps, f p ≠ g p) ∧ (∀ p ∈ ps, ∀ q ∈ ps, f p = g q → False) ∧ (∀ p ∈ ps, ∀ q ∈ ps, f p = f q → p = q) ∧ ∀ p ∈ ps, ∀ q ∈ ps, g p = g q → p = q
  | [], _ => ⟨by simp, by simp, by simp, by simp⟩
  | a :: ps, h => by
    rw [List.flatMap_cons] at h
    obtain ⟨h1, h2, h3⟩ := List.nodup_append.1 h
    obtain ⟨k1, k2, k3, k4⟩ := two_nod h2
    have hne : f a ≠ g a := by simpa using h1
    have ho : ∀ q ∈ ps, f a ≠ f q ∧ f a ≠ g q ∧ g a ≠ f q ∧ g a ≠ g q := fun q hq => by
      have mf : f q ∈ ps.flatMap fun p => [f p, g p] := List.mem_flatMap.2 ⟨q, hq, by simp⟩
      have mg : g q ∈ ps.flatMap fun p => [f p, g p] := List.mem_flatMap.2 ⟨q, hq, by simp⟩
      exact ⟨h3 _ (by simp) _ mf, h3 _ (by simp) _ mg, h3 _ (by simp) _ mf, h3 _ (by simp) _ mg⟩
    refine ⟨fun p hp => ?_, fun p hp q hq e => ?_, fun p hp q hq e => ?_, fun p hp q hq e => ?_⟩
    · rcases List.mem_cons.1 hp with rfl | hp1
      · exact hne
      · exact k1 p hp1
    · rcases List.mem_cons.1 hp with e1 | hp1
      · rcases List.mem_cons.1 hq with e2 | hq1
        · rw [e1, e2] at e; exact hne e
        · rw [e1] at e; exact (ho q hq1).2.1 e
      · rcases List.mem_cons.1 hq with e2 | hq1
        · rw [e2] at e; exact (ho p hp1).2.2.1 e.symm
        · exact k2 p hp1 q hq1 e
    · rcases List.mem_cons.1 hp with e1 | hp1
      · rcases List.mem_cons.1 hq with e2 | hq1
        · rw [e1, e2]
        · rw [e1] at e; exact absurd e (ho q hq1).1
      · rcases List.mem_cons.1 hq with e2 | hq1
        · rw [e2] at e; exact absurd e.symm (ho p hp1).1
        · exact k3 p hp1 q hq1 e
    · rcases List.mem_cons.1 hp with e1 | hp1
      · rcases List.mem_cons.1 hq with e2 | hq1
        · rw [e1, e2]
        · rw [e1] at e; exact absurd e (ho q hq1).2.2.2
      · rcases List.mem_cons.1 hq with e2 | hq1
        · rw [e2] at e; exact absurd e.symm (ho p hp1).2.2.2
        · exact k4 p hp1 q hq1 e
section
variable {v : Nat} {ps : List (Nat × Nat)}
theorem St.at (h : St v ps) {x y : Nat} (p : Pr ps x y) : (1 ≤ x ∧ x < v) ∧ 1 ≤ y ∧ y < v := by
  rcases p with p | p
  · exact h.rng _ p
  · exact (h.rng _ p).symm
theorem St.some (h : St v ps) {x : Nat} (h1 : 1 ≤ x) (h2 : x < v) : ∃ y, Pr ps x y := by
  obtain ⟨p, hp, hx⟩ := List.mem_flatMap.1 (h.all x h1 h2)
  simp only [List.mem_cons, List.not_mem_nil, or_false] at hx
  rcases hx with rfl | rfl
  · exact ⟨p.2, .inl hp⟩
  · exact ⟨p.1, .inr hp⟩
theorem St.fn (h : St v ps) {x y z : Nat} (p : Pr ps x y) (q : Pr ps x z) : y = z := by
  obtain ⟨k1, k2, k3, k4⟩ := two_nod h.nd_all
  rcases p with p | p <;> rcases q with q | q
  · exact congrArg Prod.snd (k3 _ p _ q rfl)
  · exact (k2 _ p _ q rfl).elim
  · exact (k2 _ q _ p rfl).elim
  · exact congrArg Prod.fst (k4 _ p _ q rfl)
theorem St.ne (h : St v ps) {x y : Nat} (p : Pr ps x y) : x ≠ y := fun e => by
  obtain ⟨k1, _⟩ := two_nod h.nd_all
  rcases p with p | p
  · exact k1 _ p e
  · exact k1 _ p e.symm
/-- A difference tells its pair. -/
theorem St.dif (h : St v ps) {x y a b : Nat} (p : Pr ps x y) (q : Pr ps a b) (e : (x + v - y) % v = (a + v - b) % v) : x = a ∧ y = b := by
  obtain ⟨k1, k2, k3, k4⟩ := two_nod h.nd_df
  rcases p with p | p <;> rcases q with q | q
  · have := k3 _ p _ q e
    exact ⟨congrArg Prod.fst this, congrArg Prod.snd this⟩
  · exact (k2 _ p _ q e).elim
  · exact (k2 _ q _ p e.symm).elim
  · have := k4 _ p _ q e
    exact ⟨congrArg Prod.snd this, congrArg Prod.fst this⟩
end
end Go.Proofs.Ytpeplnojmogkfaa
