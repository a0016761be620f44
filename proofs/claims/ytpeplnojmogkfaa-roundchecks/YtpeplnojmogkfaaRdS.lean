/- What is wrong with a starter. Nothing of the program. -/
import Derived.Test.YtpeplnojmogkfaaRdC
namespace Go.Proofs.Ytpeplnojmogkfaa

def prZ (qs : List (Nat × Nat)) : List (List Int) := qs.map fun p => [(p.1 : Int), (p.2 : Int)]
def qO (l : List Int) : Nat × Nat := ((l.getD 0 0).toNat, (l.getD 1 0).toNat)
/-- What is wrong with a pair. -/
def prF (v : Nat) (l : List Int) : Nat := if l.length ≠ 2 then 2 else if l.getD 0 0 < 1 ∨ (v : Int) ≤ l.getD 0 0 ∨ l.getD 1 0 < 1 ∨ (v : Int) ≤ l.getD 1 0 then 1 else 0
def prsF (v : Nat) : List (List Int) → Nat
  | [] => 0
  | l :: ls => if prF v l ≠ 0 then prF v l else prsF v ls
/-- All numbers, and all differences. -/
def cvB (v : Nat) (qs : List (Nat × Nat)) : Bool := (List.range v).all fun x => x == 0 || ((alS qs).contains x && (dfS v qs).contains x)
def sF (v : Int) (ps : List (List Int)) : Nat := if v < 3 ∨ 15 < v ∨ v % 2 = 0 then 1 else if (ps.length : Int) ≠ (v - 1) / 2 then 2 else if prsF v.toNat ps ≠ 0 then prsF v.toNat ps else if cvB v.toNat (ps.map qO) then 0 else 6
theorem prsF_at : ∀ {v : Nat} {ls : List (List Int)} {i : Nat} {l : List Int}, ls[i]? = some l → (∀ j m, j < i → ls[j]? = some m → prF v m = 0) → prF v l ≠ 0 → prsF v ls = prF v l
  | v, [], i, l, h, _, _ => by simp at h
  | v, m :: ls, 0, l, h, _, h2 => by
    simp at h
    subst h
    show (if prF v m ≠ 0 then prF v m else prsF v ls) = prF v m
    rw [if_pos h2]
  | v, m :: ls, i + 1, l, h, h1, h2 => by
    simp at h
    show (if prF v m ≠ 0 then prF v m else prsF v ls) = prF v l
    rw [if_neg (by rw [h1 0 m (by omega) rfl]; simp)]
    exact prsF_at h (fun j q hj hq => h1 (j + 1) q (by omega) (by simpa using hq)) h2
theorem prsF_none : ∀ {v : Nat} {ls : List (List Int)}, (∀ (j : Nat) m, ls[j]? = some m → prF v m = 0) → prsF v ls = 0
  | v, [], _ => rfl
  | v, m :: ls, h => by
    show (if prF v m ≠ 0 then prF v m else prsF v ls) = 0
    rw [if_neg (by rw [h 0 m rfl]; simp)]
    exact prsF_none fun j q hq => h (j + 1) q (by simpa using hq)
theorem prsF_ok : ∀ {v : Nat} {ls : List (List Int)}, prsF v ls = 0 → ∀ l ∈ ls, prF v l = 0
  | v, [], _, l, h => by simp at h
  | v, m :: ls, h, l, hl => by
    have h' : (if prF v m ≠ 0 then prF v m else prsF v ls) = 0 := h
    by_cases h0 : prF v m = 0
    · rw [if_neg (by rw [h0]; simp)] at h'
      rcases List.mem_cons.1 hl with rfl | hl
      · exact h0
      · exact prsF_ok h' l hl
    · rw [if_pos h0] at h'
      exact absurd h' h0
theorem prF_ok {v : Nat} {l : List Int} (h : prF v l = 0) : l = [((qO l).1 : Int), ((qO l).2 : Int)] ∧ (1 ≤ (qO l).1 ∧ (qO l).1 < v) ∧ 1 ≤ (qO l).2 ∧ (qO l).2 < v := by
  unfold prF at h
  by_cases h1 : l.length ≠ 2
  · rw [if_pos h1] at h; omega
  rw [if_neg h1] at h
  by_cases h2 : l.getD 0 0 < 1 ∨ (v : Int) ≤ l.getD 0 0 ∨ l.getD 1 0 < 1 ∨ (v : Int) ≤ l.getD 1 0
  · rw [if_pos h2] at h; omega
  have h1' : l.length = 2 := Classical.byContradiction h1
  match l, h1' with
  | [x, y], _ =>
    have ex : [x, y].getD 0 0 = x := rfl
    have ey : [x, y].getD 1 0 = y := rfl
    unfold qO
    simp only [ex, ey] at h2 ⊢
    refine ⟨?_, by omega⟩
    rw [show ((x.toNat : Nat) : Int) = x by omega, show ((y.toNat : Nat) : Int) = y by omega]
theorem prF_of {v : Nat} {p : Nat × Nat} (h : (1 ≤ p.1 ∧ p.1 < v) ∧ 1 ≤ p.2 ∧ p.2 < v) : prF v [(p.1 : Int), (p.2 : Int)] = 0 := by
  unfold prF
  have ex : [(p.1 : Int), (p.2 : Int)].getD 0 0 = p.1 := rfl
  have ey : [(p.1 : Int), (p.2 : Int)].getD 1 0 = p.2 := rfl
  rw [if_neg (by simp), ex, ey, if_neg (by omega)]
theorem qO_prZ (qs : List (Nat × Nat)) : (prZ qs).map qO = qs := by
  unfold prZ
  rw [List.map_map]
  have : (qO ∘ fun p : Nat × Nat => [(p.1 : Int), (p.2 : Int)]) = id := by
    funext p
    show (((([(p.1 : Int), (p.2 : Int)] : List Int).getD 0 0).toNat), ((([(p.1 : Int), (p.2 : Int)] : List Int).getD 1 0).toNat)) = p
    exact Prod.ext (Int.toNat_natCast _) (Int.toNat_natCast _)
  rw [this, List.map_id]
theorem prZ_qO {v : Nat} {ps : List (List Int)} (h : ∀ l ∈ ps, prF v l = 0) : ps = prZ (ps.map qO) := by
  unfold prZ
  rw [List.map_map]
  refine (List.map_id ps).symm.trans (List.map_congr_left fun l hl => ?_)
  exact (prF_ok (h l hl)).1
theorem cvB_iff {v : Nat} {qs : List (Nat × Nat)} : cvB v qs = true ↔ (∀ x, 1 ≤ x → x < v → x ∈ alS qs) ∧ ∀ x, 1 ≤ x → x < v → x ∈ dfS v qs := by
  unfold cvB
  rw [List.all_eq_true]
  constructor
  · intro h
    have k : ∀ x, 1 ≤ x → x < v → x ∈ alS qs ∧ x ∈ dfS v qs := fun x h1 h2 => by
      have := h x (List.mem_range.2 h2)
      simp only [Bool.or_eq_true, beq_iff_eq, Bool.and_eq_true, List.contains_iff_mem] at this
      rcases this with e | e
      · omega
      · exact e
    exact ⟨fun x h1 h2 => (k x h1 h2).1, fun x h1 h2 => (k x h1 h2).2⟩
  · rintro ⟨h1, h2⟩ x hx
    have hx := List.mem_range.1 hx
    simp only [Bool.or_eq_true, beq_iff_eq, Bool.and_eq_true, List.contains_iff_mem]
    by_cases e : x = 0
    · exact .inl e
    · exact .inr ⟨h1 x (by omega) hx, h2 x (by omega) hx⟩
theorem sF_ok {v : Int} {ps : List (List Int)} (h : sF v ps = 0) : ∃ (V : Nat) (qs : List (Nat × Nat)), v = V ∧ ps = prZ qs ∧ St V qs := by
  unfold sF at h
  by_cases h1 : v < 3 ∨ 15 < v ∨ v % 2 = 0
  · rw [if_pos h1] at h; omega
  rw [if_neg h1] at h
  by_cases h2 : (ps.length : Int) ≠ (v - 1) / 2
  · rw [if_pos h2] at h; omega
  rw [if_neg h2] at h
  by_cases h3 : prsF v.toNat ps ≠ 0
  · rw [if_pos h3] at h; omega
  rw [if_neg h3] at h
  by_cases h5 : ¬ cvB v.toNat (ps.map qO) = true
  · rw [if_neg h5] at h; omega
  have h4 : cvB v.toNat (ps.map qO) = true := Classical.byContradiction h5
  obtain ⟨V, rfl⟩ : ∃ V : Nat, v = V := ⟨v.toNat, by omega⟩
  rw [Int.toNat_natCast] at h3 h4
  have hp := prsF_ok (Classical.byContradiction h3)
  obtain ⟨c1, c2⟩ := cvB_iff.1 h4
  refine ⟨V, ps.map qO, rfl, prZ_qO hp, by omega, by omega, by omega, by rw [List.length_map]; omega, fun p hp' => ?_, c1, c2⟩
  obtain ⟨l, hl, rfl⟩ := List.mem_map.1 hp'
  exact (prF_ok (hp l hl)).2
theorem St.sF {v : Nat} {qs : List (Nat × Nat)} (h : St v qs) : sF v (prZ qs) = 0 := by
  have h1 := h.v3; have h2 := h.v15; have h3 := h.odd; have h4 := h.len
  unfold Go.Proofs.Ytpeplnojmogkfaa.sF
  have hl : (prZ qs).length = qs.length := by simp [prZ]
  rw [if_neg (by omega), if_neg (by rw [hl]; omega), Int.toNat_natCast, prsF_none, if_neg (by simp), qO_prZ, if_pos (cvB_iff.2 ⟨h.all, h.df⟩)]
  intro j m hm
  obtain ⟨p, hp, rfl⟩ := List.mem_map.1 (List.mem_of_getElem? hm)
  exact prF_of (h.rng p hp)
/-- A list of as many unlike things of a few has them all. -/
theorem cov_nod {l R : List Nat} (h : l.Nodup) (hs : ∀ x ∈ l, x ∈ R) (hl : R.length ≤ l.length) : ∀ x ∈ R, x ∈ l := fun x hx => by
  refine Classical.byContradiction fun hn => ?_
  have := nodL_len (l := x :: l) (m := R) (List.nodup_cons.2 ⟨hn, h⟩) fun y hy => by
    rcases List.mem_cons.1 hy with rfl | hy
    · exact hx
    · exact hs y hy
  simp only [List.length_cons] at this
  omega
/-- All numbers and differences stand once, or one is lacking. -/
theorem cv_nod {v : Nat} {qs : List (Nat × Nat)} (h3 : 3 ≤ v) (ho : v % 2 = 1) (hl : qs.length = (v - 1) / 2) (hr : ∀ p ∈ qs, (1 ≤ p.1 ∧ p.1 < v) ∧ 1 ≤ p.2 ∧ p.2 < v) : cvB v qs = true ↔ (alS qs).Nodup ∧ (dfS v qs).Nodup := by
  have la : (alS qs).length = v - 1 := by unfold alS; rw [two_len, hl]; omega
  have ld : (dfS v qs).length = v - 1 := by unfold dfS; rw [two_len, hl]; omega
  have mem : ∀ x, x ∈ (List.range v).filter (fun x => decide (1 ≤ x)) ↔ 1 ≤ x ∧ x < v := fun x => by
    rw [List.mem_filter, List.mem_range, decide_eq_true_eq]
    exact ⟨fun h => ⟨h.2, h.1⟩, fun h => ⟨h.2, h.1⟩⟩
  rw [cvB_iff]
  constructor
  · rintro ⟨c1, c2⟩
    exact ⟨nod_cover (one_to v) (fun x hx => c1 x ((mem x).1 hx).1 ((mem x).1 hx).2) (by rw [one_len, la]; omega), nod_cover (one_to v) (fun x hx => c2 x ((mem x).1 hx).1 ((mem x).1 hx).2) (by rw [one_len, ld]; omega)⟩
  · rintro ⟨n1, n2⟩
    obtain ⟨k1, _⟩ := two_nod n1
    have ra : ∀ x ∈ alS qs, 1 ≤ x ∧ x < v := fun x hx => by
      obtain ⟨p, hp, hm⟩ := List.mem_flatMap.1 hx
      have k := hr p hp
      simp only [List.mem_cons, List.not_mem_nil, or_false] at hm
      rcases hm with rfl | rfl
      · exact k.1
      · exact k.2
    have rd : ∀ x ∈ dfS v qs, 1 ≤ x ∧ x < v := fun x hx => by
      obtain ⟨p, hp, hm⟩ := List.mem_flatMap.1 hx
      have k := hr p hp
      have ne := k1 p hp
      simp only [List.mem_cons, List.not_mem_nil, or_false] at hm
      have md2 : ∀ m, m < 2 * v → (m % v = m ∧ m < v) ∨ (m % v = m - v ∧ v ≤ m) := fun m hm => by
        by_cases h : m < v
        · exact .inl ⟨Nat.mod_eq_of_lt h, h⟩
        · exact .inr ⟨by rw [Nat.mod_eq_sub_mod (by omega), Nat.mod_eq_of_lt (by omega)], by omega⟩
      rcases hm with rfl | rfl
      · rcases md2 (p.1 + v - p.2) (by omega) with ⟨e, _⟩ | ⟨e, _⟩ <;> omega
      · rcases md2 (p.2 + v - p.1) (by omega) with ⟨e, _⟩ | ⟨e, _⟩ <;> omega
    exact ⟨fun x h1 h2 => cov_nod n1 (R := (List.range v).filter fun x => decide (1 ≤ x)) (fun y hy => (mem y).2 (ra y hy)) (by rw [one_len, la]; omega) x ((mem x).2 ⟨h1, h2⟩), fun x h1 h2 => cov_nod n2 (R := (List.range v).filter fun x => decide (1 ≤ x)) (fun y hy => (mem y).2 (rd y hy)) (by rw [one_len, ld]; omega) x ((mem x).2 ⟨h1, h2⟩)⟩
end Go.Proofs.Ytpeplnojmogkfaa
