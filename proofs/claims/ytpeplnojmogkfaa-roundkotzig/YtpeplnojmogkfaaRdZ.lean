/- From the first team round by two rounds in turn, and back. Nothing of the program. -/
import Derived.Test.YtpeplnojmogkfaaRdX
namespace Go.Proofs.Ytpeplnojmogkfaa

theorem least_of {P : Nat → Prop} : ∀ n, P n → ∃ p, p ≤ n ∧ P p ∧ ∀ j, j < p → ¬ P j := by
  intro n
  induction n using Nat.strongRecOn with
  | _ n ih =>
    intro h
    by_cases hc : ∃ j, j < n ∧ P j
    · obtain ⟨j, hj, pj⟩ := hc
      obtain ⟨p, h1, h2, h3⟩ := ih j hj pj
      exact ⟨p, by omega, h2, h3⟩
    · exact ⟨n, Nat.le_refl _, h, fun j hj pj => hc ⟨j, hj, pj⟩⟩
def sgm (k l : List Nat) : Nat → Nat
  | 0 => 0
  | i + 1 => l.getD (k.getD (sgm k l i) 0) 0
section
variable {n : Nat} {k l : List Nat}
theorem sgm_lt (hn : 0 < n) (hk : Rnd n fun x => k.getD x 0) (hl : Rnd n fun x => l.getD x 0) : ∀ i, sgm k l i < n
  | 0 => hn
  | i + 1 => (hl _ (hk _ (sgm_lt hn hk hl i)).1).1
theorem rnd_inj {f : Nat → Nat} (h : Rnd n f) {x y : Nat} (hx : x < n) (hy : y < n) (e : f x = f y) : x = y := by
  have := (h x hx).2.2
  rw [e, (h y hy).2.2] at this
  exact this.symm
theorem sgm_back (hn : 0 < n) (hk : Rnd n fun x => k.getD x 0) (hl : Rnd n fun x => l.getD x 0) : ∀ i d, sgm k l i = sgm k l (i + d) → sgm k l d = 0
  | 0, d, h => by rw [Nat.zero_add] at h; exact h.symm
  | i + 1, d, h => by
    rw [show i + 1 + d = i + d + 1 by omega] at h
    have a := sgm_lt hn hk hl i
    have b := sgm_lt hn hk hl (i + d)
    have h1 : k.getD (sgm k l i) 0 = k.getD (sgm k l (i + d)) 0 := rnd_inj hl (hk _ a).1 (hk _ b).1 h
    exact sgm_back hn hk hl i d (rnd_inj hk a b h1)
theorem sgm_ret (hn : 0 < n) (hk : Rnd n fun x => k.getD x 0) (hl : Rnd n fun x => l.getD x 0) : ∃ p, 1 ≤ p ∧ p ≤ n ∧ sgm k l p = 0 ∧ ∀ j, 0 < j → j < p → sgm k l j ≠ 0 := by
  have hex : ∃ j, 0 < j ∧ j ≤ n ∧ sgm k l j = 0 := by
    refine Classical.byContradiction fun hc => ?_
    have hnd : ((List.range (n + 1)).map (sgm k l)).Nodup := by
      refine map_nod List.nodup_range fun i hi j hj e => ?_
      have hi := List.mem_range.1 hi
      have hj := List.mem_range.1 hj
      refine Classical.byContradiction fun hij => ?_
      rcases Nat.lt_or_ge i j with h | h
      · exact hc ⟨j - i, by omega, by omega, sgm_back hn hk hl i (j - i) (by rw [show i + (j - i) = j by omega]; exact e)⟩
      · exact hc ⟨i - j, by omega, by omega, sgm_back hn hk hl j (i - j) (by rw [show j + (i - j) = i by omega]; exact e.symm)⟩
    have := nodL_len hnd (m := List.range n) fun x hx => by
      obtain ⟨i, _, rfl⟩ := List.mem_map.1 hx
      exact List.mem_range.2 (sgm_lt hn hk hl i)
    rw [List.length_map, List.length_range, List.length_range] at this
    omega
  obtain ⟨j, h1, h2, h3⟩ := hex
  obtain ⟨p, h4, h5, h6⟩ := least_of (P := fun j => 0 < j ∧ sgm k l j = 0) j ⟨h1, h3⟩
  exact ⟨p, h5.1, by omega, h5.2, fun q hq hqp e => h6 q hqp ⟨hq, e⟩⟩
theorem sgm_two (hn : 0 < n) (hk : Rnd n fun x => k.getD x 0) (hl : Rnd n fun x => l.getD x 0) : ∀ d i, sgm k l i ≠ k.getD (sgm k l (i + d)) 0
  | 0, i, h => (hk _ (sgm_lt hn hk hl i)).2.1 h.symm
  | 1, i, h => by
    have a := sgm_lt hn hk hl i
    have b := sgm_lt hn hk hl (i + 1)
    have e1 : k.getD (sgm k l i) 0 = sgm k l (i + 1) := by rw [h]; exact (hk _ b).2.2
    have e2 : l.getD (k.getD (sgm k l i) 0) 0 = sgm k l (i + 1) := rfl
    exact (hl _ (hk _ a).1).2.1 (show l.getD (k.getD (sgm k l i) 0) 0 = k.getD (sgm k l i) 0 by rw [e2, e1])
  | d + 2, i, h => by
    have a := sgm_lt hn hk hl i
    have b := sgm_lt hn hk hl (i + d + 1)
    have c := sgm_lt hn hk hl (i + (d + 2))
    have e1 : k.getD (sgm k l i) 0 = sgm k l (i + (d + 2)) := by rw [h]; exact (hk _ c).2.2
    have e2 : sgm k l (i + (d + 2)) = l.getD (k.getD (sgm k l (i + d + 1)) 0) 0 := rfl
    have e3 : l.getD (sgm k l (i + (d + 2))) 0 = k.getD (sgm k l (i + d + 1)) 0 := by rw [e2]; exact (hl _ (hk _ b).1).2.2
    have e4 : sgm k l (i + 1) = l.getD (k.getD (sgm k l i) 0) 0 := rfl
    refine sgm_two hn hk hl d (i + 1) ?_
    rw [e4, e1, e3, show i + 1 + d = i + d + 1 by omega]
theorem sgm_not (hn : 0 < n) (hk : Rnd n fun x => k.getD x 0) (hl : Rnd n fun x => l.getD x 0) (i j : Nat) : sgm k l i ≠ k.getD (sgm k l j) 0 := by
  rcases Nat.le_total i j with h | h
  · have := sgm_two hn hk hl (j - i) i
    rwa [show i + (j - i) = j by omega] at this
  · have := sgm_two hn hk hl (i - j) j
    rw [show j + (i - j) = i by omega] at this
    intro e
    refine this ?_
    rw [e]
    exact ((hk _ (sgm_lt hn hk hl j)).2.2).symm
/-- The ring is as long as all are many: they are one ring. -/
theorem sgm_ring (hn : 0 < n) (hk : Rnd n fun x => k.getD x 0) (hl : Rnd n fun x => l.getD x 0) {p : Nat} (hp : 1 ≤ p) (h0 : sgm k l p = 0) (hm : ∀ j, 0 < j → j < p → sgm k l j ≠ 0) : n ≤ 2 * p ↔ Cn n k l := by
  have hin : ∀ T : Nat → Prop, T 0 → (∀ x, x < n → T x → T (k.getD x 0) ∧ T (l.getD x 0)) → ∀ i, T (sgm k l i) := fun T t0 hT i => by
    induction i with
    | zero => exact t0
    | succ i ih =>
      have a := sgm_lt hn hk hl i
      exact (hT _ (hk _ a).1 (hT _ a ih).1).2
  constructor
  · intro hle
    refine Classical.byContradiction fun hc => ?_
    have : ∃ T : Nat → Prop, T 0 ∧ (∀ x, x < n → T x → T (k.getD x 0) ∧ T (l.getD x 0)) ∧ ∃ x, x < n ∧ ¬ T x := by
      refine Classical.byContradiction fun h => hc fun T t0 hT x hx => Classical.byContradiction fun hx' => h ⟨T, t0, hT, x, hx, hx'⟩
    obtain ⟨T, t0, hT, x0, hx0, hno⟩ := this
    have inj : ∀ i, i < p → ∀ j, j < p → sgm k l i = sgm k l j → i = j := fun i hi j hj e => by
      refine Classical.byContradiction fun hij => ?_
      rcases Nat.lt_or_ge i j with h | h
      · exact hm (j - i) (by omega) (by omega) (sgm_back hn hk hl i (j - i) (by rw [show i + (j - i) = j by omega]; exact e))
      · exact hm (i - j) (by omega) (by omega) (sgm_back hn hk hl j (i - j) (by rw [show j + (i - j) = i by omega]; exact e.symm))
    have n1 : ((List.range p).map (sgm k l)).Nodup := map_nod List.nodup_range fun i hi j hj e => inj i (List.mem_range.1 hi) j (List.mem_range.1 hj) e
    have n2 : ((List.range p).map fun i => k.getD (sgm k l i) 0).Nodup := map_nod List.nodup_range fun i hi j hj e => inj i (List.mem_range.1 hi) j (List.mem_range.1 hj) (rnd_inj hk (sgm_lt hn hk hl i) (sgm_lt hn hk hl j) e)
    have n3 : ((List.range p).map (sgm k l) ++ (List.range p).map fun i => k.getD (sgm k l i) 0).Nodup := List.nodup_append.2 ⟨n1, n2, fun a ha b hb e => by
      obtain ⟨i, _, rfl⟩ := List.mem_map.1 ha
      obtain ⟨j, _, rfl⟩ := List.mem_map.1 hb
      exact sgm_not hn hk hl i j e⟩
    have := nodL_len n3 (m := (List.range n).erase x0) fun x hx => by
      have hxT : x < n ∧ T x := by
        rcases List.mem_append.1 hx with h | h
        · obtain ⟨i, _, rfl⟩ := List.mem_map.1 h
          exact ⟨sgm_lt hn hk hl i, hin T t0 hT i⟩
        · obtain ⟨i, _, rfl⟩ := List.mem_map.1 h
          have a := sgm_lt hn hk hl i
          exact ⟨(hk _ a).1, (hT _ a (hin T t0 hT i)).1⟩
      exact (List.mem_erase_of_ne fun e => hno (by rw [← e]; exact hxT.2)).2 (List.mem_range.2 hxT.1)
    rw [List.length_append, List.length_map, List.length_map, List.length_range, List.length_erase_of_mem (List.mem_range.2 hx0), List.length_range] at this
    omega
  · intro hc
    have all := hc (fun x => ∃ i, i < p ∧ (x = sgm k l i ∨ x = k.getD (sgm k l i) 0)) ⟨0, by omega, .inl rfl⟩ (by
      rintro x _ ⟨i, hi, hx⟩
      have a := sgm_lt hn hk hl i
      rcases hx with rfl | rfl
      · refine ⟨⟨i, hi, .inr rfl⟩, ?_⟩
        have last : ∀ j, sgm k l i = sgm k l (j + 1) → l.getD (sgm k l i) 0 = k.getD (sgm k l j) 0 := fun j e => by
          have e2 : sgm k l (j + 1) = l.getD (k.getD (sgm k l j) 0) 0 := rfl
          rw [e, e2]
          exact (hl _ (hk _ (sgm_lt hn hk hl j)).1).2.2
        match i, hi with
        | 0, _ => exact ⟨p - 1, by omega, .inr (last (p - 1) (by rw [show p - 1 + 1 = p by omega, h0]; rfl))⟩
        | i + 1, hi => exact ⟨i, by omega, .inr (last i rfl)⟩
      · refine ⟨⟨i, hi, .inl (hk _ a).2.2⟩, ?_⟩
        by_cases he : i + 1 < p
        · exact ⟨i + 1, he, .inl rfl⟩
        · refine ⟨0, by omega, .inl ?_⟩
          have e1 : l.getD (k.getD (sgm k l i) 0) 0 = sgm k l (i + 1) := rfl
          rw [e1, show i + 1 = p by omega, h0]
          rfl)
    have := nodL_len (List.nodup_range (n := n)) (m := (List.range p).map (sgm k l) ++ (List.range p).map fun i => k.getD (sgm k l i) 0) fun x hx => by
      obtain ⟨i, hi, h⟩ := all x (List.mem_range.1 hx)
      rcases h with rfl | rfl
      · exact List.mem_append.2 (.inl (List.mem_map.2 ⟨i, List.mem_range.2 hi, rfl⟩))
      · exact List.mem_append.2 (.inr (List.mem_map.2 ⟨i, List.mem_range.2 hi, rfl⟩))
    rw [List.length_append, List.length_map, List.length_map, List.length_range, List.length_range] at this
    omega
end
end Go.Proofs.Ytpeplnojmogkfaa
