/- A space and what is normal to it: how many lists both have, and where one is zero. Nothing of the program. -/
import Derived.Test.YtjfjdidibglhaabDoorArV
import Derived.Test.YtjfjdidibglhaabDoorSpB
namespace Go.Proofs.YtjfjdidibglhaabDoor
section
variable {q n : Nat} {ad mu : Nat → Nat → Nat} {ng : Nat → Nat}

theorem cnt_both (h : FqR q ad mu ng) {S M : List (List Nat)} (hS : Rws q n S) (hM : BasIs q ad mu n (Nrm q ad mu n S) M) : cntV q n (Spn q ad mu n S) * cntV q n (Spn q ad mu n M) = q ^ n := by
  obtain ⟨X, hX⟩ := basis_ex h hS
  have hl := nrm_len h hS hX hM
  rw [hX.cnt h, hM.rref.cnt h, ← Nat.pow_add, Nat.add_comm, hl]
theorem wt_uV {c : Nat} (hc : c < n) : wtV n (uV n c) = 1 := by
  have e : ((List.range n).filter fun j => (uV n c).getD j 0 != 0) = [c] := by
    refine only_one (List.nodup_range.filter _) fun j => ?_
    rw [List.mem_filter, List.mem_range]
    constructor
    · rintro ⟨h1, h2⟩
      rw [uV_at h1] at h2
      by_cases e : j = c
      · exact e
      · rw [if_neg e] at h2; simp at h2
    · rintro rfl
      exact ⟨hc, by rw [uV_at hc, if_pos rfl]; decide⟩
  unfold wtV
  rw [e]
  rfl
theorem wt_one {v : List Nat} {c : Nat} (hc : c < n) (hw : wtV n v = 1) (h0 : v.getD c 0 ≠ 0) {j : Nat} (hj : j < n) (hne : j ≠ c) : v.getD j 0 = 0 := by
  refine Classical.byContradiction fun e => ?_
  unfold wtV at hw
  have h2 : [c, j].length ≤ ((List.range n).filter fun j => v.getD j 0 != 0).length := nod_len (by simp [Ne.symm hne]) fun x hx => by
    rcases List.mem_cons.1 hx with rfl | hx
    · exact List.mem_filter.2 ⟨List.mem_range.2 hc, by simpa using h0⟩
    · rw [List.mem_singleton.1 hx]
      exact List.mem_filter.2 ⟨List.mem_range.2 hj, by simpa using e⟩
  rw [hw] at h2
  simp at h2
/-- All lists are zero in a column: a list that is zero but there is normal to them. -/
theorem zero_iffW (h : FqR q ad mu ng) {S : List (List Nat)} (hS : Rws q n S) {c : Nat} (hc : c < n) : (∀ v, Spn q ad mu n S v → v.getD c 0 = 0) ↔ ∃ b, Nrm q ad mu n S b ∧ wtV n b = 1 ∧ b.getD c 0 ≠ 0 := by
  constructor
  · intro k
    refine ⟨uV n c, ⟨uV_vc h c, fun r hr => ?_⟩, wt_uV hc, by rw [uV_at hc, if_pos rfl]; decide⟩
    have hz := k r (Spn.row h hS hr)
    refine dotV_lo h n fun j hj => ?_
    by_cases e : j = c
    · rw [e, hz]; exact h.mu_zero ((uV_vc h c).at h.pos c)
    · rw [uV_at hj, if_neg e, h.mu_comm _ _ h.pos ((hS r hr).at h.pos j)]; exact h.mu_zero ((hS r hr).at h.pos j)
  · rintro ⟨b, hb, hw, h0⟩ v hv
    have hvv := hv.vc h hS
    have hd := Nrm.all h hS hb hv
    rw [dotV_one h hb.1 hvv n hc fun j hj hne => by rw [wt_one hc hw h0 hj hne, h.mu_comm _ _ h.pos (hvv.at h.pos j)]; exact h.mu_zero (hvv.at h.pos j)] at hd
    have hbq := hb.1.at h.pos c
    have hvq := hvv.at h.pos c
    obtain ⟨i, hi, e⟩ := h.inv (b.getD c 0) (by omega) hbq
    have k := h.mu_assoc i (b.getD c 0) (v.getD c 0) hi hbq hvq
    rw [hd, h.mu_comm i _ hi hbq, e, h.mu_zero hi, h.mu_comm 1 _ h.one hvq, h.mu_one _ hvq] at k
    exact k
end
end Go.Proofs.YtjfjdidibglhaabDoor
