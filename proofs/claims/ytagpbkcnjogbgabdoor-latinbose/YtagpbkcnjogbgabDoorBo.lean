/- Squares of a field: they are Latin, and orthogonal where the elements are unlike (Bose). -/
import Derived.Test.YtagpbkcnjogbgabDoorMk3
import Derived.Test.YtagpbkcnjogbgabDoorL6
namespace Go.Proofs.YtagpbkcnjogbgabDoor
open Go.RowKit

theorem add_inj {P K : Nat} {m : Nat → Int} (hR : Fd.Ring1 P K m) {x c c' : Nat} (hc : c < P ^ K) (hc' : c' < P ^ K) (h : Fd.addQ P K x c = Fd.addQ P K x c') : c = c' := by
  refine Fd.vec_inj hR hc hc' fun t ht => ?_
  have h1 := Fd.addQ_vec hR x c t ht
  have h2 := Fd.addQ_vec hR x c' t ht
  rw [h] at h1
  have h3 := Int.dvd_sub h2 h1
  unfold Fd.vadd at h3
  rwa [show Fd.digF (Fd.addQ P K x c') P t - (Fd.digF x P t + Fd.digF c' P t) - (Fd.digF (Fd.addQ P K x c') P t - (Fd.digF x P t + Fd.digF c P t)) = Fd.digF c P t - Fd.digF c' P t by omega] at h3
theorem add_injl {P K : Nat} {m : Nat → Int} (hR : Fd.Ring1 P K m) {x c c' : Nat} (hc : c < P ^ K) (hc' : c' < P ^ K) (h : Fd.addQ P K c x = Fd.addQ P K c' x) : c = c' :=
  add_inj (x := x) hR hc hc' (by rw [Fd.addQ_comm hR x c, Fd.addQ_comm hR x c']; exact h)
theorem mul_injr {P K : Nat} {m : Nat → Int} (hF : Fd.FieldQ P K m) {a b e : Nat} (ha : a < P ^ K) (hb : b < P ^ K) (he : e < P ^ K) (h1 : 1 ≤ e) (h : Fd.mulQ P K m a e = Fd.mulQ P K m b e) : a = b := by
  have hi := Fd.inv_ok hF h1 he
  have e1 : Fd.mulQ P K m (Fd.mulQ P K m a e) (Fd.powQ P K m e (P ^ K - 2)) = a := by rw [Fd.mulQ_assoc hF.toRing1, hi, Fd.mulQ_one hF.toRing1 ha]
  have e2 : Fd.mulQ P K m (Fd.mulQ P K m b e) (Fd.powQ P K m e (P ^ K - 2)) = b := by rw [Fd.mulQ_assoc hF.toRing1, hi, Fd.mulQ_one hF.toRing1 hb]
  rw [← e1, ← e2, h]
theorem zero_add' {P K : Nat} {m : Nat → Int} (hR : Fd.Ring1 P K m) {a : Nat} (ha : a < P ^ K) : Fd.addQ P K 0 a = a := by rw [Fd.addQ_comm hR, Fd.addQ_zero hR ha]
theorem opp_of {P K : Nat} {m : Nat → Int} (hR : Fd.Ring1 P K m) {x : Nat} : ∃ y, y < P ^ K ∧ Fd.addQ P K x y = 0 :=
  inj_onto (n := P ^ K) (f := fun y => Fd.addQ P K x y) (fun y _ => Fd.addQ_lt hR x y) (fun y y' hy hy' h => add_inj hR hy hy' h) (Nat.lt_trans (by decide) (Fd.one_lt hR))
theorem lat_F {P K a : Nat} {l : List Int} (hG : Fd.GoodF P K l) (ha : 1 ≤ a) (haq : a < P ^ K) : Lat (P ^ K) (sqF P K l a) := by
  have hR := hG.field.toRing1
  refine ⟨fun i j _ _ => Fd.addQ_lt hR _ _, fun i _ j k hj hk h => add_inj hR hj hk h, fun j _ i k hi hk h => ?_⟩
  have h1 := add_injl hR (Fd.mulQ_lt hR a i) (Fd.mulQ_lt hR a k) h
  rw [Fd.mulQ_comm hR a i, Fd.mulQ_comm hR a k] at h1
  exact mul_injr hG.field hi hk haq ha h1
/-- What is moved by a difference. -/
theorem diff_of {P K : Nat} {m : Nat → Int} (hR : Fd.Ring1 P K m) {a r r' o c c' : Nat} (ho : Fd.addQ P K r' o = 0) (hc' : c' < P ^ K) (h : Fd.addQ P K (Fd.mulQ P K m a r) c = Fd.addQ P K (Fd.mulQ P K m a r') c') : Fd.addQ P K (Fd.mulQ P K m a (Fd.addQ P K r o)) c = c' := by
  have e1 : Fd.addQ P K (Fd.mulQ P K m a (Fd.addQ P K r o)) c = Fd.addQ P K (Fd.mulQ P K m a o) (Fd.addQ P K (Fd.mulQ P K m a r) c) := by
    rw [Fd.mulQ_add hR, Fd.addQ_comm hR (Fd.mulQ P K m a r), Fd.addQ_assoc hR]
  rw [e1, h, ← Fd.addQ_assoc hR, Fd.addQ_comm hR (Fd.mulQ P K m a o), ← Fd.mulQ_add hR, ho, Fd.mulQ_zero hR, zero_add' hR hc']
theorem orth_F {P K a b : Nat} {l : List Int} (hG : Fd.GoodF P K l) (haq : a < P ^ K) (hbq : b < P ^ K) (hab : a ≠ b) : Orth (P ^ K) (sqF P K l a) (sqF P K l b) := by
  have hR := hG.field.toRing1
  intro r c r' c' hr hc hr' hc' h1 h2
  obtain ⟨o, hoq, ho⟩ := opp_of hR (x := r')
  have d1 := diff_of hR ho hc' h1
  have d2 := diff_of hR ho hc' h2
  have e1 := add_injl hR (Fd.mulQ_lt hR _ _) (Fd.mulQ_lt hR _ _) (d1.trans d2.symm)
  have e0 : Fd.addQ P K r o = 0 := by
    apply Classical.byContradiction
    intro hne
    exact hab (mul_injr hG.field haq hbq (Fd.addQ_lt hR r o) (by omega) e1)
  obtain rfl : r = r' := add_injl hR hr hr' (e0.trans ho.symm)
  exact ⟨rfl, add_inj hR hc hc' h1⟩
theorem not_orth_F {P K a : Nat} {l : List Int} (hG : Fd.GoodF P K l) (haq : a < P ^ K) : ¬ Orth (P ^ K) (sqF P K l a) (sqF P K l a) := fun h => by
  have hR := hG.field.toRing1
  have h2 := Fd.one_lt hR
  have e : sqF P K l a 0 a = sqF P K l a 1 0 := by
    unfold sqF
    rw [Fd.mulQ_zero hR, Fd.mulQ_one hR haq, zero_add' hR haq, Fd.addQ_zero hR haq]
  have := (h 0 a 1 0 (by omega) haq h2 (by omega) e e).1
  omega
end Go.Proofs.YtagpbkcnjogbgabDoor
