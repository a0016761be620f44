/- The walks of Still, Then, Undo. -/
import Derived.Test.YtamdpcajfgbagaaPList
import Derived.OwnWalk
namespace Go.Proofs.Ytamdpcajfgbagaa
open Go.RowKit

theorem own_made' {w : World} {base g n : Nat} (h : w.ownsRow base 3 1 (.slice (some ⟨g, 0, none⟩) n n) n (madeCells #[Value.int .i64 0] n).toList) : Own w g n (fun _ => 0) := by
  obtain ⟨_, ⟨h1, _⟩ | ⟨g', cap, cur, e, hb, hg, h2, h3, h4, ht⟩⟩ := h
  · cases h1
  · cases e
    refine ⟨cur, hg, fun j hj => ?_⟩
    have e2 : (cur.toList.take (n * 1))[j]? = ((madeCells #[Value.int .i64 0] n).toList)[j]? := by rw [ht]
    rw [List.getElem?_take, if_pos (by omega)] at e2
    rw [← Array.getElem?_toList, e2]
    simp [madeCells, hj, Nat.mod_one]
theorem pl_succ (n : Nat) (f : Nat → Nat) : pl (n + 1) f = pl n f ++ [(f n : Int)] := by unfold pl; rw [List.range_succ, List.map_append]; rfl
theorem own_pl {w : World} {base n : Nat} {v : Value} {f : Nat → Nat} (h : w.ownsRow base 3 1 v n ((pl n f).map (Value.int .i64))) : Sl w v (pl n f) := Sl.owned (by rw [pl_len]; exact h)
theorem Own.pl {w : World} {g n : Nat} {h : Nat → Int} {f : Nat → Nat} (hO : Own w g n h) (cap : Nat) (e : ∀ j, j < n → h j = (f j : Int)) : Sl w (.slice (some ⟨g, 0, none⟩) n cap) (Go.Proofs.Ytamdpcajfgbagaa.pl n f) := by
  have := (hO.congr (f' := fun j => (f j : Int)) e).sl cap
  exact this

/-- What undoes it. -/
noncomputable def iv (f : Nat → Nat) (y : Nat) : Nat := itr f (per f y - 1) y
theorem Pm.iv_lt {n : Nat} {f : Nat → Nat} (P : Pm n f) {y : Nat} (hy : y < n) : iv f y < n := P.itr_lt hy _
theorem Pm.f_iv {n : Nat} {f : Nat → Nat} (P : Pm n f) {y : Nat} (hy : y < n) : f (iv f y) = y := by
  have hp := (P.per hy).1
  show itr f (Go.Proofs.Ytamdpcajfgbagaa.per f y - 1 + 1) y = y
  rw [show Go.Proofs.Ytamdpcajfgbagaa.per f y - 1 + 1 = Go.Proofs.Ytamdpcajfgbagaa.per f y by omega, hp.2.2]
theorem Pm.iv_f {n : Nat} {f : Nat → Nat} (P : Pm n f) {x : Nat} (hx : x < n) : iv f (f x) = x :=
  P.inj _ _ (P.iv_lt (P.lt x hx)) hx (P.f_iv (P.lt x hx))
theorem Pm.iv_pm {n : Nat} {f : Nat → Nat} (P : Pm n f) : Pm n (iv f) :=
  ⟨fun y hy => P.iv_lt hy, fun i j hi hj e => by rw [← P.f_iv hi, ← P.f_iv hj, e]⟩
theorem Pm.iv_of {n : Nat} {f : Nat → Nat} (P : Pm n f) {h : Nat → Int} (e : ∀ t, t < n → h (f t) = (t : Int)) : ∀ y, y < n → h y = (iv f y : Int) := fun y hy => by
  have := e _ (P.iv_lt hy)
  rw [P.f_iv hy] at this
  exact this
theorem undo_step {n k : Nat} {f : Nat → Nat} (P : Pm n f) {h : Nat → Int} (hk : k < n) (e : ∀ t, t < k → h (f t) = (t : Int)) : ∀ t, t < k + 1 → upd h (f k) (k : Int) (f t) = (t : Int) := fun t ht => by
  unfold upd
  by_cases et : t = k
  · subst et; rw [if_pos rfl]
  · rw [if_neg (fun e2 => et (P.inj t k (by omega) hk e2))]
    exact e t (by omega)

end Go.Proofs.Ytamdpcajfgbagaa
