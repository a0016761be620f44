/- When a list of numbers is a spectrum; nothing of the program. -/
import Derived.Test.YtioggiapkkeloaaDoorCB6
namespace Go.Proofs.YtioggiapkkeloaaDoor

theorem bk_at {n x : Nat} (l : List Int) (h : x < 2 ^ n) : tf (bkL n l) x = bkF n (tf l) x := by
  unfold tf bkL
  simp [h]
  rfl
/-- A list is the spectrum of what is found just if all sums are whole. -/
theorem back_iff {n : Nat} {l : List Int} (hl : l.length = 2 ^ n) : spL n (bkL n l) = l ↔ ∀ x, x < 2 ^ n → Wh n (tf l) x = (2 ^ n : Nat) ∨ Wh n (tf l) x = -((2 ^ n : Nat) : Int) := by
  have e3 : ((2 ^ n : Nat) : Int) = 2 ^ n := by simp
  have hp : (0 : Int) < 2 ^ n := Int.pow_pos (by decide)
  constructor
  · intro h x hx
    have e : Wh n (tf l) x = Wh n (Wh n (tg (tf (bkL n l)))) x := Wh_congr x fun a ha => by
      have := spL_at (bkL n l) ha
      rw [h] at this
      exact this
    rw [e, Wh_Wh n _ x hx, e3]
    unfold tg
    rw [bk_at l hx]
    unfold bkF
    split
    · right; omega
    · left; omega
  · intro h
    refine list_is (n := 2 ^ n) (by simp) hl fun a ha => ?_
    rw [spL_at _ ha]
    have e : Wh n (Wh n (tf l)) a = 2 ^ n * spF n (bkL n l) a := by
      unfold spF
      rw [← Wh_mul]
      refine Wh_congr a fun x hx => ?_
      unfold tg
      rw [bk_at l hx]
      unfold bkF
      rcases h x hx with k | k
      · rw [if_neg (by omega)]; omega
      · rw [if_pos (by omega)]; omega
    rw [Wh_Wh n _ a ha] at e
    exact (Int.eq_of_mul_eq_mul_left (by omega) e).symm
theorem bF_whole {n : Nat} {l : List Int} (hn : btN l.length = n) (h8 : n ≤ 8) (hb : ∀ j, j < l.length → -(l.length : Int) ≤ l.getD j 0 ∧ l.getD j 0 ≤ l.length) (h : ∀ x, x < 2 ^ n → Wh n (tf l) x = (2 ^ n : Nat) ∨ Wh n (tf l) x = -((2 ^ n : Nat) : Int)) : bF l = 0 := by
  subst hn
  rw [bF_on h8 hb, if_pos ((back_iff (bt_some h8)).2 h)]
theorem bF_none {n x : Nat} {l : List Int} (hn : btN l.length = n) (h8 : n ≤ 8) (hb : ∀ j, j < l.length → -(l.length : Int) ≤ l.getD j 0 ∧ l.getD j 0 ≤ l.length) (hx : x < 2 ^ n) (h : ¬ (Wh n (tf l) x = (2 ^ n : Nat) ∨ Wh n (tf l) x = -((2 ^ n : Nat) : Int))) : bF l = 4 := by
  subst hn
  rw [bF_on h8 hb, if_neg fun k => h ((back_iff (bt_some h8)).1 k x hx)]
end Go.Proofs.YtioggiapkkeloaaDoor
