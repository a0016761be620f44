/- The walks of Still, Then, Undo. -/
import Derived.Test.YtjfjdidibglhaaaPList
import Derived.OwnWalk
namespace Go.Proofs.Ytjfjdidibglhaaa
open Go.RowKit

theorem own_made' {w : World} {base g n : Nat} (h : w.ownsRow base 3 1 (.slice (some ⟨g, 0, none⟩) n n) n (madeCells #[Value.int .i64 0] n).toList) : Own w g n (fun _ => 0) := by
  obtain ⟨_, ⟨h1, _⟩ | ⟨g', cap, cur, e, hb, hg, h2, h3, h4, ht⟩⟩ := h
  · cases h1
  · cases e
    refine ⟨cur, hg, fun j hj => ?_⟩
    have e2 : (cur.toList.take (n * 1))[j]? = ((madeCells #[Value.int .i64 0] n).toList)[j]? := by rw [ht]
    rw [List.getElem?_take, if_pos (by omega)] at e2
    rw [← Array.getElem?_toList, e2]
    simp [madeCells, hj, Nat.mod_one]
theorem pl_succ (n : Nat) (f : Nat → Nat) : pl (n + 1) f = pl n f ++ [(f n : Int)] := by unfold pl; rw [List.range_succ, List.map_append]; rfl
theorem own_pl {w : World} {base n : Nat} {v : Value} {f : Nat → Nat} (h : w.ownsRow base 3 1 v n ((pl n f).map (Value.int .i64))) : Sl w v (pl n f) := Sl.owned (by rw [pl_len]; exact h)
theorem Own.pl {w : World} {g n : Nat} {h : Nat → Int} {f : Nat → Nat} (hO : Own w g n h) (cap : Nat) (e : ∀ j, j < n → h j = (f j : Int)) : Sl w (.slice (some ⟨g, 0, none⟩) n cap) (Go.Proofs.Ytjfjdidibglhaaa.pl n f) := by
  have := (hO.congr (f' := fun j => (f j : Int)) e).sl cap
  exact this

set_option maxHeartbeats 400000 in
theorem Still_any (n : Nat) (w : World) (hn : n ≤ 12) :
    Calls Try.prog 23 #[.int .i64 (n : Int)] w fun e w' => ∃ v, e = .returned v ∧ w'.ownsRow w.heap.size 3 1 v n ((pl n fun x => x).map (Value.int .i64)) ∧ Below w.heap.size w w' := by
  obtain ⟨i3, hi, hz0, hz1, hz2⟩ := info3
  go_enter Try.func23, Try.ntmps23
  go_wp2
  go_loopw [3, 4] (fun v i wr => ∃ k : Nat, i = .int .i64 k ∧ k ≤ n ∧ wr.ownsRow w.heap.size 3 1 v k ((pl k fun x => x).map (Value.int .i64)) ∧ Below w.heap.size w wr) (fun _ i _ => (n - intOf i).toNat)
  case atStart => exact ⟨0, rfl, by omega, World.ownsRow_nil _ _ _ _, Below.refl _ _⟩
  case round =>
    obtain ⟨k, rfl, hk, hown, hb⟩ := hrel
    have hbz := hb.size
    by_cases hlt : k < n
    · have hki : (k : Int) < n := by omega
      go_wp2_with (first
        | (at_builtin; refine wpList_append_own _ rfl _ _ 40 rfl w.heap.size 3 i3 (.int .i64 0) 1 8 und22 hi hz0 hz1 hz2 rfl (by decide) _ _ _ rfl (hown.alloc _) ⟨wr.heap.size, 0, none⟩ 1 1 [.int .i64 (k : Int)] rfl rfl ?c1 ?c2 ?c3 ?c4 ?c5 ?_)
        | go_in)
      case c1 =>
        intro j u hj
        match j, hj with
        | 0, hj => simp at hj; subst hj; simp [Addr.add]
      case c2 => intro u hu; simp at hu; subst hu; rfl
      case c3 => unfold maxLen; omega
      case c4 => omega
      case c5 => simp; omega
      · intro v' w1 hown' hgrow _
        have hb1 : Below w.heap.size w w1 := (hb.alloc hbz _).grown hgrow (by simp; omega) (fun k hk => (hown.lt k hk).1)
        go_wp2
        go_roundw
        case rel => exact ⟨k + 1, by go_num, by omega, by rw [pl_succ, List.map_append]; exact hown', hb1⟩
        case measure => simp [intOf]; omega
    · obtain rfl : k = n := by omega
      have hkd : decide ((k : Int) < (k : Int)) = false := by simp
      go_wp2
      go_ret
      exact ⟨_, rfl, hown, hb⟩

/-- What undoes it. -/
noncomputable def iv (f : Nat → Nat) (y : Nat) : Nat := itr f (per f y - 1) y
theorem Pm.iv_lt {n : Nat} {f : Nat → Nat} (P : Pm n f) {y : Nat} (hy : y < n) : iv f y < n := P.itr_lt hy _
theorem Pm.f_iv {n : Nat} {f : Nat → Nat} (P : Pm n f) {y : Nat} (hy : y < n) : f (iv f y) = y := by
  have hp := (P.per hy).1
  show itr f (Go.Proofs.Ytjfjdidibglhaaa.per f y - 1 + 1) y = y
  rw [show Go.Proofs.Ytjfjdidibglhaaa.per f y - 1 + 1 = Go.Proofs.Ytjfjdidibglhaaa.per f y by omega, hp.2.2]
theorem Pm.iv_f {n : Nat} {f : Nat → Nat} (P : Pm n f) {x : Nat} (hx : x < n) : iv f (f x) = x :=
  P.inj _ _ (P.iv_lt (P.lt x hx)) hx (P.f_iv (P.lt x hx))
theorem Pm.iv_pm {n : Nat} {f : Nat → Nat} (P : Pm n f) : Pm n (iv f) :=
  ⟨fun y hy => P.iv_lt hy, fun i j hi hj e => by rw [← P.f_iv hi, ← P.f_iv hj, e]⟩
theorem Pm.iv_of {n : Nat} {f : Nat → Nat} (P : Pm n f) {h : Nat → Int} (e : ∀ t, t < n → h (f t) = (t : Int)) : ∀ y, y < n → h y = (iv f y : Int) := fun y hy => by
  have := e _ (P.iv_lt hy)
  rw [P.f_iv hy] at this
  exact this
theorem undo_step {n k : Nat} {f : Nat → Nat} (P : Pm n f) {h : Nat → Int} (hk : k < n) (e : ∀ t, t < k → h (f t) = (t : Int)) : ∀ t, t < k + 1 → upd h (f k) (k : Int) (f t) = (t : Int) := fun t ht => by
  unfold upd
  by_cases et : t = k
  · subst et; rw [if_pos rfl]
  · rw [if_neg (fun e2 => et (P.inj t k (by omega) hk e2))]
    exact e t (by omega)

end Go.Proofs.Ytjfjdidibglhaaa
