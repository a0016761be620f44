/- Kinds as keys; the walk of kind's cycles. -/
import Derived.Test.YtgpkhfpejopacabGreatDoorZCRing
import Derived.Test.YtgpkhfpejopacabGreatDoorZPList
import Derived.BigRegion
import Derived.Maps.RangeWalk
import Derived.Maps.OwnSet
import Derived.Test.YtgpkhfpejopacabGreatDoorZGK
import Derived.Test.YtgpkhfpejopacabGreatDoorZCKind
import Derived.WideKeyEntry
/- The walks of turns, turnsOver. -/
/- Bracelets: half of the rings and of those that are their own mirror; nothing of the program. -/
namespace Go.Proofs.YtgpkhfpejopacabGreatDoor.Gc

/-! ### nothing is too great -/
end Go.Proofs.YtgpkhfpejopacabGreatDoor.Gc

/- The walks of tooMany, checkRing, RingFault, IsPrime. -/
/- The walks of power, powerOf, mobius, divisor, tooMany, RingFault, IsPrime. -/
namespace Go.Proofs.YtgpkhfpejopacabGreatDoor.Gc
open Go.RowKit

end Go.Proofs.YtgpkhfpejopacabGreatDoor.Gc

namespace Go.Proofs.YtgpkhfpejopacabGreatDoor.Gc
open Go.RowKit

end Go.Proofs.YtgpkhfpejopacabGreatDoor.Gc

/- Tallies: maps of numbers; the walks of unlike, turns, turnsOver. -/
namespace Go.Proofs.YtgpkhfpejopacabGreatDoor.Gc
open Go.RowKit Go.Maps

/-- What a map of numbers reads as: at c below N the number T c, where that is not nought. -/
structure TallyIs (D : DataW Unit) (T : Nat → Int) (N : Nat) : Prop where
  has : ∀ x : Int, Maps.has D (.int .i64 x) = true ↔ ∃ c : Nat, c < N ∧ x = c ∧ T c ≠ 0
  at_ : ∀ c, c < N → T c ≠ 0 → ∀ z, D.atKey (.int .i64 (c : Int)) z = .lit (.int .i64 (T c))
theorem TallyIs.empty (N : Nat) : TallyIs (.map []) (fun _ => 0) N := ⟨fun x => ⟨fun h => by simp [Maps.has] at h, fun ⟨_, _, _, h⟩ => absurd rfl h⟩, fun _ _ h => absurd rfl h⟩
theorem TallyIs.congr {D : DataW Unit} {T T' : Nat → Int} {N : Nat} (h : TallyIs D T N) (e : ∀ c, T c = T' c) : TallyIs D T' N := by
  have : T = T' := funext e
  rw [← this]; exact h
theorem TallyIs.look {D : DataW Unit} {T : Nat → Int} {N c : Nat} (h : TallyIs D T N) (hc : c < N) {x : Int} (hat : D.atKey (.int .i64 (c : Int)) (.lit (.int .i64 0)) = .lit (.int .i64 x)) : x = T c := by
  by_cases e : T c = 0
  · have hn : Maps.has D (.int .i64 (c : Int)) = false := by
      cases hh : Maps.has D (.int .i64 (c : Int)) with
      | false => rfl
      | true =>
        obtain ⟨c', _, e1, e2⟩ := (h.has _).1 hh
        obtain rfl : c = c' := by omega
        exact absurd e e2
    rw [atKey_of_not_has hn] at hat
    simp only [DataW.lit.injEq, Lit.int.injEq, true_and] at hat
    omega
  · rw [h.at_ c hc e] at hat
    simp only [DataW.lit.injEq, Lit.int.injEq, true_and] at hat
    omega
theorem TallyIs.put {D : DataW Unit} {T : Nat → Int} {N c : Nat} (h : TallyIs D T N) (hD : IsMap D) (hc : c < N) {v : Int} (hv : v ≠ 0) : TallyIs (D.put (.int .i64 (c : Int)) (.lit (.int .i64 v))) (upd T c v) N := by
  have hk : WideAt.IsKeyLit (.int .i64 (c : Int)) := trivial
  refine ⟨fun x => ?_, fun c' hc' hne z => ?_⟩
  · by_cases e : x = c
    · subst e
      rw [has_put_same hD hk]
      exact ⟨fun _ => ⟨c, hc, rfl, by simpa [upd] using hv⟩, fun _ => rfl⟩
    · rw [has_put_other (by simpa using e), h.has]
      refine ⟨fun ⟨c', h1, h2, h3⟩ => ⟨c', h1, h2, ?_⟩, fun ⟨c', h1, h2, h3⟩ => ⟨c', h1, h2, ?_⟩⟩
      · unfold upd; rw [if_neg (by omega)]; exact h3
      · unfold upd at h3; rw [if_neg (by omega)] at h3; exact h3
  · by_cases e : c' = c
    · subst e
      rw [atKey_put_same hD hk]
      simp [upd]
    · rw [atKey_put_other (by simp; omega)]
      unfold upd at hne ⊢
      rw [if_neg e] at hne ⊢
      exact h.at_ c' hc' hne z

end Go.Proofs.YtgpkhfpejopacabGreatDoor.Gc

namespace Go.Proofs.YtgpkhfpejopacabGreatDoor.Gc
open Go.RowKit Go.Maps

theorem grown_of_below {A B : World} (h : Below A.heap.size A B) : A.grownBy B none := ⟨h.os, h.tape, h.output, h.size, fun k hk _ => h.block k hk⟩
end Go.Proofs.YtgpkhfpejopacabGreatDoor.Gc

namespace Go.Proofs.YtgpkhfpejopacabGreatDoor.Gc
open Go.RowKit Go.Maps

set_option maxRecDepth 100000 in
theorem und75 : Tryz.prog.underlying 136 = some (.array 7 3) := by kernel_rfl
set_option maxRecDepth 100000 in
theorem inf75 (f : Nat → Int) : (Tryz.prog.info? 136).map (·.size) = some (mrow f).size := by rw [mrow_size]; kernel_rfl
set_option maxRecDepth 100000 in
theorem inf75L (x : List Nat) : (Tryz.prog.info? 136).map (·.size) = some (mvL x).length := by rw [mvL_len]; kernel_rfl
set_option maxRecDepth 100000 in
theorem und52k : Tryz.prog.underlying 89 = some (.map 136 3) := by kernel_rfl
set_option maxRecDepth 100000 in
theorem keyLaw75 : Go.WideMaps.KeyLaw Tryz.prog 136 := deep_law_laid laidOutG (m := 2) (by omega) (of_decide_eq_true (by kernel_rfl)) (by kernel_rfl) (by rw [und75])
set_option maxRecDepth 100000 in
theorem keyed75 : Keyed Tryz.prog 136 := Keyed.of_law keyLaw75
set_option maxRecDepth 100000 in
theorem cells75 : Tryz.prog.cellsOf 136 = 7 := by kernel_rfl
set_option maxRecDepth 100000 in
theorem keyType75 : Tryz.prog.keyType 136 = true := by kernel_rfl
set_option maxRecDepth 100000 in
theorem key_krow (f : Nat → Int) (hf : ∀ j, j < 7 → (Lit.int .i64 (f j)).wf = true) : ∃ kl, keyOf Tryz.prog 136 (.agg (mrow f)) = some kl := by
  unfold keyOf
  rw [und75]
  have hfm : (Value.agg (mrow f)).formed Tryz.prog 136 = true := by simp [Value.formed, cells75]
  simp only [keyType75, hfm, Bool.and_self, if_true]
  have h3 : ∀ (d : Nat) (n : Int), (Lit.int .i64 n).wf = true → Tryz.prog.keyLits (d + 1) 3 [.int .i64 n] = some [.int .i64 n] := by
    intro d n hn
    unfold Program.keyLits
    rw [und3]
    simp [hn]
  have hl : (Value.agg (mrow f)).cells.toList = (List.range 7).map fun j => Value.int .i64 (f j) := by simp [Value.cells, mrow]
  rw [hl]
  have hmain : ∀ m, Tryz.prog.keyLits (m + 1 + 1) 136 ((List.range 7).map fun j => Value.int .i64 (f j)) = some ((List.range 7).map fun j => Lit.int .i64 (f j)) := by
    intro m
    unfold Program.keyLits
    rw [und75]
    simp only [cells75, cells3', List.length_map, List.length_range, if_true]
    simp [List.range_succ, h3 _ _ (hf 0 (by omega)), h3 _ _ (hf 1 (by omega)), h3 _ _ (hf 2 (by omega)), h3 _ _ (hf 3 (by omega)), h3 _ _ (hf 4 (by omega)), h3 _ _ (hf 5 (by omega)), h3 _ _ (hf 6 (by omega))]
  obtain ⟨m, hm⟩ := types_pos
  rw [hm, hmain m]
  exact ⟨_, rfl⟩
/-- Seven numbers, none above 7. -/
def SmK (x : List Nat) : Prop := x.length = 7 ∧ ∀ i, i < 7 → x.getD i 0 ≤ 7
noncomputable def keyK (x : List Nat) : Lit := @Classical.epsilon Lit ⟨.bool false⟩ fun kl => keyOf Tryz.prog 136 (mv x) = some kl
set_option maxRecDepth 100000 in
theorem keyK_of {x : List Nat} (h : SmK x) : keyOf Tryz.prog 136 (mv x) = some (keyK x) := by
  obtain ⟨kl, e⟩ := key_krow (fun j => (x.getD j 0 : Int)) (fun j hj => by
    have := h.2 j hj
    exact WalkArith.wf_i64 (by omega))
  exact @Classical.epsilon_spec_aux Lit ⟨.bool false⟩ (fun kl => keyOf Tryz.prog 136 (mv x) = some kl) ⟨kl, e⟩
theorem keyK_lit {x : List Nat} (h : SmK x) : WideAt.IsKeyLit (keyK x) := keyed75.key (keyK_of h)
theorem keyK_inj {x y : List Nat} (hx : SmK x) (hy : SmK y) (e : keyK x = keyK y) : x = y :=
  mv_inj hx.1 hy.1 (keyed75.inj (keyK_of hx) (by rw [e]; exact keyK_of hy))

/-- What a map of kinds reads as: a list of kinds, each with how often it stands there. -/
structure KindsIs (D : DataW Unit) (L : List (List Nat)) : Prop where
  has : ∀ kl, Maps.has D kl = true → ∃ x ∈ L, kl = keyK x
  mem : ∀ x ∈ L, Maps.has D (keyK x) = true
  at_ : ∀ x ∈ L, ∀ z, D.atKey (keyK x) z = .lit (.int .i64 (L.count x : Int))
theorem KindsIs.empty : KindsIs (.map []) [] := ⟨fun kl h => by simp [Maps.has] at h, fun x h => absurd h (by simp), fun x h => absurd h (by simp)⟩
theorem KindsIs.look {D : DataW Unit} {L : List (List Nat)} (h : KindsIs D L) (hL : ∀ y ∈ L, SmK y) {x : List Nat} (hx : SmK x) {c : Int} (hat : D.atKey (keyK x) (.lit (.int .i64 0)) = .lit (.int .i64 c)) : c = (L.count x : Int) := by
  by_cases e : x ∈ L
  · rw [h.at_ x e] at hat
    simp only [DataW.lit.injEq, Lit.int.injEq, true_and] at hat
    exact hat.symm
  · have hn : Maps.has D (keyK x) = false := by
      cases hh : Maps.has D (keyK x) with
      | false => rfl
      | true =>
        obtain ⟨y, hy, e1⟩ := h.has _ hh
        rw [keyK_inj hx (hL y hy) e1] at e
        exact absurd hy e
    rw [atKey_of_not_has hn] at hat
    simp only [DataW.lit.injEq, Lit.int.injEq, true_and] at hat
    rw [List.count_eq_zero.2 e]; omega
theorem KindsIs.put {D : DataW Unit} {L : List (List Nat)} (h : KindsIs D L) (hD : IsMap D) (hL : ∀ y ∈ L, SmK y) {x : List Nat} (hx : SmK x) : KindsIs (D.put (keyK x) (.lit (.int .i64 ((L.count x : Int) + 1)))) (L ++ [x]) := by
  refine ⟨fun kl hk => ?_, fun y hy => ?_, fun y hy z => ?_⟩
  · by_cases e : kl = keyK x
    · exact ⟨x, by simp, e⟩
    · rw [has_put_other e] at hk
      obtain ⟨y, hy, e1⟩ := h.has _ hk
      exact ⟨y, by simp [hy], e1⟩
  · by_cases e : y = x
    · subst e; exact has_put_same hD (keyK_lit hx) _
    · have hy' : y ∈ L := by simpa [e] using hy
      rw [has_put_other (fun e1 => e (keyK_inj (hL y hy') hx e1))]
      exact h.mem y hy'
  · by_cases e : y = x
    · subst e
      rw [atKey_put_same hD (keyK_lit hx)]
      simp [List.count_append]
    · have hy' : y ∈ L := by simpa [e] using hy
      rw [atKey_put_other (fun e1 => e (keyK_inj (hL y hy') hx e1)), h.at_ y hy']
      have : List.count y [x] = 0 := List.count_eq_zero.2 (by simpa using e)
      rw [List.count_append, this, Nat.add_zero]

/-- The sum over what has come. -/
noncomputable def sumK (L : List (List Nat)) (left : Lit → Bool) (F : List Nat → Int) : Int := (L.map fun y => if left (keyK y) then 0 else F y).sum
theorem sumK_all {L : List (List Nat)} {left : Lit → Bool} {F : List Nat → Int} (h : ∀ kl, left kl = false) : sumK L left F = (L.map F).sum := by
  unfold sumK; congr 1; exact List.map_congr_left fun y _ => by simp [h]
theorem sumK_start {D : DataW Unit} {L : List (List Nat)} (h : KindsIs D L) (F : List Nat → Int) : sumK L (Maps.has D) F = 0 := by
  unfold sumK
  rw [List.map_congr_left (g := fun _ => (0 : Int)) fun y hy => by simp [h.mem y hy]]
  clear h
  induction L with
  | nil => rfl
  | cons a l ih => rw [List.map_cons, List.sum_cons, ih]; rfl
theorem sumK_strike {left : Lit → Bool} {x : List Nat} (hx : SmK x) (hl : left (keyK x) = true) (F : List Nat → Int) : ∀ {L : List (List Nat)}, (∀ y ∈ L, SmK y) → sumK L (fun z => left z && !z.sameKey (keyK x)) F = sumK L left F + (L.count x : Int) * F x
  | [], _ => by simp [sumK]
  | y :: L, h => by
    have ih := sumK_strike hx hl F (L := L) fun z hz => h z (by simp [hz])
    have hs : (keyK x).sameKey (keyK x) = true := WideAt.sameKey_self (keyK_lit hx)
    unfold sumK at ih ⊢
    rw [List.map_cons, List.sum_cons, ih, List.map_cons, List.sum_cons]
    by_cases e : y = x
    · subst e
      rw [List.count_cons_self]
      simp only [hl, hs, Bool.not_true, Bool.and_false, Bool.false_eq_true, if_false, if_true]
      rw [Int.natCast_succ, Int.add_mul, Int.one_mul]; omega
    · have hne : (keyK y).sameKey (keyK x) = false := sameKey_ne fun e1 => e (keyK_inj (h y (by simp)) hx e1)
      rw [List.count_cons_of_ne e]
      simp only [hne, Bool.not_false, Bool.and_true]
      omega
theorem sumK_bd {L : List (List Nat)} {left : Lit → Bool} {F : List Nat → Int} (h : ∀ y, 0 ≤ F y) : 0 ≤ sumK L left F ∧ sumK L left F ≤ (L.map F).sum := by
  unfold sumK
  induction L with
  | nil => simp
  | cons a l ih =>
    rw [List.map_cons, List.sum_cons, List.map_cons, List.sum_cons]
    have := h a
    split <;> omega

/-- All seven numbers together. -/
def all7 (x : List Nat) (k : Nat) : Nat := ((List.range k).map fun j => x.getD j 0).sum
theorem all7_sum {x : List Nat} (h : x.length = 7) : all7 x 7 = x.sum := by
  match x, h with
  | [a, b, c, d, e, f, g], _ => simp [all7, List.range_succ]
end Go.Proofs.YtgpkhfpejopacabGreatDoor.Gc
