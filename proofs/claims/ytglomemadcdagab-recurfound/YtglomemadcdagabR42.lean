/- The walks of windows and of what it hands back: the windows of a row, one after another. -/
import Derived.Test.YtglomemadcdagabRF
import Derived.Test.YtglomemadcdagabR29
import Derived.RangeFuncBound
import Derived.RangeFuncCalls
import Derived.Shelf.Abstract
import Derived.Shelf.RegionOpen
import Derived.OwnWalkIn
import Derived.TacticsInMore
import Derived.LoopNIn
import Derived.LoopIn
import Derived.Stop.RegionWithIn
namespace Go.Proofs.Ytglomemadcdagab
open Go.RowKit Go.Shelf

attribute [local go_sem] Oper.semAt_some

theorem wide_no {p : Prop} (h : Fence.wide.depth.isSome = true) : p := by cases h

theorem least_of (p : Nat → Prop) : ∀ n, p n → ∃ m, p m ∧ ∀ k, k < m → ¬ p k := by
  intro n
  induction n using Nat.strongRecOn with
  | _ n ih =>
    intro h
    by_cases hk : ∃ k, k < n ∧ p k
    · obtain ⟨k, h1, h2⟩ := hk
      exact ih k h1 h2
    · exact ⟨n, h, fun k h1 h2 => hk ⟨k, h1, h2⟩⟩
open Classical in
/-- How many rounds are left at the most, read off what holds. -/
noncomputable def leftN (N : Nat) (R : Nat → Prop) : Nat := if h : ∃ d, ∃ i, R i ∧ d = N - i then Classical.choose (least_of (fun d => ∃ i, R i ∧ d = N - i) _ (Classical.choose_spec h)) else 0
theorem leftN_is {N : Nat} {R : Nat → Prop} {i : Nat} (h : R i) : ∃ j, R j ∧ leftN N R = N - j := by
  have hex : ∃ d, ∃ i, R i ∧ d = N - i := ⟨_, i, h, rfl⟩
  unfold leftN
  rw [dif_pos hex]
  obtain ⟨⟨j, h1, h2⟩, _⟩ := Classical.choose_spec (least_of (fun d => ∃ i, R i ∧ d = N - i) _ (Classical.choose_spec hex))
  exact ⟨j, h1, h2⟩
theorem leftN_le {N : Nat} {R : Nat → Prop} {i : Nat} (h : R i) : leftN N R ≤ N - i := by
  have hex : ∃ d, ∃ i, R i ∧ d = N - i := ⟨_, i, h, rfl⟩
  unfold leftN
  rw [dif_pos hex]
  have h2 := (Classical.choose_spec (least_of (fun d => ∃ i, R i ∧ d = N - i) _ (Classical.choose_spec hex))).2
  exact Nat.le_of_not_lt fun hlt => h2 _ hlt ⟨i, h, rfl⟩

/-- What the iterator reads between two rounds. -/
def WinAt (S : Nat → Prop) (B0 B2 : Nat) (p t : Int) (v : Value) (l : List Int) (w : World) : Prop :=
  RB w B0 p v ∧ w.cell? ⟨B2, 0, none⟩ = some (.int .i64 t) ∧ Sl w v l ∧ S B0 ∧ S B2 ∧ ∀ b off n cap, v = .slice (some ⟨b, off, none⟩) n cap → S b
theorem WinAt.same {S : Nat → Prop} {B0 B2 : Nat} {p t : Int} {v : Value} {l : List Int} {w w' : World} (h : WinAt S B0 B2 p t v l w) (hs : Same S w w') : WinAt S B0 B2 p t v l w' := by
  obtain ⟨h1, h2, h3, h4, h5, h6⟩ := h
  refine ⟨(hs B0 h4).trans h1, (World.cell?_of_block (a := ⟨B2, 0, none⟩) (hs B2 h5)).trans h2, ?_, h4, h5, h6⟩
  obtain ⟨a, cap, rfl, hc⟩ := h3
  refine ⟨a, cap, rfl, fun j hj => ?_⟩
  obtain ⟨b, off, e, hcj⟩ := hc j hj
  refine ⟨b, off, e, (World.cell?_of_block (a := ⟨b, off + j, none⟩) (hs b ?_)).trans hcj⟩
  subst e
  exact h6 b off _ cap rfl
theorem WinAt.below {S : Nat → Prop} {B0 B2 : Nat} {p t : Int} {v : Value} {l : List Int} {w w' : World} (h : WinAt S B0 B2 p t v l w) (hb : Below w.heap.size w w') : WinAt S B0 B2 p t v l w' := by
  obtain ⟨h1, h2, h3, h4, h5, h6⟩ := h
  exact ⟨h1.below hb, (hb.cell (p := ⟨B2, 0, none⟩) (block_lt_of_cell h2)).trans h2, h3.below hb, h4, h5, h6⟩

set_option maxRecDepth 100000 in
set_option maxHeartbeats 2000000 in
theorem win_goes (n P N : Nat) (taps seed : List Int) (v : Value) (B0 B1 B2 : Nat) (S : Nat → Prop) (w : World)
    (hp : 2 ≤ P) (hp' : P ≤ 7) (hk1 : 1 ≤ taps.length) (hk : taps.length ≤ 8) (hbt : belB P taps = true) (hsl : seed.length = taps.length) (hbs : belB P seed = true)
    (h1 : w.cell? ⟨B1, 0, none⟩ = some (.int .i64 (winN P taps seed 0))) (hW0 : WinAt S B0 B2 P ((P : Int) ^ (taps.length - 1)) v taps w) :
    Goes n Try.prog 19 #[.pointer (some ⟨B1, 0, none⟩), .pointer (some ⟨B0, 0, none⟩), .pointer (some ⟨B2, 0, none⟩)] (fun i => #[.int .i64 (winN P taps seed i)]) S N w := by
  intro l J Jx W hbW hgrow hN hY hJ0
  have hc1 : W.cell? ⟨B1, 0, none⟩ = some (.int .i64 (winN P taps seed 0)) := (hbW.cell (p := ⟨B1, 0, none⟩) (block_lt_of_cell h1)).trans h1
  have hW1 := hW0.below hbW
  clear hW0 h1
  obtain ⟨k, Hk⟩ : ∃ k : Nat, Hid (taps.length = k) := ⟨_, rfl⟩
  obtain ⟨t, Ht⟩ : ∃ t : Int, Hid (t = (P : Int) ^ (taps.length - 1)) := ⟨_, rfl⟩
  obtain ⟨z, Hz⟩ : ∃ z : Nat → Int, Hid (z = winN P taps seed) := ⟨_, rfl⟩
  rw [← Ht.out] at hW1
  rw [← Hz.out] at hc1
  have hz : ∀ i, 0 ≤ z i ∧ z i < 5764801 := by
    intro i
    have h1 := winN_bd (taps := taps) (seed := seed) (p := (P : Int)) (by omega) hbs i
    have h2 := pow_bd (p := (P : Int)) (k := taps.length) (by omega) (by omega) hk
    rw [Hz.out]; omega
  have HY : Hid (∀ i A, J i A → YieldAt Fence.wide (n - 1) Try.prog l #[.int .i64 (z i)] A fun e B => (e = .returned (.bool true) ∧ J (i + 1) B ∧ Same S A B) ∨ (e = .returned (.bool false) ∧ Jx i B)) := by
    intro i A h
    rw [Hz.out]; exact hY i A h
  clear hY
  refine callsIn_of_wp Try.func19 rfl trivial ?_ rfl
  simp only [Try.ntmps19, List.size_toArray, List.length_cons, List.length_nil, Nat.reduceAdd, Nat.reduceSub, Array.replicate_succ, Array.replicate_zero, List.push_toArray, List.append_toArray, List.nil_append, List.cons_append]
  gi_wp2
  gi_loopw [5] (fun y wr => ∃ i, y = .int .i64 (z i) ∧ J i wr ∧ WinAt S B0 B2 P t v taps wr)
    (fun y wr => leftN N (fun i => y = .int .i64 (z i) ∧ J i wr ∧ WinAt S B0 B2 P t v taps wr))
  case atStart => exact ⟨0, rfl, hJ0, hW1⟩
  case round =>
    obtain ⟨i0, hi0⟩ := hrel
    obtain ⟨i, hi, hL⟩ := leftN_is (N := N) (R := fun j => u5 = Value.int .i64 (z j) ∧ J j wr ∧ WinAt S B0 B2 P t v taps wr) hi0
    clear hi0
    obtain ⟨rfl, hJ, hA⟩ := hi
    have HL : Hid (leftN N (fun j => Value.int .i64 (z i) = .int .i64 (z j) ∧ J j wr ∧ WinAt S B0 B2 P t v taps wr) = N - i) := hL
    clear hL
    have hiN := hN i wr hJ
    obtain ⟨fn, tmps, assign, body, hy, hR⟩ := HY.out i wr hJ
    gi_wp2
    refine ⟨(fun h => by cases h), hR.mono ?_⟩
    rintro e W3 (⟨rfl, hJ3, hs3⟩ | ⟨rfl, hJx3⟩)
    · have hA3 := hA.same hs3
      have hc3 := hA3.1.cells
      have c31 := hc3.1
      have c32 := hc3.2
      have ct3 := hA3.2.1
      clear hc3
      obtain ⟨q, Hq⟩ : ∃ q : Int, Hid (q = rowN P taps seed (i + taps.length)) := ⟨_, rfl⟩
      have hq : 0 ≤ q ∧ q < P := by rw [Hq.out]; exact rowN_bd (by omega) hbs _
      have hstep : z i / (P : Int) + q * t = z (i + 1) := by rw [Hz.out, Hq.out, Ht.out]; exact winN_step (by omega) hbs hk1 i
      have hz0 := hz i
      have hz1 := hz (i + 1)
      have ht0 : 0 ≤ t ∧ t ≤ 5764801 := by
        have h2 := pow_bd (p := (P : Int)) (k := taps.length - 1) (by omega) (by omega) (by omega)
        rw [Ht.out]; omega
      have hqt0 : 0 ≤ q * t := Int.mul_nonneg hq.1 ht0.1
      have hqt9 : q * t ≤ 7 * 5764801 := Int.mul_le_mul (by omega) ht0.2 ht0.1 (by omega)
      obtain ⟨d, Hd⟩ : ∃ d : Int, Hid (d = z i / (P : Int)) := ⟨_, rfl⟩
      have hd : z i / (P : Int) = d := Hd.out.symm
      have hd0 : 0 ≤ d ∧ d ≤ 5764801 := by rw [Hd.out]; exact ⟨Int.ediv_nonneg hz0.1 (by omega), Int.le_trans (Int.ediv_le_self _ hz0.1) (by omega)⟩
      rw [hd] at hstep
      have C : ∀ A, Sl A v taps → Calls Try.prog 20 #[.agg #[.int .i64 P, v], .int .i64 (z i)] A fun e B => e = .returned (.int .i64 q) ∧ Below A.heap.size A B := by
        intro A hsA
        have h := behind_any P taps.length taps v (fun j => rowN P taps seed (i + j)) (z i) A hsA rfl hp hp' hk hbt (row_digs (by omega) hbs i) (by rw [Hz.out]; rfl)
        rw [Hq.out, winN_next hsl i]; exact h
      have hw0 : IntKind.i64.wrap (q * t) = q * t := by rw [IntKind.wrap_i64]; omega
      have hw1 : wrap64 (q * t) = q * t := by simp only [wrap64]; omega
      have hw2 : IntKind.i64.wrap (d + q * t) = d + q * t := by rw [IntKind.wrap_i64]; omega
      have HE1 : Hid (IntKind.i64.wrap (d + IntKind.i64.wrap (q * t)) = z (i + 1)) := by
        show IntKind.i64.wrap (d + IntKind.i64.wrap (q * t)) = z (i + 1)
        rw [hw0, hw2, hstep]
      have HE2 : Hid (IntKind.i64.wrap (d + wrap64 (q * t)) = z (i + 1)) := by
        show IntKind.i64.wrap (d + wrap64 (q * t)) = z (i + 1)
        rw [hw1, hw2, hstep]
      have HE3 : Hid (IntKind.i64.wrap (d + q * t) = z (i + 1)) := by
        show IntKind.i64.wrap (d + q * t) = z (i + 1)
        rw [hw2, hstep]
      have HE4 : Hid (d + q * t = z (i + 1)) := by
        show d + q * t = z (i + 1)
        exact hstep
      clear hw0 hw1 hw2
      clear hstep hqt0 hqt9
      have HS3 : Hid (Sl W3 v taps) := hA3.2.2.1
      gi_wp2
      gi_region_with (refine ⟨trivial, (fun h => wide_no h), (callsIn_wide.2 (C _ (Sl.drew HS3.out))).mono ?_⟩; rintro e W4 ⟨rfl, hb4⟩; have hA4 := WinAt.below (w := W3.drew) hA3 hb4; have c41 := hA4.1.cells.1; have c42 := hA4.2.1)
      all_goals
        gi_wp2
        go_roundw
        case rel =>
          have hJ4 : J (i + 1) W4 := hgrow (i + 1) W3.drew _ (hgrow (i + 1) W3 _ hJ3 (Below.refl _ W3).drew) hb4
          first
            | ((repeat apply Exists.intro); exact ⟨(⟨i + 1, by rw [HE1.out], hJ4, hA4⟩ : ∃ j : Nat, Value.int .i64 (IntKind.i64.wrap (d + IntKind.i64.wrap (q * t))) = .int .i64 (z j) ∧ J j W4 ∧ WinAt S B0 B2 P t v taps W4), rfl⟩)
            | ((repeat apply Exists.intro); exact ⟨(⟨i + 1, by rw [HE2.out], hJ4, hA4⟩ : ∃ j : Nat, Value.int .i64 (IntKind.i64.wrap (d + wrap64 (q * t))) = .int .i64 (z j) ∧ J j W4 ∧ WinAt S B0 B2 P t v taps W4), rfl⟩)
            | ((repeat apply Exists.intro); exact ⟨(⟨i + 1, by rw [HE3.out], hJ4, hA4⟩ : ∃ j : Nat, Value.int .i64 (IntKind.i64.wrap (d + q * t)) = .int .i64 (z j) ∧ J j W4 ∧ WinAt S B0 B2 P t v taps W4), rfl⟩)
            | ((repeat apply Exists.intro); exact ⟨(⟨i + 1, by rw [HE4.out], hJ4, hA4⟩ : ∃ j : Nat, Value.int .i64 (d + q * t) = .int .i64 (z j) ∧ J j W4 ∧ WinAt S B0 B2 P t v taps W4), rfl⟩)
        case measure =>
          have hJ4 : J (i + 1) W4 := hgrow (i + 1) W3.drew _ (hgrow (i + 1) W3 _ hJ3 (Below.refl _ W3).drew) hb4
          first
            | exact Nat.lt_of_le_of_lt (leftN_le (N := N) (i := i + 1) (R := fun j => Value.int .i64 (IntKind.i64.wrap (d + IntKind.i64.wrap (q * t))) = .int .i64 (z j) ∧ J j W4 ∧ WinAt S B0 B2 P t v taps W4) ⟨by rw [HE1.out], hJ4, hA4⟩) (Nat.lt_of_lt_of_le (show N - (i + 1) < N - i by omega) (Nat.le_of_eq HL.out.symm))
            | exact Nat.lt_of_le_of_lt (leftN_le (N := N) (i := i + 1) (R := fun j => Value.int .i64 (IntKind.i64.wrap (d + wrap64 (q * t))) = .int .i64 (z j) ∧ J j W4 ∧ WinAt S B0 B2 P t v taps W4) ⟨by rw [HE2.out], hJ4, hA4⟩) (Nat.lt_of_lt_of_le (show N - (i + 1) < N - i by omega) (Nat.le_of_eq HL.out.symm))
            | exact Nat.lt_of_le_of_lt (leftN_le (N := N) (i := i + 1) (R := fun j => Value.int .i64 (IntKind.i64.wrap (d + q * t)) = .int .i64 (z j) ∧ J j W4 ∧ WinAt S B0 B2 P t v taps W4) ⟨by rw [HE3.out], hJ4, hA4⟩) (Nat.lt_of_lt_of_le (show N - (i + 1) < N - i by omega) (Nat.le_of_eq HL.out.symm))
            | exact Nat.lt_of_le_of_lt (leftN_le (N := N) (i := i + 1) (R := fun j => Value.int .i64 (d + q * t) = .int .i64 (z j) ∧ J j W4 ∧ WinAt S B0 B2 P t v taps W4) ⟨by rw [HE4.out], hJ4, hA4⟩) (Nat.lt_of_lt_of_le (show N - (i + 1) < N - i by omega) (Nat.le_of_eq HL.out.symm))
    · gi_wp2
      go_end0
      exact ⟨⟨_, rfl⟩, i, hJx3⟩

end Go.Proofs.Ytglomemadcdagab
