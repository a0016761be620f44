/- The walk of PeriodOf: the document's word on when a row comes again. -/
import Derived.Test.YtglomemadcdagaaR23
import Derived.Test.YtglomemadcdagaaR13
import Derived.Test.YtglomemadcdagaaRPer
import Derived.OwnWalk
namespace Go.Proofs.Ytglomemadcdagaa
open Go.RowKit

theorem own_made' {w : World} {base g n : Nat} (h : w.ownsRow base 3 1 (.slice (some ⟨g, 0, none⟩) n n) n (madeCells #[Value.int .i64 0] n).toList) : Own w g n (fun _ => 0) := by
  obtain ⟨_, ⟨h1, _⟩ | ⟨g', cap, cur, e, hb, hg, h2, h3, h4, ht⟩⟩ := h
  · cases h1
  · cases e
    refine ⟨cur, hg, fun j hj => ?_⟩
    have e2 : (cur.toList.take (n * 1))[j]? = ((madeCells #[Value.int .i64 0] n).toList)[j]? := by rw [ht]
    rw [List.getElem?_take, if_pos (by omega)] at e2
    rw [← Array.getElem?_toList, e2]
    simp [madeCells, hj, Nat.mod_one]
theorem own_of_row {w : World} {base n : Nat} {v : Value} {l : List Int} (h : w.ownsRow base 3 1 v n (l.map (Value.int .i64))) (hn : 0 < n) :
    ∃ g cap, v = .slice (some ⟨g, 0, none⟩) n cap ∧ base ≤ g ∧ n ≤ cap ∧ cap ≤ maxLen ∧ Own w g n (fun j => l.getD j 0) := by
  obtain ⟨hl, ⟨_, hn0⟩ | ⟨g, cap, cur, rfl, hb, hg, h2, h3, _, ht⟩⟩ := h
  · omega
  · refine ⟨g, cap, rfl, hb, h2, h3, cur, hg, fun j hj => ?_⟩
    have hj2 : j < l.length := by simp at hl; omega
    have h2 : (cur.toList.take (n * 1))[j]? = (l.map (Value.int .i64))[j]? := by rw [ht]
    rw [List.getElem?_take, if_pos (by omega)] at h2
    rw [← Array.getElem?_toList, h2]
    simp [hj2]
/-- The window as a list. -/
def winL (p : Int) (taps seed : List Int) (i : Nat) : List Int := (List.range taps.length).map fun j => rowN p taps seed (i + j)
theorem winL_len (p : Int) (taps seed : List Int) (i : Nat) : (winL p taps seed i).length = taps.length := by simp [winL]
theorem winL_at (p : Int) (taps seed : List Int) (i : Nat) {j : Nat} (h : j < taps.length) : (winL p taps seed i).getD j 0 = rowN p taps seed (i + j) := by simp [winL, h]
theorem winL_num (p : Int) (taps seed : List Int) (i : Nat) : numL p (winL p taps seed i) = winN p taps seed i := by
  unfold numL winN
  rw [winL_len]
  exact numP_congr (fun j hj => winL_at p taps seed i hj)
theorem winL_bel {p : Int} {taps seed : List Int} (hp : 0 < p) (hs : belB p seed = true) (i : Nat) : belB p (winL p taps seed i) = true := by
  rw [belB_iff]
  intro j hj
  rw [winL_len] at hj
  rw [winL_at _ _ _ _ hj]
  exact rowN_bd hp hs _

set_option maxHeartbeats 4000000 in
theorem periodOf_ok (P Q : Nat) (taps seed : List Int) (v u : Value) (w : World) (hp : 2 ≤ P) (hp' : P ≤ 7) (hk1 : 1 ≤ taps.length) (hk : taps.length ≤ 8) (hbt : belB P taps = true) (hsl : seed.length = taps.length) (hbs : belB P seed = true)
    (hl : Sl w v taps) (hm : Sl w u seed) (hQ : Q = P ^ taps.length) (hQ' : Q ≤ 20000) :
    Calls Try.prog 16 #[.int .i64 P, v, u] w fun e w' => ∃ a b : Nat, e = .returned (.tuple #[.int .i64 a, .int .i64 b, .int .i64 0]) ∧ PerIs (winN P taps seed) a b ∧ Below w.heap.size w w' := by
  obtain ⟨i3, hi, hz0, hz1, hz2⟩ := info3
  obtain ⟨k, Hk⟩ : ∃ k : Nat, Hid (taps.length = k) := ⟨_, rfl⟩
  have hk1' : 1 ≤ k := by rw [← Hk.out]; exact hk1
  have hk' : k ≤ 8 := by rw [← Hk.out]; exact hk
  have hQ1 : 1 ≤ Q := by rw [hQ]; exact Nat.pow_pos (by omega)
  have HQ : Hid ((P : Int) ^ taps.length = (Q : Int)) := by show (P : Int) ^ taps.length = (Q : Int); rw [hQ, Int.natCast_pow]
  have CS : ∀ A, Calls Try.prog 22 #[.int .i64 P, .int .i64 (k : Int), .int .i64 20000] A fun e B => e = .returned (.int .i64 (Q : Int)) ∧ B = A := by
    intro A
    have h := states_ref P k 20000 A hp hp' (by omega) (by omega) (by omega)
    have e : statZ P k 20000 = Q := by unfold statZ; rw [← Hk.out, ← hQ, if_pos hQ']
    rw [e] at h; exact h
  have CR : ∀ A, Below w.heap.size w A → Calls Try.prog 13 #[.int .i64 P, v, u, .int .i64 ((Q : Int) + (k : Int) + 1)] A fun e B => ∃ r, e = .returned r ∧ B.ownsRow A.heap.size 3 1 r (Q + k + 1) ((rowL P taps seed (Q + k + 1)).map (Value.int .i64)) ∧ Below A.heap.size A B := by
    intro A hA
    have h := rowOf_any P (Q + k + 1) taps seed v u A hp hp' hk1 hk hbt hsl hbs (hl.below hA) (hm.below hA) (by omega)
    rw [show ((Q + k + 1 : Nat) : Int) = (Q : Int) + (k : Int) + 1 by omega] at h; exact h
  obtain ⟨a, cap, rfl, hlc⟩ := id hl
  rw [Hk.out] at CR ⊢
  obtain ⟨z, Hz⟩ : ∃ z : Nat → Int, Hid (z = winN P taps seed) := ⟨_, rfl⟩
  have hzb : ∀ j, 0 ≤ z j ∧ z j < (Q : Int) := fun j => by
    have h := winN_bd (taps := taps) (seed := seed) (p := (P : Int)) (by omega) hbs j
    rw [HQ.out] at h
    rw [Hz.out]; exact h
  rw [← Hz.out]
  have CN : ∀ A t s, Sl A s (winL P taps seed t) → Calls Try.prog 23 #[s, .int .i64 P] A fun e B => e = .returned (.int .i64 (z t)) ∧ B = A := by
    intro A t s hs
    have h := numberRef_any P (winL P taps seed t) s A hs hp hp' (by rw [winL_len]; exact hk) (winL_bel (by omega) hbs t)
    rw [winL_num, ← Hz.out] at h; exact h
  clear hQ hl hm hlc
  have hQ0 : ((Q : Int) == 0) = false := by simp; omega
  go_enter Try.func16, Try.ntmps16
  go_wp2_with (first
    | (go_at_call 22; refine (CS _).mono ?_; rintro e w1 ⟨rfl, hw1⟩; replace hw1 := hw1.symm; subst hw1)
    | (go_at_call 13; refine (CR _ (Below.refl _ _)).mono ?_; rintro e w2 ⟨r, rfl, ho2, hb2⟩)
    | (at_make; refine wpList_make_full _ rfl _ _ 22 rfl w2.heap.size 3 i3 (.int .i64 0) 1 und22 hi hz0 hz1 .i64 .i64 (Q : Int) (Q : Int) Q rfl rfl rfl rfl ?c1 ?c2 (Nat.le_refl _) ?_))
  case c1 => rw [hz2]; omega
  case c2 => unfold maxLen; omega
  intro w3 how3 hgr3
  have hO3 := own_made' how3
  obtain ⟨g, cg, rfl, hgb, hcg1, hcg2, hOr⟩ := own_of_row ho2 (by omega)
  have hgl := hOr.lt
  have hb3 : Below w2.heap.size w2 w3 := ⟨hgr3.os, hgr3.tape, hgr3.output, hgr3.size, fun k hk => hgr3.block k hk (by simp)⟩
  have hOr3 := hOr.below hb3
  have hB3 := hb2.trans (hb3.mono hb2.size)
  obtain ⟨G, HG⟩ : ∃ G, Hid (G = w2.heap.size) := ⟨_, rfl⟩
  rw [← HG.out] at hO3 ⊢
  have hgG : g < G := by rw [HG.out]; exact hgl
  have hwG : w.heap.size ≤ G := by omega
  clear how3 hgr3 ho2 hOr hb3
  unfold maxLen at hcg2
  go_wp2
  go_loopw [13] (fun i wr => ∃ t : Nat, i = .int .i64 t ∧ t ≤ Q ∧ Apart z t ∧ Own wr G Q (metF z t) ∧ Own wr g (Q + k + 1) (fun j => (rowL P taps seed (Q + k + 1)).getD j 0) ∧ Below w.heap.size w wr) (fun i _ => (Q + 1 - intOf i).toNat)
  case atStart => exact ⟨0, rfl, by omega, (fun s t _ h => by omega), hO3, hOr3, hB3⟩
  case round =>
    obtain ⟨t, rfl, htQ, hap, hO, hOr, hB⟩ := hrel
    have hle : (t : Int) + (k : Int) ≤ (Q : Int) + (k : Int) + 1 := by omega
    have hSW : Sl wr (.slice (some ⟨g, t, none⟩) k (cg - t)) (winL P taps seed t) := by
      refine ⟨_, cg - t, by rw [winL_len, Hk.out], fun j hj => ⟨g, t, rfl, ?_⟩⟩
      rw [winL_len] at hj
      rw [hOr.cell (t + j) (by rw [Hk.out] at hj; omega), winL_at _ _ _ _ hj, rowL_at _ _ _ (by rw [Hk.out] at hj; omega)]
    obtain ⟨xw, Hxw⟩ : ∃ xw : Nat, Hid (xw = (z t).toNat) := ⟨_, rfl⟩
    have hzi : z t = (xw : Int) := by have := hzb t; rw [Hxw.out]; omega
    have hxQ : xw < Q := by have := (hzb t).2; omega
    have CN' : Calls Try.prog 23 #[.slice (some ⟨g, t, none⟩) k (cg - t), .int .i64 P] wr fun e B => e = .returned (.int .i64 (xw : Int)) ∧ B = wr := by
      have h := CN wr t _ hSW
      rw [hzi] at h; exact h
    obtain ⟨m, Hm⟩ : ∃ m : Int, Hid (m = metF z t xw) := ⟨_, rfl⟩
    have hmb := metF_bd z xw t
    rw [← Hm.out] at hmb
    have hGc := hO.cell xw hxQ
    rw [← Hm.out] at hGc
    have hfr := hO.frozen xw
    by_cases hm0 : m = 0
    · subst hm0
      have hap1 : Apart z (t + 1) := hap.succ (by rw [← Hxw.out, ← Hm.out])
      have hle1 : t + 1 ≤ Q := hap1.le (fun j => by have := hzb j; exact ⟨this.1, this.2⟩)
      go_wp2_with (first
        | (go_at_call 23; refine CN'.mono ?_; rintro e w5 ⟨rfl, rfl⟩))
      go_roundw
      case rel =>
        refine ⟨t + 1, by go_num, hle1, hap1, ?_, hOr.other ⟨G, xw, none⟩ _ (by simp; omega), hB.setCell (p := ⟨G, xw, none⟩) (by simp; omega) _⟩
        rw [show metF z (t + 1) = upd (metF z t) xw ((t : Int) + 1) by rw [Hxw.out]; rfl]
        exact hO.set xw _
      case measure => simp [intOf]; omega
    · have hd : decide ((0 : Int) < m) = true := by simp; omega
      obtain ⟨j, hj, hjm, hper⟩ := hap.found (fun j => (hzb j).1) (by rw [← Hxw.out, ← Hm.out]; exact hm0)
      rw [← Hxw.out, ← Hm.out] at hjm
      have hm1 : m - 1 = (j : Int) := by omega
      have hm2 : (t : Int) + 1 - m = ((t - j : Nat) : Int) := by omega
      have HJM : Hid (m = (j : Int) + 1) := hjm
      clear hjm
      go_wp2_with (first
        | (go_at_call 23; refine CN'.mono ?_; rintro e w5 ⟨rfl, rfl⟩))
      go_quiet (fail)
      go_wp2
      exact bodyPost_ret (v := .tuple #[.int .i64 j, .int .i64 ((t - j : Nat) : Int), .int .i64 0]) (by simp [results, Try.results16, go_sem]) rfl ⟨j, t - j, rfl, hper, bdrewN hB _⟩

end Go.Proofs.Ytglomemadcdagaa
