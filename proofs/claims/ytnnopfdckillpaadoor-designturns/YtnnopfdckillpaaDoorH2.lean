/- The law DesignRyser. -/
import Derived.Test.YtnnopfdckillpaaDoorH1b
import Derived.Test.YtnnopfdckillpaaDoorLFi
namespace Go.Proofs.YtnnopfdckillpaaDoor
open Go.RowKit

theorem dual_good {v : Nat} {B : List (List Nat)} (G : GoodD v B) (h1 : 0 < B.length) (h40 : B.length ≤ 40) : GoodD B.length (dual v B) where
  pos := h1
  le := h40
  few := by rw [dual_len]; have := G.le; omega
  rs := fun b hb => by
    obtain ⟨x, _, rfl⟩ := List.mem_map.1 hb
    exact rs_iff.2 ⟨List.Pairwise.filter _ List.pairwise_lt_range, fun y hy => ⟨Nat.zero_le _, List.mem_range.1 (List.mem_filter.1 hy).1⟩⟩
theorem ryser_meet {v k l : Nat} {B : List (List Nat)} (G : GoodD v B) (h : LvOk v B 2 k l) (h2 : 2 ≤ k) (hv : k < v) (hb : B.length = v) : mtL v B = [l] := by
  obtain ⟨r, T⟩ := two_of G.bls h.2.1 h2 hv h.2.2
  have hm : ∀ i j, i < B.length → j < B.length → i ≠ j → mt (B.getD i []) (B.getD j []) = l := fun i j hi hj hn => ryser_at T h2 hv hb hi hj hn
  have h1 : mt (B.getD 1 []) (B.getD 0 []) = l := hm 1 0 (by omega) (by omega) (by omega)
  have hl : l ≤ v := by
    rw [← h1]
    refine Nat.le_trans (List.countP_le_length : mt _ _ ≤ _) ?_
    rw [h.2.1 _ (getD_memB (by omega))]
    omega
  refine rise_ext (List.Pairwise.filter _ List.pairwise_lt_range) (List.pairwise_singleton _ _) fun x => ?_
  unfold mtL
  rw [List.mem_filter, metB_iff, List.mem_range, List.mem_singleton]
  constructor
  · rintro ⟨_, i, j, hji, hi, rfl⟩
    exact (hm i j hi (by omega) (by omega))
  · rintro rfl
    exact ⟨by omega, 1, 0, by omega, by omega, h1⟩
theorem ryser_dual {v k l : Nat} {B : List (List Nat)} (G : GoodD v B) (h : LvOk v B 2 k l) (h2 : 2 ≤ k) (hv : k < v) (hb : B.length = v) : LvOk v (dual v B) 2 k l := by
  obtain ⟨r, T⟩ := two_of G.bls h.2.1 h2 hv h.2.2
  obtain ⟨e, hl⟩ := dual_lev T h2 hv hb
  rw [hb] at hl
  refine ⟨fun e => ?_, fun b hm => ?_, hl⟩
  · have := dual_len v B
    rw [e] at this
    simp at this
    omega
  · rw [dual_size T.l1 b hm]; exact e

set_option maxRecDepth 100000 in
set_option maxHeartbeats 2000000 in
theorem Ryser_skip (p : Int) (k l g n : Nat) (u : Value) (w : World) (hu : ∃ a c, u = .slice a n c) (h : g ≠ 0 ∨ k < 2 ∨ p ≤ k ∨ (n : Int) ≠ p) (H : ∀ W, Below w.heap.size w W → Calls Tryd.prog 23 #[.agg #[.int .i64 p, u], .int .i64 2] W fun e w' => e = .returned (.tuple #[.int .i64 (k : Int), .int .i64 (l : Int), .int .i64 (g : Int)]) ∧ Below W.heap.size W w') :
    Calls Tryd.prog 6 #[.agg #[.int .i64 p, u]] w fun e w' => e = .returned (.bool true) ∧ Below w.heap.size w w' := by
  have HC : Hid (∀ W, Below (w.alloc (.cells #[.int .i64 p, u] 24)).heap.size (w.alloc (.cells #[.int .i64 p, u] 24)) W → W.cell? ⟨w.heap.size, 0, none⟩ = some (.int .i64 p) ∧ W.cell? ⟨w.heap.size, 1, none⟩ = some u) := des_box p u w
  obtain ⟨w0, Hw0⟩ : ∃ w0, Hid (w0 = w.alloc (.cells #[.int .i64 p, u] 24)) := ⟨_, rfl⟩
  rw [← Hw0.out] at HC
  have hb0 : Below w.heap.size w w0 := by rw [Hw0.out]; exact balloc _ _
  have hb0' : Hid (Below w.heap.size w w0) := hb0
  have C1 := fact_any w0
  have C3 : Hid (∀ W, Below w0.heap.size w0 W → Calls Tryd.prog 23 #[.agg #[.int .i64 p, u], .int .i64 2] W fun e w' => e = .returned (.tuple #[.int .i64 (k : Int), .int .i64 (l : Int), .int .i64 (g : Int)]) ∧ Below W.heap.size W w') := fun W hW => H W (Below.next hb0 hW)
  obtain ⟨x0, x1⟩ := HC.out _ (Below.refl _ _)
  rw [Hw0.out] at x0 x1
  obtain ⟨ua, uc, rfl⟩ := hu
  clear H hb0
  by_cases h0 : g ≠ 0
  · have hd : ((g : Int) != 0) = true := by simp; omega
    clear h h0
    go_enter Tryd.func6, Tryd.ntmps6
    go_wp2_with (first
      | (go_at_call 22; rw [← Hw0.out]; refine C1.mono ?_; rintro e w1 ⟨rfl, hb1⟩; clear C1; obtain ⟨y0, y1⟩ := HC.out _ hb1)
      | (go_at_call 23; refine (C3.out _ hb1).mono ?_; rintro e w3 ⟨rfl, hb3⟩; replace hb3 := Below.next hb1 hb3; obtain ⟨q0, q1⟩ := HC.out _ hb3))
    go_ret
    exact ⟨rfl, Below.next hb0'.out hb3⟩
  by_cases h1 : k < 2
  · have hd0 : ((g : Int) != 0) = false := by simp; omega
    have hd : decide ((k : Int) < 2) = true := by simp; omega
    clear h h0 h1
    go_enter Tryd.func6, Tryd.ntmps6
    go_wp2_with (first
      | (go_at_call 22; rw [← Hw0.out]; refine C1.mono ?_; rintro e w1 ⟨rfl, hb1⟩; clear C1; obtain ⟨y0, y1⟩ := HC.out _ hb1)
      | (go_at_call 23; refine (C3.out _ hb1).mono ?_; rintro e w3 ⟨rfl, hb3⟩; replace hb3 := Below.next hb1 hb3; obtain ⟨q0, q1⟩ := HC.out _ hb3))
    go_ret
    exact ⟨rfl, Below.next hb0'.out hb3⟩
  by_cases h2 : p ≤ k
  · have hd0 : ((g : Int) != 0) = false := by simp; omega
    have hd1 : decide ((k : Int) < 2) = false := by simp; omega
    have hd : decide ((k : Int) ≥ p) = true := by simp; omega
    have hd' : decide (p ≤ (k : Int)) = true := by simp; omega
    clear h h0 h1
    go_enter Tryd.func6, Tryd.ntmps6
    go_wp2_with (first
      | (go_at_call 22; rw [← Hw0.out]; refine C1.mono ?_; rintro e w1 ⟨rfl, hb1⟩; clear C1; obtain ⟨y0, y1⟩ := HC.out _ hb1)
      | (go_at_call 23; refine (C3.out _ hb1).mono ?_; rintro e w3 ⟨rfl, hb3⟩; replace hb3 := Below.next hb1 hb3; obtain ⟨q0, q1⟩ := HC.out _ hb3))
    go_ret
    exact ⟨rfl, Below.next hb0'.out hb3⟩
  · have hd0 : ((g : Int) != 0) = false := by simp; omega
    have hd1 : decide ((k : Int) < 2) = false := by simp; omega
    have hd : decide ((k : Int) ≥ p) = false := by simp; omega
    have hd' : decide (p ≤ (k : Int)) = false := by simp; omega
    have hd3 : ((n : Int) != p) = true := by simp; omega
    clear h h0 h1 h2
    go_enter Tryd.func6, Tryd.ntmps6
    go_wp2_with (first
      | (go_at_call 22; rw [← Hw0.out]; refine C1.mono ?_; rintro e w1 ⟨rfl, hb1⟩; clear C1; obtain ⟨y0, y1⟩ := HC.out _ hb1)
      | (go_at_call 23; refine (C3.out _ hb1).mono ?_; rintro e w3 ⟨rfl, hb3⟩; replace hb3 := Below.next hb1 hb3; obtain ⟨q0, q1⟩ := HC.out _ hb3))
    go_ret
    exact ⟨rfl, Below.next hb0'.out hb3⟩

set_option maxRecDepth 100000 in
set_option maxHeartbeats 2000000 in
theorem Ryser_main (v k l : Nat) (B : List (List Nat)) (u : Value) (w : World) (hT : Tab w) (G : GoodD v B) (hu : Rw w u (toZ B)) (h : LvOk v B 2 k l) (h2 : 2 ≤ k) (hkv : k < v) (hbv : B.length = v) :
    Calls Tryd.prog 6 #[.agg #[.int .i64 (v : Int), u]] w fun e w' => e = .returned (.bool true) ∧ Below w.heap.size w w' := by
  have HC : Hid (∀ W, Below (w.alloc (.cells #[.int .i64 (v : Int), u] 24)).heap.size (w.alloc (.cells #[.int .i64 (v : Int), u] 24)) W → W.cell? ⟨w.heap.size, 0, none⟩ = some (.int .i64 (v : Int)) ∧ W.cell? ⟨w.heap.size, 1, none⟩ = some u) := des_box v u w
  obtain ⟨w0, Hw0⟩ : ∃ w0, Hid (w0 = w.alloc (.cells #[.int .i64 (v : Int), u] 24)) := ⟨_, rfl⟩
  rw [← Hw0.out] at HC
  have hb0 : Below w.heap.size w w0 := by rw [Hw0.out]; exact balloc _ _
  have hb0' : Hid (Below w.heap.size w w0) := hb0
  have hv40 := G.le
  have C1 := fact_any w0
  have C3 : Hid (∀ W, Below w0.heap.size w0 W → Calls Tryd.prog 23 #[.agg #[.int .i64 (v : Int), u], .int .i64 2] W fun e w' => e = .returned (.tuple #[.int .i64 (k : Int), .int .i64 (l : Int), .int .i64 0]) ∧ Below W.heap.size W w') := fun W hW => (Level_any v 2 B u W G (hu.below (Below.next hb0 hW))).mono fun e w' ⟨h1, h2'⟩ => ⟨h1.one (.inr ⟨2, rfl, by omega, by omega, .inl ⟨k, l, h, rfl⟩⟩), h2'⟩
  have C4 : Hid (∀ W, Below w0.heap.size w0 W → Calls Tryd.prog 17 #[.agg #[.int .i64 (v : Int), u]] W fun e w' => ∃ b off cap, e = .returned (.tuple #[.slice (some ⟨b, off, none⟩) 1 cap, .int .i64 0]) ∧ w'.cell? ⟨b, off, none⟩ = some (.int .i64 (l : Int)) ∧ Below W.heap.size W w') := fun W hW => (Meets_good v B u W ((hT.next hb0).next hW) G (hu.below (Below.next hb0 hW))).mono fun e w' ⟨x, h1, h2', h3⟩ => by
    have hs : Sl w' x ((mtL v B).map Int.ofNat) := Sl.owned (by rw [List.length_map]; exact h2')
    rw [ryser_meet G h h2 hkv hbv] at hs
    obtain ⟨a, cap, e, hc⟩ := hs
    obtain ⟨b, off, rfl, hc2⟩ := hc 0 (by simp)
    exact ⟨b, off, cap, by rw [h1, e]; rfl, hc2, h3⟩
  have C5 : Hid (∀ W, Below w0.heap.size w0 W → Calls Tryd.prog 9 #[.agg #[.int .i64 (v : Int), u]] W fun e w' => ∃ y, e = .returned (.tuple #[.agg #[.int .i64 (v : Int), y], .int .i64 0]) ∧ Rw w' y (toZ (dual v B)) ∧ Below W.heap.size W w') := fun W hW => by
    have := Dual_good v B u W ((hT.next hb0).next hW) G (hu.below (Below.next hb0 hW)) (by omega) (by omega)
    rwa [hbv] at this
  have C6 : Hid (∀ y W, Rw W y (toZ (dual v B)) → Calls Tryd.prog 23 #[.agg #[.int .i64 (v : Int), y], .int .i64 2] W fun e w' => e = .returned (.tuple #[.int .i64 (k : Int), .int .i64 (l : Int), .int .i64 0]) ∧ Below W.heap.size W w') := fun y W hy => by
    have G' := dual_good G (by omega) (by omega)
    rw [hbv] at G'
    exact (Level_any v 2 (dual v B) y W G' hy).mono fun e w' ⟨h1, h2'⟩ => ⟨h1.one (.inr ⟨2, rfl, by omega, by omega, .inl ⟨k, l, ryser_dual G h h2 hkv hbv, rfl⟩⟩), h2'⟩
  have HYF : Hid (∀ y W, Rw W y (toZ (dual v B)) → ∃ a c, y = .slice a v c) := fun y W hy => by
    have := rw_form hy
    rwa [toZ_len, dual_len] at this
  obtain ⟨x0, x1⟩ := HC.out _ (Below.refl _ _)
  rw [Hw0.out] at x0 x1
  obtain ⟨ua, uc, eu⟩ := rw_form hu
  rw [toZ_len, hbv] at eu
  have hd1 : decide ((k : Int) < 2) = false := by simp; omega
  have hd2 : decide ((v : Int) ≤ (k : Int)) = false := by simp; omega
  have hd3 : decide (v ≤ k) = false := decide_eq_false (by omega)
  clear hu G hb0 hT hbv h h2 hkv
  subst eu
  go_enter Tryd.func6, Tryd.ntmps6
  go_wp2_with (first
    | (go_at_call 22; rw [← Hw0.out]; refine C1.mono ?_; rintro e w1 ⟨rfl, hb1⟩; clear C1; obtain ⟨y0, y1⟩ := HC.out _ hb1)
    | (go_at_call 17; refine (C4.out _ hb3).mono ?_; rintro e w4 ⟨b, off, cap, rfl, hcl, hb4⟩; replace hb4 := Below.next hb3 hb4; obtain ⟨r0, r1⟩ := HC.out _ hb4)
    | (go_at_call 9; refine (C5.out _ hb4).mono ?_; rintro e w5 ⟨y, rfl, hy, hb5⟩; replace hb5 := Below.next hb4 hb5; obtain ⟨ya, yc, ey⟩ := HYF.out _ _ hy; have bb := balloc w5 (.cells #[.int .i64 (v : Int), y] 24); have hb7 := Below.next hb5 bb; have HYR : Hid (Rw (w5.alloc (.cells #[.int .i64 (v : Int), y] 24)) y (toZ (dual v B))) := hy.below bb; obtain ⟨p0, p1⟩ := des_box v y w5 _ (Below.refl _ _); clear hy; subst ey)
    | (go_at_call 23; refine (C6.out _ _ HYR.out).mono ?_; rintro e w6 ⟨rfl, hb6⟩; replace hb6 := Below.next hb7 hb6)
    | (go_at_call 23; refine (C3.out _ hb1).mono ?_; rintro e w3 ⟨rfl, hb3⟩; replace hb3 := Below.next hb1 hb3; obtain ⟨q0, q1⟩ := HC.out _ hb3))
  go_ret
  exact ⟨rfl, Below.next hb0'.out hb6⟩

theorem DesignRyser_law (p : Int) (ls : List (List Int)) (u : Value) (w : World) (hT : Tab w) (hu : Rw w u ls) (hll : ∀ l ∈ ls, l.length ≤ maxLen) (hlm : ls.length ≤ maxLen) :
    Calls Tryd.prog 6 #[.agg #[.int .i64 p, u]] w fun e w' => e = .returned (.bool true) ∧ Below w.heap.size w w' := by
  by_cases hz : dF p ls = 0
  · obtain ⟨v, B, rfl, rfl, G⟩ := dF_ok hz
    have hl : (toZ B).length = B.length := toZ_len B
    by_cases h : ∃ k l, LvOk v B 2 k l ∧ 2 ≤ v
    · obtain ⟨k, l, h, hv2⟩ := h
      by_cases hh : 2 ≤ k ∧ k < v ∧ B.length = v
      · exact Ryser_main v k l B u w hT G hu h hh.1 hh.2.1 hh.2.2
      · exact Ryser_skip v k l 0 _ u w (rw_form hu) (by rw [hl]; omega) fun W hW => (Level_any v 2 B u W G (hu.below hW)).mono fun e w' ⟨h1, h2'⟩ => ⟨h1.one (.inr ⟨2, rfl, by omega, hv2, .inl ⟨k, l, h, rfl⟩⟩), h2'⟩
    · by_cases hv2 : 2 ≤ v
      · exact Ryser_skip v 0 0 4 _ u w (rw_form hu) (by omega) fun W hW => (Level_any v 2 B u W G (hu.below hW)).mono fun e w' ⟨h1, h2'⟩ => ⟨h1.one (.inr ⟨2, rfl, by omega, hv2, .inr ⟨fun ⟨k, l, hk⟩ => h ⟨k, l, hk, hv2⟩, rfl⟩⟩), h2'⟩
      · exact Ryser_skip v 0 0 1 _ u w (rw_form hu) (by omega) fun W hW => (Level_any v 2 B u W G (hu.below hW)).mono fun e w' ⟨h1, h2'⟩ => ⟨h1.one (.inl ⟨by omega, rfl⟩), h2'⟩
  · exact Ryser_skip p 0 0 (dF p ls) _ u w (rw_form hu) (.inl hz) fun W hW => Level_bad p 2 ls u W (hu.below hW) hlm hll hz

end Go.Proofs.YtnnopfdckillpaaDoor
