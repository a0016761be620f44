/- The law DifferDesigns. -/
import Derived.Test.YtogdcjlgddleaaaS12
import Derived.Test.YtogdcjlgddleaaaL5
import Derived.Test.YtogdcjlgddleaaaE9
import Derived.Test.YtogdcjlgddleaaaLL
namespace Go.Proofs.Ytogdcjlgddleaaa
open Go.RowKit Go.Maps

theorem imL_perm {v i : Nat} {D : List Nat} (hG : GoodS v D) : (imL v D 1 i).Perm (D.map (mvN v 1 i)) := by
  rw [imL_s3 hG (Nat.coprime_one_left v)]
  exact s3_perm _
theorem dvT_at {v k i : Nat} {D : List Nat} (h : i < k) : (dvT v D k).getD i [] = imL v D 1 i := by
  unfold dvT
  rw [List.getD_eq_getElem?_getD, List.getElem?_map, List.getElem?_range h]
  rfl
theorem dv_good {v : Nat} {D : List Nat} (hG : GoodS v D) (h40 : v ≤ 40) : GoodD v (dvT v D v) := by
  refine ⟨hG.pos, h40, by rw [dvT_len]; omega, fun b hb => ?_⟩
  obtain ⟨i, _, rfl⟩ := List.mem_map.1 hb
  refine rs_iff.2 ⟨List.pairwise_lt_range.sublist List.filter_sublist, fun x hx => ⟨Nat.zero_le _, ?_⟩⟩
  exact imF_lt hG.pos (List.mem_filter.1 hx).2
theorem dv_ok {v : Nat} {D : List Nat} (hG : GoodS v D) (h : lvB v D = true) : LvOk v (dvT v D v) 2 D.length (dfN v D 1) := by
  have h1 := hG.pos
  refine ⟨fun e => ?_, fun b hb => ?_, ?_⟩
  · have := dvT_len v D v
    rw [e] at this
    simp at this
    omega
  · obtain ⟨i, _, rfl⟩ := List.mem_map.1 hb
    rw [(imL_perm hG).length_eq, List.length_map]
  · exact lev_dev h1 hG.pts (lvB_lev h1 hG.pts h) (dvT_len v D v) fun i hi => by rw [dvT_at hi]; exact imL_perm hG
theorem LevelD_dev (v : Nat) (D : List Nat) (y : Value) (w : World) (hG : GoodS v D) (h40 : v ≤ 40) (h2 : 2 ≤ v) (h : lvB v D = true) (hy : OR w 0 y (dvT v D v)) :
    Calls Try.prog 16 #[.agg #[.int .i64 (v : Int), y], .int .i64 2] w fun e w' => e = .returned (.tuple #[.int .i64 (D.length : Int), .int .i64 (dfN v D 1 : Int), .int .i64 0]) ∧ Below w.heap.size w w' := by
  refine (Level_any v 2 _ y w (dv_good hG h40) hy.rw).mono ?_
  rintro e w' ⟨h', hb⟩
  refine ⟨?_, hb⟩
  rcases h' with ⟨h', _⟩ | ⟨m, hm, _, _, h'⟩
  · omega
  · obtain rfl : m = 2 := by omega
    have hs := dv_ok hG h
    rcases h' with ⟨k, l, ho, rfl⟩ | ⟨hn, _⟩
    · obtain ⟨rfl, rfl⟩ := ho.one h2 hs
      rfl
    · exact (hn ⟨_, _, hs⟩).elim
set_option maxRecDepth 100000 in
set_option maxHeartbeats 8000000 in
theorem Designs_early (p : Int) (u : Value) (w : World) (n z : Nat) (hu : ∃ a c, u = .slice a n c) (hz : z ≠ 0 ∨ n < 2 ∨ 40 < p)
    (H9 : Hid (∀ W, Below w.heap.size w W → Calls Try.prog 9 #[.int .i64 p, u] W fun e w' => (∃ l : Int, e = .returned (.tuple #[.int .i64 l, .int .i64 (z : Int)])) ∧ Below W.heap.size W w')) :
    Calls Try.prog 4 #[.int .i64 p, u] w fun e w' => e = .returned (.bool true) ∧ Below w.heap.size w w' := by
  have H14 : Hid (∀ W, Calls Try.prog 14 #[] W fun e w' => e = .returned (.bool true) ∧ Below W.heap.size W w') := fun W => FactD_any W
  obtain ⟨a, ca, rfl⟩ := hu
  by_cases hz0 : z = 0
  · subst hz0
    by_cases hn : n < 2
    · have d1 : decide ((n : Int) < 2) = true := by simp; omega
      have d2 : (n : Int) < 2 := by omega
      clear hz
      go_enter Try.func4, Try.ntmps4
      go_wp2_with (first
        | (go_at_call 14; refine (H14.out _).mono ?_; rintro e w1 ⟨rfl, hb⟩; clear H14; have HB1 : Hid (Below w.heap.size w w1) := hb; clear hb)
        | (go_at_call 9; refine (H9.out _ HB1.out).mono ?_; rintro e w2 ⟨⟨l, rfl⟩, hb⟩; clear H9; have HB2 : Hid (Below w.heap.size w w2) := Below.next HB1.out hb; clear hb)
        | go_in)
      go_ret
      exact ⟨rfl, HB2.out⟩
    · have d1 : decide ((n : Int) < 2) = false := by simp; omega
      have d2 : ¬ (n : Int) < 2 := by omega
      have hp : 40 < p := by omega
      have d3 : decide (40 < p) = true := decide_eq_true hp
      clear hz
      go_enter Try.func4, Try.ntmps4
      go_wp2_with (first
        | (go_at_call 14; refine (H14.out _).mono ?_; rintro e w1 ⟨rfl, hb⟩; clear H14; have HB1 : Hid (Below w.heap.size w w1) := hb; clear hb)
        | (go_at_call 9; refine (H9.out _ HB1.out).mono ?_; rintro e w2 ⟨⟨l, rfl⟩, hb⟩; clear H9; have HB2 : Hid (Below w.heap.size w w2) := Below.next HB1.out hb; clear hb)
        | go_in)
      go_ret
      exact ⟨rfl, HB2.out⟩
  · have hz1 : ¬ (z : Int) = 0 := by omega
    have hz2 : ((z : Int) != 0) = true := by simpa using hz0
    clear hz
    go_enter Try.func4, Try.ntmps4
    go_wp2_with (first
      | (go_at_call 14; refine (H14.out _).mono ?_; rintro e w1 ⟨rfl, hb⟩; clear H14; have HB1 : Hid (Below w.heap.size w w1) := hb; clear hb)
      | (go_at_call 9; refine (H9.out _ HB1.out).mono ?_; rintro e w2 ⟨⟨l, rfl⟩, hb⟩; clear H9; have HB2 : Hid (Below w.heap.size w w2) := Below.next HB1.out hb; clear hb)
      | go_in)
    go_ret
    exact ⟨rfl, HB2.out⟩
set_option maxRecDepth 100000 in
set_option maxHeartbeats 8000000 in
theorem Designs_ok (v : Nat) (D : List Nat) (u : Value) (w : World) (hG : GoodS v D) (hu : Sl w u (D.map Int.ofNat)) (h2 : 2 ≤ D.length) (h40 : v ≤ 40) (hlv : lvB v D = true) :
    Calls Try.prog 4 #[.int .i64 (v : Int), u] w fun e w' => e = .returned (.bool true) ∧ Below w.heap.size w w' := by
  have hlen := hG.len
  have hv2 : 2 ≤ v := by omega
  have H14 : Hid (∀ W, Calls Try.prog 14 #[] W fun e w' => e = .returned (.bool true) ∧ Below W.heap.size W w') := fun W => FactD_any W
  have H9 : Hid (∀ W, Below w.heap.size w W → Calls Try.prog 9 #[.int .i64 (v : Int), u] W fun e w' => e = .returned (.tuple #[.int .i64 (dfN v D 1 : Int), .int .i64 0]) ∧ Below W.heap.size W w') := fun W h => by
    have := Level_main' v D u W hG (hu.below h)
    rw [show lvL v D = dfN v D 1 from if_pos hlv, show lvE v D = 0 from if_pos hlv] at this
    exact this
  have H15 : Hid (∀ W, Below w.heap.size w W → Calls Try.prog 15 #[.int .i64 (v : Int), u] W fun e w' => ∃ y, e = .returned (.tuple #[.agg #[.int .i64 (v : Int), y], .int .i64 0]) ∧ OR w' W.heap.size y (dvT v D v) ∧ Below W.heap.size W w') := fun W h => Dev_main v D u W hG h40 (hu.below h)
  have H16 : Hid (∀ (y : Value) (W : World), OR W 0 y (dvT v D v) → Calls Try.prog 16 #[.agg #[.int .i64 (v : Int), y], .int .i64 2] W fun e w' => e = .returned (.tuple #[.int .i64 (D.length : Int), .int .i64 (dfN v D 1 : Int), .int .i64 0]) ∧ Below W.heap.size W w') := fun y W hy => LevelD_dev v D y W hG h40 hv2 hlv hy
  have hcnt := lev_count hG.pos hG.pts (lvB_lev hG.pos hG.pts hlv)
  have hdl := dfN_le hG 1
  have hvl := dvT_len v D v
  obtain ⟨a, ca, rfl, _⟩ := sl_at hu
  have HDB : Hid (∀ (p : Int) (y : Value) (W0 W : World), Below (W0.alloc (.cells #[.int .i64 p, y] 35)).heap.size (W0.alloc (.cells #[.int .i64 p, y] 35)) W → W.cell? ⟨W0.heap.size, 0, none⟩ = some (.int .i64 p) ∧ W.cell? ⟨W0.heap.size, 1, none⟩ = some y) := fun p y W0 W h => des_box p y W0 W h
  obtain ⟨l, Hl⟩ : ∃ l, Hid (dfN v D 1 = l) := ⟨_, rfl⟩
  rw [Hl.out] at H9 H16 hcnt hdl
  obtain ⟨B, HB⟩ : ∃ B, Hid (dvT v D v = B) := ⟨_, rfl⟩
  rw [HB.out] at H15 H16 hvl
  obtain ⟨kk, Hkk⟩ : ∃ kk, Hid (D.length = kk) := ⟨_, rfl⟩
  rw [Hkk.out] at H9 H15 H16 hcnt h2 hlen ⊢
  have hmul : (kk : Int) * ((kk : Int) - 1) = (l : Int) * ((v : Int) - 1) := by
    have e1 : ((kk * kk : Nat) : Int) = (kk : Int) * (kk : Int) := Int.natCast_mul _ _
    have e2 : ((l * (v - 1) : Nat) : Int) = (l : Int) * ((v : Int) - 1) := by rw [Int.natCast_mul, Int.natCast_sub (by omega)]; rfl
    rw [Int.mul_sub, Int.mul_one, ← e1, ← e2]
    omega
  obtain ⟨q, Hq⟩ : ∃ q : Int, Hid ((l : Int) * ((v : Int) - 1) = q) := ⟨_, rfl⟩
  have hq2 := Hq.out
  rw [hq2] at hmul
  have hqb : 0 ≤ q ∧ q ≤ 60 * 60 * 40 := by
    rw [← Hq.out]
    have e2 : ((l * (v - 1) : Nat) : Int) = (l : Int) * ((v : Int) - 1) := by rw [Int.natCast_mul, Int.natCast_sub (by omega)]; rfl
    have : l * (v - 1) ≤ 60 * 60 * 40 := Nat.mul_le_mul hdl (by omega)
    omega
  have d1 : decide ((kk : Int) < 2) = false := by simp; omega
  have d1' : ¬ (kk : Int) < 2 := by omega
  have d2 : decide (40 < (v : Int)) = false := by simp; omega
  have d2' : ¬ 40 < (v : Int) := by omega
  have HVL : Hid (B.length = v) := hvl
  have hkk60 : kk ≤ 60 := by omega
  clear hu hG hlv hcnt hvl h2 hlen hdl
  go_enter Try.func4, Try.ntmps4
  go_wp2_with (first
    | (go_at_call 14; refine (H14.out _).mono ?_; rintro e w1 ⟨rfl, hb⟩; clear H14; have HB1 : Hid (Below w.heap.size w w1) := hb; clear hb)
    | (go_at_call 9; refine (H9.out _ HB1.out).mono ?_; rintro e w2 ⟨rfl, hb⟩; clear H9; have HB2 : Hid (Below w.heap.size w w2) := Below.next HB1.out hb; clear hb)
    | (go_at_call 15; refine (H15.out _ HB2.out).mono ?_; rintro e w3 ⟨y, rfl, hy, hb⟩; clear H15; obtain ⟨ya, yc, hye⟩ := hy.cap; rw [HVL.out] at hye; subst hye; have HY3 : Hid (OR w3 0 (.slice ya v yc) B) := or_low hy (Nat.zero_le _); have HB3 : Hid (Below w.heap.size w w3) := Below.next HB2.out hb; obtain ⟨c0, c1⟩ := HDB.out (v : Int) (.slice ya v yc) w3 _ (Below.refl _ _); clear hb hy HDB)
    | (go_at_call 16; refine (H16.out _ _ (HY3.out.below (balloc _ _))).mono ?_; rintro e w4 ⟨rfl, hb⟩; clear H16; have HB4 : Hid (Below w.heap.size w w4) := Below.next (Below.next HB3.out (balloc _ _)) hb; clear hb)
    | go_in)
  go_ret
  exact ⟨by simp, HB4.out⟩
theorem Designs_law (p : Int) (b : List Int) (u : Value) (w : World) (hu : Sl w u b) (hbl : b.length ≤ maxLen) :
    Calls Try.prog 4 #[.int .i64 p, u] w fun e w' => e = .returned (.bool true) ∧ Below w.heap.size w w' := by
  have hform : ∃ a c, u = .slice a b.length c := by obtain ⟨a, c, rfl, _⟩ := hu; exact ⟨a, c, rfl⟩
  by_cases hz : sF p b = 0
  · obtain ⟨v, D, rfl, rfl, hG⟩ := sF_good hz
    rcases lvE_cases v D with ⟨h1, _, h3⟩ | h4
    · by_cases h2 : 2 ≤ D.length ∧ v ≤ 40
      · exact Designs_ok v D u w hG hu h2.1 h2.2 h1
      · refine Designs_early (v : Int) u w _ 0 hform (by rw [List.length_map]; omega) fun W hW => (Level_main' v D u W hG (hu.below hW)).mono ?_
        rintro e w' ⟨rfl, hb⟩
        exact ⟨⟨_, by rw [h3]⟩, hb⟩
    · refine Designs_early (v : Int) u w _ 4 hform (.inl (by omega)) fun W hW => (Level_main' v D u W hG (hu.below hW)).mono ?_
      rintro e w' ⟨rfl, hb⟩
      exact ⟨⟨_, by rw [h4]⟩, hb⟩
  · refine Designs_early p u w _ _ hform (.inl hz) fun W hW => (Level_bad' p b u W _ hz hform (CheckS_any p b u W (hu.below hW) hbl)).mono ?_
    rintro e w' ⟨rfl, hb⟩
    exact ⟨⟨_, rfl⟩, hb⟩

end Go.Proofs.Ytogdcjlgddleaaa
