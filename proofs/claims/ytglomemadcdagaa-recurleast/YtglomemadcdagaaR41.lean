/- The walk of mend: taps that slip are mended. -/
import Derived.Test.YtglomemadcdagaaR44
import Derived.Test.YtglomemadcdagaaR16
import Derived.Laws.CopyOwn
namespace Go.Proofs.Ytglomemadcdagaa
open Go.RowKit

/-- Block g holds a slip: the taps' slice, the place, what is missing. -/
def SB (w : World) (g : Nat) (v : Value) (a m : Int) : Prop := w.heap[g]? = some (.cells #[v, .int .i64 a, .int .i64 m] 66 (0, 0))
theorem SB.lt {w : World} {g : Nat} {v : Value} {a m : Int} (h : SB w g v a m) : g < w.heap.size := (Array.getElem?_eq_some_iff.1 h).1
theorem SB.cells {w : World} {g : Nat} {v : Value} {a m : Int} (h : SB w g v a m) : w.cell? ⟨g, 0, none⟩ = some v ∧ w.cell? ⟨g, 1, none⟩ = some (.int .i64 a) ∧ w.cell? ⟨g, 2, none⟩ = some (.int .i64 m) :=
  ⟨by rw [cell_of_row w g 0 _ _ _ h]; rfl, by rw [cell_of_row w g 1 _ _ _ h]; rfl, by rw [cell_of_row w g 2 _ _ _ h]; rfl⟩
theorem SB.below {w w' : World} {g : Nat} {v : Value} {a m : Int} (h : SB w g v a m) (hb : Below w.heap.size w w') : SB w' g v a m := (hb.block g h.lt).trans h
theorem SB.made (w : World) (v : Value) (a m : Int) : SB (w.alloc (.cells #[v, .int .i64 a, .int .i64 m] 66)) w.heap.size v a m := heap_alloc_new w _
theorem SB.other {w : World} {g : Nat} {v : Value} {a m : Int} (h : SB w g v a m) (ad : Addr) (u : Value) (hne : g ≠ ad.block) : SB (w.setCell ad u) g v a m := (heap_setCell_other w ad g u hne).trans h

set_option maxHeartbeats 4000000 in
theorem mend_any (P i h m d : Nat) (T H : List Int) (v u : Value) (w : World) (hs : smB (P : Int) = true) (hv : Sl w v T) (hu : Sl w u H) (hbT : belB P T = true) (hbH : belB P H = true) (hT : T.length ≤ 60) (hH : H.length ≤ 60) (hi : i < 60) (hh : h ≤ i)
    (hm : 1 ≤ m ∧ m < P) (hd : 1 ≤ d ∧ d < P) (N : Nat) (HN : Hid (N = max T.length (i + 1 - h + H.length))) :
    Calls Try.prog 41 #[.int .i64 (P : Int), .agg #[v, .int .i64 (i : Int), .int .i64 (m : Int)], .agg #[u, .int .i64 ((h : Int) - 1), .int .i64 (d : Int)]] w fun e w' => ∃ (g : Nat) (o : Int), e = .returned (.slice (some ⟨g, 0, none⟩) N N) ∧ w.heap.size ≤ g ∧ Own w' g N (mendF P T H (i + 1 - h) o) ∧ (P : Int) ∣ o * d - m ∧ Below w.heap.size w w' := by
  obtain ⟨i3, hi3, hz0, hz1, hz2⟩ := info3
  have hpb := smB_bd hs
  have hp : 2 ≤ P ∧ P ≤ 7 := by omega
  obtain ⟨s, Hs⟩ : ∃ s : Nat, Hid (s = i + 1 - h) := ⟨_, rfl⟩
  have hs1 : 1 ≤ s ∧ s ≤ 60 := by rw [Hs.out]; omega
  have hsi : (i : Int) - ((h : Int) - 1) = (s : Int) := by rw [Hs.out]; omega
  obtain ⟨k, Hk⟩ : ∃ k : Nat, Hid (T.length = k) := ⟨_, rfl⟩
  obtain ⟨l, Hl⟩ : ∃ l : Nat, Hid (H.length = l) := ⟨_, rfl⟩
  have hkl : k ≤ 60 ∧ l ≤ 60 := by rw [← Hk.out, ← Hl.out]; exact ⟨hT, hH⟩
  have hNe : N = max k (s + l) := by rw [HN.out, Hk.out, Hl.out, ← Hs.out]
  have hN : k ≤ N ∧ s + l ≤ N ∧ N ≤ 120 := by omega
  have hmax : max (k : Int) ((s : Int) + (l : Int)) = (N : Int) := by omega
  obtain ⟨b, Hb⟩ : ∃ b : Nat, Hid (b = invN P d) := ⟨_, rfl⟩
  obtain ⟨b1, b2, b3⟩ := invN_ok hs hd.1 hd.2
  rw [← Hb.out] at b1 b2 b3
  have HB3 : Hid (d * b % P = 1) := b3
  have CI : ∀ A, Calls Try.prog 44 #[.int .i64 (P : Int), .int .i64 (d : Int)] A fun e B => e = .returned (.int .i64 (b : Int)) ∧ B = A := fun A => by rw [Hb.out]; exact inverse_is P d A hs hd.1 hd.2
  obtain ⟨o, Ho⟩ : ∃ o : Nat, Hid (o = m * b % P) := ⟨_, rfl⟩
  have hmb : (m : Int) * (b : Int) ≤ 7 * 7 := Int.mul_le_mul (by omega) (by omega) (by omega) (by omega)
  have hmb0 : 0 ≤ (m : Int) * (b : Int) := Int.mul_nonneg (by omega) (by omega)
  have hoe : (m : Int) * (b : Int) % (P : Int) = (o : Int) := by rw [Ho.out, Int.natCast_emod, Int.natCast_mul]
  have ho : o < P := by rw [Ho.out]; exact Nat.mod_lt _ (by omega)
  have HOD : Hid ((P : Int) ∣ (o : Int) * d - m) := by
    show (P : Int) ∣ (o : Int) * d - m
    have h1 := emod_dvd (P : Int) ((m : Int) * (b : Int))
    rw [hoe] at h1
    have h2 := Int.dvd_mul_of_dvd_left (c := (d : Int)) h1
    have h3 := emod_dvd (P : Int) ((d : Int) * (b : Int))
    rw [show (d : Int) * (b : Int) % (P : Int) = 1 by rw [← Int.natCast_mul, ← Int.natCast_emod, HB3.out]; rfl] at h3
    have h4 := Int.dvd_mul_of_dvd_right (b := (m : Int)) h3
    have h5 := Int.dvd_sub h2 h4
    rw [Int.sub_mul, Int.mul_sub, Int.mul_one] at h5
    rwa [show (o : Int) * d - (m : Int) * b * d - ((m : Int) - (m : Int) * ((d : Int) * b)) = (o : Int) * d - m by
      rw [Int.mul_comm (d : Int) b, ← Int.mul_assoc (m : Int)]; omega] at h5
  obtain ⟨va, vc, rfl, hvc⟩ := id hv
  obtain ⟨ua, uc, rfl, huc⟩ := id hu
  rw [Hk.out] at hvc ⊢
  rw [Hl.out] at huc ⊢
  have HV : Hid (∀ j, j < k → ∃ g o, va = some ⟨g, o, none⟩ ∧ w.cell? ⟨g, o + j, none⟩ = some (.int .i64 (T.getD j 0))) := hvc
  have HU : Hid (∀ j, j < l → ∃ g o, ua = some ⟨g, o, none⟩ ∧ w.cell? ⟨g, o + j, none⟩ = some (.int .i64 (H.getD j 0))) := huc
  have HTb : Hid (∀ j, 0 ≤ T.getD j 0 ∧ T.getD j 0 < P) := fun j => by
    by_cases hj : j < T.length
    · exact belB_iff.1 hbT j hj
    · rw [List.getD_eq_getElem?_getD, List.getElem?_eq_none (by omega)]
      show (0 : Int) ≤ 0 ∧ (0 : Int) < P
      omega
  have HHb : Hid (∀ j, j < l → 0 ≤ H.getD j 0 ∧ H.getD j 0 < P) := by show ∀ j, j < l → _; rw [← Hl.out]; exact belB_iff.1 hbH
  have hB2 : Below w.heap.size w ((w.alloc (.cells #[.slice va k vc, .int .i64 (i : Int), .int .i64 (m : Int)] 66)).alloc (.cells #[.slice ua l uc, .int .i64 ((h : Int) - 1), .int .i64 (d : Int)] 66)) := (balloc w _).alloc (by simp) _
  clear hvc huc hv hu hpb hi hT hH b3
  rw [← Hs.out]
  have hcase : (N = k ∧ (s : Int) + (l : Int) ≤ (k : Int)) ∨ (N = s + l ∧ (k : Int) < (s : Int) + (l : Int)) := by omega
  have HNe : Hid (N = max k (s + l)) := hNe
  have S1 : SB ((w.alloc (.cells #[.slice va k vc, .int .i64 (i : Int), .int .i64 (m : Int)] 66)).alloc (.cells #[.slice ua l uc, .int .i64 ((h : Int) - 1), .int .i64 (d : Int)] 66)) w.heap.size (.slice va k vc) i m := (SB.made w _ _ _).below (balloc _ _)
  have S2 : SB ((w.alloc (.cells #[.slice va k vc, .int .i64 (i : Int), .int .i64 (m : Int)] 66)).alloc (.cells #[.slice ua l uc, .int .i64 ((h : Int) - 1), .int .i64 (d : Int)] 66)) (w.heap.size + 1) (.slice ua l uc) ((h : Int) - 1) d := by
    have h := SB.made (w.alloc (.cells #[.slice va k vc, .int .i64 (i : Int), .int .i64 (m : Int)] 66)) (.slice ua l uc) ((h : Int) - 1) d
    rw [World.size_alloc] at h; exact h
  obtain ⟨w0, Hw0⟩ : ∃ w0, Hid (w0 = (w.alloc (.cells #[.slice va k vc, .int .i64 (i : Int), .int .i64 (m : Int)] 66)).alloc (.cells #[.slice ua l uc, .int .i64 ((h : Int) - 1), .int .i64 (d : Int)] 66)) := ⟨_, rfl⟩
  have hw0 : w0.heap.size = w.heap.size + 2 := by rw [Hw0.out]; simp
  rw [← Hw0.out] at S1 S2 hB2
  obtain ⟨sm, Hsm⟩ : ∃ x : Nat, Hid (x = s - 1) := ⟨_, rfl⟩
  have hsm : (s : Int) - 1 = (sm : Int) := by rw [Hsm.out]; omega
  have hsmN : sm < N := by rw [Hsm.out]; omega
  clear hNe hmax
  have hsz : (Try.prog.info? 3).map (·.size) = some 1 := by kernel_rfl
  have hcase' : (Hid (N = k) ∧ (s : Int) + (l : Int) ≤ (k : Int)) ∨ (Hid (N = s + l) ∧ (k : Int) < (s : Int) + (l : Int)) := hcase
  clear hcase
  rcases hcase' with ⟨eN, hcmp⟩ | ⟨eN, hcmp⟩
  all_goals
    go_enter Try.func41, Try.ntmps41
    go_wp2
    go_quiet ((go_at_call 44; exact Calls.quiet_of_same (CI _)))
    go_wp2_with (first
      | (at_make; refine wpList_make_full _ rfl _ _ 22 rfl (w.heap.size + 2) 3 i3 (.int .i64 0) 1 und22 hi3 hz0 hz1 .i64 .i64 _ _ N rfl rfl ?e1 ?e2 ?c1 ?c2 ?c3 ?_))
    case e1 => have := eN.out; omega
    case e2 => have := eN.out; omega
    case c1 => rw [hz2]; omega
    case c2 => unfold maxLen; omega
    case c3 => simp
    intro w3 how3 hgr3
    rw [← Hw0.out] at hgr3
    have hb3 : Below (w.heap.size + 2) w0 w3 := ⟨hgr3.os, hgr3.tape, hgr3.output, hgr3.size, fun k hk => hgr3.block k (by show k < w0.heap.size; omega) (by simp)⟩
    obtain ⟨cur, HC3⟩ : ∃ cur : List Value, Hid (w3.heap[w.heap.size + 1 + 1]? = some (.cells cur.toArray 3 (0, 0)) ∧ cur.length = N ∧ ∀ j, j < N → cur[j]? = some (.int .i64 0)) := by
      have hO := own_made' how3
      obtain ⟨_, ⟨h1, _⟩ | ⟨g', cap, cu, e, _, hg, _, _, h4, _⟩⟩ := how3
      · cases h1
      · cases e
        obtain ⟨cu', hg', hc'⟩ := hO
        rw [hg] at hg'
        cases hg'
        refine ⟨cu.toList, by simpa using hg, by simpa using h4, fun j hj => ?_⟩
        rw [Array.getElem?_toList]; exact hc' j hj
    have S13 : SB w3 w.heap.size (.slice va k vc) i m := (hb3.block w.heap.size (by omega)).trans S1
    have S23 : SB w3 (w.heap.size + 1) (.slice ua l uc) ((h : Int) - 1) d := (hb3.block (w.heap.size + 1) (by omega)).trans S2
    have q13 := S13.cells.1
    clear how3 hgr3
    go_wp2_with (first
      | (refine wpList_copy_splice rfl _ _ 22 22 rfl 3 und22 hsz (some ⟨w.heap.size + 1 + 1, 0, none⟩) va N N k vc rfl rfl (w.heap.size + 1 + 1) 0 cur 3 HC3.out.1 (T.map (Value.int .i64)) ?f1 ?f2 ?f3 ?f4 (w.heap.size + 2) w0 hb3 ?f5 ?_)
      | go_in)
    case f1 => rw [List.length_map, Hk.out]; show k = min k N; omega
    case f2 =>
      intro hpos
      rw [Hk.out] at hpos
      obtain ⟨g, off, e, _⟩ := HV.out 0 hpos
      refine ⟨⟨g, off, none⟩, e, fun j y hy => ?_⟩
      have hjk : j < k := by rw [← Hk.out]; exact (List.getElem?_eq_some_iff.1 hy).1
      obtain ⟨g', off', e', hc'⟩ := HV.out j hjk
      rw [e] at e'
      cases e'
      have hlt : g < w.heap.size := block_lt_of_cell hc'
      have hc3 : w3.cell? ⟨g, off + j, none⟩ = w.cell? ⟨g, off + j, none⟩ := World.cell?_of_block (a := ⟨g, off + j, none⟩) ((hb3.block g (by omega)).trans (hB2.block g hlt))
      rw [show (⟨g, off, none⟩ : Addr).add j = ⟨g, off + j, none⟩ by simp [Addr.add]]
      rw [hc3, hc', List.getD_eq_getElem?_getD, hy]; rfl
    case f3 => rw [List.length_map, Hk.out, HC3.out.2.1]; omega
    case f4 => intro x hx; rw [List.mem_map] at hx; obtain ⟨y, _, rfl⟩ := hx; rfl
    case f5 => omega
    intro w4 HG4 hb4
    have hO4 : Own w4 (w.heap.size + 1 + 1) N (fun a => T.getD a 0) := by
      refine ⟨_, HG4.out, fun j hj => ?_⟩
      rw [List.getElem?_toArray]
      unfold splice
      rw [List.take_zero, List.nil_append]
      show _ = some (Value.int .i64 (T.getD j 0))
      by_cases hjk : j < k
      · rw [List.getElem?_append_left (by rw [List.length_map, Hk.out]; exact hjk), List.getElem?_map, List.getD_eq_getElem?_getD]
        rw [List.getElem?_eq_getElem (by rw [Hk.out]; exact hjk)]; rfl
      · rw [List.getElem?_append_right (by rw [List.length_map, Hk.out]; omega), List.length_map, Hk.out, Nat.zero_add, List.getElem?_drop, show k + (j - k) = j by omega, HC3.out.2.2 j hj]
        rw [List.getD_eq_getElem?_getD, List.getElem?_eq_none (by rw [Hk.out]; omega)]; rfl
    have S24 : SB w4 (w.heap.size + 1) (.slice ua l uc) ((h : Int) - 1) d := (hb4.block (w.heap.size + 1) (by omega)).trans S2
    have hB4 : Below w.heap.size w w4 := hB2.trans (hb4.mono (by omega))
    obtain ⟨t0, Ht0⟩ : ∃ x : Int, Hid (x = T.getD sm 0) := ⟨_, rfl⟩
    have ht0 := HTb.out sm
    have qc := hO4.cell sm hsmN
    rw [← Ht0.out] at ht0 qc
    have qf := hO4.frozen sm
    obtain ⟨x1, Hx1⟩ : ∃ x : Int, Hid (x = (t0 + o) % (P : Int)) := ⟨_, rfl⟩
    have hx1 : (t0 + (o : Int)) % (P : Int) = x1 := Hx1.out.symm
    have S25 := S24.other ⟨w.heap.size + 1 + 1, sm, none⟩ (.int .i64 x1) (by simp)
    have q25 := S25.cells.1
    have hO5 := hO4.set sm x1
    have hB5 : Below w.heap.size w (w4.setCell ⟨w.heap.size + 1 + 1, sm, none⟩ (.int .i64 x1)) := hB4.setCell (p := ⟨w.heap.size + 1 + 1, sm, none⟩) (by simp; omega) _
    clear HC3 hb3 S13 S23 q13 HG4
    go_wp2
    go_loopw [56] (fun c wr => ∃ j : Nat, c = .int .i64 j ∧ j ≤ l ∧ Own wr (w.heap.size + 1 + 1) N (fun a => if a = s - 1 then (T.getD a 0 + o) % (P : Int) else if s ≤ a ∧ a < s + j then (T.getD a 0 + o * (P - H.getD (a - s) 0)) % (P : Int) else T.getD a 0) ∧ Below w.heap.size w wr) (fun c _ => (l - intOf c).toNat)
    case atStart =>
      refine ⟨0, rfl, by omega, hO5.congr (fun a _ => ?_), hB5⟩
      unfold upd
      rw [Hsm.out]
      by_cases e : a = s - 1
      · rw [if_pos e, if_pos e, Hx1.out, Ht0.out, Hsm.out, ← e]
      · rw [if_neg e, if_neg e, if_neg (by omega)]
    case round =>
      obtain ⟨j, rfl, hj, hO, hB⟩ := hrel
      by_cases hlt : j < l
      · have hji : (j : Int) < l := by omega
        obtain ⟨g, off, rfl, hcz0⟩ := HU.out j hlt
        have hcz := (hB.cell (p := ⟨g, off + j, none⟩) (block_lt_of_cell hcz0)).trans hcz0
        obtain ⟨z, Hz⟩ : ∃ z : Int, Hid (z = H.getD j 0) := ⟨_, rfl⟩
        have hz := HHb.out j hlt
        rw [← Hz.out] at hz hcz
        obtain ⟨sj, Hsj⟩ : ∃ x : Nat, Hid (x = s + j) := ⟨_, rfl⟩
        have hsj : (s : Int) + (j : Int) = (sj : Int) := by rw [Hsj.out]; omega
        have hsjN : sj < N := by rw [Hsj.out]; omega
        obtain ⟨t, Ht⟩ : ∃ x : Int, Hid (x = T.getD sj 0) := ⟨_, rfl⟩
        have ht := HTb.out sj
        have qt := hO.cell sj hsjN
        rw [show (if sj = s - 1 then (T.getD sj 0 + (o : Int)) % (P : Int) else if s ≤ sj ∧ sj < s + j then (T.getD sj 0 + o * (P - H.getD (sj - s) 0)) % (P : Int) else T.getD sj 0) = t by
          rw [if_neg (by rw [Hsj.out]; omega), if_neg (by rw [Hsj.out]; omega), Ht.out]] at qt
        rw [← Ht.out] at ht
        have qtf := hO.frozen sj
        have hpz : 0 ≤ (P : Int) - z ∧ (P : Int) - z ≤ 7 := by omega
        have hq0 : 0 ≤ (o : Int) * ((P : Int) - z) := Int.mul_nonneg (by omega) hpz.1
        have hq9 : (o : Int) * ((P : Int) - z) ≤ 7 * 7 := Int.mul_le_mul (by omega) hpz.2 hpz.1 (by omega)
        obtain ⟨x, Hx⟩ : ∃ x : Int, Hid (x = (t + o * (P - z)) % (P : Int)) := ⟨_, rfl⟩
        have hx : (t + (o : Int) * ((P : Int) - z)) % (P : Int) = x := Hx.out.symm
        clear hcz0
        go_wp2
        go_roundw
        case rel =>
          refine ⟨j + 1, by go_num, by omega, (hO.set sj x).congr (fun a _ => ?_), hB.setCell (p := ⟨w.heap.size + 1 + 1, sj, none⟩) (by simp; omega) _⟩
          unfold upd
          by_cases e : a = sj
          · subst e
            rw [if_pos rfl, if_neg (by rw [Hsj.out]; omega), if_pos (by rw [Hsj.out]; omega), Hx.out, Ht.out, Hz.out, show a - s = j by rw [Hsj.out]; omega]
          · rw [if_neg e]
            show (if a = s - 1 then (T.getD a 0 + (o : Int)) % (P : Int) else if s ≤ a ∧ a < s + j then (T.getD a 0 + o * (P - H.getD (a - s) 0)) % (P : Int) else T.getD a 0) = (if a = s - 1 then (T.getD a 0 + (o : Int)) % (P : Int) else if s ≤ a ∧ a < s + (j + 1) then (T.getD a 0 + o * (P - H.getD (a - s) 0)) % (P : Int) else T.getD a 0)
            have e' : a ≠ s + j := by rw [← Hsj.out]; exact e
            by_cases e1 : a = s - 1
            · rw [if_pos e1, if_pos e1]
            · rw [if_neg e1, if_neg e1]
              by_cases e2 : s ≤ a ∧ a < s + j
              · rw [if_pos e2, if_pos (by omega)]
              · rw [if_neg e2, if_neg (by omega)]
        case measure => simp [intOf]; omega
      · obtain rfl : j = l := by omega
        go_wp2
        go_ret
        refine ⟨w.heap.size + 1 + 1, o, rfl, by omega, hO.congr (fun a _ => ?_), HOD.out, hB⟩
        unfold mendF
        rw [Hl.out]

end Go.Proofs.Ytglomemadcdagaa
