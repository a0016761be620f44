/- The walks of unrank, Unrank. -/
import Derived.Test.YtncnaaohihmjnaaP41
import Derived.Test.YtncnaaohihmjnaaP33
import Derived.Test.YtncnaaohihmjnaaPUnr
namespace Go.Proofs.Ytncnaaohihmjnaa
open Go.RowKit

theorem own_kp {w w' : World} {base M n : Nat} {e : TypeId} {size : Nat} {v : Value} {xs : List Value} (h : w.ownsRow base e size v n xs) (k : Kp M w w') (hM : M < base) : w'.ownsRow base e size v n xs := by
  obtain ⟨h3, h4 | ⟨g, cap, cur, h5, h6, h7, h8⟩⟩ := h
  · exact ⟨h3, .inl h4⟩
  · exact ⟨h3, .inr ⟨g, cap, cur, h5, h6, (k.2 g (Array.getElem?_eq_some_iff.1 h7).1 (by omega)).trans h7, h8⟩⟩
theorem getD_erase (l : List Nat) (i j : Nat) : (l.eraseIdx i).getD j 0 = if j < i then l.getD j 0 else l.getD (j + 1) 0 := by
  rw [List.getD_eq_getElem?_getD, List.getElem?_eraseIdx]
  split <;> simp [List.getD_eq_getElem?_getD]
/-- A list of numbers as values. -/
def vl (l : List Nat) : List Value := (l.map Int.ofNat).map (Value.int .i64)
theorem vl_append (l m : List Nat) : vl (l ++ m) = vl l ++ vl m := by simp [vl]
theorem own_vl {w : World} {base n : Nat} {v : Value} {l : List Nat} (h : w.ownsRow base 3 1 v n (vl l)) (hn : l.length = n) : Sl w v (l.map Int.ofNat) := Sl.owned (by rw [List.length_map, hn]; exact h)

set_option maxRecDepth 100000 in
set_option maxHeartbeats 2000000 in
theorem unrank_any (n k : Nat) (w : World) (hn : n ≤ 12) (hk : k < fac n) :
    Calls Try.prog 72 #[.int .i64 (n : Int), .int .i64 (k : Int)] w fun e w' => ∃ x, e = .returned x ∧ Sl w' x ((unrL n (List.range n) k).map Int.ofNat) ∧ Below w.heap.size w w' := by
  obtain ⟨i3, hi, hz0, hz1, hz2⟩ := info3
  have C := fun (m : Nat) A (h : m ≤ 12) => orders_any m A h
  have hkb : k < 479001600 := Nat.lt_of_lt_of_le hk (fac_le hn)
  have HKF : Hid (k < fac n) := hk
  obtain ⟨goal, Hgoal⟩ : ∃ g, Hid (unrL n (List.range n) k = g) := ⟨_, rfl⟩
  have hgl : Hid (goal.length = n) := by rw [← Hgoal.out]; exact unrL_len _ _ _
  rw [Hgoal.out]
  clear hk
  go_enter Try.func72, Try.ntmps72
  go_wp2_with (first
    | (at_make; refine wpList_make_full _ rfl _ _ 22 rfl w.heap.size 3 i3 (.int .i64 0) 1 und22 hi hz0 hz1 .i64 .i64 (n : Int) (n : Int) n rfl rfl rfl rfl ?c1 ?c2 (Nat.le_refl _) ?_))
  case c1 => rw [hz2]; omega
  case c2 => unfold maxLen; omega
  intro w1 how1 hgr1
  have hO1 := own_made' how1
  have hb1 : Below w.heap.size w w1 := ⟨hgr1.os, hgr1.tape, hgr1.output, hgr1.size, fun k hk => hgr1.block k hk (by simp)⟩
  clear how1 hgr1
  go_wp2
  go_loopw [14] (fun i wr => ∃ (j : Nat) (h : Nat → Int), i = .int .i64 j ∧ j ≤ n ∧ Own wr w.heap.size n h ∧ Hid (∀ t, t < j → h t = (t : Int)) ∧ Below w.heap.size w wr) (fun i _ => (n - intOf i).toNat)
  case atStart => exact ⟨0, _, rfl, by omega, hO1, (fun t ht => by omega : ∀ t, t < 0 → _), hb1⟩
  case round =>
    clear hO1 hb1
    obtain ⟨j, h, rfl, hj, hO, HH, hb⟩ := hrel
    by_cases hlt : j < n
    · have hji : (j : Int) < n := by omega
      have hjd : decide ((j : Int) < n) = true := by simp; omega
      have hcell := hO.cell j hlt
      have hfr := hO.frozen j
      go_wp2
      go_roundw
      case rel =>
        refine ⟨j + 1, upd h j j, by go_num, by omega, hO.set j j, (fun t ht => ?_ : ∀ t, t < j + 1 → _), hb.setCell (p := ⟨w.heap.size, j, none⟩) (Nat.le_refl _) _⟩
        unfold upd
        by_cases e : t = j
        · subst e; rw [if_pos rfl]
        · rw [if_neg e]; exact HH.out t (by omega)
      case measure => simp [intOf]; omega
    · obtain rfl : j = n := by omega
      have hjd : decide ((j : Int) < (j : Int)) = false := by simp
      have hOr : Own wr w.heap.size j (fun t => ((List.range j).getD t 0 : Int)) := hO.congr fun t ht => by rw [HH.out t ht]; simp [ht]
      have hlt' := hOr.lt
      clear hO HH
      go_wp2_with (first
        | (at_make; refine wpList_make_own _ rfl _ _ 22 rfl wr.heap.size 3 i3 (.int .i64 0) 1 und22 hi hz0 hz1 .i64 .i64 (j : Int) j rfl rfl rfl ?d1 ?d2 (Nat.le_refl _) ?_))
      case d1 => rw [hz2]; omega
      case d2 => unfold maxLen; omega
      intro w2 how2 hgr2
      have hb2 : Below wr.heap.size wr w2 := ⟨hgr2.os, hgr2.tape, hgr2.output, hgr2.size, fun k hk => hgr2.block k hk (by simp)⟩
      obtain ⟨wo, rfl⟩ : ∃ wo, wo = wr := ⟨_, rfl⟩
      have hO2 := hOr.below hb2
      have hB2 := Below.next hb hb2
      have hs2 := hb2.size
      clear hgr2 hOr hb hb2
      go_wp2
      go_loopw [1, 5, 7] (fun kv lv ov wr => ∃ (kk m : Nat) (lft done : List Nat), kv = .int .i64 kk ∧ lv = .slice (some ⟨w.heap.size, 0, none⟩) m j ∧ m ≤ j ∧ Hid (lft.length = m) ∧ Own wr w.heap.size m (fun t => (lft.getD t 0 : Int)) ∧ wr.ownsRow wo.heap.size 3 1 ov (j - m) (vl done) ∧ Hid (done.length = j - m) ∧ Hid (kk < fac m) ∧ Hid (done ++ unrL m lft kk = goal) ∧ wo.heap.size ≤ wr.heap.size ∧ Below w.heap.size w wr) (fun _ lv _ _ => sliceLen lv)
      case atStart =>
        refine ⟨k, j, List.range j, [], rfl, rfl, Nat.le_refl _, List.length_range, hO2, ?_, (by simp : [].length = j - j), HKF, Hgoal, hs2, hB2⟩
        rw [Nat.sub_self]; exact how2
      case round =>
        clear how2 hO2 hB2 hs2
        obtain ⟨kk, m, lft, done, rfl, rfl, hm, HL, hO, hown, HD, HK, HG, hsz, hB⟩ := hrel
        by_cases hm0 : m = 0
        · subst hm0
          have hmd : decide ((0 : Int) < ((0 : Nat) : Int)) = false := by simp
          go_wp2
          go_ret
          refine ⟨_, rfl, ?_, hB⟩
          have e : done = goal := by
            have := HG.out
            rw [unrL, List.append_nil] at this
            exact this
          rw [← e]
          exact own_vl hown (by rw [HD.out])
        · obtain ⟨m', rfl⟩ : ∃ m', m = m' + 1 := ⟨m - 1, by omega⟩
          have hmi : (0 : Int) < ((m' + 1 : Nat) : Int) := by omega
          have hmd : decide ((0 : Int) < ((m' + 1 : Nat) : Int)) = true := decide_eq_true hmi
          have hm1 : (((m' + 1 : Nat) : Int)) - 1 = (m' : Int) := by omega
          obtain ⟨g, Hg⟩ : ∃ g, Hid (fac m' = g) := ⟨_, rfl⟩
          have D := fun A => C m' A (by omega)
          rw [Hg.out] at D
          have hg1 : 1 ≤ g := by rw [← Hg.out]; exact fac_pos m'
          have hgb : g ≤ 479001600 := by rw [← Hg.out]; exact fac_le (by omega)
          obtain ⟨at', Hat⟩ : ∃ a, Hid (kk / g = a) := ⟨_, rfl⟩
          obtain ⟨r, Hr⟩ : ∃ r, Hid (kk % g = r) := ⟨_, rfl⟩
          have hatm : at' < m' + 1 := by rw [← Hat.out, ← Hg.out]; exact div_fac HK.out
          have hrg : r < g := by rw [← Hr.out]; exact Nat.mod_lt _ (by omega)
          have e1 : (kk : Int) / (g : Int) = (at' : Int) := by rw [← Hat.out, Int.natCast_ediv]
          have e2 : (kk : Int) % (g : Int) = (r : Int) := by rw [← Hr.out, Int.natCast_emod]
          have hgz : ((g : Int) == 0) = false := by simp; omega
          have hkkb : kk < 479001600 := Nat.lt_of_lt_of_le HK.out (fac_le (by omega))
          obtain ⟨x, Hx⟩ : ∃ x, Hid (lft.getD at' 0 = x) := ⟨_, rfl⟩
          have hcx := hO.cell at' hatm
          rw [Hx.out] at hcx
          have hatmi : (at' : Int) < ((m' + 1 : Nat) : Int) := by omega
          have HU : Hid (unrL (m' + 1) lft kk = x :: unrL m' (lft.eraseIdx at') r) := by
            show unrL (m' + 1) lft kk = _
            rw [unrL, Hg.out, Hat.out, Hr.out, Hx.out]
          go_wp2_with (first
            | (go_at_call 71; refine (D _).mono ?_; rintro e w3 ⟨rfl, hw⟩; replace hw := hw.symm; subst hw)
            | (at_builtin; refine wpList_append_own _ rfl _ _ 22 rfl wo.heap.size 3 i3 (.int .i64 0) 1 8 und22 hi hz0 hz1 hz2 rfl (by decide) _ _ _ rfl (hown.alloc _) ⟨wr.heap.size, 0, none⟩ 1 1 [.int .i64 (x : Int)] rfl rfl ?c1 ?c2 ?c3 ?c4 ?c5 ?_)
            | go_in)
          case c1 =>
            intro j u hj
            match j, hj with
            | 0, hj => simp at hj; subst hj; simp [Addr.add]
          case c2 => intro u hu; simp at hu; subst hu; rfl
          case c3 => unfold maxLen; omega
          case c4 => omega
          case c5 => simp; omega
          intro v' w4 hown4 hgrow _
          have hU4 : Below wo.heap.size wr w4 := ((Below.refl _ _).alloc (by omega) _).grown hgrow (by simp; omega) (fun k hk => (hown.lt k hk).1)
          have hB4 : Below w.heap.size w w4 := hB.trans (hU4.mono (by omega))
          have hO4 : Own w4 w.heap.size (m' + 1) (fun t => (lft.getD t 0 : Int)) := by
            obtain ⟨cur, k1, k2⟩ := hO
            exact ⟨cur, (hU4.block w.heap.size (by omega)).trans k1, k2⟩
          have CD := Delete_any w.heap.size m' j at' _ w4 hO4 hatm hm (by omega)
          have hs4 := hU4.size
          clear hgrow hU4 hO4 hO
          go_wp2_with (first
            | (go_at_call 74; refine CD.mono ?_; rintro e w5 ⟨rfl, hO5, hK5, hB5⟩))
          have hown5 := own_kp hown4 hK5 (by omega)
          have hs5 := hB5.size
          go_roundw
          case rel =>
            refine ⟨r, m', lft.eraseIdx at', done ++ [x], rfl, rfl, by omega, ?_, ?_, ?_, ?_, ?_, ?_, by omega, hB4.trans hB5⟩
            · show (lft.eraseIdx at').length = m'
              rw [List.length_eraseIdx_of_lt (by rw [HL.out]; exact hatm), HL.out]; omega
            · refine hO5.congr fun t ht => ?_
              show (if t < at' then (lft.getD t 0 : Int) else (lft.getD (t + 1) 0 : Int)) = _
              rw [getD_erase lft at' t]
              split <;> rfl
            · rw [show j - m' = j - (m' + 1) + 1 by omega, vl_append]
              exact hown5
            · show (done ++ [x]).length = j - m'
              rw [List.length_append, HD.out]; simp; omega
            · show r < fac m'
              rw [Hg.out]; exact hrg
            · show done ++ [x] ++ unrL m' (lft.eraseIdx at') r = goal
              rw [← HG.out, HU.out]; simp
          case measure => simp [sliceLen]

end Go.Proofs.Ytncnaaohihmjnaa
