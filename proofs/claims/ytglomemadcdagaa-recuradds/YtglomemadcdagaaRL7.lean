/- The law RecurAdds, walked: the sum of two rows is the row of the sum. -/
import Derived.Test.YtglomemadcdagaaR21
import Derived.Deep.RegionLaw
import Derived.Deep.QuietTactic
import Derived.BigQuiet
namespace Go.Proofs.Ytglomemadcdagaa
open Go.RowKit

/-- An append onto a row of the call's own, as one step of a region that draws its order. -/
theorem step_append_own {P : Program} {ops : Array Oper} {o : Oper} {a : Act} {w : World} {K : Act → World → Prop} {Q : Exit → Act → World → Prop} {E : Prop}
    (hg : o.guard = none) (s x : Operand) (t : TypeId) (hop : o.op = Op.call { callee := Callee.builtin Builtin.append, args := #[s, x], argTypes := #[t, t] })
    (base : Nat) (e : TypeId) (i : TypeInfo) (z : Value) (size bytes : Nat) (h1 : P.underlying t = some (.slice e)) (h2 : P.info? e = some i) (h3 : i.zero = some z) (h4 : i.size = size) (h5 : i.bytes = bytes) (h6 : z.cells.size = size) (h7 : 0 < size)
    (v : Value) (k : Nat) (xs : List Value) (hs : a.eval s = v) (hown : w.ownsRow base e size v k xs) (ad : Addr) (m c : Nat) (news : List Value) (hx : a.eval x = .slice (some ad) m c) (hn : news.length = m * size)
    (hc : ∀ j u, news[j]? = some u → w.cell? (ad.add j) = some u) (h1c : ∀ u ∈ news, u.oneCell' = true) (b1 : k + m ≤ maxLen) (b2 : (k + m) * bytes ≤ 140737488355328) (b3 : base ≤ w.heap.size)
    (hK : ∀ v' w', w'.ownsRow base e size v' (k + m) (xs ++ news) → w.grownBy w' v.ownBlock → K (a.put o.dst v') w') :
    if Region.wanted o (yielded ops a.tmps) = true then Oper.wp P o a w K Q else E := by
  have hw : Region.wanted o (yielded ops a.tmps) = true := by simp [Region.wanted, hg]
  rw [if_pos hw]
  obtain ⟨v', w', hrun, r1, r2, _⟩ := run_append_own (P := P) w base t o.type e i z size bytes h1 h2 h3 h4 h5 h6 h7 v k xs hown ad m c news hn hc h1c b1 b2 b3
  unfold Oper.wp
  simp [execOp, hop, resolve, invoke, builtin, hs, hx, hrun, Result.andThen]
  exact hK _ _ r1 r2
theorem ownsRow_drewN {w : World} {b : Nat} {e : TypeId} {size : Nat} {v : Value} {n : Nat} {xs : List Value} (h : w.ownsRow b e size v n xs) (k : Nat) : (w.drewN k).ownsRow b e size v n xs := h
theorem newCell (W : World) (x : Int) : ∀ j u, ([Value.int .i64 x] : List Value)[j]? = some u → ((W.alloc (.cells #[.int .i64 x] 3)).drew).cell? ((⟨W.heap.size, 0, none⟩ : Addr).add j) = some u := by
  intro j u hj
  match j, hj with
  | 0, hj =>
    simp at hj
    subst hj
    exact cell_of_row (W.alloc (.cells #[.int .i64 x] 3)) W.heap.size 0 _ _ _ (heap_alloc_new W _)
theorem ownForm {w : World} {base n : Nat} {r : Value} {xs : List Value} (h : w.ownsRow base 3 1 r n xs) : ∃ a c, r = .slice a n c := by
  rcases h.2 with ⟨rfl, h0⟩ | ⟨g, c, cur, rfl, _⟩
  · exact ⟨none, 0, by rw [h0]⟩
  · exact ⟨_, c, rfl⟩

set_option maxHeartbeats 4000000 in
theorem law7_any (p n : Int) (l a b : List Int) (v va vb : Value) (w : World) (hl : Sl w v l) (hll : l.length ≤ maxLen) (ha : Sl w va a) (hal : a.length ≤ maxLen) (hb : Sl w vb b) (hbl : b.length ≤ maxLen) :
    Calls Try.prog 7 #[.int .i64 p, v, va, vb, .int .i64 n] w fun e w' => e = .returned (.bool true) ∧ Below w.heap.size w w' := by
  have C1 := runs_any w
  obtain ⟨za, Hza⟩ : ∃ z : Int, Hid (z = runZ p l a n) := ⟨_, rfl⟩
  obtain ⟨zb, Hzb⟩ : ∃ z : Int, Hid (z = runZ p l b n) := ⟨_, rfl⟩
  have CA : ∀ A, Below w.heap.size w A → Calls Try.prog 12 #[.int .i64 p, v, va, .int .i64 n] A fun e B => ∃ r, e = .returned (.tuple #[r, .int .i64 za]) ∧ Below A.heap.size A B := by
    intro A hA
    refine (Run_gen p n l a v va A (hl.below hA) hll (ha.below hA) hal).mono ?_
    rintro e B ⟨r, z, rfl, hz, hb⟩
    exact ⟨r, by rw [hz, Hza.out], hb⟩
  have CB : ∀ A, Below w.heap.size w A → Calls Try.prog 12 #[.int .i64 p, v, vb, .int .i64 n] A fun e B => ∃ r, e = .returned (.tuple #[r, .int .i64 zb]) ∧ Below A.heap.size A B := by
    intro A hA
    refine (Run_gen p n l b v vb A (hl.below hA) hll (hb.below hA) hbl).mono ?_
    rintro e B ⟨r, z, rfl, hz, hb⟩
    exact ⟨r, by rw [hz, Hzb.out], hb⟩
  by_cases h1 : za = 0
  · by_cases h2 : zb = 0
    · have e1 := runZ_ok (by rw [← Hza.out]; exact h1 : runZ p l a n = 0)
      have e2 := runZ_ok (by rw [← Hzb.out]; exact h2 : runZ p l b n = 0)
      clear CA CB
      obtain ⟨f1, f2, f3⟩ := runF_ok e1.1
      obtain ⟨_, g2, g3⟩ := runF_ok e2.1
      obtain ⟨t1, t2, t3, t4⟩ := tapsF_ok f1
      have hpb := smB_bd t1
      obtain ⟨P, rfl⟩ := Int.eq_ofNat_of_zero_le (show 0 ≤ p by omega)
      obtain ⟨k, rfl⟩ := Int.eq_ofNat_of_zero_le e1.2.1
      have hk : k ≤ 5000 := by have := e1.2.2; omega
      have CA : ∀ A, Below w.heap.size w A → Calls Try.prog 12 #[.int .i64 (P : Int), v, va, .int .i64 (k : Int)] A fun e B => ∃ r, e = .returned (.tuple #[r, .int .i64 0]) ∧ B.ownsRow A.heap.size 3 1 r k ((rowL P l a k).map (Value.int .i64)) ∧ Below A.heap.size A B :=
        fun A hA => Run_ok P k l a v va A (hl.below hA) hll (ha.below hA) hal e1.1 hk
      have CB : ∀ A, Below w.heap.size w A → Calls Try.prog 12 #[.int .i64 (P : Int), v, vb, .int .i64 (k : Int)] A fun e B => ∃ r, e = .returned (.tuple #[r, .int .i64 0]) ∧ B.ownsRow A.heap.size 3 1 r k ((rowL P l b k).map (Value.int .i64)) ∧ Below A.heap.size A B :=
        fun A hA => Run_ok P k l b v vb A (hl.below hA) hll (hb.below hA) hbl e2.1 hk
      have hC0 : runF P l (addL P a b) = 0 := runF_mk f1 (by rw [addL_len]; exact f2) (addL_bel (by omega) a b)
      have CC : ∀ A u, Below w.heap.size w A → Sl A u (addL P a b) → Calls Try.prog 12 #[.int .i64 (P : Int), v, u, .int .i64 (k : Int)] A fun e B => ∃ r, e = .returned (.tuple #[r, .int .i64 0]) ∧ B.ownsRow A.heap.size 3 1 r k ((rowL P l (addL P a b) k).map (Value.int .i64)) ∧ Below A.heap.size A B :=
        fun A u hA hu => Run_ok P k l (addL P a b) v u A (hl.below hA) hll hu (by rw [addL_len]; exact hal) hC0 hk
      obtain ⟨q, Hq⟩ : ∃ q : Nat, Hid (a.length = q) := ⟨_, rfl⟩
      have hq8 : q ≤ 8 := by rw [← Hq.out]; omega
      have hbq : b.length = q := by rw [← Hq.out]; omega
      obtain ⟨aa, ca, rfl, hac⟩ := id ha
      obtain ⟨ab, cb, rfl, hbc⟩ := id hb
      rw [Hq.out] at hac CA ⊢
      rw [hbq] at hbc CB ⊢
      have HA : Hid (∀ j, j < q → ∃ g o, aa = some ⟨g, o, none⟩ ∧ w.cell? ⟨g, o + j, none⟩ = some (.int .i64 (a.getD j 0))) := hac
      have HB : Hid (∀ j, j < q → ∃ g o, ab = some ⟨g, o, none⟩ ∧ w.cell? ⟨g, o + j, none⟩ = some (.int .i64 (b.getD j 0))) := hbc
      have HAb : Hid (belB P a = true ∧ belB P b = true ∧ b.length = q) := ⟨f3, g3, hbq⟩
      obtain ⟨i3, hi, hz0, hz1, hz2⟩ := info3
      subst h1 h2
      have hP2 : 2 ≤ P ∧ P ≤ 7 := by omega
      have HLL : Hid (a.length = l.length ∧ b.length = l.length) := ⟨f2, g2⟩
      clear hac hbc e1 e2 hpb f2 g2 hbq t2 t3 hC0
      go_enter Try.func7, Try.ntmps7
      go_wp2_with (first
        | (go_at_call 21; refine C1.mono ?_; rintro e w1 ⟨rfl, hb1⟩)
        | (go_at_call_of 12 (Value.slice aa q ca); refine (CA _ hb1).mono ?_; rintro e w2 ⟨r, rfl, ho2, hb2⟩; have hB2 := hb1.trans (hb2.mono hb1.size))
        | (go_at_call_of 12 (Value.slice ab q cb); refine (CB _ hB2).mono ?_; rintro e w3 ⟨s, rfl, ho3, hb3⟩; have hB3 := hB2.trans (hb3.mono hB2.size)))
      obtain ⟨ax, cx, rfl⟩ := ownForm ho2
      obtain ⟨ay, cy, rfl⟩ := ownForm ho3
      have SX := (slRow ho2).below hb3
      have SY := slRow ho3
      clear C1 CA CB ho2 ho3
      go_loopw [16, 17] (fun c i wr => ∃ t : Nat, i = .int .i64 t ∧ t ≤ q ∧ wr.ownsRow w3.heap.size 3 1 c t (((List.range t).map fun j => (a.getD j 0 + b.getD j 0) % (P : Int)).map (Value.int .i64)) ∧ Below w3.heap.size w3 wr) (fun _ i _ => (q - intOf i).toNat)
      case atStart => exact ⟨0, rfl, by omega, World.ownsRow_nil _ _ _ _, Below.refl _ _⟩
      case round =>
        obtain ⟨t, rfl, ht, hown, hbr⟩ := hrel
        have hbz := hbr.size
        have hBr := hB3.trans (hbr.mono hB3.size)
        by_cases hlt : t < q
        · have hti : (t : Int) < q := by omega
          obtain ⟨g, o, rfl, hca0⟩ := HA.out t hlt
          obtain ⟨g', o', rfl, hcb0⟩ := HB.out t hlt
          obtain ⟨x, Hx⟩ : ∃ x : Int, Hid (x = a.getD t 0) := ⟨_, rfl⟩
          obtain ⟨y, Hy⟩ : ∃ y : Int, Hid (y = b.getD t 0) := ⟨_, rfl⟩
          have hca := (hBr.cell (p := ⟨g, o + t, none⟩) (block_lt_of_cell hca0)).trans hca0
          have hcb := (hBr.cell (p := ⟨g', o' + t, none⟩) (block_lt_of_cell hcb0)).trans hcb0
          rw [← Hx.out] at hca
          rw [← Hy.out] at hcb
          have hx := belB_iff.1 HAb.out.1 t (by rw [Hq.out]; exact hlt)
          have hy := belB_iff.1 HAb.out.2.1 t (by rw [HAb.out.2.2]; exact hlt)
          rw [← Hx.out] at hx
          rw [← Hy.out] at hy
          obtain ⟨z, Hz⟩ : ∃ z : Int, Hid (z = (x + y) % (P : Int)) := ⟨_, rfl⟩
          have hxy : (x + y) % (P : Int) = z := Hz.out.symm
          have hxy0 : 0 ≤ x + y := by omega
          have hP0 : ¬ P = 0 := by omega
          have hxy' : (IntKind.i64.wrap (x + y)).tmod (P : Int) = z := by
            rw [show IntKind.i64.wrap (x + y) = x + y by rw [IntKind.wrap_i64]; omega, Int.tmod_eq_emod_of_nonneg hxy0]; exact hxy
          clear hca0 hcb0
          go_wp2
          go_region_law (refine step_append_own rfl (.tmp 51) (.tmp 63) 22 rfl w3.heap.size 3 i3 (.int .i64 0) 1 8 und22 hi hz0 hz1 hz2 rfl (by decide) _ t _ (by simp [Act.eval]) (hown.alloc _) ⟨wr.heap.size, 0, none⟩ 1 1 [.int .i64 z] (by simp [Act.eval]) rfl (newCell wr z) (by simp [Value.oneCell']) (by unfold maxLen; omega) (by omega) (by simp; omega) ?_; intro v' w4 hown' hgrow)
          all_goals
            have hb1' : Below w3.heap.size w3 w4 := ((hbr.alloc hbz _).drew).grown hgrow (by simp; omega) (fun k hk => (hown.lt k hk).1)
            go_wp2
            go_roundw
            case rel =>
              have hfin : ∃ t' : Nat, Value.int .i64 ((t : Int) + 1) = .int .i64 t' ∧ t' ≤ q ∧ w4.ownsRow w3.heap.size 3 1 v' t' (((List.range t').map fun j => (a.getD j 0 + b.getD j 0) % (P : Int)).map (Value.int .i64)) ∧ Below w3.heap.size w3 w4 := by
                refine ⟨t + 1, by go_num, by omega, ?_, hb1'⟩
                rw [List.range_succ, List.map_append, List.map_append, List.map_cons, List.map_nil, List.map_cons, List.map_nil, ← Hx.out, ← Hy.out, hxy]
                exact hown'
              first
                | exact hfin
                | ((repeat apply Exists.intro); exact ⟨hfin, rfl⟩)
            case measure => simp [intOf]; omega
        · obtain rfl : t = q := by omega
          have SC : Sl wr _ (addL P a b) := Sl.owned (base := w3.heap.size) (by rw [addL_len, Hq.out]; unfold addL; rw [Hq.out]; exact hown)
          have hkk : ((k : Int) != (k : Int)) = false := by simp
          go_wp2_with (first
            | (go_at_call 12; refine (CC _ _ hBr SC).mono ?_; rintro e w5 ⟨r, rfl, ho5, hb5⟩; have hB5 := hBr.trans (hb5.mono hBr.size); obtain ⟨az, cz, rfl⟩ := ownForm ho5))
          have SZ := slRow ho5
          have SX5 := (SX.below hbr).below hb5
          have SY5 := (SY.below hbr).below hb5
          clear CC SC SX SY
          obtain ⟨az', cz', ez, hcz⟩ := SZ
          obtain ⟨ax', cx', ex, hcx⟩ := SX5
          obtain ⟨ay', cy', ey, hcy⟩ := SY5
          rw [rowL_len] at ex ey ez hcx hcy hcz
          cases ex
          cases ey
          cases ez
          have HX : Hid (∀ j, j < k → ∃ g o, ax = some ⟨g, o, none⟩ ∧ w5.cell? ⟨g, o + j, none⟩ = some (.int .i64 ((rowL P l a k).getD j 0))) := hcx
          have HYY : Hid (∀ j, j < k → ∃ g o, ay = some ⟨g, o, none⟩ ∧ w5.cell? ⟨g, o + j, none⟩ = some (.int .i64 ((rowL P l b k).getD j 0))) := hcy
          have HZ : Hid (∀ j, j < k → ∃ g o, az = some ⟨g, o, none⟩ ∧ w5.cell? ⟨g, o + j, none⟩ = some (.int .i64 ((rowL P l (addL P a b) k).getD j 0))) := hcz
          clear hcx hcy hcz
          go_loopw [19] (fun i wx => ∃ j : Nat, i = .int .i64 j ∧ j ≤ k ∧ ∃ d, wx = w5.drewN d) (fun i _ => (k - intOf i).toNat)
          case atStart => exact ⟨0, rfl, by omega, 0, rfl⟩
          case round =>
            obtain ⟨j, rfl, hj, d, rfl⟩ := hrel
            by_cases hjk : j < k
            · have hji : (j : Int) < k := by omega
              obtain ⟨g1, o1, rfl, c1⟩ := HX.out j hjk
              obtain ⟨g2, o2, rfl, c2⟩ := HYY.out j hjk
              obtain ⟨g3, o3, rfl, c3⟩ := HZ.out j hjk
              rw [rowL_at _ _ _ hjk] at c1 c2 c3
              have hadd := rows_add (p := (P : Int)) (taps := l) (a := a) (b := b) HLL.out.1 HLL.out.2 j
              obtain ⟨x, Hx⟩ : ∃ x : Int, Hid (x = rowN P l a j) := ⟨_, rfl⟩
              obtain ⟨y, Hy⟩ : ∃ y : Int, Hid (y = rowN P l b j) := ⟨_, rfl⟩
              obtain ⟨z, Hz⟩ : ∃ z : Int, Hid (z = rowN P l (addL P a b) j) := ⟨_, rfl⟩
              rw [← Hx.out] at c1 hadd
              rw [← Hy.out] at c2 hadd
              rw [← Hz.out] at c3 hadd
              have hx := rowN_bd (p := (P : Int)) (taps := l) (by omega) HAb.out.1 j
              have hy := rowN_bd (p := (P : Int)) (taps := l) (by omega) HAb.out.2.1 j
              rw [← Hx.out] at hx
              rw [← Hy.out] at hy
              have hxy : (x + y) % (P : Int) = z := hadd.symm
              have hzz : (z != z) = false := by simp
              clear hadd
              go_wp2
              go_quiet (fail)
              go_wp2
              go_roundw
              case rel => exact ⟨j + 1, by go_num, by omega, _, rfl⟩
              case measure => simp [intOf]; omega
            · go_wp2
              go_ret
              exact ⟨rfl, bdrewN hB5 _⟩
    · have hd2 : (zb != 0) = true := by simpa using h2
      subst h1
      go_enter Try.func7, Try.ntmps7
      go_wp2_with (first
        | (go_at_call 21; refine C1.mono ?_; rintro e w1 ⟨rfl, hb1⟩)
        | (go_at_call_of 12 va; refine (CA _ hb1).mono ?_; rintro e w2 ⟨r, rfl, hb2⟩; have hB2 := hb1.trans (hb2.mono hb1.size))
        | (go_at_call_of 12 vb; refine (CB _ hB2).mono ?_; rintro e w3 ⟨s, rfl, hb3⟩; have hB3 := hB2.trans (hb3.mono hB2.size)))
      go_ret
      exact ⟨rfl, hB3⟩
  · have hd1 : (za != 0) = true := by simpa using h1
    go_enter Try.func7, Try.ntmps7
    go_wp2_with (first
      | (go_at_call 21; refine C1.mono ?_; rintro e w1 ⟨rfl, hb1⟩)
      | (go_at_call_of 12 va; refine (CA _ hb1).mono ?_; rintro e w2 ⟨r, rfl, hb2⟩; have hB2 := hb1.trans (hb2.mono hb1.size))
      | (go_at_call_of 12 vb; refine (CB _ hB2).mono ?_; rintro e w3 ⟨s, rfl, hb3⟩; have hB3 := hB2.trans (hb3.mono hB2.size)))
    go_ret
    exact ⟨rfl, hB3⟩

end Go.Proofs.Ytglomemadcdagaa
