/- The walk of RowOf: the document's row. -/
import Derived.Test.YtglomemadcdagaaR27
namespace Go.Proofs.Ytglomemadcdagaa
open Go.RowKit

theorem ownsRow_drewN {w : World} {b : Nat} {e : TypeId} {size : Nat} {v : Value} {n : Nat} {xs : List Value} (h : w.ownsRow b e size v n xs) (k : Nat) : (w.drewN k).ownsRow b e size v n xs := h

set_option maxHeartbeats 2000000 in
theorem rowOf_any (P n : Nat) (taps seed : List Int) (v u : Value) (w : World) (hp : 2 ≤ P) (hp' : P ≤ 7) (hk1 : 1 ≤ taps.length) (hk : taps.length ≤ 8) (hbt : belB P taps = true) (hsl : seed.length = taps.length) (hbs : belB P seed = true)
    (hl : Sl w v taps) (hm : Sl w u seed) (hn : n ≤ 30000) :
    Calls Try.prog 13 #[.int .i64 P, v, u, .int .i64 n] w fun e w' => ∃ r, e = .returned r ∧ w'.ownsRow w.heap.size 3 1 r n ((rowL P taps seed n).map (Value.int .i64)) ∧ Below w.heap.size w w' := by
  obtain ⟨i3, hi, hz0, hz1, hz2⟩ := info3
  obtain ⟨k, Hk⟩ : ∃ k : Nat, Hid (taps.length = k) := ⟨_, rfl⟩
  have hk1' : 1 ≤ k := by rw [← Hk.out]; exact hk1
  have hk' : k ≤ 8 := by rw [← Hk.out]; exact hk
  obtain ⟨b, off, cap, rfl, hbw, hlc⟩ := hl.form Hk.out (by omega)
  obtain ⟨b', off', cap', rfl, hbw', hmc⟩ := hm.form (hsl.trans Hk.out) (by omega)
  have HLC : Hid (∀ j, j < k → w.cell? ⟨b, off + j, none⟩ = some (.int .i64 (taps.getD j 0))) := hlc
  have HMC : Hid (∀ j, j < k → w.cell? ⟨b', off' + j, none⟩ = some (.int .i64 (seed.getD j 0))) := hmc
  have HSL : Hid (seed.length = k) := hsl.trans Hk.out
  clear hlc hmc hl hm hk1 hk hsl
  go_enter Try.func13, Try.ntmps13
  go_wp2
  go_loopw [9, 10] (fun o i wr => ∃ t : Nat, i = .int .i64 t ∧ t ≤ n ∧ wr.ownsRow w.heap.size 3 1 o t ((rowL P taps seed t).map (Value.int .i64)) ∧ Below w.heap.size w wr) (fun _ i _ => (n - intOf i).toNat)
  case atStart => exact ⟨0, rfl, by omega, World.ownsRow_nil _ _ _ _, Below.refl _ _⟩
  case round =>
    obtain ⟨t, rfl, ht, hown, hb⟩ := hrel
    have hbz := hb.size
    by_cases hlt : t < n
    · have hti : (t : Int) < n := by omega
      by_cases htk : t < k
      · obtain ⟨x, Hx⟩ : ∃ x : Int, Hid (x = seed.getD t 0) := ⟨_, rfl⟩
        have hcx := (hb.cell (p := ⟨b', off' + t, none⟩) hbw').trans (HMC.out t htk)
        rw [← Hx.out] at hcx
        have htki : (t : Int) < k := by omega
        have hdec : decide ((t : Int) < (k : Int)) = true := by simp; omega
        have HR : Hid (rowN P taps seed t = x) := by show rowN P taps seed t = x; rw [Hx.out]; exact rowN_seed (by rw [HSL.out]; exact htk)
        go_wp2_with (first
          | (at_builtin; refine wpList_append_own _ rfl _ _ 22 rfl w.heap.size 3 i3 (.int .i64 0) 1 8 und22 hi hz0 hz1 hz2 rfl (by decide) _ _ _ rfl (hown.alloc _) ⟨wr.heap.size, 0, none⟩ 1 1 [.int .i64 x] rfl rfl ?c1 ?c2 ?c3 ?c4 ?c5 ?_)
          | go_in)
        case c1 =>
          intro j u hj
          match j, hj with
          | 0, hj => simp at hj; subst hj; simp [Addr.add]
        case c2 => intro u hu; simp at hu; subst hu; rfl
        case c3 => unfold maxLen; omega
        case c4 => omega
        case c5 => simp; omega
        · intro v' w1 hown' hgrow _
          have hb1 : Below w.heap.size w w1 := (hb.alloc hbz _).grown hgrow (by simp; omega) (fun k hk => (hown.lt k hk).1)
          go_wp2
          go_roundw
          case rel =>
            have hfin : ∃ t' : Nat, Value.int .i64 ((t : Int) + 1) = .int .i64 t' ∧ t' ≤ n ∧ w1.ownsRow w.heap.size 3 1 v' t' ((rowL P taps seed t').map (Value.int .i64)) ∧ Below w.heap.size w w1 := by
              refine ⟨t + 1, by go_num, by omega, ?_, hb1⟩
              rw [rowL_succ, List.map_append, HR.out]; exact hown'
            first
              | exact hfin
              | ((repeat apply Exists.intro); exact ⟨hfin, rfl⟩)
          case measure => simp [intOf]; omega
      · have hdec : decide ((t : Int) < (k : Int)) = false := by simp; omega
        have htki : (k : Int) ≤ t := by omega
        obtain ⟨g, cg, rfl, hg, hO⟩ := Own.of hown (by omega)
        have HO : Hid (∀ j, j < t → wr.cell? ⟨g, j, none⟩ = some (.int .i64 (rowN P taps seed j))) := by
          intro j hj
          rw [hO.cell j hj]
          rw [rowL_at _ _ _ hj]
        go_wp2
        go_loopw [11, 12] (fun s i wx => ∃ (y : Int) (j : Nat), i = .int .i64 j ∧ s = .int .i64 y ∧ j ≤ k ∧ Hid (y = sumTo (fun c => taps.getD c 0 * rowN P taps seed (t - 1 - c)) j) ∧ ∃ q, wx = wr.drewN q) (fun _ i _ => (k - intOf i).toNat)
        case atStart => exact ⟨0, 0, rfl, rfl, by omega, rfl, 0, rfl⟩
        case round =>
          obtain ⟨y, j, rfl, rfl, hj, HY, q, rfl⟩ := hrel
          have hys := sumTo_bd (f := fun c => taps.getD c 0 * rowN P taps seed (t - 1 - c)) (n := j) (B := 36) (fun c hc => by
            have h1 := belB_iff.1 hbt c (by rw [Hk.out]; omega)
            have h2 := rowN_bd (p := (P : Int)) (taps := taps) (by omega) hbs (t - 1 - c)
            exact ⟨Int.mul_nonneg h1.1 h2.1, Int.le_trans (Int.mul_le_mul (show _ ≤ 6 by omega) (show _ ≤ 6 by omega) h2.1 (by omega)) (by omega)⟩)
          rw [← HY.out] at hys
          have hy0 : 0 ≤ y := hys.1
          have hy9 : y ≤ 288 := by have := hys.2; omega
          clear hys
          by_cases hjk : j < k
          · have hji : (j : Int) < k := by omega
            obtain ⟨z, Hz⟩ : ∃ z : Int, Hid (z = taps.getD j 0) := ⟨_, rfl⟩
            obtain ⟨x, Hx⟩ : ∃ x : Int, Hid (x = rowN P taps seed (t - 1 - j)) := ⟨_, rfl⟩
            have hz := belB_iff.1 hbt j (by rw [Hk.out]; omega)
            have hx := rowN_bd (p := (P : Int)) (taps := taps) (by omega) hbs (t - 1 - j)
            rw [← Hz.out] at hz
            rw [← Hx.out] at hx
            have hcz := (hb.cell (p := ⟨b, off + j, none⟩) hbw).trans (HLC.out j hjk)
            rw [← Hz.out] at hcz
            have hcx := HO.out (t - 1 - j) (by omega)
            rw [← Hx.out] at hcx
            have hzx0 : 0 ≤ z * x := Int.mul_nonneg hz.1 hx.1
            have hzx9 : z * x ≤ 36 := Int.le_trans (Int.mul_le_mul (show z ≤ 6 by omega) (show x ≤ 6 by omega) hx.1 (by omega)) (by omega)
            obtain ⟨m, Hm⟩ : ∃ m : Nat, Hid (m = t - 1 - j) := ⟨_, rfl⟩
            have hme : (t : Int) - 1 - (j : Int) = (m : Int) := by rw [Hm.out]; omega
            have hmt : m < t := by rw [Hm.out]; omega
            rw [← Hm.out] at hcx
            go_wp2
            go_quiet (fail)
            go_wp2
            go_roundw
            case rel =>
              refine ⟨y + z * x, j + 1, by go_num, rfl, by omega, ?_, _, rfl⟩
              show y + z * x = sumTo _ (j + 1)
              rw [sumTo, ← HY.out, ← Hz.out, ← Hx.out]
            case measure => simp [intOf]; omega
          · obtain rfl : j = k := by omega
            obtain ⟨x, Hx⟩ : ∃ x : Int, Hid (x = rowN P taps seed t) := ⟨_, rfl⟩
            have hyx : y % (P : Int) = x := by rw [Hx.out, HY.out, rowN_on (by rw [HSL.out]; omega) (by rw [Hk.out]; omega), Hk.out]
            go_wp2_with (first
              | (at_builtin; refine wpList_append_own _ rfl _ _ 22 rfl w.heap.size 3 i3 (.int .i64 0) 1 8 und22 hi hz0 hz1 hz2 rfl (by decide) _ _ _ rfl ((ownsRow_drewN hown q).alloc _) ⟨wr.heap.size, 0, none⟩ 1 1 [.int .i64 x] rfl rfl ?c1 ?c2 ?c3 ?c4 ?c5 ?_)
              | go_in)
            case c1 =>
              intro j u hj
              match j, hj with
              | 0, hj => simp at hj; subst hj; exact cell_of_row ((wr.drewN q).alloc (.cells #[.int .i64 x] 3)) wr.heap.size 0 _ _ _ (heap_alloc_new (wr.drewN q) _)
            case c2 => intro u hu; simp at hu; subst hu; rfl
            case c3 => unfold maxLen; omega
            case c4 => omega
            case c5 => simp; omega
            · intro v' w1 hown' hgrow _
              have hb1 : Below w.heap.size w w1 := ((bdrewN hb q).alloc hbz _).grown hgrow (by simp; omega) (fun k hk => (hown.lt k hk).1)
              go_wp2
              go_roundw
              case rel =>
                have hfin : ∃ t' : Nat, Value.int .i64 ((t : Int) + 1) = .int .i64 t' ∧ t' ≤ n ∧ w1.ownsRow w.heap.size 3 1 v' t' ((rowL P taps seed t').map (Value.int .i64)) ∧ Below w.heap.size w w1 := by
                  refine ⟨t + 1, by go_num, by omega, ?_, hb1⟩
                  rw [rowL_succ, List.map_append, ← Hx.out]; exact hown'
                first
                  | exact hfin
                  | ((repeat apply Exists.intro); exact ⟨hfin, rfl⟩)
              case measure => simp [intOf]; omega
    · go_wp2
      go_ret
      obtain rfl : t = n := by omega
      exact ⟨_, rfl, hown, hb⟩

end Go.Proofs.Ytglomemadcdagaa
