/- The walk of divides. -/
import Derived.Test.YtjfjdidibglhaaaDoorBase
import Derived.BigRegion
import Derived.Test.YtjfjdidibglhaaaDoorPureB
namespace Go.Proofs.YtjfjdidibglhaaaDoor.Fd
open Go.RowKit

set_option maxRecDepth 100000 in
set_option maxHeartbeats 1000000 in
theorem divides_any (d l : List Int) (n k p : Nat) (vd vl : Value) (w : World) (hdl : d.length = n) (hll : l.length = k) (hd : Sl w vd d) (hl : Sl w vl l) (hn1 : 1 ≤ n) (hnk : n ≤ k) (hk : k ≤ 10)
    (hp : 2 ≤ p) (hp' : p ≤ 64) (hdp : ∀ j, j < n → 0 ≤ d.getD j 0 ∧ d.getD j 0 < p) (hlp : ∀ j, j < k → 0 ≤ l.getD j 0 ∧ l.getD j 0 < p) :
    Calls Tryd.prog 26 #[vd, vl, .int .i64 p] w fun e w' => ∃ b : Bool, e = .returned (.bool b) ∧ (b = true ↔ ∀ t, t ≤ k → redN (monL d) n p (k + 1 - n) (monL l) t = 0) ∧ Below w.heap.size w w' := by
  obtain ⟨i3, hi, hz0, hz1, hz2⟩ := info3
  obtain ⟨ad, cd, rfl, hdc⟩ := hd
  obtain ⟨al, cl, rfl, hlc⟩ := hl
  rw [hdl] at hdc ⊢
  rw [hll] at hlc ⊢
  obtain ⟨bd, od, rfl, _⟩ := hdc 0 (by omega)
  obtain ⟨bl, ol, rfl, hl0⟩ := hlc 0 (by omega)
  have hdc' : ∀ j, j < n → w.cell? ⟨bd, od + j, none⟩ = some (.int .i64 (d.getD j 0)) := fun j hj => by
    obtain ⟨b', o', e, hc⟩ := hdc j hj
    simp only [Option.some.injEq, Addr.mk.injEq, and_true] at e
    obtain ⟨rfl, rfl⟩ := e
    exact hc
  clear hdc
  have hbd : bd < w.heap.size := by simpa using block_lt_of_cell (hdc' 0 (by omega))
  have hfin := monL_in (l := l) (p := p) (by omega) (by rw [hll]; exact hlp)
  have hmin := monL_in (l := d) (p := p) (by omega) (by rw [hdl]; exact hdp)
  have hmn := monL_top d
  rw [hdl] at hmn
  have HM : Hid (monL d n = 1) := hmn
  clear hmn
  go_enter Tryd.func26, Tryd.ntmps26
  go_wp2_with (first
    | (at_builtin; refine wpList_append_own _ rfl _ _ 22 rfl w.heap.size 3 i3 (.int .i64 0) 1 8 und22 hi hz0 hz1 hz2 rfl (by decide) _ 0 [] rfl ?c0 ⟨bl, ol, none⟩ k cl (l.map (Value.int .i64)) rfl ?cl ?c1 ?c2 ?c3 ?c4 ?c5 ?_)
    | go_in)
  case c0 => exact World.ownsRow_made w #[] 0 (Nat.le_refl _) (by unfold maxLen; omega) (by simp)
  case cl => simp [hll]
  case c1 =>
    intro j u hj
    simp only [List.getElem?_map, Option.map_eq_some_iff] at hj
    obtain ⟨z, hz, rfl⟩ := hj
    have hjl : j < k := by rw [← hll]; exact (List.getElem?_eq_some_iff.1 hz).1
    obtain ⟨b', o', e, hc⟩ := hlc j hjl
    simp only [Option.some.injEq, Addr.mk.injEq, and_true] at e
    obtain ⟨rfl, rfl⟩ := e
    have : l.getD j 0 = z := by simp [hz]
    rw [this] at hc
    have hx := (((Below.refl _ w).alloc (Nat.le_refl _) (Obj.cells #[] 3)).cell (p := ⟨bl, ol + j, none⟩) (block_lt_of_cell hc)).trans hc
    by_cases e : j = 0
    · subst e; simpa [Addr.add] using hx
    · simpa [Addr.add, e] using hx
  case c2 => intro u hu; simp at hu; obtain ⟨z, _, rfl⟩ := hu; rfl
  case c3 => unfold maxLen; omega
  case c4 => omega
  case c5 => simp
  intro v1 w1 hown1 hgrow1 _
  have hb1 : Below w.heap.size w w1 := ((Below.refl _ _).alloc (Nat.le_refl _) _).grown hgrow1 (by simp) (fun k hk => by simp [Value.ownBlock] at hk; omega)
  have hs1 := hb1.size
  go_wp2_with (first
    | (at_builtin; refine wpList_append_own _ rfl _ _ 22 rfl w.heap.size 3 i3 (.int .i64 0) 1 8 und22 hi hz0 hz1 hz2 rfl (by decide) _ k (l.map (Value.int .i64)) rfl ?c0 ⟨w1.heap.size, 0, none⟩ 1 1 [.int .i64 1] rfl rfl ?c1 ?c2 ?c3 ?c4 ?c5 ?_)
    | go_in)
  case c0 => exact hown1.alloc _
  case c1 =>
    intro j u hj
    match j, hj with
    | 0, hj => simp at hj; subst hj; simp [Addr.add]
  case c2 => intro u hu; simp at hu; subst hu; rfl
  case c3 => unfold maxLen; omega
  case c4 => omega
  case c5 => simp; omega
  intro v2 w2 hown2 hgrow2 _
  have hb2 : Below w.heap.size w w2 := (hb1.alloc hs1 _).grown hgrow2 (by simp; omega) (fun k hk => (hown1.lt k hk).1)
  obtain ⟨g, cap, rfl, hg, hO⟩ := Own.of (l := l ++ [1]) (by simpa using hown2) (by omega)
  have hO' : Own w2 g (k + 1) (monL l) := hO.congr (fun j hj => monL_append l j (by omega))
  clear hO hown2 hown1 hgrow1 hgrow2 hlc hl0
  go_wp2
  go_loopw [10] (fun i wr => ∃ x : Int, i = .int .i64 x ∧ (n : Int) ≤ x + 1 ∧ x ≤ k ∧ ∃ f, Own wr g (k + 1) f ∧ inP p f ∧ Hid (redN (monL d) n p (x + 1 - n).toNat f = redN (monL d) n p (k + 1 - n) (monL l)) ∧ Below w.heap.size w wr) (fun i _ => (intOf i + 1).toNat)
  case atStart =>
    refine ⟨k, rfl, by omega, by omega, monL l, hO', hfin, ?_, hb2⟩
    show redN _ _ _ ((k : Int) + 1 - n).toNat _ = _
    rw [show ((k : Int) + 1 - n).toNat = k + 1 - n by omega]
  case round =>
    obtain ⟨x, rfl, hx1, hx2, f, hr, hf, HR, hb⟩ := hrel
    by_cases hlt : (n : Int) ≤ x
    · obtain ⟨i0, rfl⟩ := Int.eq_ofNat_of_zero_le (show 0 ≤ x by omega)
      have hdec : decide ((n : Int) ≤ i0) = true := by simp; omega
      obtain ⟨b, Hb⟩ : ∃ b : Int, Hid (b = f i0) := ⟨_, rfl⟩
      have hb0 := hf i0
      rw [← Hb.out] at hb0
      have hcb := hr.cell i0 (by omega)
      rw [← Hb.out] at hcb
      have hcfz := hr.frozen i0
      have hik : (i0 : Int) < k + 1 := by omega
      go_wp2
      go_loopw [12] (fun j wr' => ∃ m : Nat, j = .int .i64 m ∧ m ≤ n ∧ Own wr' g (k + 1) (stTo f (monL d) n p i0 m) ∧ Below w.heap.size w wr') (fun j _ => (n - intOf j).toNat)
      case atStart => exact ⟨0, rfl, by omega, (hr.set i0 0).congr (fun j _ => stTo_zero f (monL d) n p i0 j), hb.setCell hg _⟩
      case round =>
        obtain ⟨m, rfl, hm, hr', hb'⟩ := hrel
        by_cases hle : m < n
        · obtain ⟨a, Ha⟩ : ∃ a : Int, Hid (a = f (i0 - n + m)) := ⟨_, rfl⟩
          obtain ⟨c, Hc⟩ : ∃ c : Int, Hid (c = d.getD m 0) := ⟨_, rfl⟩
          have ha0 := hf (i0 - n + m)
          rw [← Ha.out] at ha0
          have hc0 := hdp m hle
          rw [← Hc.out] at hc0
          have hi0 : (0 : Int) ≤ (i0 : Int) - n + m := by omega
          have hi1 : (i0 : Int) - n + m < k + 1 := by omega
          have hca := hr'.cell (i0 - n + m) (by omega)
          rw [stTo_at _ _ _ _ _ _ (by omega) hle, ← Ha.out] at hca
          have hcf := hr'.frozen (i0 - n + m)
          have hcc := (hb'.cell (p := ⟨bd, od + m, none⟩) hbd).trans (hdc' m hle)
          rw [← Hc.out] at hcc
          have hm0 : 0 ≤ b * c := Int.mul_nonneg (by omega) (by omega)
          have hm1 : b * c ≤ 64 * 64 := Int.mul_le_mul (by omega) (by omega) (by omega) (by omega)
          have ht := tmod_bd (a - b * c) p (by omega)
          have ht2 : 0 ≤ (a - b * c).tmod p + p := by omega
          have hdec2 : decide ((m : Int) < n) = true := by simp; omega
          go_wp2
          go_region
          all_goals
            go_wp2
            go_roundw
            case rel =>
              refine ⟨m + 1, by go_num, by omega, (hr'.set (i0 - n + m) _).congr (fun t _ => stTo_succ f (monL d) n p i0 m _ (by omega) hle ?_ t), (hb'.setCell hg _).drew⟩
              rw [tmod_emod, ← Ha.out, ← Hb.out, monL_low d m (by omega), ← Hc.out]
            case measure => simp [intOf]; omega
        · go_wp2
          go_roundw
          case rel =>
            have hfin' : ∃ x : Int, Value.int .i64 ((i0 : Int) - 1) = .int .i64 x ∧ (n : Int) ≤ x + 1 ∧ x ≤ k ∧ ∃ f, Own wr g (k + 1) f ∧ inP p f ∧ Hid (redN (monL d) n p (x + 1 - n).toNat f = redN (monL d) n p (k + 1 - n) (monL l)) ∧ Below w.heap.size w wr := by
              refine ⟨(i0 : Int) - 1, rfl, by omega, by omega, rd f (monL d) n p i0, hr'.congr (fun t _ => ?_), rd_in (by omega) hf, ?_, hb'⟩
              · rw [show m = n by omega]; exact stTo_full f (monL d) n p i0 (by omega) HM.out t
              · show redN (monL d) n p ((i0 : Int) - 1 + 1 - n).toNat (rd f (monL d) n p i0) = _
                rw [← HR.out]
                rw [show ((i0 : Int) + 1 - n).toNat = (i0 - n) + 1 by omega, show ((i0 : Int) - 1 + 1 - n).toNat = i0 - n by omega]
                show _ = redN (monL d) n p (i0 - n) (rd f (monL d) n p (n + (i0 - n)))
                rw [show n + (i0 - n) = i0 by omega]
            first
              | exact hfin'
              | ((repeat apply Exists.intro); exact ⟨hfin', rfl⟩)
          case measure => simp [intOf]
    · have e : (x + 1 - (n : Int)).toNat = 0 := by omega
      have HR' := HR.out
      rw [e] at HR'
      have HF : Hid (f = redN (monL d) n p (k + 1 - n) (monL l)) := HR'
      clear HR HR'
      go_wp2
      go_loopw [13] (fun j wr' => ∃ m : Nat, j = .int .i64 m ∧ m ≤ k + 1 ∧ (∀ t, t < m → f t = 0) ∧ wr' = wr) (fun j _ => (k + 1 - intOf j).toNat)
      case atStart => exact ⟨0, rfl, by omega, fun t ht => by omega, rfl⟩
      case round =>
        obtain ⟨m, rfl, hm, hall, rfl⟩ := hrel
        by_cases hle : m < k + 1
        · have hcm := hr.cell m hle
          have hmi : (m : Int) < k + 1 := by omega
          by_cases h0 : f m = 0
          · have hb00 : (f m != 0) = false := by simp [h0]
            go_wp2
            go_roundw
            case rel =>
              refine ⟨m + 1, by go_num, by omega, fun t ht => ?_, trivial⟩
              by_cases e : t = m
              · subst e; exact h0
              · exact hall t (by omega)
            case measure => simp [intOf]; omega
          · have hb00 : (f m != 0) = true := by simpa using h0
            go_wp2
            go_ret
            refine ⟨false, ret_bool rfl, ⟨fun h => absurd h Bool.false_ne_true, fun h => absurd (h m (by omega)) ?_⟩, hb⟩
            rw [← HF.out]; exact h0
        · go_wp2
          go_ret
          refine ⟨true, ret_bool rfl, ⟨fun _ t ht => ?_, fun _ => rfl⟩, hb⟩
          rw [← HF.out]; exact hall t (by omega)

end Go.Proofs.YtjfjdidibglhaaaDoor.Fd
