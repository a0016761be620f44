/- The walk of SquaresOf of the document's answer. -/
import Derived.Test.YtgbkfkhjfbkidaaDoorW38a
namespace Go.Proofs.YtgbkfkhjfbkidaaDoor
open Go.RowKit

theorem foundTo_mono {P K : Nat} {m : Nat → Int} {a b j : Nat} (h : a ≤ b) (hf : foundTo P K m a j = true) : foundTo P K m b j = true := by
  unfold foundTo at *
  rw [List.any_eq_true] at *
  obtain ⟨x, hx, h2⟩ := hf
  exact ⟨x, by simp at *; omega, h2⟩

theorem owned_below {w w' : World} {base n : Nat} {v : Value} {xs : List Value} (h : w.ownsRow base 3 1 v n xs) (hb : Below w.heap.size w w') : w'.ownsRow base 3 1 v n xs :=
  h.kept (row := none) ⟨hb.os, hb.tape, hb.output, hb.size, fun k hk _ => hb.block k hk⟩ (by
    cases hv : v.ownBlock with
    | none => exact .inl rfl
    | some k => exact .inr (by simp))

set_option maxHeartbeats 1000000 in
theorem squaresOf_any (P K : Nat) (l : List Int) (v : Value) (w : World) (hl : Sl w v l) (hG : GoodF P K l) :
    Calls Tryd.prog 14 #[.agg #[.int .i64 P, .int .i64 K, v]] w fun e w' => ∃ u, e = .returned u ∧ Sl w' u (sqTo P K (monL l) (P ^ K)) ∧ Below w.heap.size w w' := by
  obtain ⟨i3, hi, hz0, hz1, hz2⟩ := info3
  obtain ⟨A, ca, rfl, _⟩ := id hl
  have hR := hG.field.toRing1
  have h1q := one_lt hR
  have h64 := hG.le64
  obtain ⟨Q, HQ⟩ : ∃ Q : Nat, Hid (Q = P ^ K) := ⟨_, rfl⟩
  have hoq : ordZ (P : Int) K = (Q : Int) := by rw [hG.ord, HQ.out]
  have hQ1 : 1 < Q := by rw [HQ.out]; exact h1q
  have hQ64 : Q ≤ 64 := by rw [HQ.out]; exact h64
  have hF0 := FB.made w P K (.slice A l.length ca)
  have hB0 : Below w.heap.size w (w.alloc (.cells #[.int .i64 P, .int .i64 K, .slice A l.length ca] 24)) := (Below.refl _ _).alloc (Nat.le_refl _) _
  go_enter Tryd.func14, Tryd.ntmps14
  go_wp2_with fail
  refine (size_any P K _ _).mono ?_
  rintro e w1 ⟨rfl, hb1⟩
  have hF1 := hF0.below hb1
  have hB1 : Below w.heap.size w w1 := hB0.trans (hb1.mono hB0.size)
  clear hF0 hB0 hb1
  go_wp2
  go_loopw [4, 5] (fun o i wr => ∃ a : Nat, i = .int .i64 a ∧ 1 ≤ a ∧ a ≤ Q ∧ wr.ownsRow (w.heap.size + 1) 3 1 o (sqTo P K (monL l) a).length ((sqTo P K (monL l) a).map (Value.int .i64)) ∧ FB wr w.heap.size P K (.slice A l.length ca) ∧ Below w.heap.size w wr) (fun _ i _ => (Q - intOf i).toNat)
  case atStart =>
    refine ⟨1, rfl, by omega, by omega, ?_, hF1, hB1⟩
    rw [sqTo_one hG.field]; exact World.ownsRow_nil _ _ _ _
  case round =>
    clear hF1 hB1
    obtain ⟨a, rfl, ha1, haQ, hown, hF, hB⟩ := hrel
    by_cases hlt : a < Q
    · have ha : a < P ^ K := by rw [← HQ.out]; exact hlt
      have hdec : decide ((a : Int) < Q) = true := by simp; omega
      go_wp2
      go_loopw [6, 7] (fun s i wr => ∃ (b : Nat) (t : Bool), i = .int .i64 b ∧ s = .bool t ∧ 1 ≤ b ∧ b ≤ Q ∧ Hid (t = foundTo P K (monL l) b a) ∧ wr.ownsRow (w.heap.size + 1) 3 1 u4 (sqTo P K (monL l) a).length ((sqTo P K (monL l) a).map (Value.int .i64)) ∧ FB wr w.heap.size P K (.slice A l.length ca) ∧ Below w.heap.size w wr) (fun _ i _ => (Q - intOf i).toNat)
      case atStart => exact ⟨1, false, rfl, rfl, by omega, by omega, (foundTo_one a).symm, hown, hF, hB⟩
      case round =>
        clear hown hF hB
        obtain ⟨b, t, rfl, rfl, hb1, hbQ, HT, hown, hF, hB⟩ := hrel
        have hFc := hF.cells
        have hbz := hB.size
        have hFl := hF.lt
        by_cases hgo : b < Q ∧ t = false
        · obtain ⟨hbq, rfl⟩ := hgo
          have hb : b < P ^ K := by rw [← HQ.out]; exact hbq
          have hdec2 : decide ((b : Int) < Q) = true := by simp; omega
          obtain ⟨s, Hs⟩ : ∃ s, Hid (s = mulQ P K (monL l) b b) := ⟨_, rfl⟩
          go_wp2_with fail
          refine (TimesG P K b b l _ _ (hl.below hB) hG hb hb s Hs).mono ?_
          rintro e w2 ⟨rfl, hb2⟩
          have hF2 := hF.below hb2
          have hB2 : Below w.heap.size w w2 := hB.trans (hb2.mono hB.size)
          have hown2 : w2.ownsRow (w.heap.size + 1) 3 1 u4 (sqTo P K (monL l) a).length ((sqTo P K (monL l) a).map (Value.int .i64)) := owned_below hown hb2
          have HT2 : Hid ((s == a) = foundTo P K (monL l) (b + 1) a) := by
            show (s == a) = foundTo P K (monL l) (b + 1) a
            rw [foundTo_succ b a hb1, ← HT.out, ← Hs.out]; simp
          by_cases hsa : s = a
          · have hbs : ((s : Int) == (a : Int)) = true := by simp; omega
            have HX : Hid (true = foundTo P K (monL l) (b + 1) a) := by
              show true = foundTo P K (monL l) (b + 1) a
              rw [← HT2.out]; simp [hsa]
            clear hsa
            go_wp2
            go_roundw
            case rel => exact ⟨b + 1, true, by go_num, rfl, by omega, by omega, HX, hown2, hF2, hB2⟩
            case measure => simp [intOf]; omega
          · have hbs : ((s : Int) == (a : Int)) = false := by simp; omega
            have HX : Hid (false = foundTo P K (monL l) (b + 1) a) := by
              show false = foundTo P K (monL l) (b + 1) a
              rw [← HT2.out]; simp [hsa]
            go_wp2
            go_roundw
            case rel => exact ⟨b + 1, false, by go_num, rfl, by omega, by omega, HX, hown2, hF2, hB2⟩
            case measure => simp [intOf]; omega
        · have HE : Hid (t = isSq P K (monL l) a) := by
            show t = foundTo P K (monL l) (P ^ K) a
            cases ht : t
            · have hbq : b = Q := by
                apply Classical.byContradiction
                intro h
                exact hgo ⟨by omega, ht⟩
              rw [← ht, HT.out, hbq, HQ.out]
            · rw [ht] at HT
              exact (foundTo_mono (by rw [← HQ.out]; exact hbQ) HT.out.symm).symm
          have hsq := sqTo_len (P := P) (K := K) (m := monL l) a
          cases t
          · have HL : Hid (sqTo P K (monL l) (a + 1) = sqTo P K (monL l) a) := sqTo_no a HE.out.symm
            have hbq : ¬ b < Q := fun h => hgo ⟨h, rfl⟩
            have hdec2 : decide ((b : Int) < Q) = false := by simp; omega
            go_wp2
            go_roundw
            case rel =>
              refine ⟨a + 1, by go_num, by omega, by omega, ?_, hF, hB⟩
              rw [HL.out]; exact hown
            case measure => simp [intOf]; omega
          · have HL : Hid (sqTo P K (monL l) (a + 1) = sqTo P K (monL l) a ++ [(a : Int)]) := sqTo_yes a HE.out.symm
            by_cases hbq : b < Q
            · have hdec2 : decide ((b : Int) < Q) = true := by simp; omega
              go_wp2_with (first
                | (at_builtin; refine wpList_append_own _ rfl _ _ 22 rfl (w.heap.size + 1) 3 i3 (.int .i64 0) 1 8 und22 hi hz0 hz1 hz2 rfl (by decide) _ _ _ rfl (hown.alloc _) ⟨wr.heap.size, 0, none⟩ 1 1 [.int .i64 (a : Int)] rfl rfl ?c1 ?c2 ?c3 ?c4 ?c5 ?_)
                | go_in)
              case c1 =>
                intro j u hj
                match j, hj with
                | 0, hj => simp at hj; subst hj; simp [Addr.add]
              case c2 => intro u hu; simp at hu; subst hu; rfl
              case c3 => unfold maxLen; omega
              case c4 => omega
              case c5 => simp; omega
              · intro v' w3 hown' hgrow _
                have hB3 : Below w.heap.size w w3 := (hB.alloc hbz _).grown hgrow (by simp; omega) (fun k hk => by have := (hown.lt k hk).1; omega)
                have hF3 : FB w3 w.heap.size P K (.slice A l.length ca) := by
                  have h1 := hF.below ((Below.refl _ wr).alloc (Nat.le_refl _) (.cells #[.int .i64 (a : Int)] 3))
                  exact (hgrow.block _ h1.lt (by intro e; have := (hown.lt _ e.symm).1; omega)).trans h1
                go_wp2
                go_roundw
                case rel =>
                  refine ⟨a + 1, by go_num, by omega, by omega, ?_, hF3, hB3⟩
                  rw [HL.out, List.map_append, List.length_append]; exact hown'
                case measure => simp [intOf]; omega
            · have hdec2 : decide ((b : Int) < Q) = false := by simp; omega
              go_wp2_with (first
                | (at_builtin; refine wpList_append_own _ rfl _ _ 22 rfl (w.heap.size + 1) 3 i3 (.int .i64 0) 1 8 und22 hi hz0 hz1 hz2 rfl (by decide) _ _ _ rfl (hown.alloc _) ⟨wr.heap.size, 0, none⟩ 1 1 [.int .i64 (a : Int)] rfl rfl ?c1 ?c2 ?c3 ?c4 ?c5 ?_)
                | go_in)
              case c1 =>
                intro j u hj
                match j, hj with
                | 0, hj => simp at hj; subst hj; simp [Addr.add]
              case c2 => intro u hu; simp at hu; subst hu; rfl
              case c3 => unfold maxLen; omega
              case c4 => omega
              case c5 => simp; omega
              · intro v' w3 hown' hgrow _
                have hB3 : Below w.heap.size w w3 := (hB.alloc hbz _).grown hgrow (by simp; omega) (fun k hk => by have := (hown.lt k hk).1; omega)
                have hF3 : FB w3 w.heap.size P K (.slice A l.length ca) := by
                  have h1 := hF.below ((Below.refl _ wr).alloc (Nat.le_refl _) (.cells #[.int .i64 (a : Int)] 3))
                  exact (hgrow.block _ h1.lt (by intro e; have := (hown.lt _ e.symm).1; omega)).trans h1
                go_wp2
                go_roundw
                case rel =>
                  refine ⟨a + 1, by go_num, by omega, by omega, ?_, hF3, hB3⟩
                  rw [HL.out, List.map_append, List.length_append]; exact hown'
                case measure => simp [intOf]; omega
    · go_wp2
      go_ret
      refine ⟨_, rfl, ?_, hB⟩
      have e : a = P ^ K := by rw [← HQ.out]; omega
      rw [← e]
      exact Sl.owned hown

end Go.Proofs.YtgbkfkhjfbkidaaDoor
