/- The walks of turns, root and RootOf: the least element whose powers are all. -/
import Derived.Test.YtogdcjlgddleaaaDoorW25
namespace Go.Proofs.YtogdcjlgddleaaaDoor.Fd
open Go.RowKit

/-- n is the least number of factors a, one or more, whose product is 1. -/
def IsOrd (P K : Nat) (m : Nat → Int) (a n : Nat) : Prop := 1 ≤ n ∧ powQ P K m a n = 1 ∧ ∀ j, 1 ≤ j → j < n → powQ P K m a j ≠ 1
theorem IsOrd.one {P K : Nat} {m : Nat → Int} {a n n' : Nat} (h : IsOrd P K m a n) (h' : IsOrd P K m a n') : n = n' := by
  apply Classical.byContradiction
  intro e
  by_cases hlt : n < n'
  · exact h'.2.2 n h.1 hlt h.2.1
  · exact h.2.2 n' h'.1 (by omega) h'.2.1
/-- r is the least element whose powers are all but 0, or 0 where there is none. -/
def RootIs (P K : Nat) (m : Nat → Int) (r : Nat) : Prop :=
  (1 ≤ r ∧ r < P ^ K ∧ IsOrd P K m r (P ^ K - 1) ∧ ∀ a, 1 ≤ a → a < r → ¬ IsOrd P K m a (P ^ K - 1)) ∨ (r = 0 ∧ ∀ a, 1 ≤ a → a < P ^ K → ¬ IsOrd P K m a (P ^ K - 1))
theorem RootIs.one {P K : Nat} {m : Nat → Int} {r r' : Nat} (h : RootIs P K m r) (h' : RootIs P K m r') : r = r' := by
  rcases h with ⟨h1, h2, h3, h4⟩ | ⟨rfl, h⟩
  · rcases h' with ⟨h1', h2', h3', h4'⟩ | ⟨rfl, h'⟩
    · apply Classical.byContradiction
      intro e
      by_cases hlt : r < r'
      · exact h4' r h1 hlt h3
      · exact h4 r' h1' (by omega) h3'
    · exact absurd h3 (h' r h1 h2)
  · rcases h' with ⟨h1', h2', h3', h4'⟩ | ⟨rfl, h'⟩
    · exact absurd h3' (h r' h1' h2')
    · rfl
theorem RB.cell2 {w : World} {g : Nat} {p k q : Int} {f : Nat → Int} (h : RB w g p k q f) : w.cell? ⟨g, 2, none⟩ = some (.int .i64 q) := cell_of_row w g 2 _ _ _ h

set_option maxHeartbeats 1000000 in
theorem turns_any (P K a : Nat) (Q : Int) (m : Nat → Int) (w : World) (hF : FieldQ P K m) (hP' : P ≤ 64) (hK' : K ≤ 6) (hPK : P ^ K ≤ 64) (ha1 : 1 ≤ a) (ha : a < P ^ K) :
    Calls Tryd.prog 61 #[.agg (ringRow P K Q m), .int .i64 a] w fun e w' => ∃ n : Nat, e = .returned (.int .i64 n) ∧ IsOrd P K m a n ∧ n ≤ P ^ K - 1 ∧ Below w.heap.size w w' := by
  obtain ⟨fs, hu⟩ := und53
  have hR := hF.toRing1
  have hfer := fermat hF ha1 ha
  have HFER : Hid (powQ P K m a (P ^ K - 1) = 1) := hfer
  have h1q := one_lt hR
  clear hfer
  go_enter Tryd.func61, Tryd.ntmps61
  go_wp2
  go_loopw [5, 6] (fun n x wr => ∃ j y : Nat, n = .int .i64 j ∧ x = .int .i64 y ∧ 1 ≤ j ∧ j ≤ P ^ K - 1 ∧ Hid (y = powQ P K m a j) ∧ Hid (∀ i, 1 ≤ i → i < j → powQ P K m a i ≠ 1) ∧ RB wr w.heap.size P K Q m ∧ Below w.heap.size w wr) (fun n _ _ => (P ^ K - 1 - (intOf n).toNat))
  case atStart => exact ⟨1, a, rfl, rfl, by omega, by omega, (powQ_first hR ha).symm, (fun i h1 h2 => by omega : ∀ i, 1 ≤ i → i < 1 → _), RB.made w P K Q m, (Below.refl _ _).alloc (Nat.le_refl _) _⟩
  case round =>
    obtain ⟨j, y, rfl, rfl, hj1, hj2, HY, HN, hRB, hB⟩ := hrel
    have hy : y < P ^ K := by rw [HY.out]; exact powQ_lt hR a j
    by_cases h1 : y = 1
    · subst h1
      go_wp2
      go_ret
      exact ⟨j, rfl, ⟨hj1, HY.out.symm, HN.out⟩, hj2, hB⟩
    · have hb1 : ((y : Int) != 1) = true := by simp; omega
      have hlt : j < P ^ K - 1 := by
        apply Classical.byContradiction
        intro h
        have e : j = P ^ K - 1 := by omega
        apply h1
        rw [HY.out, e]; exact HFER.out
      obtain ⟨s, Hs⟩ : ∃ s, Hid (s = mulQ P K m y a) := ⟨_, rfl⟩
      go_wp2_with (first
        | (refine wpList_load_row rfl 69 _ rfl w.heap.size rfl 69 _ (0, 0) _ hRB hu rfl (inf53 _ _ _ _) ?_))
      refine (mul_Q P K y a Q m _ hR hP' hK' hPK hy ha s Hs).mono ?_
      rintro e w1 ⟨rfl, hb2⟩
      have hRB1 := hRB.below hb2
      have hB1 : Below w.heap.size w w1 := hB.trans (hb2.mono hB.size)
      go_wp2
      go_roundw
      case rel =>
        refine ⟨j + 1, s, by go_num, rfl, by omega, by omega, ?_, (fun i h2 h3 => ?_ : ∀ i, 1 ≤ i → i < j + 1 → _), hRB1, hB1⟩
        · show s = mulQ P K m a (powQ P K m a j)
          rw [Hs.out, HY.out, mulQ_comm hR]
        · by_cases e : i = j
          · subst e; rw [← HY.out]; exact h1
          · exact HN.out i h2 (by omega)
      case measure => simp [intOf]; omega

theorem TimesG (P K a b : Nat) (l : List Int) (v : Value) (w : World) (hl : Sl w v l) (hG : GoodF P K l) (ha : a < P ^ K) (hb : b < P ^ K) (s : Nat) (hs : Hid (s = mulQ P K (monL l) a b)) :
    Calls Tryd.prog 31 #[.agg #[.int .i64 P, .int .i64 K, v], .int .i64 a, .int .i64 b] w fun e w' => e = .returned (.int .i64 s) ∧ Below w.heap.size w w' := by
  have h := timesRef_any P K a b l v w hl hG.len hG.field.two (by have := hG.le61; omega) hG.field.one hG.le6 hG.le64 ha hb hG.field.low hG.field.top
  rw [← mulQ_cast hG.field.toRing1, ← hs.out] at h
  exact h

set_option maxHeartbeats 1000000 in
theorem rootOf_any (P K : Nat) (l : List Int) (v : Value) (w : World) (hl : Sl w v l) (hG : GoodF P K l) :
    Calls Tryd.prog 29 #[.agg #[.int .i64 P, .int .i64 K, v]] w fun e w' => ∃ r : Nat, e = .returned (.int .i64 r) ∧ RootIs P K (monL l) r ∧ Below w.heap.size w w' := by
  obtain ⟨A, ca, rfl, _⟩ := id hl
  have hR := hG.field.toRing1
  have h1q := one_lt hR
  have h64 := hG.le64
  obtain ⟨Q, HQ⟩ : ∃ Q : Nat, Hid (Q = P ^ K) := ⟨_, rfl⟩
  have hoq : ordZ (P : Int) K = (Q : Int) := by rw [hG.ord, HQ.out]
  have hQ1 : 1 < Q := by rw [HQ.out]; exact h1q
  have hQ64 : Q ≤ 64 := by rw [HQ.out]; exact h64
  have hF0 := FB.made w P K (.slice A l.length ca)
  have hB0 : Below w.heap.size w (w.alloc (.cells #[.int .i64 P, .int .i64 K, .slice A l.length ca] 24)) := (Below.refl _ _).alloc (Nat.le_refl _) _
  go_enter Tryd.func29, Tryd.ntmps29
  go_wp2_with fail
  refine (size_any P K _ _).mono ?_
  rintro e w1 ⟨rfl, hb1⟩
  have hF1 := hF0.below hb1
  have hB1 : Below w.heap.size w w1 := hB0.trans (hb1.mono hB0.size)
  clear hF0 hB0 hb1
  go_wp2
  go_loopw [4] (fun i wr => ∃ a : Nat, i = .int .i64 a ∧ 1 ≤ a ∧ a ≤ Q ∧ Hid (∀ b, 1 ≤ b → b < a → ¬ IsOrd P K (monL l) b (P ^ K - 1)) ∧ FB wr w.heap.size P K (.slice A l.length ca) ∧ Below w.heap.size w wr) (fun i _ => (Q - intOf i).toNat)
  case atStart => exact ⟨1, rfl, by omega, by omega, (fun b h1 h2 => by omega : ∀ b, 1 ≤ b → b < 1 → _), hF1, hB1⟩
  case round =>
    clear hF1 hB1
    obtain ⟨a, rfl, ha1, haQ, HA, hF, hB⟩ := hrel
    by_cases hlt : a < Q
    · have ha : a < P ^ K := by rw [← HQ.out]; exact hlt
      have hdec : decide ((a : Int) < Q) = true := by simp; omega
      have HFER : Hid (powQ P K (monL l) a (P ^ K - 1) = 1) := fermat hG.field ha1 ha
      go_wp2
      go_loopw [5, 6] (fun x n wr => ∃ j y : Nat, n = .int .i64 j ∧ x = .int .i64 y ∧ 1 ≤ j ∧ j ≤ Q - 1 ∧ Hid (y = powQ P K (monL l) a j) ∧ Hid (∀ i, 1 ≤ i → i < j → powQ P K (monL l) a i ≠ 1) ∧ FB wr w.heap.size P K (.slice A l.length ca) ∧ Below w.heap.size w wr) (fun _ n _ => (Q - 1 - (intOf n).toNat))
      case atStart => exact ⟨1, a, rfl, rfl, by omega, by omega, (powQ_first hR ha).symm, (fun i h1 h2 => by omega : ∀ i, 1 ≤ i → i < 1 → _), hF, hB⟩
      case round =>
        clear hF hB
        obtain ⟨j, y, rfl, rfl, hj1, hj2, HY, HN, hF, hB⟩ := hrel
        have hFc := hF.cells
        have hy : y < P ^ K := by rw [HY.out]; exact powQ_lt hR a j
        by_cases h1 : y = 1
        · have hord : IsOrd P K (monL l) a j := ⟨hj1, by rw [← HY.out]; exact h1, HN.out⟩
          subst h1
          by_cases hjq : j = Q - 1
          · have hb2 : ((j : Int) == (Q : Int) - 1) = true := by simp; omega
            have HRES : Hid (RootIs P K (monL l) a) := .inl ⟨ha1, ha, by rw [← HQ.out, ← hjq]; exact hord, HA.out⟩
            clear hord hjq
            go_wp2
            go_ret
            exact ⟨a, rfl, HRES.out, hB⟩
          · have hb2 : ((j : Int) == (Q : Int) - 1) = false := by simp; omega
            have HNO : Hid (¬ IsOrd P K (monL l) a (P ^ K - 1)) := fun h => hjq (by rw [HQ.out]; exact hord.one h)
            clear hord
            go_wp2
            go_roundw
            case rel =>
              refine ⟨a + 1, by go_num, by omega, by omega, (fun b h1 h2 => ?_ : ∀ b, 1 ≤ b → b < a + 1 → _), hF, hB⟩
              by_cases e : b = a
              · subst e; exact HNO.out
              · exact HA.out b h1 (by omega)
            case measure => simp [intOf]; omega
        · have hb1 : ((y : Int) != 1) = true := by simp; omega
          have hjlt : j < Q - 1 := by
            apply Classical.byContradiction
            intro h
            have e : j = P ^ K - 1 := by rw [← HQ.out]; omega
            apply h1
            rw [HY.out, e]; exact HFER.out
          have hd2 : decide ((j : Int) < Q) = true := by simp; omega
          obtain ⟨s, Hs⟩ : ∃ s, Hid (s = mulQ P K (monL l) y a) := ⟨_, rfl⟩
          go_wp2_with fail
          refine (TimesG P K y a l _ _ (hl.below hB) hG hy ha s Hs).mono ?_
          rintro e w2 ⟨rfl, hb2⟩
          have hF2 := hF.below hb2
          have hB2 : Below w.heap.size w w2 := hB.trans (hb2.mono hB.size)
          go_wp2
          go_roundw
          case rel =>
            refine ⟨j + 1, s, by go_num, rfl, by omega, by omega, ?_, (fun i h2 h3 => ?_ : ∀ i, 1 ≤ i → i < j + 1 → _), hF2, hB2⟩
            · show s = mulQ P K (monL l) a (powQ P K (monL l) a j)
              rw [Hs.out, HY.out, mulQ_comm hR]
            · by_cases e : i = j
              · subst e; rw [← HY.out]; exact h1
              · exact HN.out i h2 (by omega)
          case measure => simp [intOf]; omega
    · go_wp2
      go_ret
      exact ⟨0, rfl, .inr ⟨rfl, fun b h1 h2 => HA.out b h1 (by rw [← HQ.out] at h2; omega)⟩, hB⟩

end Go.Proofs.YtogdcjlgddleaaaDoor.Fd
