/- The walks of Check, Root and Squares. -/
import Derived.Test.YtlmjlffipinjiabDoorW24
import Derived.Test.YtlmjlffipinjiabDoorAlgG
/- The walk of root. -/
/- The walks of turns, root and RootOf: the least element whose powers are all. -/
/- The walk of Pow on a true field. -/
namespace Go.Proofs.YtlmjlffipinjiabDoor.Fd
open Go.RowKit

set_option maxRecDepth 100000 in
set_option maxHeartbeats 1000000 in
theorem PowG (P K a : Nat) (n : Int) (l : List Int) (v : Value) (w : World) (hT : Tab w) (hl : Sl w v l) (hll : l.length ≤ maxLen) (hG : GoodF P K l) (ha : a < P ^ K) (hn : 0 ≤ n) (hn' : n ≤ 9223372036854775807) (s : Nat) (hs : Hid (s = powQ P K (monL l) a n.toNat)) :
    Calls Tryd.prog 76 #[.agg #[.int .i64 P, .int .i64 K, v], .int .i64 a, .int .i64 n] w fun e w' => e = .returned (.tuple #[.int .i64 s, .int .i64 0]) ∧ Below w.heap.size w w' := by
  obtain ⟨A, ca, rfl, _⟩ := id hl
  have hbx : Below w.heap.size w ((w.alloc (.cells #[.int .i64 P, .int .i64 K, .slice A l.length ca] 24)).alloc (.cells #[.int .i64 a] 3)) := ((Below.refl _ _).alloc (Nat.le_refl _) _).alloc (by simp) _
  have hpair := sl_one (w.alloc (.cells #[.int .i64 P, .int .i64 K, .slice A l.length ca] 24)) a
  simp only [World.size_alloc] at hpair
  obtain ⟨fs, hu⟩ := und53
  go_enter Tryd.func76, Tryd.ntmps76
  go_wp2_with fail
  refine (open_any P K l [(a : Int)] _ _ _ (hT.below hbx) (hl.below hbx) hpair hll (by simp [maxLen])).mono ?_
  rintro e w1 ⟨z, x, y, c, f, rfl, hO, HZ, hb1⟩
  have hB1 : Below w.heap.size w w1 := hbx.trans (hb1.mono hbx.size)
  obtain rfl := open_in hG.fault (in_one hG ha) hO
  obtain ⟨rfl, rfl, rfl, rfl⟩ := HZ.out rfl
  have hnew : RB (w1.alloc (.cells #[.int .i64 0, .int .i64 0, .int .i64 0, .int .i64 0, .int .i64 0, .int .i64 0, .int .i64 0, .int .i64 0, .int .i64 0, .int .i64 0, .int .i64 0, .int .i64 0, .int .i64 0, .int .i64 0] 103)) w1.heap.size 0 0 0 (fun _ => 0) := RB.made w1 0 0 0 (fun _ => 0)
  have hRB := hnew.whole P K (ordZ (P : Int) K) (monL l)
  have hBA : Below w.heap.size w ((w1.alloc (.cells #[.int .i64 0, .int .i64 0, .int .i64 0, .int .i64 0, .int .i64 0, .int .i64 0, .int .i64 0, .int .i64 0, .int .i64 0, .int .i64 0, .int .i64 0, .int .i64 0, .int .i64 0, .int .i64 0] 103)).setRow w1.heap.size (ringRow P K (ordZ (P : Int) K) (monL l))) := bsetRow (hB1.alloc hB1.size _) hB1.size _
  clear hpair hO HZ
  go_wp2_with (first
    | (refine wpList_store_row rfl 103 _ _ rfl w1.heap.size _ rfl rfl 103 _ hnew (inf53 _ _ _ _) rfl (ringRow_one _ _ _ _) ?_)
    | (refine wpList_load_row rfl 103 _ rfl w1.heap.size rfl 103 _ (0, 0) _ hRB hu rfl (inf53 _ _ _ _) ?_))
  refine (pow_any P K a n _ (monL l) _ hG.field.toRing1 (by have := hG.le61; omega) hG.le6 hG.le64 ha hn hn' s hs).mono ?_
  rintro e w2 ⟨rfl, hb2⟩
  go_wp2
  go_ret2
  exact ⟨rfl, hBA.trans (hb2.mono hBA.size)⟩

theorem good_frob {P K : Nat} {l : List Int} (hG : GoodF P K l) {a b : Nat} (ha : a < P ^ K) (hb : b < P ^ K) : powQ P K (monL l) (addQ P K a b) P = addQ P K (powQ P K (monL l) a P) (powQ P K (monL l) b P) := by
  obtain ⟨h0, h1, h2, h3⟩ := hG.fault.ok
  rw [Int.toNat_natCast, Int.toNat_natCast] at h3
  exact frobenius (ord_parts h0).1 hG.field.one hG.le64 hG.len h2 h3 hG.field.toRing1 ha hb

end Go.Proofs.YtlmjlffipinjiabDoor.Fd

namespace Go.Proofs.YtlmjlffipinjiabDoor.Fd
open Go.RowKit

/-- n is the least number of factors a, one or more, whose product is 1. -/
def IsOrd (P K : Nat) (m : Nat → Int) (a n : Nat) : Prop := 1 ≤ n ∧ powQ P K m a n = 1 ∧ ∀ j, 1 ≤ j → j < n → powQ P K m a j ≠ 1
theorem IsOrd.one {P K : Nat} {m : Nat → Int} {a n n' : Nat} (h : IsOrd P K m a n) (h' : IsOrd P K m a n') : n = n' := by
  apply Classical.byContradiction
  intro e
  by_cases hlt : n < n'
  · exact h'.2.2 n h.1 hlt h.2.1
  · exact h.2.2 n' h'.1 (by omega) h'.2.1
/-- r is the least element whose powers are all but 0, or 0 where there is none. -/
def RootIs (P K : Nat) (m : Nat → Int) (r : Nat) : Prop :=
  (1 ≤ r ∧ r < P ^ K ∧ IsOrd P K m r (P ^ K - 1) ∧ ∀ a, 1 ≤ a → a < r → ¬ IsOrd P K m a (P ^ K - 1)) ∨ (r = 0 ∧ ∀ a, 1 ≤ a → a < P ^ K → ¬ IsOrd P K m a (P ^ K - 1))
theorem RootIs.one {P K : Nat} {m : Nat → Int} {r r' : Nat} (h : RootIs P K m r) (h' : RootIs P K m r') : r = r' := by
  rcases h with ⟨h1, h2, h3, h4⟩ | ⟨rfl, h⟩
  · rcases h' with ⟨h1', h2', h3', h4'⟩ | ⟨rfl, h'⟩
    · apply Classical.byContradiction
      intro e
      by_cases hlt : r < r'
      · exact h4' r h1 hlt h3
      · exact h4 r' h1' (by omega) h3'
    · exact absurd h3 (h' r h1 h2)
  · rcases h' with ⟨h1', h2', h3', h4'⟩ | ⟨rfl, h'⟩
    · exact absurd h3' (h r' h1' h2')
    · rfl
theorem RB.cell2 {w : World} {g : Nat} {p k q : Int} {f : Nat → Int} (h : RB w g p k q f) : w.cell? ⟨g, 2, none⟩ = some (.int .i64 q) := cell_of_row w g 2 _ _ _ h

set_option maxRecDepth 100000 in
set_option maxHeartbeats 1000000 in
theorem turns_any (P K a : Nat) (Q : Int) (m : Nat → Int) (w : World) (hF : FieldQ P K m) (hP' : P ≤ 64) (hK' : K ≤ 6) (hPK : P ^ K ≤ 64) (ha1 : 1 ≤ a) (ha : a < P ^ K) :
    Calls Tryd.prog 96 #[.agg (ringRow P K Q m), .int .i64 a] w fun e w' => ∃ n : Nat, e = .returned (.int .i64 n) ∧ IsOrd P K m a n ∧ n ≤ P ^ K - 1 ∧ Below w.heap.size w w' := by
  obtain ⟨fs, hu⟩ := und53
  have hR := hF.toRing1
  have hfer := fermat hF ha1 ha
  have HFER : Hid (powQ P K m a (P ^ K - 1) = 1) := hfer
  have h1q := one_lt hR
  clear hfer
  go_enter Tryd.func96, Tryd.ntmps96
  go_wp2
  go_loopw [5, 6] (fun n x wr => ∃ j y : Nat, n = .int .i64 j ∧ x = .int .i64 y ∧ 1 ≤ j ∧ j ≤ P ^ K - 1 ∧ Hid (y = powQ P K m a j) ∧ Hid (∀ i, 1 ≤ i → i < j → powQ P K m a i ≠ 1) ∧ RB wr w.heap.size P K Q m ∧ Below w.heap.size w wr) (fun n _ _ => (P ^ K - 1 - (intOf n).toNat))
  case atStart => exact ⟨1, a, rfl, rfl, by omega, by omega, (powQ_first hR ha).symm, (fun i h1 h2 => by omega : ∀ i, 1 ≤ i → i < 1 → _), RB.made w P K Q m, (Below.refl _ _).alloc (Nat.le_refl _) _⟩
  case round =>
    obtain ⟨j, y, rfl, rfl, hj1, hj2, HY, HN, hRB, hB⟩ := hrel
    have hy : y < P ^ K := by rw [HY.out]; exact powQ_lt hR a j
    by_cases h1 : y = 1
    · subst h1
      go_wp2
      go_ret
      exact ⟨j, rfl, ⟨hj1, HY.out.symm, HN.out⟩, hj2, hB⟩
    · have hb1 : ((y : Int) != 1) = true := by simp; omega
      have hlt : j < P ^ K - 1 := by
        apply Classical.byContradiction
        intro h
        have e : j = P ^ K - 1 := by omega
        apply h1
        rw [HY.out, e]; exact HFER.out
      obtain ⟨s, Hs⟩ : ∃ s, Hid (s = mulQ P K m y a) := ⟨_, rfl⟩
      go_wp2_with (first
        | (refine wpList_load_row rfl 103 _ rfl w.heap.size rfl 103 _ (0, 0) _ hRB hu rfl (inf53 _ _ _ _) ?_))
      refine (mul_Q P K y a Q m _ hR hP' hK' hPK hy ha s Hs).mono ?_
      rintro e w1 ⟨rfl, hb2⟩
      have hRB1 := hRB.below hb2
      have hB1 : Below w.heap.size w w1 := hB.trans (hb2.mono hB.size)
      go_wp2
      go_roundw
      case rel =>
        refine ⟨j + 1, s, by go_num, rfl, by omega, by omega, ?_, (fun i h2 h3 => ?_ : ∀ i, 1 ≤ i → i < j + 1 → _), hRB1, hB1⟩
        · show s = mulQ P K m a (powQ P K m a j)
          rw [Hs.out, HY.out, mulQ_comm hR]
        · by_cases e : i = j
          · subst e; rw [← HY.out]; exact h1
          · exact HN.out i h2 (by omega)
      case measure => simp [intOf]; omega

end Go.Proofs.YtlmjlffipinjiabDoor.Fd

namespace Go.Proofs.YtlmjlffipinjiabDoor.Fd
open Go.RowKit

theorem RB.all {w W : World} {P K Q : Int} {m : Nat → Int} (h : RB W w.heap.size P K Q m) (hB : Below w.heap.size w W) : W.cell? ⟨w.heap.size, 0, none⟩ = some (.int .i64 P) ∧ W.cell? ⟨w.heap.size, 1, none⟩ = some (.int .i64 K) ∧ W.cell? ⟨w.heap.size, 2, none⟩ = some (.int .i64 Q) ∧ W.cell? ⟨w.heap.size, 3, none⟩ = some (.int .i64 (m 0)) ∧ W.cell? ⟨w.heap.size, 4, none⟩ = some (.int .i64 (m 1)) ∧ W.cell? ⟨w.heap.size, 5, none⟩ = some (.int .i64 (m 2)) ∧ W.cell? ⟨w.heap.size, 6, none⟩ = some (.int .i64 (m 3)) ∧ W.cell? ⟨w.heap.size, 7, none⟩ = some (.int .i64 (m 4)) ∧ W.cell? ⟨w.heap.size, 8, none⟩ = some (.int .i64 (m 5)) ∧ W.cell? ⟨w.heap.size, 9, none⟩ = some (.int .i64 (m 6)) ∧ W.cell? ⟨w.heap.size, 10, none⟩ = some (.int .i64 (m 7)) ∧ W.cell? ⟨w.heap.size, 11, none⟩ = some (.int .i64 (m 8)) ∧ W.cell? ⟨w.heap.size, 12, none⟩ = some (.int .i64 (m 9)) ∧ W.cell? ⟨w.heap.size, 13, none⟩ = some (.int .i64 (m 10)) ∧ Below w.heap.size w W :=
  ⟨(cell_of_row W w.heap.size 0 _ _ _ h), (cell_of_row W w.heap.size 1 _ _ _ h), (cell_of_row W w.heap.size 2 _ _ _ h), (cell_of_row W w.heap.size 3 _ _ _ h), (cell_of_row W w.heap.size 4 _ _ _ h), (cell_of_row W w.heap.size 5 _ _ _ h), (cell_of_row W w.heap.size 6 _ _ _ h), (cell_of_row W w.heap.size 7 _ _ _ h), (cell_of_row W w.heap.size 8 _ _ _ h), (cell_of_row W w.heap.size 9 _ _ _ h), (cell_of_row W w.heap.size 10 _ _ _ h), (cell_of_row W w.heap.size 11 _ _ _ h), (cell_of_row W w.heap.size 12 _ _ _ h), (cell_of_row W w.heap.size 13 _ _ _ h), hB⟩

set_option maxRecDepth 100000 in
set_option maxHeartbeats 1000000 in
theorem root_any (P K q : Nat) (m : Nat → Int) (w : World) (hF : FieldQ P K m) (hP' : P ≤ 64) (hK' : K ≤ 6) (hPK : P ^ K ≤ 64) (HQ : Hid (q = P ^ K)) :
    Calls Tryd.prog 91 #[.agg (ringRow P K q m)] w fun e w' => ∃ r : Nat, e = .returned (.int .i64 r) ∧ RootIs P K m r ∧ Below w.heap.size w w' := by
  have hR := hF.toRing1
  have hq1 : 1 < q := by rw [HQ.out]; exact one_lt hR
  have hq64 : q ≤ 64 := by rw [HQ.out]; exact hPK
  go_enter Tryd.func91, Tryd.ntmps91
  go_wp2
  go_loopw [3] (fun i wr => ∃ a : Nat, i = .int .i64 a ∧ 1 ≤ a ∧ a ≤ q ∧ Hid (∀ b, 1 ≤ b → b < a → ¬ IsOrd P K m b (P ^ K - 1)) ∧ RB wr w.heap.size P K q m ∧ Below w.heap.size w wr) (fun i _ => (q - intOf i).toNat)
  case atStart => exact ⟨1, rfl, by omega, by omega, (fun b h1 h2 => by omega : ∀ b, 1 ≤ b → b < 1 → _), RB.made w P K q m, (Below.refl _ _).alloc (Nat.le_refl _) _⟩
  case round =>
    obtain ⟨a, rfl, ha1, haq, HA, hRB, hB⟩ := hrel
    have hc2 := hRB.cell2
    by_cases hlt : a < q
    · have ha : a < P ^ K := by rw [← HQ.out]; exact hlt
      have hdec : decide ((a : Int) < q) = true := by simp; omega
      have hwr : IntKind.i64.wrap ((q : Int) - 1) = (q : Int) - 1 := by rw [IntKind.wrap_i64]; omega
      have hSt := RB.all hRB.drew hB.drew
      go_wp2
      go_region_held3 (fun w' => w'.cell? ⟨w.heap.size, 0, none⟩ = some (.int .i64 P) ∧ w'.cell? ⟨w.heap.size, 1, none⟩ = some (.int .i64 K) ∧ w'.cell? ⟨w.heap.size, 2, none⟩ = some (.int .i64 q) ∧ w'.cell? ⟨w.heap.size, 3, none⟩ = some (.int .i64 (m 0)) ∧ w'.cell? ⟨w.heap.size, 4, none⟩ = some (.int .i64 (m 1)) ∧ w'.cell? ⟨w.heap.size, 5, none⟩ = some (.int .i64 (m 2)) ∧ w'.cell? ⟨w.heap.size, 6, none⟩ = some (.int .i64 (m 3)) ∧ w'.cell? ⟨w.heap.size, 7, none⟩ = some (.int .i64 (m 4)) ∧ w'.cell? ⟨w.heap.size, 8, none⟩ = some (.int .i64 (m 5)) ∧ w'.cell? ⟨w.heap.size, 9, none⟩ = some (.int .i64 (m 6)) ∧ w'.cell? ⟨w.heap.size, 10, none⟩ = some (.int .i64 (m 7)) ∧ w'.cell? ⟨w.heap.size, 11, none⟩ = some (.int .i64 (m 8)) ∧ w'.cell? ⟨w.heap.size, 12, none⟩ = some (.int .i64 (m 9)) ∧ w'.cell? ⟨w.heap.size, 13, none⟩ = some (.int .i64 (m 10)) ∧ Below w.heap.size w w') (assumption)
        (first
          | (go_at_call 96; refine (turns_any P K a q m _ hF hP' hK' hPK ha1 ha).mono ?_; rintro e w1 ⟨n, rfl, hord, hnq, hb1⟩; have hRB1 := hRB.drew.below hb1; have hB1 : Below w.heap.size w w1 := hB.drew.trans (hb1.mono hB.drew.size); have hS1 := RB.all hRB1 hB1))
      all_goals
        by_cases hn : n = q - 1
        · have hbn : ((n : Int) == (q : Int) - 1) = true := by simp; omega
          have HRES : Hid (RootIs P K m a) := .inl ⟨ha1, ha, by rw [← HQ.out, ← hn]; exact hord, HA.out⟩
          go_wp2
          go_ret
          exact ⟨a, rfl, HRES.out, hB1⟩
        · have hbn : ((n : Int) == (q : Int) - 1) = false := by simp; omega
          have HNO : Hid (¬ IsOrd P K m a (P ^ K - 1)) := fun h => hn (by rw [HQ.out]; exact hord.one h)
          go_wp2
          go_roundw
          case rel =>
            have hfin : ∃ a' : Nat, Value.int .i64 ((a : Int) + 1) = .int .i64 a' ∧ 1 ≤ a' ∧ a' ≤ q ∧ Hid (∀ b, 1 ≤ b → b < a' → ¬ IsOrd P K m b (P ^ K - 1)) ∧ RB w1 w.heap.size P K q m ∧ Below w.heap.size w w1 := by
              refine ⟨a + 1, by go_num, by omega, by omega, (fun b h1 h2 => ?_ : ∀ b, 1 ≤ b → b < a + 1 → _), hRB1, hB1⟩
              by_cases e : b = a
              · subst e; exact HNO.out
              · exact HA.out b h1 (by omega)
            first
              | exact hfin
              | ((repeat apply Exists.intro); exact ⟨hfin, rfl⟩)
          case measure => simp [intOf]; omega
    · go_wp2
      go_ret
      exact ⟨0, rfl, .inr ⟨rfl, fun b h1 h2 => HA.out b h1 (by rw [← HQ.out] at h2; omega)⟩, hB⟩

end Go.Proofs.YtlmjlffipinjiabDoor.Fd

/- One bool of a row of 64. -/
/- The walks of squares and SquaresOf. -/
namespace Go.Proofs.YtlmjlffipinjiabDoor.Fd
open Go.RowKit

section
variable {P K : Nat} {m : Nat → Int}
/-- Is a number the square of an element but 0, of those below a bound? -/
def foundTo (P K : Nat) (m : Nat → Int) (a j : Nat) : Bool := (List.range a).any fun b => decide (1 ≤ b) && mulQ P K m b b == j
def isSq (P K : Nat) (m : Nat → Int) (j : Nat) : Bool := foundTo P K m (P ^ K) j
theorem foundTo_succ (a j : Nat) (ha : 1 ≤ a) : foundTo P K m (a + 1) j = (foundTo P K m a j || mulQ P K m a a == j) := by
  unfold foundTo
  rw [List.range_succ, List.any_append]
  simp [ha]
theorem foundTo_one (j : Nat) : foundTo P K m 1 j = false := by simp [foundTo, List.range, List.range.loop]
/-- The squares below a bound, rising. -/
def sqTo (P K : Nat) (m : Nat → Int) (a : Nat) : List Int := ((List.range a).filter (isSq P K m)).map fun n : Nat => (n : Int)
theorem sqTo_yes (a : Nat) (h : isSq P K m a = true) : sqTo P K m (a + 1) = sqTo P K m a ++ [(a : Int)] := by
  unfold sqTo; rw [List.range_succ, List.filter_append]; simp [h]
theorem sqTo_no (a : Nat) (h : isSq P K m a = false) : sqTo P K m (a + 1) = sqTo P K m a := by
  unfold sqTo; rw [List.range_succ, List.filter_append]; simp [h]
theorem sqTo_len (a : Nat) : (sqTo P K m a).length ≤ a := by
  unfold sqTo; rw [List.length_map]
  exact Nat.le_trans (List.length_filter_le _ _) (by simp)
theorem isSq_lt (hR : Ring1 P K m) {j : Nat} (h : isSq P K m j = true) : j < P ^ K := by
  unfold isSq foundTo at h
  rw [List.any_eq_true] at h
  obtain ⟨b, _, h⟩ := h
  simp only [Bool.and_eq_true, beq_iff_eq] at h
  rw [← h.2]; exact mulQ_lt hR b b
theorem mulQ_ne_zero (hF : FieldQ P K m) {a : Nat} (h1 : 1 ≤ a) (ha : a < P ^ K) : mulQ P K m a a ≠ 0 := by
  intro h
  have hR := hF.toRing1
  have hi := inv_ok hF h1 ha
  have h2 : mulQ P K m (powQ P K m a (P ^ K - 2)) (mulQ P K m a a) = a := by
    rw [← mulQ_assoc hR, mulQ_comm hR (powQ P K m a (P ^ K - 2)) a, hi, one_mulQ hR ha]
  rw [h, mulQ_zero hR] at h2
  omega
theorem isSq_zero (hF : FieldQ P K m) : isSq P K m 0 = false := by
  rw [Bool.eq_false_iff]
  intro h
  unfold isSq foundTo at h
  rw [List.any_eq_true] at h
  obtain ⟨b, hb, h⟩ := h
  simp only [Bool.and_eq_true, beq_iff_eq, decide_eq_true_eq] at h
  exact mulQ_ne_zero hF h.1 (by simpa using hb) h.2
theorem sqTo_more (hR : Ring1 P K m) : ∀ d, sqTo P K m (P ^ K + d) = sqTo P K m (P ^ K)
  | 0 => rfl
  | d + 1 => by
    rw [show P ^ K + (d + 1) = (P ^ K + d) + 1 by omega, sqTo_no _ (by rw [Bool.eq_false_iff]; intro h; have := isSq_lt hR h; omega)]
    exact sqTo_more hR d
theorem sqTo_one (hF : FieldQ P K m) : sqTo P K m 1 = [] := by
  have h := sqTo_no (P := P) (K := K) (m := m) 0 (isSq_zero hF)
  exact h
end

/-- A row of 64 bools. -/
def brow (f : Nat → Bool) : Array Value := ((List.range 64).map fun j => Value.bool (f j)).toArray
theorem brow_size (f : Nat → Bool) : (brow f).size = 64 := by simp [brow]
theorem brow_at (f : Nat → Bool) (j : Nat) (h : j < 64) : (brow f)[j]? = some (.bool (f j)) := by simp [brow, h]
def updB (f : Nat → Bool) (i : Nat) : Nat → Bool := fun j => if j = i then true else f j
theorem brow_set (f : Nat → Bool) (i : Nat) : (brow f).setIfInBounds i (.bool true) = brow (updB f i) := by
  apply Array.ext_getElem?
  intro j
  rw [Array.getElem?_setIfInBounds]
  by_cases hj : j < 64
  · rw [brow_at _ _ hj]
    by_cases e : i = j
    · subst e; rw [if_pos rfl, brow_at _ _ hj, if_pos (by simpa [brow_size] using hj)]; simp [updB]
    · rw [if_neg e, brow_at _ _ hj]; simp [updB, Ne.symm e]
  · simp [brow, hj]; omega
def BRow (w : World) (g : Nat) (f : Nat → Bool) : Prop := w.heap[g]? = some (.cells (brow f) 133 (0, 0))
theorem BRow.lt {w : World} {g : Nat} {f : Nat → Bool} (h : BRow w g f) : g < w.heap.size := (Array.getElem?_eq_some_iff.1 h).1
theorem BRow.cell {w : World} {g : Nat} {f : Nat → Bool} (h : BRow w g f) (j : Nat) (hj : j < 64) : w.cell? ⟨g, j, none⟩ = some (.bool (f j)) := by rw [cell_of_row w g j _ _ _ h, brow_at _ _ hj]
theorem BRow.frozen {w : World} {g : Nat} {f : Nat → Bool} (h : BRow w g f) (j : Nat) : w.frozen? ⟨g, j, none⟩ = false := frozen_of_row w g j _ _ h
theorem BRow.set {w : World} {g : Nat} {f : Nat → Bool} (h : BRow w g f) (i : Nat) : BRow (w.setCell ⟨g, i, none⟩ (.bool true)) g (updB f i) := by
  unfold BRow; rw [heap_setCell_same w g i _ _ _ h, brow_set]
theorem BRow.below {w w' : World} {g : Nat} {f : Nat → Bool} (h : BRow w g f) (hb : Below w.heap.size w w') : BRow w' g f := (hb.block g h.lt).trans h
theorem BRow.congr {w : World} {g : Nat} {f f' : Nat → Bool} (h : BRow w g f) (e : ∀ j, j < 64 → f j = f' j) : BRow w g f' := by
  have : brow f = brow f' := by
    unfold brow; congr 1; apply List.map_congr_left; intro j hj; rw [e j (by simpa using hj)]
  unfold BRow; rw [← this]; exact h
theorem und66 : Tryd.prog.underlying 133 = some (.array 64 4) := by kernel_rfl
theorem inf66 (f : Nat → Bool) : (Tryd.prog.info? 133).map (·.size) = some (brow f).size := by rw [brow_size]; kernel_rfl

end Go.Proofs.YtlmjlffipinjiabDoor.Fd

namespace Go.Proofs.YtlmjlffipinjiabDoor.Fd
open Go.RowKit

theorem idx66 (f : Nat → Bool) (k : Nat) (h : k < 64) (w : World) : (Instr.index 133 (.agg (brow f)) (.int .i64 (k : Int))).run Tryd.prog w = .ok (.bool (f k)) w := by
  have : k = 0 ∨ k = 1 ∨ k = 2 ∨ k = 3 ∨ k = 4 ∨ k = 5 ∨ k = 6 ∨ k = 7 ∨ k = 8 ∨ k = 9 ∨ k = 10 ∨ k = 11 ∨ k = 12 ∨ k = 13 ∨ k = 14 ∨ k = 15 ∨ k = 16 ∨ k = 17 ∨ k = 18 ∨ k = 19 ∨ k = 20 ∨ k = 21 ∨ k = 22 ∨ k = 23 ∨ k = 24 ∨ k = 25 ∨ k = 26 ∨ k = 27 ∨ k = 28 ∨ k = 29 ∨ k = 30 ∨ k = 31 ∨ k = 32 ∨ k = 33 ∨ k = 34 ∨ k = 35 ∨ k = 36 ∨ k = 37 ∨ k = 38 ∨ k = 39 ∨ k = 40 ∨ k = 41 ∨ k = 42 ∨ k = 43 ∨ k = 44 ∨ k = 45 ∨ k = 46 ∨ k = 47 ∨ k = 48 ∨ k = 49 ∨ k = 50 ∨ k = 51 ∨ k = 52 ∨ k = 53 ∨ k = 54 ∨ k = 55 ∨ k = 56 ∨ k = 57 ∨ k = 58 ∨ k = 59 ∨ k = 60 ∨ k = 61 ∨ k = 62 ∨ k = 63 := by omega
  rcases this with rfl | rfl | rfl | rfl | rfl | rfl | rfl | rfl | rfl | rfl | rfl | rfl | rfl | rfl | rfl | rfl | rfl | rfl | rfl | rfl | rfl | rfl | rfl | rfl | rfl | rfl | rfl | rfl | rfl | rfl | rfl | rfl | rfl | rfl | rfl | rfl | rfl | rfl | rfl | rfl | rfl | rfl | rfl | rfl | rfl | rfl | rfl | rfl | rfl | rfl | rfl | rfl | rfl | rfl | rfl | rfl | rfl | rfl | rfl | rfl | rfl | rfl | rfl | rfl <;> (change _ = _; kernel_rfl)


end Go.Proofs.YtlmjlffipinjiabDoor.Fd

/- The walk of SquaresOf of the document's answer. -/
namespace Go.Proofs.YtlmjlffipinjiabDoor.Fd
open Go.RowKit

theorem foundTo_mono {P K : Nat} {m : Nat → Int} {a b j : Nat} (h : a ≤ b) (hf : foundTo P K m a j = true) : foundTo P K m b j = true := by
  unfold foundTo at *
  rw [List.any_eq_true] at *
  obtain ⟨x, hx, h2⟩ := hf
  exact ⟨x, by simp at *; omega, h2⟩

theorem owned_below {w w' : World} {base n : Nat} {v : Value} {xs : List Value} (h : w.ownsRow base 3 1 v n xs) (hb : Below w.heap.size w w') : w'.ownsRow base 3 1 v n xs :=
  h.kept (row := none) ⟨hb.os, hb.tape, hb.output, hb.size, fun k hk _ => hb.block k hk⟩ (by
    cases hv : v.ownBlock with
    | none => exact .inl rfl
    | some k => exact .inr (by simp))

end Go.Proofs.YtlmjlffipinjiabDoor.Fd

/- The walk of squares. -/
namespace Go.Proofs.YtlmjlffipinjiabDoor.Fd
open Go.RowKit

set_option maxRecDepth 100000 in
set_option maxHeartbeats 1000000 in
theorem squares_any (P K q : Nat) (m : Nat → Int) (w : World) (hF : FieldQ P K m) (hP' : P ≤ 64) (hK' : K ≤ 6) (hPK : P ^ K ≤ 64) (HQ : Hid (q = P ^ K)) :
    Calls Tryd.prog 53 #[.agg (ringRow P K q m)] w fun e w' => ∃ v, e = .returned v ∧ Sl w' v (sqTo P K m (P ^ K)) ∧ Below w.heap.size w w' := by
  obtain ⟨i3, hi, hz0, hz1, hz2⟩ := info3
  obtain ⟨fs, hu⟩ := und53
  have hR := hF.toRing1
  have hq1 : 1 < q := by rw [HQ.out]; exact one_lt hR
  have hq64 : q ≤ 64 := by rw [HQ.out]; exact hPK
  have hb0 : BRow ((w.alloc (.cells (ringRow P K q m) 103)).alloc (.cells #[.bool false, .bool false, .bool false, .bool false, .bool false, .bool false, .bool false, .bool false, .bool false, .bool false, .bool false, .bool false, .bool false, .bool false, .bool false, .bool false, .bool false, .bool false, .bool false, .bool false, .bool false, .bool false, .bool false, .bool false, .bool false, .bool false, .bool false, .bool false, .bool false, .bool false, .bool false, .bool false, .bool false, .bool false, .bool false, .bool false, .bool false, .bool false, .bool false, .bool false, .bool false, .bool false, .bool false, .bool false, .bool false, .bool false, .bool false, .bool false, .bool false, .bool false, .bool false, .bool false, .bool false, .bool false, .bool false, .bool false, .bool false, .bool false, .bool false, .bool false, .bool false, .bool false, .bool false, .bool false] 133)) (w.heap.size + 1) (fun _ => false) := by
    have h : ((w.alloc (.cells (ringRow P K q m) 103)).alloc (.cells #[.bool false, .bool false, .bool false, .bool false, .bool false, .bool false, .bool false, .bool false, .bool false, .bool false, .bool false, .bool false, .bool false, .bool false, .bool false, .bool false, .bool false, .bool false, .bool false, .bool false, .bool false, .bool false, .bool false, .bool false, .bool false, .bool false, .bool false, .bool false, .bool false, .bool false, .bool false, .bool false, .bool false, .bool false, .bool false, .bool false, .bool false, .bool false, .bool false, .bool false, .bool false, .bool false, .bool false, .bool false, .bool false, .bool false, .bool false, .bool false, .bool false, .bool false, .bool false, .bool false, .bool false, .bool false, .bool false, .bool false, .bool false, .bool false, .bool false, .bool false, .bool false, .bool false, .bool false, .bool false] 133)).heap[(w.alloc (.cells (ringRow P K q m) 103)).heap.size]? = _ := heap_alloc_new _ _
    rw [World.size_alloc] at h
    exact h
  have hr0 : RB ((w.alloc (.cells (ringRow P K q m) 103)).alloc (.cells #[.bool false, .bool false, .bool false, .bool false, .bool false, .bool false, .bool false, .bool false, .bool false, .bool false, .bool false, .bool false, .bool false, .bool false, .bool false, .bool false, .bool false, .bool false, .bool false, .bool false, .bool false, .bool false, .bool false, .bool false, .bool false, .bool false, .bool false, .bool false, .bool false, .bool false, .bool false, .bool false, .bool false, .bool false, .bool false, .bool false, .bool false, .bool false, .bool false, .bool false, .bool false, .bool false, .bool false, .bool false, .bool false, .bool false, .bool false, .bool false, .bool false, .bool false, .bool false, .bool false, .bool false, .bool false, .bool false, .bool false, .bool false, .bool false, .bool false, .bool false, .bool false, .bool false, .bool false, .bool false] 133)) w.heap.size P K q m := (RB.made w P K q m).below ((Below.refl _ _).alloc (Nat.le_refl _) _)
  have hB0 : Below w.heap.size w ((w.alloc (.cells (ringRow P K q m) 103)).alloc (.cells #[.bool false, .bool false, .bool false, .bool false, .bool false, .bool false, .bool false, .bool false, .bool false, .bool false, .bool false, .bool false, .bool false, .bool false, .bool false, .bool false, .bool false, .bool false, .bool false, .bool false, .bool false, .bool false, .bool false, .bool false, .bool false, .bool false, .bool false, .bool false, .bool false, .bool false, .bool false, .bool false, .bool false, .bool false, .bool false, .bool false, .bool false, .bool false, .bool false, .bool false, .bool false, .bool false, .bool false, .bool false, .bool false, .bool false, .bool false, .bool false, .bool false, .bool false, .bool false, .bool false, .bool false, .bool false, .bool false, .bool false, .bool false, .bool false, .bool false, .bool false, .bool false, .bool false, .bool false, .bool false] 133)) := ((Below.refl _ _).alloc (Nat.le_refl _) _).alloc (by simp) _
  go_enter Tryd.func53, Tryd.ntmps53
  go_wp2
  go_loopw [4] (fun i wr => ∃ a : Nat, i = .int .i64 a ∧ 1 ≤ a ∧ a ≤ q ∧ BRow wr (w.heap.size + 1) (foundTo P K m a) ∧ RB wr w.heap.size P K q m ∧ Below w.heap.size w wr) (fun i _ => (q - intOf i).toNat)
  case atStart => exact ⟨1, rfl, by omega, by omega, hb0.congr (fun j _ => (foundTo_one j).symm), hr0, hB0⟩
  case round =>
    clear hb0 hr0 hB0
    obtain ⟨a, rfl, ha1, haq, hbr, hRB, hB⟩ := hrel
    have hc2 := hRB.cell2
    by_cases hlt : a < q
    · have ha : a < P ^ K := by rw [← HQ.out]; exact hlt
      have hdec : decide ((a : Int) < q) = true := by simp; omega
      obtain ⟨s, Hs⟩ : ∃ s, Hid (s = mulQ P K m a a) := ⟨_, rfl⟩
      have hsq : s < P ^ K := by rw [Hs.out]; exact mulQ_lt hR a a
      go_wp2_with (first
        | (refine wpList_load_row rfl 103 _ rfl w.heap.size rfl 103 _ (0, 0) _ hRB hu rfl (inf53 _ _ _ _) ?_))
      refine (mul_Q P K a a q m _ hR hP' hK' hPK ha ha s Hs).mono ?_
      rintro e w1 ⟨rfl, hb1⟩
      have hbr1 := hbr.below hb1
      have hRB1 := hRB.below hb1
      have hB1 : Below w.heap.size w w1 := hB.trans (hb1.mono hB.size)
      have hcs := hbr1.cell s (by omega)
      have hfs := hbr1.frozen s
      have hs64 : (s : Int) < 64 := by omega
      go_wp2
      go_roundw
      case rel =>
        refine ⟨a + 1, by go_num, by omega, by omega, (hbr1.set s).congr (fun j _ => ?_), (heap_setCell_other _ _ _ _ (by simp)).trans hRB1, hB1.setCell (by simp) _⟩
        rw [foundTo_succ a j ha1, ← Hs.out]
        unfold updB
        by_cases e : j = s
        · subst e; simp
        · rw [if_neg e, show (s == j) = false by simp; omega]; simp
      case measure => simp [intOf]; omega
    · have hbr' : BRow wr (w.heap.size + 1) (isSq P K m) := by
        have e : a = P ^ K := by rw [← HQ.out]; omega
        rw [e] at hbr; exact hbr
      have hlt1 := hbr.lt
      clear hbr
      go_wp2_with (first
        | (refine wpList_load_row rfl 133 _ rfl (w.heap.size + 1) rfl 133 _ (0, 0) _ hbr' und66 rfl (inf66 _) ?_))
      go_loopw [5, 20] (fun o i wr => ∃ j : Nat, i = .int .i64 j ∧ j ≤ 64 ∧ wr.ownsRow (w.heap.size + 2) 3 1 o (sqTo P K m j).length ((sqTo P K m j).map (Value.int .i64)) ∧ w.heap.size + 2 ≤ wr.heap.size ∧ Below w.heap.size w wr) (fun _ i _ => (64 - intOf i).toNat)
      case atStart => exact ⟨0, rfl, by omega, World.ownsRow_nil _ _ _ _, by omega, hB⟩
      case round =>
        clear hB hRB hc2 hbr'
        obtain ⟨j, rfl, hj, hown, hsz, hB⟩ := hrel
        have hlen := sqTo_len (P := P) (K := K) (m := m) j
        by_cases hj64 : j < 64
        · have hix := idx66 (isSq P K m) j hj64
          have hdec : decide ((j : Int) < 64) = true := by simp; omega
          cases hsq : isSq P K m j
          · have HL : Hid (sqTo P K m (j + 1) = sqTo P K m j) := sqTo_no j hsq
            go_wp2
            go_roundw
            case rel =>
              refine ⟨j + 1, by go_num, by omega, ?_, hsz, hB⟩
              rw [HL.out]; exact hown
            case measure => simp [intOf]; omega
          · have HL : Hid (sqTo P K m (j + 1) = sqTo P K m j ++ [(j : Int)]) := sqTo_yes j hsq
            go_wp2_with (first
              | (at_builtin; refine wpList_append_own _ rfl _ _ 22 rfl (w.heap.size + 2) 3 i3 (.int .i64 0) 1 8 und22 hi hz0 hz1 hz2 rfl (by decide) _ _ _ rfl (hown.alloc _) ⟨wr.heap.size, 0, none⟩ 1 1 [.int .i64 (j : Int)] rfl rfl ?c1 ?c2 ?c3 ?c4 ?c5 ?_)
              | go_in)
            case c1 =>
              intro j' u hj'
              match j', hj' with
              | 0, hj' => simp at hj'; subst hj'; simp [Addr.add]
            case c2 => intro u hu'; simp at hu'; subst hu'; rfl
            case c3 => unfold maxLen; omega
            case c4 => omega
            case c5 => simp; omega
            · intro v' w3 hown' hgrow _
              have hB3 : Below w.heap.size w w3 := (hB.alloc hB.size _).grown hgrow (by simp; omega) (fun k hk => by have := (hown.lt k hk).1; omega)
              have hsz3 : w.heap.size + 2 ≤ w3.heap.size := by have := hgrow.size; simp at this; omega
              go_wp2
              go_roundw
              case rel =>
                refine ⟨j + 1, by go_num, by omega, ?_, hsz3, hB3⟩
                rw [HL.out, List.map_append, List.length_append]; exact hown'
              case measure => simp [intOf]; omega
        · go_wp2
          go_ret
          refine ⟨_, rfl, ?_, hB⟩
          have e : sqTo P K m (P ^ K) = sqTo P K m j := by
            have h := sqTo_more hR (64 - P ^ K)
            rw [show P ^ K + (64 - P ^ K) = j by omega] at h
            exact h.symm
          rw [e]
          exact Sl.owned hown

end Go.Proofs.YtlmjlffipinjiabDoor.Fd

namespace Go.Proofs.YtlmjlffipinjiabDoor.Fd
open Go.RowKit

theorem open_nil {p k : Int} {l : List Int} {z : Int} (h : OpenIs p k l [] z) : FaultIs p k l z := by
  rcases h with ⟨_, h⟩ | ⟨_, h, _⟩ | ⟨h, _, rfl⟩
  · exact h
  · exact absurd (fun j hj => by simp at hj) h
  · exact h

set_option maxRecDepth 100000 in
set_option maxHeartbeats 1000000 in
theorem Check_any (p k : Int) (l : List Int) (v : Value) (w : World) (hT : Tab w) (hl : Sl w v l) (hll : l.length ≤ maxLen) :
    Calls Tryd.prog 42 #[.agg #[.int .i64 p, .int .i64 k, v]] w fun e w' => ∃ z : Int, e = .returned (.int .i64 z) ∧ FaultIs p k l z ∧ Below w.heap.size w w' := by
  obtain ⟨A, ca, rfl, _⟩ := id hl
  have hbx : Below w.heap.size w (w.alloc (.cells #[.int .i64 p, .int .i64 k, .slice A l.length ca] 24)) := (Below.refl _ _).alloc (Nat.le_refl _) _
  go_enter Tryd.func42, Tryd.ntmps42
  go_wp2_with fail
  refine (open_any p k l [] _ _ _ (hT.below hbx) (hl.below hbx) (Sl.nil _) hll (by simp)).mono ?_
  rintro e w1 ⟨z, x, y, c, f, rfl, hO, HZ, hb1⟩
  have hB1 : Below w.heap.size w w1 := hbx.trans (hb1.mono hbx.size)
  have HO : Hid (FaultIs p k l z) := open_nil hO
  have hnew : RB (w1.alloc (.cells #[.int .i64 0, .int .i64 0, .int .i64 0, .int .i64 0, .int .i64 0, .int .i64 0, .int .i64 0, .int .i64 0, .int .i64 0, .int .i64 0, .int .i64 0, .int .i64 0, .int .i64 0, .int .i64 0] 103)) w1.heap.size 0 0 0 (fun _ => 0) := RB.made w1 0 0 0 (fun _ => 0)
  have hBA : Below w.heap.size w ((w1.alloc (.cells #[.int .i64 0, .int .i64 0, .int .i64 0, .int .i64 0, .int .i64 0, .int .i64 0, .int .i64 0, .int .i64 0, .int .i64 0, .int .i64 0, .int .i64 0, .int .i64 0, .int .i64 0, .int .i64 0] 103)).setRow w1.heap.size (ringRow x y c f)) := bsetRow (hB1.alloc hB1.size _) hB1.size _
  clear hO HZ
  go_wp2_with (first
    | (refine wpList_store_row rfl 103 _ _ rfl w1.heap.size _ rfl rfl 103 _ hnew (inf53 _ _ _ _) rfl (ringRow_one _ _ _ _) ?_))
  go_ret
  exact ⟨z, rfl, HO.out, hBA⟩

set_option maxRecDepth 100000 in
set_option maxHeartbeats 1000000 in
theorem Root_any (p k : Int) (l : List Int) (v : Value) (w : World) (hT : Tab w) (hl : Sl w v l) (hll : l.length ≤ maxLen) :
    Calls Tryd.prog 75 #[.agg #[.int .i64 p, .int .i64 k, v]] w fun e w' => ∃ r z : Int, e = .returned (.tuple #[.int .i64 r, .int .i64 z]) ∧ FaultIs p k l z ∧ Hid (z ≠ 0 → r = 0) ∧ Hid (z = 0 → ∃ R : Nat, r = R ∧ RootIs p.toNat k.toNat (monL l) R) ∧ Below w.heap.size w w' := by
  obtain ⟨A, ca, rfl, _⟩ := id hl
  have hbx : Below w.heap.size w (w.alloc (.cells #[.int .i64 p, .int .i64 k, .slice A l.length ca] 24)) := (Below.refl _ _).alloc (Nat.le_refl _) _
  obtain ⟨fs, hu⟩ := und53
  go_enter Tryd.func75, Tryd.ntmps75
  go_wp2_with fail
  refine (open_any p k l [] _ _ _ (hT.below hbx) (hl.below hbx) (Sl.nil _) hll (by simp)).mono ?_
  rintro e w1 ⟨z, x, y, c, f, rfl, hO, HZ, hb1⟩
  have hB1 : Below w.heap.size w w1 := hbx.trans (hb1.mono hbx.size)
  have HO : Hid (FaultIs p k l z) := open_nil hO
  have hnew : RB (w1.alloc (.cells #[.int .i64 0, .int .i64 0, .int .i64 0, .int .i64 0, .int .i64 0, .int .i64 0, .int .i64 0, .int .i64 0, .int .i64 0, .int .i64 0, .int .i64 0, .int .i64 0, .int .i64 0, .int .i64 0] 103)) w1.heap.size 0 0 0 (fun _ => 0) := RB.made w1 0 0 0 (fun _ => 0)
  have hBA : Below w.heap.size w ((w1.alloc (.cells #[.int .i64 0, .int .i64 0, .int .i64 0, .int .i64 0, .int .i64 0, .int .i64 0, .int .i64 0, .int .i64 0, .int .i64 0, .int .i64 0, .int .i64 0, .int .i64 0, .int .i64 0, .int .i64 0] 103)).setRow w1.heap.size (ringRow x y c f)) := bsetRow (hB1.alloc hB1.size _) hB1.size _
  clear hO
  by_cases hz : z = 0
  · subst hz
    obtain ⟨rfl, rfl, rfl, rfl⟩ := HZ.out rfl
    obtain ⟨P, K, rfl, rfl, hG⟩ := good_of HO.out
    obtain ⟨q, HQ⟩ : ∃ q : Nat, Hid (q = P ^ K) := ⟨_, rfl⟩
    have HO2 : Hid (ordZ (P : Int) K = (q : Int)) := by
      show ordZ (P : Int) K = (q : Int)
      rw [hG.ord, HQ.out]
    rw [HO2.out] at hBA
    clear HZ
    rw [HO2.out]
    go_wp2_with (first
      | (refine wpList_store_row rfl 103 _ _ rfl w1.heap.size _ rfl rfl 103 _ hnew (inf53 _ _ _ _) rfl (ringRow_one _ _ _ _) ?_)
      | (refine wpList_load_row rfl 103 _ rfl w1.heap.size rfl 103 _ (0, 0) _ (hnew.whole _ _ _ _) hu rfl (inf53 _ _ _ _) ?_))
    refine (root_any P K q (monL l) _ hG.field (by have := hG.le61; omega) hG.le6 hG.le64 HQ).mono ?_
    rintro e w2 ⟨R, rfl, hRt, hb2⟩
    have HRt : Hid (RootIs P K (monL l) R) := hRt
    clear hRt
    go_wp2
    go_ret2
    exact ⟨_, _, rfl, HO.out, (fun h => absurd rfl h : (0 : Int) ≠ 0 → _), (fun _ => ⟨R, rfl, by rw [Int.toNat_natCast, Int.toNat_natCast]; exact HRt.out⟩ : (0 : Int) = 0 → _), hBA.trans (hb2.mono hBA.size)⟩
  · have hzb : (z != 0) = true := by simpa using hz
    go_wp2_with (first
      | (refine wpList_store_row rfl 103 _ _ rfl w1.heap.size _ rfl rfl 103 _ hnew (inf53 _ _ _ _) rfl (ringRow_one _ _ _ _) ?_))
    go_ret2
    exact ⟨0, z, rfl, HO.out, (fun _ => rfl : z ≠ 0 → _), (fun h => absurd h hz : z = 0 → _), hBA⟩

set_option maxRecDepth 100000 in
set_option maxHeartbeats 1000000 in
theorem Squares_any (p k : Int) (l : List Int) (v : Value) (w : World) (hT : Tab w) (hl : Sl w v l) (hll : l.length ≤ maxLen) :
    Calls Tryd.prog 20 #[.agg #[.int .i64 p, .int .i64 k, v]] w fun e w' => ∃ (u : Value) (s : List Int) (z : Int), e = .returned (.tuple #[u, .int .i64 z]) ∧ Sl w' u s ∧ FaultIs p k l z ∧ Hid (z ≠ 0 → s = []) ∧ Hid (z = 0 → s = sqTo p.toNat k.toNat (monL l) (p.toNat ^ k.toNat)) ∧ Below w.heap.size w w' := by
  obtain ⟨A, ca, rfl, _⟩ := id hl
  have hbx : Below w.heap.size w (w.alloc (.cells #[.int .i64 p, .int .i64 k, .slice A l.length ca] 24)) := (Below.refl _ _).alloc (Nat.le_refl _) _
  obtain ⟨fs, hu⟩ := und53
  go_enter Tryd.func20, Tryd.ntmps20
  go_wp2_with fail
  refine (open_any p k l [] _ _ _ (hT.below hbx) (hl.below hbx) (Sl.nil _) hll (by simp)).mono ?_
  rintro e w1 ⟨z, x, y, c, f, rfl, hO, HZ, hb1⟩
  have hB1 : Below w.heap.size w w1 := hbx.trans (hb1.mono hbx.size)
  have HO : Hid (FaultIs p k l z) := open_nil hO
  have hnew : RB (w1.alloc (.cells #[.int .i64 0, .int .i64 0, .int .i64 0, .int .i64 0, .int .i64 0, .int .i64 0, .int .i64 0, .int .i64 0, .int .i64 0, .int .i64 0, .int .i64 0, .int .i64 0, .int .i64 0, .int .i64 0] 103)) w1.heap.size 0 0 0 (fun _ => 0) := RB.made w1 0 0 0 (fun _ => 0)
  have hBA : Below w.heap.size w ((w1.alloc (.cells #[.int .i64 0, .int .i64 0, .int .i64 0, .int .i64 0, .int .i64 0, .int .i64 0, .int .i64 0, .int .i64 0, .int .i64 0, .int .i64 0, .int .i64 0, .int .i64 0, .int .i64 0, .int .i64 0] 103)).setRow w1.heap.size (ringRow x y c f)) := bsetRow (hB1.alloc hB1.size _) hB1.size _
  clear hO
  by_cases hz : z = 0
  · subst hz
    obtain ⟨rfl, rfl, rfl, rfl⟩ := HZ.out rfl
    obtain ⟨P, K, rfl, rfl, hG⟩ := good_of HO.out
    obtain ⟨q, HQ⟩ : ∃ q : Nat, Hid (q = P ^ K) := ⟨_, rfl⟩
    have HO2 : Hid (ordZ (P : Int) K = (q : Int)) := by
      show ordZ (P : Int) K = (q : Int)
      rw [hG.ord, HQ.out]
    rw [HO2.out] at hBA
    clear HZ
    rw [HO2.out]
    go_wp2_with (first
      | (refine wpList_store_row rfl 103 _ _ rfl w1.heap.size _ rfl rfl 103 _ hnew (inf53 _ _ _ _) rfl (ringRow_one _ _ _ _) ?_)
      | (refine wpList_load_row rfl 103 _ rfl w1.heap.size rfl 103 _ (0, 0) _ (hnew.whole _ _ _ _) hu rfl (inf53 _ _ _ _) ?_))
    refine (squares_any P K q (monL l) _ hG.field (by have := hG.le61; omega) hG.le6 hG.le64 HQ).mono ?_
    rintro e w2 ⟨u, rfl, hsl, hb2⟩
    go_wp2
    go_ret2
    exact ⟨_, _, _, rfl, hsl, HO.out, (fun h => absurd rfl h : (0 : Int) ≠ 0 → _), (fun _ => by rw [Int.toNat_natCast, Int.toNat_natCast] : (0 : Int) = 0 → _), hBA.trans (hb2.mono hBA.size)⟩
  · have hzb : (z != 0) = true := by simpa using hz
    go_wp2_with (first
      | (refine wpList_store_row rfl 103 _ _ rfl w1.heap.size _ rfl rfl 103 _ hnew (inf53 _ _ _ _) rfl (ringRow_one _ _ _ _) ?_))
    go_ret2
    exact ⟨_, [], z, rfl, Sl.nil _, HO.out, (fun _ => rfl : z ≠ 0 → _), (fun h => absurd h hz : z = 0 → _), hBA⟩

end Go.Proofs.YtlmjlffipinjiabDoor.Fd
