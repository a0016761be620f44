/- The walk of Singer. -/
import Derived.Test.YtjfjdidibglhaabDoorW24
import Derived.Test.YtjfjdidibglhaabDoorAlgG
import Derived.Test.YtjfjdidibglhaabDoorS5
/- The walks of Inv, Pow, Log and Trace: wrong fields and elements, 0 and numbers below 0; Log and Trace on a true field. -/
/- The walk of root. -/
/- The walks of turns, root and RootOf: the least element whose powers are all. -/
/- The walk of Pow on a true field. -/
namespace Go.Proofs.YtjfjdidibglhaabDoor.Fd
open Go.RowKit

set_option maxRecDepth 100000 in
set_option maxHeartbeats 1000000 in
theorem PowG (P K a : Nat) (n : Int) (l : List Int) (v : Value) (w : World) (hT : Tab w) (hl : Sl w v l) (hll : l.length ≤ maxLen) (hG : GoodF P K l) (ha : a < P ^ K) (hn : 0 ≤ n) (hn' : n ≤ 9223372036854775807) (s : Nat) (hs : Hid (s = powQ P K (monL l) a n.toNat)) :
    Calls Tryd.prog 95 #[.agg #[.int .i64 P, .int .i64 K, v], .int .i64 a, .int .i64 n] w fun e w' => e = .returned (.tuple #[.int .i64 s, .int .i64 0]) ∧ Below w.heap.size w w' := by
  obtain ⟨A, ca, rfl, _⟩ := id hl
  have hbx : Below w.heap.size w ((w.alloc (.cells #[.int .i64 P, .int .i64 K, .slice A l.length ca] 24)).alloc (.cells #[.int .i64 a] 3)) := ((Below.refl _ _).alloc (Nat.le_refl _) _).alloc (by simp) _
  have hpair := sl_one (w.alloc (.cells #[.int .i64 P, .int .i64 K, .slice A l.length ca] 24)) a
  simp only [World.size_alloc] at hpair
  obtain ⟨fs, hu⟩ := und53
  go_enter Tryd.func95, Tryd.ntmps95
  go_wp2_with fail
  refine (open_any P K l [(a : Int)] _ _ _ (hT.below hbx) (hl.below hbx) hpair hll (by simp [maxLen])).mono ?_
  rintro e w1 ⟨z, x, y, c, f, rfl, hO, HZ, hb1⟩
  have hB1 : Below w.heap.size w w1 := hbx.trans (hb1.mono hbx.size)
  obtain rfl := open_in hG.fault (in_one hG ha) hO
  obtain ⟨rfl, rfl, rfl, rfl⟩ := HZ.out rfl
  have hnew : RB (w1.alloc (.cells #[.int .i64 0, .int .i64 0, .int .i64 0, .int .i64 0, .int .i64 0, .int .i64 0, .int .i64 0, .int .i64 0, .int .i64 0, .int .i64 0, .int .i64 0, .int .i64 0, .int .i64 0, .int .i64 0] 105)) w1.heap.size 0 0 0 (fun _ => 0) := RB.made w1 0 0 0 (fun _ => 0)
  have hRB := hnew.whole P K (ordZ (P : Int) K) (monL l)
  have hBA : Below w.heap.size w ((w1.alloc (.cells #[.int .i64 0, .int .i64 0, .int .i64 0, .int .i64 0, .int .i64 0, .int .i64 0, .int .i64 0, .int .i64 0, .int .i64 0, .int .i64 0, .int .i64 0, .int .i64 0, .int .i64 0, .int .i64 0] 105)).setRow w1.heap.size (ringRow P K (ordZ (P : Int) K) (monL l))) := bsetRow (hB1.alloc hB1.size _) hB1.size _
  clear hpair hO HZ
  go_wp2_with (first
    | (refine wpList_store_row rfl 105 _ _ rfl w1.heap.size _ rfl rfl 105 _ hnew (inf53 _ _ _ _) rfl (ringRow_one _ _ _ _) ?_)
    | (refine wpList_load_row rfl 105 _ rfl w1.heap.size rfl 105 _ (0, 0) _ hRB hu rfl (inf53 _ _ _ _) ?_))
  refine (pow_any P K a n _ (monL l) _ hG.field.toRing1 (by have := hG.le61; omega) hG.le6 hG.le64 ha hn hn' s hs).mono ?_
  rintro e w2 ⟨rfl, hb2⟩
  go_wp2
  go_ret2
  exact ⟨rfl, hBA.trans (hb2.mono hBA.size)⟩

end Go.Proofs.YtjfjdidibglhaabDoor.Fd

namespace Go.Proofs.YtjfjdidibglhaabDoor.Fd
open Go.RowKit

/-- n is the least number of factors a, one or more, whose product is 1. -/
def IsOrd (P K : Nat) (m : Nat → Int) (a n : Nat) : Prop := 1 ≤ n ∧ powQ P K m a n = 1 ∧ ∀ j, 1 ≤ j → j < n → powQ P K m a j ≠ 1
theorem IsOrd.one {P K : Nat} {m : Nat → Int} {a n n' : Nat} (h : IsOrd P K m a n) (h' : IsOrd P K m a n') : n = n' := by
  apply Classical.byContradiction
  intro e
  by_cases hlt : n < n'
  · exact h'.2.2 n h.1 hlt h.2.1
  · exact h.2.2 n' h'.1 (by omega) h'.2.1
/-- r is the least element whose powers are all but 0, or 0 where there is none. -/
def RootIs (P K : Nat) (m : Nat → Int) (r : Nat) : Prop :=
  (1 ≤ r ∧ r < P ^ K ∧ IsOrd P K m r (P ^ K - 1) ∧ ∀ a, 1 ≤ a → a < r → ¬ IsOrd P K m a (P ^ K - 1)) ∨ (r = 0 ∧ ∀ a, 1 ≤ a → a < P ^ K → ¬ IsOrd P K m a (P ^ K - 1))
theorem RootIs.one {P K : Nat} {m : Nat → Int} {r r' : Nat} (h : RootIs P K m r) (h' : RootIs P K m r') : r = r' := by
  rcases h with ⟨h1, h2, h3, h4⟩ | ⟨rfl, h⟩
  · rcases h' with ⟨h1', h2', h3', h4'⟩ | ⟨rfl, h'⟩
    · apply Classical.byContradiction
      intro e
      by_cases hlt : r < r'
      · exact h4' r h1 hlt h3
      · exact h4 r' h1' (by omega) h3'
    · exact absurd h3 (h' r h1 h2)
  · rcases h' with ⟨h1', h2', h3', h4'⟩ | ⟨rfl, h'⟩
    · exact absurd h3' (h r' h1' h2')
    · rfl
theorem RB.cell2 {w : World} {g : Nat} {p k q : Int} {f : Nat → Int} (h : RB w g p k q f) : w.cell? ⟨g, 2, none⟩ = some (.int .i64 q) := cell_of_row w g 2 _ _ _ h

set_option maxRecDepth 100000 in
set_option maxHeartbeats 1000000 in
theorem turns_any (P K a : Nat) (Q : Int) (m : Nat → Int) (w : World) (hF : FieldQ P K m) (hP' : P ≤ 64) (hK' : K ≤ 6) (hPK : P ^ K ≤ 64) (ha1 : 1 ≤ a) (ha : a < P ^ K) :
    Calls Tryd.prog 122 #[.agg (ringRow P K Q m), .int .i64 a] w fun e w' => ∃ n : Nat, e = .returned (.int .i64 n) ∧ IsOrd P K m a n ∧ n ≤ P ^ K - 1 ∧ Below w.heap.size w w' := by
  obtain ⟨fs, hu⟩ := und53
  have hR := hF.toRing1
  have hfer := fermat hF ha1 ha
  have HFER : Hid (powQ P K m a (P ^ K - 1) = 1) := hfer
  have h1q := one_lt hR
  clear hfer
  go_enter Tryd.func122, Tryd.ntmps122
  go_wp2
  go_loopw [5, 6] (fun n x wr => ∃ j y : Nat, n = .int .i64 j ∧ x = .int .i64 y ∧ 1 ≤ j ∧ j ≤ P ^ K - 1 ∧ Hid (y = powQ P K m a j) ∧ Hid (∀ i, 1 ≤ i → i < j → powQ P K m a i ≠ 1) ∧ RB wr w.heap.size P K Q m ∧ Below w.heap.size w wr) (fun n _ _ => (P ^ K - 1 - (intOf n).toNat))
  case atStart => exact ⟨1, a, rfl, rfl, by omega, by omega, (powQ_first hR ha).symm, (fun i h1 h2 => by omega : ∀ i, 1 ≤ i → i < 1 → _), RB.made w P K Q m, (Below.refl _ _).alloc (Nat.le_refl _) _⟩
  case round =>
    obtain ⟨j, y, rfl, rfl, hj1, hj2, HY, HN, hRB, hB⟩ := hrel
    have hy : y < P ^ K := by rw [HY.out]; exact powQ_lt hR a j
    by_cases h1 : y = 1
    · subst h1
      go_wp2
      go_ret
      exact ⟨j, rfl, ⟨hj1, HY.out.symm, HN.out⟩, hj2, hB⟩
    · have hb1 : ((y : Int) != 1) = true := by simp; omega
      have hlt : j < P ^ K - 1 := by
        apply Classical.byContradiction
        intro h
        have e : j = P ^ K - 1 := by omega
        apply h1
        rw [HY.out, e]; exact HFER.out
      obtain ⟨s, Hs⟩ : ∃ s, Hid (s = mulQ P K m y a) := ⟨_, rfl⟩
      go_wp2_with (first
        | (refine wpList_load_row rfl 105 _ rfl w.heap.size rfl 105 _ (0, 0) _ hRB hu rfl (inf53 _ _ _ _) ?_))
      refine (mul_Q P K y a Q m _ hR hP' hK' hPK hy ha s Hs).mono ?_
      rintro e w1 ⟨rfl, hb2⟩
      have hRB1 := hRB.below hb2
      have hB1 : Below w.heap.size w w1 := hB.trans (hb2.mono hB.size)
      go_wp2
      go_roundw
      case rel =>
        refine ⟨j + 1, s, by go_num, rfl, by omega, by omega, ?_, (fun i h2 h3 => ?_ : ∀ i, 1 ≤ i → i < j + 1 → _), hRB1, hB1⟩
        · show s = mulQ P K m a (powQ P K m a j)
          rw [Hs.out, HY.out, mulQ_comm hR]
        · by_cases e : i = j
          · subst e; rw [← HY.out]; exact h1
          · exact HN.out i h2 (by omega)
      case measure => simp [intOf]; omega

end Go.Proofs.YtjfjdidibglhaabDoor.Fd

namespace Go.Proofs.YtjfjdidibglhaabDoor.Fd
open Go.RowKit

theorem RB.all {w W : World} {P K Q : Int} {m : Nat → Int} (h : RB W w.heap.size P K Q m) (hB : Below w.heap.size w W) : W.cell? ⟨w.heap.size, 0, none⟩ = some (.int .i64 P) ∧ W.cell? ⟨w.heap.size, 1, none⟩ = some (.int .i64 K) ∧ W.cell? ⟨w.heap.size, 2, none⟩ = some (.int .i64 Q) ∧ W.cell? ⟨w.heap.size, 3, none⟩ = some (.int .i64 (m 0)) ∧ W.cell? ⟨w.heap.size, 4, none⟩ = some (.int .i64 (m 1)) ∧ W.cell? ⟨w.heap.size, 5, none⟩ = some (.int .i64 (m 2)) ∧ W.cell? ⟨w.heap.size, 6, none⟩ = some (.int .i64 (m 3)) ∧ W.cell? ⟨w.heap.size, 7, none⟩ = some (.int .i64 (m 4)) ∧ W.cell? ⟨w.heap.size, 8, none⟩ = some (.int .i64 (m 5)) ∧ W.cell? ⟨w.heap.size, 9, none⟩ = some (.int .i64 (m 6)) ∧ W.cell? ⟨w.heap.size, 10, none⟩ = some (.int .i64 (m 7)) ∧ W.cell? ⟨w.heap.size, 11, none⟩ = some (.int .i64 (m 8)) ∧ W.cell? ⟨w.heap.size, 12, none⟩ = some (.int .i64 (m 9)) ∧ W.cell? ⟨w.heap.size, 13, none⟩ = some (.int .i64 (m 10)) ∧ Below w.heap.size w W :=
  ⟨(cell_of_row W w.heap.size 0 _ _ _ h), (cell_of_row W w.heap.size 1 _ _ _ h), (cell_of_row W w.heap.size 2 _ _ _ h), (cell_of_row W w.heap.size 3 _ _ _ h), (cell_of_row W w.heap.size 4 _ _ _ h), (cell_of_row W w.heap.size 5 _ _ _ h), (cell_of_row W w.heap.size 6 _ _ _ h), (cell_of_row W w.heap.size 7 _ _ _ h), (cell_of_row W w.heap.size 8 _ _ _ h), (cell_of_row W w.heap.size 9 _ _ _ h), (cell_of_row W w.heap.size 10 _ _ _ h), (cell_of_row W w.heap.size 11 _ _ _ h), (cell_of_row W w.heap.size 12 _ _ _ h), (cell_of_row W w.heap.size 13 _ _ _ h), hB⟩

set_option maxRecDepth 100000 in
set_option maxHeartbeats 1000000 in
theorem root_any (P K q : Nat) (m : Nat → Int) (w : World) (hF : FieldQ P K m) (hP' : P ≤ 64) (hK' : K ≤ 6) (hPK : P ^ K ≤ 64) (HQ : Hid (q = P ^ K)) :
    Calls Tryd.prog 115 #[.agg (ringRow P K q m)] w fun e w' => ∃ r : Nat, e = .returned (.int .i64 r) ∧ RootIs P K m r ∧ Below w.heap.size w w' := by
  have hR := hF.toRing1
  have hq1 : 1 < q := by rw [HQ.out]; exact one_lt hR
  have hq64 : q ≤ 64 := by rw [HQ.out]; exact hPK
  go_enter Tryd.func115, Tryd.ntmps115
  go_wp2
  go_loopw [3] (fun i wr => ∃ a : Nat, i = .int .i64 a ∧ 1 ≤ a ∧ a ≤ q ∧ Hid (∀ b, 1 ≤ b → b < a → ¬ IsOrd P K m b (P ^ K - 1)) ∧ RB wr w.heap.size P K q m ∧ Below w.heap.size w wr) (fun i _ => (q - intOf i).toNat)
  case atStart => exact ⟨1, rfl, by omega, by omega, (fun b h1 h2 => by omega : ∀ b, 1 ≤ b → b < 1 → _), RB.made w P K q m, (Below.refl _ _).alloc (Nat.le_refl _) _⟩
  case round =>
    obtain ⟨a, rfl, ha1, haq, HA, hRB, hB⟩ := hrel
    have hc2 := hRB.cell2
    by_cases hlt : a < q
    · have ha : a < P ^ K := by rw [← HQ.out]; exact hlt
      have hdec : decide ((a : Int) < q) = true := by simp; omega
      have hwr : IntKind.i64.wrap ((q : Int) - 1) = (q : Int) - 1 := by rw [IntKind.wrap_i64]; omega
      have hSt := RB.all hRB.drew hB.drew
      go_wp2
      go_region_held3 (fun w' => w'.cell? ⟨w.heap.size, 0, none⟩ = some (.int .i64 P) ∧ w'.cell? ⟨w.heap.size, 1, none⟩ = some (.int .i64 K) ∧ w'.cell? ⟨w.heap.size, 2, none⟩ = some (.int .i64 q) ∧ w'.cell? ⟨w.heap.size, 3, none⟩ = some (.int .i64 (m 0)) ∧ w'.cell? ⟨w.heap.size, 4, none⟩ = some (.int .i64 (m 1)) ∧ w'.cell? ⟨w.heap.size, 5, none⟩ = some (.int .i64 (m 2)) ∧ w'.cell? ⟨w.heap.size, 6, none⟩ = some (.int .i64 (m 3)) ∧ w'.cell? ⟨w.heap.size, 7, none⟩ = some (.int .i64 (m 4)) ∧ w'.cell? ⟨w.heap.size, 8, none⟩ = some (.int .i64 (m 5)) ∧ w'.cell? ⟨w.heap.size, 9, none⟩ = some (.int .i64 (m 6)) ∧ w'.cell? ⟨w.heap.size, 10, none⟩ = some (.int .i64 (m 7)) ∧ w'.cell? ⟨w.heap.size, 11, none⟩ = some (.int .i64 (m 8)) ∧ w'.cell? ⟨w.heap.size, 12, none⟩ = some (.int .i64 (m 9)) ∧ w'.cell? ⟨w.heap.size, 13, none⟩ = some (.int .i64 (m 10)) ∧ Below w.heap.size w w') (assumption)
        (first
          | (go_at_call 122; refine (turns_any P K a q m _ hF hP' hK' hPK ha1 ha).mono ?_; rintro e w1 ⟨n, rfl, hord, hnq, hb1⟩; have hRB1 := hRB.drew.below hb1; have hB1 : Below w.heap.size w w1 := hB.drew.trans (hb1.mono hB.drew.size); have hS1 := RB.all hRB1 hB1))
      all_goals
        by_cases hn : n = q - 1
        · have hbn : ((n : Int) == (q : Int) - 1) = true := by simp; omega
          have HRES : Hid (RootIs P K m a) := .inl ⟨ha1, ha, by rw [← HQ.out, ← hn]; exact hord, HA.out⟩
          go_wp2
          go_ret
          exact ⟨a, rfl, HRES.out, hB1⟩
        · have hbn : ((n : Int) == (q : Int) - 1) = false := by simp; omega
          have HNO : Hid (¬ IsOrd P K m a (P ^ K - 1)) := fun h => hn (by rw [HQ.out]; exact hord.one h)
          go_wp2
          go_roundw
          case rel =>
            have hfin : ∃ a' : Nat, Value.int .i64 ((a : Int) + 1) = .int .i64 a' ∧ 1 ≤ a' ∧ a' ≤ q ∧ Hid (∀ b, 1 ≤ b → b < a' → ¬ IsOrd P K m b (P ^ K - 1)) ∧ RB w1 w.heap.size P K q m ∧ Below w.heap.size w w1 := by
              refine ⟨a + 1, by go_num, by omega, by omega, (fun b h1 h2 => ?_ : ∀ b, 1 ≤ b → b < a + 1 → _), hRB1, hB1⟩
              by_cases e : b = a
              · subst e; exact HNO.out
              · exact HA.out b h1 (by omega)
            first
              | exact hfin
              | ((repeat apply Exists.intro); exact ⟨hfin, rfl⟩)
          case measure => simp [intOf]; omega
    · go_wp2
      go_ret
      exact ⟨0, rfl, .inr ⟨rfl, fun b h1 h2 => HA.out b h1 (by rw [← HQ.out] at h2; omega)⟩, hB⟩

end Go.Proofs.YtjfjdidibglhaabDoor.Fd

/- Logarithms, traces, powers and inverses: the program's inner functions and the document's. -/
namespace Go.Proofs.YtjfjdidibglhaabDoor.Fd
open Go.RowKit

section
variable {P K : Nat} {m : Nat → Int}
def LogIs (P K : Nat) (m : Nat → Int) (r a n : Nat) : Prop := powQ P K m r n = a ∧ ∀ j, j < n → powQ P K m r j ≠ a
theorem LogIs.one {r a n n' : Nat} (h : LogIs P K m r a n) (h' : LogIs P K m r a n') : n = n' := by
  apply Classical.byContradiction
  intro e
  by_cases hlt : n < n'
  · exact h'.2 n hlt h.1
  · exact h.2 n' (by omega) h'.1
/-- The sum of a, a to the power of P, .. (n of them), and s. -/
def trQ (P K : Nat) (m : Nat → Int) : Nat → Nat → Nat → Nat
  | 0, s, _ => s
  | n + 1, s, a => trQ P K m n (addQ P K s a) (powQ P K m a P)
theorem root_pos (hg : ∃ g, 1 ≤ g ∧ g < P ^ K ∧ IsOrd P K m g (P ^ K - 1)) {r : Nat} (h : RootIs P K m r) : 1 ≤ r ∧ r < P ^ K ∧ IsOrd P K m r (P ^ K - 1) := by
  rcases h with ⟨h1, h2, h3, _⟩ | ⟨_, h⟩
  · exact ⟨h1, h2, h3⟩
  · obtain ⟨g, hg1, hg, ho⟩ := hg
    exact absurd ho (h g hg1 hg)
end

theorem tab_ord : genTab.all (fun r => (List.range (r.1 ^ r.2.1 - 1)).all fun j => j == 0 || r.2.2.2.2.2.getD j 0 != 1) = true := by decide +kernel
theorem good_ord {P K : Nat} {l : List Int} (hG : GoodF P K l) : ∃ g, 1 ≤ g ∧ g < P ^ K ∧ IsOrd P K (monL l) g (P ^ K - 1) := by
  obtain ⟨h0, h1, h2, h3⟩ := hG.fault.ok
  rw [Int.toNat_natCast, Int.toNat_natCast] at h3
  have hR := hG.field.toRing1
  have h1q := one_lt hR
  obtain ⟨n, s, c, L, hmem, hm⟩ := row_of_irr (ord_parts h0).1 hR.one hG.le64 hG.len h2 h3
  have hT := tab_of_row hR hm (List.all_eq_true.1 gen_ok _ hmem)
  have ho := List.all_eq_true.1 tab_ord _ hmem
  simp only [List.all_eq_true, List.mem_range, Bool.or_eq_true, beq_iff_eq, bne_iff_ne] at ho
  obtain ⟨g, hg, hpow, hone⟩ := hT.pows
  refine ⟨g, ?_, hg, by omega, hone, fun j hj1 hj2 e => ?_⟩
  · apply Classical.byContradiction
    intro h
    rw [show g = 0 by omega, powQ_zero_pos hR _ (by omega)] at hone
    omega
  · rcases ho j hj2 with h | h
    · omega
    · exact h (by rw [hpow j hj2]; exact e)
theorem add_Q (P K a b : Nat) (Q : Int) (m : Nat → Int) (w : World) (hP : 2 ≤ P) (hP' : P ≤ 64) (hK : 1 ≤ K) (hK' : K ≤ 6) (hPK : P ^ K ≤ 64) (ha : a < P ^ K) (hb : b < P ^ K) (s : Nat) (hs : Hid (s = addQ P K a b)) :
    Calls Tryd.prog 104 #[.agg (ringRow P K Q m), .int .i64 a, .int .i64 b] w fun e w' => e = .returned (.int .i64 s) ∧ Below w.heap.size w w' := by
  have h := add_any P K a b Q m w hP hP' hK hK' hPK ha hb
  rw [← addQ_cast hP, ← hs.out] at h
  exact h

set_option maxRecDepth 100000 in
set_option maxHeartbeats 1000000 in
theorem trace_any (P K a : Nat) (Q : Int) (m : Nat → Int) (w : World) (hR : Ring1 P K m) (hP' : P ≤ 64) (hK' : K ≤ 6) (hPK : P ^ K ≤ 64) (ha : a < P ^ K) :
    Calls Tryd.prog 117 #[.agg (ringRow P K Q m), .int .i64 a] w fun e w' => ∃ t : Nat, e = .returned (.int .i64 t) ∧ Hid (t = trQ P K m K 0 a) ∧ Below w.heap.size w w' := by
  obtain ⟨fs, hu⟩ := und53
  have hRB0 := RB.made w P K Q m
  have h1q := one_lt hR
  have hP2 := hR.two
  have hc1 : (w.alloc (.cells (ringRow P K Q m) 105)).cell? ⟨w.heap.size, 1, none⟩ = some (.int .i64 K) := cell_of_row _ _ _ _ _ _ hRB0
  go_enter Tryd.func117, Tryd.ntmps117
  go_wp2
  go_loopw [1, 5, 8] (fun x s i wr => ∃ j b c : Nat, i = .int .i64 j ∧ x = .int .i64 b ∧ s = .int .i64 c ∧ j ≤ K ∧ b < P ^ K ∧ c < P ^ K ∧ Hid (trQ P K m (K - j) c b = trQ P K m K 0 a) ∧ RB wr w.heap.size P K Q m ∧ Below w.heap.size w wr) (fun _ _ i _ => (K - intOf i).toNat)
  case atStart => exact ⟨0, a, 0, rfl, rfl, rfl, by omega, ha, by omega, (rfl : trQ P K m (K - 0) 0 a = trQ P K m K 0 a), hRB0, (Below.refl _ _).alloc (Nat.le_refl _) _⟩
  case round =>
    clear hRB0
    obtain ⟨j, b, c, rfl, rfl, rfl, hj, hb, hc, HI, hRB, hB⟩ := hrel
    by_cases hlt : j < K
    · obtain ⟨s, Hs⟩ : ∃ s, Hid (s = addQ P K c b) := ⟨_, rfl⟩
      obtain ⟨y, Hy⟩ : ∃ y, Hid (y = powQ P K m b ((P : Int)).toNat) := ⟨_, rfl⟩
      have hs : s < P ^ K := by rw [Hs.out]; exact addQ_lt hR c b
      have hy : y < P ^ K := by rw [Hy.out]; exact powQ_lt hR b _
      have hdec : decide ((j : Int) < K) = true := by simp; omega
      have HN : Hid (trQ P K m (K - (j + 1)) s y = trQ P K m K 0 a) := by
        show trQ P K m (K - (j + 1)) s y = trQ P K m K 0 a
        rw [← HI.out, show K - j = (K - (j + 1)) + 1 by omega, Hs.out, Hy.out, Int.toNat_natCast]
        rfl
      go_wp2_with (first
        | (refine wpList_load_row rfl 105 _ rfl w.heap.size rfl 105 _ (0, 0) _ hRB hu rfl (inf53 _ _ _ _) ?_))
      refine (add_Q P K c b Q m _ hR.two hP' hR.one hK' hPK hc hb s Hs).mono ?_
      rintro e w1 ⟨rfl, hb1⟩
      have hRB1 := hRB.below hb1
      have hB1 : Below w.heap.size w w1 := hB.trans (hb1.mono hB.size)
      have hc0 : w1.cell? ⟨w.heap.size, 0, none⟩ = some (.int .i64 P) := cell_of_row _ _ _ _ _ _ hRB1
      go_wp2_with (first
        | (refine wpList_load_row rfl 105 _ rfl w.heap.size rfl 105 _ (0, 0) _ hRB1 hu rfl (inf53 _ _ _ _) ?_))
      refine (pow_any P K b _ Q m _ hR hP' hK' hPK hb (by omega) (by omega) y Hy).mono ?_
      rintro e w2 ⟨rfl, hb2⟩
      have hRB2 := hRB1.below hb2
      have hB2 : Below w.heap.size w w2 := hB1.trans (hb2.mono hB1.size)
      go_wp2
      go_roundw
      case rel => exact ⟨j + 1, y, s, by go_num, rfl, rfl, by omega, hy, hs, HN, hRB2, hB2⟩
      case measure => simp [intOf]; omega
    · go_wp2
      go_ret
      have h := HI.out
      rw [show K - j = 0 by omega] at h
      exact ⟨c, rfl, h, hB⟩

end Go.Proofs.YtjfjdidibglhaabDoor.Fd

namespace Go.Proofs.YtjfjdidibglhaabDoor.Fd
open Go.RowKit

theorem OpenIs.one {p k : Int} {l es : List Int} {z z' : Int} (h : OpenIs p k l es z) (h' : OpenIs p k l es z') : z = z' := by
  rcases h with ⟨h0, h⟩ | ⟨h, hi, rfl⟩ | ⟨h, hi, rfl⟩
  · rcases h' with ⟨_, h'⟩ | ⟨h', _, _⟩ | ⟨h', _, _⟩
    · exact h.one h'
    · exact absurd (h.one h') h0
    · exact absurd (h.one h') h0
  · exact (open_out h hi h').symm
  · exact (open_in h hi h').symm

set_option maxRecDepth 100000 in
set_option maxHeartbeats 1000000 in
theorem TraceG (P K a : Nat) (l : List Int) (v : Value) (w : World) (hT : Tab w) (hl : Sl w v l) (hll : l.length ≤ maxLen) (hG : GoodF P K l) (ha : a < P ^ K) :
    Calls Tryd.prog 96 #[.agg #[.int .i64 P, .int .i64 K, v], .int .i64 a] w fun e w' => ∃ t : Nat, e = .returned (.tuple #[.int .i64 t, .int .i64 0]) ∧ Hid (t = trQ P K (monL l) K 0 a) ∧ Below w.heap.size w w' := by
  obtain ⟨A, ca, rfl, _⟩ := id hl
  have hbx : Below w.heap.size w ((w.alloc (.cells #[.int .i64 P, .int .i64 K, .slice A l.length ca] 24)).alloc (.cells #[.int .i64 a] 3)) := ((Below.refl _ _).alloc (Nat.le_refl _) _).alloc (by simp) _
  have hpair := sl_one (w.alloc (.cells #[.int .i64 P, .int .i64 K, .slice A l.length ca] 24)) a
  simp only [World.size_alloc] at hpair
  obtain ⟨fs, hu⟩ := und53
  go_enter Tryd.func96, Tryd.ntmps96
  go_wp2_with fail
  refine (open_any P K l [(a : Int)] _ _ _ (hT.below hbx) (hl.below hbx) hpair hll (by simp [maxLen])).mono ?_
  rintro e w1 ⟨z, x, y, c, f, rfl, hO, HZ, hb1⟩
  have hB1 : Below w.heap.size w w1 := hbx.trans (hb1.mono hbx.size)
  obtain rfl := open_in hG.fault (in_one hG ha) hO
  obtain ⟨rfl, rfl, rfl, rfl⟩ := HZ.out rfl
  have hnew : RB (w1.alloc (.cells #[.int .i64 0, .int .i64 0, .int .i64 0, .int .i64 0, .int .i64 0, .int .i64 0, .int .i64 0, .int .i64 0, .int .i64 0, .int .i64 0, .int .i64 0, .int .i64 0, .int .i64 0, .int .i64 0] 105)) w1.heap.size 0 0 0 (fun _ => 0) := RB.made w1 0 0 0 (fun _ => 0)
  have hRB := hnew.whole P K (ordZ (P : Int) K) (monL l)
  have hBA : Below w.heap.size w ((w1.alloc (.cells #[.int .i64 0, .int .i64 0, .int .i64 0, .int .i64 0, .int .i64 0, .int .i64 0, .int .i64 0, .int .i64 0, .int .i64 0, .int .i64 0, .int .i64 0, .int .i64 0, .int .i64 0, .int .i64 0] 105)).setRow w1.heap.size (ringRow P K (ordZ (P : Int) K) (monL l))) := bsetRow (hB1.alloc hB1.size _) hB1.size _
  clear hpair hO HZ
  go_wp2_with (first
    | (refine wpList_store_row rfl 105 _ _ rfl w1.heap.size _ rfl rfl 105 _ hnew (inf53 _ _ _ _) rfl (ringRow_one _ _ _ _) ?_)
    | (refine wpList_load_row rfl 105 _ rfl w1.heap.size rfl 105 _ (0, 0) _ hRB hu rfl (inf53 _ _ _ _) ?_))
  refine (trace_any P K a _ (monL l) _ hG.field.toRing1 (by have := hG.le61; omega) hG.le6 hG.le64 ha).mono ?_
  rintro e w2 ⟨t, rfl, ht, hb2⟩
  go_wp2
  go_ret2
  exact ⟨t, rfl, ht, hBA.trans (hb2.mono hBA.size)⟩

end Go.Proofs.YtjfjdidibglhaabDoor.Fd

/- The walks of Check, Root and Squares. -/
namespace Go.Proofs.YtjfjdidibglhaabDoor.Fd
open Go.RowKit

theorem open_nil {p k : Int} {l : List Int} {z : Int} (h : OpenIs p k l [] z) : FaultIs p k l z := by
  rcases h with ⟨_, h⟩ | ⟨_, h, _⟩ | ⟨h, _, rfl⟩
  · exact h
  · exact absurd (fun j hj => by simp at hj) h
  · exact h

set_option maxRecDepth 100000 in
set_option maxHeartbeats 1000000 in
theorem Check_any (p k : Int) (l : List Int) (v : Value) (w : World) (hT : Tab w) (hl : Sl w v l) (hll : l.length ≤ maxLen) :
    Calls Tryd.prog 47 #[.agg #[.int .i64 p, .int .i64 k, v]] w fun e w' => ∃ z : Int, e = .returned (.int .i64 z) ∧ FaultIs p k l z ∧ Below w.heap.size w w' := by
  obtain ⟨A, ca, rfl, _⟩ := id hl
  have hbx : Below w.heap.size w (w.alloc (.cells #[.int .i64 p, .int .i64 k, .slice A l.length ca] 24)) := (Below.refl _ _).alloc (Nat.le_refl _) _
  go_enter Tryd.func47, Tryd.ntmps47
  go_wp2_with fail
  refine (open_any p k l [] _ _ _ (hT.below hbx) (hl.below hbx) (Sl.nil _) hll (by simp)).mono ?_
  rintro e w1 ⟨z, x, y, c, f, rfl, hO, HZ, hb1⟩
  have hB1 : Below w.heap.size w w1 := hbx.trans (hb1.mono hbx.size)
  have HO : Hid (FaultIs p k l z) := open_nil hO
  have hnew : RB (w1.alloc (.cells #[.int .i64 0, .int .i64 0, .int .i64 0, .int .i64 0, .int .i64 0, .int .i64 0, .int .i64 0, .int .i64 0, .int .i64 0, .int .i64 0, .int .i64 0, .int .i64 0, .int .i64 0, .int .i64 0] 105)) w1.heap.size 0 0 0 (fun _ => 0) := RB.made w1 0 0 0 (fun _ => 0)
  have hBA : Below w.heap.size w ((w1.alloc (.cells #[.int .i64 0, .int .i64 0, .int .i64 0, .int .i64 0, .int .i64 0, .int .i64 0, .int .i64 0, .int .i64 0, .int .i64 0, .int .i64 0, .int .i64 0, .int .i64 0, .int .i64 0, .int .i64 0] 105)).setRow w1.heap.size (ringRow x y c f)) := bsetRow (hB1.alloc hB1.size _) hB1.size _
  clear hO HZ
  go_wp2_with (first
    | (refine wpList_store_row rfl 105 _ _ rfl w1.heap.size _ rfl rfl 105 _ hnew (inf53 _ _ _ _) rfl (ringRow_one _ _ _ _) ?_))
  go_ret
  exact ⟨z, rfl, HO.out, hBA⟩

set_option maxRecDepth 100000 in
set_option maxHeartbeats 1000000 in
theorem Root_any (p k : Int) (l : List Int) (v : Value) (w : World) (hT : Tab w) (hl : Sl w v l) (hll : l.length ≤ maxLen) :
    Calls Tryd.prog 94 #[.agg #[.int .i64 p, .int .i64 k, v]] w fun e w' => ∃ r z : Int, e = .returned (.tuple #[.int .i64 r, .int .i64 z]) ∧ FaultIs p k l z ∧ Hid (z ≠ 0 → r = 0) ∧ Hid (z = 0 → ∃ R : Nat, r = R ∧ RootIs p.toNat k.toNat (monL l) R) ∧ Below w.heap.size w w' := by
  obtain ⟨A, ca, rfl, _⟩ := id hl
  have hbx : Below w.heap.size w (w.alloc (.cells #[.int .i64 p, .int .i64 k, .slice A l.length ca] 24)) := (Below.refl _ _).alloc (Nat.le_refl _) _
  obtain ⟨fs, hu⟩ := und53
  go_enter Tryd.func94, Tryd.ntmps94
  go_wp2_with fail
  refine (open_any p k l [] _ _ _ (hT.below hbx) (hl.below hbx) (Sl.nil _) hll (by simp)).mono ?_
  rintro e w1 ⟨z, x, y, c, f, rfl, hO, HZ, hb1⟩
  have hB1 : Below w.heap.size w w1 := hbx.trans (hb1.mono hbx.size)
  have HO : Hid (FaultIs p k l z) := open_nil hO
  have hnew : RB (w1.alloc (.cells #[.int .i64 0, .int .i64 0, .int .i64 0, .int .i64 0, .int .i64 0, .int .i64 0, .int .i64 0, .int .i64 0, .int .i64 0, .int .i64 0, .int .i64 0, .int .i64 0, .int .i64 0, .int .i64 0] 105)) w1.heap.size 0 0 0 (fun _ => 0) := RB.made w1 0 0 0 (fun _ => 0)
  have hBA : Below w.heap.size w ((w1.alloc (.cells #[.int .i64 0, .int .i64 0, .int .i64 0, .int .i64 0, .int .i64 0, .int .i64 0, .int .i64 0, .int .i64 0, .int .i64 0, .int .i64 0, .int .i64 0, .int .i64 0, .int .i64 0, .int .i64 0] 105)).setRow w1.heap.size (ringRow x y c f)) := bsetRow (hB1.alloc hB1.size _) hB1.size _
  clear hO
  by_cases hz : z = 0
  · subst hz
    obtain ⟨rfl, rfl, rfl, rfl⟩ := HZ.out rfl
    obtain ⟨P, K, rfl, rfl, hG⟩ := good_of HO.out
    obtain ⟨q, HQ⟩ : ∃ q : Nat, Hid (q = P ^ K) := ⟨_, rfl⟩
    have HO2 : Hid (ordZ (P : Int) K = (q : Int)) := by
      show ordZ (P : Int) K = (q : Int)
      rw [hG.ord, HQ.out]
    rw [HO2.out] at hBA
    clear HZ
    rw [HO2.out]
    go_wp2_with (first
      | (refine wpList_store_row rfl 105 _ _ rfl w1.heap.size _ rfl rfl 105 _ hnew (inf53 _ _ _ _) rfl (ringRow_one _ _ _ _) ?_)
      | (refine wpList_load_row rfl 105 _ rfl w1.heap.size rfl 105 _ (0, 0) _ (hnew.whole _ _ _ _) hu rfl (inf53 _ _ _ _) ?_))
    refine (root_any P K q (monL l) _ hG.field (by have := hG.le61; omega) hG.le6 hG.le64 HQ).mono ?_
    rintro e w2 ⟨R, rfl, hRt, hb2⟩
    have HRt : Hid (RootIs P K (monL l) R) := hRt
    clear hRt
    go_wp2
    go_ret2
    exact ⟨_, _, rfl, HO.out, (fun h => absurd rfl h : (0 : Int) ≠ 0 → _), (fun _ => ⟨R, rfl, by rw [Int.toNat_natCast, Int.toNat_natCast]; exact HRt.out⟩ : (0 : Int) = 0 → _), hBA.trans (hb2.mono hBA.size)⟩
  · have hzb : (z != 0) = true := by simpa using hz
    go_wp2_with (first
      | (refine wpList_store_row rfl 105 _ _ rfl w1.heap.size _ rfl rfl 105 _ hnew (inf53 _ _ _ _) rfl (ringRow_one _ _ _ _) ?_))
    go_ret2
    exact ⟨0, z, rfl, HO.out, (fun _ => rfl : z ≠ 0 → _), (fun h => absurd h hz : z = 0 → _), hBA⟩

end Go.Proofs.YtjfjdidibglhaabDoor.Fd

/- The walks of the document's Inverse, Power, LogOf and TraceOf on a true field. -/
namespace Go.Proofs.YtjfjdidibglhaabDoor.Fd
open Go.RowKit

theorem pow_succ {P K : Nat} {m : Nat → Int} (hR : Ring1 P K m) (a j : Nat) : mulQ P K m (powQ P K m a j) a = powQ P K m a (j + 1) := mulQ_comm hR _ _

end Go.Proofs.YtjfjdidibglhaabDoor.Fd

/- Singer's sets; the walks of directions and traceless. -/
namespace Go.Proofs.YtjfjdidibglhaabDoor
open Go.RowKit

/-- 1 + p + p p + .. -/
def rep (P : Nat) : Nat → Nat
  | 0 => 0
  | n + 1 => rep P n * P + 1
theorem rep_pow {P : Nat} (hP : 1 ≤ P) : ∀ n, (P - 1) * rep P n + 1 = P ^ n
  | 0 => by simp [rep]
  | n + 1 => by
    have h := rep_pow hP n
    obtain ⟨q, hq⟩ : ∃ q, P = q + 1 := ⟨P - 1, by omega⟩
    rw [rep, Nat.pow_succ, ← h, hq, Nat.add_sub_cancel, Nat.mul_add, Nat.mul_one, Nat.add_mul, Nat.one_mul, ← Nat.mul_assoc]
    omega
theorem rep_le {P n : Nat} (hP : 2 ≤ P) (h : P ^ n ≤ 64) : rep P n ≤ 63 := by
  have h1 := rep_pow (P := P) (by omega) n
  have h2 : 1 * rep P n ≤ (P - 1) * rep P n := Nat.mul_le_mul_right _ (by omega)
  omega
theorem rep_mono {P i n : Nat} (hP : 1 ≤ P) (h : i ≤ n) : rep P i ≤ rep P n := by
  induction n with
  | zero => obtain rfl : i = 0 := by omega
            exact Nat.le_refl _
  | succ n ih =>
    by_cases e : i = n + 1
    · rw [e]; exact Nat.le_refl _
    · refine Nat.le_trans (ih (by omega)) ?_
      rw [rep]
      have := Nat.mul_le_mul_left (rep P n) hP
      omega
/-- The numbers to whose powers the root has no trace. -/
def sgL (P K : Nat) (m : Nat → Int) (R v : Nat) : List Nat := (List.range v).filter fun i => Fd.trQ P K m K 0 (Fd.powQ P K m R i) == 0
theorem good_root {P K R : Nat} {l : List Int} (hG : Fd.GoodF P K l) (h : Fd.RootIs P K (Fd.monL l) R) : R < P ^ K := (Fd.root_pos (Fd.good_ord hG) h).2.1
theorem RootG (P K : Nat) (l : List Int) (v : Value) (w : World) (hT : Fd.Tab w) (hl : Sl w v l) (hG : Fd.GoodF P K l) :
    Calls Tryd.prog 94 #[.agg #[.int .i64 (P : Int), .int .i64 (K : Int), v]] w fun e w' => ∃ R : Nat, e = .returned (.tuple #[.int .i64 (R : Int), .int .i64 0]) ∧ Fd.RootIs P K (Fd.monL l) R ∧ Below w.heap.size w w' := by
  refine (Fd.Root_any (P : Int) K l v w hT hl (by rw [hG.len]; have := hG.le6; unfold maxLen; omega)).mono ?_
  rintro e w' ⟨r, z, rfl, hF, _, h0, hb⟩
  obtain rfl := hF.one hG.fault
  obtain ⟨R, rfl, hR⟩ := h0.out rfl
  rw [Int.toNat_natCast, Int.toNat_natCast] at hR
  exact ⟨R, rfl, hR, hb⟩
set_option maxRecDepth 100000 in
set_option maxHeartbeats 4000000 in
theorem directions_any (P K : Nat) (v : Value) (w : World) (hP : 2 ≤ P) (hP' : P ≤ 61) (hK : K ≤ 6) (h64 : P ^ K ≤ 64) (hv : ∃ a n c, v = .slice a n c) :
    Calls Tryd.prog 61 #[.agg #[.int .i64 (P : Int), .int .i64 (K : Int), v]] w fun e w' => e = .returned (.int .i64 (rep P K : Int)) ∧ Below w.heap.size w w' := by
  obtain ⟨a, n, c, rfl⟩ := hv
  have HM : Hid (∀ i, i ≤ K → rep P i ≤ 63) := fun i hi => Nat.le_trans (rep_mono (by omega) hi) (rep_le hP h64)
  have HU : Hid (∀ i, rep P (i + 1) = rep P i * P + 1) := fun _ => rfl
  have H0 : Hid (rep P 0 = 0) := rfl
  have hF := Fd.FB.made w (P : Int) (K : Int) (.slice a n c)
  obtain ⟨f0, f1, _⟩ := hF.cells
  have hb := balloc w (.cells #[.int .i64 (P : Int), .int .i64 (K : Int), .slice a n c] 24)
  have HBB : Hid (Below w.heap.size w (w.alloc (.cells #[.int .i64 (P : Int), .int .i64 (K : Int), .slice a n c] 24))) := hb
  obtain ⟨r, Hr⟩ : ∃ r : Nat → Nat, Hid (∀ i, rep P i = r i) := ⟨fun i => rep P i, fun _ => rfl⟩
  have HM2 : Hid (∀ i, i ≤ K → r i ≤ 63) := fun i hi => by rw [← Hr.out]; exact HM.out i hi
  have HU2 : Hid (∀ i, r (i + 1) = r i * P + 1) := fun i => by rw [← Hr.out, ← Hr.out]; exact HU.out i
  have H02 : Hid (r 0 = 0) := by show _ = _; rw [← Hr.out]; exact H0.out
  rw [Hr.out]
  clear HM HU H0 Hr h64 hb hF
  go_enter Tryd.func61, Tryd.ntmps61
  go_wp2
  go_loopw [3, 6] (fun ov iv wr => ∃ i : Nat, iv = .int .i64 (i : Int) ∧ i ≤ K ∧ ov = .int .i64 (r i : Int) ∧ wr = w.alloc (.cells #[.int .i64 (P : Int), .int .i64 (K : Int), .slice a n c] 24)) (fun _ iv _ => (K - intOf iv).toNat)
  case atStart => exact ⟨0, rfl, by omega, by rw [H02.out]; rfl, rfl⟩
  case round =>
    obtain ⟨i, rfl, hi, rfl, rfl⟩ := hrel
    by_cases hlt : i < K
    · have hii : (i : Int) < K := by omega
      have hdec : decide ((i : Int) < K) = true := by simp; omega
      have h1 := HM2.out (i + 1) (by omega)
      have h2 := HM2.out i hi
      have hU := HU2.out i
      obtain ⟨x, Hx⟩ : ∃ x, Hid (r i = x) := ⟨_, rfl⟩
      obtain ⟨y, Hy⟩ : ∃ y, Hid (r (i + 1) = y) := ⟨_, rfl⟩
      rw [Hx.out] at hU h2 ⊢
      rw [Hy.out] at hU h1
      obtain ⟨m, hm⟩ : ∃ m, x * P = m := ⟨_, rfl⟩
      have hmi : (x : Int) * (P : Int) = (m : Int) := by rw [← hm]; simp
      rw [hm] at hU
      have hmb : m ≤ 63 := by omega
      have HYY : Hid ((m : Int) + 1 = (y : Int)) := by show _ = _; omega
      clear hm hU HM2 HU2 H02
      go_wp2
      go_roundw
      case rel => exact ⟨i + 1, by go_num, by omega, by rw [Hy.out, ← HYY.out], by first | rfl | trivial⟩
      case measure => simp [intOf]; omega
    · have hdec : decide ((i : Int) < K) = false := by simp; omega
      obtain rfl : i = K := by omega
      go_wp2
      go_ret
      exact ⟨rfl, HBB.out⟩

end Go.Proofs.YtjfjdidibglhaabDoor

/- The walk of traceless. -/
namespace Go.Proofs.YtjfjdidibglhaabDoor
open Go.RowKit

set_option maxRecDepth 100000 in
set_option maxHeartbeats 8000000 in
theorem traceless_any (P K n : Nat) (l : List Int) (v : Value) (w : World) (hT : Fd.Tab w) (hl : Sl w v l) (hG : Fd.GoodF P K l) (hn : n ≤ 60) :
    Calls Tryd.prog 62 #[.agg #[.int .i64 (P : Int), .int .i64 (K : Int), v], .int .i64 (n : Int)] w fun e w' => ∃ (R : Nat) (x : Value), e = .returned x ∧ Fd.RootIs P K (Fd.monL l) R ∧ ORow w' w.heap.size x (sgL P K (Fd.monL l) R n) ∧ Below w.heap.size w w' := by
  have hll : l.length ≤ maxLen := by rw [hG.len]; have := hG.le6; unfold maxLen; omega
  have HR : Hid (∀ W, Below w.heap.size w W → Calls Tryd.prog 94 #[.agg #[.int .i64 (P : Int), .int .i64 (K : Int), v]] W fun e w' => ∃ R : Nat, e = .returned (.tuple #[.int .i64 (R : Int), .int .i64 0]) ∧ Fd.RootIs P K (Fd.monL l) R ∧ Below W.heap.size W w') := fun W b => RootG P K l v W (hT.below b) (hl.below b) hG
  have HP : Hid (∀ (R i : Nat) (W : World), Fd.RootIs P K (Fd.monL l) R → i ≤ 60 → Below w.heap.size w W → Calls Tryd.prog 95 #[.agg #[.int .i64 (P : Int), .int .i64 (K : Int), v], .int .i64 (R : Int), .int .i64 (i : Int)] W fun e w' => e = .returned (.tuple #[.int .i64 (Fd.powQ P K (Fd.monL l) R i : Int), .int .i64 0]) ∧ Below W.heap.size W w') := fun R i W hR hi b =>
    Fd.PowG P K R (i : Int) l v W (hT.below b) (hl.below b) hll hG (good_root hG hR) (by omega) (by omega) _ (by show _ = _; rw [Int.toNat_natCast])
  have HTr : Hid (∀ (R i : Nat) (W : World), Below w.heap.size w W → Calls Tryd.prog 96 #[.agg #[.int .i64 (P : Int), .int .i64 (K : Int), v], .int .i64 (Fd.powQ P K (Fd.monL l) R i : Int)] W fun e w' => e = .returned (.tuple #[.int .i64 (Fd.trQ P K (Fd.monL l) K 0 (Fd.powQ P K (Fd.monL l) R i) : Int), .int .i64 0]) ∧ Below W.heap.size W w') := fun R i W b => by
    refine (Fd.TraceG P K (Fd.powQ P K (Fd.monL l) R i) l v W (hT.below b) (hl.below b) hll hG (Fd.powQ_lt hG.field.toRing1 R i)).mono ?_
    rintro e w' ⟨t, rfl, ht, hb⟩
    rw [ht.out]
    exact ⟨rfl, hb⟩
  obtain ⟨A, HA⟩ : ∃ A : Nat → Nat → Nat, Hid (∀ R i, Fd.powQ P K (Fd.monL l) R i = A R i) := ⟨fun R i => Fd.powQ P K (Fd.monL l) R i, fun _ _ => rfl⟩
  obtain ⟨B, HB⟩ : ∃ B : Nat → Nat → Nat, Hid (∀ R i, Fd.trQ P K (Fd.monL l) K 0 (Fd.powQ P K (Fd.monL l) R i) = B R i) := ⟨fun R i => Fd.trQ P K (Fd.monL l) K 0 (Fd.powQ P K (Fd.monL l) R i), fun _ _ => rfl⟩
  have HP2 : Hid (∀ (R i : Nat) (W : World), Fd.RootIs P K (Fd.monL l) R → i ≤ 60 → Below w.heap.size w W → Calls Tryd.prog 95 #[.agg #[.int .i64 (P : Int), .int .i64 (K : Int), v], .int .i64 (R : Int), .int .i64 (i : Int)] W fun e w' => e = .returned (.tuple #[.int .i64 (A R i : Int), .int .i64 0]) ∧ Below W.heap.size W w') := fun R i W hR hi b => by rw [← HA.out]; exact HP.out R i W hR hi b
  have HT2 : Hid (∀ (R i : Nat) (W : World), Below w.heap.size w W → Calls Tryd.prog 96 #[.agg #[.int .i64 (P : Int), .int .i64 (K : Int), v], .int .i64 (A R i : Int)] W fun e w' => e = .returned (.tuple #[.int .i64 (B R i : Int), .int .i64 0]) ∧ Below W.heap.size W w') := fun R i W b => by rw [← HA.out, ← HB.out]; exact HTr.out R i W b
  obtain ⟨F, HF⟩ : ∃ F : Nat → Nat → List Nat, Hid (∀ R k, sgL P K (Fd.monL l) R k = F R k) := ⟨fun R k => sgL P K (Fd.monL l) R k, fun _ _ => rfl⟩
  have HU : Hid (∀ R k, F R (k + 1) = F R k ++ if (B R k == 0) = true then [k] else []) := fun R k => by rw [← HF.out, ← HF.out, ← HB.out]; exact ran_up _ k
  have HLn : Hid (∀ R k, (F R k).length ≤ k) := fun R k => by rw [← HF.out]; exact Nat.le_trans (List.length_filter_le _ _) (by simp)
  have HF0 : Hid (∀ R, F R 0 = []) := fun R => by rw [← HF.out]; rfl
  have HFin : Hid (∀ R, F R n = sgL P K (Fd.monL l) R n) := fun R => by rw [HF.out]
  obtain ⟨a, c, rfl, _⟩ := id hl
  obtain ⟨i3, hi3, hz0, hz1, hz2⟩ := info3
  have hF0 := Fd.FB.made w (P : Int) (K : Int) (.slice a l.length c)
  have hb0 := balloc w (.cells #[.int .i64 (P : Int), .int .i64 (K : Int), .slice a l.length c] 24)
  obtain ⟨W0, HW0⟩ : ∃ W0, Hid (w.alloc (.cells #[.int .i64 (P : Int), .int .i64 (K : Int), .slice a l.length c] 24) = W0) := ⟨_, rfl⟩
  obtain ⟨s1, Hs1⟩ : ∃ s1, Hid (w.heap.size + 1 = s1) := ⟨_, rfl⟩
  have hsz : W0.heap.size = s1 := by rw [← HW0.out, ← Hs1.out]; simp
  have hFc := hF0.cells
  have HFB : Hid (∀ W, Below s1 W0 W → Fd.FB W w.heap.size P K (.slice a l.length c)) := fun W b => by rw [HW0.out] at hF0; exact hF0.below (by rw [hsz]; exact b)
  have HBW : Hid (∀ W, Below s1 W0 W → Below w.heap.size w W) := fun W b => by rw [HW0.out] at hb0; exact hb0.trans (b.mono (by have := Hs1.out; omega))
  generalize l.length = ln at *
  have hsl : w.heap.size ≤ s1 := by have := Hs1.out; omega
  clear hF0 hb0 hG hT hl hll HP HTr HA HB HF
  go_enter Tryd.func62, Tryd.ntmps62
  go_wp2_with fail
  rw [HW0.out]
  refine (HR.out W0 (HBW.out _ (Below.refl _ _))).mono ?_
  rintro e w1 ⟨R, rfl, hRt, hb1⟩
  have hB1 : Below s1 W0 w1 := by rw [hsz] at hb1; exact hb1
  have HRt : Hid (Fd.RootIs P K (Fd.monL l) R) := hRt
  clear HR hFc hb1 hRt
  go_wp2
  go_loopw [7, 19] (fun ov iv wr => ∃ i : Nat, iv = .int .i64 (i : Int) ∧ i ≤ n ∧ ORow wr s1 ov (F R i) ∧ Below s1 W0 wr) (fun _ iv _ => (n - intOf iv).toNat)
  case atStart => exact ⟨0, rfl, by omega, by rw [HF0.out]; exact World.ownsRow_nil _ _ _ _, hB1⟩
  case round =>
    clear hB1 HF0
    obtain ⟨i, rfl, hi, hown, hB⟩ := hrel
    have hgs : s1 ≤ wr.heap.size := by rw [← hsz]; exact hB.size
    by_cases hlt : i < n
    · have hii : (i : Int) < n := by omega
      have hdec : decide ((i : Int) < n) = true := by simp; omega
      have C2 := HP2.out R i wr HRt.out (by omega) (HBW.out _ hB)
      have HT3 : Hid (∀ W, Below w.heap.size w W → Calls Tryd.prog 96 #[.agg #[.int .i64 (P : Int), .int .i64 (K : Int), .slice a ln c], .int .i64 (A R i : Int)] W fun e w' => e = .returned (.tuple #[.int .i64 (B R i : Int), .int .i64 0]) ∧ Below W.heap.size W w') := HT2.out R i
      have hU := HU.out R i
      have hL := HLn.out R i
      have hFc := (HFB.out _ hB).cells
      obtain ⟨ar, Har⟩ : ∃ ar, Hid (A R i = ar) := ⟨_, rfl⟩
      obtain ⟨br, Hbr⟩ : ∃ br, Hid (B R i = br) := ⟨_, rfl⟩
      obtain ⟨ll, Hll⟩ : ∃ ll, Hid (F R i = ll) := ⟨_, rfl⟩
      rw [Har.out] at C2 HT3
      rw [Hbr.out] at HT3 hU
      rw [Hll.out] at hU hL hown
      unfold ORow at hown
      obtain ⟨oa, oc, rfl⟩ := own_form hown
      have HUU : Hid (F R (i + 1) = ll ++ if (br == 0) = true then [i] else []) := hU
      clear hU HP2 HT2 HU HLn HFin
      go_wp2_with fail
      refine C2.mono ?_
      rintro e w2 ⟨rfl, hb2⟩
      have hB2 : Below s1 W0 w2 := hB.trans (hb2.mono hgs)
      have hown2 := own_keep hown fun b _ hb => hb2.block b hb
      have C3 := HT3.out _ (HBW.out _ hB2)
      have hgs2 : s1 ≤ w2.heap.size := by rw [← hsz]; exact hB2.size
      clear C2 HT3 hFc hb2 hown hB
      have hFc := (HFB.out _ hB2).cells
      go_wp2_with fail
      refine C3.mono ?_
      rintro e w3 ⟨rfl, hb3⟩
      have hB3 : Below s1 W0 w3 := hB2.trans (hb3.mono hgs2)
      have hown3 := own_keep hown2 fun b _ hb => hb3.block b hb
      have hgs3 : s1 ≤ w3.heap.size := by rw [← hsz]; exact hB3.size
      clear C3 hFc hb3 hown2 hB2
      by_cases hbr : br = 0
      · subst hbr
        have HU1 : Hid (F R (i + 1) = ll ++ [i]) := by show _ = _; rw [HUU.out]; simp
        clear HUU
        go_wp2_with (first
          | (at_builtin; refine wpList_append_own _ rfl _ _ 22 rfl s1 3 i3 (.int .i64 0) 1 8 und22 hi3 hz0 hz1 hz2 rfl (by decide) _ _ _ rfl (hown3.alloc _) ⟨w3.heap.size, 0, none⟩ 1 1 [.int .i64 (i : Int)] rfl rfl (fun j u hj => by (match j, hj with | 0, hj => simp at hj; subst hj; simp [Addr.add])) (fun u hu => by (simp at hu; subst hu; rfl)) (by (unfold maxLen; omega)) (by omega) (by (simp; omega)) ?_; intro v' w4 hown' hgrow _)
          | go_in)
        have hb4 : Below s1 W0 w4 := (hB3.alloc (by omega) _).grown hgrow (by simp; omega) (fun k hk => (hown3.lt k hk).1)
        have hown4 : w4.ownsRow s1 3 1 v' (ll.length + 1) (((ll ++ [i]).map Int.ofNat).map (Value.int .i64)) := by simpa using hown'
        have hown5 : ORow w4 s1 v' (F R (i + 1)) := by
          rw [HU1.out]
          unfold ORow
          rw [List.length_append]
          exact hown4
        clear hown' hown4 hgrow hown3 hB3
        go_roundw
        case rel => exact ⟨i + 1, by go_num, by omega, hown5, hb4⟩
        case measure => simp [intOf]; omega
      · have e1 : ¬ (br : Int) = 0 := by omega
        have e2 : ((br : Int) == 0) = false := by simpa using e1
        have HU1 : Hid (F R (i + 1) = ll) := by show _ = _; rw [HUU.out]; simp [hbr]
        clear HUU
        go_wp2
        go_roundw
        case rel => exact ⟨i + 1, by go_num, by omega, by rw [HU1.out]; exact hown3, hB3⟩
        case measure => simp [intOf]; omega
    · have hdec : decide ((i : Int) < n) = false := by simp; omega
      obtain rfl : i = n := by omega
      rw [HFin.out] at hown
      go_wp2
      go_ret
      exact ⟨R, _, rfl, HRt.out, own_low hown hsl, HBW.out _ hB⟩

end Go.Proofs.YtjfjdidibglhaabDoor

namespace Go.Proofs.YtjfjdidibglhaabDoor
open Go.RowKit

theorem CheckF (p k z : Int) (l : List Int) (v : Value) (w : World) (hT : Fd.Tab w) (hl : Sl w v l) (hll : l.length ≤ maxLen) (hF : Fd.FaultIs p k l z) :
    Calls Tryd.prog 47 #[.agg #[.int .i64 p, .int .i64 k, v]] w fun e w' => e = .returned (.int .i64 z) ∧ Below w.heap.size w w' := by
  refine (Fd.Check_any p k l v w hT hl hll).mono ?_
  rintro e w' ⟨z', rfl, h, hb⟩
  rw [h.one hF]
  exact ⟨rfl, hb⟩
set_option maxRecDepth 100000 in
set_option maxHeartbeats 4000000 in
theorem Singer_ok (P K : Nat) (l : List Int) (v : Value) (w : World) (hT : Fd.Tab w) (hl : Sl w v l) (hll : l.length ≤ maxLen) (hG : Fd.GoodF P K l) (hK : 3 ≤ K) (hr : rep P K ≤ 60) :
    Calls Tryd.prog 29 #[.agg #[.int .i64 (P : Int), .int .i64 (K : Int), v]] w fun e w' => ∃ (R : Nat) (x : Value), e = .returned (.tuple #[.int .i64 (rep P K : Int), x, .int .i64 0]) ∧ Fd.RootIs P K (Fd.monL l) R ∧ ORow w' 0 x (sgL P K (Fd.monL l) R (rep P K)) ∧ Below w.heap.size w w' := by
  obtain ⟨a, c, rfl, _⟩ := id hl
  have hb0 := balloc w (.cells #[.int .i64 (P : Int), .int .i64 (K : Int), .slice a l.length c] 24)
  have C := CheckF P K 0 l _ _ (hT.below hb0) (hl.below hb0) hll hG.fault
  have HD : Hid (∀ W, Calls Tryd.prog 61 #[.agg #[.int .i64 (P : Int), .int .i64 (K : Int), .slice a l.length c]] W fun e w' => e = .returned (.int .i64 (rep P K : Int)) ∧ Below W.heap.size W w') := fun W => directions_any P K _ W hG.field.two hG.le61 hG.le6 hG.le64 ⟨_, _, _, rfl⟩
  have HL : Hid (∀ W, Below w.heap.size w W → Calls Tryd.prog 62 #[.agg #[.int .i64 (P : Int), .int .i64 (K : Int), .slice a l.length c], .int .i64 (rep P K : Int)] W fun e w' => ∃ (R : Nat) (x : Value), e = .returned x ∧ Fd.RootIs P K (Fd.monL l) R ∧ ORow w' W.heap.size x (sgL P K (Fd.monL l) R (rep P K)) ∧ Below W.heap.size W w') := fun W b => traceless_any P K (rep P K) l _ W (hT.below b) (hl.below b) hG hr
  have hF0 := Fd.FB.made w (P : Int) (K : Int) (.slice a l.length c)
  have hFc := hF0.cells
  generalize l.length = ln at *
  obtain ⟨r, Hr⟩ : ∃ r, Hid (rep P K = r) := ⟨_, rfl⟩
  rw [Hr.out] at HD HL hr ⊢
  have d1 : decide ((K : Int) < 3) = false := by simp; omega
  have d2 : ¬ (K : Int) < 3 := by omega
  have d3 : decide (60 < (r : Int)) = false := by simp; omega
  have d4 : ¬ 60 < (r : Int) := by omega
  clear hT hl hll hG
  go_enter Tryd.func29, Tryd.ntmps29
  go_wp2_with (first
    | (go_at_call 47; refine C.mono ?_; rintro e w1 ⟨rfl, hb⟩; clear C; have HB : Hid (Below w.heap.size w w1) := Below.next hb0 hb; clear hFc; have hF1 := hF0.below hb; have hFc := hF1.cells; clear hb hb0 hF0)
    | (go_at_call 61; refine (HD.out _).mono ?_; rintro e w2 ⟨rfl, hb⟩; clear HD; have HB2 : Hid (Below w.heap.size w w2) := Below.next HB.out hb; clear hFc; have hF2 := hF1.below hb; have hFc := hF2.cells; clear hb hF1)
    | (go_at_call 62; refine (HL.out _ HB2.out).mono ?_; rintro e w3 ⟨R, x, rfl, hR, hx, hb⟩; clear HL; have HB3 : Hid (Below w.heap.size w w3) := Below.next HB2.out hb; have HX : Hid (Fd.RootIs P K (Fd.monL l) R ∧ ORow w3 0 x (sgL P K (Fd.monL l) R r)) := ⟨hR, own_low hx (Nat.zero_le _)⟩; clear hb hFc hF2 hR hx)
    | go_in)
  go_ret3
  exact ⟨R, x, rfl, HX.out.1, HX.out.2, HB3.out⟩

end Go.Proofs.YtjfjdidibglhaabDoor
