/- Proved here: the law TopSteiner is true of whatever blocks are handed in: a system of triples of seven points that Grow tells makes, x times y being the third point of their block and x times x being x, a Latin square that commutes, whose elements are their own squares, and which has fifteen parts. Its conditions: the table of primes and that of math/bits hold what the program's text lays there (tied by the card). -/
import Derived.Test.YtgpkhfpejopacabGreatDoorW25
import Derived.Test.YtgpkhfpejopacabGreatDoorS5
import Derived.Test.YtgpkhfpejopacabGreatDoorB5
import Derived.Test.YtgpkhfpejopacabGreatDoorTGr
import Derived.Test.YtgpkhfpejopacabGreatDoorQPure
import Derived.Test.YtgpkhfpejopacabGreatDoorLAp
import Derived.Test.YtgpkhfpejopacabGreatDoorK3
import Derived.Test.YtgpkhfpejopacabGreatDoorS12
import Derived.Test.YtgpkhfpejopacabGreatDoorDPart
import Derived.Test.YtgpkhfpejopacabGreatDoorY6
import Derived.Test.YtgpkhfpejopacabGreatDoorP25
import Derived.Test.YtgpkhfpejopacabGreatDoorQ10
import Derived.Test.YtgpkhfpejopacabGreatDoorQ5b
import Derived.Test.YtgpkhfpejopacabGreatDoorRAB
import Derived.Test.YtgpkhfpejopacabGreatDoorCards
import Derived.Test.YtgpkhfpejopacabGreatDoorTie
import Derived.SevenTiedAt
/- The walk of TopSteiner. -/
/- The walk of Singer. -/
/- The walks of turns, root and RootOf: the least element whose powers are all. -/
namespace Go.Proofs.YtgpkhfpejopacabGreatDoor.Fd
open Go.RowKit

/-- n is the least number of factors a, one or more, whose product is 1. -/
def IsOrd (P K : Nat) (m : Nat → Int) (a n : Nat) : Prop := 1 ≤ n ∧ powQ P K m a n = 1 ∧ ∀ j, 1 ≤ j → j < n → powQ P K m a j ≠ 1
theorem IsOrd.one {P K : Nat} {m : Nat → Int} {a n n' : Nat} (h : IsOrd P K m a n) (h' : IsOrd P K m a n') : n = n' := by
  apply Classical.byContradiction
  intro e
  by_cases hlt : n < n'
  · exact h'.2.2 n h.1 hlt h.2.1
  · exact h.2.2 n' h'.1 (by omega) h'.2.1
/-- r is the least element whose powers are all but 0, or 0 where there is none. -/
def RootIs (P K : Nat) (m : Nat → Int) (r : Nat) : Prop :=
  (1 ≤ r ∧ r < P ^ K ∧ IsOrd P K m r (P ^ K - 1) ∧ ∀ a, 1 ≤ a → a < r → ¬ IsOrd P K m a (P ^ K - 1)) ∨ (r = 0 ∧ ∀ a, 1 ≤ a → a < P ^ K → ¬ IsOrd P K m a (P ^ K - 1))
theorem RootIs.one {P K : Nat} {m : Nat → Int} {r r' : Nat} (h : RootIs P K m r) (h' : RootIs P K m r') : r = r' := by
  rcases h with ⟨h1, h2, h3, h4⟩ | ⟨rfl, h⟩
  · rcases h' with ⟨h1', h2', h3', h4'⟩ | ⟨rfl, h'⟩
    · apply Classical.byContradiction
      intro e
      by_cases hlt : r < r'
      · exact h4' r h1 hlt h3
      · exact h4 r' h1' (by omega) h3'
    · exact absurd h3 (h' r h1 h2)
  · rcases h' with ⟨h1', h2', h3', h4'⟩ | ⟨rfl, h'⟩
    · exact absurd h3' (h r' h1' h2')
    · rfl
theorem RB.cell2 {w : World} {g : Nat} {p k q : Int} {f : Nat → Int} (h : RB w g p k q f) : w.cell? ⟨g, 2, none⟩ = some (.int .i64 q) := cell_of_row w g 2 _ _ _ h

set_option maxRecDepth 100000 in
set_option maxHeartbeats 1000000 in
theorem turns_any (P K a : Nat) (Q : Int) (m : Nat → Int) (w : World) (hF : FieldQ P K m) (hP' : P ≤ 64) (hK' : K ≤ 6) (hPK : P ^ K ≤ 64) (ha1 : 1 ≤ a) (ha : a < P ^ K) :
    Calls Tryz.prog 168 #[.agg (ringRow P K Q m), .int .i64 a] w fun e w' => ∃ n : Nat, e = .returned (.int .i64 n) ∧ IsOrd P K m a n ∧ n ≤ P ^ K - 1 ∧ Below w.heap.size w w' := by
  obtain ⟨fs, hu⟩ := und53
  have hR := hF.toRing1
  have hfer := fermat hF ha1 ha
  have HFER : Hid (powQ P K m a (P ^ K - 1) = 1) := hfer
  have h1q := one_lt hR
  clear hfer
  go_enter Tryz.func168, Tryz.ntmps168
  go_wp2
  go_loopw [5, 6] (fun n x wr => ∃ j y : Nat, n = .int .i64 j ∧ x = .int .i64 y ∧ 1 ≤ j ∧ j ≤ P ^ K - 1 ∧ Hid (y = powQ P K m a j) ∧ Hid (∀ i, 1 ≤ i → i < j → powQ P K m a i ≠ 1) ∧ RB wr w.heap.size P K Q m ∧ Below w.heap.size w wr) (fun n _ _ => (P ^ K - 1 - (intOf n).toNat))
  case atStart => exact ⟨1, a, rfl, rfl, by omega, by omega, (powQ_first hR ha).symm, (fun i h1 h2 => by omega : ∀ i, 1 ≤ i → i < 1 → _), RB.made w P K Q m, (Below.refl _ _).alloc (Nat.le_refl _) _⟩
  case round =>
    obtain ⟨j, y, rfl, rfl, hj1, hj2, HY, HN, hRB, hB⟩ := hrel
    have hy : y < P ^ K := by rw [HY.out]; exact powQ_lt hR a j
    by_cases h1 : y = 1
    · subst h1
      go_wp2
      go_ret
      exact ⟨j, rfl, ⟨hj1, HY.out.symm, HN.out⟩, hj2, hB⟩
    · have hb1 : ((y : Int) != 1) = true := by simp; omega
      have hlt : j < P ^ K - 1 := by
        apply Classical.byContradiction
        intro h
        have e : j = P ^ K - 1 := by omega
        apply h1
        rw [HY.out, e]; exact HFER.out
      obtain ⟨s, Hs⟩ : ∃ s, Hid (s = mulQ P K m y a) := ⟨_, rfl⟩
      go_wp2_with (first
        | (refine wpList_load_row rfl 161 _ rfl w.heap.size rfl 161 _ (0, 0) _ hRB hu rfl (inf53 _ _ _ _) ?_))
      refine (mul_Q P K y a Q m _ hR hP' hK' hPK hy ha s Hs).mono ?_
      rintro e w1 ⟨rfl, hb2⟩
      have hRB1 := hRB.below hb2
      have hB1 : Below w.heap.size w w1 := hB.trans (hb2.mono hB.size)
      go_wp2
      go_roundw
      case rel =>
        refine ⟨j + 1, s, by go_num, rfl, by omega, by omega, ?_, (fun i h2 h3 => ?_ : ∀ i, 1 ≤ i → i < j + 1 → _), hRB1, hB1⟩
        · show s = mulQ P K m a (powQ P K m a j)
          rw [Hs.out, HY.out, mulQ_comm hR]
        · by_cases e : i = j
          · subst e; rw [← HY.out]; exact h1
          · exact HN.out i h2 (by omega)
      case measure => simp [intOf]; omega

end Go.Proofs.YtgpkhfpejopacabGreatDoor.Fd

/- The walk of root. -/
namespace Go.Proofs.YtgpkhfpejopacabGreatDoor.Fd
open Go.RowKit

theorem RB.all {w W : World} {P K Q : Int} {m : Nat → Int} (h : RB W w.heap.size P K Q m) (hB : Below w.heap.size w W) : W.cell? ⟨w.heap.size, 0, none⟩ = some (.int .i64 P) ∧ W.cell? ⟨w.heap.size, 1, none⟩ = some (.int .i64 K) ∧ W.cell? ⟨w.heap.size, 2, none⟩ = some (.int .i64 Q) ∧ W.cell? ⟨w.heap.size, 3, none⟩ = some (.int .i64 (m 0)) ∧ W.cell? ⟨w.heap.size, 4, none⟩ = some (.int .i64 (m 1)) ∧ W.cell? ⟨w.heap.size, 5, none⟩ = some (.int .i64 (m 2)) ∧ W.cell? ⟨w.heap.size, 6, none⟩ = some (.int .i64 (m 3)) ∧ W.cell? ⟨w.heap.size, 7, none⟩ = some (.int .i64 (m 4)) ∧ W.cell? ⟨w.heap.size, 8, none⟩ = some (.int .i64 (m 5)) ∧ W.cell? ⟨w.heap.size, 9, none⟩ = some (.int .i64 (m 6)) ∧ W.cell? ⟨w.heap.size, 10, none⟩ = some (.int .i64 (m 7)) ∧ W.cell? ⟨w.heap.size, 11, none⟩ = some (.int .i64 (m 8)) ∧ W.cell? ⟨w.heap.size, 12, none⟩ = some (.int .i64 (m 9)) ∧ W.cell? ⟨w.heap.size, 13, none⟩ = some (.int .i64 (m 10)) ∧ Below w.heap.size w W :=
  ⟨(cell_of_row W w.heap.size 0 _ _ _ h), (cell_of_row W w.heap.size 1 _ _ _ h), (cell_of_row W w.heap.size 2 _ _ _ h), (cell_of_row W w.heap.size 3 _ _ _ h), (cell_of_row W w.heap.size 4 _ _ _ h), (cell_of_row W w.heap.size 5 _ _ _ h), (cell_of_row W w.heap.size 6 _ _ _ h), (cell_of_row W w.heap.size 7 _ _ _ h), (cell_of_row W w.heap.size 8 _ _ _ h), (cell_of_row W w.heap.size 9 _ _ _ h), (cell_of_row W w.heap.size 10 _ _ _ h), (cell_of_row W w.heap.size 11 _ _ _ h), (cell_of_row W w.heap.size 12 _ _ _ h), (cell_of_row W w.heap.size 13 _ _ _ h), hB⟩

set_option maxRecDepth 100000 in
set_option maxHeartbeats 1000000 in
theorem root_any (P K q : Nat) (m : Nat → Int) (w : World) (hF : FieldQ P K m) (hP' : P ≤ 64) (hK' : K ≤ 6) (hPK : P ^ K ≤ 64) (HQ : Hid (q = P ^ K)) :
    Calls Tryz.prog 136 #[.agg (ringRow P K q m)] w fun e w' => ∃ r : Nat, e = .returned (.int .i64 r) ∧ RootIs P K m r ∧ Below w.heap.size w w' := by
  have hR := hF.toRing1
  have hq1 : 1 < q := by rw [HQ.out]; exact one_lt hR
  have hq64 : q ≤ 64 := by rw [HQ.out]; exact hPK
  go_enter Tryz.func136, Tryz.ntmps136
  go_wp2
  go_loopw [3] (fun i wr => ∃ a : Nat, i = .int .i64 a ∧ 1 ≤ a ∧ a ≤ q ∧ Hid (∀ b, 1 ≤ b → b < a → ¬ IsOrd P K m b (P ^ K - 1)) ∧ RB wr w.heap.size P K q m ∧ Below w.heap.size w wr) (fun i _ => (q - intOf i).toNat)
  case atStart => exact ⟨1, rfl, by omega, by omega, (fun b h1 h2 => by omega : ∀ b, 1 ≤ b → b < 1 → _), RB.made w P K q m, (Below.refl _ _).alloc (Nat.le_refl _) _⟩
  case round =>
    obtain ⟨a, rfl, ha1, haq, HA, hRB, hB⟩ := hrel
    have hc2 := hRB.cell2
    by_cases hlt : a < q
    · have ha : a < P ^ K := by rw [← HQ.out]; exact hlt
      have hdec : decide ((a : Int) < q) = true := by simp; omega
      have hwr : IntKind.i64.wrap ((q : Int) - 1) = (q : Int) - 1 := by rw [IntKind.wrap_i64]; omega
      have hSt := RB.all hRB.drew hB.drew
      go_wp2
      go_region_held3 (fun w' => w'.cell? ⟨w.heap.size, 0, none⟩ = some (.int .i64 P) ∧ w'.cell? ⟨w.heap.size, 1, none⟩ = some (.int .i64 K) ∧ w'.cell? ⟨w.heap.size, 2, none⟩ = some (.int .i64 q) ∧ w'.cell? ⟨w.heap.size, 3, none⟩ = some (.int .i64 (m 0)) ∧ w'.cell? ⟨w.heap.size, 4, none⟩ = some (.int .i64 (m 1)) ∧ w'.cell? ⟨w.heap.size, 5, none⟩ = some (.int .i64 (m 2)) ∧ w'.cell? ⟨w.heap.size, 6, none⟩ = some (.int .i64 (m 3)) ∧ w'.cell? ⟨w.heap.size, 7, none⟩ = some (.int .i64 (m 4)) ∧ w'.cell? ⟨w.heap.size, 8, none⟩ = some (.int .i64 (m 5)) ∧ w'.cell? ⟨w.heap.size, 9, none⟩ = some (.int .i64 (m 6)) ∧ w'.cell? ⟨w.heap.size, 10, none⟩ = some (.int .i64 (m 7)) ∧ w'.cell? ⟨w.heap.size, 11, none⟩ = some (.int .i64 (m 8)) ∧ w'.cell? ⟨w.heap.size, 12, none⟩ = some (.int .i64 (m 9)) ∧ w'.cell? ⟨w.heap.size, 13, none⟩ = some (.int .i64 (m 10)) ∧ Below w.heap.size w w') (assumption)
        (first
          | (go_at_call 168; refine (turns_any P K a q m _ hF hP' hK' hPK ha1 ha).mono ?_; rintro e w1 ⟨n, rfl, hord, hnq, hb1⟩; have hRB1 := hRB.drew.below hb1; have hB1 : Below w.heap.size w w1 := hB.drew.trans (hb1.mono hB.drew.size); have hS1 := RB.all hRB1 hB1))
      all_goals
        by_cases hn : n = q - 1
        · have hbn : ((n : Int) == (q : Int) - 1) = true := by simp; omega
          have HRES : Hid (RootIs P K m a) := .inl ⟨ha1, ha, by rw [← HQ.out, ← hn]; exact hord, HA.out⟩
          go_wp2
          go_ret
          exact ⟨a, rfl, HRES.out, hB1⟩
        · have hbn : ((n : Int) == (q : Int) - 1) = false := by simp; omega
          have HNO : Hid (¬ IsOrd P K m a (P ^ K - 1)) := fun h => hn (by rw [HQ.out]; exact hord.one h)
          go_wp2
          go_roundw
          case rel =>
            have hfin : ∃ a' : Nat, Value.int .i64 ((a : Int) + 1) = .int .i64 a' ∧ 1 ≤ a' ∧ a' ≤ q ∧ Hid (∀ b, 1 ≤ b → b < a' → ¬ IsOrd P K m b (P ^ K - 1)) ∧ RB w1 w.heap.size P K q m ∧ Below w.heap.size w w1 := by
              refine ⟨a + 1, by go_num, by omega, by omega, (fun b h1 h2 => ?_ : ∀ b, 1 ≤ b → b < a + 1 → _), hRB1, hB1⟩
              by_cases e : b = a
              · subst e; exact HNO.out
              · exact HA.out b h1 (by omega)
            first
              | exact hfin
              | ((repeat apply Exists.intro); exact ⟨hfin, rfl⟩)
          case measure => simp [intOf]; omega
    · go_wp2
      go_ret
      exact ⟨0, rfl, .inr ⟨rfl, fun b h1 h2 => HA.out b h1 (by rw [← HQ.out] at h2; omega)⟩, hB⟩

end Go.Proofs.YtgpkhfpejopacabGreatDoor.Fd

/- Logarithms, traces, powers and inverses: the program's inner functions and the document's. -/
namespace Go.Proofs.YtgpkhfpejopacabGreatDoor.Fd
open Go.RowKit

theorem inv_mod_all : ∀ n : Fin 64, ∀ j : Fin 64, (decide (2 ≤ n.val) && Nat.gcd j.val n.val == 1) = true → (List.range n.val).any (fun u => j.val * u % n.val == 1) = true := by decide +kernel
theorem inv_mod {n j : Nat} (hn : n < 64) (hj : j < n) (h2 : 2 ≤ n) (h : Nat.gcd j n = 1) : ∃ u, j * u % n = 1 := by
  have h1 := inv_mod_all ⟨n, hn⟩ ⟨j, by omega⟩ (by simp [h2, h])
  rw [List.any_eq_true] at h1
  obtain ⟨u, _, hu⟩ := h1
  exact ⟨u, by simpa using hu⟩
section
variable {P K : Nat} {m : Nat → Int}
/-- The powers of the root are all but 0. -/
theorem root_all (hF : FieldQ P K m) (hPK : P ^ K ≤ 64) {r : Nat} (hr : r < P ^ K) (hr1 : 1 ≤ r) (ho : IsOrd P K m r (P ^ K - 1)) {a : Nat} (h1 : 1 ≤ a) (ha : a < P ^ K) : ∃ i, i < P ^ K - 1 ∧ powQ P K m r i = a := by
  have hR := hF.toRing1
  have h1q := one_lt hR
  obtain ⟨g, hg, hall, hone⟩ := hF.gen
  obtain ⟨j, hj, rfl⟩ := hall r hr1 hr
  obtain ⟨k, hk, rfl⟩ := hall a h1 ha
  by_cases hsmall : P ^ K - 1 = 1
  · refine ⟨0, by omega, ?_⟩
    rw [show k = 0 by omega]; rfl
  · obtain ⟨n, Hn⟩ : ∃ n, n = P ^ K - 1 := ⟨_, rfl⟩
    rw [← Hn] at hj hk hone ho hsmall ⊢
    have hd : Nat.gcd j n = 1 := by
      have hdn : Nat.gcd j n ∣ n := Nat.gcd_dvd_right j n
      have hdj : Nat.gcd j n ∣ j := Nat.gcd_dvd_left j n
      obtain ⟨c, hc⟩ := hdn
      obtain ⟨b, hb⟩ := hdj
      have hnp : 0 < n := by omega
      have hgp : 0 < Nat.gcd j n := Nat.gcd_pos_of_pos_right j hnp
      have hcp : 0 < c := by
        apply Nat.pos_of_ne_zero
        intro e
        rw [e, Nat.mul_zero] at hc
        omega
      have hp : powQ P K m (powQ P K m g j) c = 1 := by
        rw [powQ_mul hR]
        have e : j * c = n * b := by
          rw [hb]
          conv => rhs; rw [hc]
          rw [Nat.mul_assoc, Nat.mul_assoc, Nat.mul_comm b c]
        rw [e, ← powQ_mul hR, hone, powQ_one hR]
      apply Classical.byContradiction
      intro hne
      have hlt : c < n := by
        have h2 : 2 ≤ Nat.gcd j n := by omega
        have h3 : 2 * c ≤ Nat.gcd j n * c := Nat.mul_le_mul_right c h2
        rw [← hc] at h3
        omega
      exact ho.2.2 c hcp hlt hp
    obtain ⟨u, hu⟩ := inv_mod (by omega) hj (by omega) hd
    refine ⟨u * k % n, Nat.mod_lt _ (by omega), ?_⟩
    rw [powQ_mul hR, powQ_period hR hone]
    have e : j * (u * k % n) % n = k := by
      rw [Nat.mul_mod, Nat.mod_mod, ← Nat.mul_mod, ← Nat.mul_assoc, Nat.mul_mod, hu, Nat.one_mul, Nat.mod_mod, Nat.mod_eq_of_lt hk]
    rw [e]
def LogIs (P K : Nat) (m : Nat → Int) (r a n : Nat) : Prop := powQ P K m r n = a ∧ ∀ j, j < n → powQ P K m r j ≠ a
theorem LogIs.one {r a n n' : Nat} (h : LogIs P K m r a n) (h' : LogIs P K m r a n') : n = n' := by
  apply Classical.byContradiction
  intro e
  by_cases hlt : n < n'
  · exact h'.2 n hlt h.1
  · exact h.2 n' (by omega) h'.1
/-- The sum of a, a to the power of P, .. (n of them), and s. -/
def trQ (P K : Nat) (m : Nat → Int) : Nat → Nat → Nat → Nat
  | 0, s, _ => s
  | n + 1, s, a => trQ P K m n (addQ P K s a) (powQ P K m a P)
theorem root_pos (hg : ∃ g, 1 ≤ g ∧ g < P ^ K ∧ IsOrd P K m g (P ^ K - 1)) {r : Nat} (h : RootIs P K m r) : 1 ≤ r ∧ r < P ^ K ∧ IsOrd P K m r (P ^ K - 1) := by
  rcases h with ⟨h1, h2, h3, _⟩ | ⟨_, h⟩
  · exact ⟨h1, h2, h3⟩
  · obtain ⟨g, hg1, hg, ho⟩ := hg
    exact absurd ho (h g hg1 hg)
end

theorem tab_ord : genTab.all (fun r => (List.range (r.1 ^ r.2.1 - 1)).all fun j => j == 0 || r.2.2.2.2.2.getD j 0 != 1) = true := by decide +kernel
theorem good_ord {P K : Nat} {l : List Int} (hG : GoodF P K l) : ∃ g, 1 ≤ g ∧ g < P ^ K ∧ IsOrd P K (monL l) g (P ^ K - 1) := by
  obtain ⟨h0, h1, h2, h3⟩ := hG.fault.ok
  rw [Int.toNat_natCast, Int.toNat_natCast] at h3
  have hR := hG.field.toRing1
  have h1q := one_lt hR
  obtain ⟨n, s, c, L, hmem, hm⟩ := row_of_irr (ord_parts h0).1 hR.one hG.le64 hG.len h2 h3
  have hT := tab_of_row hR hm (List.all_eq_true.1 gen_ok _ hmem)
  have ho := List.all_eq_true.1 tab_ord _ hmem
  simp only [List.all_eq_true, List.mem_range, Bool.or_eq_true, beq_iff_eq, bne_iff_ne] at ho
  obtain ⟨g, hg, hpow, hone⟩ := hT.pows
  refine ⟨g, ?_, hg, by omega, hone, fun j hj1 hj2 e => ?_⟩
  · apply Classical.byContradiction
    intro h
    rw [show g = 0 by omega, powQ_zero_pos hR _ (by omega)] at hone
    omega
  · rcases ho j hj2 with h | h
    · omega
    · exact h (by rw [hpow j hj2]; exact e)
theorem inv_unique {P K : Nat} {m : Nat → Int} (hF : FieldQ P K m) {a b : Nat} (h1 : 1 ≤ a) (ha : a < P ^ K) (hb : b < P ^ K) (h : mulQ P K m a b = 1) : b = powQ P K m a (P ^ K - 2) := by
  have hR := hF.toRing1
  have hi := inv_ok hF h1 ha
  have e : mulQ P K m (mulQ P K m (powQ P K m a (P ^ K - 2)) a) b = mulQ P K m (powQ P K m a (P ^ K - 2)) (mulQ P K m a b) := mulQ_assoc hR _ _ _
  rw [mulQ_comm hR (powQ P K m a (P ^ K - 2)) a, hi, one_mulQ hR hb, h, mulQ_one hR (powQ_lt hR a _)] at e
  exact e
theorem pow_cut {P K : Nat} {m : Nat → Int} (hF : FieldQ P K m) {a n : Nat} (ha : a < P ^ K) (hn : P ^ K < n) : powQ P K m a (n % (P ^ K - 1) + (P ^ K - 1)) = powQ P K m a n := by
  have hR := hF.toRing1
  have h1q := one_lt hR
  by_cases h0 : a = 0
  · subst h0
    rw [powQ_zero_pos hR _ (by omega), powQ_zero_pos hR _ (by omega)]
  · have h := fermat hF (by omega) ha
    rw [powQ_period hR h n, powQ_add hR, h, mulQ_one hR (powQ_lt hR a _)]

theorem add_Q (P K a b : Nat) (Q : Int) (m : Nat → Int) (w : World) (hP : 2 ≤ P) (hP' : P ≤ 64) (hK : 1 ≤ K) (hK' : K ≤ 6) (hPK : P ^ K ≤ 64) (ha : a < P ^ K) (hb : b < P ^ K) (s : Nat) (hs : Hid (s = addQ P K a b)) :
    Calls Tryz.prog 170 #[.agg (ringRow P K Q m), .int .i64 a, .int .i64 b] w fun e w' => e = .returned (.int .i64 s) ∧ Below w.heap.size w w' := by
  have h := add_any P K a b Q m w hP hP' hK hK' hPK ha hb
  rw [← addQ_cast hP, ← hs.out] at h
  exact h

set_option maxRecDepth 100000 in
set_option maxHeartbeats 1000000 in
theorem trace_any (P K a : Nat) (Q : Int) (m : Nat → Int) (w : World) (hR : Ring1 P K m) (hP' : P ≤ 64) (hK' : K ≤ 6) (hPK : P ^ K ≤ 64) (ha : a < P ^ K) :
    Calls Tryz.prog 138 #[.agg (ringRow P K Q m), .int .i64 a] w fun e w' => ∃ t : Nat, e = .returned (.int .i64 t) ∧ Hid (t = trQ P K m K 0 a) ∧ Below w.heap.size w w' := by
  obtain ⟨fs, hu⟩ := und53
  have hRB0 := RB.made w P K Q m
  have h1q := one_lt hR
  have hP2 := hR.two
  have hc1 : (w.alloc (.cells (ringRow P K Q m) 161)).cell? ⟨w.heap.size, 1, none⟩ = some (.int .i64 K) := cell_of_row _ _ _ _ _ _ hRB0
  go_enter Tryz.func138, Tryz.ntmps138
  go_wp2
  go_loopw [1, 5, 8] (fun x s i wr => ∃ j b c : Nat, i = .int .i64 j ∧ x = .int .i64 b ∧ s = .int .i64 c ∧ j ≤ K ∧ b < P ^ K ∧ c < P ^ K ∧ Hid (trQ P K m (K - j) c b = trQ P K m K 0 a) ∧ RB wr w.heap.size P K Q m ∧ Below w.heap.size w wr) (fun _ _ i _ => (K - intOf i).toNat)
  case atStart => exact ⟨0, a, 0, rfl, rfl, rfl, by omega, ha, by omega, (rfl : trQ P K m (K - 0) 0 a = trQ P K m K 0 a), hRB0, (Below.refl _ _).alloc (Nat.le_refl _) _⟩
  case round =>
    clear hRB0
    obtain ⟨j, b, c, rfl, rfl, rfl, hj, hb, hc, HI, hRB, hB⟩ := hrel
    by_cases hlt : j < K
    · obtain ⟨s, Hs⟩ : ∃ s, Hid (s = addQ P K c b) := ⟨_, rfl⟩
      obtain ⟨y, Hy⟩ : ∃ y, Hid (y = powQ P K m b ((P : Int)).toNat) := ⟨_, rfl⟩
      have hs : s < P ^ K := by rw [Hs.out]; exact addQ_lt hR c b
      have hy : y < P ^ K := by rw [Hy.out]; exact powQ_lt hR b _
      have hdec : decide ((j : Int) < K) = true := by simp; omega
      have HN : Hid (trQ P K m (K - (j + 1)) s y = trQ P K m K 0 a) := by
        show trQ P K m (K - (j + 1)) s y = trQ P K m K 0 a
        rw [← HI.out, show K - j = (K - (j + 1)) + 1 by omega, Hs.out, Hy.out, Int.toNat_natCast]
        rfl
      go_wp2_with (first
        | (refine wpList_load_row rfl 161 _ rfl w.heap.size rfl 161 _ (0, 0) _ hRB hu rfl (inf53 _ _ _ _) ?_))
      refine (add_Q P K c b Q m _ hR.two hP' hR.one hK' hPK hc hb s Hs).mono ?_
      rintro e w1 ⟨rfl, hb1⟩
      have hRB1 := hRB.below hb1
      have hB1 : Below w.heap.size w w1 := hB.trans (hb1.mono hB.size)
      have hc0 : w1.cell? ⟨w.heap.size, 0, none⟩ = some (.int .i64 P) := cell_of_row _ _ _ _ _ _ hRB1
      go_wp2_with (first
        | (refine wpList_load_row rfl 161 _ rfl w.heap.size rfl 161 _ (0, 0) _ hRB1 hu rfl (inf53 _ _ _ _) ?_))
      refine (pow_any P K b _ Q m _ hR hP' hK' hPK hb (by omega) (by omega) y Hy).mono ?_
      rintro e w2 ⟨rfl, hb2⟩
      have hRB2 := hRB1.below hb2
      have hB2 : Below w.heap.size w w2 := hB1.trans (hb2.mono hB1.size)
      go_wp2
      go_roundw
      case rel => exact ⟨j + 1, y, s, by go_num, rfl, rfl, by omega, hy, hs, HN, hRB2, hB2⟩
      case measure => simp [intOf]; omega
    · go_wp2
      go_ret
      have h := HI.out
      rw [show K - j = 0 by omega] at h
      exact ⟨c, rfl, h, hB⟩

end Go.Proofs.YtgpkhfpejopacabGreatDoor.Fd

/- The walks of Check, Root and Squares. -/
namespace Go.Proofs.YtgpkhfpejopacabGreatDoor.Fd
open Go.RowKit

theorem open_nil {p k : Int} {l : List Int} {z : Int} (h : OpenIs p k l [] z) : FaultIs p k l z := by
  rcases h with ⟨_, h⟩ | ⟨_, h, _⟩ | ⟨h, _, rfl⟩
  · exact h
  · exact absurd (fun j hj => by simp at hj) h
  · exact h

set_option maxRecDepth 100000 in
set_option maxHeartbeats 1000000 in
theorem Check_any (p k : Int) (l : List Int) (v : Value) (w : World) (hT : Tab w) (hl : Sl w v l) (hll : l.length ≤ maxLen) :
    Calls Tryz.prog 62 #[.agg #[.int .i64 p, .int .i64 k, v]] w fun e w' => ∃ z : Int, e = .returned (.int .i64 z) ∧ FaultIs p k l z ∧ Below w.heap.size w w' := by
  obtain ⟨A, ca, rfl, _⟩ := id hl
  have hbx : Below w.heap.size w (w.alloc (.cells #[.int .i64 p, .int .i64 k, .slice A l.length ca] 51)) := (Below.refl _ _).alloc (Nat.le_refl _) _
  go_enter Tryz.func62, Tryz.ntmps62
  go_wp2_with fail
  refine (open_any p k l [] _ _ _ (hT.below hbx) (hl.below hbx) (Sl.nil _) hll (by simp)).mono ?_
  rintro e w1 ⟨z, x, y, c, f, rfl, hO, HZ, hb1⟩
  have hB1 : Below w.heap.size w w1 := hbx.trans (hb1.mono hbx.size)
  have HO : Hid (FaultIs p k l z) := open_nil hO
  have hnew : RB (w1.alloc (.cells #[.int .i64 0, .int .i64 0, .int .i64 0, .int .i64 0, .int .i64 0, .int .i64 0, .int .i64 0, .int .i64 0, .int .i64 0, .int .i64 0, .int .i64 0, .int .i64 0, .int .i64 0, .int .i64 0] 161)) w1.heap.size 0 0 0 (fun _ => 0) := RB.made w1 0 0 0 (fun _ => 0)
  have hBA : Below w.heap.size w ((w1.alloc (.cells #[.int .i64 0, .int .i64 0, .int .i64 0, .int .i64 0, .int .i64 0, .int .i64 0, .int .i64 0, .int .i64 0, .int .i64 0, .int .i64 0, .int .i64 0, .int .i64 0, .int .i64 0, .int .i64 0] 161)).setRow w1.heap.size (ringRow x y c f)) := bsetRow (hB1.alloc hB1.size _) hB1.size _
  clear hO HZ
  go_wp2_with (first
    | (refine wpList_store_row rfl 161 _ _ rfl w1.heap.size _ rfl rfl 161 _ hnew (inf53 _ _ _ _) rfl (ringRow_one _ _ _ _) ?_))
  go_ret
  exact ⟨z, rfl, HO.out, hBA⟩

set_option maxRecDepth 100000 in
set_option maxHeartbeats 1000000 in
theorem Root_any (p k : Int) (l : List Int) (v : Value) (w : World) (hT : Tab w) (hl : Sl w v l) (hll : l.length ≤ maxLen) :
    Calls Tryz.prog 109 #[.agg #[.int .i64 p, .int .i64 k, v]] w fun e w' => ∃ r z : Int, e = .returned (.tuple #[.int .i64 r, .int .i64 z]) ∧ FaultIs p k l z ∧ Hid (z ≠ 0 → r = 0) ∧ Hid (z = 0 → ∃ R : Nat, r = R ∧ RootIs p.toNat k.toNat (monL l) R) ∧ Below w.heap.size w w' := by
  obtain ⟨A, ca, rfl, _⟩ := id hl
  have hbx : Below w.heap.size w (w.alloc (.cells #[.int .i64 p, .int .i64 k, .slice A l.length ca] 51)) := (Below.refl _ _).alloc (Nat.le_refl _) _
  obtain ⟨fs, hu⟩ := und53
  go_enter Tryz.func109, Tryz.ntmps109
  go_wp2_with fail
  refine (open_any p k l [] _ _ _ (hT.below hbx) (hl.below hbx) (Sl.nil _) hll (by simp)).mono ?_
  rintro e w1 ⟨z, x, y, c, f, rfl, hO, HZ, hb1⟩
  have hB1 : Below w.heap.size w w1 := hbx.trans (hb1.mono hbx.size)
  have HO : Hid (FaultIs p k l z) := open_nil hO
  have hnew : RB (w1.alloc (.cells #[.int .i64 0, .int .i64 0, .int .i64 0, .int .i64 0, .int .i64 0, .int .i64 0, .int .i64 0, .int .i64 0, .int .i64 0, .int .i64 0, .int .i64 0, .int .i64 0, .int .i64 0, .int .i64 0] 161)) w1.heap.size 0 0 0 (fun _ => 0) := RB.made w1 0 0 0 (fun _ => 0)
  have hBA : Below w.heap.size w ((w1.alloc (.cells #[.int .i64 0, .int .i64 0, .int .i64 0, .int .i64 0, .int .i64 0, .int .i64 0, .int .i64 0, .int .i64 0, .int .i64 0, .int .i64 0, .int .i64 0, .int .i64 0, .int .i64 0, .int .i64 0] 161)).setRow w1.heap.size (ringRow x y c f)) := bsetRow (hB1.alloc hB1.size _) hB1.size _
  clear hO
  by_cases hz : z = 0
  · subst hz
    obtain ⟨rfl, rfl, rfl, rfl⟩ := HZ.out rfl
    obtain ⟨P, K, rfl, rfl, hG⟩ := good_of HO.out
    obtain ⟨q, HQ⟩ : ∃ q : Nat, Hid (q = P ^ K) := ⟨_, rfl⟩
    have HO2 : Hid (ordZ (P : Int) K = (q : Int)) := by
      show ordZ (P : Int) K = (q : Int)
      rw [hG.ord, HQ.out]
    rw [HO2.out] at hBA
    clear HZ
    rw [HO2.out]
    go_wp2_with (first
      | (refine wpList_store_row rfl 161 _ _ rfl w1.heap.size _ rfl rfl 161 _ hnew (inf53 _ _ _ _) rfl (ringRow_one _ _ _ _) ?_)
      | (refine wpList_load_row rfl 161 _ rfl w1.heap.size rfl 161 _ (0, 0) _ (hnew.whole _ _ _ _) hu rfl (inf53 _ _ _ _) ?_))
    refine (root_any P K q (monL l) _ hG.field (by have := hG.le61; omega) hG.le6 hG.le64 HQ).mono ?_
    rintro e w2 ⟨R, rfl, hRt, hb2⟩
    have HRt : Hid (RootIs P K (monL l) R) := hRt
    clear hRt
    go_wp2
    go_ret2
    exact ⟨_, _, rfl, HO.out, (fun h => absurd rfl h : (0 : Int) ≠ 0 → _), (fun _ => ⟨R, rfl, by rw [Int.toNat_natCast, Int.toNat_natCast]; exact HRt.out⟩ : (0 : Int) = 0 → _), hBA.trans (hb2.mono hBA.size)⟩
  · have hzb : (z != 0) = true := by simpa using hz
    go_wp2_with (first
      | (refine wpList_store_row rfl 161 _ _ rfl w1.heap.size _ rfl rfl 161 _ hnew (inf53 _ _ _ _) rfl (ringRow_one _ _ _ _) ?_))
    go_ret2
    exact ⟨0, z, rfl, HO.out, (fun _ => rfl : z ≠ 0 → _), (fun h => absurd h hz : z = 0 → _), hBA⟩

end Go.Proofs.YtgpkhfpejopacabGreatDoor.Fd

/- The walks of Inv, Pow, Log and Trace: wrong fields and elements, 0 and numbers below 0; Log and Trace on a true field. -/
namespace Go.Proofs.YtgpkhfpejopacabGreatDoor.Fd
open Go.RowKit

theorem OpenIs.one {p k : Int} {l es : List Int} {z z' : Int} (h : OpenIs p k l es z) (h' : OpenIs p k l es z') : z = z' := by
  rcases h with ⟨h0, h⟩ | ⟨h, hi, rfl⟩ | ⟨h, hi, rfl⟩
  · rcases h' with ⟨_, h'⟩ | ⟨h', _, _⟩ | ⟨h', _, _⟩
    · exact h.one h'
    · exact absurd (h.one h') h0
    · exact absurd (h.one h') h0
  · exact (open_out h hi h').symm
  · exact (open_in h hi h').symm

set_option maxRecDepth 100000 in
set_option maxHeartbeats 1000000 in
theorem Pow_bad (p k a : Int) (n : Int) (l : List Int) (v : Value) (w : World) (hT : Tab w) (hl : Sl w v l) (hll : l.length ≤ maxLen) (z0 : Int) (hO0 : OpenIs p k l [a] z0) (hz : z0 ≠ 0) :
    Calls Tryz.prog 110 #[.agg #[.int .i64 p, .int .i64 k, v], .int .i64 a, .int .i64 n] w fun e w' => e = .returned (.tuple #[.int .i64 0, .int .i64 z0]) ∧ Below w.heap.size w w' := by
  obtain ⟨A, ca, rfl, _⟩ := id hl
  have hbx : Below w.heap.size w ((w.alloc (.cells #[.int .i64 p, .int .i64 k, .slice A l.length ca] 51)).alloc (.cells #[.int .i64 a] 3)) := ((Below.refl _ _).alloc (Nat.le_refl _) _).alloc (by simp) _
  have hpair := sl_one (w.alloc (.cells #[.int .i64 p, .int .i64 k, .slice A l.length ca] 51)) a
  simp only [World.size_alloc] at hpair
  obtain ⟨fs, hu⟩ := und53
  go_enter Tryz.func110, Tryz.ntmps110
  go_wp2_with fail
  refine (open_any p k l [(a : Int)] _ _ _ (hT.below hbx) (hl.below hbx) hpair hll (by simp [maxLen])).mono ?_
  rintro e w1 ⟨z, x, y, c, f, rfl, hO, HZ, hb1⟩
  have hB1 : Below w.heap.size w w1 := hbx.trans (hb1.mono hbx.size)
  obtain rfl : z = z0 := hO.one hO0
  have hnew : RB (w1.alloc (.cells #[.int .i64 0, .int .i64 0, .int .i64 0, .int .i64 0, .int .i64 0, .int .i64 0, .int .i64 0, .int .i64 0, .int .i64 0, .int .i64 0, .int .i64 0, .int .i64 0, .int .i64 0, .int .i64 0] 161)) w1.heap.size 0 0 0 (fun _ => 0) := RB.made w1 0 0 0 (fun _ => 0)
  have hBA : Below w.heap.size w ((w1.alloc (.cells #[.int .i64 0, .int .i64 0, .int .i64 0, .int .i64 0, .int .i64 0, .int .i64 0, .int .i64 0, .int .i64 0, .int .i64 0, .int .i64 0, .int .i64 0, .int .i64 0, .int .i64 0, .int .i64 0] 161)).setRow w1.heap.size (ringRow x y c f)) := bsetRow (hB1.alloc hB1.size _) hB1.size _
  have hzb : (z != 0) = true := by simpa using hz
  clear hpair hO hO0 HZ
  go_wp2_with (first
    | (refine wpList_store_row rfl 161 _ _ rfl w1.heap.size _ rfl rfl 161 _ hnew (inf53 _ _ _ _) rfl (ringRow_one _ _ _ _) ?_))
  go_ret2
  exact ⟨rfl, hBA⟩

set_option maxRecDepth 100000 in
set_option maxHeartbeats 1000000 in
theorem Trace_bad (p k a : Int) (l : List Int) (v : Value) (w : World) (hT : Tab w) (hl : Sl w v l) (hll : l.length ≤ maxLen) (z0 : Int) (hO0 : OpenIs p k l [a] z0) (hz : z0 ≠ 0) :
    Calls Tryz.prog 111 #[.agg #[.int .i64 p, .int .i64 k, v], .int .i64 a] w fun e w' => e = .returned (.tuple #[.int .i64 0, .int .i64 z0]) ∧ Below w.heap.size w w' := by
  obtain ⟨A, ca, rfl, _⟩ := id hl
  have hbx : Below w.heap.size w ((w.alloc (.cells #[.int .i64 p, .int .i64 k, .slice A l.length ca] 51)).alloc (.cells #[.int .i64 a] 3)) := ((Below.refl _ _).alloc (Nat.le_refl _) _).alloc (by simp) _
  have hpair := sl_one (w.alloc (.cells #[.int .i64 p, .int .i64 k, .slice A l.length ca] 51)) a
  simp only [World.size_alloc] at hpair
  obtain ⟨fs, hu⟩ := und53
  go_enter Tryz.func111, Tryz.ntmps111
  go_wp2_with fail
  refine (open_any p k l [(a : Int)] _ _ _ (hT.below hbx) (hl.below hbx) hpair hll (by simp [maxLen])).mono ?_
  rintro e w1 ⟨z, x, y, c, f, rfl, hO, HZ, hb1⟩
  have hB1 : Below w.heap.size w w1 := hbx.trans (hb1.mono hbx.size)
  obtain rfl : z = z0 := hO.one hO0
  have hnew : RB (w1.alloc (.cells #[.int .i64 0, .int .i64 0, .int .i64 0, .int .i64 0, .int .i64 0, .int .i64 0, .int .i64 0, .int .i64 0, .int .i64 0, .int .i64 0, .int .i64 0, .int .i64 0, .int .i64 0, .int .i64 0] 161)) w1.heap.size 0 0 0 (fun _ => 0) := RB.made w1 0 0 0 (fun _ => 0)
  have hBA : Below w.heap.size w ((w1.alloc (.cells #[.int .i64 0, .int .i64 0, .int .i64 0, .int .i64 0, .int .i64 0, .int .i64 0, .int .i64 0, .int .i64 0, .int .i64 0, .int .i64 0, .int .i64 0, .int .i64 0, .int .i64 0, .int .i64 0] 161)).setRow w1.heap.size (ringRow x y c f)) := bsetRow (hB1.alloc hB1.size _) hB1.size _
  have hzb : (z != 0) = true := by simpa using hz
  clear hpair hO hO0 HZ
  go_wp2_with (first
    | (refine wpList_store_row rfl 161 _ _ rfl w1.heap.size _ rfl rfl 161 _ hnew (inf53 _ _ _ _) rfl (ringRow_one _ _ _ _) ?_))
  go_ret2
  exact ⟨rfl, hBA⟩

set_option maxRecDepth 100000 in
set_option maxHeartbeats 1000000 in
theorem Pow_neg (P K a : Nat) (n : Int) (l : List Int) (v : Value) (w : World) (hT : Tab w) (hl : Sl w v l) (hll : l.length ≤ maxLen) (hG : GoodF P K l) (ha : a < P ^ K) (hn : n < 0) :
    Calls Tryz.prog 110 #[.agg #[.int .i64 P, .int .i64 K, v], .int .i64 a, .int .i64 n] w fun e w' => e = .returned (.tuple #[.int .i64 0, .int .i64 1]) ∧ Below w.heap.size w w' := by
  obtain ⟨A, ca, rfl, _⟩ := id hl
  have hbx : Below w.heap.size w ((w.alloc (.cells #[.int .i64 P, .int .i64 K, .slice A l.length ca] 51)).alloc (.cells #[.int .i64 a] 3)) := ((Below.refl _ _).alloc (Nat.le_refl _) _).alloc (by simp) _
  have hpair := sl_one (w.alloc (.cells #[.int .i64 P, .int .i64 K, .slice A l.length ca] 51)) a
  simp only [World.size_alloc] at hpair
  obtain ⟨fs, hu⟩ := und53
  go_enter Tryz.func110, Tryz.ntmps110
  go_wp2_with fail
  refine (open_any P K l [(a : Int)] _ _ _ (hT.below hbx) (hl.below hbx) hpair hll (by simp [maxLen])).mono ?_
  rintro e w1 ⟨z, x, y, c, f, rfl, hO, HZ, hb1⟩
  have hB1 : Below w.heap.size w w1 := hbx.trans (hb1.mono hbx.size)
  obtain rfl := open_in hG.fault (in_one hG ha) hO
  obtain ⟨rfl, rfl, rfl, rfl⟩ := HZ.out rfl
  have hnew : RB (w1.alloc (.cells #[.int .i64 0, .int .i64 0, .int .i64 0, .int .i64 0, .int .i64 0, .int .i64 0, .int .i64 0, .int .i64 0, .int .i64 0, .int .i64 0, .int .i64 0, .int .i64 0, .int .i64 0, .int .i64 0] 161)) w1.heap.size 0 0 0 (fun _ => 0) := RB.made w1 0 0 0 (fun _ => 0)
  have hRB := hnew.whole P K (ordZ (P : Int) K) (monL l)
  have hBA : Below w.heap.size w ((w1.alloc (.cells #[.int .i64 0, .int .i64 0, .int .i64 0, .int .i64 0, .int .i64 0, .int .i64 0, .int .i64 0, .int .i64 0, .int .i64 0, .int .i64 0, .int .i64 0, .int .i64 0, .int .i64 0, .int .i64 0] 161)).setRow w1.heap.size (ringRow P K (ordZ (P : Int) K) (monL l))) := bsetRow (hB1.alloc hB1.size _) hB1.size _
  clear hpair hO HZ
  go_wp2_with (first
    | (refine wpList_store_row rfl 161 _ _ rfl w1.heap.size _ rfl rfl 161 _ hnew (inf53 _ _ _ _) rfl (ringRow_one _ _ _ _) ?_))
  go_ret2
  exact ⟨rfl, hBA⟩

set_option maxRecDepth 100000 in
set_option maxHeartbeats 1000000 in
theorem TraceG (P K a : Nat) (l : List Int) (v : Value) (w : World) (hT : Tab w) (hl : Sl w v l) (hll : l.length ≤ maxLen) (hG : GoodF P K l) (ha : a < P ^ K) :
    Calls Tryz.prog 111 #[.agg #[.int .i64 P, .int .i64 K, v], .int .i64 a] w fun e w' => ∃ t : Nat, e = .returned (.tuple #[.int .i64 t, .int .i64 0]) ∧ Hid (t = trQ P K (monL l) K 0 a) ∧ Below w.heap.size w w' := by
  obtain ⟨A, ca, rfl, _⟩ := id hl
  have hbx : Below w.heap.size w ((w.alloc (.cells #[.int .i64 P, .int .i64 K, .slice A l.length ca] 51)).alloc (.cells #[.int .i64 a] 3)) := ((Below.refl _ _).alloc (Nat.le_refl _) _).alloc (by simp) _
  have hpair := sl_one (w.alloc (.cells #[.int .i64 P, .int .i64 K, .slice A l.length ca] 51)) a
  simp only [World.size_alloc] at hpair
  obtain ⟨fs, hu⟩ := und53
  go_enter Tryz.func111, Tryz.ntmps111
  go_wp2_with fail
  refine (open_any P K l [(a : Int)] _ _ _ (hT.below hbx) (hl.below hbx) hpair hll (by simp [maxLen])).mono ?_
  rintro e w1 ⟨z, x, y, c, f, rfl, hO, HZ, hb1⟩
  have hB1 : Below w.heap.size w w1 := hbx.trans (hb1.mono hbx.size)
  obtain rfl := open_in hG.fault (in_one hG ha) hO
  obtain ⟨rfl, rfl, rfl, rfl⟩ := HZ.out rfl
  have hnew : RB (w1.alloc (.cells #[.int .i64 0, .int .i64 0, .int .i64 0, .int .i64 0, .int .i64 0, .int .i64 0, .int .i64 0, .int .i64 0, .int .i64 0, .int .i64 0, .int .i64 0, .int .i64 0, .int .i64 0, .int .i64 0] 161)) w1.heap.size 0 0 0 (fun _ => 0) := RB.made w1 0 0 0 (fun _ => 0)
  have hRB := hnew.whole P K (ordZ (P : Int) K) (monL l)
  have hBA : Below w.heap.size w ((w1.alloc (.cells #[.int .i64 0, .int .i64 0, .int .i64 0, .int .i64 0, .int .i64 0, .int .i64 0, .int .i64 0, .int .i64 0, .int .i64 0, .int .i64 0, .int .i64 0, .int .i64 0, .int .i64 0, .int .i64 0] 161)).setRow w1.heap.size (ringRow P K (ordZ (P : Int) K) (monL l))) := bsetRow (hB1.alloc hB1.size _) hB1.size _
  clear hpair hO HZ
  go_wp2_with (first
    | (refine wpList_store_row rfl 161 _ _ rfl w1.heap.size _ rfl rfl 161 _ hnew (inf53 _ _ _ _) rfl (ringRow_one _ _ _ _) ?_)
    | (refine wpList_load_row rfl 161 _ rfl w1.heap.size rfl 161 _ (0, 0) _ hRB hu rfl (inf53 _ _ _ _) ?_))
  refine (trace_any P K a _ (monL l) _ hG.field.toRing1 (by have := hG.le61; omega) hG.le6 hG.le64 ha).mono ?_
  rintro e w2 ⟨t, rfl, ht, hb2⟩
  go_wp2
  go_ret2
  exact ⟨t, rfl, ht, hBA.trans (hb2.mono hBA.size)⟩

end Go.Proofs.YtgpkhfpejopacabGreatDoor.Fd

/- The walks of the document's Inverse, Power, LogOf and TraceOf on a true field. -/
namespace Go.Proofs.YtgpkhfpejopacabGreatDoor.Fd
open Go.RowKit

theorem pow_succ {P K : Nat} {m : Nat → Int} (hR : Ring1 P K m) (a j : Nat) : mulQ P K m (powQ P K m a j) a = powQ P K m a (j + 1) := mulQ_comm hR _ _

end Go.Proofs.YtgpkhfpejopacabGreatDoor.Fd

/- The walk of traceless. -/
/- Singer's sets; the walks of directions and traceless. -/
namespace Go.Proofs.YtgpkhfpejopacabGreatDoor
open Go.RowKit

/-- 1 + p + p p + .. -/
def rep (P : Nat) : Nat → Nat
  | 0 => 0
  | n + 1 => rep P n * P + 1
theorem rep_pow {P : Nat} (hP : 1 ≤ P) : ∀ n, (P - 1) * rep P n + 1 = P ^ n
  | 0 => by simp [rep]
  | n + 1 => by
    have h := rep_pow hP n
    obtain ⟨q, hq⟩ : ∃ q, P = q + 1 := ⟨P - 1, by omega⟩
    rw [rep, Nat.pow_succ, ← h, hq, Nat.add_sub_cancel, Nat.mul_add, Nat.mul_one, Nat.add_mul, Nat.one_mul, ← Nat.mul_assoc]
    omega
theorem rep_div {P n : Nat} (hP : 2 ≤ P) : (P ^ n - 1) / (P - 1) = rep P n := by
  have h := rep_pow (P := P) (by omega) n
  rw [show P ^ n - 1 = (P - 1) * rep P n by omega]
  exact Nat.mul_div_cancel_left _ (by omega)
theorem rep_le {P n : Nat} (hP : 2 ≤ P) (h : P ^ n ≤ 64) : rep P n ≤ 63 := by
  have h1 := rep_pow (P := P) (by omega) n
  have h2 : 1 * rep P n ≤ (P - 1) * rep P n := Nat.mul_le_mul_right _ (by omega)
  omega
theorem rep_mono {P i n : Nat} (hP : 1 ≤ P) (h : i ≤ n) : rep P i ≤ rep P n := by
  induction n with
  | zero => obtain rfl : i = 0 := by omega
            exact Nat.le_refl _
  | succ n ih =>
    by_cases e : i = n + 1
    · rw [e]; exact Nat.le_refl _
    · refine Nat.le_trans (ih (by omega)) ?_
      rw [rep]
      have := Nat.mul_le_mul_left (rep P n) hP
      omega
/-- The numbers to whose powers the root has no trace. -/
def sgL (P K : Nat) (m : Nat → Int) (R v : Nat) : List Nat := (List.range v).filter fun i => Fd.trQ P K m K 0 (Fd.powQ P K m R i) == 0
theorem sg_good {P K R v : Nat} {m : Nat → Int} (h1 : 1 ≤ v) (h : v ≤ 60) : GoodS v (sgL P K m R v) := ⟨h1, h, List.pairwise_lt_range.sublist List.filter_sublist, fun _ hx => List.mem_range.1 (List.mem_filter.1 hx).1⟩
theorem good_root {P K R : Nat} {l : List Int} (hG : Fd.GoodF P K l) (h : Fd.RootIs P K (Fd.monL l) R) : R < P ^ K := (Fd.root_pos (Fd.good_ord hG) h).2.1
theorem RootG (P K : Nat) (l : List Int) (v : Value) (w : World) (hT : Fd.Tab w) (hl : Sl w v l) (hG : Fd.GoodF P K l) :
    Calls Tryz.prog 109 #[.agg #[.int .i64 (P : Int), .int .i64 (K : Int), v]] w fun e w' => ∃ R : Nat, e = .returned (.tuple #[.int .i64 (R : Int), .int .i64 0]) ∧ Fd.RootIs P K (Fd.monL l) R ∧ Below w.heap.size w w' := by
  refine (Fd.Root_any (P : Int) K l v w hT hl (by rw [hG.len]; have := hG.le6; unfold maxLen; omega)).mono ?_
  rintro e w' ⟨r, z, rfl, hF, _, h0, hb⟩
  obtain rfl := hF.one hG.fault
  obtain ⟨R, rfl, hR⟩ := h0.out rfl
  rw [Int.toNat_natCast, Int.toNat_natCast] at hR
  exact ⟨R, rfl, hR, hb⟩
set_option maxRecDepth 100000 in
set_option maxHeartbeats 4000000 in
theorem directions_any (P K : Nat) (v : Value) (w : World) (hP : 2 ≤ P) (hP' : P ≤ 61) (hK : K ≤ 6) (h64 : P ^ K ≤ 64) (hv : ∃ a n c, v = .slice a n c) :
    Calls Tryz.prog 63 #[.agg #[.int .i64 (P : Int), .int .i64 (K : Int), v]] w fun e w' => e = .returned (.int .i64 (rep P K : Int)) ∧ Below w.heap.size w w' := by
  obtain ⟨a, n, c, rfl⟩ := hv
  have HM : Hid (∀ i, i ≤ K → rep P i ≤ 63) := fun i hi => Nat.le_trans (rep_mono (by omega) hi) (rep_le hP h64)
  have HU : Hid (∀ i, rep P (i + 1) = rep P i * P + 1) := fun _ => rfl
  have H0 : Hid (rep P 0 = 0) := rfl
  have hF := Fd.FB.made w (P : Int) (K : Int) (.slice a n c)
  obtain ⟨f0, f1, _⟩ := hF.cells
  have hb := balloc w (.cells #[.int .i64 (P : Int), .int .i64 (K : Int), .slice a n c] 51)
  have HBB : Hid (Below w.heap.size w (w.alloc (.cells #[.int .i64 (P : Int), .int .i64 (K : Int), .slice a n c] 51))) := hb
  obtain ⟨r, Hr⟩ : ∃ r : Nat → Nat, Hid (∀ i, rep P i = r i) := ⟨fun i => rep P i, fun _ => rfl⟩
  have HM2 : Hid (∀ i, i ≤ K → r i ≤ 63) := fun i hi => by rw [← Hr.out]; exact HM.out i hi
  have HU2 : Hid (∀ i, r (i + 1) = r i * P + 1) := fun i => by rw [← Hr.out, ← Hr.out]; exact HU.out i
  have H02 : Hid (r 0 = 0) := by show _ = _; rw [← Hr.out]; exact H0.out
  rw [Hr.out]
  clear HM HU H0 Hr h64 hb hF
  go_enter Tryz.func63, Tryz.ntmps63
  go_wp2
  go_loopw [3, 6] (fun ov iv wr => ∃ i : Nat, iv = .int .i64 (i : Int) ∧ i ≤ K ∧ ov = .int .i64 (r i : Int) ∧ wr = w.alloc (.cells #[.int .i64 (P : Int), .int .i64 (K : Int), .slice a n c] 51)) (fun _ iv _ => (K - intOf iv).toNat)
  case atStart => exact ⟨0, rfl, by omega, by rw [H02.out]; rfl, rfl⟩
  case round =>
    obtain ⟨i, rfl, hi, rfl, rfl⟩ := hrel
    by_cases hlt : i < K
    · have hii : (i : Int) < K := by omega
      have hdec : decide ((i : Int) < K) = true := by simp; omega
      have h1 := HM2.out (i + 1) (by omega)
      have h2 := HM2.out i hi
      have hU := HU2.out i
      obtain ⟨x, Hx⟩ : ∃ x, Hid (r i = x) := ⟨_, rfl⟩
      obtain ⟨y, Hy⟩ : ∃ y, Hid (r (i + 1) = y) := ⟨_, rfl⟩
      rw [Hx.out] at hU h2 ⊢
      rw [Hy.out] at hU h1
      obtain ⟨m, hm⟩ : ∃ m, x * P = m := ⟨_, rfl⟩
      have hmi : (x : Int) * (P : Int) = (m : Int) := by rw [← hm]; simp
      rw [hm] at hU
      have hmb : m ≤ 63 := by omega
      have HYY : Hid ((m : Int) + 1 = (y : Int)) := by show _ = _; omega
      clear hm hU HM2 HU2 H02
      go_wp2
      go_roundw
      case rel => exact ⟨i + 1, by go_num, by omega, by rw [Hy.out, ← HYY.out], by first | rfl | trivial⟩
      case measure => simp [intOf]; omega
    · have hdec : decide ((i : Int) < K) = false := by simp; omega
      obtain rfl : i = K := by omega
      go_wp2
      go_ret
      exact ⟨rfl, HBB.out⟩

end Go.Proofs.YtgpkhfpejopacabGreatDoor

namespace Go.Proofs.YtgpkhfpejopacabGreatDoor
open Go.RowKit

set_option maxRecDepth 100000 in
set_option maxHeartbeats 8000000 in
theorem traceless_any (P K n : Nat) (l : List Int) (v : Value) (w : World) (hT : Fd.Tab w) (hl : Sl w v l) (hG : Fd.GoodF P K l) (hn : n ≤ 60) :
    Calls Tryz.prog 64 #[.agg #[.int .i64 (P : Int), .int .i64 (K : Int), v], .int .i64 (n : Int)] w fun e w' => ∃ (R : Nat) (x : Value), e = .returned x ∧ Fd.RootIs P K (Fd.monL l) R ∧ ORow w' w.heap.size x (sgL P K (Fd.monL l) R n) ∧ Below w.heap.size w w' := by
  have hll : l.length ≤ maxLen := by rw [hG.len]; have := hG.le6; unfold maxLen; omega
  have HR : Hid (∀ W, Below w.heap.size w W → Calls Tryz.prog 109 #[.agg #[.int .i64 (P : Int), .int .i64 (K : Int), v]] W fun e w' => ∃ R : Nat, e = .returned (.tuple #[.int .i64 (R : Int), .int .i64 0]) ∧ Fd.RootIs P K (Fd.monL l) R ∧ Below W.heap.size W w') := fun W b => RootG P K l v W (hT.below b) (hl.below b) hG
  have HP : Hid (∀ (R i : Nat) (W : World), Fd.RootIs P K (Fd.monL l) R → i ≤ 60 → Below w.heap.size w W → Calls Tryz.prog 110 #[.agg #[.int .i64 (P : Int), .int .i64 (K : Int), v], .int .i64 (R : Int), .int .i64 (i : Int)] W fun e w' => e = .returned (.tuple #[.int .i64 (Fd.powQ P K (Fd.monL l) R i : Int), .int .i64 0]) ∧ Below W.heap.size W w') := fun R i W hR hi b =>
    Fd.PowG P K R (i : Int) l v W (hT.below b) (hl.below b) hll hG (good_root hG hR) (by omega) (by omega) _ (by show _ = _; rw [Int.toNat_natCast])
  have HTr : Hid (∀ (R i : Nat) (W : World), Below w.heap.size w W → Calls Tryz.prog 111 #[.agg #[.int .i64 (P : Int), .int .i64 (K : Int), v], .int .i64 (Fd.powQ P K (Fd.monL l) R i : Int)] W fun e w' => e = .returned (.tuple #[.int .i64 (Fd.trQ P K (Fd.monL l) K 0 (Fd.powQ P K (Fd.monL l) R i) : Int), .int .i64 0]) ∧ Below W.heap.size W w') := fun R i W b => by
    refine (Fd.TraceG P K (Fd.powQ P K (Fd.monL l) R i) l v W (hT.below b) (hl.below b) hll hG (Fd.powQ_lt hG.field.toRing1 R i)).mono ?_
    rintro e w' ⟨t, rfl, ht, hb⟩
    rw [ht.out]
    exact ⟨rfl, hb⟩
  obtain ⟨A, HA⟩ : ∃ A : Nat → Nat → Nat, Hid (∀ R i, Fd.powQ P K (Fd.monL l) R i = A R i) := ⟨fun R i => Fd.powQ P K (Fd.monL l) R i, fun _ _ => rfl⟩
  obtain ⟨B, HB⟩ : ∃ B : Nat → Nat → Nat, Hid (∀ R i, Fd.trQ P K (Fd.monL l) K 0 (Fd.powQ P K (Fd.monL l) R i) = B R i) := ⟨fun R i => Fd.trQ P K (Fd.monL l) K 0 (Fd.powQ P K (Fd.monL l) R i), fun _ _ => rfl⟩
  have HP2 : Hid (∀ (R i : Nat) (W : World), Fd.RootIs P K (Fd.monL l) R → i ≤ 60 → Below w.heap.size w W → Calls Tryz.prog 110 #[.agg #[.int .i64 (P : Int), .int .i64 (K : Int), v], .int .i64 (R : Int), .int .i64 (i : Int)] W fun e w' => e = .returned (.tuple #[.int .i64 (A R i : Int), .int .i64 0]) ∧ Below W.heap.size W w') := fun R i W hR hi b => by rw [← HA.out]; exact HP.out R i W hR hi b
  have HT2 : Hid (∀ (R i : Nat) (W : World), Below w.heap.size w W → Calls Tryz.prog 111 #[.agg #[.int .i64 (P : Int), .int .i64 (K : Int), v], .int .i64 (A R i : Int)] W fun e w' => e = .returned (.tuple #[.int .i64 (B R i : Int), .int .i64 0]) ∧ Below W.heap.size W w') := fun R i W b => by rw [← HA.out, ← HB.out]; exact HTr.out R i W b
  obtain ⟨F, HF⟩ : ∃ F : Nat → Nat → List Nat, Hid (∀ R k, sgL P K (Fd.monL l) R k = F R k) := ⟨fun R k => sgL P K (Fd.monL l) R k, fun _ _ => rfl⟩
  have HU : Hid (∀ R k, F R (k + 1) = F R k ++ if (B R k == 0) = true then [k] else []) := fun R k => by rw [← HF.out, ← HF.out, ← HB.out]; exact ran_up _ k
  have HLn : Hid (∀ R k, (F R k).length ≤ k) := fun R k => by rw [← HF.out]; exact Nat.le_trans (List.length_filter_le _ _) (by simp)
  have HF0 : Hid (∀ R, F R 0 = []) := fun R => by rw [← HF.out]; rfl
  have HFin : Hid (∀ R, F R n = sgL P K (Fd.monL l) R n) := fun R => by rw [HF.out]
  obtain ⟨a, c, rfl, _⟩ := id hl
  obtain ⟨i3, hi3, hz0, hz1, hz2⟩ := info3
  have hF0 := Fd.FB.made w (P : Int) (K : Int) (.slice a l.length c)
  have hb0 := balloc w (.cells #[.int .i64 (P : Int), .int .i64 (K : Int), .slice a l.length c] 51)
  obtain ⟨W0, HW0⟩ : ∃ W0, Hid (w.alloc (.cells #[.int .i64 (P : Int), .int .i64 (K : Int), .slice a l.length c] 51) = W0) := ⟨_, rfl⟩
  obtain ⟨s1, Hs1⟩ : ∃ s1, Hid (w.heap.size + 1 = s1) := ⟨_, rfl⟩
  have hsz : W0.heap.size = s1 := by rw [← HW0.out, ← Hs1.out]; simp
  have hFc := hF0.cells
  have HFB : Hid (∀ W, Below s1 W0 W → Fd.FB W w.heap.size P K (.slice a l.length c)) := fun W b => by rw [HW0.out] at hF0; exact hF0.below (by rw [hsz]; exact b)
  have HBW : Hid (∀ W, Below s1 W0 W → Below w.heap.size w W) := fun W b => by rw [HW0.out] at hb0; exact hb0.trans (b.mono (by have := Hs1.out; omega))
  generalize l.length = ln at *
  have hsl : w.heap.size ≤ s1 := by have := Hs1.out; omega
  clear hF0 hb0 hG hT hl hll HP HTr HA HB HF
  go_enter Tryz.func64, Tryz.ntmps64
  go_wp2_with fail
  rw [HW0.out]
  refine (HR.out W0 (HBW.out _ (Below.refl _ _))).mono ?_
  rintro e w1 ⟨R, rfl, hRt, hb1⟩
  have hB1 : Below s1 W0 w1 := by rw [hsz] at hb1; exact hb1
  have HRt : Hid (Fd.RootIs P K (Fd.monL l) R) := hRt
  clear HR hFc hb1 hRt
  go_wp2
  go_loopw [7, 19] (fun ov iv wr => ∃ i : Nat, iv = .int .i64 (i : Int) ∧ i ≤ n ∧ ORow wr s1 ov (F R i) ∧ Below s1 W0 wr) (fun _ iv _ => (n - intOf iv).toNat)
  case atStart => exact ⟨0, rfl, by omega, by rw [HF0.out]; exact World.ownsRow_nil _ _ _ _, hB1⟩
  case round =>
    clear hB1 HF0
    obtain ⟨i, rfl, hi, hown, hB⟩ := hrel
    have hgs : s1 ≤ wr.heap.size := by rw [← hsz]; exact hB.size
    by_cases hlt : i < n
    · have hii : (i : Int) < n := by omega
      have hdec : decide ((i : Int) < n) = true := by simp; omega
      have C2 := HP2.out R i wr HRt.out (by omega) (HBW.out _ hB)
      have HT3 : Hid (∀ W, Below w.heap.size w W → Calls Tryz.prog 111 #[.agg #[.int .i64 (P : Int), .int .i64 (K : Int), .slice a ln c], .int .i64 (A R i : Int)] W fun e w' => e = .returned (.tuple #[.int .i64 (B R i : Int), .int .i64 0]) ∧ Below W.heap.size W w') := HT2.out R i
      have hU := HU.out R i
      have hL := HLn.out R i
      have hFc := (HFB.out _ hB).cells
      obtain ⟨ar, Har⟩ : ∃ ar, Hid (A R i = ar) := ⟨_, rfl⟩
      obtain ⟨br, Hbr⟩ : ∃ br, Hid (B R i = br) := ⟨_, rfl⟩
      obtain ⟨ll, Hll⟩ : ∃ ll, Hid (F R i = ll) := ⟨_, rfl⟩
      rw [Har.out] at C2 HT3
      rw [Hbr.out] at HT3 hU
      rw [Hll.out] at hU hL hown
      unfold ORow at hown
      obtain ⟨oa, oc, rfl⟩ := own_form hown
      have HUU : Hid (F R (i + 1) = ll ++ if (br == 0) = true then [i] else []) := hU
      clear hU HP2 HT2 HU HLn HFin
      go_wp2_with fail
      refine C2.mono ?_
      rintro e w2 ⟨rfl, hb2⟩
      have hB2 : Below s1 W0 w2 := hB.trans (hb2.mono hgs)
      have hown2 := own_keep hown fun b _ hb => hb2.block b hb
      have C3 := HT3.out _ (HBW.out _ hB2)
      have hgs2 : s1 ≤ w2.heap.size := by rw [← hsz]; exact hB2.size
      clear C2 HT3 hFc hb2 hown hB
      have hFc := (HFB.out _ hB2).cells
      go_wp2_with fail
      refine C3.mono ?_
      rintro e w3 ⟨rfl, hb3⟩
      have hB3 : Below s1 W0 w3 := hB2.trans (hb3.mono hgs2)
      have hown3 := own_keep hown2 fun b _ hb => hb3.block b hb
      have hgs3 : s1 ≤ w3.heap.size := by rw [← hsz]; exact hB3.size
      clear C3 hFc hb3 hown2 hB2
      by_cases hbr : br = 0
      · subst hbr
        have HU1 : Hid (F R (i + 1) = ll ++ [i]) := by show _ = _; rw [HUU.out]; simp
        clear HUU
        go_wp2_with (first
          | (at_builtin; refine wpList_append_own _ rfl _ _ 29 rfl s1 3 i3 (.int .i64 0) 1 8 und22 hi3 hz0 hz1 hz2 rfl (by decide) _ _ _ rfl (hown3.alloc _) ⟨w3.heap.size, 0, none⟩ 1 1 [.int .i64 (i : Int)] rfl rfl (fun j u hj => by (match j, hj with | 0, hj => simp at hj; subst hj; simp [Addr.add])) (fun u hu => by (simp at hu; subst hu; rfl)) (by (unfold maxLen; omega)) (by omega) (by (simp; omega)) ?_; intro v' w4 hown' hgrow _)
          | go_in)
        have hb4 : Below s1 W0 w4 := (hB3.alloc (by omega) _).grown hgrow (by simp; omega) (fun k hk => (hown3.lt k hk).1)
        have hown4 : w4.ownsRow s1 3 1 v' (ll.length + 1) (((ll ++ [i]).map Int.ofNat).map (Value.int .i64)) := by simpa using hown'
        have hown5 : ORow w4 s1 v' (F R (i + 1)) := by
          rw [HU1.out]
          unfold ORow
          rw [List.length_append]
          exact hown4
        clear hown' hown4 hgrow hown3 hB3
        go_roundw
        case rel => exact ⟨i + 1, by go_num, by omega, hown5, hb4⟩
        case measure => simp [intOf]; omega
      · have e1 : ¬ (br : Int) = 0 := by omega
        have e2 : ((br : Int) == 0) = false := by simpa using e1
        have HU1 : Hid (F R (i + 1) = ll) := by show _ = _; rw [HUU.out]; simp [hbr]
        clear HUU
        go_wp2
        go_roundw
        case rel => exact ⟨i + 1, by go_num, by omega, by rw [HU1.out]; exact hown3, hB3⟩
        case measure => simp [intOf]; omega
    · have hdec : decide ((i : Int) < n) = false := by simp; omega
      obtain rfl : i = n := by omega
      rw [HFin.out] at hown
      go_wp2
      go_ret
      exact ⟨R, _, rfl, HRt.out, own_low hown hsl, HBW.out _ hB⟩

end Go.Proofs.YtgpkhfpejopacabGreatDoor

namespace Go.Proofs.YtgpkhfpejopacabGreatDoor
open Go.RowKit

theorem CheckF (p k z : Int) (l : List Int) (v : Value) (w : World) (hT : Fd.Tab w) (hl : Sl w v l) (hll : l.length ≤ maxLen) (hF : Fd.FaultIs p k l z) :
    Calls Tryz.prog 62 #[.agg #[.int .i64 p, .int .i64 k, v]] w fun e w' => e = .returned (.int .i64 z) ∧ Below w.heap.size w w' := by
  refine (Fd.Check_any p k l v w hT hl hll).mono ?_
  rintro e w' ⟨z', rfl, h, hb⟩
  rw [h.one hF]
  exact ⟨rfl, hb⟩
set_option maxRecDepth 100000 in
set_option maxHeartbeats 4000000 in
theorem Singer_bad (p k z : Int) (l : List Int) (v : Value) (w : World) (hT : Fd.Tab w) (hl : Sl w v l) (hll : l.length ≤ maxLen) (hF : Fd.FaultIs p k l z) (hz : z ≠ 0) :
    Calls Tryz.prog 22 #[.agg #[.int .i64 p, .int .i64 k, v]] w fun e w' => e = .returned (.tuple #[.int .i64 0, .slice none 0 0, .int .i64 z]) ∧ Below w.heap.size w w' := by
  obtain ⟨a, c, rfl, _⟩ := id hl
  have hb0 := balloc w (.cells #[.int .i64 p, .int .i64 k, .slice a l.length c] 51)
  have C := CheckF p k z l _ _ (hT.below hb0) (hl.below hb0) hll hF
  have hFc := (Fd.FB.made w p k (.slice a l.length c)).cells
  generalize l.length = ln at *
  have hz2 : (z != 0) = true := by simpa using hz
  clear hT hl hll hF
  go_enter Tryz.func22, Tryz.ntmps22
  go_wp2_with (first
    | (go_at_call 62; refine C.mono ?_; rintro e w1 ⟨rfl, hb⟩; clear C; have HB : Hid (Below w.heap.size w w1) := Below.next hb0 hb; clear hb hb0 hFc)
    | go_in)
  go_ret3
  exact ⟨rfl, HB.out⟩
set_option maxRecDepth 100000 in
set_option maxHeartbeats 4000000 in
theorem Singer_none (P K : Nat) (l : List Int) (v : Value) (w : World) (hT : Fd.Tab w) (hl : Sl w v l) (hll : l.length ≤ maxLen) (hG : Fd.GoodF P K l) (hK : K < 3) :
    Calls Tryz.prog 22 #[.agg #[.int .i64 (P : Int), .int .i64 (K : Int), v]] w fun e w' => e = .returned (.tuple #[.int .i64 0, .slice none 0 0, .int .i64 4]) ∧ Below w.heap.size w w' := by
  obtain ⟨a, c, rfl, _⟩ := id hl
  have hb0 := balloc w (.cells #[.int .i64 (P : Int), .int .i64 (K : Int), .slice a l.length c] 51)
  have C := CheckF P K 0 l _ _ (hT.below hb0) (hl.below hb0) hll hG.fault
  have hF0 := Fd.FB.made w (P : Int) (K : Int) (.slice a l.length c)
  have hFc := hF0.cells
  generalize l.length = ln at *
  have d1 : decide ((K : Int) < 3) = true := by simp; omega
  have d2 : (K : Int) < 3 := by omega
  clear hT hl hll hG
  go_enter Tryz.func22, Tryz.ntmps22
  go_wp2_with (first
    | (go_at_call 62; refine C.mono ?_; rintro e w1 ⟨rfl, hb⟩; clear C; have HB : Hid (Below w.heap.size w w1) := Below.next hb0 hb; clear hFc; have hFc := (hF0.below hb).cells; clear hb hb0 hF0)
    | go_in)
  go_ret3
  exact ⟨rfl, HB.out⟩
set_option maxRecDepth 100000 in
set_option maxHeartbeats 4000000 in
theorem Singer_full (P K : Nat) (l : List Int) (v : Value) (w : World) (hT : Fd.Tab w) (hl : Sl w v l) (hll : l.length ≤ maxLen) (hG : Fd.GoodF P K l) (hK : 3 ≤ K) (hr : 60 < rep P K) :
    Calls Tryz.prog 22 #[.agg #[.int .i64 (P : Int), .int .i64 (K : Int), v]] w fun e w' => e = .returned (.tuple #[.int .i64 0, .slice none 0 0, .int .i64 3]) ∧ Below w.heap.size w w' := by
  obtain ⟨a, c, rfl, _⟩ := id hl
  have hb0 := balloc w (.cells #[.int .i64 (P : Int), .int .i64 (K : Int), .slice a l.length c] 51)
  have C := CheckF P K 0 l _ _ (hT.below hb0) (hl.below hb0) hll hG.fault
  have HD : Hid (∀ W, Calls Tryz.prog 63 #[.agg #[.int .i64 (P : Int), .int .i64 (K : Int), .slice a l.length c]] W fun e w' => e = .returned (.int .i64 (rep P K : Int)) ∧ Below W.heap.size W w') := fun W => directions_any P K _ W hG.field.two hG.le61 hG.le6 hG.le64 ⟨_, _, _, rfl⟩
  have hF0 := Fd.FB.made w (P : Int) (K : Int) (.slice a l.length c)
  have hFc := hF0.cells
  generalize l.length = ln at *
  generalize rep P K = r at *
  have d1 : decide ((K : Int) < 3) = false := by simp; omega
  have d2 : ¬ (K : Int) < 3 := by omega
  have d3 : decide (60 < (r : Int)) = true := by simp; omega
  have d4 : 60 < (r : Int) := by omega
  clear hT hl hll hG
  go_enter Tryz.func22, Tryz.ntmps22
  go_wp2_with (first
    | (go_at_call 62; refine C.mono ?_; rintro e w1 ⟨rfl, hb⟩; clear C; have HB : Hid (Below w.heap.size w w1) := Below.next hb0 hb; clear hFc; have hF1 := hF0.below hb; have hFc := hF1.cells; clear hb hb0 hF0)
    | (go_at_call 63; refine (HD.out _).mono ?_; rintro e w2 ⟨rfl, hb⟩; clear HD; have HB2 : Hid (Below w.heap.size w w2) := Below.next HB.out hb; clear hb hFc hF1)
    | go_in)
  go_ret3
  exact ⟨rfl, HB2.out⟩
set_option maxRecDepth 100000 in
set_option maxHeartbeats 4000000 in
theorem Singer_ok (P K : Nat) (l : List Int) (v : Value) (w : World) (hT : Fd.Tab w) (hl : Sl w v l) (hll : l.length ≤ maxLen) (hG : Fd.GoodF P K l) (hK : 3 ≤ K) (hr : rep P K ≤ 60) :
    Calls Tryz.prog 22 #[.agg #[.int .i64 (P : Int), .int .i64 (K : Int), v]] w fun e w' => ∃ (R : Nat) (x : Value), e = .returned (.tuple #[.int .i64 (rep P K : Int), x, .int .i64 0]) ∧ Fd.RootIs P K (Fd.monL l) R ∧ ORow w' 0 x (sgL P K (Fd.monL l) R (rep P K)) ∧ Below w.heap.size w w' := by
  obtain ⟨a, c, rfl, _⟩ := id hl
  have hb0 := balloc w (.cells #[.int .i64 (P : Int), .int .i64 (K : Int), .slice a l.length c] 51)
  have C := CheckF P K 0 l _ _ (hT.below hb0) (hl.below hb0) hll hG.fault
  have HD : Hid (∀ W, Calls Tryz.prog 63 #[.agg #[.int .i64 (P : Int), .int .i64 (K : Int), .slice a l.length c]] W fun e w' => e = .returned (.int .i64 (rep P K : Int)) ∧ Below W.heap.size W w') := fun W => directions_any P K _ W hG.field.two hG.le61 hG.le6 hG.le64 ⟨_, _, _, rfl⟩
  have HL : Hid (∀ W, Below w.heap.size w W → Calls Tryz.prog 64 #[.agg #[.int .i64 (P : Int), .int .i64 (K : Int), .slice a l.length c], .int .i64 (rep P K : Int)] W fun e w' => ∃ (R : Nat) (x : Value), e = .returned x ∧ Fd.RootIs P K (Fd.monL l) R ∧ ORow w' W.heap.size x (sgL P K (Fd.monL l) R (rep P K)) ∧ Below W.heap.size W w') := fun W b => traceless_any P K (rep P K) l _ W (hT.below b) (hl.below b) hG hr
  have hF0 := Fd.FB.made w (P : Int) (K : Int) (.slice a l.length c)
  have hFc := hF0.cells
  generalize l.length = ln at *
  obtain ⟨r, Hr⟩ : ∃ r, Hid (rep P K = r) := ⟨_, rfl⟩
  rw [Hr.out] at HD HL hr ⊢
  have d1 : decide ((K : Int) < 3) = false := by simp; omega
  have d2 : ¬ (K : Int) < 3 := by omega
  have d3 : decide (60 < (r : Int)) = false := by simp; omega
  have d4 : ¬ 60 < (r : Int) := by omega
  clear hT hl hll hG
  go_enter Tryz.func22, Tryz.ntmps22
  go_wp2_with (first
    | (go_at_call 62; refine C.mono ?_; rintro e w1 ⟨rfl, hb⟩; clear C; have HB : Hid (Below w.heap.size w w1) := Below.next hb0 hb; clear hFc; have hF1 := hF0.below hb; have hFc := hF1.cells; clear hb hb0 hF0)
    | (go_at_call 63; refine (HD.out _).mono ?_; rintro e w2 ⟨rfl, hb⟩; clear HD; have HB2 : Hid (Below w.heap.size w w2) := Below.next HB.out hb; clear hFc; have hF2 := hF1.below hb; have hFc := hF2.cells; clear hb hF1)
    | (go_at_call 64; refine (HL.out _ HB2.out).mono ?_; rintro e w3 ⟨R, x, rfl, hR, hx, hb⟩; clear HL; have HB3 : Hid (Below w.heap.size w w3) := Below.next HB2.out hb; have HX : Hid (Fd.RootIs P K (Fd.monL l) R ∧ ORow w3 0 x (sgL P K (Fd.monL l) R r)) := ⟨hR, own_low hx (Nat.zero_le _)⟩; clear hb hFc hF2 hR hx)
    | go_in)
  go_ret3
  exact ⟨R, x, rfl, HX.out.1, HX.out.2, HB3.out⟩

end Go.Proofs.YtgpkhfpejopacabGreatDoor

/- Of each system that Grow tells. -/
/- The systems of seven points are quasigroups, and have fifteen parts: the kernel goes through all packings. -/
namespace Go.Proofs.YtgpkhfpejopacabGreatDoor

/-- The cells, block for block. -/
def up7 (f : Nat → Nat) (i x : Nat) : Nat → Nat := fun j => if j = i then x else f j
def six (f : Nat → Nat) (b : List Nat) : Nat → Nat :=
  let x := b.getD 0 0; let y := b.getD 1 0; let z := b.getD 2 0
  fun i => if i = x * 7 + y then z else if i = y * 7 + x then z else if i = x * 7 + z then y else if i = z * 7 + x then y else if i = y * 7 + z then x else if i = z * 7 + y then x else f i
def dg7 (i : Nat) : Nat := if i % 8 = 0 then i / 8 else 0
def st7 (Z : List (List Nat)) : Nat → Nat := Z.foldl six dg7
def ce7 (Z : List (List Nat)) : List Nat := (List.range 49).map (st7 Z)
def tri7 : List (List Nat) := (List.range 7).flatMap fun x => (List.range 7).flatMap fun y => (List.range 7).filterMap fun z => if x < y ∧ y < z then some [x, y, z] else none
def full7 (Z : List (List Nat)) : Bool := (List.range 7).all fun x => (List.range x).all fun y => cv Z y x
def good7 (Z : List (List Nat)) : Bool :=
  let L := ce7 Z
  let t := fun i j => L.getD (i * 7 + j) 0
  (Ql.lF 7 (L.map Int.ofNat) == 0) && comB 7 t && idmB 7 t && (parB 7 t 128 == 15)
def fit7 (Z : List (List Nat)) (b : List Nat) : Bool := !(cv Z (b.getD 0 0) (b.getD 1 0) || cv Z (b.getD 0 0) (b.getD 2 0) || cv Z (b.getD 1 0) (b.getD 2 0))
def chk7 : List (List Nat) → List (List Nat) → Bool
  | [], Z => !full7 Z || good7 Z
  | b :: T, Z => (!fit7 Z b || chk7 T (Z ++ [b])) && chk7 T Z
set_option maxRecDepth 100000 in
theorem chk_all : chk7 tri7 [] = true := by decide +kernel
theorem cv_mono {A B : List (List Nat)} (h : ∀ b ∈ A, b ∈ B) {p q : Nat} (e : cv A p q = true) : cv B p q = true := by
  obtain ⟨b, hb, h1, h2⟩ := cv_iff.1 e
  exact cv_iff.2 ⟨b, h b hb, h1, h2⟩
/-- What the search lets pass. -/
theorem chk_sound (p : List Nat → Bool) : ∀ (T Z : List (List Nat)), chk7 T Z = true → (∀ A b B, Z ++ T.filter p = A ++ b :: B → fit7 A b = true) → full7 (Z ++ T.filter p) = true → good7 (Z ++ T.filter p) = true
  | [], Z, h, _, hf => by
    rw [List.filter_nil, List.append_nil] at hf ⊢
    unfold chk7 at h
    rw [hf] at h
    exact h
  | b :: T, Z, h, hp, hf => by
    unfold chk7 at h
    rw [Bool.and_eq_true] at h
    by_cases e : p b = true
    · rw [List.filter_cons_of_pos e] at hp hf ⊢
      have h0 := hp Z b (T.filter p) rfl
      rw [h0] at h
      have e2 : Z ++ b :: T.filter p = (Z ++ [b]) ++ T.filter p := by simp
      rw [e2] at hp hf ⊢
      exact chk_sound p T _ h.1 hp hf
    · rw [List.filter_cons_of_neg e] at hp hf ⊢
      exact chk_sound p T Z h.2 hp hf
theorem tri_mem {x y z : Nat} (h1 : x < y) (h2 : y < z) (h3 : z < 7) : [x, y, z] ∈ tri7 := by
  unfold tri7
  refine List.mem_flatMap.2 ⟨x, List.mem_range.2 (by omega), List.mem_flatMap.2 ⟨y, List.mem_range.2 (by omega), List.mem_filterMap.2 ⟨z, List.mem_range.2 h3, ?_⟩⟩⟩
  rw [if_pos ⟨h1, h2⟩]
theorem tri_three : ∀ b ∈ tri7, b.length = 3 := by decide +kernel
def lltB : List Nat → List Nat → Bool
  | x :: s, y :: t => decide (x < y) || (x == y && lltB s t)
  | _, _ => false
theorem lltB_iff : ∀ {s t : List Nat}, lltB s t = true ↔ llt s t
  | x :: s, y :: t => by
    unfold lltB llt
    rw [Bool.or_eq_true, Bool.and_eq_true, decide_eq_true_eq, beq_iff_eq, lltB_iff]
  | [], _ => by unfold lltB llt; simp
  | _ :: _, [] => by unfold lltB llt; simp
theorem tri_ord : tri7.Pairwise fun a b => llt a b := by
  have : tri7.Pairwise fun a b => lltB a b = true := by decide +kernel
  exact this.imp fun h => lltB_iff.1 h
theorem llt_asy : ∀ {s t : List Nat}, llt s t → ¬ llt t s
  | x :: s, y :: t, h, h' => by
    unfold llt at h h'
    rcases h with h | ⟨e, h⟩ <;> rcases h' with h' | ⟨e', h'⟩
    · omega
    · omega
    · omega
    · exact llt_asy h h'
/-- A system in its order is what it leaves of all the triples. -/
theorem sys_filter {Z : List (List Nat)} (hr : ∀ b ∈ Z, ∃ x y z, b = [x, y, z] ∧ x < y ∧ y < z ∧ z < 7) (ho : Z.Pairwise fun a b => ¬ llt b a) (hd : Z.Nodup) : Z = tri7.filter fun b => Z.contains b := by
  have hn : (tri7.filter fun b => Z.contains b).Nodup := (tri_ord.imp fun {a b} h (e : a = b) => llt_irr (e ▸ h)).filter _
  have hp : Z.Perm (tri7.filter fun b => Z.contains b) := (List.perm_ext_iff_of_nodup hd hn).2 fun b => by
    rw [List.mem_filter, List.contains_iff_mem]
    refine ⟨fun h => ⟨?_, h⟩, fun h => h.2⟩
    obtain ⟨x, y, z, rfl, h1, h2, h3⟩ := hr b h
    exact tri_mem h1 h2 h3
  refine hp.eq_of_pairwise (fun a b ha hb h1 h2 => ?_) ho ((tri_ord.imp fun h => llt_asy h).filter _)
  obtain ⟨x, y, z, rfl, _⟩ := hr a ha
  rcases llt_tri (s := [x, y, z]) (t := b) (tri_three b (List.mem_filter.1 hb).1).symm with h | h | h
  · exact absurd h h2
  · exact h
  · exact absurd h h1
end Go.Proofs.YtgpkhfpejopacabGreatDoor

namespace Go.Proofs.YtgpkhfpejopacabGreatDoor

theorem nb_twice {A B : List (List Nat)} {b : List Nat} {p q : Nat} (h : cv A p q = true) (hp : p ∈ b) (hq : q ∈ b) : 2 ≤ nb (A ++ b :: B) [p, q] := by
  have h1 := cv_nb.1 h
  unfold nb at h1 ⊢
  rw [List.countP_append, List.countP_cons_of_pos (by simp [hp, hq])]
  omega
theorem pk_fit {Z A B : List (List Nat)} {b : List Nat} (h : Pk 7 Z) (e : Z = A ++ b :: B) : fit7 A b = true := by
  obtain ⟨x, y, z, rfl, h1, h2, h3⟩ := h.rise b (by rw [e]; simp)
  have key : ∀ p q, p < q → q < 7 → p ∈ [x, y, z] → q ∈ [x, y, z] → cv A p q = false := fun p q hpq hq ha hb => by
    cases g : cv A p q with
    | false => rfl
    | true =>
      have i1 := nb_twice (B := B) g ha hb
      have i2 := h.one p q hpq hq
      rw [e] at i2; omega
  unfold fit7
  show (!(cv A x y || cv A x z || cv A y z)) = true
  rw [key x y h1 (by omega) (by simp) (by simp), key x z (by omega) h3 (by simp) (by simp), key y z h2 h3 (by simp) (by simp)]
  rfl
theorem pk_nodup : ∀ {Z : List (List Nat)} (A : List (List Nat)), Pk 7 (A ++ Z) → Z.Nodup
  | [], _, _ => List.nodup_nil
  | b :: Z, A, h => by
    refine List.nodup_cons.2 ⟨fun hb => ?_, pk_nodup (A ++ [b]) (by simpa using h)⟩
    obtain ⟨C, D, rfl⟩ := List.append_of_mem hb
    obtain ⟨x, y, z, rfl, h1, h2, h3⟩ := h.rise b (by simp)
    have g : cv (A ++ [x, y, z] :: C) x y = true := cv_iff.2 ⟨[x, y, z], by simp, by simp, by simp⟩
    have i1 := nb_twice (B := D) g (show x ∈ [x, y, z] by simp) (show y ∈ [x, y, z] by simp)
    have i2 := h.one x y h1 (by omega)
    rw [show A ++ [x, y, z] :: (C ++ [x, y, z] :: D) = (A ++ [x, y, z] :: C) ++ [x, y, z] :: D by simp] at i2
    omega
theorem pk_perm {R Z : List (List Nat)} (h : Pk 7 R) (hp : Z.Perm R) : Pk 7 Z := ⟨fun b hb => h.rise b (hp.mem_iff.1 hb), fun p q h1 h2 => by
  have := h.one p q h1 h2
  unfold nb at this ⊢
  rw [hp.countP_eq]; exact this⟩
theorem full_of {R Z : List (List Nat)} (h : Full 7 R) (hp : Z.Perm R) : full7 Z = true := by
  unfold full7
  rw [List.all_eq_true]
  intro x hx
  rw [List.all_eq_true]
  intro y hy
  exact cv_mono (fun b hb => hp.mem_iff.2 hb) (h y x (List.mem_range.1 hy) (List.mem_range.1 hx))
theorem good_seven {R Z : List (List Nat)} (h : Pk 7 R) (hf : Full 7 R) (hs : Srtd R Z) : good7 Z = true := by
  have hZ := pk_perm h hs.perm
  have e := sys_filter hZ.rise hs.ord (pk_nodup [] hZ)
  have := chk_sound (fun b => Z.contains b) tri7 [] chk_all (fun A b B g => pk_fit hZ (by rw [List.nil_append, ← e] at g; exact g)) (by rw [List.nil_append, ← e]; exact full_of hf hs.perm)
  rw [List.nil_append, ← e] at this
  exact this
end Go.Proofs.YtgpkhfpejopacabGreatDoor

/- The walk of the fact that both ask first. -/
/- The one closed fact that both ask first. -/
namespace Go.Proofs.YtgpkhfpejopacabGreatDoor
open Go.RowKit

theorem ra {n : Nat} {f : Nat → Bool} (h : (List.range n).all f = true) {i : Nat} (hi : i < n) : f i = true := List.all_eq_true.1 h i (List.mem_range.2 hi)
def plpB (v : Nat) (B : List (List Nat)) : Bool := ((List.range B.length).all fun i => (List.range i).all fun j => mt (B.getD i []) (B.getD j []) == 1) && (List.range v).all fun x => (List.range x).all fun y => nb B [y, x] == 1
theorem plp_of {v : Nat} {B : List (List Nat)} {s : List Nat} (h : plpB v B = true) (hv : 4 ≤ v) (hs : s.Pairwise (· < ·) ∧ ∀ x ∈ s, 0 ≤ x ∧ x < v) (h4 : s.length = 4) (hl : liB B s = false) : PlP v B := by
  unfold plpB at h
  rw [Bool.and_eq_true] at h
  refine ⟨fun i j b c hji hb hc => ?_, fun x y hy hx => beq_iff_eq.1 (ra (ra h.2 hx) hy), hv, s, rs_iff.2 hs, h4, hl⟩
  have := beq_iff_eq.1 (ra (ra h.1 (List.getElem?_eq_some_iff.1 hb).1) hji)
  rw [List.getD_eq_getElem?_getD, hb, List.getD_eq_getElem?_getD, hc] at this
  exact this
theorem root_two {R : Nat} (h : Fd.RootIs 2 3 (Fd.monL (Fd.digL 3 2 3)) R) : R = 2 := by
  have h2 : Fd.IsOrd 2 3 (Fd.monL (Fd.digL 3 2 3)) 2 (2 ^ 3 - 1) := by
    refine ⟨by decide, by decide +kernel, fun j h1 h2 => ?_⟩
    have : j = 1 ∨ j = 2 ∨ j = 3 ∨ j = 4 ∨ j = 5 ∨ j = 6 := by omega
    rcases this with rfl | rfl | rfl | rfl | rfl | rfl <;> decide +kernel
  have h1 : ¬ Fd.IsOrd 2 3 (Fd.monL (Fd.digL 3 2 3)) 1 (2 ^ 3 - 1) := fun h => h.2.2 1 (by decide) (by decide) (by decide +kernel)
  rcases h with ⟨a, b, c, d⟩ | ⟨rfl, h⟩
  · have : ¬ 2 < R := fun hh => d 2 (by omega) hh h2
    have : R ≠ 1 := fun e => h1 (e ▸ c)
    omega
  · exact absurd h2 (h 2 (by decide) (by decide))
theorem rep7 : rep 2 3 = 7 := by decide +kernel
theorem sg_fano : sgL 2 3 (Fd.monL (Fd.digL 3 2 3)) 2 7 = [1, 2, 4] := by decide +kernel
def fano : List (List Nat) := dvT 7 [1, 2, 4] 7
theorem good_fano : GoodD 7 fano := ⟨by decide, by decide, by decide +kernel, fun b hb => rs_iff.2 ((by decide +kernel : ∀ b ∈ fano, b.Pairwise (· < ·) ∧ ∀ x ∈ b, 0 ≤ x ∧ x < 7) b hb)⟩
theorem dF_fano : dF ((7 : Nat) : Int) (toZ fano) = 0 := by decide +kernel
theorem prp_fano : PrP 7 fano 3 := by
  obtain ⟨k, hk⟩ := (plp_of (v := 7) (B := fano) (s := [0, 1, 2, 5]) (by decide +kernel) (by decide) (by decide) rfl (by decide +kernel)).prp good_fano.bls
  have e : k = 3 := (hk.size (fano.getD 0 []) (by decide +kernel)).symm.trans (by decide +kernel)
  rw [← e]; exact hk
end Go.Proofs.YtgpkhfpejopacabGreatDoor

namespace Go.Proofs.YtgpkhfpejopacabGreatDoor
open Go.RowKit

theorem fbxT (a b c : Value) (w : World) : ∀ W, Below (w.alloc (.cells #[a, b, c] 51)).heap.size (w.alloc (.cells #[a, b, c] 51)) W → W.cell? ⟨w.heap.size, 0, none⟩ = some a ∧ W.cell? ⟨w.heap.size, 1, none⟩ = some b ∧ W.cell? ⟨w.heap.size, 2, none⟩ = some c := fun W hW => by
  have h := (hW.block w.heap.size (by simp)).trans (heap_alloc_new w _)
  exact ⟨by rw [cell_of_row W _ 0 _ _ _ h]; rfl, by rw [cell_of_row W _ 1 _ _ _ h]; rfl, by rw [cell_of_row W _ 2 _ _ _ h]; rfl⟩
set_option maxRecDepth 100000 in
set_option maxHeartbeats 8000000 in
theorem one_any (w : World) (hT : Tab w) (hF : Fd.Tab w) :
    Calls Tryz.prog 5 #[] w fun e w' => e = .returned (.bool true) ∧ Below w.heap.size w w' := by
  have C1 : Calls Tryz.prog 21 #[.int .i64 2, .int .i64 3] w fun e w' => ∃ a n c, e = .returned (.tuple #[.agg #[.int .i64 2, .int .i64 3, .slice a n c], .int .i64 0]) ∧ Hid (Sl w' (.slice a n c) (Fd.digL 3 2 3)) ∧ Below w.heap.size w w' := by
    refine (Fd.least_any 2 3 w hF).mono ?_
    rintro e w' ⟨q, d, v, l, z, rfl, hS, hL, b⟩
    obtain ⟨rfl, rfl, rfl, rfl⟩ := Fd.fact_least hL
    obtain ⟨a, c, rfl, _⟩ := id hS
    exact ⟨a, _, c, rfl, hS, b⟩
  have H2 : Hid (∀ (W : World) (v : Value), Below w.heap.size w W → Sl W v (Fd.digL 3 2 3) → Calls Tryz.prog 22 #[.agg #[.int .i64 2, .int .i64 3, v]] W fun e w' => ∃ xa xn xc, e = .returned (.tuple #[.int .i64 7, .slice xa xn xc, .int .i64 0]) ∧ Hid (Sl w' (.slice xa xn xc) (([1, 2, 4] : List Nat).map Int.ofNat)) ∧ Below W.heap.size W w') := fun W v hW hS => by
    have := Singer_ok 2 3 _ v W (hF.below hW) hS (by rw [Fd.digL_length]; decide) Fd.fact_good (by decide) (by rw [rep7]; decide)
    rw [rep7] at this
    refine this.mono ?_
    rintro e w' ⟨R, x, rfl, hR, hO, b⟩
    obtain rfl := root_two hR
    rw [sg_fano] at hO
    have hs := hO.sl
    obtain ⟨a, c, rfl, _⟩ := id hs
    exact ⟨a, _, c, rfl, hs, b⟩
  have H3 : Hid (∀ (W : World) (u : Value), Sl W u (([1, 2, 4] : List Nat).map Int.ofNat) → Calls Tryz.prog 23 #[.int .i64 7, u] W fun e w' => ∃ xa xn xc, e = .returned (.tuple #[.agg #[.int .i64 7, .slice xa xn xc], .int .i64 0]) ∧ Hid (Rw w' (.slice xa xn xc) (toZ fano)) ∧ Below W.heap.size W w') := fun W u hu => by
    refine (Dev_main 7 [1, 2, 4] u W ⟨by decide, by decide, by decide, by decide⟩ (by decide) hu).mono ?_
    rintro e w' ⟨y, rfl, hO, b⟩
    have hr := hO.rw
    obtain ⟨a, c, rfl⟩ := hO.cap
    exact ⟨a, _, c, rfl, hr, b⟩
  have H4 : Hid (∀ (W : World) (u : Value), Below w.heap.size w W → Rw W u (toZ fano) → Calls Tryz.prog 24 #[.agg #[.int .i64 7, u]] W fun e w' => e = .returned (.tuple #[.int .i64 2, .int .i64 0]) ∧ Below W.heap.size W w') := fun W u hW hu =>
    PCheck_yes 7 3 fano u W (hT.next hW) good_fano dF_fano hu prp_fano
  have HFB : Hid (∀ (W W' : World) (u : Value), Below (W.alloc (.cells #[.int .i64 2, .int .i64 3, u] 51)).heap.size (W.alloc (.cells #[.int .i64 2, .int .i64 3, u] 51)) W' → W'.cell? ⟨W.heap.size, 0, none⟩ = some (.int .i64 2) ∧ W'.cell? ⟨W.heap.size, 1, none⟩ = some (.int .i64 3) ∧ W'.cell? ⟨W.heap.size, 2, none⟩ = some u) := fun W W' u h => fbxT _ _ _ W W' h
  have HDB : Hid (∀ (W W' : World) (u : Value), Below (W.alloc (.cells #[.int .i64 7, u] 25)).heap.size (W.alloc (.cells #[.int .i64 7, u] 25)) W' → W'.cell? ⟨W.heap.size, 0, none⟩ = some (.int .i64 7) ∧ W'.cell? ⟨W.heap.size, 1, none⟩ = some u) := fun W W' u h => des_box 7 _ W W' h
  go_enter Tryz.func5, Tryz.ntmps5
  go_wp2_with (first
    | (go_at_call 21; refine C1.mono ?_; rintro e w1 ⟨a, n, c, rfl, HS1, b1⟩; clear C1; have c1 := balloc w1 (.cells #[.int .i64 2, .int .i64 3, .slice a n c] 51); obtain ⟨x0, x1, x2⟩ := HFB.out w1 (w1.alloc (.cells #[.int .i64 2, .int .i64 3, .slice a n c] 51)) (.slice a n c) (Below.refl _ _); replace b1 := Below.next b1 c1; have C2 := H2.out (w1.alloc (.cells #[.int .i64 2, .int .i64 3, .slice a n c] 51)) _ b1 (HS1.out.below c1))
    | (go_at_call 22; refine C2.mono ?_; rintro e w2 ⟨ya, yn, yc, rfl, HS2, b2⟩; clear C2; replace b2 := Below.next b1 b2; have C3 := H3.out w2 _ HS2.out)
    | (go_at_call 23; refine C3.mono ?_; rintro e w3 ⟨xa, xn, xc, rfl, HR2, b3⟩; clear C3; have c2 := balloc w3 (.cells #[.int .i64 7, .slice xa xn xc] 25); obtain ⟨d0, d1⟩ := HDB.out w3 (w3.alloc (.cells #[.int .i64 7, .slice xa xn xc] 25)) (.slice xa xn xc) (Below.refl _ _); replace b3 := Below.next (Below.next b2 b3) c2; have C4 := H4.out (w3.alloc (.cells #[.int .i64 7, .slice xa xn xc] 25)) _ b3 (HR2.out.below c2))
    | (go_at_call 24; refine C4.mono ?_; rintro e w4 ⟨rfl, b4⟩; clear C4; obtain ⟨f0, f1⟩ := HDB.out w3 w4 (.slice xa xn xc) b4; replace b4 := Below.next b3 b4))
  go_ret
  exact ⟨rfl, b4⟩

end Go.Proofs.YtgpkhfpejopacabGreatDoor

/- The state of TopSteiner's loops. -/
/- What Grow tells of seven points, and the cells. -/
namespace Go.Proofs.YtgpkhfpejopacabGreatDoor
open Go.RowKit

/-- Blocks of seven points that make a quasigroup. -/
structure Sev (Z : List (List Nat)) : Prop where
  rise : ∀ b ∈ Z, ∃ x y z, b = [x, y, z] ∧ x < y ∧ y < z ∧ z < 7
  few : Z.length ≤ 7
  good : good7 Z = true
theorem got_seven {ls : List (List Int)} {p f : Int} {Z : List (List Nat)} (h : GoT 7 ls p f Z) : f ≠ 0 ∨ (f = 0 ∧ p = 7 ∧ Sev Z) := by
  rcases h with ⟨_, h, _⟩ | ⟨n, L, hn, _, hP, _, _, _, ⟨_, rfl, _⟩ | ⟨R, hg, rfl, rfl, hs⟩⟩
  · exact .inl h
  · exact .inl (by decide)
  · obtain rfl : n = 7 := by omega
    obtain ⟨h1, h2, _⟩ := gr_sys hP hg
    have h3 := pk_perm h1 hs.perm
    refine .inr ⟨rfl, rfl, h3.rise, ?_, good_seven h1 h2 hs⟩
    have := h3.le
    omega
theorem good_parts {Z : List (List Nat)} (h : good7 Z = true) : ∃ L : List Int, L = (ce7 Z).map Int.ofNat ∧ Ql.lF 7 L = 0 ∧ Ql.GoodS 7 L ∧ comB 7 (Ql.sq 7 L) = true ∧ idmB 7 (Ql.sq 7 L) = true ∧ parB 7 (Ql.sq 7 L) (2 ^ 7) = 15 := by
  have e : (fun i j => (ce7 Z).getD (i * 7 + j) 0) = Ql.sq 7 ((ce7 Z).map Int.ofNat) := by
    funext i j
    unfold Ql.sq
    rw [List.getD_eq_getElem?_getD, List.getD_eq_getElem?_getD, List.getElem?_map]
    cases (ce7 Z)[i * 7 + j]? <;> rfl
  unfold good7 at h
  simp only [Bool.and_eq_true, beq_iff_eq, e] at h
  obtain ⟨⟨⟨h1, h2⟩, h3⟩, h4⟩ := h
  obtain ⟨n, hn, hG⟩ := Ql.lF_ok h1
  obtain rfl : n = 7 := by omega
  exact ⟨_, rfl, h1, hG, h2, h3, h4⟩
end Go.Proofs.YtgpkhfpejopacabGreatDoor

namespace Go.Proofs.YtgpkhfpejopacabGreatDoor
open Go.RowKit

/-- The blocks as they were told (their box b), the cells behind (b + 1), the square's box t. -/
structure St7 (w2 : World) (t : Nat) (wr : World) (x : Value) (f : Nat → Int) : Prop where
  ht : w2.heap.size + 1 < t
  own : Own wr (w2.heap.size + 1) 49 f
  lo : Below w2.heap.size w2 wr
  dbx : wr.heap[w2.heap.size]? = some (.cells #[.int .i64 7, x] 25 (0, 0))
  sbx : wr.heap[t]? = some (.cells #[.int .i64 7, .slice (some ⟨w2.heap.size + 1, 0, none⟩) 49 49] 31 (0, 0))
theorem St7.set {w2 wr : World} {t : Nat} {x : Value} {f : Nat → Int} (h : St7 w2 t wr x f) (i : Nat) (v : Int) : St7 w2 t (wr.setCell ⟨w2.heap.size + 1, i, none⟩ (.int .i64 v)) x (upd f i v) :=
  ⟨h.ht, h.own.set i v, h.lo.setCell (p := ⟨w2.heap.size + 1, i, none⟩) (by show w2.heap.size ≤ w2.heap.size + 1; omega) _,
    (heap_setCell_other wr ⟨w2.heap.size + 1, i, none⟩ w2.heap.size _ (by show w2.heap.size ≠ w2.heap.size + 1; omega)).trans h.dbx,
    (heap_setCell_other wr ⟨w2.heap.size + 1, i, none⟩ (t) _ (by show t ≠ w2.heap.size + 1; have := h.ht; omega)).trans h.sbx⟩
theorem St7.below {w2 wr w' : World} {t : Nat} {x : Value} {f : Nat → Int} (h : St7 w2 t wr x f) (b : Below wr.heap.size wr w') : St7 w2 t w' x f :=
  ⟨h.ht, h.own.below b, Below.next h.lo b, (b.block _ (Array.getElem?_eq_some_iff.1 h.dbx).1).trans h.dbx, (b.block _ (Array.getElem?_eq_some_iff.1 h.sbx).1).trans h.sbx⟩
theorem St7.congr {w2 wr : World} {t : Nat} {x : Value} {f f' : Nat → Int} (h : St7 w2 t wr x f) (e : ∀ j, j < 49 → f j = f' j) : St7 w2 t wr x f' := ⟨h.ht, h.own.congr e, h.lo, h.dbx, h.sbx⟩
theorem St7.d {w2 wr : World} {t : Nat} {x : Value} {f : Nat → Int} (h : St7 w2 t wr x f) : wr.cell? ⟨w2.heap.size, 0, none⟩ = some (.int .i64 7) ∧ wr.cell? ⟨w2.heap.size, 1, none⟩ = some x :=
  ⟨by rw [cell_of_row wr _ 0 _ _ _ h.dbx]; rfl, by rw [cell_of_row wr _ 1 _ _ _ h.dbx]; rfl⟩
theorem St7.s {w2 wr : World} {t : Nat} {x : Value} {f : Nat → Int} (h : St7 w2 t wr x f) : wr.cell? ⟨t, 0, none⟩ = some (.int .i64 7) ∧ wr.cell? ⟨t, 1, none⟩ = some (.slice (some ⟨w2.heap.size + 1, 0, none⟩) 49 49) :=
  ⟨by rw [cell_of_row wr _ 0 _ _ _ h.sbx]; rfl, by rw [cell_of_row wr _ 1 _ _ _ h.sbx]; rfl⟩
/-- What the j-th order of three puts where. -/
def ord6 (j : Nat) : List Nat := unrL 3 (List.range 3) j
def sxN (b : List Nat) (j i : Nat) (f : Nat → Nat) : Nat := if i = b.getD ((ord6 j).getD 0 0) 0 * 7 + b.getD ((ord6 j).getD 1 0) 0 then b.getD ((ord6 j).getD 2 0) 0 else f i
def sxK (b : List Nat) (f : Nat → Nat) : Nat → Nat → Nat
  | 0 => f
  | j + 1 => fun i => sxN b j i (sxK b f j)
theorem sx_six {x y z : Nat} (h1 : x < y) (h2 : y < z) (f : Nat → Nat) : sxK [x, y, z] f 6 = six f [x, y, z] := by
  funext i
  have o0 : ord6 0 = [0, 1, 2] := by decide +kernel
  have o1 : ord6 1 = [0, 2, 1] := by decide +kernel
  have o2 : ord6 2 = [1, 0, 2] := by decide +kernel
  have o3 : ord6 3 = [1, 2, 0] := by decide +kernel
  have o4 : ord6 4 = [2, 0, 1] := by decide +kernel
  have o5 : ord6 5 = [2, 1, 0] := by decide +kernel
  simp only [sxK, sxN, o0, o1, o2, o3, o4, o5, six, List.getD_cons_zero, List.getD_cons_succ]
  repeat' split
  all_goals omega
end Go.Proofs.YtgpkhfpejopacabGreatDoor

namespace Go.Proofs.YtgpkhfpejopacabGreatDoor
open Go.RowKit
theorem Sev.at {Z : List (List Nat)} (h : Sev Z) {k : Nat} (hk : k < Z.length) : ∃ x y z, x < y ∧ y < z ∧ z < 7 ∧ Hid (Z[k]? = some [x, y, z]) := by
  obtain ⟨x, y, z, e, h1, h2, h3⟩ := h.rise Z[k] (List.getElem_mem hk)
  exact ⟨x, y, z, h1, h2, h3, (by rw [List.getElem?_eq_getElem hk, e] : Z[k]? = some [x, y, z])⟩
theorem rw_at {w : World} {a : Option Addr} {n c : Nat} {Z : List (List Nat)} {k x y z : Nat} (h : Rw w (.slice a n c) (toZ Z)) (e : Z[k]? = some [x, y, z]) : ∃ B off u, a = some ⟨B, off, none⟩ ∧ w.cell? ⟨B, off + k, none⟩ = some u ∧ Sl w u [(x : Int), (y : Int), (z : Int)] := by
  obtain ⟨a', c', e1, hr⟩ := h
  cases e1
  exact hr k _ (by unfold toZ; rw [List.getElem?_map, e]; rfl)
theorem get3 (x y z j : Nat) : (some (Value.int .i64 ([(x : Int), (y : Int), (z : Int)].getD j 0)) : Option Value) = some (.int .i64 (([x, y, z].getD j 0 : Nat) : Int)) := by
  match j with
  | 0 | 1 | 2 => rfl
  | j + 3 => rfl
theorem oth_cell {w : World} {b i : Nat} {a : Nat} {j : Nat} {v x : Value} (h : a ≠ b) (e : w.cell? ⟨a, j, none⟩ = some x) : (w.setCell ⟨b, i, none⟩ v).cell? ⟨a, j, none⟩ = some x := by
  rw [World.cell?_setCell_other (h := fun q => h (congrArg Addr.block q).symm)]; exact e
theorem own_cells {w : World} {g : Nat} {Z : List (List Nat)} {L : List Int} (h : Own w g 49 (fun i => (st7 Z i : Int))) (e : L = (ce7 Z).map Int.ofNat) : Sl w (.slice (some ⟨g, 0, none⟩) 49 49) L := by
  have hl : L.length = 49 := by rw [e, List.length_map]; simp [ce7]
  refine ⟨_, _, by rw [hl], fun j hj => ⟨_, _, rfl, ?_⟩⟩
  rw [hl] at hj
  rw [Nat.zero_add, h.cell j hj, e]
  simp [ce7, hj]
theorem St7.drew {w2 wr : World} {t : Nat} {x : Value} {f : Nat → Int} (h : St7 w2 t wr x f) : St7 w2 t wr.drew x f := ⟨h.ht, h.own, h.lo.drew, h.dbx, h.sbx⟩
theorem ord_at {q : Nat} (h : q < 6) : ∃ p0 p1 p2, Hid (ord6 q = [p0, p1, p2]) ∧ p0 < 3 ∧ p1 < 3 ∧ p2 < 3 := by
  have : q = 0 ∨ q = 1 ∨ q = 2 ∨ q = 3 ∨ q = 4 ∨ q = 5 := by omega
  rcases this with rfl | rfl | rfl | rfl | rfl | rfl
  · exact ⟨0, 1, 2, (by decide +kernel : ord6 0 = [0, 1, 2]), by omega, by omega, by omega⟩
  · exact ⟨0, 2, 1, (by decide +kernel : ord6 1 = [0, 2, 1]), by omega, by omega, by omega⟩
  · exact ⟨1, 0, 2, (by decide +kernel : ord6 2 = [1, 0, 2]), by omega, by omega, by omega⟩
  · exact ⟨1, 2, 0, (by decide +kernel : ord6 3 = [1, 2, 0]), by omega, by omega, by omega⟩
  · exact ⟨2, 0, 1, (by decide +kernel : ord6 4 = [2, 0, 1]), by omega, by omega, by omega⟩
  · exact ⟨2, 1, 0, (by decide +kernel : ord6 5 = [2, 1, 0]), by omega, by omega, by omega⟩
theorem get_lt3 {x y z j : Nat} (h1 : x < y) (h2 : y < z) (h3 : z < 7) (hj : j < 3) : [x, y, z].getD j 0 < 7 := by
  match j, hj with
  | 0, _ => show x < 7; omega
  | 1, _ => show y < 7; omega
  | 2, _ => exact h3
set_option maxRecDepth 100000 in
set_option maxHeartbeats 8000000 in
theorem Steiner_any (ls : List (List Int)) (u : Value) (w : World) (hT : Tab w) (hF : Fd.Tab w) (hu : Rw w u ls) (hl : ls.length ≤ maxLen) (hll : ∀ l ∈ ls, l.length ≤ maxLen) :
    Calls Tryz.prog 3 #[u] w fun e w' => e = .returned (.bool true) ∧ Below w.heap.size w w' := by
  have C1 := one_any w hT hF
  have HG : Hid (∀ W, Below w.heap.size w W → Calls Tryz.prog 6 #[.int .i64 7, u] W (GoP 7 ls W)) := fun W b => Grow_any 7 ls u W (hu.below b) hl hll
  obtain ⟨a, n, c, rfl⟩ : ∃ a n c, u = .slice a n c := by obtain ⟨a, c, e, _⟩ := hu; exact ⟨a, _, c, e⟩
  clear hu hl hll
  go_enter Tryz.func3, Tryz.ntmps3
  go_wp2_with (go_at_call 5; refine C1.mono ?_; rintro e w1 ⟨rfl, b1⟩; clear C1; have C2 := HG.out w1 b1)
  refine C2.mono ?_
  rintro e w2 ⟨x, Z, p, f, rfl, hgo, hZ, b2⟩
  clear C2
  obtain ⟨xa, xc, rfl⟩ : ∃ xa xc, x = .slice xa Z.length xc := by obtain ⟨a, c, e, _⟩ := hZ; exact ⟨a, c, by rw [e]; unfold toZ; rw [List.length_map]⟩
  have hb2 := Below.next b1 b2
  have c2 := balloc w2 (.cells #[.int .i64 p, .slice xa Z.length xc] 25)
  rcases got_seven hgo with hf | ⟨rfl, rfl, hS⟩
  · have hfb : (f != 0) = true := by simpa using hf
    obtain ⟨m, Hm⟩ : ∃ m, Hid (Z.length = m) := ⟨_, rfl⟩
    rw [Hm.out] at c2 hZ ⊢
    clear hgo hZ
    go_wp2
    go_ret
    exact ⟨rfl, Below.next hb2 c2⟩
  · clear hgo
    obtain ⟨m, Hm⟩ : ∃ m, Hid (Z.length = m) := ⟨_, rfl⟩
    have hm7 : m ≤ 7 := by rw [← Hm.out]; exact hS.few
    rw [Hm.out] at c2 hZ ⊢
    obtain ⟨i3, hi, hz0, hz1, hz2⟩ := info3
    have HS : Hid (Sev Z) := hS
    have HZ : Hid (Rw w2 (.slice xa m xc) (toZ Z)) := hZ
    clear hS hZ
    go_wp2_with (first
      | (at_make; refine wpList_make_full _ rfl _ _ 29 rfl (w2.heap.size + 1) 3 i3 (.int .i64 0) 1 und22 hi hz0 hz1 .i64 .i64 (49 : Int) (49 : Int) 49 rfl rfl rfl rfl ?c1 ?c2 ?c3 ?_))
    case c1 => rw [hz2]; omega
    case c2 => unfold maxLen; omega
    case c3 => simp
    intro w3 how3 hgr3
    have hO3 := own_made' how3
    have hb3 : Below (w2.heap.size + 1) (w2.alloc (.cells #[.int .i64 7, .slice xa m xc] 25)) w3 := ⟨hgr3.os, hgr3.tape, hgr3.output, hgr3.size, fun k hk => hgr3.block k (by simpa using hk) (by simp)⟩
    clear how3 hgr3
    have hs3 : w2.heap.size + 1 < w3.heap.size := hO3.lt
    have hSt : St7 w2 w3.heap.size (w3.alloc (.cells #[.int .i64 7, .slice (some ⟨w2.heap.size + 1, 0, none⟩) 49 49] 31)) (.slice xa m xc) (fun _ => 0) := by
      have b4 := balloc w3 (.cells #[.int .i64 7, .slice (some ⟨w2.heap.size + 1, 0, none⟩) 49 49] 31)
      refine ⟨hs3, hO3.below b4, Below.next (c2.trans (hb3.mono (by omega))) b4, ?_, heap_alloc_new w3 _⟩
      exact (b4.block _ (by omega)).trans ((hb3.block _ (by omega)).trans (heap_alloc_new w2 _))
    clear hO3 hb3
    go_wp2
    generalize w3.alloc (.cells #[.int .i64 7, .slice (some ⟨w2.heap.size + 1, 0, none⟩) 49 49] 31) = w4 at hSt ⊢
    generalize w3.heap.size = t at hSt hs3 ⊢
    clear w3
    go_loopw [7] (fun i wr => ∃ j : Nat, i = .int .i64 j ∧ j ≤ 7 ∧ St7 w2 t wr (.slice xa m xc) (fun i => if i % 8 = 0 ∧ i / 8 < j then ((i / 8 : Nat) : Int) else 0)) (fun i _ => (7 - intOf i).toNat)
    case atStart => exact ⟨0, rfl, by omega, hSt.congr fun j _ => by rw [if_neg (by omega)]⟩
    case round =>
      clear hSt
      obtain ⟨j, rfl, hj, hSt⟩ := hrel
      by_cases hlt : j < 7
      · have hji : (j : Int) < 7 := by omega
        have hjd : decide ((j : Int) < 7) = true := by simp; omega
        obtain ⟨s0, s1⟩ := hSt.s
        have hcell := hSt.own.cell (8 * j) (by omega)
        have hfr := hSt.own.frozen (8 * j)
        go_wp2
        go_roundw
        case rel =>
          refine ⟨j + 1, by go_num, by omega, (hSt.set (8 * j) j).congr fun i hi => ?_⟩
          unfold upd
          by_cases e : i = 8 * j
          · subst e; rw [if_pos rfl, if_pos (by omega)]; congr 1; omega
          · rw [if_neg e]
            show (if i % 8 = 0 ∧ i / 8 < j then ((i / 8 : Nat) : Int) else 0) = _
            by_cases g : i % 8 = 0 ∧ i / 8 < j
            · rw [if_pos g, if_pos (by omega)]
            · rw [if_neg g, if_neg (by omega)]
        case measure => simp [intOf]; omega
      · have hjd : decide ((j : Int) < 7) = false := by simp; omega
        have hS0 : St7 w2 t wr (.slice xa m xc) (fun i => (st7 [] i : Int)) := hSt.congr fun i hi => by
          show _ = ((dg7 i : Nat) : Int)
          unfold dg7
          by_cases g : i % 8 = 0
          · rw [if_pos (by omega), if_pos g]
          · rw [if_neg (by omega), if_neg g]; rfl
        clear hlt hj
        clear hSt
        obtain ⟨s0, s1⟩ := hS0.s
        obtain ⟨d0, d1⟩ := hS0.d
        go_wp2
        clear s0 s1 d0 d1
        go_loopw [8] (fun i wr => ∃ k : Nat, i = .int .i64 k ∧ k ≤ m ∧ St7 w2 t wr (.slice xa m xc) (fun i => (st7 (Z.take k) i : Int))) (fun i _ => (m - intOf i).toNat)
        case atStart => exact ⟨0, rfl, by omega, hS0⟩
        case round =>
          clear hS0
          obtain ⟨k, rfl, hk, hSt⟩ := hrel
          obtain ⟨d0, d1⟩ := hSt.d
          by_cases hlt : k < m
          · have hki : (k : Int) < (m : Int) := by omega
            have hkd : decide ((k : Int) < (m : Int)) = true := by simp; omega
            obtain ⟨x, y, z, hxy, hyz, hz7, HB⟩ := HS.out.at (show k < Z.length by rw [Hm.out]; exact hlt)
            obtain ⟨B, off, u, rfl, hc, hu⟩ := rw_at HZ.out HB.out
            obtain ⟨g, o, uc, rfl, hg, hgc⟩ := hu.form (n := 3) (by simp) (by omega)
            have HU : Hid (∀ W, Below w2.heap.size w2 W → ∀ j, j < 3 → W.cell? ⟨g, o + j, none⟩ = some (.int .i64 (([x, y, z].getD j 0 : Nat) : Int))) := fun W b j hj => (b.cell (World.block_lt_of_cell? _ _ (hgc j hj))).trans (by rw [hgc j hj, get3 x y z j])
            have hck := (hSt.lo.cell (World.block_lt_of_cell? _ _ hc)).trans hc
            have HG2 : Hid (g < w2.heap.size) := hg
            clear hgc hu hc hg
            go_wp2
            clear d0 d1 hck
            obtain ⟨f, Hf⟩ : ∃ f, Hid (st7 (Z.take k) = f) := ⟨_, rfl⟩
            rw [Hf.out] at hSt
            go_loopw [10] (fun jv wr => ∃ q : Nat, jv = .int .i64 q ∧ q ≤ 6 ∧ St7 w2 t wr (.slice (some ⟨B, off, none⟩) m xc) (fun i => (sxK [x, y, z] f q i : Int))) (fun jv _ => (6 - intOf jv).toNat)
            case atStart => exact ⟨0, rfl, by omega, hSt⟩
            case round =>
              clear hSt
              obtain ⟨q, rfl, hq, hSt⟩ := hrel
              by_cases hlt : q < 6
              · have hqi : (q : Int) < 6 := by omega
                have hqd : decide ((q : Int) < 6) = true := by simp; omega
                have CU := Pu.Unrank_ok 3 q wr (by omega) (show q < 6 by exact hlt)
                obtain ⟨p0, p1, p2, HO, h0, h1, h2⟩ := ord_at hlt
                have e6 : unrL 3 (List.range 3) q = [p0, p1, p2] := HO.out
                rw [e6] at CU
                clear e6
                have CU' := CU.mono (R' := fun e w' => (∃ pb po pc, e = .returned (.tuple #[.slice (some ⟨pb, po, none⟩) 3 pc, .int .i64 0]) ∧ wr.heap.size ≤ pb ∧ Hid (w'.cell? ⟨pb, po, none⟩ = some (.int .i64 (p0 : Int)) ∧ w'.cell? ⟨pb, po + 1, none⟩ = some (.int .i64 (p1 : Int)) ∧ w'.cell? ⟨pb, po + 2, none⟩ = some (.int .i64 (p2 : Int)))) ∧ Below wr.heap.size wr w') (fun e w' ⟨xx, h1, hup, h2, h3⟩ => by
                  obtain ⟨pb, po, pc, rfl, _, hc⟩ := h2.form (n := 3) (by simp) (by omega)
                  exact ⟨⟨pb, po, pc, h1, hup _ _ _ _ rfl, ⟨hc 0 (by omega), hc 1 (by omega), hc 2 (by omega)⟩⟩, h3⟩)
                clear CU
                go_wp2_with (go_at_call 7; refine CU'.mono ?_; rintro e w5 ⟨⟨pb, po, pc, rfl, hpb, HP⟩, b5⟩)
                obtain ⟨v0, Hv0⟩ : ∃ v, Hid ([x, y, z].getD p0 0 = v) := ⟨_, rfl⟩
                obtain ⟨v1, Hv1⟩ : ∃ v, Hid ([x, y, z].getD p1 0 = v) := ⟨_, rfl⟩
                obtain ⟨v2, Hv2⟩ : ∃ v, Hid ([x, y, z].getD p2 0 = v) := ⟨_, rfl⟩
                have hv0 : v0 < 7 := by rw [← Hv0.out]; exact get_lt3 hxy hyz hz7 h0
                have hv1 : v1 < 7 := by rw [← Hv1.out]; exact get_lt3 hxy hyz hz7 h1
                have hv2 : v2 < 7 := by rw [← Hv2.out]; exact get_lt3 hxy hyz hz7 h2
                obtain ⟨s0, Hs0⟩ : ∃ s, Hid (v0 * 7 = s) := ⟨_, rfl⟩
                obtain ⟨iv, Hiv⟩ : ∃ s, Hid (s0 + v1 = s) := ⟨_, rfl⟩
                have hs0 : (v0 : Int) * 7 = (s0 : Int) := by have := Hs0.out; omega
                have hiv : (s0 : Int) + (v1 : Int) = (iv : Int) := by have := Hiv.out; omega
                have hs42 : s0 ≤ 42 := by have := Hs0.out; omega
                have hs49 : iv < 49 := by have := Hiv.out; omega
                have hiv49 : (iv : Int) < 49 := by omega
                have hwr0 : IntKind.i64.wrap (s0 : Int) = (s0 : Int) := by rw [IntKind.wrap_i64]; omega
                have hwr1 : IntKind.i64.wrap (iv : Int) = (iv : Int) := by rw [IntKind.wrap_i64]; omega
                have h0i : (p0 : Int) < 3 := by omega
                have h1i : (p1 : Int) < 3 := by omega
                have h2i : (p2 : Int) < 3 := by omega
                have hS5 := hSt.below b5
                have hU0 := HU.out w5 hS5.lo p0 h0
                have hU1 := HU.out w5 hS5.lo p1 h1
                have hU2 := HU.out w5 hS5.lo p2 h2
                rw [Hv0.out] at hU0
                rw [Hv1.out] at hU1
                rw [Hv2.out] at hU2
                have hgl : g < w2.heap.size := HG2.out
                have hcell := hS5.own.cell iv hs49
                have hfr := hS5.own.frozen iv
                have htt : w2.heap.size + 1 < t := hS5.ht
                have hwl : w2.heap.size + 1 < pb := by have := hSt.own.lt; omega
                have HSa : Hid (w5.cell? ⟨t, 1, none⟩ = some (.slice (some ⟨w2.heap.size + 1, 0, none⟩) 49 49) ∧ w5.cell? ⟨pb, po, none⟩ = some (.int .i64 (p0 : Int)) ∧ w5.cell? ⟨pb, po + 1, none⟩ = some (.int .i64 (p1 : Int)) ∧ w5.cell? ⟨pb, po + 2, none⟩ = some (.int .i64 (p2 : Int)) ∧ w5.cell? ⟨g, o + p0, none⟩ = some (.int .i64 (v0 : Int)) ∧ w5.cell? ⟨g, o + p1, none⟩ = some (.int .i64 (v1 : Int)) ∧ w5.cell? ⟨g, o + p2, none⟩ = some (.int .i64 (v2 : Int))) := ⟨hS5.s.2, HP.out.1, HP.out.2.1, HP.out.2.2, hU0, hU1, hU2⟩
                have HSb : Hid ((w5.setCell ⟨w2.heap.size + 1, iv, none⟩ (.int .i64 (v2 : Int))).cell? ⟨t, 1, none⟩ = some (.slice (some ⟨w2.heap.size + 1, 0, none⟩) 49 49) ∧ (w5.setCell ⟨w2.heap.size + 1, iv, none⟩ (.int .i64 (v2 : Int))).cell? ⟨pb, po, none⟩ = some (.int .i64 (p0 : Int)) ∧ (w5.setCell ⟨w2.heap.size + 1, iv, none⟩ (.int .i64 (v2 : Int))).cell? ⟨pb, po + 1, none⟩ = some (.int .i64 (p1 : Int)) ∧ (w5.setCell ⟨w2.heap.size + 1, iv, none⟩ (.int .i64 (v2 : Int))).cell? ⟨pb, po + 2, none⟩ = some (.int .i64 (p2 : Int)) ∧ (w5.setCell ⟨w2.heap.size + 1, iv, none⟩ (.int .i64 (v2 : Int))).cell? ⟨g, o + p0, none⟩ = some (.int .i64 (v0 : Int)) ∧ (w5.setCell ⟨w2.heap.size + 1, iv, none⟩ (.int .i64 (v2 : Int))).cell? ⟨g, o + p1, none⟩ = some (.int .i64 (v1 : Int)) ∧ (w5.setCell ⟨w2.heap.size + 1, iv, none⟩ (.int .i64 (v2 : Int))).cell? ⟨g, o + p2, none⟩ = some (.int .i64 (v2 : Int))) := by
                  obtain ⟨a1, a2, a3, a4, a5, a6, a7⟩ := HSa.out
                  exact ⟨oth_cell (by omega) a1, oth_cell (by omega) a2, oth_cell (by omega) a3, oth_cell (by omega) a4, oth_cell (by omega) a5, oth_cell (by omega) a6, oth_cell (by omega) a7⟩
                clear HP hU0 hU1 hU2 CU'
                refine wp_region_noPanic ?_
                refine wp_region_held_drew (S := fun w' => w'.cell? ⟨t, 1, none⟩ = some (.slice (some ⟨w2.heap.size + 1, 0, none⟩) 49 49) ∧ w'.cell? ⟨pb, po, none⟩ = some (.int .i64 (p0 : Int)) ∧ w'.cell? ⟨pb, po + 1, none⟩ = some (.int .i64 (p1 : Int)) ∧ w'.cell? ⟨pb, po + 2, none⟩ = some (.int .i64 (p2 : Int)) ∧ w'.cell? ⟨g, o + p0, none⟩ = some (.int .i64 (v0 : Int)) ∧ w'.cell? ⟨g, o + p1, none⟩ = some (.int .i64 (v1 : Int)) ∧ w'.cell? ⟨g, o + p2, none⟩ = some (.int .i64 (v2 : Int))) (by kernel_rfl) HSa.out (fun hSx => ?_)
                refine wpAnyH_take (i := 0) (v := .pointer (some ⟨t, 1, none⟩)) rfl (by kernel_rfl) (by kernel_rfl) (by kernel_rfl) (fun _ _ _ h => h) (Or.inl ⟨by rfl, fun w' hSw => by (try dsimp only at hSw); obtain ⟨c1, c2, c3, c4, c5, c6, c7⟩ := hSw; go_simp⟩) hSx ?_
                try simp only [Act.put, List.setIfInBounds_toArray]
                refine wpAnyH_take (i := 1) (v := .slice (some ⟨w2.heap.size + 1, 0, none⟩) 49 49) rfl (by kernel_rfl) (by kernel_rfl) (by kernel_rfl) (fun _ _ _ h => h) (Or.inl ⟨by rfl, fun w' hSw => by (try dsimp only at hSw); obtain ⟨c1, c2, c3, c4, c5, c6, c7⟩ := hSw; go_simp⟩) hSx ?_
                try simp only [Act.put]
                refine wpAnyH_take (i := 2) (v := .slice (some ⟨g, o, none⟩) 3 uc) rfl (by kernel_rfl) (by kernel_rfl) (by kernel_rfl) (fun _ _ _ h => h) (Or.inl ⟨by rfl, fun w' hSw => by (try dsimp only at hSw); obtain ⟨c1, c2, c3, c4, c5, c6, c7⟩ := hSw; go_simp⟩) hSx ?_
                try simp only [Act.put]
                refine wpAnyH_take (i := 3) (v := .slice (some ⟨pb, po, none⟩) 3 pc) rfl (by kernel_rfl) (by kernel_rfl) (by kernel_rfl) (fun _ _ _ h => h) (Or.inl ⟨by rfl, fun w' hSw => by (try dsimp only at hSw); obtain ⟨c1, c2, c3, c4, c5, c6, c7⟩ := hSw; go_simp⟩) hSx ?_
                try simp only [Act.put]
                refine wpAnyH_take (i := 4) (v := .pointer (some ⟨pb, po, none⟩)) rfl (by kernel_rfl) (by kernel_rfl) (by kernel_rfl) (fun _ _ _ h => h) (Or.inl ⟨by rfl, fun w' hSw => by (try dsimp only at hSw); obtain ⟨c1, c2, c3, c4, c5, c6, c7⟩ := hSw; go_simp⟩) hSx ?_
                try simp only [Act.put]
                refine wpAnyH_take (i := 5) (v := .int .i64 (p0 : Int)) rfl (by kernel_rfl) (by kernel_rfl) (by kernel_rfl) (fun _ _ _ h => h) (Or.inl ⟨by rfl, fun w' hSw => by (try dsimp only at hSw); obtain ⟨c1, c2, c3, c4, c5, c6, c7⟩ := hSw; go_simp⟩) hSx ?_
                try simp only [Act.put]
                refine wpAnyH_take (i := 6) (v := .pointer (some ⟨g, o + p0, none⟩)) rfl (by kernel_rfl) (by kernel_rfl) (by kernel_rfl) (fun _ _ _ h => h) (Or.inl ⟨by rfl, fun w' hSw => by (try dsimp only at hSw); obtain ⟨c1, c2, c3, c4, c5, c6, c7⟩ := hSw; go_simp⟩) hSx ?_
                try simp only [Act.put]
                refine wpAnyH_take (i := 7) (v := .int .i64 (v0 : Int)) rfl (by kernel_rfl) (by kernel_rfl) (by kernel_rfl) (fun _ _ _ h => h) (Or.inl ⟨by rfl, fun w' hSw => by (try dsimp only at hSw); obtain ⟨c1, c2, c3, c4, c5, c6, c7⟩ := hSw; go_simp⟩) hSx ?_
                try simp only [Act.put]
                refine wpAnyH_take (i := 8) (v := .int .i64 (s0 : Int)) rfl (by kernel_rfl) (by kernel_rfl) (by kernel_rfl) (fun _ _ _ h => h) (Or.inl ⟨by rfl, fun w' hSw => by (try dsimp only at hSw); obtain ⟨c1, c2, c3, c4, c5, c6, c7⟩ := hSw; go_simp⟩) hSx ?_
                try simp only [Act.put]
                refine wpAnyH_take (i := 9) (v := .slice (some ⟨g, o, none⟩) 3 uc) rfl (by kernel_rfl) (by kernel_rfl) (by kernel_rfl) (fun _ _ _ h => h) (Or.inl ⟨by rfl, fun w' hSw => by (try dsimp only at hSw); obtain ⟨c1, c2, c3, c4, c5, c6, c7⟩ := hSw; go_simp⟩) hSx ?_
                try simp only [Act.put]
                refine wpAnyH_take (i := 10) (v := .slice (some ⟨pb, po, none⟩) 3 pc) rfl (by kernel_rfl) (by kernel_rfl) (by kernel_rfl) (fun _ _ _ h => h) (Or.inl ⟨by rfl, fun w' hSw => by (try dsimp only at hSw); obtain ⟨c1, c2, c3, c4, c5, c6, c7⟩ := hSw; go_simp⟩) hSx ?_
                try simp only [Act.put]
                refine wpAnyH_take (i := 11) (v := .pointer (some ⟨pb, po + 1, none⟩)) rfl (by kernel_rfl) (by kernel_rfl) (by kernel_rfl) (fun _ _ _ h => h) (Or.inl ⟨by rfl, fun w' hSw => by (try dsimp only at hSw); obtain ⟨c1, c2, c3, c4, c5, c6, c7⟩ := hSw; go_simp⟩) hSx ?_
                try simp only [Act.put]
                refine wpAnyH_take (i := 12) (v := .int .i64 (p1 : Int)) rfl (by kernel_rfl) (by kernel_rfl) (by kernel_rfl) (fun _ _ _ h => h) (Or.inl ⟨by rfl, fun w' hSw => by (try dsimp only at hSw); obtain ⟨c1, c2, c3, c4, c5, c6, c7⟩ := hSw; go_simp⟩) hSx ?_
                try simp only [Act.put]
                refine wpAnyH_take (i := 13) (v := .pointer (some ⟨g, o + p1, none⟩)) rfl (by kernel_rfl) (by kernel_rfl) (by kernel_rfl) (fun _ _ _ h => h) (Or.inl ⟨by rfl, fun w' hSw => by (try dsimp only at hSw); obtain ⟨c1, c2, c3, c4, c5, c6, c7⟩ := hSw; go_simp⟩) hSx ?_
                try simp only [Act.put]
                refine wpAnyH_take (i := 14) (v := .int .i64 (v1 : Int)) rfl (by kernel_rfl) (by kernel_rfl) (by kernel_rfl) (fun _ _ _ h => h) (Or.inl ⟨by rfl, fun w' hSw => by (try dsimp only at hSw); obtain ⟨c1, c2, c3, c4, c5, c6, c7⟩ := hSw; go_simp⟩) hSx ?_
                try simp only [Act.put]
                refine wpAnyH_take (i := 15) (v := .int .i64 (iv : Int)) rfl (by kernel_rfl) (by kernel_rfl) (by kernel_rfl) (fun _ _ _ h => h) (Or.inl ⟨by rfl, fun w' hSw => by (try dsimp only at hSw); obtain ⟨c1, c2, c3, c4, c5, c6, c7⟩ := hSw; go_simp⟩) hSx ?_
                try simp only [Act.put]
                refine wpAnyH_take (i := 16) (v := .slice (some ⟨g, o, none⟩) 3 uc) rfl (by kernel_rfl) (by kernel_rfl) (by kernel_rfl) (fun _ _ _ h => h) (Or.inl ⟨by rfl, fun w' hSw => by (try dsimp only at hSw); obtain ⟨c1, c2, c3, c4, c5, c6, c7⟩ := hSw; go_simp⟩) hSx ?_
                try simp only [Act.put]
                refine wpAnyH_take (i := 17) (v := .slice (some ⟨pb, po, none⟩) 3 pc) rfl (by kernel_rfl) (by kernel_rfl) (by kernel_rfl) (fun _ _ _ h => h) (Or.inl ⟨by rfl, fun w' hSw => by (try dsimp only at hSw); obtain ⟨c1, c2, c3, c4, c5, c6, c7⟩ := hSw; go_simp⟩) hSx ?_
                try simp only [Act.put]
                refine wpAnyH_take (i := 18) (v := .pointer (some ⟨pb, po + 2, none⟩)) rfl (by kernel_rfl) (by kernel_rfl) (by kernel_rfl) (fun _ _ _ h => h) (Or.inl ⟨by rfl, fun w' hSw => by (try dsimp only at hSw); obtain ⟨c1, c2, c3, c4, c5, c6, c7⟩ := hSw; go_simp⟩) hSx ?_
                try simp only [Act.put]
                refine wpAnyH_take (i := 19) (v := .int .i64 (p2 : Int)) rfl (by kernel_rfl) (by kernel_rfl) (by kernel_rfl) (fun _ _ _ h => h) (Or.inl ⟨by rfl, fun w' hSw => by (try dsimp only at hSw); obtain ⟨c1, c2, c3, c4, c5, c6, c7⟩ := hSw; go_simp⟩) hSx ?_
                try simp only [Act.put]
                refine wpAnyH_take (i := 20) (v := .pointer (some ⟨g, o + p2, none⟩)) rfl (by kernel_rfl) (by kernel_rfl) (by kernel_rfl) (fun _ _ _ h => h) (Or.inl ⟨by rfl, fun w' hSw => by (try dsimp only at hSw); obtain ⟨c1, c2, c3, c4, c5, c6, c7⟩ := hSw; go_simp⟩) hSx ?_
                try simp only [Act.put]
                refine wpAnyH_take (i := 21) (v := .int .i64 (v2 : Int)) rfl (by kernel_rfl) (by kernel_rfl) (by kernel_rfl) (fun _ _ _ h => h) (Or.inl ⟨by rfl, fun w' hSw => by (try dsimp only at hSw); obtain ⟨c1, c2, c3, c4, c5, c6, c7⟩ := hSw; go_simp⟩) hSx ?_
                try simp only [Act.put]
                refine wpAnyH_take (i := 22) (v := .pointer (some ⟨w2.heap.size + 1, iv, none⟩)) rfl (by kernel_rfl) (by kernel_rfl) (by kernel_rfl) (fun _ _ _ h => h) (Or.inl ⟨by rfl, fun w' hSw => by (try dsimp only at hSw); obtain ⟨c1, c2, c3, c4, c5, c6, c7⟩ := hSw; go_simp⟩) hSx ?_
                try simp only [Act.put]
                refine wpAnyH_ready (rs := [23]) (by kernel_rfl) (by simp) ?_
                refine AllReadyH.cons rfl (fun J hJ => ?_) AllReadyH.nil
                go_simp
                refine hJ.out _ _ HSb.out (fun _ => ?_)
                clear hJ J
                try simp only [Act.put, List.setIfInBounds_toArray, List.set_cons_zero, List.set_cons_succ]
                refine wpAnyH_done (by kernel_rfl) ?_ _
                refine NoPanic.normal ?_
                go_simp
                go_wp2
                go_roundw
                case rel =>
                  refine ⟨q + 1, by go_num, by omega, (hS5.set iv (v2 : Int)).drew.congr fun i hi => ?_⟩
                  show _ = ((sxN [x, y, z] q i (sxK [x, y, z] f q) : Nat) : Int)
                  unfold sxN upd
                  rw [HO.out]
                  have e2 : [x, y, z].getD ([p0, p1, p2].getD 0 0) 0 * 7 + [x, y, z].getD ([p0, p1, p2].getD 1 0) 0 = iv := by
                    show [x, y, z].getD p0 0 * 7 + [x, y, z].getD p1 0 = iv
                    rw [Hv0.out, Hv1.out, Hs0.out, Hiv.out]
                  rw [e2, show [x, y, z].getD ([p0, p1, p2].getD 2 0) 0 = v2 from Hv2.out]
                  by_cases e : i = iv
                  · rw [if_pos e, if_pos e]
                  · rw [if_neg e, if_neg e]
                case measure => simp [intOf]; omega
              · have hqd : decide ((q : Int) < 6) = false := by simp; omega
                have e6 : sxK [x, y, z] f q = st7 (Z.take (k + 1)) := by
                  obtain rfl : q = 6 := by omega
                  rw [sx_six hxy hyz, ← Hf.out]
                  unfold st7
                  rw [List.take_add_one, HB.out]
                  show _ = (Z.take k ++ [[x, y, z]]).foldl six dg7
                  rw [List.foldl_append]
                  rfl
                rw [e6] at hSt
                clear hlt hq e6 Hf
                go_wp2
                go_roundw
                case rel => exact ⟨k + 1, by go_num, by omega, hSt⟩
                case measure => simp [intOf]; omega
          · have hkd : decide ((k : Int) < (m : Int)) = false := by simp; omega
            have hkd2 : decide (k < m) = false := by simp; omega
            have hkn : ¬ (k : Int) < (m : Int) := by omega
            have hSE : St7 w2 t wr (.slice xa m xc) (fun i => (st7 Z i : Int)) := by
              have e : Z.take k = Z := List.take_of_length_le (by rw [Hm.out]; omega)
              rw [e] at hSt
              exact hSt
            clear hSt hk
            obtain ⟨L, eL, hl0, hGS, hcom, hidm, hpar⟩ := good_parts HS.out.good
            have hSl : Sl wr (.slice (some ⟨w2.heap.size + 1, 0, none⟩) 49 49) L := own_cells hSE.own eL
            have D1 := fun W (b : Below wr.heap.size wr W) => Ql.Check_any 7 L _ W (hSl.below b) (by rw [eL, List.length_map]; simp [ce7, maxLen])
            have D2 := fun W (b : Below wr.heap.size wr W) => Ql.Commutes_ok 7 L _ W (hSl.below b) hGS
            have D3 := fun W (b : Below wr.heap.size wr W) => Ql.Idempotent_ok 7 L _ W (hSl.below b) hGS
            have D4 := fun W (b : Below wr.heap.size wr W) => Ql.Parts_ok 7 L _ W (hSl.below b) hGS
            rw [hl0] at D1
            rw [hcom] at D2
            rw [hidm] at D3
            rw [hpar] at D4
            have HBX : Hid (∀ W, Below wr.heap.size wr W → W.cell? ⟨t, 0, none⟩ = some (.int .i64 7) ∧ W.cell? ⟨t, 1, none⟩ = some (.slice (some ⟨w2.heap.size + 1, 0, none⟩) 49 49)) := fun W b => (hSE.below b).s
            have hBB := Below.trans hb2 (hSE.lo.mono hb2.size)
            have HBB : Hid (Below w.heap.size w wr) := hBB
            obtain ⟨s0, s1⟩ := hSE.s
            obtain ⟨d0, d1⟩ := hSE.d
            clear hSE hSl hl0 hGS hcom hidm hpar eL hBB
            go_wp2_with (first
              | (go_at_call 8; refine (D1 _ (Below.refl _ _)).mono ?_; rintro e w6 ⟨rfl, b6⟩; obtain ⟨s2, s3⟩ := HBX.out w6 b6)
              | (go_at_call 9; refine (D2 _ b6).mono ?_; rintro e w7 ⟨rfl, b7⟩; replace b7 := Below.next b6 b7; obtain ⟨s4, s5⟩ := HBX.out w7 b7)
              | (go_at_call 10; refine (D3 _ b7).mono ?_; rintro e w8 ⟨rfl, b8⟩; replace b8 := Below.next b7 b8; obtain ⟨s6, s7⟩ := HBX.out w8 b8)
              | (go_at_call 11; refine (D4 _ b8).mono ?_; rintro e w9 ⟨rfl, b9⟩; replace b9 := Below.next b8 b9))
            go_ret
            exact ⟨rfl, Below.next HBB.out b9⟩
end Go.Proofs.YtgpkhfpejopacabGreatDoor

namespace Go.Proofs.YtgpkhfpejopacabGreatDoor
open Go.ChangeShapes Go.WideShapes Go.ChangeAt Go.RowKit

set_option maxRecDepth 100000 in
theorem topSteiner_lifted (os : Os) (started : os.Started) (H : Type) (enc : TypeId × Value → H) :
    ReturnsInHanded {} Tryz.checked os 3 .any (fun w args => (Rows.topSteinerSpec.pre enc Tryz.prog Tryz.f3 [] false w args ∧ laidMetH Tryz.prog laidC w) ∧ sizedMet enc Tryz.prog Tryz.f3 (OpenSpec.ofChange Rows.topSteinerSpec) false w args)
      (Rows.topSteinerSpec.post enc Tryz.prog Tryz.f3 false true false false) := by
  refine returnsInHanded_of_change_and (C := Tryz.checked) (X := fun w _ => laidMetH Tryz.prog laidC w) (fun _ _ _ hh h => h.of_heap hh) own started (by kernel_rfl) Tryz.func3
    (ChangeSpec.witness_shaped (enc := enc) (C := Tryz.checked) (os := os) (X := fun w _ => laidMetH Tryz.prog laidC w) false (World.doorLaid Tryz.prog 400 os) #[.slice none 0 0] 8 rfl (World.shaped_of_RefB (by kernel_rfl) (by kernel_rfl)) (by kernel_rfl) (by kernel_rfl) (by kernel_rfl) (doorC os _)) ?_
  intro W base args ds gs before hval0 hW _ _ hL _
  have hval : ∀ (j : Nat) t v, Tryz.f3.params[j]? = some t → args[j]? = some v → Value.okWide Tryz.prog W .any base t v := hval0
  have hW' := hW
  obtain ⟨p, q, hA0, hV, rfl, hfz, hnd⟩ := hW
  have hA : DataW.TrodAll enc Tryz.prog W 0 (fun _ => true) true Tryz.f3.params.toList args.toList ds p := hA0
  rw [Tryz.params3] at hA hval
  obtain ⟨v0, vs0, d0, ds0, p0, q0, hargs, rfl, rfl, h0, r0⟩ := trodAll_cons hA
  obtain ⟨rfl, rfl, rfl⟩ := trodAll_nil r0
  obtain rfl : args = #[v0] := by cases args; simp_all
  obtain ⟨rfl, rfl⟩ := trodVars_none hV
  have k0 := h0
  have lt0 : ∀ x ∈ p0, x.block < W.heap.size := by obtain ⟨m, hm⟩ := k0; exact DataW.trod_lt m _ _ _ hm
  obtain ⟨dl0, hu0, hll0, hlm0⟩ := rows_of_trod' (hval 0 22 v0 rfl rfl) h0
  obtain ⟨tB, tA⟩ := tabsC hL
  clear hA0 hval0
  refine (Steiner_any dl0 v0 W tB tA hu0 hlm0 hll0).mono fun e W' ⟨he, bel⟩ => ?_
  subst he
  exact ⟨_, rfl, _, _, _, [], _, [], hW', trodAll_mk1 (shut_bool Tryz.underlying4 _), (trodAll_cons_mk (Below.trod laidOut (by kernel_rfl) (of_decide_eq_true (by kernel_rfl)) k0 bel lt0) trodAll_mk0), rfl, bel.frame _, fun h => by cases h⟩

theorem topSteiner_row : Rows.TopSteinerSaid :=
  OpenClaim.holds_of_wide 3 Tryz.f3 rfl rfl rfl rfl rfl rfl rfl ⟨rfl, rfl, rfl, rfl, rfl⟩ rfl rfl rfl rfl rfl (by kernel_rfl) Tryz.func3 (by kernel_rfl)
    (of_decide_eq_true (by kernel_rfl)) (by unfold Func.isWrapper; first | (rw [if_pos (by decide +kernel)]; kernel_rfl) | (rw [if_neg (by decide +kernel)]; exact ⟨rfl, rfl⟩))
    (fun os started H enc _ => topSteiner_lifted os started H enc)

theorem topSteiner_holds : Rows.TopSteinerCardSaid :=
  Claim7.holds_tied_plain_at .later [] [.data, .data] true (true, "5fa3028805f45fd47dc8e17dba0d8c44b93fff50ef616966a37af61b23f0305f") false
    topSteiner_row (fun _ h => by cases h) (by kernel_rfl) (fun _ h => by cases h) topSteiner_row_tie rfl ⟨rfl, rfl⟩ (by kernel_rfl) rfl
    (fun f fn hf hfn => by
      obtain rfl : f = 3 := Option.some.inj ((show Tryz.prog.funcNamed "parterre/parterretop.TopSteiner" = some 3 by kernel_rfl).symm.trans hf) |>.symm
      obtain rfl : fn = Tryz.f3 := (Option.some.inj (Tryz.func3.symm.trans hfn)).symm
      exact ⟨by kernel_rfl, fun j t ht => by
        rw [Tryz.params3] at ht
        have hm : t ∈ [22] := by simpa using Array.mem_of_getElem? ht
        have hall : ([22].all fun u => !Tryz.prog.wantsStandIn u) = true := by kernel_rfl
        exact (show Tryz.prog.wantsStandIn t = false by simpa using List.all_eq_true.1 hall t hm)⟩)
    (by kernel_rfl)

end Go.Proofs.YtgpkhfpejopacabGreatDoor
