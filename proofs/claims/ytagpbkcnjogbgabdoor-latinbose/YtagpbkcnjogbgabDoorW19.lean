/- The walks of Add and Mul. -/
import Derived.Test.YtagpbkcnjogbgabDoorW45
namespace Go.Proofs.YtagpbkcnjogbgabDoor.Fd
open Go.RowKit

/-- The sum of two elements, as a number. -/
def sumZ (p k a b : Int) : Int := hor (plusF (digF a.toNat p.toNat) (digF b.toNat p.toNat) p) p k.toNat k.toNat
/-- The product of two elements, as a number. -/
def prodZ (p k : Int) (l : List Int) (a b : Int) : Int := hor (redN (monL l) k.toNat p (11 - k.toNat) (mulN (digF a.toNat p.toNat) (digF b.toNat p.toNat) p 6 6)) p k.toNat k.toNat

theorem open_ok {p k : Int} {l es : List Int} (h : OpenIs p k l es 0) : FaultIs p k l 0 ∧ inL (ordZ p k) es := by
  rcases h with ⟨h, _⟩ | ⟨_, _, h⟩ | ⟨h1, h2, _⟩
  · exact absurd rfl h
  · exact absurd h (by decide)
  · exact ⟨h1, h2⟩
theorem sl_pair (w : World) (a b : Int) : Sl (w.alloc (.cells #[.int .i64 a, .int .i64 b] 3)) (.slice (some ⟨w.heap.size, 0, none⟩) 2 2) [a, b] := by
  refine ⟨_, 2, rfl, fun j hj => ⟨w.heap.size, 0, rfl, ?_⟩⟩
  have h := cell_of_row (w.alloc (.cells #[.int .i64 a, .int .i64 b] 3)) w.heap.size (0 + j) _ _ _ (heap_alloc_new w _)
  rw [h]
  have : j = 0 ∨ j = 1 := by simp at hj; omega
  rcases this with rfl | rfl <;> rfl
/-- What a field that is one, and elements of it, are as natural numbers. -/
theorem good_parts {p k : Int} {l : List Int} (h : FaultIs p k l 0) : ∃ P K : Nat, p = P ∧ k = K ∧ 2 ≤ P ∧ P ≤ 61 ∧ 1 ≤ K ∧ K ≤ 6 ∧ P ^ K ≤ 64 ∧ ordZ p k = ((P ^ K : Nat) : Int) ∧ l.length = K ∧ inP p (monL l) ∧ monL l K = 1 ∧ isPrimeB p = true := by
  obtain ⟨h0, h1, h2, h3⟩ := h.ok
  obtain ⟨P, K, rfl, rfl, hP, hP', hK, hK', hPK, hq⟩ := ord_nat h0
  have hl : l.length = K := by omega
  refine ⟨P, K, rfl, rfl, hP, hP', hK, hK', hPK, hq, hl, monL_in (by omega) h2, ?_, (ord_parts h0).1⟩
  have := monL_top l
  rwa [hl] at this

set_option maxHeartbeats 1000000 in
theorem Add_any (p k a b : Int) (l : List Int) (v : Value) (w : World) (hT : Tab w) (hl : Sl w v l) (hll : l.length ≤ maxLen) :
    Calls Tryd.prog 29 #[.agg #[.int .i64 p, .int .i64 k, v], .int .i64 a, .int .i64 b] w fun e w' => ∃ (s z : Int), e = .returned (.tuple #[.int .i64 s, .int .i64 z]) ∧ OpenIs p k l [a, b] z ∧ Hid (z ≠ 0 → s = 0) ∧ Hid (z = 0 → s = sumZ p k a b) ∧ Below w.heap.size w w' := by
  obtain ⟨A, ca, rfl, _⟩ := id hl
  have hbx : Below w.heap.size w ((w.alloc (.cells #[.int .i64 p, .int .i64 k, .slice A l.length ca] 24)).alloc (.cells #[.int .i64 a, .int .i64 b] 3)) := ((Below.refl _ _).alloc (Nat.le_refl _) _).alloc (by simp) _
  have hpair := sl_pair (w.alloc (.cells #[.int .i64 p, .int .i64 k, .slice A l.length ca] 24)) a b
  simp only [World.size_alloc] at hpair
  go_enter Tryd.func29, Tryd.ntmps29
  go_wp2_with fail
  refine (open_any p k l [a, b] _ _ _ (hT.below hbx) (hl.below hbx) hpair hll (by simp [maxLen])).mono ?_
  rintro e w1 ⟨z, x, y, c, f, rfl, hO, HZ, hb1⟩
  have hB1 : Below w.heap.size w w1 := hbx.trans (hb1.mono hbx.size)
  have HO : Hid (OpenIs p k l [a, b] z) := hO
  have hnew : RB (w1.alloc (.cells #[.int .i64 0, .int .i64 0, .int .i64 0, .int .i64 0, .int .i64 0, .int .i64 0, .int .i64 0, .int .i64 0, .int .i64 0, .int .i64 0, .int .i64 0, .int .i64 0, .int .i64 0, .int .i64 0] 59)) w1.heap.size 0 0 0 (fun _ => 0) := RB.made w1 0 0 0 (fun _ => 0)
  have hBA : Below w.heap.size w ((w1.alloc (.cells #[.int .i64 0, .int .i64 0, .int .i64 0, .int .i64 0, .int .i64 0, .int .i64 0, .int .i64 0, .int .i64 0, .int .i64 0, .int .i64 0, .int .i64 0, .int .i64 0, .int .i64 0, .int .i64 0] 59)).setRow w1.heap.size (ringRow x y c f)) := bsetRow (hB1.alloc hB1.size _) hB1.size _
  obtain ⟨fs, hu⟩ := und53
  clear hpair hO
  by_cases hz : z = 0
  · subst hz
    obtain ⟨rfl, rfl, rfl, rfl⟩ := HZ.out rfl
    obtain ⟨hF, hin⟩ := open_ok HO.out
    obtain ⟨P, K, rfl, rfl, hP, hP', hK, hK', hPK, hq, hlen, hm, hmK, _⟩ := good_parts hF
    have ha := hin 0 (by simp)
    have hb := hin 1 (by simp)
    rw [hq] at ha hb
    simp only [List.getD_cons_zero, List.getD_cons_succ] at ha hb
    obtain ⟨a', rfl⟩ := Int.eq_ofNat_of_zero_le ha.1
    obtain ⟨b', rfl⟩ := Int.eq_ofNat_of_zero_le hb.1
    have ha' : a' < P ^ K := by omega
    have hb' : b' < P ^ K := by omega
    clear hin hF ha hb HZ hq
    go_wp2_with (first
      | (refine wpList_store_row rfl 59 _ _ rfl w1.heap.size _ rfl rfl 59 _ hnew (inf53 _ _ _ _) rfl (ringRow_one _ _ _ _) ?_)
      | (refine wpList_load_row rfl 59 _ rfl w1.heap.size rfl 59 _ (0, 0) _ (hnew.whole _ _ _ _) hu rfl (inf53 _ _ _ _) ?_))
    refine (add_any P K a' b' _ (monL l) _ hP (by omega) hK hK' hPK ha' hb').mono ?_
    rintro e w2 ⟨rfl, hb2⟩
    go_wp2
    go_ret2
    exact ⟨_, _, rfl, HO.out, (fun h => absurd rfl h : (0 : Int) ≠ 0 → _), (fun _ => by unfold sumZ; simp : (0 : Int) = 0 → _), hBA.trans (hb2.mono hBA.size)⟩
  · have hzb : (z != 0) = true := by simpa using hz
    go_wp2_with (first
      | (refine wpList_store_row rfl 59 _ _ rfl w1.heap.size _ rfl rfl 59 _ hnew (inf53 _ _ _ _) rfl (ringRow_one _ _ _ _) ?_))
    go_ret2
    exact ⟨0, z, rfl, HO.out, (fun _ => rfl : z ≠ 0 → _), (fun h => absurd h hz : z = 0 → _), hBA⟩

set_option maxHeartbeats 1000000 in
theorem Mul_any (p k a b : Int) (l : List Int) (v : Value) (w : World) (hT : Tab w) (hl : Sl w v l) (hll : l.length ≤ maxLen) :
    Calls Tryd.prog 13 #[.agg #[.int .i64 p, .int .i64 k, v], .int .i64 a, .int .i64 b] w fun e w' => ∃ (s z : Int), e = .returned (.tuple #[.int .i64 s, .int .i64 z]) ∧ OpenIs p k l [a, b] z ∧ Hid (z ≠ 0 → s = 0) ∧ Hid (z = 0 → s = prodZ p k l a b) ∧ Below w.heap.size w w' := by
  obtain ⟨A, ca, rfl, _⟩ := id hl
  have hbx : Below w.heap.size w ((w.alloc (.cells #[.int .i64 p, .int .i64 k, .slice A l.length ca] 24)).alloc (.cells #[.int .i64 a, .int .i64 b] 3)) := ((Below.refl _ _).alloc (Nat.le_refl _) _).alloc (by simp) _
  have hpair := sl_pair (w.alloc (.cells #[.int .i64 p, .int .i64 k, .slice A l.length ca] 24)) a b
  simp only [World.size_alloc] at hpair
  go_enter Tryd.func13, Tryd.ntmps13
  go_wp2_with fail
  refine (open_any p k l [a, b] _ _ _ (hT.below hbx) (hl.below hbx) hpair hll (by simp [maxLen])).mono ?_
  rintro e w1 ⟨z, x, y, c, f, rfl, hO, HZ, hb1⟩
  have hB1 : Below w.heap.size w w1 := hbx.trans (hb1.mono hbx.size)
  have HO : Hid (OpenIs p k l [a, b] z) := hO
  have hnew : RB (w1.alloc (.cells #[.int .i64 0, .int .i64 0, .int .i64 0, .int .i64 0, .int .i64 0, .int .i64 0, .int .i64 0, .int .i64 0, .int .i64 0, .int .i64 0, .int .i64 0, .int .i64 0, .int .i64 0, .int .i64 0] 59)) w1.heap.size 0 0 0 (fun _ => 0) := RB.made w1 0 0 0 (fun _ => 0)
  have hBA : Below w.heap.size w ((w1.alloc (.cells #[.int .i64 0, .int .i64 0, .int .i64 0, .int .i64 0, .int .i64 0, .int .i64 0, .int .i64 0, .int .i64 0, .int .i64 0, .int .i64 0, .int .i64 0, .int .i64 0, .int .i64 0, .int .i64 0] 59)).setRow w1.heap.size (ringRow x y c f)) := bsetRow (hB1.alloc hB1.size _) hB1.size _
  obtain ⟨fs, hu⟩ := und53
  clear hpair hO
  by_cases hz : z = 0
  · subst hz
    obtain ⟨rfl, rfl, rfl, rfl⟩ := HZ.out rfl
    obtain ⟨hF, hin⟩ := open_ok HO.out
    obtain ⟨P, K, rfl, rfl, hP, hP', hK, hK', hPK, hq, hlen, hm, hmK, _⟩ := good_parts hF
    have ha := hin 0 (by simp)
    have hb := hin 1 (by simp)
    rw [hq] at ha hb
    simp only [List.getD_cons_zero, List.getD_cons_succ] at ha hb
    obtain ⟨a', rfl⟩ := Int.eq_ofNat_of_zero_le ha.1
    obtain ⟨b', rfl⟩ := Int.eq_ofNat_of_zero_le hb.1
    have ha' : a' < P ^ K := by omega
    have hb' : b' < P ^ K := by omega
    have HMK : Hid (monL l K = 1) := hmK
    clear hin hF ha hb HZ hq hmK
    go_wp2_with (first
      | (refine wpList_store_row rfl 59 _ _ rfl w1.heap.size _ rfl rfl 59 _ hnew (inf53 _ _ _ _) rfl (ringRow_one _ _ _ _) ?_)
      | (refine wpList_load_row rfl 59 _ rfl w1.heap.size rfl 59 _ (0, 0) _ (hnew.whole _ _ _ _) hu rfl (inf53 _ _ _ _) ?_))
    refine (mul_any P K a' b' _ (monL l) _ hP (by omega) hK hK' hPK ha' hb' hm HMK).mono ?_
    rintro e w2 ⟨rfl, hb2⟩
    go_wp2
    go_ret2
    exact ⟨_, _, rfl, HO.out, (fun h => absurd rfl h : (0 : Int) ≠ 0 → _), (fun _ => by unfold prodZ; simp : (0 : Int) = 0 → _), hBA.trans (hb2.mono hBA.size)⟩
  · have hzb : (z != 0) = true := by simpa using hz
    go_wp2_with (first
      | (refine wpList_store_row rfl 59 _ _ rfl w1.heap.size _ rfl rfl 59 _ hnew (inf53 _ _ _ _) rfl (ringRow_one _ _ _ _) ?_))
    go_ret2
    exact ⟨0, z, rfl, HO.out, (fun _ => rfl : z ≠ 0 → _), (fun h => absurd h hz : z = 0 → _), hBA⟩

end Go.Proofs.YtagpbkcnjogbgabDoor.Fd
