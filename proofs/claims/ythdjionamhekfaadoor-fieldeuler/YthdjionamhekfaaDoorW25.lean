/- The walk of Pow on a true field. -/
import Derived.Test.YthdjionamhekfaaDoorW24
import Derived.Test.YthdjionamhekfaaDoorAlgG
namespace Go.Proofs.YthdjionamhekfaaDoor
open Go.RowKit

set_option maxHeartbeats 1000000 in
theorem PowG (P K a : Nat) (n : Int) (l : List Int) (v : Value) (w : World) (hT : Tab w) (hl : Sl w v l) (hll : l.length ≤ maxLen) (hG : GoodF P K l) (ha : a < P ^ K) (hn : 0 ≤ n) (hn' : n ≤ 9223372036854775807) (s : Nat) (hs : Hid (s = powQ P K (monL l) a n.toNat)) :
    Calls Tryd.prog 9 #[.agg #[.int .i64 P, .int .i64 K, v], .int .i64 a, .int .i64 n] w fun e w' => e = .returned (.tuple #[.int .i64 s, .int .i64 0]) ∧ Below w.heap.size w w' := by
  obtain ⟨A, ca, rfl, _⟩ := id hl
  have hbx : Below w.heap.size w ((w.alloc (.cells #[.int .i64 P, .int .i64 K, .slice A l.length ca] 24)).alloc (.cells #[.int .i64 a] 3)) := ((Below.refl _ _).alloc (Nat.le_refl _) _).alloc (by simp) _
  have hpair := sl_one (w.alloc (.cells #[.int .i64 P, .int .i64 K, .slice A l.length ca] 24)) a
  simp only [World.size_alloc] at hpair
  obtain ⟨fs, hu⟩ := und53
  go_enter Tryd.func9, Tryd.ntmps9
  go_wp2_with fail
  refine (open_any P K l [(a : Int)] _ _ _ (hT.below hbx) (hl.below hbx) hpair hll (by simp [maxLen])).mono ?_
  rintro e w1 ⟨z, x, y, c, f, rfl, hO, HZ, hb1⟩
  have hB1 : Below w.heap.size w w1 := hbx.trans (hb1.mono hbx.size)
  obtain rfl := open_in hG.fault (in_one hG ha) hO
  obtain ⟨rfl, rfl, rfl, rfl⟩ := HZ.out rfl
  have hnew : RB (w1.alloc (.cells #[.int .i64 0, .int .i64 0, .int .i64 0, .int .i64 0, .int .i64 0, .int .i64 0, .int .i64 0, .int .i64 0, .int .i64 0, .int .i64 0, .int .i64 0, .int .i64 0, .int .i64 0, .int .i64 0] 39)) w1.heap.size 0 0 0 (fun _ => 0) := RB.made w1 0 0 0 (fun _ => 0)
  have hRB := hnew.whole P K (ordZ (P : Int) K) (monL l)
  have hBA : Below w.heap.size w ((w1.alloc (.cells #[.int .i64 0, .int .i64 0, .int .i64 0, .int .i64 0, .int .i64 0, .int .i64 0, .int .i64 0, .int .i64 0, .int .i64 0, .int .i64 0, .int .i64 0, .int .i64 0, .int .i64 0, .int .i64 0] 39)).setRow w1.heap.size (ringRow P K (ordZ (P : Int) K) (monL l))) := bsetRow (hB1.alloc hB1.size _) hB1.size _
  clear hpair hO HZ
  go_wp2_with (first
    | (refine wpList_store_row rfl 39 _ _ rfl w1.heap.size _ rfl rfl 39 _ hnew (inf53 _ _ _ _) rfl (ringRow_one _ _ _ _) ?_)
    | (refine wpList_load_row rfl 39 _ rfl w1.heap.size rfl 39 _ (0, 0) _ hRB hu rfl (inf53 _ _ _ _) ?_))
  refine (pow_any P K a n _ (monL l) _ hG.field.toRing1 (by have := hG.le61; omega) hG.le6 hG.le64 ha hn hn' s hs).mono ?_
  rintro e w2 ⟨rfl, hb2⟩
  go_wp2
  go_ret2
  exact ⟨rfl, hBA.trans (hb2.mono hBA.size)⟩

theorem good_frob {P K : Nat} {l : List Int} (hG : GoodF P K l) {a b : Nat} (ha : a < P ^ K) (hb : b < P ^ K) : powQ P K (monL l) (addQ P K a b) P = addQ P K (powQ P K (monL l) a P) (powQ P K (monL l) b P) := by
  obtain ⟨h0, h1, h2, h3⟩ := hG.fault.ok
  rw [Int.toNat_natCast, Int.toNat_natCast] at h3
  exact frobenius (ord_parts h0).1 hG.field.one hG.le64 hG.len h2 h3 hG.field.toRing1 ha hb

end Go.Proofs.YthdjionamhekfaaDoor
