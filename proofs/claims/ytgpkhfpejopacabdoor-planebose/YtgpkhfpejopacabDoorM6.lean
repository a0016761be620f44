/- The walks of Make and Conic. -/
import Derived.Test.YtgpkhfpejopacabDoorWG
import Derived.Test.YtgpkhfpejopacabDoorPA6
import Derived.Deep.RegionHeld3
import Derived.Deep.MidRow
import Derived.Deep.AppendLies
import Derived.Test.YtgpkhfpejopacabDoorPlS
/- The walks of the field's Check, fieldOrder, checkField and lead. -/
namespace Go.Proofs.YtgpkhfpejopacabDoor.Fd
open Go.RowKit

theorem open_nil {p k : Int} {l : List Int} {z : Int} (h : OpenIs p k l [] z) : FaultIs p k l z := by
  rcases h with ⟨_, h⟩ | ⟨_, h, _⟩ | ⟨h, _, rfl⟩
  · exact h
  · exact absurd (fun j hj => by simp at hj) h
  · exact h
set_option maxRecDepth 100000 in
set_option maxHeartbeats 1000000 in
theorem FCheck_any (p k : Int) (l : List Int) (v : Value) (w : World) (hT : Tab w) (hl : Sl w v l) (hll : l.length ≤ maxLen) :
    Calls Tryd.prog 27 #[.agg #[.int .i64 p, .int .i64 k, v]] w fun e w' => ∃ z : Int, e = .returned (.int .i64 z) ∧ FaultIs p k l z ∧ Below w.heap.size w w' := by
  obtain ⟨A, ca, rfl, _⟩ := id hl
  have hbx : Below w.heap.size w (w.alloc (.cells #[.int .i64 p, .int .i64 k, .slice A l.length ca] 27)) := (Below.refl _ _).alloc (Nat.le_refl _) _
  go_enter Tryd.func27, Tryd.ntmps27
  go_wp2_with fail
  refine (open_any p k l [] _ _ _ (hT.below hbx) (hl.below hbx) (Sl.nil _) hll (by simp)).mono ?_
  rintro e w1 ⟨z, x, y, c, f, rfl, hO, HZ, hb1⟩
  have hB1 : Below w.heap.size w w1 := hbx.trans (hb1.mono hbx.size)
  have HO : Hid (FaultIs p k l z) := open_nil hO
  have hnew : RB (w1.alloc (.cells #[.int .i64 0, .int .i64 0, .int .i64 0, .int .i64 0, .int .i64 0, .int .i64 0, .int .i64 0, .int .i64 0, .int .i64 0, .int .i64 0, .int .i64 0, .int .i64 0, .int .i64 0, .int .i64 0] 80)) w1.heap.size 0 0 0 (fun _ => 0) := RB.made w1 0 0 0 (fun _ => 0)
  have hBA : Below w.heap.size w ((w1.alloc (.cells #[.int .i64 0, .int .i64 0, .int .i64 0, .int .i64 0, .int .i64 0, .int .i64 0, .int .i64 0, .int .i64 0, .int .i64 0, .int .i64 0, .int .i64 0, .int .i64 0, .int .i64 0, .int .i64 0] 80)).setRow w1.heap.size (ringRow x y c f)) := bsetRow (hB1.alloc hB1.size _) hB1.size _
  clear hO HZ
  go_wp2_with (first
    | (refine wpList_store_row rfl 80 _ _ rfl w1.heap.size _ rfl rfl 80 _ hnew (inf53 _ _ _ _) rfl (ringRow_one _ _ _ _) ?_))
  go_ret
  exact ⟨z, rfl, HO.out, hBA⟩
end Go.Proofs.YtgpkhfpejopacabDoor.Fd
namespace Go.Proofs.YtgpkhfpejopacabDoor
open Go.RowKit

theorem fBoxM (a b c : Value) (w : World) : ∀ W, Below (w.alloc (.cells #[a, b, c] 27)).heap.size (w.alloc (.cells #[a, b, c] 27)) W → W.cell? ⟨w.heap.size, 0, none⟩ = some a ∧ W.cell? ⟨w.heap.size, 1, none⟩ = some b ∧ W.cell? ⟨w.heap.size, 2, none⟩ = some c := fun W hW => by
  have h := (hW.block w.heap.size (by simp)).trans (heap_alloc_new w _)
  exact ⟨by rw [cell_of_row W _ 0 _ _ _ h]; rfl, by rw [cell_of_row W _ 1 _ _ _ h]; rfl, by rw [cell_of_row W _ 2 _ _ _ h]; rfl⟩
set_option maxRecDepth 100000 in
set_option maxHeartbeats 4000000 in
theorem fieldOrder_any (P K : Nat) (v : Value) (w : World) (hP : 2 ≤ P) (h64 : P ^ K ≤ 64) (hK : K ≤ 6) (hP61 : P ≤ 61) (hv : ∃ a n c, v = .slice a n c) :
    Calls Tryd.prog 28 #[.agg #[.int .i64 (P : Int), .int .i64 (K : Int), v]] w fun e w' => e = .returned (.int .i64 ((P ^ K : Nat) : Int)) ∧ Below w.heap.size w w' := by
  obtain ⟨a, n, c, rfl⟩ := hv
  have HPW : Hid (∀ i, i ≤ K → P ^ i ≤ 64) := fun i hi => Nat.le_trans (Nat.pow_le_pow_right (by omega) hi) h64
  have HP0 : Hid (P ^ 0 = 1) := Nat.pow_zero P
  have HPS : Hid (∀ i, P ^ (i + 1) = P ^ i * P) := fun i => Nat.pow_succ P i
  obtain ⟨f, Hf⟩ : ∃ f : Nat → Nat, Hid (∀ i, P ^ i = f i) := ⟨fun i => P ^ i, fun i => rfl⟩
  simp only [Hf.out] at HPW HP0 HPS ⊢
  have HF := fBoxM (.int .i64 (P : Int)) (.int .i64 (K : Int)) (.slice a n c) w
  obtain ⟨x0, x1, x2⟩ := HF _ (Below.refl _ _)
  have b0 := balloc w (.cells #[.int .i64 (P : Int), .int .i64 (K : Int), .slice a n c] 27)
  clear h64 HF
  obtain ⟨w0, Hw0⟩ : ∃ w0, Hid (w0 = w.alloc (.cells #[.int .i64 (P : Int), .int .i64 (K : Int), .slice a n c] 27)) := ⟨_, rfl⟩
  rw [← Hw0.out] at b0
  go_enter Tryd.func28, Tryd.ntmps28
  go_wp2
  go_loopw [3, 6] (fun qv iv wr => ∃ (i q : Nat), iv = .int .i64 (i : Int) ∧ i ≤ K ∧ qv = .int .i64 (q : Int) ∧ Hid (f i = q) ∧ wr = w0) (fun _ iv _ => (K - intOf iv).toNat)
  case atStart => exact ⟨0, 1, rfl, by omega, rfl, HP0, Hw0.out.symm⟩
  case round =>
    obtain ⟨i, q, rfl, hi, rfl, Hq, rfl⟩ := hrel
    rw [← Hw0.out] at x0 x1 x2
    by_cases hlt : i < K
    · have hdi : decide ((i : Int) < (K : Int)) = true := by simp; omega
      have hii : (i : Int) < (K : Int) := by omega
      have hq64 : q ≤ 64 := by rw [← Hq.out]; exact HPW.out i (by omega)
      obtain ⟨r, Hr⟩ : ∃ r, Hid (q * P = r) := ⟨_, rfl⟩
      have hr64 : r ≤ 64 := by
        have h := HPW.out (i + 1) (by omega)
        rw [HPS.out, Hq.out, Hr.out] at h
        exact h
      have hm : (q : Int) * (P : Int) = (r : Int) := by rw [← Hr.out]; simp
      have Hq2 : Hid (f (i + 1) = r) := (show f (i + 1) = r by rw [HPS.out, Hq.out, Hr.out])
      clear Hq
      go_wp2
      go_roundw
      case rel => exact ⟨i + 1, r, by go_num, by omega, by go_num, Hq2, by first | rfl | trivial⟩
      case measure => simp [intOf]; omega
    · have hdi : decide ((i : Int) < (K : Int)) = false := by simp; omega
      obtain rfl : i = K := by omega
      go_wp2
      go_ret
      exact ⟨by rw [Hq.out]; rfl, b0⟩
/-- What is wrong with a field whose plane is asked for. -/
def pfZ (p k z : Int) : Int := if z ≠ 0 then z else if 5 < Fd.ordZ p k then 3 else 0
set_option maxRecDepth 100000 in
set_option maxHeartbeats 4000000 in
theorem checkField_any (p k z : Int) (l : List Int) (v : Value) (w : World) (hT : Fd.Tab w) (hl : Sl w v l) (hll : l.length ≤ maxLen) (hz : Fd.FaultIs p k l z) :
    Calls Tryd.prog 14 #[.agg #[.int .i64 p, .int .i64 k, v]] w fun e w' => e = .returned (.int .i64 (pfZ p k z)) ∧ Below w.heap.size w w' := by
  have b0 := balloc w (.cells #[.int .i64 p, .int .i64 k, v] 27)
  have C : Calls Tryd.prog 27 #[.agg #[.int .i64 p, .int .i64 k, v]] (w.alloc (.cells #[.int .i64 p, .int .i64 k, v] 27)) fun e w' => e = .returned (.int .i64 z) ∧ Below (w.alloc (.cells #[.int .i64 p, .int .i64 k, v] 27)).heap.size (w.alloc (.cells #[.int .i64 p, .int .i64 k, v] 27)) w' := by
    refine (Fd.FCheck_any p k l v _ (hT.below b0) (hl.below b0) hll).mono ?_
    rintro e w' ⟨z', rfl, h, b⟩
    rw [h.one hz]
    exact ⟨rfl, b⟩
  have HF : Hid (∀ W, Below (w.alloc (.cells #[.int .i64 p, .int .i64 k, v] 27)).heap.size (w.alloc (.cells #[.int .i64 p, .int .i64 k, v] 27)) W → W.cell? ⟨w.heap.size, 0, none⟩ = some (.int .i64 p) ∧ W.cell? ⟨w.heap.size, 1, none⟩ = some (.int .i64 k) ∧ W.cell? ⟨w.heap.size, 2, none⟩ = some v) := fBoxM _ _ _ w
  obtain ⟨x0, x1, x2⟩ := HF.out _ (Below.refl _ _)
  have hform : ∃ a n c, v = .slice a n c := by obtain ⟨a, c, e, _⟩ := hl; exact ⟨a, _, c, e⟩
  by_cases h0 : z = 0
  · subst h0
    obtain ⟨P, K, rfl, rfl, hG⟩ := Fd.good_of hz
    have hr : pfZ (P : Int) (K : Int) 0 = if 5 < P ^ K then 3 else 0 := by
      unfold pfZ
      rw [if_neg (by simp), hG.ord]
      by_cases h : 5 < P ^ K
      · rw [if_pos h, if_pos (by omega)]
      · rw [if_neg h, if_neg (by omega)]
    rw [hr]
    have HO : Hid (∀ W : World, Calls Tryd.prog 28 #[.agg #[.int .i64 (P : Int), .int .i64 (K : Int), v]] W fun e w' => e = .returned (.int .i64 ((P ^ K : Nat) : Int)) ∧ Below W.heap.size W w') := fun W => fieldOrder_any P K v W hG.field.two hG.le64 hG.le6 hG.le61 hform
    obtain ⟨q, Hq⟩ : ∃ q, Hid (P ^ K = q) := ⟨_, rfl⟩
    rw [Hq.out] at HO ⊢
    obtain ⟨a, n, c, rfl⟩ := hform
    clear hG hz hr hl
    by_cases h5 : 5 < q
    · rw [if_pos h5]
      have hd : decide (5 < (q : Int)) = true := by simp; omega
      have hd' : decide (5 < q) = true := by simpa using h5
      go_enter Tryd.func14, Tryd.ntmps14
      go_wp2_with (first
        | (go_at_call 27; refine C.mono ?_; rintro e w1 ⟨rfl, b1⟩; clear C; obtain ⟨y0, y1, y2⟩ := HF.out _ b1; replace b1 := Below.next b0 b1)
        | (go_at_call 28; refine (HO.out _).mono ?_; rintro e w2 ⟨rfl, b2⟩; clear HO; replace b2 := Below.next b1 b2))
      go_ret
      exact ⟨rfl, b2⟩
    · rw [if_neg h5]
      have hd : decide (5 < (q : Int)) = false := by simp; omega
      have hd' : decide (5 < q) = false := by simpa using h5
      go_enter Tryd.func14, Tryd.ntmps14
      go_wp2_with (first
        | (go_at_call 27; refine C.mono ?_; rintro e w1 ⟨rfl, b1⟩; clear C; obtain ⟨y0, y1, y2⟩ := HF.out _ b1; replace b1 := Below.next b0 b1)
        | (go_at_call 28; refine (HO.out _).mono ?_; rintro e w2 ⟨rfl, b2⟩; clear HO; replace b2 := Below.next b1 b2))
      go_ret
      exact ⟨rfl, b2⟩
  · have hr : pfZ p k z = z := by unfold pfZ; rw [if_pos h0]
    rw [hr]
    have hz1 : (z != 0) = true := by simpa using h0
    obtain ⟨a, n, c, rfl⟩ := hform
    clear hl hz
    go_enter Tryd.func14, Tryd.ntmps14
    go_wp2_with (go_at_call 27; refine C.mono ?_; rintro e w1 ⟨rfl, b1⟩; clear C; replace b1 := Below.next b0 b1)
    go_ret
    exact ⟨rfl, b1⟩
theorem ix3_0 (a b c : Value) (w : World) : (Instr.index 66 (.agg #[a, b, c]) (.int .i64 0)).run Tryd.prog w = .ok a w := by kernel_rfl
theorem ix3_1 (a b c : Value) (w : World) : (Instr.index 66 (.agg #[a, b, c]) (.int .i64 1)).run Tryd.prog w = .ok b w := by kernel_rfl
theorem ix3_2 (a b c : Value) (w : World) : (Instr.index 66 (.agg #[a, b, c]) (.int .i64 2)).run Tryd.prog w = .ok c w := by kernel_rfl
set_option maxRecDepth 100000 in
set_option maxHeartbeats 4000000 in
theorem lead_any (x y z : Nat) (w : World) :
    Calls Tryd.prog 42 #[.agg #[.int .i64 (x : Int), .int .i64 (y : Int), .int .i64 (z : Int)]] w fun e w' => e = .returned (.int .i64 ((fst3 x y z : Nat) : Int)) ∧ Below w.heap.size w w' := by
  have b0 := balloc w (.cells #[.int .i64 (x : Int), .int .i64 (y : Int), .int .i64 (z : Int)] 66)
  obtain ⟨w0, Hw0⟩ : ∃ w0, Hid (w0 = w.alloc (.cells #[.int .i64 (x : Int), .int .i64 (y : Int), .int .i64 (z : Int)] 66)) := ⟨_, rfl⟩
  rw [← Hw0.out] at b0
  have HY0 : Hid (x ≠ 0 → fst3 x y z = x) := fun h => by unfold fst3; rw [if_pos h]
  have HY1 : Hid (x = 0 → y ≠ 0 → fst3 x y z = y) := fun h h' => by unfold fst3; rw [if_neg (by omega), if_pos h']
  have HY2 : Hid (x = 0 → y = 0 → fst3 x y z = z) := fun h h' => by unfold fst3; rw [if_neg (by omega), if_neg (by omega)]
  have j0 := ix3_0
  have j1 := ix3_1
  have j2 := ix3_2
  obtain ⟨r, Hr⟩ : ∃ r, Hid (fst3 x y z = r) := ⟨_, rfl⟩
  rw [Hr.out] at HY0 HY1 HY2 ⊢
  go_enter Tryd.func42, Tryd.ntmps42
  go_wp2
  go_loopw [6] (fun iv wr => ∃ i : Nat, iv = .int .i64 (i : Int) ∧ (i = 0 ∨ (i = 1 ∧ x = 0) ∨ (i = 2 ∧ x = 0 ∧ y = 0) ∨ (i = 3 ∧ x = 0 ∧ y = 0 ∧ z = 0)) ∧ wr = w0) (fun iv _ => (3 - intOf iv).toNat)
  case atStart => exact ⟨0, rfl, .inl rfl, Hw0.out.symm⟩
  case round =>
    obtain ⟨i, rfl, hi, rfl⟩ := hrel
    rcases hi with rfl | ⟨rfl, rfl⟩ | ⟨rfl, rfl, rfl⟩ | ⟨rfl, rfl, rfl, rfl⟩
    · by_cases hx : x = 0
      · subst hx
        go_wp2
        go_roundw
        case rel => exact ⟨1, by first | rfl | go_num, .inr (.inl (by simp)), by first | rfl | trivial⟩
        case measure => simp [intOf]
      · have e := (HY0.out hx).symm
        subst e
        have hx1 : ((x : Int) != 0) = true := by simpa using hx
        have hx2 : ¬ (x : Int) = 0 := by omega
        go_wp2
        go_ret
        exact ⟨rfl, b0⟩
    · by_cases hx : y = 0
      · subst hx
        go_wp2
        go_roundw
        case rel => exact ⟨2, by first | rfl | go_num, .inr (.inr (.inl (by simp))), by first | rfl | trivial⟩
        case measure => simp [intOf]
      · have e := (HY1.out rfl hx).symm
        subst e
        have hx1 : ((y : Int) != 0) = true := by simpa using hx
        have hx2 : ¬ (y : Int) = 0 := by omega
        go_wp2
        go_ret
        exact ⟨rfl, b0⟩
    · by_cases hx : z = 0
      · subst hx
        go_wp2
        go_roundw
        case rel => exact ⟨3, by first | rfl | go_num, .inr (.inr (.inr (by simp))), by first | rfl | trivial⟩
        case measure => simp [intOf]
      · have e := (HY2.out rfl rfl).symm
        subst e
        have hx1 : ((z : Int) != 0) = true := by simpa using hx
        have hx2 : ¬ (z : Int) = 0 := by omega
        go_wp2
        go_ret
        exact ⟨rfl, b0⟩
    · have e := (HY2.out rfl rfl).symm
      subst e
      go_wp2
      go_ret
      exact ⟨rfl, b0⟩

end Go.Proofs.YtgpkhfpejopacabDoor

/- The walk of the document's PlaneOf. -/
/- The walk of the document's ConicOf. -/
namespace Go.Proofs.YtgpkhfpejopacabDoor
open Go.RowKit

theorem trL_in {q k : Nat} {t : List Nat} (h : t ∈ trL q k) : ∃ n, n < k ∧ t = [n / (q * q), n / q % q, n % q] := by
  unfold trL at h
  obtain ⟨n, hn, ht⟩ := List.mem_flatMap.1 h
  unfold tr1 at ht
  split at ht
  · exact ⟨n, List.mem_range.1 hn, by simpa using ht⟩
  · cases ht
/-- The j-th number of the i-th triple. -/
def tA (T : List (List Nat)) (i j : Nat) : Nat := (T.getD i []).getD j 0
theorem trL_at {q i : Nat} (hq : 2 ≤ q) (hi : i < (trL q (q * q * q)).length) : ∃ x y z, (trL q (q * q * q))[i]? = some [x, y, z] ∧ x < q ∧ y < q ∧ z < q := by
  have e := List.getElem?_eq_getElem hi
  obtain ⟨n, hn, ht⟩ := trL_in (List.getElem_mem hi)
  refine ⟨_, _, _, by rw [e, ht], Nat.div_lt_of_lt_mul hn, Nat.mod_lt _ (by omega), Nat.mod_lt _ (by omega)⟩
theorem tA_of {T : List (List Nat)} {i x y z : Nat} (h : T[i]? = some [x, y, z]) : tA T i 0 = x ∧ tA T i 1 = y ∧ tA T i 2 = z := by
  unfold tA
  rw [List.getD_eq_getElem?_getD (l := T), h]
  exact ⟨rfl, rfl, rfl⟩
/-- The points of the conic. -/
def cnL (mu : Nat → Nat → Nat) (T : List (List Nat)) (k : Nat) : List Nat := (List.range k).filter fun i => mu (tA T i 1) (tA T i 1) == mu (tA T i 0) (tA T i 2)
theorem cnL_up (mu : Nat → Nat → Nat) (T : List (List Nat)) (k : Nat) : cnL mu T (k + 1) = cnL mu T k ++ (if (mu (tA T k 1) (tA T k 1) == mu (tA T k 0) (tA T k 2)) = true then [k] else []) := by
  unfold cnL
  rw [List.range_succ, List.filter_append]
  congr 1
  by_cases h : (mu (tA T k 1) (tA T k 1) == mu (tA T k 0) (tA T k 2)) = true
  · rw [if_pos h]; simp only [List.filter_cons, h, if_true, List.filter_nil]
  · rw [if_neg h]; simp only [List.filter_cons, h, List.filter_nil]; simp
theorem cnL_len (mu : Nat → Nat → Nat) (T : List (List Nat)) (k : Nat) : (cnL mu T k).length ≤ k := Nat.le_trans (List.length_filter_le _ _) (by simp)
/-- A triple among rows of one's own, as it lies. -/
theorem OR.three {w : World} {base : Nat} {v : Value} {T : List (List Nat)} {i x y z : Nat} (h : OR w base v T) (hi : T[i]? = some [x, y, z]) : ∃ tb tc rb rc, v = .slice (some ⟨tb, 0, none⟩) T.length tc ∧ w.cell? ⟨tb, i, none⟩ = some (.slice (some ⟨rb, 0, none⟩) 3 rc) ∧
    w.cell? ⟨rb, 0, none⟩ = some (.int .i64 (x : Int)) ∧ w.cell? ⟨rb, 1, none⟩ = some (.int .i64 (y : Int)) ∧ w.cell? ⟨rb, 2, none⟩ = some (.int .i64 (z : Int)) := by
  obtain ⟨vals, h1, h2⟩ := h
  have hl := (List.getElem?_eq_some_iff.1 hi).1
  have hlen : vals.length = T.length := by have := h1.1; omega
  obtain ⟨u, hu⟩ : ∃ u, vals[i]? = some u := ⟨_, List.getElem?_eq_getElem (by omega)⟩
  have hr := h2 i u _ hu hi
  obtain ⟨_, ⟨_, h0⟩ | ⟨tb, tc, cur, rfl, _, hg, _, _, _, ht⟩⟩ := h1
  · omega
  · obtain ⟨_, ⟨_, h0⟩ | ⟨rb, rc, rcur, rfl, _, rg, _, _, _, rt⟩⟩ := hr
    · simp at h0
    · refine ⟨tb, tc, rb, rc, rfl, ?_, ?_⟩
      · rw [cell_of_row w tb i cur _ (0, 0) hg, ← Array.getElem?_toList]
        have e : (cur.toList.take (T.length * 1))[i]? = vals[i]? := by rw [ht]
        rw [List.getElem?_take, if_pos (by omega)] at e
        rw [e, hu]
        rfl
      · have key : ∀ j, j < 3 → w.cell? ⟨rb, j, none⟩ = ((([x, y, z] : List Nat).map Int.ofNat).map (Value.int .i64))[j]? := fun j hj => by
          rw [cell_of_row w rb j rcur 3 (0, 0) rg, ← rt, List.getElem?_take, if_pos (by simpa using hj)]
          simp
        exact ⟨key 0 (by omega), key 1 (by omega), key 2 (by omega)⟩
theorem fBox (a b c : Value) (w : World) : ∀ W, Below (w.alloc (.cells #[a, b, c] 27)).heap.size (w.alloc (.cells #[a, b, c] 27)) W → W.cell? ⟨w.heap.size, 0, none⟩ = some a ∧ W.cell? ⟨w.heap.size, 1, none⟩ = some b ∧ W.cell? ⟨w.heap.size, 2, none⟩ = some c := fun W hW => by
  have h := (hW.block w.heap.size (by simp)).trans (heap_alloc_new w _)
  exact ⟨by rw [cell_of_row W _ 0 _ _ _ h]; rfl, by rw [cell_of_row W _ 1 _ _ _ h]; rfl, by rw [cell_of_row W _ 2 _ _ _ h]; rfl⟩
end Go.Proofs.YtgpkhfpejopacabDoor

/- The walk of the document's PlaneFault. -/
namespace Go.Proofs.YtgpkhfpejopacabDoor
open Go.RowKit

end Go.Proofs.YtgpkhfpejopacabDoor

namespace Go.Proofs.YtgpkhfpejopacabDoor
open Go.RowKit

/-- The first k products of two triples, added. -/
def dtN (ad mu : Nat → Nat → Nat) (T : List (List Nat)) (i j : Nat) : Nat → Nat
  | 0 => 0
  | k + 1 => ad (dtN ad mu T i j k) (mu (tA T i k) (tA T j k))
/-- The points of the i-th block, below j. -/
def lnL (ad mu : Nat → Nat → Nat) (T : List (List Nat)) (i j : Nat) : List Nat := (List.range j).filter fun x => dtN ad mu T i x 3 == 0
theorem lnL_up (ad mu : Nat → Nat → Nat) (T : List (List Nat)) (i j : Nat) : lnL ad mu T i (j + 1) = lnL ad mu T i j ++ (if (dtN ad mu T i j 3 == 0) = true then [j] else []) := by
  unfold lnL
  rw [List.range_succ, List.filter_append]
  congr 1
  by_cases h : (dtN ad mu T i j 3 == 0) = true
  · rw [if_pos h]; simp only [List.filter_cons, h, if_true, List.filter_nil]
  · rw [if_neg h]; simp only [List.filter_cons, h, List.filter_nil]; simp
theorem lnL_len (ad mu : Nat → Nat → Nat) (T : List (List Nat)) (i j : Nat) : (lnL ad mu T i j).length ≤ j := Nat.le_trans (List.length_filter_le _ _) (by simp)
/-- The blocks of a field's plane. -/
def plL (ad mu : Nat → Nat → Nat) (T : List (List Nat)) (i : Nat) : List (List Nat) := (List.range i).map fun x => lnL ad mu T x T.length
theorem plL_up (ad mu : Nat → Nat → Nat) (T : List (List Nat)) (i : Nat) : plL ad mu T (i + 1) = plL ad mu T i ++ [lnL ad mu T i T.length] := by
  unfold plL
  rw [List.range_succ, List.map_append]
  rfl
theorem plL_len (ad mu : Nat → Nat → Nat) (T : List (List Nat)) (i : Nat) : (plL ad mu T i).length = i := by simp [plL]
theorem OR.three' {w : World} {base : Nat} {v : Value} {T : List (List Nat)} {i x y z : Nat} (h : OR w base v T) (hi : T[i]? = some [x, y, z]) : ∃ tb tc rb rc, v = .slice (some ⟨tb, 0, none⟩) T.length tc ∧ w.cell? ⟨tb, i, none⟩ = some (.slice (some ⟨rb, 0, none⟩) 3 rc) ∧ ∀ k, k < 3 → w.cell? ⟨rb, k, none⟩ = some (.int .i64 (tA T i k : Int)) := by
  obtain ⟨tb, tc, rb, rc, e, k0, k1, k2, k3⟩ := h.three hi
  obtain ⟨t0, t1, t2⟩ := tA_of hi
  refine ⟨tb, tc, rb, rc, e, k0, fun k hk => ?_⟩
  rcases (show k = 0 ∨ k = 1 ∨ k = 2 by omega) with rfl | rfl | rfl
  · rw [t0]; exact k1
  · rw [t1]; exact k2
  · rw [t2]; exact k3
theorem bsetRw' {B g : Nat} {w0 w : World} (hb : Below B w0 w) (hBg : B ≤ g) (cs : Array Value) : Below B w0 (w.setRow g cs) :=
  ⟨hb.os, hb.tape, hb.output, by simpa using hb.size, fun k hk => (setRow_other w g k cs (by omega)).trans (hb.block k hk)⟩
theorem inf24' (x y : Value) : (Tryd.prog.info? 24).map (·.size) = some (#[x, y] : Array Value).size := by kernel_rfl
theorem one2s (z : Int) (a : Option Addr) (n c : Nat) : (#[.int .i64 z, .slice a n c] : Array Value).all (·.oneCell') = true := by
  have h1 : ∀ z : Int, (Value.int .i64 z).oneCell' = true := fun _ => rfl
  have h2 : ∀ (a : Option Addr) (n c : Nat), (Value.slice a n c).oneCell' = true := fun _ _ _ => rfl
  simp [h1, h2]
end Go.Proofs.YtgpkhfpejopacabDoor

/- The walks of conic, Make and Conic. -/
/- The walk of within. -/
/- The walk of triples. -/
namespace Go.Proofs.YtgpkhfpejopacabDoor
open Go.RowKit

def t3V (l : List Nat) : List Value := (l.map Int.ofNat).map (Value.int .i64)
theorem und77 : Tryd.prog.underlying 63 = some (.slice 66) := by kernel_rfl
theorem info80 : ∃ i, Tryd.prog.info? 66 = some i ∧ i.zero = some (.agg #[.int .i64 0, .int .i64 0, .int .i64 0]) ∧ i.size = 3 ∧ i.bytes = 24 := by
  have h1 : (Tryd.prog.info? 66).map (·.zero) = some (some (.agg #[.int .i64 0, .int .i64 0, .int .i64 0])) := by kernel_rfl
  have h2 : (Tryd.prog.info? 66).map (·.size) = some 3 := by kernel_rfl
  have h3 : (Tryd.prog.info? 66).map (·.bytes) = some 24 := by kernel_rfl
  cases h : Tryd.prog.info? 66 with
  | none => rw [h] at h1; cases h1
  | some i => rw [h] at h1 h2 h3; exact ⟨i, rfl, Option.some.inj h1, Option.some.inj h2, Option.some.inj h3⟩
/-- The triples that come ahead of x, y, z. -/
def tAt (q x y z : Nat) : List (List Nat) := trL q ((x * q + y) * q + z)
theorem tAt_up {q x y z : Nat} (_hx : x < q) (hy : y < q) (hz : z < q) : tAt q x y (z + 1) = tAt q x y z ++ (if fst3 x y z = 1 then [[x, y, z]] else []) := by
  unfold tAt
  rw [← Nat.add_assoc, trL_succ]
  congr 1
  unfold tr1
  have hq : 0 < q := by omega
  have e1 : ((x * q + y) * q + z) % q = z := by rw [Nat.add_comm, Nat.add_mul_mod_self_right, Nat.mod_eq_of_lt hz]
  have e2 : ((x * q + y) * q + z) / q = x * q + y := by rw [Nat.add_comm, Nat.add_mul_div_right _ _ hq, Nat.div_eq_of_lt hz, Nat.zero_add]
  have e3 : ((x * q + y) * q + z) / (q * q) = x := by rw [← Nat.div_div_eq_div_mul, e2, Nat.add_comm, Nat.add_mul_div_right _ _ hq, Nat.div_eq_of_lt hy, Nat.zero_add]
  have e4 : (x * q + y) % q = y := by rw [Nat.add_comm, Nat.add_mul_mod_self_right, Nat.mod_eq_of_lt hy]
  rw [e1, e2, e3, e4]
theorem tAt_y (q x y : Nat) : tAt q x y q = tAt q x (y + 1) 0 := by
  unfold tAt
  congr 1
  rw [← Nat.add_assoc, Nat.add_mul _ 1 q]
  omega
theorem tAt_x (q x : Nat) : tAt q x q 0 = tAt q (x + 1) 0 0 := by
  unfold tAt
  congr 1
  rw [Nat.add_mul x 1 q, Nat.one_mul]
  rfl
theorem tAt_0 (q : Nat) : tAt q 0 0 0 = [] := by simp [tAt, trL]
theorem tAt_len {q x y z : Nat} (hx : x ≤ q) (hy : y ≤ q) (hz : z ≤ q) (h5 : q ≤ 5) : (tAt q x y z).length ≤ 180 := by
  refine Nat.le_trans (trL_len _ _) ?_
  have h1 : x * q ≤ 25 := Nat.mul_le_mul (by omega : x ≤ 5) h5
  have h2 : (x * q + y) * q ≤ 30 * 5 := Nat.mul_le_mul (by omega) h5
  omega
theorem tAt_end (q : Nat) : tAt q q 0 0 = trL q (q * q * q) := by unfold tAt; simp
def OT (w : World) (base : Nat) (v : Value) (T : List (List Nat)) : Prop := w.ownsRow base 66 3 v T.length (T.flatMap t3V)
theorem OT.keep {w w' : World} {base : Nat} {v : Value} {T : List (List Nat)} (h : OT w base v T) (k : Below w.heap.size w w') : OT w' base v T := by
  obtain ⟨h3, h4 | ⟨g, cap, cur, h5, h6, h7, h8⟩⟩ := h
  · exact ⟨h3, .inl h4⟩
  · exact ⟨h3, .inr ⟨g, cap, cur, h5, h6, (k.block g (Array.getElem?_eq_some_iff.1 h7).1).trans h7, h8⟩⟩
theorem OT.form {w : World} {base : Nat} {v : Value} {T : List (List Nat)} (h : OT w base v T) : ∃ a c, v = .slice a T.length c := by
  obtain ⟨_, ⟨h1, h2⟩ | ⟨g, c, cur, h1, _⟩⟩ := h
  · exact ⟨none, 0, by rw [h1, h2]⟩
  · exact ⟨_, _, h1⟩
set_option maxRecDepth 100000 in
set_option maxHeartbeats 16000000 in
theorem ptriples_any (q : Nat) (w : World) (h2 : 2 ≤ q) (h5 : q ≤ 5) :
    Calls Tryd.prog 29 #[.int .i64 (q : Int)] w fun e w' => ∃ a n c, e = .returned (.slice a n c) ∧ n = (trL q (q * q * q)).length ∧ OT w' w.heap.size (.slice a n c) (trL q (q * q * q)) ∧ Below w.heap.size w w' := by
  obtain ⟨i80, hi, hz0, hz1, hz2⟩ := info80
  have HUP : Hid (∀ x y z, x < q → y < q → z < q → tAt q x y (z + 1) = tAt q x y z ++ (if fst3 x y z = 1 then [[x, y, z]] else [])) := fun x y z hx hy hz => tAt_up hx hy hz
  have HY : Hid (∀ x y, tAt q x y q = tAt q x (y + 1) 0) := tAt_y q
  have HX : Hid (∀ x, tAt q x q 0 = tAt q (x + 1) 0 0) := tAt_x q
  have H0 : Hid (tAt q 0 0 0 = []) := tAt_0 q
  have HLE : Hid (∀ x y z, x ≤ q → y ≤ q → z ≤ q → (tAt q x y z).length ≤ 180) := fun x y z hx hy hz => tAt_len hx hy hz h5
  rw [← tAt_end]
  obtain ⟨TL, HTL⟩ : ∃ TL : Nat → Nat → Nat → List (List Nat), Hid (tAt q = TL) := ⟨_, rfl⟩
  rw [HTL.out] at HUP HY HX H0 HLE ⊢
  obtain ⟨B, HB⟩ : ∃ B, Hid (w.heap.size = B) := ⟨_, rfl⟩
  have HBS : Hid (∀ W, Below B w W → B ≤ W.heap.size) := fun W h => by rw [← HB.out]; exact h.size
  have h0 : Below B w w := Below.refl _ _
  rw [HB.out]
  go_enter Tryd.func29, Tryd.ntmps29
  go_wp2
  go_loopw [3, 9] (fun ov iv wr => ∃ (x : Nat) (oa : Option Addr) (on oc : Nat), iv = .int .i64 (x : Int) ∧ x ≤ q ∧ ov = .slice oa on oc ∧ Hid ((TL x 0 0).length = on) ∧ Hid (OT wr B (.slice oa on oc) (TL x 0 0)) ∧ Below B w wr) (fun _ iv _ => (q - intOf iv).toNat)
  case atStart => exact ⟨0, none, 0, 0, rfl, by omega, rfl, (show (TL 0 0 0).length = 0 by rw [H0.out]; rfl), (show OT _ _ _ (TL 0 0 0) by rw [H0.out]; exact World.ownsRow_nil _ _ _ _), h0⟩
  case round =>
    clear h0
    obtain ⟨x, oa, on, oc, rfl, hx, rfl, HON, HOR, hB⟩ := hrel
    by_cases hlx : x < q
    · have hdx : decide ((x : Int) < (q : Int)) = true := by simp; omega
      obtain ⟨wx, Hwx⟩ : ∃ wx : World, wx = wr := ⟨_, rfl⟩
      subst Hwx
      go_wp2
      go_loopw [3, 13] (fun ov iv wr => ∃ (y : Nat) (oa : Option Addr) (on oc : Nat), iv = .int .i64 (y : Int) ∧ y ≤ q ∧ ov = .slice oa on oc ∧ Hid ((TL x y 0).length = on) ∧ Hid (OT wr B (.slice oa on oc) (TL x y 0)) ∧ Below B w wr) (fun _ iv _ => (q - intOf iv).toNat)
      case atStart => exact ⟨0, oa, on, oc, rfl, by omega, rfl, HON, HOR, hB⟩
      case round =>
        clear HON HOR hB
        obtain ⟨y, oa, on, oc, rfl, hy, rfl, HON, HOR, hB⟩ := hrel
        by_cases hly : y < q
        · have hdy : decide ((y : Int) < (q : Int)) = true := by simp; omega
          obtain ⟨wy, Hwy⟩ : ∃ wy : World, wy = wr := ⟨_, rfl⟩
          subst Hwy
          go_wp2
          go_loopw [3, 17] (fun ov iv wr => ∃ (z : Nat) (oa : Option Addr) (on oc : Nat), iv = .int .i64 (z : Int) ∧ z ≤ q ∧ ov = .slice oa on oc ∧ Hid ((TL x y z).length = on) ∧ Hid (OT wr B (.slice oa on oc) (TL x y z)) ∧ Below B w wr) (fun _ iv _ => (q - intOf iv).toNat)
          case atStart => exact ⟨0, oa, on, oc, rfl, by omega, rfl, HON, HOR, hB⟩
          case round =>
            clear HON HOR hB
            obtain ⟨z, oa, on, oc, rfl, hz, rfl, HON, HOR, hB⟩ := hrel
            by_cases hlz : z < q
            · have hdz : decide ((z : Int) < (q : Int)) = true := by simp; omega
              have C := lead_any x y z (wr.alloc (.cells #[.int .i64 (x : Int), .int .i64 (y : Int), .int .i64 (z : Int)] 66))
              have hup := HUP.out x y z hlx hly hlz
              have hle := HLE.out x y z hx hy hz
              rw [HON.out] at hle
              obtain ⟨f, Hf⟩ : ∃ f, Hid (fst3 x y z = f) := ⟨_, rfl⟩
              rw [Hf.out] at C hup
              have hsz := HBS.out _ hB
              have hbA := balloc wr (.cells #[.int .i64 (x : Int), .int .i64 (y : Int), .int .i64 (z : Int)] 66)
              have HBX : Hid (∀ W, Below (wr.alloc (.cells #[.int .i64 (x : Int), .int .i64 (y : Int), .int .i64 (z : Int)] 66)).heap.size (wr.alloc (.cells #[.int .i64 (x : Int), .int .i64 (y : Int), .int .i64 (z : Int)] 66)) W → W.cell? ⟨wr.heap.size, 0, none⟩ = some (.int .i64 (x : Int)) ∧ W.cell? ⟨wr.heap.size, 1, none⟩ = some (.int .i64 (y : Int)) ∧ W.cell? ⟨wr.heap.size, 2, none⟩ = some (.int .i64 (z : Int))) := fun W hW => by
                have h := (hW.block wr.heap.size (by simp)).trans (heap_alloc_new wr _)
                exact ⟨by rw [cell_of_row W _ 0 _ _ _ h]; rfl, by rw [cell_of_row W _ 1 _ _ _ h]; rfl, by rw [cell_of_row W _ 2 _ _ _ h]; rfl⟩
              obtain ⟨c0, c1, c2⟩ := HBX.out _ (Below.refl _ _)
              by_cases hf : f = 1
              · subst hf
                have HU2 : Hid (TL x y (z + 1) = TL x y z ++ [[x, y, z]]) := (show TL x y (z + 1) = TL x y z ++ [[x, y, z]] by rw [hup, if_pos rfl])
                clear hup
                go_wp2_with (first
                  | (go_at_call 42; refine C.mono ?_; rintro e w1 ⟨rfl, b1⟩; clear C
                     obtain ⟨d0, d1, d2⟩ := HBX.out _ b1
                     have b2 := Below.next hbA b1
                     have hB2 : Below B w w1 := hB.trans (b2.mono hsz)
                     have hsz1 := HBS.out _ hB2
                     have hrow1 : w1.ownsRow B 66 3 (.slice oa on oc) on ((TL x y z).flatMap t3V) := (by have h := HOR.out.keep b2; unfold OT at h; rwa [HON.out] at h))
                  | (at_builtin; refine wpList_append_lies _ rfl _ _ 63 rfl B 66 i80 (.agg #[.int .i64 0, .int .i64 0, .int .i64 0]) 3 24 und77 hi hz0 hz1 hz2 (by simp [Value.cells]) (by decide) _ on _ rfl (hrow1.alloc _) ⟨w1.heap.size, 0, none⟩ 1 1 [.int .i64 (x : Int), .int .i64 (y : Int), .int .i64 (z : Int)] rfl rfl (World.news_of_block (heap_alloc_new w1 _)) (fun u hu => by (simp at hu; rcases hu with rfl | rfl | rfl <;> rfl)) (by decide) (by (unfold maxLen; omega)) (by omega) (by (simp; omega)) _ rfl ?_; intro g cap w8 hown' hgrow hat hlt
                     have hb8 : Below B w w8 := (hB2.alloc hsz1 _).grown hgrow (by simp; omega) (fun k hk => (hrow1.lt k hk).1)
                     have HO8 : Hid (OT w8 B (.slice (some ⟨g, 0, none⟩) (on + 1) cap) (TL x y (z + 1))) := (show OT w8 B (.slice (some ⟨g, 0, none⟩) (on + 1) cap) (TL x y (z + 1)) by unfold OT; rw [HU2.out, List.length_append, HON.out, List.flatMap_append]; exact hown')
                     have HL8 : Hid ((TL x y (z + 1)).length = on + 1) := (show (TL x y (z + 1)).length = on + 1 by rw [HU2.out, List.length_append, HON.out]; rfl)
                     clear hrow1 hgrow hown' hat hlt)
                  | go_in)
                clear HOR HON hB
                go_roundw
                case rel => exact ⟨z + 1, some ⟨g, 0, none⟩, on + 1, cap, by go_num, by omega, rfl, HL8, HO8, hb8⟩
                case measure => simp [intOf]; omega
              · have hf1 : ((f : Int) == 1) = false := by
                  have : ¬ (f : Int) = 1 := by omega
                  simpa using this
                have hf2 : ¬ (f : Int) = 1 := by omega
                have HU2 : Hid (TL x y (z + 1) = TL x y z) := (show TL x y (z + 1) = TL x y z by rw [hup, if_neg hf, List.append_nil])
                clear hup
                go_wp2_with (go_at_call 42; refine C.mono ?_; rintro e w1 ⟨rfl, b1⟩; clear C)
                have b2 := Below.next hbA b1
                have HO8 : Hid (OT w1 B (.slice oa on oc) (TL x y (z + 1))) := (show OT w1 B (.slice oa on oc) (TL x y (z + 1)) by rw [HU2.out]; exact HOR.out.keep b2)
                have HL8 : Hid ((TL x y (z + 1)).length = on) := (show (TL x y (z + 1)).length = on by rw [HU2.out]; exact HON.out)
                have hB2 : Below B w w1 := hB.trans (b2.mono hsz)
                clear HOR HON hB
                go_roundw
                case rel => exact ⟨z + 1, oa, on, oc, by go_num, by omega, rfl, HL8, HO8, hB2⟩
                case measure => simp [intOf]; omega
            · have hdz : decide ((z : Int) < (q : Int)) = false := by simp; omega
              obtain rfl : z = q := by omega
              rw [HY.out] at HON HOR
              go_wp2
              go_roundw
              case rel => exact ⟨y + 1, oa, on, oc, by go_num, by omega, rfl, HON, HOR, hB⟩
              case measure => simp [intOf]; omega
        · have hdy : decide ((y : Int) < (q : Int)) = false := by simp; omega
          obtain rfl : y = q := by omega
          rw [HX.out] at HON HOR
          go_wp2
          go_roundw
          case rel => exact ⟨x + 1, oa, on, oc, by go_num, by omega, rfl, HON, HOR, hB⟩
          case measure => simp [intOf]; omega
    · have hdx : decide ((x : Int) < (q : Int)) = false := by simp; omega
      obtain rfl : x = q := by omega
      go_wp2
      go_ret
      exact ⟨oa, on, oc, rfl, HON.out.symm, HOR.out, hB⟩

end Go.Proofs.YtgpkhfpejopacabDoor

namespace Go.Proofs.YtgpkhfpejopacabDoor
open Go.RowKit

/-- The boxes of a field and of two triples. -/
theorem box3 (w : World) (f0 f1 f2 a0 a1 a2 c0 c1 c2 : Value) : ∀ W, Below (((w.alloc (.cells #[f0, f1, f2] 27)).alloc (.cells #[a0, a1, a2] 66)).alloc (.cells #[c0, c1, c2] 66)).heap.size (((w.alloc (.cells #[f0, f1, f2] 27)).alloc (.cells #[a0, a1, a2] 66)).alloc (.cells #[c0, c1, c2] 66)) W →
    W.cell? ⟨w.heap.size, 0, none⟩ = some f0 ∧ W.cell? ⟨w.heap.size, 1, none⟩ = some f1 ∧ W.cell? ⟨w.heap.size, 2, none⟩ = some f2 ∧ W.cell? ⟨w.heap.size + 1, 0, none⟩ = some a0 ∧ W.cell? ⟨w.heap.size + 1, 1, none⟩ = some a1 ∧ W.cell? ⟨w.heap.size + 1, 2, none⟩ = some a2 ∧ W.cell? ⟨w.heap.size + 1 + 1, 0, none⟩ = some c0 ∧ W.cell? ⟨w.heap.size + 1 + 1, 1, none⟩ = some c1 ∧ W.cell? ⟨w.heap.size + 1 + 1, 2, none⟩ = some c2 := fun W hW => by
  have e1 : (w.alloc (.cells #[f0, f1, f2] 27)).heap.size = w.heap.size + 1 := by simp
  have e2 : ((w.alloc (.cells #[f0, f1, f2] 27)).alloc (.cells #[a0, a1, a2] 66)).heap.size = w.heap.size + 1 + 1 := by simp
  have b1 := balloc (w.alloc (.cells #[f0, f1, f2] 27)) (.cells #[a0, a1, a2] 66)
  have b2 := balloc ((w.alloc (.cells #[f0, f1, f2] 27)).alloc (.cells #[a0, a1, a2] 66)) (.cells #[c0, c1, c2] 66)
  have k1 : ((w.alloc (.cells #[f0, f1, f2] 27)).alloc (.cells #[a0, a1, a2] 66)).heap[w.heap.size + 1]? = some (.cells #[a0, a1, a2] 66 (0, 0)) := by
    rw [← e1]
    exact heap_alloc_new (w.alloc (.cells #[f0, f1, f2] 27)) _
  have k2 : (((w.alloc (.cells #[f0, f1, f2] 27)).alloc (.cells #[a0, a1, a2] 66)).alloc (.cells #[c0, c1, c2] 66)).heap[w.heap.size + 1 + 1]? = some (.cells #[c0, c1, c2] 66 (0, 0)) := by
    rw [← e2]
    exact heap_alloc_new ((w.alloc (.cells #[f0, f1, f2] 27)).alloc (.cells #[a0, a1, a2] 66)) _
  have e3 : (((w.alloc (.cells #[f0, f1, f2] 27)).alloc (.cells #[a0, a1, a2] 66)).alloc (.cells #[c0, c1, c2] 66)).heap.size = w.heap.size + 1 + 1 + 1 := by simp
  have h0 := (hW.block w.heap.size (by omega)).trans ((b2.block w.heap.size (by omega)).trans ((b1.block w.heap.size (by omega)).trans (heap_alloc_new w _)))
  have h1 := (hW.block (w.heap.size + 1) (by omega)).trans ((b2.block (w.heap.size + 1) (by omega)).trans k1)
  have h2 := (hW.block (w.heap.size + 1 + 1) (by omega)).trans k2
  exact ⟨by rw [cell_of_row W _ 0 _ _ _ h0]; rfl, by rw [cell_of_row W _ 1 _ _ _ h0]; rfl, by rw [cell_of_row W _ 2 _ _ _ h0]; rfl, by rw [cell_of_row W _ 0 _ _ _ h1]; rfl, by rw [cell_of_row W _ 1 _ _ _ h1]; rfl, by rw [cell_of_row W _ 2 _ _ _ h1]; rfl, by rw [cell_of_row W _ 0 _ _ _ h2]; rfl, by rw [cell_of_row W _ 1 _ _ _ h2]; rfl, by rw [cell_of_row W _ 2 _ _ _ h2]; rfl⟩
/-- A point times a block, number by number, together. -/
def sm3 (ad mu : Nat → Nat → Nat) (x y z a b c : Nat) : Nat := ad (ad (ad 0 (mu x a)) (mu y b)) (mu z c)
set_option maxRecDepth 100000 in
set_option maxHeartbeats 16000000 in
theorem pwithin_any (P K x y z a b c : Nat) (l : List Int) (v : Value) (w : World) (hT : Fd.Tab w) (hl : Sl w v l) (hll : l.length ≤ maxLen) (hG : Fd.GoodF P K l) (hx : x < P ^ K) (hy : y < P ^ K) (hz : z < P ^ K) (ha : a < P ^ K) (hb : b < P ^ K) (hc : c < P ^ K) :
    Calls Tryd.prog 31 #[.agg #[.int .i64 (P : Int), .int .i64 (K : Int), v], .agg #[.int .i64 (x : Int), .int .i64 (y : Int), .int .i64 (z : Int)], .agg #[.int .i64 (a : Int), .int .i64 (b : Int), .int .i64 (c : Int)]] w fun e w' => e = .returned (.bool (sm3 (Fd.addQ P K) (Fd.mulQ P K (Fd.monL l)) x y z a b c == 0)) ∧ Below w.heap.size w w' := by
  have HM : Hid (∀ (W : World) (s t : Nat), Below w.heap.size w W → s < P ^ K → t < P ^ K → Calls Tryd.prog 30 #[.agg #[.int .i64 (P : Int), .int .i64 (K : Int), v], .int .i64 (s : Int), .int .i64 (t : Int)] W fun e w' => e = .returned (.tuple #[.int .i64 ((Fd.mulQ P K (Fd.monL l) s t : Nat) : Int), .int .i64 0]) ∧ Below W.heap.size W w') := fun W s t hW hs ht => Fd.MulG P K s t l v W (hT.below hW) (hl.below hW) hll hG hs ht _ rfl
  have HA : Hid (∀ (W : World) (s t : Nat), Below w.heap.size w W → s < P ^ K → t < P ^ K → Calls Tryd.prog 44 #[.agg #[.int .i64 (P : Int), .int .i64 (K : Int), v], .int .i64 (s : Int), .int .i64 (t : Int)] W fun e w' => e = .returned (.tuple #[.int .i64 ((Fd.addQ P K s t : Nat) : Int), .int .i64 0]) ∧ Below W.heap.size W w') := fun W s t hW hs ht => Fd.AddG P K s t l v W (hT.below hW) (hl.below hW) hll hG hs ht _ rfl
  have HMQ : Hid (∀ s t, Fd.mulQ P K (Fd.monL l) s t < P ^ K) := fun s t => Fd.mulQ_lt hG.field.toRing1 s t
  have HAQ : Hid (∀ s t, Fd.addQ P K s t < P ^ K) := fun s t => Fd.addQ_lt hG.field.toRing1 s t
  have hq0 : 0 < P ^ K := by omega
  obtain ⟨mu, Hmu⟩ : ∃ mu, Hid (Fd.mulQ P K (Fd.monL l) = mu) := ⟨_, rfl⟩
  obtain ⟨ad, Had⟩ : ∃ ad, Hid (Fd.addQ P K = ad) := ⟨_, rfl⟩
  obtain ⟨q, Hq⟩ : ∃ q, Hid (P ^ K = q) := ⟨_, rfl⟩
  rw [Hmu.out] at HM HMQ ⊢
  rw [Had.out] at HA HAQ ⊢
  rw [Hq.out] at HM HA HMQ HAQ hx hy hz ha hb hc hq0
  obtain ⟨fa, fn, fc, rfl⟩ : ∃ fa fn fc, v = .slice fa fn fc := by obtain ⟨a, c, e, _⟩ := hl; exact ⟨a, _, c, e⟩
  have HBX : Hid (∀ W, Below (((w.alloc (.cells #[.int .i64 (P : Int), .int .i64 (K : Int), .slice fa fn fc] 27)).alloc (.cells #[.int .i64 (x : Int), .int .i64 (y : Int), .int .i64 (z : Int)] 66)).alloc (.cells #[.int .i64 (a : Int), .int .i64 (b : Int), .int .i64 (c : Int)] 66)).heap.size (((w.alloc (.cells #[.int .i64 (P : Int), .int .i64 (K : Int), .slice fa fn fc] 27)).alloc (.cells #[.int .i64 (x : Int), .int .i64 (y : Int), .int .i64 (z : Int)] 66)).alloc (.cells #[.int .i64 (a : Int), .int .i64 (b : Int), .int .i64 (c : Int)] 66)) W → _) := box3 w _ _ _ _ _ _ _ _ _
  have hb0 := Below.next (Below.next (balloc w (.cells #[.int .i64 (P : Int), .int .i64 (K : Int), .slice fa fn fc] 27)) (balloc _ (.cells #[.int .i64 (x : Int), .int .i64 (y : Int), .int .i64 (z : Int)] 66))) (balloc _ (.cells #[.int .i64 (a : Int), .int .i64 (b : Int), .int .i64 (c : Int)] 66))
  obtain ⟨x0, x1, x2, x3, x4, x5, x6, x7, x8⟩ := HBX.out _ (Below.refl _ _)
  obtain ⟨w0, Hw0⟩ : ∃ w0, Hid (w0 = (((w.alloc (.cells #[.int .i64 (P : Int), .int .i64 (K : Int), .slice fa fn fc] 27)).alloc (.cells #[.int .i64 (x : Int), .int .i64 (y : Int), .int .i64 (z : Int)] 66)).alloc (.cells #[.int .i64 (a : Int), .int .i64 (b : Int), .int .i64 (c : Int)] 66))) := ⟨_, rfl⟩
  rw [← Hw0.out] at HBX hb0
  have HB0 : Hid (Below w.heap.size w w0) := hb0
  have j0 := ix3_0
  have j1 := ix3_1
  have j2 := ix3_2
  obtain ⟨s3, Hs3⟩ : ∃ s3, Hid (sm3 ad mu x y z a b c = s3) := ⟨_, rfl⟩
  rw [Hs3.out]
  obtain ⟨m1, Hm1⟩ : ∃ m, Hid (mu x a = m) := ⟨_, rfl⟩
  obtain ⟨m2, Hm2⟩ : ∃ m, Hid (mu y b = m) := ⟨_, rfl⟩
  obtain ⟨m3, Hm3⟩ : ∃ m, Hid (mu z c = m) := ⟨_, rfl⟩
  obtain ⟨s1, Hs1⟩ : ∃ m, Hid (ad 0 m1 = m) := ⟨_, rfl⟩
  obtain ⟨s2, Hs2⟩ : ∃ m, Hid (ad s1 m2 = m) := ⟨_, rfl⟩
  have HS3 : Hid (ad s2 m3 = s3) := (show ad s2 m3 = s3 by rw [← Hs3.out, ← Hs2.out, ← Hs1.out, ← Hm1.out, ← Hm2.out, ← Hm3.out]; rfl)
  have hm1 : m1 < q := by rw [← Hm1.out]; exact HMQ.out _ _
  have hm2 : m2 < q := by rw [← Hm2.out]; exact HMQ.out _ _
  have hm3 : m3 < q := by rw [← Hm3.out]; exact HMQ.out _ _
  have hs1 : s1 < q := by rw [← Hs1.out]; exact HAQ.out _ _
  have hs2 : s2 < q := by rw [← Hs2.out]; exact HAQ.out _ _
  clear hl hG hT hb0 HMQ HAQ
  go_enter Tryd.func31, Tryd.ntmps31
  go_wp2
  go_loopw [7, 13] (fun sv iv wr => ∃ i s : Nat, iv = .int .i64 (i : Int) ∧ sv = .int .i64 (s : Int) ∧ Hid ((i = 0 ∧ s = 0) ∨ (i = 1 ∧ s = s1) ∨ (i = 2 ∧ s = s2) ∨ (i = 3 ∧ s = s3)) ∧ Below w0.heap.size w0 wr) (fun _ iv _ => (3 - intOf iv).toNat)
  case atStart => exact ⟨0, 0, rfl, rfl, (show (0 = 0 ∧ 0 = 0) ∨ _ from .inl ⟨rfl, rfl⟩), by rw [Hw0.out]; exact Below.refl _ _⟩
  case round =>
    clear x0 x1 x2 x3 x4 x5 x6 x7 x8
    obtain ⟨i, s, rfl, rfl, HI, hB⟩ := hrel
    obtain ⟨x0, x1, x2, x3, x4, x5, x6, x7, x8⟩ := HBX.out _ hB
    have hBw := Below.next HB0.out hB
    rcases HI.out with ⟨rfl, e⟩ | ⟨rfl, e⟩ | ⟨rfl, e⟩ | ⟨rfl, e⟩
    · replace e := e.symm
      subst e
      clear HI
      have CM := fun W (hW : Below wr.heap.size wr W) => HM.out W x a (Below.next hBw hW) hx ha
      rw [Hm1.out] at CM
      have HCA : Hid (∀ W, Below wr.heap.size wr W → Calls Tryd.prog 44 #[.agg #[.int .i64 (P : Int), .int .i64 (K : Int), .slice fa fn fc], .int .i64 (0 : Int), .int .i64 (m1 : Int)] W fun e w' => e = .returned (.tuple #[.int .i64 (s1 : Int), .int .i64 0]) ∧ Below W.heap.size W w') := fun W hW => by
        have h := HA.out W 0 m1 (Below.next hBw hW) hq0 hm1
        rw [Hs1.out] at h
        exact h
      have hS : Hid (∀ W, Below wr.heap.size wr W → (fun W => W.cell? ⟨w.heap.size, 0, none⟩ = some (.int .i64 (P : Int)) ∧ W.cell? ⟨w.heap.size, 1, none⟩ = some (.int .i64 (K : Int)) ∧ W.cell? ⟨w.heap.size, 2, none⟩ = some (.slice fa fn fc) ∧ W.cell? ⟨w.heap.size + 1 + 1, 0, none⟩ = some (.int .i64 (a : Int))) W) := fun W hW => ⟨(hW.cell (World.block_lt_of_cell? _ _ x0)).trans x0, (hW.cell (World.block_lt_of_cell? _ _ x1)).trans x1, (hW.cell (World.block_lt_of_cell? _ _ x2)).trans x2, (hW.cell (World.block_lt_of_cell? _ _ x6)).trans x6⟩
      have p1 : Below wr.heap.size wr wr := Below.refl _ _
      have HB : Hid (Below w0.heap.size w0 wr) := hB
      clear x0 x1 x2 x3 x4 x5 x6 x7 x8 hB hBw
      go_wp2
      refine wp_region_noPanic ?_
      refine wp_region_held_drew (S := fun W => W.cell? ⟨w.heap.size, 0, none⟩ = some (.int .i64 (P : Int)) ∧ W.cell? ⟨w.heap.size, 1, none⟩ = some (.int .i64 (K : Int)) ∧ W.cell? ⟨w.heap.size, 2, none⟩ = some (.slice fa fn fc) ∧ W.cell? ⟨w.heap.size + 1 + 1, 0, none⟩ = some (.int .i64 (a : Int))) (by kernel_rfl) (hS.out _ p1.drew) (fun hSx => ?_)
      refine wpAnyH_take (i := 0) (v := .agg #[.int .i64 (P : Int), .int .i64 (K : Int), .slice fa fn fc]) rfl (by kernel_rfl) (by kernel_rfl) (by kernel_rfl) (fun _ _ _ h => h) (Or.inl ⟨by rfl, fun w' hSw => by (try dsimp only at hSw); obtain ⟨hs0, hs1, hs2, hs3⟩ := hSw; go_simp⟩) hSx ?_
      try simp only [Act.put, List.setIfInBounds_toArray]
      refine wpAnyH_take (i := 1) (v := .int .i64 (x : Int)) rfl (by kernel_rfl) (by kernel_rfl) (by kernel_rfl) (fun _ _ _ h => h) (Or.inl ⟨by rfl, fun w' hSw => by (try dsimp only at hSw); obtain ⟨hs0, hs1, hs2, hs3⟩ := hSw; go_simp⟩) hSx ?_
      try simp only [Act.put]
      refine wpAnyH_take (i := 2) (v := .int .i64 0) rfl (by kernel_rfl) (by kernel_rfl) (by kernel_rfl) (fun _ _ _ h => h) (Or.inl ⟨by rfl, fun w' hSw => by (try dsimp only at hSw); obtain ⟨hs0, hs1, hs2, hs3⟩ := hSw; go_simp⟩) hSx ?_
      try simp only [Act.put]
      refine wpAnyH_take (i := 3) (v := .pointer (some ⟨w.heap.size + 1 + 1, 0, none⟩)) rfl (by kernel_rfl) (by kernel_rfl) (by kernel_rfl) (fun _ _ _ h => h) (Or.inl ⟨by rfl, fun w' hSw => by (try dsimp only at hSw); obtain ⟨hs0, hs1, hs2, hs3⟩ := hSw; go_simp⟩) hSx ?_
      try simp only [Act.put]
      refine wpAnyH_take (i := 4) (v := .int .i64 (a : Int)) rfl (by kernel_rfl) (by kernel_rfl) (by kernel_rfl) (fun _ _ _ h => h) (Or.inl ⟨by rfl, fun w' hSw => by (try dsimp only at hSw); obtain ⟨hs0, hs1, hs2, hs3⟩ := hSw; go_simp⟩) hSx ?_
      try simp only [Act.put]
      refine wpAnyH_ready (rs := [5]) (by kernel_rfl) (by simp) ?_
      refine (AllReadyH.cons rfl (fun J hJ => ?_) AllReadyH.nil)
      go_simp
      refine (CM _ p1.drew).mono ?_
      rintro e v1 ⟨rfl, bv1⟩
      have p2 : Below wr.heap.size wr v1 := Below.next p1.drew bv1
      go_wp2_with fail
      refine hJ.out _ _ (hS.out _ p2) (fun hSx => ?_)
      clear hJ J
      try simp only [Act.put, List.setIfInBounds_toArray, List.set_cons_zero, List.set_cons_succ]
      refine wpAnyH_take (i := 6) (v := .tuple #[.int .i64 (m1 : Int), .int .i64 0]) rfl (by kernel_rfl) (by kernel_rfl) (by kernel_rfl) (fun _ _ _ h => h) (Or.inl ⟨by rfl, fun w' hSw => by (try dsimp only at hSw); obtain ⟨hs0, hs1, hs2, hs3⟩ := hSw; go_simp⟩) hSx ?_
      try simp only [Act.put, List.setIfInBounds_toArray]
      refine wpAnyH_take (i := 7) (v := .int .i64 (m1 : Int)) rfl (by kernel_rfl) (by kernel_rfl) (by kernel_rfl) (fun _ _ _ h => h) (Or.inl ⟨by rfl, fun w' hSw => by (try dsimp only at hSw); obtain ⟨hs0, hs1, hs2, hs3⟩ := hSw; go_simp⟩) hSx ?_
      try simp only [Act.put]
      refine wpAnyH_take (i := 8) (v := .int .i64 0) rfl (by kernel_rfl) (by kernel_rfl) (by kernel_rfl) (fun _ _ _ h => h) (Or.inl ⟨by rfl, fun w' hSw => by (try dsimp only at hSw); obtain ⟨hs0, hs1, hs2, hs3⟩ := hSw; go_simp⟩) hSx ?_
      try simp only [Act.put]
      refine wpAnyH_ready (rs := [9]) (by kernel_rfl) (by simp) ?_
      refine (AllReadyH.cons rfl (fun J hJ => ?_) AllReadyH.nil)
      go_simp
      refine hJ.out _ _ (hS.out _ p2) (fun hSx => ?_)
      clear hJ J
      try simp only [Act.put, List.setIfInBounds_toArray, List.set_cons_zero, List.set_cons_succ]
      refine wpAnyH_ready (rs := [10]) (by kernel_rfl) (by simp) ?_
      refine (AllReadyH.cons rfl (fun J hJ => ?_) AllReadyH.nil)
      go_simp
      refine hJ.out _ _ (hS.out _ p2) (fun hSx => ?_)
      clear hJ J
      try simp only [Act.put, List.setIfInBounds_toArray, List.set_cons_zero, List.set_cons_succ]
      refine wpAnyH_done (by kernel_rfl) ?_ _
      refine NoPanic.normal ?_
      obtain ⟨y0, y1, y2, y3⟩ := hS.out _ p2
      have CA := HCA.out _ p2
      clear hSx hS CM HCA
      go_wp2_with (go_at_call 44; refine CA.mono ?_; rintro e v2 ⟨rfl, bv2⟩; clear CA; have p3 := Below.next p2 bv2)
      go_roundw
      case rel => exact ⟨1, s1, by first | rfl | go_num, rfl, (show _ from .inr (.inl ⟨rfl, rfl⟩)), Below.next HB.out p3⟩
      case measure => simp [intOf]
    · replace e := e.symm
      subst e
      clear HI
      have CM := fun W (hW : Below wr.heap.size wr W) => HM.out W y b (Below.next hBw hW) hy hb
      rw [Hm2.out] at CM
      have HCA : Hid (∀ W, Below wr.heap.size wr W → Calls Tryd.prog 44 #[.agg #[.int .i64 (P : Int), .int .i64 (K : Int), .slice fa fn fc], .int .i64 (s1 : Int), .int .i64 (m2 : Int)] W fun e w' => e = .returned (.tuple #[.int .i64 (s2 : Int), .int .i64 0]) ∧ Below W.heap.size W w') := fun W hW => by
        have h := HA.out W s1 m2 (Below.next hBw hW) hs1 hm2
        rw [Hs2.out] at h
        exact h
      have hS : Hid (∀ W, Below wr.heap.size wr W → (fun W => W.cell? ⟨w.heap.size, 0, none⟩ = some (.int .i64 (P : Int)) ∧ W.cell? ⟨w.heap.size, 1, none⟩ = some (.int .i64 (K : Int)) ∧ W.cell? ⟨w.heap.size, 2, none⟩ = some (.slice fa fn fc) ∧ W.cell? ⟨w.heap.size + 1 + 1, 1, none⟩ = some (.int .i64 (b : Int))) W) := fun W hW => ⟨(hW.cell (World.block_lt_of_cell? _ _ x0)).trans x0, (hW.cell (World.block_lt_of_cell? _ _ x1)).trans x1, (hW.cell (World.block_lt_of_cell? _ _ x2)).trans x2, (hW.cell (World.block_lt_of_cell? _ _ x7)).trans x7⟩
      have p1 : Below wr.heap.size wr wr := Below.refl _ _
      have HB : Hid (Below w0.heap.size w0 wr) := hB
      clear x0 x1 x2 x3 x4 x5 x6 x7 x8 hB hBw
      go_wp2
      refine wp_region_noPanic ?_
      refine wp_region_held_drew (S := fun W => W.cell? ⟨w.heap.size, 0, none⟩ = some (.int .i64 (P : Int)) ∧ W.cell? ⟨w.heap.size, 1, none⟩ = some (.int .i64 (K : Int)) ∧ W.cell? ⟨w.heap.size, 2, none⟩ = some (.slice fa fn fc) ∧ W.cell? ⟨w.heap.size + 1 + 1, 1, none⟩ = some (.int .i64 (b : Int))) (by kernel_rfl) (hS.out _ p1.drew) (fun hSx => ?_)
      refine wpAnyH_take (i := 0) (v := .agg #[.int .i64 (P : Int), .int .i64 (K : Int), .slice fa fn fc]) rfl (by kernel_rfl) (by kernel_rfl) (by kernel_rfl) (fun _ _ _ h => h) (Or.inl ⟨by rfl, fun w' hSw => by (try dsimp only at hSw); obtain ⟨hs0, hs1, hs2, hs3⟩ := hSw; go_simp⟩) hSx ?_
      try simp only [Act.put, List.setIfInBounds_toArray]
      refine wpAnyH_take (i := 1) (v := .int .i64 (y : Int)) rfl (by kernel_rfl) (by kernel_rfl) (by kernel_rfl) (fun _ _ _ h => h) (Or.inl ⟨by rfl, fun w' hSw => by (try dsimp only at hSw); obtain ⟨hs0, hs1, hs2, hs3⟩ := hSw; go_simp⟩) hSx ?_
      try simp only [Act.put]
      refine wpAnyH_take (i := 2) (v := .int .i64 1) rfl (by kernel_rfl) (by kernel_rfl) (by kernel_rfl) (fun _ _ _ h => h) (Or.inl ⟨by rfl, fun w' hSw => by (try dsimp only at hSw); obtain ⟨hs0, hs1, hs2, hs3⟩ := hSw; go_simp⟩) hSx ?_
      try simp only [Act.put]
      refine wpAnyH_take (i := 3) (v := .pointer (some ⟨w.heap.size + 1 + 1, 1, none⟩)) rfl (by kernel_rfl) (by kernel_rfl) (by kernel_rfl) (fun _ _ _ h => h) (Or.inl ⟨by rfl, fun w' hSw => by (try dsimp only at hSw); obtain ⟨hs0, hs1, hs2, hs3⟩ := hSw; go_simp⟩) hSx ?_
      try simp only [Act.put]
      refine wpAnyH_take (i := 4) (v := .int .i64 (b : Int)) rfl (by kernel_rfl) (by kernel_rfl) (by kernel_rfl) (fun _ _ _ h => h) (Or.inl ⟨by rfl, fun w' hSw => by (try dsimp only at hSw); obtain ⟨hs0, hs1, hs2, hs3⟩ := hSw; go_simp⟩) hSx ?_
      try simp only [Act.put]
      refine wpAnyH_ready (rs := [5]) (by kernel_rfl) (by simp) ?_
      refine (AllReadyH.cons rfl (fun J hJ => ?_) AllReadyH.nil)
      go_simp
      refine (CM _ p1.drew).mono ?_
      rintro e v1 ⟨rfl, bv1⟩
      have p2 : Below wr.heap.size wr v1 := Below.next p1.drew bv1
      go_wp2_with fail
      refine hJ.out _ _ (hS.out _ p2) (fun hSx => ?_)
      clear hJ J
      try simp only [Act.put, List.setIfInBounds_toArray, List.set_cons_zero, List.set_cons_succ]
      refine wpAnyH_take (i := 6) (v := .tuple #[.int .i64 (m2 : Int), .int .i64 0]) rfl (by kernel_rfl) (by kernel_rfl) (by kernel_rfl) (fun _ _ _ h => h) (Or.inl ⟨by rfl, fun w' hSw => by (try dsimp only at hSw); obtain ⟨hs0, hs1, hs2, hs3⟩ := hSw; go_simp⟩) hSx ?_
      try simp only [Act.put, List.setIfInBounds_toArray]
      refine wpAnyH_take (i := 7) (v := .int .i64 (m2 : Int)) rfl (by kernel_rfl) (by kernel_rfl) (by kernel_rfl) (fun _ _ _ h => h) (Or.inl ⟨by rfl, fun w' hSw => by (try dsimp only at hSw); obtain ⟨hs0, hs1, hs2, hs3⟩ := hSw; go_simp⟩) hSx ?_
      try simp only [Act.put]
      refine wpAnyH_take (i := 8) (v := .int .i64 0) rfl (by kernel_rfl) (by kernel_rfl) (by kernel_rfl) (fun _ _ _ h => h) (Or.inl ⟨by rfl, fun w' hSw => by (try dsimp only at hSw); obtain ⟨hs0, hs1, hs2, hs3⟩ := hSw; go_simp⟩) hSx ?_
      try simp only [Act.put]
      refine wpAnyH_ready (rs := [9]) (by kernel_rfl) (by simp) ?_
      refine (AllReadyH.cons rfl (fun J hJ => ?_) AllReadyH.nil)
      go_simp
      refine hJ.out _ _ (hS.out _ p2) (fun hSx => ?_)
      clear hJ J
      try simp only [Act.put, List.setIfInBounds_toArray, List.set_cons_zero, List.set_cons_succ]
      refine wpAnyH_ready (rs := [10]) (by kernel_rfl) (by simp) ?_
      refine (AllReadyH.cons rfl (fun J hJ => ?_) AllReadyH.nil)
      go_simp
      refine hJ.out _ _ (hS.out _ p2) (fun hSx => ?_)
      clear hJ J
      try simp only [Act.put, List.setIfInBounds_toArray, List.set_cons_zero, List.set_cons_succ]
      refine wpAnyH_done (by kernel_rfl) ?_ _
      refine NoPanic.normal ?_
      obtain ⟨y0, y1, y2, y3⟩ := hS.out _ p2
      have CA := HCA.out _ p2
      clear hSx hS CM HCA
      go_wp2_with (go_at_call 44; refine CA.mono ?_; rintro e v2 ⟨rfl, bv2⟩; clear CA; have p3 := Below.next p2 bv2)
      go_roundw
      case rel => exact ⟨2, s2, by first | rfl | go_num, rfl, (show _ from .inr (.inr (.inl ⟨rfl, rfl⟩))), Below.next HB.out p3⟩
      case measure => simp [intOf]
    · replace e := e.symm
      subst e
      clear HI
      have CM := fun W (hW : Below wr.heap.size wr W) => HM.out W z c (Below.next hBw hW) hz hc
      rw [Hm3.out] at CM
      have HCA : Hid (∀ W, Below wr.heap.size wr W → Calls Tryd.prog 44 #[.agg #[.int .i64 (P : Int), .int .i64 (K : Int), .slice fa fn fc], .int .i64 (s2 : Int), .int .i64 (m3 : Int)] W fun e w' => e = .returned (.tuple #[.int .i64 (s3 : Int), .int .i64 0]) ∧ Below W.heap.size W w') := fun W hW => by
        have h := HA.out W s2 m3 (Below.next hBw hW) hs2 hm3
        rw [HS3.out] at h
        exact h
      have hS : Hid (∀ W, Below wr.heap.size wr W → (fun W => W.cell? ⟨w.heap.size, 0, none⟩ = some (.int .i64 (P : Int)) ∧ W.cell? ⟨w.heap.size, 1, none⟩ = some (.int .i64 (K : Int)) ∧ W.cell? ⟨w.heap.size, 2, none⟩ = some (.slice fa fn fc) ∧ W.cell? ⟨w.heap.size + 1 + 1, 2, none⟩ = some (.int .i64 (c : Int))) W) := fun W hW => ⟨(hW.cell (World.block_lt_of_cell? _ _ x0)).trans x0, (hW.cell (World.block_lt_of_cell? _ _ x1)).trans x1, (hW.cell (World.block_lt_of_cell? _ _ x2)).trans x2, (hW.cell (World.block_lt_of_cell? _ _ x8)).trans x8⟩
      have p1 : Below wr.heap.size wr wr := Below.refl _ _
      have HB : Hid (Below w0.heap.size w0 wr) := hB
      clear x0 x1 x2 x3 x4 x5 x6 x7 x8 hB hBw
      go_wp2
      refine wp_region_noPanic ?_
      refine wp_region_held_drew (S := fun W => W.cell? ⟨w.heap.size, 0, none⟩ = some (.int .i64 (P : Int)) ∧ W.cell? ⟨w.heap.size, 1, none⟩ = some (.int .i64 (K : Int)) ∧ W.cell? ⟨w.heap.size, 2, none⟩ = some (.slice fa fn fc) ∧ W.cell? ⟨w.heap.size + 1 + 1, 2, none⟩ = some (.int .i64 (c : Int))) (by kernel_rfl) (hS.out _ p1.drew) (fun hSx => ?_)
      refine wpAnyH_take (i := 0) (v := .agg #[.int .i64 (P : Int), .int .i64 (K : Int), .slice fa fn fc]) rfl (by kernel_rfl) (by kernel_rfl) (by kernel_rfl) (fun _ _ _ h => h) (Or.inl ⟨by rfl, fun w' hSw => by (try dsimp only at hSw); obtain ⟨hs0, hs1, hs2, hs3⟩ := hSw; go_simp⟩) hSx ?_
      try simp only [Act.put, List.setIfInBounds_toArray]
      refine wpAnyH_take (i := 1) (v := .int .i64 (z : Int)) rfl (by kernel_rfl) (by kernel_rfl) (by kernel_rfl) (fun _ _ _ h => h) (Or.inl ⟨by rfl, fun w' hSw => by (try dsimp only at hSw); obtain ⟨hs0, hs1, hs2, hs3⟩ := hSw; go_simp⟩) hSx ?_
      try simp only [Act.put]
      refine wpAnyH_take (i := 2) (v := .int .i64 2) rfl (by kernel_rfl) (by kernel_rfl) (by kernel_rfl) (fun _ _ _ h => h) (Or.inl ⟨by rfl, fun w' hSw => by (try dsimp only at hSw); obtain ⟨hs0, hs1, hs2, hs3⟩ := hSw; go_simp⟩) hSx ?_
      try simp only [Act.put]
      refine wpAnyH_take (i := 3) (v := .pointer (some ⟨w.heap.size + 1 + 1, 2, none⟩)) rfl (by kernel_rfl) (by kernel_rfl) (by kernel_rfl) (fun _ _ _ h => h) (Or.inl ⟨by rfl, fun w' hSw => by (try dsimp only at hSw); obtain ⟨hs0, hs1, hs2, hs3⟩ := hSw; go_simp⟩) hSx ?_
      try simp only [Act.put]
      refine wpAnyH_take (i := 4) (v := .int .i64 (c : Int)) rfl (by kernel_rfl) (by kernel_rfl) (by kernel_rfl) (fun _ _ _ h => h) (Or.inl ⟨by rfl, fun w' hSw => by (try dsimp only at hSw); obtain ⟨hs0, hs1, hs2, hs3⟩ := hSw; go_simp⟩) hSx ?_
      try simp only [Act.put]
      refine wpAnyH_ready (rs := [5]) (by kernel_rfl) (by simp) ?_
      refine (AllReadyH.cons rfl (fun J hJ => ?_) AllReadyH.nil)
      go_simp
      refine (CM _ p1.drew).mono ?_
      rintro e v1 ⟨rfl, bv1⟩
      have p2 : Below wr.heap.size wr v1 := Below.next p1.drew bv1
      go_wp2_with fail
      refine hJ.out _ _ (hS.out _ p2) (fun hSx => ?_)
      clear hJ J
      try simp only [Act.put, List.setIfInBounds_toArray, List.set_cons_zero, List.set_cons_succ]
      refine wpAnyH_take (i := 6) (v := .tuple #[.int .i64 (m3 : Int), .int .i64 0]) rfl (by kernel_rfl) (by kernel_rfl) (by kernel_rfl) (fun _ _ _ h => h) (Or.inl ⟨by rfl, fun w' hSw => by (try dsimp only at hSw); obtain ⟨hs0, hs1, hs2, hs3⟩ := hSw; go_simp⟩) hSx ?_
      try simp only [Act.put, List.setIfInBounds_toArray]
      refine wpAnyH_take (i := 7) (v := .int .i64 (m3 : Int)) rfl (by kernel_rfl) (by kernel_rfl) (by kernel_rfl) (fun _ _ _ h => h) (Or.inl ⟨by rfl, fun w' hSw => by (try dsimp only at hSw); obtain ⟨hs0, hs1, hs2, hs3⟩ := hSw; go_simp⟩) hSx ?_
      try simp only [Act.put]
      refine wpAnyH_take (i := 8) (v := .int .i64 0) rfl (by kernel_rfl) (by kernel_rfl) (by kernel_rfl) (fun _ _ _ h => h) (Or.inl ⟨by rfl, fun w' hSw => by (try dsimp only at hSw); obtain ⟨hs0, hs1, hs2, hs3⟩ := hSw; go_simp⟩) hSx ?_
      try simp only [Act.put]
      refine wpAnyH_ready (rs := [9]) (by kernel_rfl) (by simp) ?_
      refine (AllReadyH.cons rfl (fun J hJ => ?_) AllReadyH.nil)
      go_simp
      refine hJ.out _ _ (hS.out _ p2) (fun hSx => ?_)
      clear hJ J
      try simp only [Act.put, List.setIfInBounds_toArray, List.set_cons_zero, List.set_cons_succ]
      refine wpAnyH_ready (rs := [10]) (by kernel_rfl) (by simp) ?_
      refine (AllReadyH.cons rfl (fun J hJ => ?_) AllReadyH.nil)
      go_simp
      refine hJ.out _ _ (hS.out _ p2) (fun hSx => ?_)
      clear hJ J
      try simp only [Act.put, List.setIfInBounds_toArray, List.set_cons_zero, List.set_cons_succ]
      refine wpAnyH_done (by kernel_rfl) ?_ _
      refine NoPanic.normal ?_
      obtain ⟨y0, y1, y2, y3⟩ := hS.out _ p2
      have CA := HCA.out _ p2
      clear hSx hS CM HCA
      go_wp2_with (go_at_call 44; refine CA.mono ?_; rintro e v2 ⟨rfl, bv2⟩; clear CA; have p3 := Below.next p2 bv2)
      go_roundw
      case rel => exact ⟨3, s3, by first | rfl | go_num, rfl, (show _ from .inr (.inr (.inr ⟨rfl, rfl⟩))), Below.next HB.out p3⟩
      case measure => simp [intOf]
    · replace e := e.symm
      subst e
      have hd : ((s3 : Int) == 0) = (s3 == 0) := by
        by_cases h : s3 = 0
        · subst h; rfl
        · have : ¬ (s3 : Int) = 0 := by omega
          rw [beq_eq_false_iff_ne.2 h, beq_eq_false_iff_ne.2 this]
      clear HI
      go_wp2
      go_ret
      exact ⟨by first | rfl | (rw [hd]; rfl) | (rw [hd]), hBw⟩

end Go.Proofs.YtgpkhfpejopacabDoor

/- The walk of made. -/
namespace Go.Proofs.YtgpkhfpejopacabDoor
open Go.RowKit

theorem flat3 : ∀ {T : List (List Nat)} {i x y z : Nat}, (∀ t ∈ T, t.length = 3) → T[i]? = some [x, y, z] → (T.flatMap t3V)[i * 3]? = some (.int .i64 (x : Int)) ∧ (T.flatMap t3V)[i * 3 + 1]? = some (.int .i64 (y : Int)) ∧ (T.flatMap t3V)[i * 3 + 2]? = some (.int .i64 (z : Int))
  | [], i, _, _, _, _, h => by simp at h
  | t :: T, 0, x, y, z, _, h => by
    obtain rfl : t = [x, y, z] := by simpa using h
    exact ⟨rfl, rfl, rfl⟩
  | t :: T, i + 1, x, y, z, hl, h => by
    have ih := flat3 (T := T) (i := i) (fun s hs => hl s (List.mem_cons_of_mem _ hs)) (show T[i]? = some [x, y, z] by simpa using h)
    have ht : (t3V t).length = 3 := by unfold t3V; simp [hl t List.mem_cons_self]
    have key : ∀ k, (List.flatMap t3V (t :: T))[(i + 1) * 3 + k]? = (T.flatMap t3V)[i * 3 + k]? := fun k => by
      rw [List.flatMap_cons, List.getElem?_append_right (by omega), ht]
      congr 1
      omega
    have k0 := key 0
    rw [Nat.add_zero, Nat.add_zero] at k0
    exact ⟨k0.trans ih.1, (key 1).trans ih.2.1, (key 2).trans ih.2.2⟩
theorem trL_three {q k : Nat} : ∀ t ∈ trL q k, t.length = 3 := fun t ht => by
  obtain ⟨n, _, rfl⟩ := trL_in ht
  rfl
theorem flat_len {T : List (List Nat)} (h : ∀ t ∈ T, t.length = 3) : (T.flatMap t3V).length = T.length * 3 := by
  induction T with
  | nil => rfl
  | cons t T ih =>
    rw [List.flatMap_cons, List.length_append, ih fun s hs => h s (List.mem_cons_of_mem _ hs)]
    have : (t3V t).length = 3 := by unfold t3V; simp [h t List.mem_cons_self]
    simp only [List.length_cons]
    omega
theorem OT.at3 {w : World} {base : Nat} {v : Value} {T : List (List Nat)} {i x y z : Nat} (h : OT w base v T) (hT : ∀ t ∈ T, t.length = 3) (hi : T[i]? = some [x, y, z]) : ∃ tb tc, v = .slice (some ⟨tb, 0, none⟩) T.length tc ∧
    w.cell? ⟨tb, i * 3, none⟩ = some (.int .i64 (x : Int)) ∧ w.cell? ⟨tb, i * 3 + 1, none⟩ = some (.int .i64 (y : Int)) ∧ w.cell? ⟨tb, i * 3 + 2, none⟩ = some (.int .i64 (z : Int)) := by
  have hl := (List.getElem?_eq_some_iff.1 hi).1
  obtain ⟨_, ⟨_, h0⟩ | ⟨tb, tc, cur, rfl, _, hg, _, _, _, ht⟩⟩ := h
  · omega
  · obtain ⟨f0, f1, f2⟩ := flat3 hT hi
    have key : ∀ k u, k < 3 → (T.flatMap t3V)[i * 3 + k]? = some u → w.cell? ⟨tb, i * 3 + k, none⟩ = some u := fun k u hk e => by
      rw [cell_of_row w tb (i * 3 + k) cur _ (0, 0) hg, ← Array.getElem?_toList]
      have e2 : (cur.toList.take (T.length * 3))[i * 3 + k]? = (T.flatMap t3V)[i * 3 + k]? := by rw [ht]
      rw [List.getElem?_take, if_pos (by omega)] at e2
      rw [e2, e]
    exact ⟨tb, tc, rfl, key 0 _ (by omega) f0, key 1 _ (by omega) f1, key 2 _ (by omega) f2⟩
theorem sm3_dt {P K : Nat} {l : List Int} (hG : Fd.GoodF P K l) {T : List (List Nat)} {i j x y z a b c : Nat} (hi : T[i]? = some [a, b, c]) (hj : T[j]? = some [x, y, z]) : sm3 (Fd.addQ P K) (Fd.mulQ P K (Fd.monL l)) x y z a b c = dtN (Fd.addQ P K) (Fd.mulQ P K (Fd.monL l)) T i j 3 := by
  obtain ⟨t0, t1, t2⟩ := tA_of hi
  obtain ⟨s0, s1, s2⟩ := tA_of hj
  show _ = Fd.addQ P K (Fd.addQ P K (Fd.addQ P K 0 (Fd.mulQ P K (Fd.monL l) (tA T i 0) (tA T j 0))) (Fd.mulQ P K (Fd.monL l) (tA T i 1) (tA T j 1))) (Fd.mulQ P K (Fd.monL l) (tA T i 2) (tA T j 2))
  rw [t0, t1, t2, s0, s1, s2]
  unfold sm3
  rw [Fd.mulQ_comm hG.field.toRing1 x a, Fd.mulQ_comm hG.field.toRing1 y b, Fd.mulQ_comm hG.field.toRing1 z c]
set_option maxRecDepth 100000 in
set_option maxHeartbeats 32000000 in
theorem made_any (P K : Nat) (l : List Int) (v : Value) (w : World) (hTb : Fd.Tab w) (hl : Sl w v l) (hll : l.length ≤ maxLen) (hG : Fd.GoodF P K l) (h5 : P ^ K ≤ 5) :
    Calls Tryd.prog 16 #[.agg #[.int .i64 (P : Int), .int .i64 (K : Int), v]] w fun e w' => ∃ xa xn xc, e = .returned (.agg #[.int .i64 ((trL (P ^ K) (P ^ K * P ^ K * P ^ K)).length : Int), .slice xa xn xc]) ∧ OR w' w.heap.size (.slice xa xn xc) (plL (Fd.addQ P K) (Fd.mulQ P K (Fd.monL l)) (trL (P ^ K) (P ^ K * P ^ K * P ^ K)) (trL (P ^ K) (P ^ K * P ^ K * P ^ K)).length) ∧ Below w.heap.size w w' := by
  obtain ⟨i3, hi3, hz0, hz1, hz2⟩ := info3
  obtain ⟨i27, ji3, jz0, jz1, jz2⟩ := info36
  have hq2 : 2 ≤ P ^ K := by
    have h1 := hG.field.two
    have h2 := hG.field.one
    exact Nat.le_trans h1 (Nat.le_trans (Nat.le_of_eq (Nat.pow_one P).symm) (Nat.pow_le_pow_right (by omega) h2))
  obtain ⟨fa, fn, fc, rfl⟩ : ∃ fa fn fc, v = .slice fa fn fc := by obtain ⟨a, c, e, _⟩ := hl; exact ⟨a, _, c, e⟩
  have HSZ : Hid (∀ W : World, Calls Tryd.prog 28 #[.agg #[.int .i64 (P : Int), .int .i64 (K : Int), .slice fa fn fc]] W fun e w' => e = .returned (.int .i64 ((P ^ K : Nat) : Int)) ∧ Below W.heap.size W w') := fun W => fieldOrder_any P K _ W hG.field.two hG.le64 hG.le6 hG.le61 ⟨_, _, _, rfl⟩
  have HTR : Hid (∀ W : World, Calls Tryd.prog 29 #[.int .i64 ((P ^ K : Nat) : Int)] W fun e w' => ∃ a n c, e = .returned (.slice a n c) ∧ n = (trL (P ^ K) (P ^ K * P ^ K * P ^ K)).length ∧ OT w' W.heap.size (.slice a n c) (trL (P ^ K) (P ^ K * P ^ K * P ^ K)) ∧ Below W.heap.size W w') := fun W => ptriples_any (P ^ K) W hq2 h5
  have HAT : Hid (∀ i, i < (trL (P ^ K) (P ^ K * P ^ K * P ^ K)).length → ∃ x y z, (trL (P ^ K) (P ^ K * P ^ K * P ^ K))[i]? = some [x, y, z] ∧ x < P ^ K ∧ y < P ^ K ∧ z < P ^ K) := fun i hi => trL_at hq2 hi
  have HT3 : Hid (∀ t ∈ trL (P ^ K) (P ^ K * P ^ K * P ^ K), t.length = 3) := trL_three
  have hT125 : (trL (P ^ K) (P ^ K * P ^ K * P ^ K)).length ≤ 125 := Nat.le_trans (trL_len _ _) (Nat.mul_le_mul (Nat.mul_le_mul h5 h5) h5)
  have HWI : Hid (∀ (W : World) (i j x y z a b c : Nat), Below w.heap.size w W → (trL (P ^ K) (P ^ K * P ^ K * P ^ K))[i]? = some [a, b, c] → (trL (P ^ K) (P ^ K * P ^ K * P ^ K))[j]? = some [x, y, z] → x < P ^ K → y < P ^ K → z < P ^ K → a < P ^ K → b < P ^ K → c < P ^ K →
      Calls Tryd.prog 31 #[.agg #[.int .i64 (P : Int), .int .i64 (K : Int), .slice fa fn fc], .agg #[.int .i64 (x : Int), .int .i64 (y : Int), .int .i64 (z : Int)], .agg #[.int .i64 (a : Int), .int .i64 (b : Int), .int .i64 (c : Int)]] W fun e w' => e = .returned (.bool (dtN (Fd.addQ P K) (Fd.mulQ P K (Fd.monL l)) (trL (P ^ K) (P ^ K * P ^ K * P ^ K)) i j 3 == 0)) ∧ Below W.heap.size W w') := fun W i j x y z a b c hW hi hj hx hy hz ha hb hc => by
    have h := pwithin_any P K x y z a b c l _ W (hTb.below hW) (hl.below hW) hll hG hx hy hz ha hb hc
    rw [sm3_dt hG hi hj] at h
    exact h
  obtain ⟨q, Hqq⟩ : ∃ q, Hid (P ^ K = q) := ⟨_, rfl⟩
  rw [Hqq.out] at HSZ HTR HAT HT3 HWI hT125 h5 hq2 ⊢
  obtain ⟨mu, Hmu⟩ : ∃ mu : Nat → Nat → Nat, Hid (Fd.mulQ P K (Fd.monL l) = mu) := ⟨_, rfl⟩
  obtain ⟨ad, Had⟩ : ∃ ad : Nat → Nat → Nat, Hid (Fd.addQ P K = ad) := ⟨_, rfl⟩
  rw [Hmu.out, Had.out] at HWI ⊢
  obtain ⟨T, HT⟩ : ∃ T, Hid (trL q (q * q * q) = T) := ⟨_, rfl⟩
  rw [HT.out] at HTR HAT HT3 HWI hT125 ⊢
  have HLU : Hid (∀ i j, lnL ad mu T i (j + 1) = lnL ad mu T i j ++ (if (dtN ad mu T i j 3 == 0) = true then [j] else [])) := fun i j => lnL_up ad mu T i j
  have HLL : Hid (∀ i j, (lnL ad mu T i j).length ≤ j) := fun i j => lnL_len ad mu T i j
  have HPU : Hid (∀ i, plL ad mu T (i + 1) = plL ad mu T i ++ [lnL ad mu T i T.length]) := fun i => plL_up ad mu T i
  have HPL : Hid (∀ i, (plL ad mu T i).length = i) := fun i => plL_len ad mu T i
  obtain ⟨DT, HDD⟩ : ∃ DT : Nat → Nat → Nat → Nat, Hid (dtN ad mu T = DT) := ⟨_, rfl⟩
  obtain ⟨LN, HLN⟩ : ∃ LN : Nat → Nat → List Nat, Hid (lnL ad mu T = LN) := ⟨_, rfl⟩
  obtain ⟨PL, HPP⟩ : ∃ PL : Nat → List (List Nat), Hid (plL ad mu T = PL) := ⟨_, rfl⟩
  have HL0 : Hid (∀ i, LN i 0 = []) := fun i => by rw [← HLN.out]; rfl
  have HP0 : Hid (PL 0 = []) := by show PL 0 = []; rw [← HPP.out]; rfl
  rw [HLN.out, HPP.out] at HPU
  rw [HDD.out] at HLU HWI
  rw [HLN.out] at HLU HLL
  rw [HPP.out] at HPL ⊢
  have HFB : Hid (∀ W, Below (w.alloc (.cells #[.int .i64 (P : Int), .int .i64 (K : Int), .slice fa fn fc] 27)).heap.size (w.alloc (.cells #[.int .i64 (P : Int), .int .i64 (K : Int), .slice fa fn fc] 27)) W → W.cell? ⟨w.heap.size, 0, none⟩ = some (.int .i64 (P : Int)) ∧ W.cell? ⟨w.heap.size, 1, none⟩ = some (.int .i64 (K : Int)) ∧ W.cell? ⟨w.heap.size, 2, none⟩ = some (.slice fa fn fc)) := fBoxM _ _ _ w
  obtain ⟨w0, Hw0⟩ : ∃ w0, Hid (w0 = w.alloc (.cells #[.int .i64 (P : Int), .int .i64 (K : Int), .slice fa fn fc] 27)) := ⟨_, rfl⟩
  rw [← Hw0.out] at HFB
  have HB0 : Hid (Below w.heap.size w w0) := by rw [Hw0.out]; exact balloc _ _
  have hB00 : Below w0.heap.size w0 (w0.alloc (.cells #[.int .i64 0, .slice none 0 0] 24)) := balloc _ _
  obtain ⟨x0, x1, x2⟩ := HFB.out _ hB00
  rw [Hw0.out] at x0 x1 x2
  clear hl hG hTb
  go_enter Tryd.func16, Tryd.ntmps16
  go_wp2_with (first
    | (go_at_call 28; refine (HSZ.out _).mono ?_; rintro e w1 ⟨rfl, b1⟩; clear HSZ; rw [← Hw0.out] at b1)
    | (go_at_call 29; refine (HTR.out _).mono ?_; rintro e w2 ⟨ta, tn, tc, rfl, Htn0, hT2, b2⟩; clear HTR; have hB2 := Below.next b1 b2; have HT2 : Hid (OT w2 w1.heap.size (.slice ta tn tc) T) := hT2; have Htn : Hid (T.length = tn) := Htn0.symm; clear hT2 Htn0))
  rw [Htn.out] at HAT HPU hT125
  obtain ⟨g, Hg⟩ : ∃ g, Hid (w2.heap.size = g) := ⟨_, rfl⟩
  have HBB : Hid (∀ W, Below g w2 W → Below w0.heap.size w0 W) := fun W h => (Below.next hB00 hB2).trans (h.mono (by rw [← Hg.out]; exact (Below.next hB00 hB2).size))
  have HGW : Hid (w.heap.size + 1 + 1 ≤ g) := (show w.heap.size + 1 + 1 ≤ g by
    have h1 := hB2.size
    rw [Hw0.out, World.size_alloc, World.size_alloc] at h1
    rw [← Hg.out]; exact h1)
  have HTW : Hid (∀ (W : World) (i x y z : Nat), Below g w2 W → T[i]? = some [x, y, z] → ∃ tb, ta = some ⟨tb, 0, none⟩ ∧ W.cell? ⟨tb, i * 3, none⟩ = some (.int .i64 (x : Int)) ∧ W.cell? ⟨tb, i * 3 + 1, none⟩ = some (.int .i64 (y : Int)) ∧ W.cell? ⟨tb, i * 3 + 2, none⟩ = some (.int .i64 (z : Int))) := fun W i x y z hW h => by
    obtain ⟨tb, tc', e, k⟩ := (HT2.out.keep (w' := W) (by rw [Hg.out]; exact hW)).at3 HT3.out h
    simp only [Value.slice.injEq] at e
    exact ⟨tb, e.1, k⟩
  have hbx0 : (w2.alloc (.cells #[.int .i64 (tn : Int), .slice none 0 0] 24)).heap[g]? = some (.cells #[.int .i64 (tn : Int), .slice none 0 0] 24 (0, 0)) := by rw [← Hg.out]; exact heap_alloc_new w2 _
  have hb3 : Below g w2 (w2.alloc (.cells #[.int .i64 (tn : Int), .slice none 0 0] 24)) := by rw [← Hg.out]; exact balloc _ _
  have hs3 : g + 1 ≤ (w2.alloc (.cells #[.int .i64 (tn : Int), .slice none 0 0] 24)).heap.size := by rw [World.size_alloc, Hg.out]; exact Nat.le_refl _
  have HRES : Hid (∀ W, Below g w2 W → W.heap[w.heap.size + 1]? = some (.cells #[.int .i64 0, .slice none 0 0] 24 (0, 0))) := fun W hW => by
    have e0 : w0.heap.size = w.heap.size + 1 := by rw [Hw0.out]; simp
    have h1 := heap_alloc_new w0 (.cells #[.int .i64 0, .slice none 0 0] 24)
    rw [e0] at h1
    have h2 := (hB2.block (w.heap.size + 1) (by rw [World.size_alloc, e0]; omega)).trans h1
    exact (hW.block (w.heap.size + 1) (by have := HGW.out; omega)).trans h2
  clear x0 x1 x2 hB2 hB00 b1 b2
  rw [Hg.out]
  go_loopw [18] (fun iv wr => ∃ (i : Nat) (oa : Option Addr) (oc : Nat), iv = .int .i64 (i : Int) ∧ i ≤ tn ∧ wr.heap[g]? = some (.cells #[.int .i64 (tn : Int), .slice oa i oc] 24 (0, 0)) ∧ Hid (OR wr (g + 1) (.slice oa i oc) (PL i)) ∧ Below g w2 wr ∧ g + 1 ≤ wr.heap.size) (fun iv _ => (tn - intOf iv).toNat)
  case atStart => exact ⟨0, none, 0, rfl, by omega, hbx0, (show OR _ _ _ (PL 0) by rw [HP0.out]; exact OR.nil _ _), hb3, hs3⟩
  case round =>
    clear hbx0 hb3 hs3
    obtain ⟨i, oa, oc, rfl, hi, hbx, HOR, hB, hgs⟩ := hrel
    by_cases hlt : i < tn
    · have hdi : decide ((i : Int) < (tn : Int)) = true := by simp; omega
      have hii : (i : Int) < (tn : Int) := by omega
      obtain ⟨ix, iy, iz, hixyz, hix, hiy, hiz⟩ := HAT.out i hlt
      obtain ⟨tb, rfl, r0, r1, r2⟩ := HTW.out wr i ix iy iz hB hixyz
      have HTE : Hid (∀ (W : World) (j x y z : Nat), Below g w2 W → T[j]? = some [x, y, z] → W.cell? ⟨tb, j * 3, none⟩ = some (.int .i64 (x : Int)) ∧ W.cell? ⟨tb, j * 3 + 1, none⟩ = some (.int .i64 (y : Int)) ∧ W.cell? ⟨tb, j * 3 + 2, none⟩ = some (.int .i64 (z : Int))) := fun W j x y z hW hj => by
        obtain ⟨tb', e, k⟩ := HTW.out W j x y z hW hj
        simp only [Option.some.injEq, Addr.mk.injEq] at e
        rw [← e.1] at k
        exact k
      have HIX : Hid (T[i]? = some [ix, iy, iz]) := hixyz
      obtain ⟨C, HC⟩ : ∃ C, Hid (wr.heap.size = C) := ⟨_, rfl⟩
      obtain ⟨wb, Hwb⟩ : ∃ wb : World, Hid (wb = wr.alloc (.cells #[.int .i64 (ix : Int), .int .i64 (iy : Int), .int .i64 (iz : Int)] 66)) := ⟨_, rfl⟩
      have hwb : Below C wr wb := by rw [← HC.out, Hwb.out]; exact balloc _ _
      have hbB : wb.heap[C]? = some (.cells #[.int .i64 (ix : Int), .int .i64 (iy : Int), .int .i64 (iz : Int)] 66 (0, 0)) := by rw [← HC.out, Hwb.out]; exact heap_alloc_new wr _
      have HCO : Hid (wb.heap.size = C + 1) := (show wb.heap.size = C + 1 by rw [Hwb.out, World.size_alloc, HC.out])
      have hCg : g + 1 ≤ C := by rw [← HC.out]; exact hgs
      have HBX : Hid (wb.heap[g]? = some (.cells #[.int .i64 (tn : Int), .slice oa i oc] 24 (0, 0))) := (hwb.block g (by omega)).trans hbx
      have HOR2 : Hid (OR wb (g + 1) (.slice oa i oc) (PL i)) := HOR.out.below (by rw [HC.out]; exact hwb)
      have HBO : Hid (Below g w2 wb) := hB.trans (hwb.mono (by omega))
      have HG2 : Hid (∀ W, Below (C + 1) wb W → Below g w2 W) := fun W h => HBO.out.trans (h.mono (by omega))
      have HSC : Hid (∀ W, Below (C + 1) wb W → C + 1 ≤ W.heap.size) := fun W h => by rw [← HCO.out]; exact h.size
      have HBC : Hid (∀ W, Below (C + 1) wb W → W.cell? ⟨C, 0, none⟩ = some (.int .i64 (ix : Int)) ∧ W.cell? ⟨C, 1, none⟩ = some (.int .i64 (iy : Int)) ∧ W.cell? ⟨C, 2, none⟩ = some (.int .i64 (iz : Int))) := fun W hW => by
        have h := (hW.block C (by omega)).trans hbB
        exact ⟨by rw [cell_of_row W _ 0 _ _ _ h]; rfl, by rw [cell_of_row W _ 1 _ _ _ h]; rfl, by rw [cell_of_row W _ 2 _ _ _ h]; rfl⟩
      have hw0 : Below (C + 1) wb wb := Below.refl _ _
      clear hbx HOR hB hgs hwb hbB hixyz
      go_wp2
      rw [HC.out]
      go_loopw [7, 24] (fun ov jv wr' => ∃ (j : Nat) (ba : Option Addr) (bn bc : Nat), jv = .int .i64 (j : Int) ∧ j ≤ tn ∧ ov = .slice ba bn bc ∧ Hid ((LN i j).length = bn) ∧ Hid (ORow wr' (C + 1) (.slice ba bn bc) (LN i j)) ∧ Below (C + 1) wb wr') (fun _ jv _ => (tn - intOf jv).toNat)
      case atStart => exact ⟨0, none, 0, 0, rfl, by omega, rfl, (show (LN i 0).length = 0 by rw [HL0.out]; rfl), (show ORow _ _ _ (LN i 0) by rw [HL0.out]; exact World.ownsRow_nil _ _ _ _), by rw [Hwb.out]; exact Below.refl _ _⟩
      case round =>
        clear r0 r1 r2 hw0 Hwb HC
        obtain ⟨j, ba, bn, bc, rfl, hj, rfl, HBN, HBR, hB⟩ := hrel
        by_cases hltj : j < tn
        · have hdj : decide ((j : Int) < (tn : Int)) = true := by simp; omega
          have hji : (j : Int) < (tn : Int) := by omega
          obtain ⟨jx, jy, jz, hjxyz, hjx, hjy, hjz⟩ := HAT.out j hltj
          have hBg := HG2.out _ hB
          obtain ⟨r0, r1, r2⟩ := HTE.out wr j jx jy jz hBg hjxyz
          have bA := balloc wr (.cells #[.int .i64 (jx : Int), .int .i64 (jy : Int), .int .i64 (jz : Int)] 66)
          have hsz := HSC.out _ hB
          have hBA : Below (C + 1) wb (wr.alloc (.cells #[.int .i64 (jx : Int), .int .i64 (jy : Int), .int .i64 (jz : Int)] 66)) := hB.trans (bA.mono hsz)
          have hBA0 := HBB.out _ (HG2.out _ hBA)
          obtain ⟨y0, y1, y2⟩ := HFB.out _ hBA0
          obtain ⟨c0, c1, c2⟩ := HBC.out _ hBA
          have CW := HWI.out _ i j jx jy jz ix iy iz (Below.next HB0.out hBA0) HIX.out hjxyz hjx hjy hjz hix hiy hiz
          have HU : Hid (LN i (j + 1) = LN i j ++ (if (DT i j 3 == 0) = true then [j] else [])) := HLU.out i j
          have hll2 := HLL.out i j
          rw [HBN.out] at hll2
          obtain ⟨t, Ht⟩ : ∃ t, Hid ((DT i j 3 == 0) = t) := ⟨_, rfl⟩
          rw [Ht.out] at CW HU
          clear hjxyz hBA0 hBg
          cases t
          · have HU2 : Hid (LN i (j + 1) = LN i j) := (show LN i (j + 1) = LN i j by rw [HU.out]; simp)
            clear HU
            go_wp2_with (go_at_call 31; refine CW.mono ?_; rintro e w5 ⟨rfl, b5⟩; clear CW)
            have b6 := Below.next bA b5
            have HO8 : Hid (ORow w5 (C + 1) (.slice ba bn bc) (LN i (j + 1))) := (show ORow w5 (C + 1) (.slice ba bn bc) (LN i (j + 1)) by rw [HU2.out]; exact HBR.out.below b6)
            have HL8 : Hid ((LN i (j + 1)).length = bn) := (show (LN i (j + 1)).length = bn by rw [HU2.out]; exact HBN.out)
            have hb8 : Below (C + 1) wb w5 := hB.trans (b6.mono hsz)
            clear HBR HBN hB
            go_roundw
            case rel => exact ⟨j + 1, ba, bn, bc, by go_num, by omega, rfl, HL8, HO8, hb8⟩
            case measure => simp [intOf]; omega
          · have HU2 : Hid (LN i (j + 1) = LN i j ++ [j]) := (show LN i (j + 1) = LN i j ++ [j] by rw [HU.out]; simp)
            clear HU
            go_wp2_with (first
              | (go_at_call 31; refine CW.mono ?_; rintro e w5 ⟨rfl, b5⟩; clear CW
                 have b6 := Below.next bA b5
                 have hB5 : Below (C + 1) wb w5 := hB.trans (b6.mono hsz)
                 have hsz5 := HSC.out _ hB5
                 have hown : w5.ownsRow (C + 1) 3 1 (.slice ba bn bc) bn (((LN i j).map Int.ofNat).map (Value.int .i64)) := (by
                   have h := HBR.out.below b6
                   unfold ORow at h
                   rwa [HBN.out] at h))
              | (at_builtin; refine wpList_append_own _ rfl _ _ 25 rfl (C + 1) 3 i3 (.int .i64 0) 1 8 und22 hi3 hz0 hz1 hz2 rfl (by decide) _ _ _ rfl (hown.alloc _) ⟨w5.heap.size, 0, none⟩ 1 1 [.int .i64 (j : Int)] rfl rfl (fun j u hj => by (match j, hj with | 0, hj => simp at hj; subst hj; simp [Addr.add])) (fun u hu => by (simp at hu; subst hu; rfl)) (by (unfold maxLen; omega)) (by omega) (by (simp; omega)) ?_; intro v' w8 hown' hgrow _
                 have hb8 : Below (C + 1) wb w8 := (hB5.alloc hsz5 _).grown hgrow (by simp; omega) (fun k hk => (hown.lt k hk).1)
                 obtain ⟨va', vc', rfl⟩ := own_form2 hown'
                 have HO8 : Hid (ORow w8 (C + 1) (.slice va' (bn + 1) vc') (LN i (j + 1))) := (show ORow w8 (C + 1) (.slice va' (bn + 1) vc') (LN i (j + 1)) by unfold ORow; rw [HU2.out, List.length_append, HBN.out, List.map_append, List.map_append]; exact hown')
                 have HL8 : Hid ((LN i (j + 1)).length = bn + 1) := (show (LN i (j + 1)).length = bn + 1 by rw [HU2.out, List.length_append, HBN.out]; rfl)
                 clear hown hgrow hown')
              | go_in)
            clear HBR HBN hB
            go_roundw
            case rel => exact ⟨j + 1, va', bn + 1, vc', by go_num, by omega, rfl, HL8, HO8, hb8⟩
            case measure => simp [intOf]; omega
        · have hdj : decide ((j : Int) < (tn : Int)) = false := by simp; omega
          obtain rfl : j = tn := by omega
          have hgl : g < C + 1 := by omega
          have hbx : wr.heap[g]? = some (.cells #[.int .i64 (j : Int), .slice oa i oc] 24 (0, 0)) := (hB.block g hgl).trans HBX.out
          have hO : OR wr (g + 1) (.slice oa i oc) (PL i) := HOR2.out.below (by rw [HCO.out]; exact hB)
          have hsz : C + 1 ≤ wr.heap.size := HSC.out _ hB
          have y1 : wr.cell? ⟨g, 1, none⟩ = some (.slice oa i oc) := by rw [cell_of_row wr g 1 _ _ _ hbx]; rfl
          obtain ⟨vals, h1, h2⟩ := hO
          have hpl := HPL.out i
          have H1 : Hid (wr.ownsRow (g + 1) 25 1 (.slice oa i oc) (PL i).length vals) := h1
          have H2 : Hid (∀ (m : Nat) (u : Value) (l : List Nat), vals[m]? = some u → (PL i)[m]? = some l → ORow wr (g + 1) u l) := h2
          have HRB : Hid (ORow wr (g + 1) (.slice ba bn bc) (LN i j)) := (show ORow wr (g + 1) (.slice ba bn bc) (LN i j) from ⟨HBR.out.1, HBR.out.2.imp id fun ⟨g', c', cur, e, hb, r⟩ => ⟨g', c', cur, e, Nat.le_trans (by omega) hb, r⟩⟩)
          rw [hpl] at h1
          have HBg : Hid (Below g w2 wr) := HG2.out _ hB
          have HFIN : Hid (∀ (v' : Value) (w8 : World), w8.ownsRow (g + 1) 25 1 v' (i + 1) (vals ++ [.slice ba bn bc]) → (wr.alloc (.cells #[.slice ba bn bc] 25)).grownBy w8 (Value.slice oa i oc).ownBlock → w8.cell? ⟨g, 1, none⟩ = some (.slice oa i oc) ∧ w8.frozen? ⟨g, 1, none⟩ = false ∧ (w8.setCell ⟨g, 1, none⟩ v').heap[g]? = some (.cells #[.int .i64 (j : Int), v'] 24 (0, 0)) ∧ OR (w8.setCell ⟨g, 1, none⟩ v') (g + 1) v' (PL (i + 1)) ∧ Below g w2 (w8.setCell ⟨g, 1, none⟩ v') ∧ g + 1 ≤ (w8.setCell ⟨g, 1, none⟩ v').heap.size) := fun v' w8 k1 k2 => by
            have bal := balloc wr (.cells #[.slice ba bn bc] 25)
            have hgn : (Value.slice oa i oc).ownBlock ≠ some g := fun e => by have := (H1.out.lt g e).1; omega
            have hbx8 : w8.heap[g]? = some (.cells #[.int .i64 (j : Int), .slice oa i oc] 24 (0, 0)) := (k2.block g (by rw [World.size_alloc]; omega) (fun e => hgn e.symm)).trans ((bal.block g (by omega)).trans hbx)
            have hO8 : OR w8 (g + 1) v' (PL i ++ [LN i j]) := OR.more (own_keep H1.out fun b _ hb => bal.block b hb) (fun m u l e1 e2 => (H2.out m u l e1 e2).below bal) (HRB.out.below bal) (by rw [hpl]; exact k1) k2
            have hb8 : Below g w2 w8 := (HBg.out.alloc (Nat.le_trans (by omega) hsz) _).grown k2 (by rw [World.size_alloc]; omega) (fun k hk => Nat.le_trans (by omega) (H1.out.lt k hk).1)
            have hs8 := k2.size
            rw [World.size_alloc] at hs8
            refine ⟨by rw [cell_of_row w8 g 1 _ _ _ hbx8]; rfl, frozen_of_row w8 g 1 _ _ hbx8, ?_, ?_, hb8.setCell (p := ⟨g, 1, none⟩) (Nat.le_refl _) _, ?_⟩
            · have := heap_setCell_same w8 g 1 _ _ v' hbx8
              simpa using this
            · rw [HPU.out]
              exact hO8.keep fun b hb _ => heap_setCell_other w8 ⟨g, 1, none⟩ b v' (by show b ≠ g; omega)
            · have : (w8.setCell ⟨g, 1, none⟩ v').heap.size = w8.heap.size := by simp
              omega
          clear h2 hbx HBR HBX HOR2 HBO HCO
          go_wp2_with (first
            | (at_builtin; refine wpList_append_own _ rfl _ _ 22 rfl (g + 1) 25 i27 (.slice none 0 0) 1 24 undR ji3 jz0 jz1 jz2 rfl (by decide) _ _ _ rfl (h1.alloc _) ⟨wr.heap.size, 0, none⟩ 1 1 [.slice ba bn bc] rfl rfl (fun j u hj => by (match j, hj with | 0, hj => simp at hj; subst hj; simp [Addr.add])) (fun u hu => by (simp at hu; subst hu; rfl)) (by (unfold maxLen; omega)) (by omega) (by (simp; omega)) ?_; intro v' w8 hown' hgrow _
               obtain ⟨f1, f2, f3⟩ := HFIN.out v' w8 hown' hgrow
               obtain ⟨va', vc', rfl⟩ := own_form2 hown'
               have HF3 : Hid ((w8.setCell ⟨g, 1, none⟩ (.slice va' (i + 1) vc')).heap[g]? = some (.cells #[.int .i64 (j : Int), .slice va' (i + 1) vc'] 24 (0, 0)) ∧ OR (w8.setCell ⟨g, 1, none⟩ (.slice va' (i + 1) vc')) (g + 1) (.slice va' (i + 1) vc') (PL (i + 1)) ∧ Below g w2 (w8.setCell ⟨g, 1, none⟩ (.slice va' (i + 1) vc')) ∧ g + 1 ≤ (w8.setCell ⟨g, 1, none⟩ (.slice va' (i + 1) vc')).heap.size) := f3
               clear f3 hown' hgrow h1 HFIN)
            | go_in)
          go_roundw
          case rel =>
            obtain ⟨g1, g2, g3, g4⟩ := HF3.out
            exact ⟨i + 1, va', vc', by go_num, by omega, g1, g2, g3, g4⟩
          case measure => simp [intOf]; omega
    · have hdi : decide ((i : Int) < (tn : Int)) = false := by simp; omega
      obtain rfl : i = tn := by omega
      have y0 : wr.cell? ⟨g, 0, none⟩ = some (.int .i64 (i : Int)) := by rw [cell_of_row wr g 0 _ _ _ hbx]; rfl
      have y1 : wr.cell? ⟨g, 1, none⟩ = some (.slice oa i oc) := by rw [cell_of_row wr g 1 _ _ _ hbx]; rfl
      have hres := HRES.out _ hB
      have hgw := HGW.out
      have HFO : Hid (OR (wr.setRow (w.heap.size + 1) #[.int .i64 (i : Int), .slice oa i oc]) w.heap.size (.slice oa i oc) (PL i)) := (show OR _ _ _ _ by
        have h := HOR.out.keep (w' := wr.setRow (w.heap.size + 1) #[.int .i64 (i : Int), .slice oa i oc]) fun b hb _ => setRow_other wr (w.heap.size + 1) b _ (by omega)
        obtain ⟨vals, h1, h2⟩ := h
        exact ⟨vals, ⟨h1.1, h1.2.imp id fun ⟨g', c', cur, e, hb, r⟩ => ⟨g', c', cur, e, by omega, r⟩⟩, fun m u l e1 e2 => by
          have hr := h2 m u l e1 e2
          exact ⟨hr.1, hr.2.imp id fun ⟨g', c', cur, e, hb, r⟩ => ⟨g', c', cur, e, by omega, r⟩⟩⟩)
      have HFB2 : Hid (Below w.heap.size w (wr.setRow (w.heap.size + 1) #[.int .i64 (i : Int), .slice oa i oc])) := (show Below _ _ _ from bsetRw' (Below.next HB0.out (HBB.out _ hB)) (by omega) _)
      have hres2 : (wr.setRow (w.heap.size + 1) #[.int .i64 (i : Int), .slice oa i oc]).heap[w.heap.size + 1]? = some (.cells #[.int .i64 (i : Int), .slice oa i oc] 24 (0, 0)) := setRow_heap _ _ _ _ _ _ hres
      have r0 : (wr.setRow (w.heap.size + 1) #[.int .i64 (i : Int), .slice oa i oc]).cell? ⟨w.heap.size + 1, 0, none⟩ = some (.int .i64 (i : Int)) := by rw [cell_of_row _ _ 0 _ _ _ hres2]; rfl
      have r1 : (wr.setRow (w.heap.size + 1) #[.int .i64 (i : Int), .slice oa i oc]).cell? ⟨w.heap.size + 1, 1, none⟩ = some (.slice oa i oc) := by rw [cell_of_row _ _ 1 _ _ _ hres2]; rfl
      clear HOR hbx
      go_wp2_with (refine wpList_store_row rfl 24 _ _ rfl (w.heap.size + 1) #[.int .i64 (i : Int), .slice oa i oc] rfl rfl 24 _ hres (inf24' _ _) rfl (one2s _ _ _ _) ?_)
      exact bodyPost_ret (v := .agg #[.int .i64 (i : Int), .slice oa i oc]) (by simp [results, Tryd.results16, go_sem, r0, r1]) rfl ⟨oa, i, oc, by rw [Htn.out], by rw [Htn.out]; exact HFO.out, HFB2.out⟩

end Go.Proofs.YtgpkhfpejopacabDoor

namespace Go.Proofs.YtgpkhfpejopacabDoor
open Go.RowKit

set_option maxRecDepth 100000 in
set_option maxHeartbeats 32000000 in
theorem conic_any (P K : Nat) (l : List Int) (v : Value) (w : World) (hTb : Fd.Tab w) (hl : Sl w v l) (hll : l.length ≤ maxLen) (hG : Fd.GoodF P K l) (h5 : P ^ K ≤ 5) :
    Calls Tryd.prog 15 #[.agg #[.int .i64 (P : Int), .int .i64 (K : Int), v]] w fun e w' => ∃ xa xn xc, e = .returned (.slice xa xn xc) ∧ ORow w' w.heap.size (.slice xa xn xc) (cnL (Fd.mulQ P K (Fd.monL l)) (trL (P ^ K) (P ^ K * P ^ K * P ^ K)) (trL (P ^ K) (P ^ K * P ^ K * P ^ K)).length) ∧ Below w.heap.size w w' := by
  obtain ⟨i3, hi3, hz0, hz1, hz2⟩ := info3
  have hq2 : 2 ≤ P ^ K := by
    have h1 := hG.field.two
    have h2 := hG.field.one
    exact Nat.le_trans h1 (Nat.le_trans (Nat.le_of_eq (Nat.pow_one P).symm) (Nat.pow_le_pow_right (by omega) h2))
  obtain ⟨fa, fn, fc, rfl⟩ : ∃ fa fn fc, v = .slice fa fn fc := by obtain ⟨a, c, e, _⟩ := hl; exact ⟨a, _, c, e⟩
  have HSZ : Hid (∀ W : World, Calls Tryd.prog 28 #[.agg #[.int .i64 (P : Int), .int .i64 (K : Int), .slice fa fn fc]] W fun e w' => e = .returned (.int .i64 ((P ^ K : Nat) : Int)) ∧ Below W.heap.size W w') := fun W => fieldOrder_any P K _ W hG.field.two hG.le64 hG.le6 hG.le61 ⟨_, _, _, rfl⟩
  have HTR : Hid (∀ W : World, Calls Tryd.prog 29 #[.int .i64 ((P ^ K : Nat) : Int)] W fun e w' => ∃ a n c, e = .returned (.slice a n c) ∧ n = (trL (P ^ K) (P ^ K * P ^ K * P ^ K)).length ∧ OT w' W.heap.size (.slice a n c) (trL (P ^ K) (P ^ K * P ^ K * P ^ K)) ∧ Below W.heap.size W w') := fun W => ptriples_any (P ^ K) W hq2 h5
  have HAT : Hid (∀ i, i < (trL (P ^ K) (P ^ K * P ^ K * P ^ K)).length → ∃ x y z, (trL (P ^ K) (P ^ K * P ^ K * P ^ K))[i]? = some [x, y, z] ∧ x < P ^ K ∧ y < P ^ K ∧ z < P ^ K) := fun i hi => trL_at hq2 hi
  have HT3 : Hid (∀ t ∈ trL (P ^ K) (P ^ K * P ^ K * P ^ K), t.length = 3) := trL_three
  have hT125 : (trL (P ^ K) (P ^ K * P ^ K * P ^ K)).length ≤ 125 := Nat.le_trans (trL_len _ _) (Nat.mul_le_mul (Nat.mul_le_mul h5 h5) h5)
  have HM : Hid (∀ (W : World) (s t : Nat), Below w.heap.size w W → s < P ^ K → t < P ^ K → Calls Tryd.prog 30 #[.agg #[.int .i64 (P : Int), .int .i64 (K : Int), .slice fa fn fc], .int .i64 (s : Int), .int .i64 (t : Int)] W fun e w' => e = .returned (.tuple #[.int .i64 ((Fd.mulQ P K (Fd.monL l) s t : Nat) : Int), .int .i64 0]) ∧ Below W.heap.size W w') := fun W s t hW hs ht => Fd.MulG P K s t l _ W (hTb.below hW) (hl.below hW) hll hG hs ht _ rfl
  obtain ⟨q, Hqq⟩ : ∃ q, Hid (P ^ K = q) := ⟨_, rfl⟩
  rw [Hqq.out] at HSZ HTR HAT HT3 HM hT125 h5 hq2 ⊢
  obtain ⟨mu, Hmu⟩ : ∃ mu : Nat → Nat → Nat, Hid (Fd.mulQ P K (Fd.monL l) = mu) := ⟨_, rfl⟩
  rw [Hmu.out] at HM ⊢
  obtain ⟨T, HT⟩ : ∃ T, Hid (trL q (q * q * q) = T) := ⟨_, rfl⟩
  rw [HT.out] at HTR HAT HT3 hT125 ⊢
  have HCU : Hid (∀ k, cnL mu T (k + 1) = cnL mu T k ++ (if (mu (tA T k 1) (tA T k 1) == mu (tA T k 0) (tA T k 2)) = true then [k] else [])) := fun k => cnL_up mu T k
  have HCL : Hid (∀ k, (cnL mu T k).length ≤ k) := fun k => cnL_len mu T k
  have HC0 : Hid (cnL mu T 0 = []) := rfl
  obtain ⟨CL, HCC⟩ : ∃ CL : Nat → List Nat, Hid (cnL mu T = CL) := ⟨_, rfl⟩
  rw [HCC.out] at HCU HCL HC0 ⊢
  have HFB : Hid (∀ W, Below (w.alloc (.cells #[.int .i64 (P : Int), .int .i64 (K : Int), .slice fa fn fc] 27)).heap.size (w.alloc (.cells #[.int .i64 (P : Int), .int .i64 (K : Int), .slice fa fn fc] 27)) W → W.cell? ⟨w.heap.size, 0, none⟩ = some (.int .i64 (P : Int)) ∧ W.cell? ⟨w.heap.size, 1, none⟩ = some (.int .i64 (K : Int)) ∧ W.cell? ⟨w.heap.size, 2, none⟩ = some (.slice fa fn fc)) := fBoxM _ _ _ w
  obtain ⟨w0, Hw0⟩ : ∃ w0, Hid (w0 = w.alloc (.cells #[.int .i64 (P : Int), .int .i64 (K : Int), .slice fa fn fc] 27)) := ⟨_, rfl⟩
  rw [← Hw0.out] at HFB
  have HB0 : Hid (Below w.heap.size w w0) := by rw [Hw0.out]; exact balloc _ _
  obtain ⟨x0, x1, x2⟩ := HFB.out _ (Below.refl _ _)
  rw [Hw0.out] at x0 x1 x2
  clear hl hG hTb
  go_enter Tryd.func15, Tryd.ntmps15
  go_wp2_with (first
    | (go_at_call 28; refine (HSZ.out _).mono ?_; rintro e w1 ⟨rfl, b1⟩; clear HSZ; rw [← Hw0.out] at b1)
    | (go_at_call 29; refine (HTR.out _).mono ?_; rintro e w2 ⟨ta, tn, tc, rfl, Htn0, hT2, b2⟩; clear HTR; have hB2 := Below.next b1 b2; have HT2 : Hid (OT w2 w1.heap.size (.slice ta tn tc) T) := hT2; have Htn : Hid (T.length = tn) := Htn0.symm; clear hT2 Htn0))
  rw [Htn.out] at HAT hT125
  obtain ⟨B, HB⟩ : ∃ B, Hid (w2.heap.size = B) := ⟨_, rfl⟩
  have HBB : Hid (∀ W, Below B w2 W → Below w0.heap.size w0 W) := fun W h => hB2.trans (h.mono (by rw [← HB.out]; exact hB2.size))
  have HBS : Hid (∀ W, Below B w2 W → B ≤ W.heap.size) := fun W h => by rw [← HB.out]; exact h.size
  have HWB : Hid (w.heap.size ≤ B) := (show w.heap.size ≤ B by rw [← HB.out]; exact Nat.le_trans HB0.out.size hB2.size)
  have HTW : Hid (∀ (W : World) (i x y z : Nat), Below B w2 W → T[i]? = some [x, y, z] → ∃ tb, ta = some ⟨tb, 0, none⟩ ∧ W.cell? ⟨tb, i * 3, none⟩ = some (.int .i64 (x : Int)) ∧ W.cell? ⟨tb, i * 3 + 1, none⟩ = some (.int .i64 (y : Int)) ∧ W.cell? ⟨tb, i * 3 + 2, none⟩ = some (.int .i64 (z : Int))) := fun W i x y z hW h => by
    obtain ⟨tb, tc', e, k⟩ := (HT2.out.keep (w' := W) (by rw [HB.out]; exact hW)).at3 HT3.out h
    simp only [Value.slice.injEq] at e
    exact ⟨tb, e.1, k⟩
  have h0 : Below B w2 w2 := Below.refl _ _
  clear x0 x1 x2 hB2 b1 b2
  go_loopw [3, 14] (fun ov iv wr => ∃ (i : Nat) (oa : Option Addr) (on oc : Nat), iv = .int .i64 (i : Int) ∧ i ≤ tn ∧ ov = .slice oa on oc ∧ Hid ((CL i).length = on) ∧ Hid (ORow wr B (.slice oa on oc) (CL i)) ∧ Below B w2 wr) (fun _ iv _ => (tn - intOf iv).toNat)
  case atStart => exact ⟨0, none, 0, 0, rfl, by omega, rfl, (show (CL 0).length = 0 by rw [HC0.out]; rfl), (show ORow _ _ _ (CL 0) by rw [HC0.out]; exact World.ownsRow_nil _ _ _ _), h0⟩
  case round =>
    clear h0
    obtain ⟨i, oa, on, oc, rfl, hi, rfl, HON, HOR, hB⟩ := hrel
    by_cases hlt : i < tn
    · have hdi : decide ((i : Int) < (tn : Int)) = true := by simp; omega
      have hii : (i : Int) < (tn : Int) := by omega
      obtain ⟨x, y, z, hxyz, hx, hy, hz⟩ := HAT.out i hlt
      obtain ⟨tb, rfl, r0, r1, r2⟩ := HTW.out wr i x y z hB hxyz
      obtain ⟨t0, t1, t2⟩ := tA_of hxyz
      have hcu := HCU.out i
      rw [t0, t1, t2] at hcu
      have hcl := HCL.out i
      rw [HON.out] at hcl
      have bA := balloc wr (.cells #[.int .i64 (x : Int), .int .i64 (y : Int), .int .i64 (z : Int)] 66)
      have hsz := HBS.out _ hB
      have HPX : Hid (∀ W, Below (wr.alloc (.cells #[.int .i64 (x : Int), .int .i64 (y : Int), .int .i64 (z : Int)] 66)).heap.size (wr.alloc (.cells #[.int .i64 (x : Int), .int .i64 (y : Int), .int .i64 (z : Int)] 66)) W → W.cell? ⟨wr.heap.size, 0, none⟩ = some (.int .i64 (x : Int)) ∧ W.cell? ⟨wr.heap.size, 1, none⟩ = some (.int .i64 (y : Int)) ∧ W.cell? ⟨wr.heap.size, 2, none⟩ = some (.int .i64 (z : Int))) := fun W hW => by
        have h := (hW.block wr.heap.size (by simp)).trans (heap_alloc_new wr _)
        exact ⟨by rw [cell_of_row W _ 0 _ _ _ h]; rfl, by rw [cell_of_row W _ 1 _ _ _ h]; rfl, by rw [cell_of_row W _ 2 _ _ _ h]; rfl⟩
      obtain ⟨p0, p1, p2⟩ := HPX.out _ (Below.refl _ _)
      have HBr : Hid (∀ W, Below wr.heap.size wr W → Below w0.heap.size w0 W) := fun W hW => Below.next (HBB.out _ hB) hW
      obtain ⟨y0, y1, y2⟩ := HFB.out _ (HBr.out _ bA)
      have CA := HM.out (wr.alloc (.cells #[.int .i64 (x : Int), .int .i64 (y : Int), .int .i64 (z : Int)] 66)) y y (Below.next HB0.out (HBr.out _ bA)) hy hy
      have HCB : Hid (∀ W, Below wr.heap.size wr W → Calls Tryd.prog 30 #[.agg #[.int .i64 (P : Int), .int .i64 (K : Int), .slice fa fn fc], .int .i64 (x : Int), .int .i64 (z : Int)] W fun e w' => e = .returned (.tuple #[.int .i64 ((mu x z : Nat) : Int), .int .i64 0]) ∧ Below W.heap.size W w') := fun W hW => HM.out W x z (Below.next HB0.out (HBr.out _ hW)) hx hz
      obtain ⟨ma, Hma⟩ : ∃ ma, Hid (mu y y = ma) := ⟨_, rfl⟩
      obtain ⟨mb, Hmb⟩ : ∃ mb, Hid (mu x z = mb) := ⟨_, rfl⟩
      rw [Hma.out] at CA hcu
      rw [Hmb.out] at HCB hcu
      have HU : Hid (CL (i + 1) = CL i ++ (if (ma == mb) = true then [i] else [])) := hcu
      clear hcu hxyz t0 t1 t2
      by_cases hab : ma = mb
      · have hab1 : ((ma : Int) == (mb : Int)) = true := by simp; omega
        have HU2 : Hid (CL (i + 1) = CL i ++ [i]) := (show CL (i + 1) = CL i ++ [i] by rw [HU.out, if_pos (by simpa using hab)])
        subst hab
        have hab2 : ((ma : Int) == (ma : Int)) = true := by simp
        clear HU
        go_wp2_with (first
          | (go_at_call 30; refine CA.mono ?_; rintro e w5 ⟨rfl, b5⟩; clear CA; have b6 := Below.next bA b5; have CB := HCB.out _ b6; clear HCB; obtain ⟨s0, s1, s2⟩ := HPX.out _ b5; obtain ⟨z0, z1, z2⟩ := HFB.out _ (HBr.out _ b6))
          | (go_at_call 30; refine CB.mono ?_; rintro e w6 ⟨rfl, b7⟩; clear CB
             have b8 := Below.next b6 b7
             have hB6 : Below B w2 w6 := hB.trans (b8.mono hsz)
             have hsz6 := HBS.out _ hB6
             have hown : w6.ownsRow B 3 1 (.slice oa on oc) on (((CL i).map Int.ofNat).map (Value.int .i64)) := (by
               have h := HOR.out.below b8
               unfold ORow at h
               rwa [HON.out] at h))
          | (at_builtin; refine wpList_append_own _ rfl _ _ 25 rfl B 3 i3 (.int .i64 0) 1 8 und22 hi3 hz0 hz1 hz2 rfl (by decide) _ _ _ rfl (hown.alloc _) ⟨w6.heap.size, 0, none⟩ 1 1 [.int .i64 (i : Int)] rfl rfl (fun j u hj => by (match j, hj with | 0, hj => simp at hj; subst hj; simp [Addr.add])) (fun u hu => by (simp at hu; subst hu; rfl)) (by (unfold maxLen; omega)) (by omega) (by (simp; omega)) ?_; intro v' w8 hown' hgrow _
             have hb8 : Below B w2 w8 := (hB6.alloc hsz6 _).grown hgrow (by simp; omega) (fun k hk => (hown.lt k hk).1)
             obtain ⟨va', vc', rfl⟩ := own_form2 hown'
             have HO8 : Hid (ORow w8 B (.slice va' (on + 1) vc') (CL (i + 1))) := (show ORow w8 B (.slice va' (on + 1) vc') (CL (i + 1)) by unfold ORow; rw [HU2.out, List.length_append, HON.out, List.map_append, List.map_append]; exact hown')
             have HL8 : Hid ((CL (i + 1)).length = on + 1) := (show (CL (i + 1)).length = on + 1 by rw [HU2.out, List.length_append, HON.out]; rfl)
             clear hown hgrow hown')
          | go_in)
        clear HOR HON hB
        go_roundw
        case rel => exact ⟨i + 1, va', on + 1, vc', by go_num, by omega, rfl, HL8, HO8, hb8⟩
        case measure => simp [intOf]; omega
      · have hab1 : ((ma : Int) == (mb : Int)) = false := by
          have : ¬ (ma : Int) = (mb : Int) := by omega
          simpa using this
        have hab2 : ¬ (ma : Int) = (mb : Int) := by omega
        have HU2 : Hid (CL (i + 1) = CL i) := (show CL (i + 1) = CL i by rw [HU.out, if_neg (by simpa using hab), List.append_nil])
        clear HU
        go_wp2_with (first
          | (go_at_call 30; refine CA.mono ?_; rintro e w5 ⟨rfl, b5⟩; clear CA; have b6 := Below.next bA b5; have CB := HCB.out _ b6; clear HCB; obtain ⟨s0, s1, s2⟩ := HPX.out _ b5; obtain ⟨z0, z1, z2⟩ := HFB.out _ (HBr.out _ b6))
          | (go_at_call 30; refine CB.mono ?_; rintro e w6 ⟨rfl, b7⟩; clear CB; have b8 := Below.next b6 b7))
        have hB6 : Below B w2 w6 := hB.trans (b8.mono hsz)
        have HO8 : Hid (ORow w6 B (.slice oa on oc) (CL (i + 1))) := (show ORow w6 B (.slice oa on oc) (CL (i + 1)) by rw [HU2.out]; exact HOR.out.below b8)
        have HL8 : Hid ((CL (i + 1)).length = on) := (show (CL (i + 1)).length = on by rw [HU2.out]; exact HON.out)
        clear HOR HON hB
        go_roundw
        case rel => exact ⟨i + 1, oa, on, oc, by go_num, by omega, rfl, HL8, HO8, hB6⟩
        case measure => simp [intOf]; omega
    · have hdi : decide ((i : Int) < (tn : Int)) = false := by simp; omega
      obtain rfl : i = tn := by omega
      have HFIN : Hid (ORow wr w.heap.size (.slice oa on oc) (CL i)) := (show ORow wr w.heap.size (.slice oa on oc) (CL i) from ⟨HOR.out.1, HOR.out.2.imp id fun ⟨g', c', cur, e, hb, r⟩ => ⟨g', c', cur, e, Nat.le_trans HWB.out hb, r⟩⟩)
      have HBF : Hid (Below w.heap.size w wr) := Below.next HB0.out (HBB.out _ hB)
      go_wp2
      go_ret
      exact ⟨oa, on, oc, rfl, by rw [Htn.out]; exact HFIN.out, HBF.out⟩

end Go.Proofs.YtgpkhfpejopacabDoor

/- Which fields have an order of up to 5, and what their planes are. -/
namespace Go.Proofs.YtgpkhfpejopacabDoor
open Go.RowKit

/-- The conic of the plane of order q, for q up to 5. -/
def cq (q : Nat) : List Nat := match q with
  | 2 => [0, 3, 6]
  | 3 => [0, 4, 8, 11]
  | 4 => [0, 5, 10, 16, 19]
  | 5 => [0, 6, 12, 20, 25, 27]
  | _ => []
def f5L : List (Nat × Nat × List Int) := [(2, 1, [0]), (2, 1, [1]), (3, 1, [0]), (3, 1, [1]), (3, 1, [2]), (5, 1, [0]), (5, 1, [1]), (5, 1, [2]), (5, 1, [3]), (5, 1, [4]), (2, 2, [1, 1])]
theorem no_gen (l : List Int) (h : ((List.range 4).all fun g => (List.range 3).any fun a => (List.range 3).all fun i => Fd.powQ 2 2 (Fd.monL l) g i != a + 1) = true) : ¬ Fd.FieldQ 2 2 (Fd.monL l) := fun hf => by
  obtain ⟨g, hg, hall, _⟩ := hf.gen
  obtain ⟨a, ha, k⟩ := rx (ra h (show g < 4 from hg))
  obtain ⟨i, hi, e⟩ := hall (a + 1) (by omega) (show a + 1 < 2 ^ 2 by omega)
  have := ra k (show i < 3 from hi)
  rw [e] at this
  exact absurd rfl (bne_iff_ne.1 this)
theorem good_five {P K : Nat} {l : List Int} (hG : Fd.GoodF P K l) (h5 : P ^ K ≤ 5) : (P, K, l) ∈ f5L := by
  obtain ⟨P', K', e1, e2, hP, _, hK, _, _, _, hlen, hmi, _, hpr⟩ := Fd.good_parts hG.fault
  obtain rfl : P = P' := by omega
  obtain rfl : K = K' := by omega
  have hf := hG.field
  have hP0 : 0 < P := Nat.lt_of_lt_of_le (by decide) hP
  have hP5 : P ≤ 5 := Nat.le_trans (Nat.le_trans (Nat.le_of_eq (Nat.pow_one P).symm) (Nat.pow_le_pow_right hP0 hK)) h5
  have hK2 : K ≤ 2 := by
    refine Nat.le_of_not_lt fun h => ?_
    have h1 : 2 ^ 3 ≤ P ^ 3 := Nat.pow_le_pow_left hP 3
    have h2 : P ^ 3 ≤ P ^ K := Nat.pow_le_pow_right hP0 h
    omega
  rcases (show K = 1 ∨ K = 2 by omega) with rfl | rfl
  · match l, hlen with
    | [c], _ =>
      have h0 := hmi 0
      have e0 : Fd.monL [c] 0 = c := rfl
      rw [e0] at h0
      rcases (show P = 2 ∨ P = 3 ∨ P = 4 ∨ P = 5 by omega) with rfl | rfl | rfl | rfl
      · rcases (show c = 0 ∨ c = 1 by omega) with rfl | rfl <;> decide
      · rcases (show c = 0 ∨ c = 1 ∨ c = 2 by omega) with rfl | rfl | rfl <;> decide
      · exact absurd hpr (by decide)
      · rcases (show c = 0 ∨ c = 1 ∨ c = 2 ∨ c = 3 ∨ c = 4 by omega) with rfl | rfl | rfl | rfl | rfl <;> decide
  · obtain rfl : P = 2 := by
      refine Nat.le_antisymm (Nat.le_of_not_lt fun h => ?_) hP
      have h1 : 3 ^ 2 ≤ P ^ 2 := Nat.pow_le_pow_left h 2
      omega
    match l, hlen with
    | [c, d], _ =>
      have h0 := hmi 0
      have h1 := hmi 1
      have e0 : Fd.monL [c, d] 0 = c := rfl
      have e1 : Fd.monL [c, d] 1 = d := rfl
      rw [e0] at h0
      rw [e1] at h1
      rcases (show c = 0 ∨ c = 1 by omega) with rfl | rfl <;> rcases (show d = 0 ∨ d = 1 by omega) with rfl | rfl
      · exact absurd hf (no_gen _ (by decide +kernel))
      · exact absurd hf (no_gen _ (by decide +kernel))
      · exact absurd hf (no_gen _ (by decide +kernel))
      · decide
def f5B (f : Nat × Nat × List Int) : Bool :=
  let q := f.1 ^ f.2.1
  let T := trL q (q * q * q)
  decide (q = 2 ∨ q = 3 ∨ q = 4 ∨ q = 5) && (T.length == vq q && (plL (Fd.addQ f.1 f.2.1) (Fd.mulQ f.1 f.2.1 (Fd.monL f.2.2)) T T.length == bq q && cnL (Fd.mulQ f.1 f.2.1 (Fd.monL f.2.2)) T T.length == cq q))
theorem f5_all : f5L.all f5B = true := by decide +kernel
/-- The plane and the conic of a field of up to 5 elements. -/
theorem plane_five {P K : Nat} {l : List Int} (hG : Fd.GoodF P K l) (h5 : P ^ K ≤ 5) : Q4 (P ^ K) ∧ (trL (P ^ K) (P ^ K * P ^ K * P ^ K)).length = vq (P ^ K) ∧
    plL (Fd.addQ P K) (Fd.mulQ P K (Fd.monL l)) (trL (P ^ K) (P ^ K * P ^ K * P ^ K)) (trL (P ^ K) (P ^ K * P ^ K * P ^ K)).length = bq (P ^ K) ∧
    cnL (Fd.mulQ P K (Fd.monL l)) (trL (P ^ K) (P ^ K * P ^ K * P ^ K)) (trL (P ^ K) (P ^ K * P ^ K * P ^ K)).length = cq (P ^ K) := by
  have k := List.all_eq_true.1 f5_all _ (good_five hG h5)
  unfold f5B at k
  simp only [Bool.and_eq_true, decide_eq_true_eq, beq_iff_eq] at k
  exact k

end Go.Proofs.YtgpkhfpejopacabDoor

namespace Go.Proofs.YtgpkhfpejopacabDoor
open Go.RowKit

theorem box2 (w : World) (f0 f1 f2 : Value) : ∀ W, Below ((w.alloc (.cells #[f0, f1, f2] 27)).alloc (.cells #[.int .i64 0, .slice none 0 0] 24)).heap.size ((w.alloc (.cells #[f0, f1, f2] 27)).alloc (.cells #[.int .i64 0, .slice none 0 0] 24)) W →
    W.cell? ⟨w.heap.size, 0, none⟩ = some f0 ∧ W.cell? ⟨w.heap.size, 1, none⟩ = some f1 ∧ W.cell? ⟨w.heap.size, 2, none⟩ = some f2 ∧ W.heap[w.heap.size + 1]? = some (.cells #[.int .i64 0, .slice none 0 0] 24 (0, 0)) := fun W hW => by
  have e1 : (w.alloc (.cells #[f0, f1, f2] 27)).heap.size = w.heap.size + 1 := by simp
  have b1 := balloc (w.alloc (.cells #[f0, f1, f2] 27)) (.cells #[.int .i64 0, .slice none 0 0] 24)
  have e2 : ((w.alloc (.cells #[f0, f1, f2] 27)).alloc (.cells #[.int .i64 0, .slice none 0 0] 24)).heap.size = w.heap.size + 1 + 1 := by simp
  have k1 : ((w.alloc (.cells #[f0, f1, f2] 27)).alloc (.cells #[.int .i64 0, .slice none 0 0] 24)).heap[w.heap.size + 1]? = some (.cells #[.int .i64 0, .slice none 0 0] 24 (0, 0)) := by
    rw [← e1]
    exact heap_alloc_new (w.alloc (.cells #[f0, f1, f2] 27)) _
  have h0 := (hW.block w.heap.size (by omega)).trans ((b1.block w.heap.size (by omega)).trans (heap_alloc_new w _))
  exact ⟨by rw [cell_of_row W _ 0 _ _ _ h0]; rfl, by rw [cell_of_row W _ 1 _ _ _ h0]; rfl, by rw [cell_of_row W _ 2 _ _ _ h0]; rfl, (hW.block (w.heap.size + 1) (by omega)).trans k1⟩
set_option maxRecDepth 100000 in
set_option maxHeartbeats 4000000 in
theorem Make_bad (p k z : Int) (l : List Int) (v : Value) (w : World) (hT : Fd.Tab w) (hl : Sl w v l) (hll : l.length ≤ maxLen) (hz : Fd.FaultIs p k l z) (hp : pfZ p k z ≠ 0) :
    Calls Tryd.prog 8 #[.agg #[.int .i64 p, .int .i64 k, v]] w fun e w' => e = .returned (.tuple #[.agg #[.int .i64 0, .slice none 0 0], .int .i64 (pfZ p k z)]) ∧ Below w.heap.size w w' := by
  have HB2 : Hid (∀ W, Below ((w.alloc (.cells #[.int .i64 p, .int .i64 k, v] 27)).alloc (.cells #[.int .i64 0, .slice none 0 0] 24)).heap.size ((w.alloc (.cells #[.int .i64 p, .int .i64 k, v] 27)).alloc (.cells #[.int .i64 0, .slice none 0 0] 24)) W → _) := box2 w (.int .i64 p) (.int .i64 k) v
  have b0 := Below.next (balloc w (.cells #[.int .i64 p, .int .i64 k, v] 27)) (balloc _ (.cells #[.int .i64 0, .slice none 0 0] 24))
  have C := checkField_any p k z l v _ (hT.below b0) (hl.below b0) hll hz
  obtain ⟨x0, x1, x2, _⟩ := HB2.out _ (Below.refl _ _)
  obtain ⟨r, Hr⟩ : ∃ r, Hid (pfZ p k z = r) := ⟨_, rfl⟩
  rw [Hr.out] at C hp ⊢
  have hr1 : (r != 0) = true := by simpa using hp
  obtain ⟨fa, fn, fc, rfl⟩ : ∃ fa fn fc, v = .slice fa fn fc := by obtain ⟨a, c, e, _⟩ := hl; exact ⟨a, _, c, e⟩
  clear hl hT hz
  go_enter Tryd.func8, Tryd.ntmps8
  go_wp2_with (first
    | (go_at_call 14; refine C.mono ?_; rintro e w1 ⟨rfl, b1⟩; clear C; obtain ⟨_, _, _, hres⟩ := HB2.out _ b1; replace b1 := Below.next b0 b1)
    | (refine wpList_store_row rfl 24 _ _ rfl (w.heap.size + 1) #[.int .i64 0, .slice none 0 0] rfl rfl 24 _ hres (inf24' _ _) rfl (one2s _ _ _ _) ?_))
  have hres2 : (w1.setRow (w.heap.size + 1) #[.int .i64 0, .slice none 0 0]).heap[w.heap.size + 1]? = some (.cells #[.int .i64 0, .slice none 0 0] 24 (0, 0)) := setRow_heap _ _ _ _ _ _ hres
  have r0 : (w1.setRow (w.heap.size + 1) #[.int .i64 0, .slice none 0 0]).cell? ⟨w.heap.size + 1, 0, none⟩ = some (.int .i64 0) := by rw [cell_of_row _ _ 0 _ _ _ hres2]; rfl
  have r1 : (w1.setRow (w.heap.size + 1) #[.int .i64 0, .slice none 0 0]).cell? ⟨w.heap.size + 1, 1, none⟩ = some (.slice none 0 0) := by rw [cell_of_row _ _ 1 _ _ _ hres2]; rfl
  exact bodyPost_ret (v := .tuple #[.agg #[.int .i64 0, .slice none 0 0], .int .i64 r]) (by simp [results, Tryd.results8, go_sem, r0, r1]) rfl ⟨rfl, bsetRw' b1 (by omega) _⟩
set_option maxRecDepth 100000 in
set_option maxHeartbeats 4000000 in
theorem Make_good (P K : Nat) (l : List Int) (v : Value) (w : World) (hT : Fd.Tab w) (hl : Sl w v l) (hll : l.length ≤ maxLen) (hG : Fd.GoodF P K l) (h5 : P ^ K ≤ 5) :
    Calls Tryd.prog 8 #[.agg #[.int .i64 (P : Int), .int .i64 (K : Int), v]] w fun e w' => ∃ xa xn xc, e = .returned (.tuple #[.agg #[.int .i64 (vq (P ^ K) : Int), .slice xa xn xc], .int .i64 0]) ∧ OR w' w.heap.size (.slice xa xn xc) (bq (P ^ K)) ∧ Below w.heap.size w w' := by
  obtain ⟨_, p1, p2, _⟩ := plane_five hG h5
  have HB2 : Hid (∀ W, Below ((w.alloc (.cells #[.int .i64 (P : Int), .int .i64 (K : Int), v] 27)).alloc (.cells #[.int .i64 0, .slice none 0 0] 24)).heap.size ((w.alloc (.cells #[.int .i64 (P : Int), .int .i64 (K : Int), v] 27)).alloc (.cells #[.int .i64 0, .slice none 0 0] 24)) W → _) := box2 w (.int .i64 (P : Int)) (.int .i64 (K : Int)) v
  have b0 := Below.next (balloc w (.cells #[.int .i64 (P : Int), .int .i64 (K : Int), v] 27)) (balloc _ (.cells #[.int .i64 0, .slice none 0 0] 24))
  have hz0 : pfZ (P : Int) (K : Int) 0 = 0 := by
    unfold pfZ
    rw [if_neg (by simp), hG.ord, if_neg (by omega)]
  have C := checkField_any P K 0 l v _ (hT.below b0) (hl.below b0) hll hG.fault
  rw [hz0] at C
  have HMD : Hid (∀ W, Below w.heap.size w W → Calls Tryd.prog 16 #[.agg #[.int .i64 (P : Int), .int .i64 (K : Int), v]] W fun e w' => ∃ xa xn xc, e = .returned (.agg #[.int .i64 (vq (P ^ K) : Int), .slice xa xn xc]) ∧ OR w' W.heap.size (.slice xa xn xc) (bq (P ^ K)) ∧ Below W.heap.size W w') := fun W hW => by
    have h := made_any P K l v W (hT.below hW) (hl.below hW) hll hG h5
    rw [p2, p1] at h
    exact h
  obtain ⟨x0, x1, x2, _⟩ := HB2.out _ (Below.refl _ _)
  obtain ⟨vv, Hvv⟩ : ∃ vv, Hid (vq (P ^ K) = vv) := ⟨_, rfl⟩
  obtain ⟨BB, HBB⟩ : ∃ BB, Hid (bq (P ^ K) = BB) := ⟨_, rfl⟩
  rw [Hvv.out, HBB.out] at HMD ⊢
  obtain ⟨fa, fn, fc, rfl⟩ : ∃ fa fn fc, v = .slice fa fn fc := by obtain ⟨a, c, e, _⟩ := hl; exact ⟨a, _, c, e⟩
  clear hl hT hG p1 p2 h5
  go_enter Tryd.func8, Tryd.ntmps8
  go_wp2_with (first
    | (go_at_call 14; refine C.mono ?_; rintro e w1 ⟨rfl, b1⟩; clear C; obtain ⟨y0, y1, y2, _⟩ := HB2.out _ b1; have b1a := b1; replace b1 := Below.next b0 b1; have CM := HMD.out _ b1)
    | (go_at_call 16; refine CM.mono ?_; rintro e w2 ⟨xa, xn, xc, rfl, hO, b2⟩; clear CM; have HO : Hid (OR w2 w1.heap.size (.slice xa xn xc) BB) := hO; clear hO; have b2a := Below.next b1a b2; obtain ⟨_, _, _, hres⟩ := HB2.out _ b2a; replace b2 := Below.next b1 b2)
    | (refine wpList_store_row rfl 24 _ _ rfl (w.heap.size + 1) #[.int .i64 (vv : Int), .slice xa xn xc] rfl rfl 24 _ hres (inf24' _ _) rfl (one2s _ _ _ _) ?_))
  have hres2 : (w2.setRow (w.heap.size + 1) #[.int .i64 (vv : Int), .slice xa xn xc]).heap[w.heap.size + 1]? = some (.cells #[.int .i64 (vv : Int), .slice xa xn xc] 24 (0, 0)) := setRow_heap _ _ _ _ _ _ hres
  have r0 : (w2.setRow (w.heap.size + 1) #[.int .i64 (vv : Int), .slice xa xn xc]).cell? ⟨w.heap.size + 1, 0, none⟩ = some (.int .i64 (vv : Int)) := by rw [cell_of_row _ _ 0 _ _ _ hres2]; rfl
  have r1 : (w2.setRow (w.heap.size + 1) #[.int .i64 (vv : Int), .slice xa xn xc]).cell? ⟨w.heap.size + 1, 1, none⟩ = some (.slice xa xn xc) := by rw [cell_of_row _ _ 1 _ _ _ hres2]; rfl
  have hsz : w.heap.size + 1 + 1 ≤ w1.heap.size := by
    have := b1a.size
    simp at this
    omega
  have hF : OR (w2.setRow (w.heap.size + 1) #[.int .i64 (vv : Int), .slice xa xn xc]) w.heap.size (.slice xa xn xc) BB := by
    have h := HO.out.keep (w' := w2.setRow (w.heap.size + 1) #[.int .i64 (vv : Int), .slice xa xn xc]) fun b hb _ => setRow_other w2 (w.heap.size + 1) b _ (by omega)
    obtain ⟨vals, h1, h2⟩ := h
    exact ⟨vals, ⟨h1.1, h1.2.imp id fun ⟨g', c', cur, e, hb, r⟩ => ⟨g', c', cur, e, by omega, r⟩⟩, fun m u l e1 e2 => by
      have hr := h2 m u l e1 e2
      exact ⟨hr.1, hr.2.imp id fun ⟨g', c', cur, e, hb, r⟩ => ⟨g', c', cur, e, by omega, r⟩⟩⟩
  exact bodyPost_ret (v := .tuple #[.agg #[.int .i64 (vv : Int), .slice xa xn xc], .int .i64 0]) (by simp [results, Tryd.results8, go_sem, r0, r1]) rfl ⟨xa, xn, xc, rfl, hF, bsetRw' b2 (by omega) _⟩
set_option maxRecDepth 100000 in
set_option maxHeartbeats 4000000 in
theorem Conic_bad (p k z : Int) (l : List Int) (v : Value) (w : World) (hT : Fd.Tab w) (hl : Sl w v l) (hll : l.length ≤ maxLen) (hz : Fd.FaultIs p k l z) (hp : pfZ p k z ≠ 0) :
    Calls Tryd.prog 7 #[.agg #[.int .i64 p, .int .i64 k, v]] w fun e w' => e = .returned (.tuple #[.slice none 0 0, .int .i64 (pfZ p k z)]) ∧ Below w.heap.size w w' := by
  have b0 := balloc w (.cells #[.int .i64 p, .int .i64 k, v] 27)
  have C := checkField_any p k z l v _ (hT.below b0) (hl.below b0) hll hz
  obtain ⟨x0, x1, x2⟩ := fBoxM (.int .i64 p) (.int .i64 k) v w _ (Below.refl _ _)
  obtain ⟨r, Hr⟩ : ∃ r, Hid (pfZ p k z = r) := ⟨_, rfl⟩
  rw [Hr.out] at C hp ⊢
  have hr1 : (r != 0) = true := by simpa using hp
  obtain ⟨fa, fn, fc, rfl⟩ : ∃ fa fn fc, v = .slice fa fn fc := by obtain ⟨a, c, e, _⟩ := hl; exact ⟨a, _, c, e⟩
  clear hl hT hz
  go_enter Tryd.func7, Tryd.ntmps7
  go_wp2_with (go_at_call 14; refine C.mono ?_; rintro e w1 ⟨rfl, b1⟩; clear C; replace b1 := Below.next b0 b1)
  exact bodyPost_ret (v := .tuple #[.slice none 0 0, .int .i64 r]) (by simp [results, Tryd.results7, go_sem]) rfl ⟨rfl, b1⟩
set_option maxRecDepth 100000 in
set_option maxHeartbeats 4000000 in
theorem Conic_good (P K : Nat) (l : List Int) (v : Value) (w : World) (hT : Fd.Tab w) (hl : Sl w v l) (hll : l.length ≤ maxLen) (hG : Fd.GoodF P K l) (h5 : P ^ K ≤ 5) :
    Calls Tryd.prog 7 #[.agg #[.int .i64 (P : Int), .int .i64 (K : Int), v]] w fun e w' => ∃ xa xn xc, e = .returned (.tuple #[.slice xa xn xc, .int .i64 0]) ∧ ORow w' w.heap.size (.slice xa xn xc) (cq (P ^ K)) ∧ Below w.heap.size w w' := by
  obtain ⟨_, _, _, p3⟩ := plane_five hG h5
  have b0 := balloc w (.cells #[.int .i64 (P : Int), .int .i64 (K : Int), v] 27)
  have hz0 : pfZ (P : Int) (K : Int) 0 = 0 := by
    unfold pfZ
    rw [if_neg (by simp), hG.ord, if_neg (by omega)]
  have C := checkField_any P K 0 l v _ (hT.below b0) (hl.below b0) hll hG.fault
  rw [hz0] at C
  have HF : Hid (∀ W, Below (w.alloc (.cells #[.int .i64 (P : Int), .int .i64 (K : Int), v] 27)).heap.size (w.alloc (.cells #[.int .i64 (P : Int), .int .i64 (K : Int), v] 27)) W → W.cell? ⟨w.heap.size, 0, none⟩ = some (.int .i64 (P : Int)) ∧ W.cell? ⟨w.heap.size, 1, none⟩ = some (.int .i64 (K : Int)) ∧ W.cell? ⟨w.heap.size, 2, none⟩ = some v) := fBoxM _ _ _ w
  obtain ⟨x0, x1, x2⟩ := HF.out _ (Below.refl _ _)
  have HMD : Hid (∀ W, Below w.heap.size w W → Calls Tryd.prog 15 #[.agg #[.int .i64 (P : Int), .int .i64 (K : Int), v]] W fun e w' => ∃ xa xn xc, e = .returned (.slice xa xn xc) ∧ Hid (ORow w' W.heap.size (.slice xa xn xc) (cq (P ^ K))) ∧ Below W.heap.size W w') := fun W hW => by
    have h := conic_any P K l v W (hT.below hW) (hl.below hW) hll hG h5
    rw [p3] at h
    exact h
  obtain ⟨BB, HBB⟩ : ∃ BB, Hid (cq (P ^ K) = BB) := ⟨_, rfl⟩
  rw [HBB.out] at HMD ⊢
  obtain ⟨fa, fn, fc, rfl⟩ : ∃ fa fn fc, v = .slice fa fn fc := by obtain ⟨a, c, e, _⟩ := hl; exact ⟨a, _, c, e⟩
  clear hl hT hG p3 h5
  go_enter Tryd.func7, Tryd.ntmps7
  go_wp2_with (first
    | (go_at_call 14; refine C.mono ?_; rintro e w1 ⟨rfl, b1⟩; clear C; obtain ⟨y0, y1, y2⟩ := HF.out _ b1; replace b1 := Below.next b0 b1; have CM := HMD.out _ b1)
    | (go_at_call 15; refine CM.mono ?_; rintro e w2 ⟨xa, xn, xc, rfl, HO, b2⟩; clear CM; have HS : Hid (w.heap.size ≤ w1.heap.size) := b1.size; replace b2 := Below.next b1 b2))
  have hs := HS.out
  exact bodyPost_ret (v := .tuple #[.slice xa xn xc, .int .i64 0]) (by simp [results, Tryd.results7, go_sem]) rfl ⟨xa, xn, xc, rfl, ⟨HO.out.1, HO.out.2.imp id fun ⟨g', c', cur, e, hb, r⟩ => ⟨g', c', cur, e, Nat.le_trans hs hb, r⟩⟩, b2⟩

end Go.Proofs.YtgpkhfpejopacabDoor
