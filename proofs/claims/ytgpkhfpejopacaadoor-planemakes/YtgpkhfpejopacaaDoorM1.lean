/- The walks of the field's Check, fieldOrder, checkField and lead. -/
import Derived.Test.YtgpkhfpejopacaaDoorWG
import Derived.Test.YtgpkhfpejopacaaDoorPA6
namespace Go.Proofs.YtgpkhfpejopacaaDoor.Fd
open Go.RowKit

theorem open_nil {p k : Int} {l : List Int} {z : Int} (h : OpenIs p k l [] z) : FaultIs p k l z := by
  rcases h with ⟨_, h⟩ | ⟨_, h, _⟩ | ⟨h, _, rfl⟩
  · exact h
  · exact absurd (fun j hj => by simp at hj) h
  · exact h
set_option maxRecDepth 100000 in
set_option maxHeartbeats 1000000 in
theorem FCheck_any (p k : Int) (l : List Int) (v : Value) (w : World) (hT : Tab w) (hl : Sl w v l) (hll : l.length ≤ maxLen) :
    Calls Tryd.prog 55 #[.agg #[.int .i64 p, .int .i64 k, v]] w fun e w' => ∃ z : Int, e = .returned (.int .i64 z) ∧ FaultIs p k l z ∧ Below w.heap.size w w' := by
  obtain ⟨A, ca, rfl, _⟩ := id hl
  have hbx : Below w.heap.size w (w.alloc (.cells #[.int .i64 p, .int .i64 k, .slice A l.length ca] 24)) := (Below.refl _ _).alloc (Nat.le_refl _) _
  go_enter Tryd.func55, Tryd.ntmps55
  go_wp2_with fail
  refine (open_any p k l [] _ _ _ (hT.below hbx) (hl.below hbx) (Sl.nil _) hll (by simp)).mono ?_
  rintro e w1 ⟨z, x, y, c, f, rfl, hO, HZ, hb1⟩
  have hB1 : Below w.heap.size w w1 := hbx.trans (hb1.mono hbx.size)
  have HO : Hid (FaultIs p k l z) := open_nil hO
  have hnew : RB (w1.alloc (.cells #[.int .i64 0, .int .i64 0, .int .i64 0, .int .i64 0, .int .i64 0, .int .i64 0, .int .i64 0, .int .i64 0, .int .i64 0, .int .i64 0, .int .i64 0, .int .i64 0, .int .i64 0, .int .i64 0] 104)) w1.heap.size 0 0 0 (fun _ => 0) := RB.made w1 0 0 0 (fun _ => 0)
  have hBA : Below w.heap.size w ((w1.alloc (.cells #[.int .i64 0, .int .i64 0, .int .i64 0, .int .i64 0, .int .i64 0, .int .i64 0, .int .i64 0, .int .i64 0, .int .i64 0, .int .i64 0, .int .i64 0, .int .i64 0, .int .i64 0, .int .i64 0] 104)).setRow w1.heap.size (ringRow x y c f)) := bsetRow (hB1.alloc hB1.size _) hB1.size _
  clear hO HZ
  go_wp2_with (first
    | (refine wpList_store_row rfl 104 _ _ rfl w1.heap.size _ rfl rfl 104 _ hnew (inf53 _ _ _ _) rfl (ringRow_one _ _ _ _) ?_))
  go_ret
  exact ⟨z, rfl, HO.out, hBA⟩
end Go.Proofs.YtgpkhfpejopacaaDoor.Fd
namespace Go.Proofs.YtgpkhfpejopacaaDoor
open Go.RowKit

theorem fBoxM (a b c : Value) (w : World) : ∀ W, Below (w.alloc (.cells #[a, b, c] 24)).heap.size (w.alloc (.cells #[a, b, c] 24)) W → W.cell? ⟨w.heap.size, 0, none⟩ = some a ∧ W.cell? ⟨w.heap.size, 1, none⟩ = some b ∧ W.cell? ⟨w.heap.size, 2, none⟩ = some c := fun W hW => by
  have h := (hW.block w.heap.size (by simp)).trans (heap_alloc_new w _)
  exact ⟨by rw [cell_of_row W _ 0 _ _ _ h]; rfl, by rw [cell_of_row W _ 1 _ _ _ h]; rfl, by rw [cell_of_row W _ 2 _ _ _ h]; rfl⟩
set_option maxRecDepth 100000 in
set_option maxHeartbeats 4000000 in
theorem fieldOrder_any (P K : Nat) (v : Value) (w : World) (hP : 2 ≤ P) (h64 : P ^ K ≤ 64) (hK : K ≤ 6) (hP61 : P ≤ 61) (hv : ∃ a n c, v = .slice a n c) :
    Calls Tryd.prog 56 #[.agg #[.int .i64 (P : Int), .int .i64 (K : Int), v]] w fun e w' => e = .returned (.int .i64 ((P ^ K : Nat) : Int)) ∧ Below w.heap.size w w' := by
  obtain ⟨a, n, c, rfl⟩ := hv
  have HPW : Hid (∀ i, i ≤ K → P ^ i ≤ 64) := fun i hi => Nat.le_trans (Nat.pow_le_pow_right (by omega) hi) h64
  have HP0 : Hid (P ^ 0 = 1) := Nat.pow_zero P
  have HPS : Hid (∀ i, P ^ (i + 1) = P ^ i * P) := fun i => Nat.pow_succ P i
  obtain ⟨f, Hf⟩ : ∃ f : Nat → Nat, Hid (∀ i, P ^ i = f i) := ⟨fun i => P ^ i, fun i => rfl⟩
  simp only [Hf.out] at HPW HP0 HPS ⊢
  have HF := fBoxM (.int .i64 (P : Int)) (.int .i64 (K : Int)) (.slice a n c) w
  obtain ⟨x0, x1, x2⟩ := HF _ (Below.refl _ _)
  have b0 := balloc w (.cells #[.int .i64 (P : Int), .int .i64 (K : Int), .slice a n c] 24)
  clear h64 HF
  obtain ⟨w0, Hw0⟩ : ∃ w0, Hid (w0 = w.alloc (.cells #[.int .i64 (P : Int), .int .i64 (K : Int), .slice a n c] 24)) := ⟨_, rfl⟩
  rw [← Hw0.out] at b0
  go_enter Tryd.func56, Tryd.ntmps56
  go_wp2
  go_loopw [3, 6] (fun qv iv wr => ∃ (i q : Nat), iv = .int .i64 (i : Int) ∧ i ≤ K ∧ qv = .int .i64 (q : Int) ∧ Hid (f i = q) ∧ wr = w0) (fun _ iv _ => (K - intOf iv).toNat)
  case atStart => exact ⟨0, 1, rfl, by omega, rfl, HP0, Hw0.out.symm⟩
  case round =>
    obtain ⟨i, q, rfl, hi, rfl, Hq, rfl⟩ := hrel
    rw [← Hw0.out] at x0 x1 x2
    by_cases hlt : i < K
    · have hdi : decide ((i : Int) < (K : Int)) = true := by simp; omega
      have hii : (i : Int) < (K : Int) := by omega
      have hq64 : q ≤ 64 := by rw [← Hq.out]; exact HPW.out i (by omega)
      obtain ⟨r, Hr⟩ : ∃ r, Hid (q * P = r) := ⟨_, rfl⟩
      have hr64 : r ≤ 64 := by
        have h := HPW.out (i + 1) (by omega)
        rw [HPS.out, Hq.out, Hr.out] at h
        exact h
      have hm : (q : Int) * (P : Int) = (r : Int) := by rw [← Hr.out]; simp
      have Hq2 : Hid (f (i + 1) = r) := (show f (i + 1) = r by rw [HPS.out, Hq.out, Hr.out])
      clear Hq
      go_wp2
      go_roundw
      case rel => exact ⟨i + 1, r, by go_num, by omega, by go_num, Hq2, by first | rfl | trivial⟩
      case measure => simp [intOf]; omega
    · have hdi : decide ((i : Int) < (K : Int)) = false := by simp; omega
      obtain rfl : i = K := by omega
      go_wp2
      go_ret
      exact ⟨by rw [Hq.out]; rfl, b0⟩
/-- What is wrong with a field whose plane is asked for. -/
def pfZ (p k z : Int) : Int := if z ≠ 0 then z else if 5 < Fd.ordZ p k then 3 else 0
set_option maxRecDepth 100000 in
set_option maxHeartbeats 4000000 in
theorem checkField_any (p k z : Int) (l : List Int) (v : Value) (w : World) (hT : Fd.Tab w) (hl : Sl w v l) (hll : l.length ≤ maxLen) (hz : Fd.FaultIs p k l z) :
    Calls Tryd.prog 31 #[.agg #[.int .i64 p, .int .i64 k, v]] w fun e w' => e = .returned (.int .i64 (pfZ p k z)) ∧ Below w.heap.size w w' := by
  have b0 := balloc w (.cells #[.int .i64 p, .int .i64 k, v] 24)
  have C : Calls Tryd.prog 55 #[.agg #[.int .i64 p, .int .i64 k, v]] (w.alloc (.cells #[.int .i64 p, .int .i64 k, v] 24)) fun e w' => e = .returned (.int .i64 z) ∧ Below (w.alloc (.cells #[.int .i64 p, .int .i64 k, v] 24)).heap.size (w.alloc (.cells #[.int .i64 p, .int .i64 k, v] 24)) w' := by
    refine (Fd.FCheck_any p k l v _ (hT.below b0) (hl.below b0) hll).mono ?_
    rintro e w' ⟨z', rfl, h, b⟩
    rw [h.one hz]
    exact ⟨rfl, b⟩
  have HF : Hid (∀ W, Below (w.alloc (.cells #[.int .i64 p, .int .i64 k, v] 24)).heap.size (w.alloc (.cells #[.int .i64 p, .int .i64 k, v] 24)) W → W.cell? ⟨w.heap.size, 0, none⟩ = some (.int .i64 p) ∧ W.cell? ⟨w.heap.size, 1, none⟩ = some (.int .i64 k) ∧ W.cell? ⟨w.heap.size, 2, none⟩ = some v) := fBoxM _ _ _ w
  obtain ⟨x0, x1, x2⟩ := HF.out _ (Below.refl _ _)
  have hform : ∃ a n c, v = .slice a n c := by obtain ⟨a, c, e, _⟩ := hl; exact ⟨a, _, c, e⟩
  by_cases h0 : z = 0
  · subst h0
    obtain ⟨P, K, rfl, rfl, hG⟩ := Fd.good_of hz
    have hr : pfZ (P : Int) (K : Int) 0 = if 5 < P ^ K then 3 else 0 := by
      unfold pfZ
      rw [if_neg (by simp), hG.ord]
      by_cases h : 5 < P ^ K
      · rw [if_pos h, if_pos (by omega)]
      · rw [if_neg h, if_neg (by omega)]
    rw [hr]
    have HO : Hid (∀ W : World, Calls Tryd.prog 56 #[.agg #[.int .i64 (P : Int), .int .i64 (K : Int), v]] W fun e w' => e = .returned (.int .i64 ((P ^ K : Nat) : Int)) ∧ Below W.heap.size W w') := fun W => fieldOrder_any P K v W hG.field.two hG.le64 hG.le6 hG.le61 hform
    obtain ⟨q, Hq⟩ : ∃ q, Hid (P ^ K = q) := ⟨_, rfl⟩
    rw [Hq.out] at HO ⊢
    obtain ⟨a, n, c, rfl⟩ := hform
    clear hG hz hr hl
    by_cases h5 : 5 < q
    · rw [if_pos h5]
      have hd : decide (5 < (q : Int)) = true := by simp; omega
      have hd' : decide (5 < q) = true := by simpa using h5
      go_enter Tryd.func31, Tryd.ntmps31
      go_wp2_with (first
        | (go_at_call 55; refine C.mono ?_; rintro e w1 ⟨rfl, b1⟩; clear C; obtain ⟨y0, y1, y2⟩ := HF.out _ b1; replace b1 := Below.next b0 b1)
        | (go_at_call 56; refine (HO.out _).mono ?_; rintro e w2 ⟨rfl, b2⟩; clear HO; replace b2 := Below.next b1 b2))
      go_ret
      exact ⟨rfl, b2⟩
    · rw [if_neg h5]
      have hd : decide (5 < (q : Int)) = false := by simp; omega
      have hd' : decide (5 < q) = false := by simpa using h5
      go_enter Tryd.func31, Tryd.ntmps31
      go_wp2_with (first
        | (go_at_call 55; refine C.mono ?_; rintro e w1 ⟨rfl, b1⟩; clear C; obtain ⟨y0, y1, y2⟩ := HF.out _ b1; replace b1 := Below.next b0 b1)
        | (go_at_call 56; refine (HO.out _).mono ?_; rintro e w2 ⟨rfl, b2⟩; clear HO; replace b2 := Below.next b1 b2))
      go_ret
      exact ⟨rfl, b2⟩
  · have hr : pfZ p k z = z := by unfold pfZ; rw [if_pos h0]
    rw [hr]
    have hz1 : (z != 0) = true := by simpa using h0
    obtain ⟨a, n, c, rfl⟩ := hform
    clear hl hz
    go_enter Tryd.func31, Tryd.ntmps31
    go_wp2_with (go_at_call 55; refine C.mono ?_; rintro e w1 ⟨rfl, b1⟩; clear C; replace b1 := Below.next b0 b1)
    go_ret
    exact ⟨rfl, b1⟩
theorem ix3_0 (a b c : Value) (w : World) : (Instr.index 80 (.agg #[a, b, c]) (.int .i64 0)).run Tryd.prog w = .ok a w := by kernel_rfl
theorem ix3_1 (a b c : Value) (w : World) : (Instr.index 80 (.agg #[a, b, c]) (.int .i64 1)).run Tryd.prog w = .ok b w := by kernel_rfl
theorem ix3_2 (a b c : Value) (w : World) : (Instr.index 80 (.agg #[a, b, c]) (.int .i64 2)).run Tryd.prog w = .ok c w := by kernel_rfl
set_option maxRecDepth 100000 in
set_option maxHeartbeats 4000000 in
theorem lead_any (x y z : Nat) (w : World) :
    Calls Tryd.prog 82 #[.agg #[.int .i64 (x : Int), .int .i64 (y : Int), .int .i64 (z : Int)]] w fun e w' => e = .returned (.int .i64 ((fst3 x y z : Nat) : Int)) ∧ Below w.heap.size w w' := by
  have b0 := balloc w (.cells #[.int .i64 (x : Int), .int .i64 (y : Int), .int .i64 (z : Int)] 80)
  obtain ⟨w0, Hw0⟩ : ∃ w0, Hid (w0 = w.alloc (.cells #[.int .i64 (x : Int), .int .i64 (y : Int), .int .i64 (z : Int)] 80)) := ⟨_, rfl⟩
  rw [← Hw0.out] at b0
  have HY0 : Hid (x ≠ 0 → fst3 x y z = x) := fun h => by unfold fst3; rw [if_pos h]
  have HY1 : Hid (x = 0 → y ≠ 0 → fst3 x y z = y) := fun h h' => by unfold fst3; rw [if_neg (by omega), if_pos h']
  have HY2 : Hid (x = 0 → y = 0 → fst3 x y z = z) := fun h h' => by unfold fst3; rw [if_neg (by omega), if_neg (by omega)]
  have j0 := ix3_0
  have j1 := ix3_1
  have j2 := ix3_2
  obtain ⟨r, Hr⟩ : ∃ r, Hid (fst3 x y z = r) := ⟨_, rfl⟩
  rw [Hr.out] at HY0 HY1 HY2 ⊢
  go_enter Tryd.func82, Tryd.ntmps82
  go_wp2
  go_loopw [6] (fun iv wr => ∃ i : Nat, iv = .int .i64 (i : Int) ∧ (i = 0 ∨ (i = 1 ∧ x = 0) ∨ (i = 2 ∧ x = 0 ∧ y = 0) ∨ (i = 3 ∧ x = 0 ∧ y = 0 ∧ z = 0)) ∧ wr = w0) (fun iv _ => (3 - intOf iv).toNat)
  case atStart => exact ⟨0, rfl, .inl rfl, Hw0.out.symm⟩
  case round =>
    obtain ⟨i, rfl, hi, rfl⟩ := hrel
    rcases hi with rfl | ⟨rfl, rfl⟩ | ⟨rfl, rfl, rfl⟩ | ⟨rfl, rfl, rfl, rfl⟩
    · by_cases hx : x = 0
      · subst hx
        go_wp2
        go_roundw
        case rel => exact ⟨1, by first | rfl | go_num, .inr (.inl (by simp)), by first | rfl | trivial⟩
        case measure => simp [intOf]
      · have e := (HY0.out hx).symm
        subst e
        have hx1 : ((x : Int) != 0) = true := by simpa using hx
        have hx2 : ¬ (x : Int) = 0 := by omega
        go_wp2
        go_ret
        exact ⟨rfl, b0⟩
    · by_cases hx : y = 0
      · subst hx
        go_wp2
        go_roundw
        case rel => exact ⟨2, by first | rfl | go_num, .inr (.inr (.inl (by simp))), by first | rfl | trivial⟩
        case measure => simp [intOf]
      · have e := (HY1.out rfl hx).symm
        subst e
        have hx1 : ((y : Int) != 0) = true := by simpa using hx
        have hx2 : ¬ (y : Int) = 0 := by omega
        go_wp2
        go_ret
        exact ⟨rfl, b0⟩
    · by_cases hx : z = 0
      · subst hx
        go_wp2
        go_roundw
        case rel => exact ⟨3, by first | rfl | go_num, .inr (.inr (.inr (by simp))), by first | rfl | trivial⟩
        case measure => simp [intOf]
      · have e := (HY2.out rfl rfl).symm
        subst e
        have hx1 : ((z : Int) != 0) = true := by simpa using hx
        have hx2 : ¬ (z : Int) = 0 := by omega
        go_wp2
        go_ret
        exact ⟨rfl, b0⟩
    · have e := (HY2.out rfl rfl).symm
      subst e
      go_wp2
      go_ret
      exact ⟨rfl, b0⟩

end Go.Proofs.YtgpkhfpejopacaaDoor
