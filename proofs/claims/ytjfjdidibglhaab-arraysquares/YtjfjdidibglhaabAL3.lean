/- The law ArraySquares. -/
import Derived.Test.YtjfjdidibglhaabSL
import Derived.Test.YtjfjdidibglhaabA10
namespace Go.Proofs.Ytjfjdidibglhaab
open Go.RowKit

/-- Two squares side by side in a block. -/
theorem two_sq {w : World} {n m : Int} {u v : Value} {L M : List Int} (hu : Sl w u L) (hv : Sl w v M) : SqL (w.alloc (.cells #[.int .i64 n, u, .int .i64 m, v] 24)) (.slice (some ⟨w.heap.size, 0, none⟩) 2 2) [(n, L), (m, M)] := by
  have hn := heap_alloc_new w (.cells #[.int .i64 n, u, .int .i64 m, v] 24)
  have b := balloc w (.cells #[.int .i64 n, u, .int .i64 m, v] 24)
  refine ⟨_, 2, rfl, fun i q hi => ⟨w.heap.size, 0, ?_⟩⟩
  have hil : i < 2 := (List.getElem?_eq_some_iff.1 hi).1
  rcases (show i = 0 ∨ i = 1 by omega) with rfl | rfl
  · obtain rfl : (n, L) = q := by simpa using hi
    exact ⟨u, rfl, by rw [cell_of_row _ _ _ _ _ _ hn]; rfl, by rw [cell_of_row _ _ _ _ _ _ hn]; rfl, hu.below b⟩
  · obtain rfl : (m, M) = q := by simpa using hi
    exact ⟨v, rfl, by rw [cell_of_row _ _ _ _ _ _ hn]; rfl, by rw [cell_of_row _ _ _ _ _ _ hn]; rfl, hv.below b⟩
theorem orF_good {s t : Int} {L M : List Int} (h : orF s t L M = 0) : ∃ n : Nat, s = n ∧ t = n ∧ GoodS n L ∧ GoodS n M := by
  unfold orF at h
  split at h
  · omega
  · rename_i h1
    split at h
    · omega
    · rename_i h2
      split at h
      · omega
      · rename_i h3
        obtain ⟨n, rfl, hL⟩ := lF_ok (s := s) (L := L) (by omega)
        obtain ⟨m, rfl, hM⟩ := lF_ok (s := t) (L := M) (by omega)
        have : m = n := by omega
        subst this
        exact ⟨m, rfl, rfl, hL, hM⟩
theorem boxes2 (s t : Int) (u v : Value) (w : World) : ∀ W, Below ((w.alloc (.cells #[.int .i64 s, u] 24)).alloc (.cells #[.int .i64 t, v] 24)).heap.size ((w.alloc (.cells #[.int .i64 s, u] 24)).alloc (.cells #[.int .i64 t, v] 24)) W →
    W.cell? ⟨w.heap.size, 0, none⟩ = some (.int .i64 s) ∧ W.cell? ⟨w.heap.size, 1, none⟩ = some u ∧ W.cell? ⟨w.heap.size + 1, 0, none⟩ = some (.int .i64 t) ∧ W.cell? ⟨w.heap.size + 1, 1, none⟩ = some v := fun W b => by
  have k1 : W.heap[w.heap.size]? = some (.cells #[.int .i64 s, u] 24 (0, 0)) := (b.block w.heap.size (by simp; omega)).trans ((Below.heap_alloc _ _ _ (by simp)).trans (heap_alloc_new w _))
  have k2 : W.heap[w.heap.size + 1]? = some (.cells #[.int .i64 t, v] 24 (0, 0)) := (b.block (w.heap.size + 1) (by simp)).trans (heap_alloc2_new w _ _)
  exact ⟨by rw [cell_of_row _ _ _ _ _ _ k1]; rfl, by rw [cell_of_row _ _ _ _ _ _ k1]; rfl, by rw [cell_of_row _ _ _ _ _ _ k2]; rfl, by rw [cell_of_row _ _ _ _ _ _ k2]; rfl⟩
set_option maxRecDepth 100000 in
set_option maxHeartbeats 8000000 in
theorem Squares_law (s t : Int) (L M : List Int) (u v : Value) (w : World) (hu : Sl w u L) (hv : Sl w v M) (hL : L.length ≤ maxLen) (hM : M.length ≤ maxLen) :
    Calls Try.prog 3 #[.agg #[.int .i64 s, u], .agg #[.int .i64 t, v]] w fun e w' => e = .returned (.bool true) ∧ Below w.heap.size w w' := by
  have hb2 : Below w.heap.size w ((w.alloc (.cells #[.int .i64 s, u] 24)).alloc (.cells #[.int .i64 t, v] 24)) := Below.next (balloc _ _) (balloc _ _)
  have hbx := boxes2 s t u v w
  have CF := arrayFact_any ((w.alloc (.cells #[.int .i64 s, u] 24)).alloc (.cells #[.int .i64 t, v] 24))
  obtain ⟨W0, HW0⟩ : ∃ W0, Hid ((w.alloc (.cells #[.int .i64 s, u] 24)).alloc (.cells #[.int .i64 t, v] 24) = W0) := ⟨_, rfl⟩
  rw [HW0.out] at hb2 hbx CF
  have HBX : Hid (∀ W, Below W0.heap.size W0 W → W.cell? ⟨w.heap.size, 0, none⟩ = some (.int .i64 s) ∧ W.cell? ⟨w.heap.size, 1, none⟩ = some u ∧ W.cell? ⟨w.heap.size + 1, 0, none⟩ = some (.int .i64 t) ∧ W.cell? ⟨w.heap.size + 1, 1, none⟩ = some v) := hbx
  obtain ⟨b, hb⟩ : ∃ b : Bool, (orF s t L M = 0 → (b = true ↔ Orth s.toNat (sq s.toNat L) (sq s.toNat M))) ∧ (orF s t L M ≠ 0 → b = false) := by
    by_cases h0 : orF s t L M = 0
    · by_cases ho : Orth s.toNat (sq s.toNat L) (sq s.toNat M)
      · exact ⟨true, fun _ => ⟨fun _ => ho, fun _ => rfl⟩, fun h => absurd h0 h⟩
      · exact ⟨false, fun _ => ⟨fun h => (by cases h), fun h => absurd h ho⟩, fun _ => rfl⟩
    · exact ⟨false, fun h => absurd h h0, fun _ => rfl⟩
  have H5 : Hid (∀ W, Below w.heap.size w W → Calls Try.prog 5 #[.agg #[.int .i64 s, u], .agg #[.int .i64 t, v]] W fun e w' => e = .returned (.tuple #[.bool b, .int .i64 (orF s t L M : Int)]) ∧ Below W.heap.size W w') := fun W bW => Orthogonal_any s t L M u v W b (hu.below bW) (hv.below bW) hL hM hb.1 hb.2
  by_cases h0 : orF s t L M = 0
  · obtain ⟨n, rfl, rfl, gL, gM⟩ := orF_good h0
    rw [h0] at H5
    have hbo := hb.1 h0
    rw [Int.toNat_natCast] at hbo
    have hn8 := gL.le
    have hn1 := gL.pos
    by_cases h2 : n < 2
    · have d2 : decide ((n : Int) < 2) = true := by simp; omega
      have d2n : decide (n < 2) = true := by simp; omega
      obtain ⟨ua, ul, uc, rfl⟩ : ∃ a l c, u = .slice a l c := by obtain ⟨a, c, e, _⟩ := hu; exact ⟨a, _, c, e⟩
      obtain ⟨va, vl, vc, rfl⟩ : ∃ a l c, v = .slice a l c := by obtain ⟨a, c, e, _⟩ := hv; exact ⟨a, _, c, e⟩
      clear hbo hb gL gM hu hv hbx h0
      go_enter Try.func3, Try.ntmps3
      go_wp2_with (first
        | (go_at_call 4; rw [HW0.out]; refine CF.mono ?_; rintro e1 w1 ⟨rfl, b1⟩; obtain ⟨x0, x1, x2, x3⟩ := HBX.out _ b1; have b2 := Below.next hb2 b1; clear CF)
        | (go_at_call 5; refine (H5.out _ b2).mono ?_; rintro e2 w2 ⟨rfl, b3⟩; obtain ⟨y0, y1, y2, y3⟩ := HBX.out _ (Below.next b1 b3); clear H5))
      go_ret
      exact ⟨rfl, Below.next b2 b3⟩
    · have d2 : decide ((n : Int) < 2) = false := by simp; omega
      have d2n : decide (n < 2) = false := by simp; omega
      have gA := rows_good gL gM (by omega) hn8
      have gQ : GoodQ n (lmQ n L M) := ⟨by show 1 ≤ 2; omega, by show 2 ≤ 6; omega, fun q hq => by
        unfold lmQ at hq
        rcases List.mem_cons.1 hq with rfl | hq
        · exact ⟨rfl, gL⟩
        · obtain rfl : q = ((n : Int), M) := by simpa using hq
          exact ⟨rfl, gM⟩⟩
      have H6 : Hid (∀ W, Below w.heap.size w W → Calls Try.prog 6 #[.slice (some ⟨W.heap.size, 0, none⟩) 2 2] (W.alloc (.cells #[.int .i64 (n : Int), u, .int .i64 (n : Int), v] 24)) fun e w' => OzQ (W.alloc (.cells #[.int .i64 (n : Int), u, .int .i64 (n : Int), v] 24)) (rwQ n (lmQ n L M)) e w' ∧ Below W.heap.size W w') := fun W bW =>
        (Squares_ok n (lmQ n L M) _ _ (two_sq (hu.below bW) (hv.below bW)) gQ hn1 hn8).mono (by
          rintro e w' ⟨h, bb⟩
          exact ⟨h, Below.next (balloc _ _) bb⟩)
      have H7 : Hid (∀ (W : World) (y : Value), Rw W y (rwQ n (lmQ n L M)) → Calls Try.prog 7 #[.int .i64 (n : Int), y] W fun e w' => SgR n 4 (rwQ n (lmQ n L M)) e ∧ Below W.heap.size W w') := fun W y hy => Strength_ok n 4 _ y W hy gA
      have HGE : Hid (∀ q, StrIs n 4 (rnA (rwQ n (lmQ n L M))) q → (2 ≤ q ↔ b = true)) := fun q hq => by
        rw [hbo, ← sq_str gL gM hn1]
        exact ⟨fun h => hq.is 2 h, fun h => hq.ge (by omega) gA.lvl (by omega) h⟩
      obtain ⟨LR, HLR⟩ : ∃ LR, Hid (rwQ n (lmQ n L M) = LR) := ⟨_, rfl⟩
      rw [HLR.out] at H6 H7 HGE
      obtain ⟨rl, Hrl⟩ : ∃ rl, Hid (LR.length = rl) := ⟨_, rfl⟩
      obtain ⟨ua, ul, uc, rfl⟩ : ∃ a l c, u = .slice a l c := by obtain ⟨a, c, e, _⟩ := hu; exact ⟨a, _, c, e⟩
      obtain ⟨va, vl, vc, rfl⟩ : ∃ a l c, v = .slice a l c := by obtain ⟨a, c, e, _⟩ := hv; exact ⟨a, _, c, e⟩
      clear hbo hb gL gM hu hv hbx h0 gA gQ
      go_enter Try.func3, Try.ntmps3
      go_wp2_with (first
        | (go_at_call 4; rw [HW0.out]; refine CF.mono ?_; rintro e1 w1 ⟨rfl, b1⟩; obtain ⟨x0, x1, x2, x3⟩ := HBX.out _ b1; have b2 := Below.next hb2 b1; clear CF)
        | (go_at_call 5; refine (H5.out _ b2).mono ?_; rintro e2 w2 ⟨rfl, b3⟩; have b4 := Below.next b1 b3; obtain ⟨y0, y1, y2, y3⟩ := HBX.out _ b4; clear H5; have b5 := Below.next hb2 b4)
        | (go_at_call 6; refine (H6.out _ b5).mono ?_; rintro e3 w3 ⟨⟨y, rfl, hy⟩, b6⟩; clear H6; have b7 := Below.next b4 b6; obtain ⟨z0, z1, z2, z3⟩ := HBX.out _ b7; have b8 := Below.next hb2 b7; have C7 := H7.out _ y hy.rw; obtain ⟨ya, yc, rfl⟩ := hy.form; rw [Hrl.out] at C7 ⊢; clear H7 hy))
      refine C7.mono ?_
      rintro e4 w4 ⟨⟨q, rfl, hQ⟩, b9⟩
      have hge := HGE.out q hQ
      clear C7 HGE hQ
      cases b with
      | true =>
        have hq : decide ((2 : Int) ≤ (q : Int)) = true := by have := hge.2 rfl; simp; omega
        have hqn : decide (2 ≤ q) = true := by have := hge.2 rfl; simp; omega
        clear hge
        go_wp2
        go_ret
        exact ⟨by simp [], Below.next b8 b9⟩
      | false =>
        have hq0 : ¬ 2 ≤ q := fun h => by have := hge.1 h; cases this
        have hq : decide ((2 : Int) ≤ (q : Int)) = false := by simp; omega
        have hqn : decide (2 ≤ q) = false := by simp; omega
        clear hge hq0
        go_wp2
        go_ret
        exact ⟨by simp [], Below.next b8 b9⟩
  · obtain ⟨z, Hz⟩ : ∃ z, Hid (orF s t L M = z) := ⟨_, rfl⟩
    have hbf := hb.2 h0
    subst hbf
    rw [Hz.out] at H5 h0
    have hne : ((z : Int) != 0) = true := by simp; omega
    obtain ⟨ua, ul, uc, rfl⟩ : ∃ a l c, u = .slice a l c := by obtain ⟨a, c, e, _⟩ := hu; exact ⟨a, _, c, e⟩
    obtain ⟨va, vl, vc, rfl⟩ : ∃ a l c, v = .slice a l c := by obtain ⟨a, c, e, _⟩ := hv; exact ⟨a, _, c, e⟩
    clear hb hu hv hbx h0
    go_enter Try.func3, Try.ntmps3
    go_wp2_with (first
      | (go_at_call 4; rw [HW0.out]; refine CF.mono ?_; rintro e1 w1 ⟨rfl, b1⟩; obtain ⟨x0, x1, x2, x3⟩ := HBX.out _ b1; have b2 := Below.next hb2 b1; clear CF)
      | (go_at_call 5; refine (H5.out _ b2).mono ?_; rintro e2 w2 ⟨rfl, b3⟩; obtain ⟨y0, y1, y2, y3⟩ := HBX.out _ (Below.next b1 b3); clear H5))
    go_ret
    exact ⟨rfl, Below.next b2 b3⟩
end Go.Proofs.Ytjfjdidibglhaab
