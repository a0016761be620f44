/- The law LatinPairs, walked. -/
import Derived.Test.YtagpbkcnjogbgaaL8
namespace Go.Proofs.Ytagpbkcnjogbgaa
open Go.RowKit

/-- Two squares in two boxes, as they are read later. -/
theorem two_box (s t : Int) (u v : Value) (w : World) : ∀ W, Below (w.heap.size + 1 + 1) ((w.alloc (.cells #[.int .i64 s, u] 24)).alloc (.cells #[.int .i64 t, v] 24)) W →
    W.cell? ⟨w.heap.size, 0, none⟩ = some (.int .i64 s) ∧ W.cell? ⟨w.heap.size, 1, none⟩ = some u ∧ W.cell? ⟨w.heap.size + 1, 0, none⟩ = some (.int .i64 t) ∧ W.cell? ⟨w.heap.size + 1, 1, none⟩ = some v := fun W b => by
  have h1 : ((w.alloc (.cells #[.int .i64 s, u] 24)).alloc (.cells #[.int .i64 t, v] 24)).heap[w.heap.size]? = some (.cells #[.int .i64 s, u] 24 (0, 0)) := (Below.heap_alloc _ _ _ (by simp)).trans (heap_alloc_new w _)
  have h2 : ((w.alloc (.cells #[.int .i64 s, u] 24)).alloc (.cells #[.int .i64 t, v] 24)).heap[w.heap.size + 1]? = some (.cells #[.int .i64 t, v] 24 (0, 0)) := by
    have := heap_alloc_new (w.alloc (.cells #[.int .i64 s, u] 24)) (.cells #[.int .i64 t, v] 24)
    simpa using this
  have k1 := (b.block w.heap.size (by omega)).trans h1
  have k2 := (b.block (w.heap.size + 1) (by omega)).trans h2
  refine ⟨?_, ?_, ?_, ?_⟩
  · rw [cell_of_row _ _ _ _ _ _ k1]; rfl
  · rw [cell_of_row _ _ _ _ _ _ k1]; rfl
  · rw [cell_of_row _ _ _ _ _ _ k2]; rfl
  · rw [cell_of_row _ _ _ _ _ _ k2]; rfl
theorem int_beq_self (z : Nat) : ((z : Int) == (z : Int)) = true := by simp

set_option maxRecDepth 100000 in
set_option maxHeartbeats 8000000 in
theorem LatinPairs_law (s t : Int) (L M : List Int) (u v : Value) (w : World) (hu : Sl w u L) (hv : Sl w v M) (hL : L.length ≤ maxLen) (hM : M.length ≤ maxLen) :
    Calls Try.prog 3 #[.agg #[.int .i64 s, u], .agg #[.int .i64 t, v]] w fun e w' => e = .returned (.bool true) ∧ Below w.heap.size w w' := by
  obtain ⟨b, hb⟩ : ∃ b : Bool, b = true ↔ (oF s t L M = 0 ∧ Orth s.toNat (sq s.toNat L) (sq s.toNat M)) := by
    by_cases h : oF s t L M = 0 ∧ Orth s.toNat (sq s.toNat L) (sq s.toNat M)
    · exact ⟨true, fun _ => h, fun _ => rfl⟩
    · exact ⟨false, fun e => (by cases e), fun e => (h e).elim⟩
  have C1 := fun W (bW : Below w.heap.size w W) => LatinFault_any s L u W (hu.below bW) hL
  have C2 := fun W (bW : Below w.heap.size w W) => LatinFault_any t M v W (hv.below bW) hM
  have C3 := fun W (bW : Below w.heap.size w W) => Orthogonal_any s t L M u v W b (hu.below bW) (hv.below bW) hL hM (fun h => ⟨fun e => (hb.1 e).2, fun e => hb.2 ⟨h, e⟩⟩) (fun h => by
    cases b with
    | false => rfl
    | true => exact (h (hb.1 rfl).1).elim)
  have b0 := Below.next (balloc w (.cells #[.int .i64 s, u] 24)) (balloc (w.alloc (.cells #[.int .i64 s, u] 24)) (.cells #[.int .i64 t, v] 24))
  have SS : Hid (∀ W, Below (w.heap.size + 1 + 1) ((w.alloc (.cells #[.int .i64 s, u] 24)).alloc (.cells #[.int .i64 t, v] 24)) W → W.cell? ⟨w.heap.size, 0, none⟩ = some (.int .i64 s) ∧ W.cell? ⟨w.heap.size, 1, none⟩ = some u ∧ W.cell? ⟨w.heap.size + 1, 0, none⟩ = some (.int .i64 t) ∧ W.cell? ⟨w.heap.size + 1, 1, none⟩ = some v) := two_box s t u v w
  obtain ⟨w2, Hw2⟩ : ∃ w2, Hid (w2 = (w.alloc (.cells #[.int .i64 s, u] 24)).alloc (.cells #[.int .i64 t, v] 24)) := ⟨_, rfl⟩
  have hsz : Hid (w2.heap.size = w.heap.size + 1 + 1) := by show _ = _; rw [Hw2.out]; simp
  rw [← Hw2.out] at SS b0
  have SS2 : Hid (∀ W, Below w2.heap.size w2 W → W.cell? ⟨w.heap.size, 0, none⟩ = some (.int .i64 s) ∧ W.cell? ⟨w.heap.size, 1, none⟩ = some u ∧ W.cell? ⟨w.heap.size + 1, 0, none⟩ = some (.int .i64 t) ∧ W.cell? ⟨w.heap.size + 1, 1, none⟩ = some v) := fun W bW => SS.out W (by rw [← hsz.out]; exact bW)
  have HU : Hid (Sl w u L) := hu
  have HV : Hid (Sl w v M) := hv
  have HB : Hid (b = true ↔ (oF s t L M = 0 ∧ Orth s.toNat (sq s.toNat L) (sq s.toNat M))) := hb
  clear SS hu hv hb hsz
  by_cases h1 : lF s L = 0
  · by_cases h2 : lF t M = 0
    · by_cases he : s = t
      · subst he
        have ho : oF s s L M = 0 := by unfold oF; rw [if_neg (by omega), if_neg (by omega), if_neg (by simp)]
        obtain ⟨n, rfl, G1⟩ := lF_ok h1
        obtain ⟨n', e', G2⟩ := lF_ok h2
        obtain rfl : n = n' := by omega
        have hnn : ((n : Int)).toNat = n := by omega
        have hb := HB.out
        rw [hnn, ho] at hb
        have C4 := fun W (bW : Below w.heap.size w W) => OrthogonalOf_any n L M u v W b (HU.out.below bW) (HV.out.below bW) G1 G2 ⟨fun e => (hb.1 e).2, fun e => hb.2 ⟨rfl, e⟩⟩
        rw [ho] at C3
        rw [h1] at C1
        rw [h2] at C2
        have hne : ((n : Int) != (n : Int)) = false := by simp
        have hbb : (b == b) = true := by simp
        clear hb HB G1 G2 ho h1 h2 e' hnn HU HV
        go_enter Try.func3, Try.ntmps3
        go_wp2_with (first
          | (go_at_call 7; rw [← Hw2.out]; refine (C1 _ b0).mono ?_; rintro e w3 ⟨rfl, b3⟩; obtain ⟨x0, x1, y0, y1⟩ := SS2.out _ b3; clear C1; have d3 := Below.next b0 b3)
          | (go_at_call 7; refine (C2 _ d3).mono ?_; rintro e w4 ⟨rfl, b4⟩; have b4' := Below.next b3 b4; obtain ⟨p0, p1, q0, q1⟩ := SS2.out _ b4'; clear C2; have d4 := Below.next d3 b4)
          | (go_at_call 8; refine (C3 _ d4).mono ?_; rintro e w5 ⟨rfl, b5⟩; have b5' := Below.next b4' b5; obtain ⟨r0, r1, t0, t1⟩ := SS2.out _ b5'; clear C3; have d5 := Below.next d4 b5)
          | (go_at_call 9; refine (C4 _ d5).mono ?_; rintro e w6 ⟨rfl, b6⟩; clear C4; have d6 := Below.next d5 b6))
        go_ret
        exact ⟨rfl, d6⟩
      · have ho : oF s t L M = 2 := by unfold oF; rw [if_neg (by omega), if_neg (by omega), if_pos he]
        have hbf : b = false := by
          cases b with
          | false => rfl
          | true => have := (HB.out.1 rfl).1; omega
        subst hbf
        have hne : (s != t) = true := by simp [he]
        rw [ho] at C3
        rw [h1] at C1
        rw [h2] at C2
        clear HB ho h1 h2 HU HV he
        go_enter Try.func3, Try.ntmps3
        go_wp2_with (first
          | (go_at_call 7; rw [← Hw2.out]; refine (C1 _ b0).mono ?_; rintro e w3 ⟨rfl, b3⟩; obtain ⟨x0, x1, y0, y1⟩ := SS2.out _ b3; clear C1; have d3 := Below.next b0 b3)
          | (go_at_call 7; refine (C2 _ d3).mono ?_; rintro e w4 ⟨rfl, b4⟩; have b4' := Below.next b3 b4; obtain ⟨p0, p1, q0, q1⟩ := SS2.out _ b4'; clear C2; have d4 := Below.next d3 b4)
          | (go_at_call 8; refine (C3 _ d4).mono ?_; rintro e w5 ⟨rfl, b5⟩; have b5' := Below.next b4' b5; obtain ⟨r0, r1, t0, t1⟩ := SS2.out _ b5'; clear C3; have d5 := Below.next d4 b5))
        go_ret
        exact ⟨rfl, d5⟩
    · have ho : oF s t L M = lF t M := by unfold oF; rw [if_neg (by omega), if_pos h2]
      have hbf : b = false := by
        cases b with
        | false => rfl
        | true => have := (HB.out.1 rfl).1; omega
      subst hbf
      rw [ho] at C3
      rw [h1] at C1
      have hz : ((lF t M : Int) == 0) = false := by simp; omega
      have hz2 : ((lF t M : Int) != 0) = true := by simp; omega
      have hz3 := int_beq_self (lF t M)
      generalize lF t M = z at *
      clear HB ho h1 h2 HU HV
      go_enter Try.func3, Try.ntmps3
      go_wp2_with (first
        | (go_at_call 7; rw [← Hw2.out]; refine (C1 _ b0).mono ?_; rintro e w3 ⟨rfl, b3⟩; obtain ⟨x0, x1, y0, y1⟩ := SS2.out _ b3; clear C1; have d3 := Below.next b0 b3)
        | (go_at_call 7; refine (C2 _ d3).mono ?_; rintro e w4 ⟨rfl, b4⟩; have b4' := Below.next b3 b4; obtain ⟨p0, p1, q0, q1⟩ := SS2.out _ b4'; clear C2; have d4 := Below.next d3 b4)
        | (go_at_call 8; refine (C3 _ d4).mono ?_; rintro e w5 ⟨rfl, b5⟩; have b5' := Below.next b4' b5; obtain ⟨r0, r1, t0, t1⟩ := SS2.out _ b5'; clear C3; have d5 := Below.next d4 b5))
      go_ret
      exact ⟨rfl, d5⟩
  · have ho : oF s t L M = lF s L := by unfold oF; rw [if_pos h1]
    have hbf : b = false := by
      cases b with
      | false => rfl
      | true => have := (HB.out.1 rfl).1; omega
    subst hbf
    rw [ho] at C3
    have hz : ((lF s L : Int) == 0) = false := by simp; omega
    have hz2 : ((lF s L : Int) != 0) = true := by simp; omega
    have hz3 := int_beq_self (lF s L)
    generalize lF s L = z at *
    clear HB ho h1 HU HV
    go_enter Try.func3, Try.ntmps3
    go_wp2_with (first
      | (go_at_call 7; rw [← Hw2.out]; refine (C1 _ b0).mono ?_; rintro e w3 ⟨rfl, b3⟩; obtain ⟨x0, x1, y0, y1⟩ := SS2.out _ b3; clear C1; have d3 := Below.next b0 b3)
      | (go_at_call 8; refine (C3 _ d3).mono ?_; rintro e w5 ⟨rfl, b5⟩; have b5' := Below.next b3 b5; obtain ⟨r0, r1, t0, t1⟩ := SS2.out _ b5'; clear C3; have d5 := Below.next d3 b5))
    go_ret
    exact ⟨rfl, d5⟩
end Go.Proofs.Ytagpbkcnjogbgaa
