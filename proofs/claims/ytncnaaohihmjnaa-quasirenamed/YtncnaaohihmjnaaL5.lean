/- The walk of the document's LatinFault. -/
import Derived.Test.YtncnaaohihmjnaaL4
namespace Go.Proofs.Ytncnaaohihmjnaa
open Go.RowKit

set_option maxHeartbeats 4000000 in
theorem LatinFault_low (s : Int) (v : Value) (w : World) (h : s < 1) :
    Calls Try.prog 8 #[.agg #[.int .i64 s, v]] w fun e w' => e = .returned (.int .i64 1) ∧ Below w.heap.size w w' := by
  have hd : decide (s < 1) = true := decide_eq_true h
  go_enter Try.func8, Try.ntmps8
  go_wp2
  go_ret
  exact ⟨rfl, balloc w _⟩
set_option maxHeartbeats 4000000 in
theorem LatinFault_high (s : Int) (v : Value) (w : World) (h : 8 < s) :
    Calls Try.prog 8 #[.agg #[.int .i64 s, v]] w fun e w' => e = .returned (.int .i64 1) ∧ Below w.heap.size w w' := by
  have hd : decide (s < 1) = false := decide_eq_false (by omega)
  have hd2 : decide (8 < s) = true := decide_eq_true h
  go_enter Try.func8, Try.ntmps8
  go_wp2
  go_ret
  exact ⟨rfl, balloc w _⟩
set_option maxHeartbeats 4000000 in
theorem LatinFault_shape (n : Nat) (L : List Int) (v : Value) (w : World) (h1 : 1 ≤ n) (h8 : n ≤ 8) (hv : Sl w v L) (hl : L.length ≠ n * n) :
    Calls Try.prog 8 #[.agg #[.int .i64 (n : Int), v]] w fun e w' => e = .returned (.int .i64 2) ∧ Below w.heap.size w w' := by
  have hd : decide ((n : Int) < 1) = false := by simp; omega
  have hd2 : decide ((8 : Int) < n) = false := by simp; omega
  obtain ⟨a, cap, rfl, _⟩ := hv
  obtain ⟨z, hz⟩ : ∃ z, z = n * n := ⟨_, rfl⟩
  have hz99 : z ≤ 99 := by rw [hz]; exact Nat.le_trans (Nat.mul_le_mul h8 h8) (by decide)
  have hmul : (n : Int) * (n : Int) = (z : Int) := by rw [hz]; simp
  have hne : ((L.length : Int) != (z : Int)) = true := by simp; omega
  generalize L.length = q at *
  clear hz hl
  go_enter Try.func8, Try.ntmps8
  go_wp2
  go_ret
  exact ⟨rfl, balloc w _⟩
set_option maxRecDepth 100000 in
set_option maxHeartbeats 8000000 in
theorem LatinFault_main (n : Nat) (L : List Int) (v : Value) (w : World) (h1 : 1 ≤ n) (h8 : n ≤ 8) (hv : Sl w v L) (hl : L.length = n * n) :
    Calls Try.prog 8 #[.agg #[.int .i64 (n : Int), v]] w fun e w' => e = .returned (.int .i64 (lF n L : Int)) ∧ Below w.heap.size w w' := by
  have hd : decide ((n : Int) < 1) = false := by simp; omega
  have hd2 : decide ((8 : Int) < n) = false := by simp; omega
  have hpos : 0 < n * n := Nat.mul_pos h1 h1
  have HV : Hid (Sl w v L) := hv
  obtain ⟨a, off, cap, rfl, ha, hcell⟩ := hv.form hl hpos
  obtain ⟨u, hu⟩ : ∃ u, u = lF n L := ⟨_, rfl⟩
  have HU : Hid (u = lF n L) := hu
  rw [← hu]
  obtain ⟨z, hz⟩ : ∃ z, z = n * n := ⟨_, rfl⟩
  have hz99 : z ≤ 99 := by rw [hz]; exact Nat.le_trans (Nat.mul_le_mul h8 h8) (by decide)
  have hmul : (n : Int) * (n : Int) = (z : Int) := by rw [hz]; simp
  have hne : ((z : Int) != (z : Int)) = false := by simp
  have HL : Hid (L.length = n * n) := hl
  have HZ : Hid (z = n * n) := hz
  have HC : Hid (∀ j, j < z → w.cell? ⟨a, off + j, none⟩ = some (.int .i64 (L.getD j 0))) := by rw [hz]; exact hcell
  rw [← hz] at HV ⊢
  have b0 := balloc w (.cells #[.int .i64 (n : Int), .slice (some ⟨a, off, none⟩) z cap] 24)
  have hx0 : (w.alloc (.cells #[.int .i64 (n : Int), .slice (some ⟨a, off, none⟩) z cap] 24)).cell? ⟨w.heap.size, 0, none⟩ = some (.int .i64 (n : Int)) := by rw [cell_of_row _ _ _ _ _ _ (heap_alloc_new w _)]; rfl
  have hx1 : (w.alloc (.cells #[.int .i64 (n : Int), .slice (some ⟨a, off, none⟩) z cap] 24)).cell? ⟨w.heap.size, 1, none⟩ = some (.slice (some ⟨a, off, none⟩) z cap) := by rw [cell_of_row _ _ _ _ _ _ (heap_alloc_new w _)]; rfl
  clear hcell hl hz hu hv hpos
  go_enter Try.func8, Try.ntmps8
  go_wp2
  go_loopw [3] (fun i wr => ∃ j : Nat, i = .int .i64 (j : Int) ∧ j ≤ z ∧ Hid (∀ q, q < j → 0 ≤ L.getD q 0 ∧ L.getD q 0 < n) ∧ wr.cell? ⟨w.heap.size, 0, none⟩ = some (.int .i64 (n : Int)) ∧ wr.cell? ⟨w.heap.size, 1, none⟩ = some (.slice (some ⟨a, off, none⟩) z cap) ∧ Below w.heap.size w wr) (fun i _ => (z - intOf i).toNat)
  case atStart => exact ⟨0, rfl, by omega, (fun q h => by omega : ∀ q, q < 0 → _), hx0, hx1, b0⟩
  case round =>
    clear hx0 hx1 b0
    obtain ⟨j, rfl, hj, HJ, hx0, hx1, b0⟩ := hrel
    by_cases hlt : j < z
    · have hdj : decide ((j : Int) < (z : Int)) = true := by simp; omega
      have hji : (j : Int) < z := by omega
      have hj0 : (0 : Int) ≤ (j : Int) := by omega
      have hcj := (b0.cell (p := ⟨a, off + j, none⟩) ha).trans (HC.out j hlt)
      obtain ⟨x, hx⟩ : ∃ x, x = L.getD j 0 := ⟨_, rfl⟩
      rw [← hx] at hcj
      by_cases hneg : x < 0
      · have hu1 : u = 1 := by rw [HU.out]; exact lF_out h1 h8 HL.out (by rw [← HZ.out]; exact hlt) (by rw [← hx]; omega)
        subst hu1
        have hdx : decide (x < 0) = true := decide_eq_true hneg
        clear HJ hx hneg
        go_wp2
        go_quiet (fail)
        go_wp2
        go_ret
        exact ⟨rfl, bdrewN b0 _⟩
      · have hdx : decide (x < 0) = false := decide_eq_false hneg
        by_cases hbig : (n : Int) ≤ x
        · have hu1 : u = 1 := by rw [HU.out]; exact lF_out h1 h8 HL.out (by rw [← HZ.out]; exact hlt) (by rw [← hx]; omega)
          subst hu1
          have hdx2 : decide ((n : Int) ≤ x) = true := decide_eq_true hbig
          clear HJ hx hneg hbig
          go_wp2
          go_quiet (fail)
          go_wp2
          go_ret
          exact ⟨rfl, bdrewN b0 _⟩
        · have hdx2 : decide ((n : Int) ≤ x) = false := decide_eq_false hbig
          have HJ2 : Hid (∀ q, q < j + 1 → 0 ≤ L.getD q 0 ∧ L.getD q 0 < n) := fun q hq => by
            by_cases e : q = j
            · subst e; rw [← hx]; omega
            · exact HJ.out q (by omega)
          clear HJ hx hneg hbig
          go_wp2
          go_quiet (fail)
          go_wp2
          go_roundw
          case rel => exact ⟨j + 1, by go_num, by omega, HJ2, hx0, hx1, bdrewN b0 _⟩
          case measure => simp [intOf]; omega
    · have hdj : decide ((j : Int) < (z : Int)) = false := by simp; omega
      obtain rfl : j = z := by omega
      have hon := lF_on h1 h8 HL.out (by rw [← HZ.out]; exact HJ.out)
      rw [← HU.out] at hon
      have C := onceD_any n L _ wr (onB n L) h1 h8 (HV.out.below b0) (by rw [HL.out, ← HZ.out]; exact hz99) rfl
      generalize onB n L = o at *
      cases o with
      | true =>
        have hu0 : u = 0 := hon
        subst hu0
        clear hon HJ HU
        go_wp2_with (go_at_call 29; refine C.mono ?_; rintro e w1 ⟨rfl, b1⟩)
        go_ret
        exact ⟨rfl, Below.next b0 b1⟩
      | false =>
        have hu0 : u = 6 := hon
        subst hu0
        clear hon HJ HU
        go_wp2_with (go_at_call 29; refine C.mono ?_; rintro e w1 ⟨rfl, b1⟩)
        go_ret
        exact ⟨rfl, Below.next b0 b1⟩
theorem LatinFault_any (s : Int) (L : List Int) (v : Value) (w : World) (hv : Sl w v L) (_hll : L.length ≤ maxLen) :
    Calls Try.prog 8 #[.agg #[.int .i64 s, v]] w fun e w' => e = .returned (.int .i64 (lF s L : Int)) ∧ Below w.heap.size w w' := by
  by_cases h : s < 1 ∨ 8 < s
  · rw [lF_far h]
    rcases h with h | h
    · exact LatinFault_low s v w h
    · exact LatinFault_high s v w h
  · obtain ⟨n, rfl⟩ : ∃ n : Nat, s = n := ⟨s.toNat, by omega⟩
    by_cases hl : L.length = n * n
    · exact LatinFault_main n L v w (by omega) (by omega) hv hl
    · rw [lF_shape (by omega) (by omega) hl]; exact LatinFault_shape n L v w (by omega) (by omega) hv hl
end Go.Proofs.Ytncnaaohihmjnaa
