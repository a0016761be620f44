/- The walk of Check. -/
import Derived.Test.YtjfjdidibglhaabL2
import Derived.Deep.RegionHeld3
import Derived.Deep.MidRow
namespace Go.Proofs.Ytjfjdidibglhaab
open Go.RowKit

theorem lF_far {s : Int} {L : List Int} (h : s < 1 ∨ 8 < s) : lF s L = 1 := by unfold lF; rw [if_pos h]
theorem lF_shape {n : Nat} {L : List Int} (h1 : 1 ≤ n) (h8 : n ≤ 8) (h : L.length ≠ n * n) : lF n L = 2 := by
  unfold lF
  rw [if_neg (by omega), if_pos]
  intro e
  exact h (by exact_mod_cast e)
theorem lF_out {n : Nat} {L : List Int} {j : Nat} (h1 : 1 ≤ n) (h8 : n ≤ 8) (hl : L.length = n * n) (hj : j < n * n) (h : ¬ (0 ≤ L.getD j 0 ∧ L.getD j 0 < n)) : lF n L = 1 := by
  unfold lF
  rw [if_neg (by omega), if_neg (by rw [hl]; simp), if_pos]
  exact inLB_no fun k => h (k j (by omega))
theorem lF_on {n : Nat} {L : List Int} (h1 : 1 ≤ n) (h8 : n ≤ 8) (hl : L.length = n * n) (h : ∀ j, j < n * n → 0 ≤ L.getD j 0 ∧ L.getD j 0 < n) : lF n L = if onB n L then 0 else 6 := by
  unfold lF
  have hn : ((n : Int)).toNat = n := by omega
  rw [if_neg (by omega), if_neg (by rw [hl]; simp), if_neg (by rw [(inLB_iff _ _).2 fun j hj => h j (by omega)]; simp), hn]
theorem und24r : ∃ d, Try.prog.underlying 24 = some d ∧ d.isRow = true := ⟨_, Try.underlying24, rfl⟩
theorem inf24 : (Try.prog.info? 24).map (·.size) = some 2 := by kernel_rfl
theorem range_two (w : World) (b : Nat) (x y : Value) (h0 : w.cell? ⟨b, 0, none⟩ = some x) (h1 : w.cell? ⟨b, 1, none⟩ = some y) : w.rangeAt b 0 [x, y] := by
  intro j v hj
  match j, hj with
  | 0, hj => simp only [List.getElem?_cons_zero, Option.some.injEq] at hj; subst hj; exact h0
  | 1, hj => simp only [List.getElem?_cons_succ, List.getElem?_cons_zero, Option.some.injEq] at hj; subst hj; exact h1
  | j + 2, hj => simp at hj

set_option maxHeartbeats 4000000 in
theorem Check_far (s : Int) (v : Value) (w : World) (h : s < 1 ∨ 8 < s) :
    Calls Try.prog 8 #[.agg #[.int .i64 s, v]] w fun e w' => e = .returned (.int .i64 1) ∧ Below w.heap.size w w' := by
  have C := fun W => isSide_any s W
  have hs : sideB s = false := by unfold sideB; rcases h with h | h <;> simp <;> omega
  rw [hs] at C
  clear hs h
  go_enter Try.func8, Try.ntmps8
  go_wp2_with (go_at_call 14; refine (C _).mono ?_; rintro e w1 ⟨rfl, rfl⟩)
  go_ret
  exact ⟨rfl, balloc w _⟩
set_option maxHeartbeats 4000000 in
theorem Check_shape (n : Nat) (L : List Int) (v : Value) (w : World) (h1 : 1 ≤ n) (h8 : n ≤ 8) (hv : Sl w v L) (_hll : L.length ≤ maxLen) (hl : L.length ≠ n * n) :
    Calls Try.prog 8 #[.agg #[.int .i64 (n : Int), v]] w fun e w' => e = .returned (.int .i64 2) ∧ Below w.heap.size w w' := by
  have C := fun W => isSide_any n W
  have hs : sideB n = true := by unfold sideB; simp; omega
  rw [hs] at C
  obtain ⟨a, cap, rfl, _⟩ := hv
  obtain ⟨z, hz⟩ : ∃ z, z = n * n := ⟨_, rfl⟩
  have hz99 : z ≤ 99 := by rw [hz]; exact Nat.le_trans (Nat.mul_le_mul h8 h8) (by decide)
  have hmul : (n : Int) * (n : Int) = (z : Int) := by rw [hz]; simp
  have hne : ((L.length : Int) != (z : Int)) = true := by simp; omega
  generalize L.length = q at *
  clear hs hz hl
  go_enter Try.func8, Try.ntmps8
  go_wp2_with (go_at_call 14; refine (C _).mono ?_; rintro e w1 ⟨rfl, rfl⟩)
  go_ret
  exact ⟨rfl, balloc w _⟩
set_option maxRecDepth 100000 in
set_option maxHeartbeats 8000000 in
theorem Check_main (n : Nat) (L : List Int) (v : Value) (w : World) (h1 : 1 ≤ n) (h8 : n ≤ 8) (hv : Sl w v L) (hl : L.length = n * n) :
    Calls Try.prog 8 #[.agg #[.int .i64 (n : Int), v]] w fun e w' => e = .returned (.int .i64 (lF n L : Int)) ∧ Below w.heap.size w w' := by
  have C := fun W => isSide_any n W
  have hs : sideB n = true := by unfold sideB; simp; omega
  rw [hs] at C
  have hpos : 0 < n * n := Nat.mul_pos h1 h1
  have HV : Hid (Sl w v L) := hv
  obtain ⟨a, off, cap, rfl, ha, hcell⟩ := hv.form hl hpos
  obtain ⟨u, hu⟩ : ∃ u, u = lF n L := ⟨_, rfl⟩
  have HU : Hid (u = lF n L) := hu
  rw [← hu]
  obtain ⟨z, hz⟩ : ∃ z, z = n * n := ⟨_, rfl⟩
  have hz99 : z ≤ 99 := by rw [hz]; exact Nat.le_trans (Nat.mul_le_mul h8 h8) (by decide)
  have hmul : (n : Int) * (n : Int) = (z : Int) := by rw [hz]; simp
  have hne : ((z : Int) != (z : Int)) = false := by simp
  have HL : Hid (L.length = n * n) := hl
  have HZ : Hid (z = n * n) := hz
  have HC : Hid (∀ j, j < z → w.cell? ⟨a, off + j, none⟩ = some (.int .i64 (L.getD j 0))) := by rw [hz]; exact hcell
  rw [← hz] at HV ⊢
  have b0 := balloc w (.cells #[.int .i64 (n : Int), .slice (some ⟨a, off, none⟩) z cap] 24)
  have hx0 : (w.alloc (.cells #[.int .i64 (n : Int), .slice (some ⟨a, off, none⟩) z cap] 24)).cell? ⟨w.heap.size, 0, none⟩ = some (.int .i64 (n : Int)) := by rw [cell_of_row _ _ _ _ _ _ (heap_alloc_new w _)]; rfl
  have hx1 : (w.alloc (.cells #[.int .i64 (n : Int), .slice (some ⟨a, off, none⟩) z cap] 24)).cell? ⟨w.heap.size, 1, none⟩ = some (.slice (some ⟨a, off, none⟩) z cap) := by rw [cell_of_row _ _ _ _ _ _ (heap_alloc_new w _)]; rfl
  have hsz : w.heap.size < (w.alloc (.cells #[.int .i64 (n : Int), .slice (some ⟨a, off, none⟩) z cap] 24)).heap.size := by simp
  clear hs hcell hl hz hu
  go_enter Try.func8, Try.ntmps8
  go_wp2_with (go_at_call 14; refine (C _).mono ?_; rintro e w1 ⟨rfl, rfl⟩)
  clear C
  go_loopw [21] (fun i wr => ∃ j : Nat, i = .int .i64 (j : Int) ∧ j ≤ z ∧ Hid (∀ q, q < j → 0 ≤ L.getD q 0 ∧ L.getD q 0 < n) ∧ wr.cell? ⟨w.heap.size, 0, none⟩ = some (.int .i64 (n : Int)) ∧ wr.cell? ⟨w.heap.size, 1, none⟩ = some (.slice (some ⟨a, off, none⟩) z cap) ∧ w.heap.size < wr.heap.size ∧ Below w.heap.size w wr) (fun i _ => (z - intOf i).toNat)
  case atStart => exact ⟨0, rfl, by omega, (fun q h => by omega : ∀ q, q < 0 → _), hx0, hx1, hsz, b0⟩
  case round =>
    clear hx0 hx1 b0 hsz
    obtain ⟨j, rfl, hj, HJ, hx0, hx1, hsz, b0⟩ := hrel
    by_cases hlt : j < z
    · have hdj : decide ((j : Int) < (z : Int)) = true := by simp; omega
      have hji : (j : Int) < z := by omega
      have hj0 : (0 : Int) ≤ (j : Int) := by omega
      have hcj := (b0.cell (p := ⟨a, off + j, none⟩) ha).trans (HC.out j hlt)
      obtain ⟨x, hx⟩ : ∃ x, x = L.getD j 0 := ⟨_, rfl⟩
      rw [← hx] at hcj
      have C2 := fun W => isOf_any n x W
      by_cases hin : 0 ≤ x ∧ x < n
      · have ho : ofB n x = true := by unfold ofB; simp; omega
        have HJ2 : Hid (∀ q, q < j + 1 → 0 ≤ L.getD q 0 ∧ L.getD q 0 < n) := fun q hq => by
          by_cases e : q = j
          · subst e; rw [← hx]; exact hin
          · exact HJ.out q (by omega)
        rw [ho] at C2
        clear hin HJ hx
        go_wp2_with (go_at_call 15; refine (C2 _).mono ?_; rintro e w1 ⟨rfl, rfl⟩)
        go_roundw
        case rel => exact ⟨j + 1, by go_num, by omega, HJ2, hx0, hx1, hsz, b0⟩
        case measure => simp [intOf]; omega
      · have ho : ofB n x = false := by unfold ofB; simp; omega
        have hu1 : u = 1 := by rw [HU.out]; exact lF_out h1 h8 HL.out (by rw [← HZ.out]; exact hlt) (by rw [← hx]; exact hin)
        subst hu1
        rw [ho] at C2
        clear hin HJ hx
        go_wp2_with (go_at_call 15; refine (C2 _).mono ?_; rintro e w1 ⟨rfl, rfl⟩)
        go_ret
        exact ⟨rfl, b0⟩
    · have hdj : decide ((j : Int) < (z : Int)) = false := by simp; omega
      obtain rfl : j = z := by omega
      have hon := lF_on h1 h8 HL.out (by rw [← HZ.out]; exact HJ.out)
      rw [← HU.out] at hon
      have A1 := fun W (b : Below w.heap.size w W) => asked_any n n L _ W (HV.out.below b) HL.out h8 h8 (by rw [← HZ.out]; exact fun q hq => (HJ.out q hq).1)
      have A2 := fun y W (hT : Teller y n n (sq n L) W) => apart_any n n (sq n L) y W (onB n L) h8 h8 (fun r c hr hc => by
        have := (HJ.out _ (by rw [HZ.out]; exact cell_lt hr hc)).2
        unfold sq; omega) hT (onB_ap HL.out (by rw [HL.out, ← HZ.out]; exact fun q hq => (HJ.out q hq).1))
      have HON : Hid (u = if onB n L then 0 else 6) := hon
      have HS : Hid (w.heap.size < wr.heap.size) := hsz
      have hrg := range_two wr w.heap.size _ _ hx0 hx1
      generalize onB n L = o at *
      clear hon HJ HU
      go_wp2_with fail
      refine wp_region_noPanic ?_
      refine wp_region_held_drew (S := fun w' => w'.cell? ⟨w.heap.size, 0, none⟩ = some (.int .i64 (n : Int)) ∧ w'.rangeAt w.heap.size 0 [.int .i64 (n : Int), .slice (some ⟨a, off, none⟩) j cap]) (by kernel_rfl) (⟨hx0, hrg⟩) (fun hSx => ?_)
      refine wpAnyH_take (i := 0) (v := .pointer (some ⟨w.heap.size, 0, none⟩)) rfl (by kernel_rfl) (by kernel_rfl) (by kernel_rfl) (fun _ _ _ h => h) (Or.inl ⟨by rfl, fun w' hSw => by (try dsimp only at hSw); go_simp⟩) hSx ?_
      try simp only [Act.put, List.setIfInBounds_toArray]
      refine wpAnyH_take (i := 1) (v := .int .i64 (n : Int)) rfl (by kernel_rfl) (by kernel_rfl) (by kernel_rfl) (fun _ _ _ h => h) (Or.inl ⟨by rfl, fun w' hSw => by (try dsimp only at hSw); have hSw1 := hSw.1; go_simp⟩) hSx ?_
      try simp only [Act.put]
      refine wpAnyH_take (i := 2) (v := .pointer (some ⟨w.heap.size, 0, none⟩)) rfl (by kernel_rfl) (by kernel_rfl) (by kernel_rfl) (fun _ _ _ h => h) (Or.inl ⟨by rfl, fun w' hSw => by (try dsimp only at hSw); go_simp⟩) hSx ?_
      try simp only [Act.put]
      refine wpAnyH_take (i := 3) (v := .int .i64 (n : Int)) rfl (by kernel_rfl) (by kernel_rfl) (by kernel_rfl) (fun _ _ _ h => h) (Or.inl ⟨by rfl, fun w' hSw => by (try dsimp only at hSw); have hSw1 := hSw.1; go_simp⟩) hSx ?_
      try simp only [Act.put]
      refine wpAnyH_take (i := 4) (v := .agg #[.int .i64 (n : Int), .slice (some ⟨a, off, none⟩) j cap]) rfl (by kernel_rfl) (by kernel_rfl) (by kernel_rfl) (fun _ _ _ h => h) (yieldsIf_load_mid (by rfl) 24 _ rfl w.heap.size 0 rfl [.int .i64 (n : Int), .slice (some ⟨a, off, none⟩) j cap] _ (fun _ h => h.2) Try.underlying24 rfl inf24) hSx ?_
      try simp only [Act.put]
      refine wpAnyH_ready (rs := [5]) (by kernel_rfl) (by simp) ?_
      refine AllReadyH.cons rfl (fun J hJ => ?_) AllReadyH.nil
      go_simp
      refine (A1 _ b0.drew).mono ?_
      rintro e w5 ⟨⟨y, rfl, hT⟩, b5⟩
      have hS5 : w5.cell? ⟨w.heap.size, 0, none⟩ = some (.int .i64 (n : Int)) ∧ w5.rangeAt w.heap.size 0 [.int .i64 (n : Int), .slice (some ⟨a, off, none⟩) j cap] := by
        have k : ∀ o, w5.cell? ⟨w.heap.size, o, none⟩ = wr.cell? ⟨w.heap.size, o, none⟩ := fun o => b5.cell (p := ⟨w.heap.size, o, none⟩) HS.out
        exact ⟨(k 0).trans hx0, range_two w5 _ _ _ ((k 0).trans hx0) ((k 1).trans hx1)⟩
      have b15 := Below.next b0.drew b5
      go_wp2_with fail
      refine hJ.out _ _ hS5 (fun hSy => ?_)
      clear hJ J
      try simp only [Act.put, List.setIfInBounds_toArray, List.set_cons_zero, List.set_cons_succ]
      refine wpAnyH_ready (rs := [6]) (by kernel_rfl) (by simp) ?_
      refine AllReadyH.cons rfl (fun J hJ => ?_) AllReadyH.nil
      go_simp
      refine (A2 y w5 hT).mono ?_
      rintro e w6 ⟨rfl, b6⟩
      have hS6 : w6.cell? ⟨w.heap.size, 0, none⟩ = some (.int .i64 (n : Int)) ∧ w6.rangeAt w.heap.size 0 [.int .i64 (n : Int), .slice (some ⟨a, off, none⟩) j cap] := by
        have k : ∀ o, w6.cell? ⟨w.heap.size, o, none⟩ = w5.cell? ⟨w.heap.size, o, none⟩ := fun o => b6.cell (p := ⟨w.heap.size, o, none⟩) (Nat.lt_of_lt_of_le HS.out b5.size)
        have k2 : ∀ o, w5.cell? ⟨w.heap.size, o, none⟩ = wr.cell? ⟨w.heap.size, o, none⟩ := fun o => b5.cell (p := ⟨w.heap.size, o, none⟩) HS.out
        exact ⟨(k 0).trans ((k2 0).trans hx0), range_two w6 _ _ _ ((k 0).trans ((k2 0).trans hx0)) ((k 1).trans ((k2 1).trans hx1))⟩
      have b16 := Below.next b15 b6
      go_wp2_with fail
      refine hJ.out _ _ hS6 (fun hSz => ?_)
      clear hJ J
      try simp only [Act.put, List.setIfInBounds_toArray, List.set_cons_zero, List.set_cons_succ]
      refine wpAnyH_take (i := 7) (v := .bool (!o)) rfl (by kernel_rfl) (by kernel_rfl) (by kernel_rfl) (fun _ _ _ h => h) (Or.inl ⟨by rfl, fun w' hSw => by (try dsimp only at hSw); go_simp⟩) hSz ?_
      try simp only [Act.put, List.setIfInBounds_toArray]
      refine wpAnyH_done (by kernel_rfl) ?_ _
      refine NoPanic.normal ?_
      clear hSx hSy hSz hS5 hS6 hx0 hx1 hrg A1 A2
      cases o with
      | true =>
        have hu0 : u = 0 := HON.out
        subst hu0
        go_wp2
        go_ret
        exact ⟨rfl, b16⟩
      | false =>
        have hu0 : u = 6 := HON.out
        subst hu0
        go_wp2
        go_ret
        exact ⟨rfl, b16⟩
theorem Check_any (s : Int) (L : List Int) (v : Value) (w : World) (hv : Sl w v L) (hll : L.length ≤ maxLen) :
    Calls Try.prog 8 #[.agg #[.int .i64 s, v]] w fun e w' => e = .returned (.int .i64 (lF s L : Int)) ∧ Below w.heap.size w w' := by
  by_cases h : s < 1 ∨ 8 < s
  · rw [lF_far h]; exact Check_far s v w h
  · obtain ⟨n, rfl⟩ : ∃ n : Nat, s = n := ⟨s.toNat, by omega⟩
    by_cases hl : L.length = n * n
    · exact Check_main n L v w (by omega) (by omega) hv hl
    · rw [lF_shape (by omega) (by omega) hl]; exact Check_shape n L v w (by omega) (by omega) hv hll hl

end Go.Proofs.Ytjfjdidibglhaab
