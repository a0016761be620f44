/- The walk of Check. -/
import Derived.Test.YtamdpcajfgbagaaDoorH1
import Derived.Deep.RegionHeld3
import Derived.Deep.MidRow
namespace Go.Proofs.YtamdpcajfgbagaaDoor
open Go.RowKit

theorem und24r : ∃ d, Tryd.prog.underlying 24 = some d ∧ d.isRow = true := ⟨_, Tryd.underlying24, rfl⟩
theorem inf24 : (Tryd.prog.info? 24).map (·.size) = some 2 := by kernel_rfl
theorem range_two (w : World) (b : Nat) (x y : Value) (h0 : w.cell? ⟨b, 0, none⟩ = some x) (h1 : w.cell? ⟨b, 1, none⟩ = some y) : w.rangeAt b 0 [x, y] := by
  intro j v hj
  match j, hj with
  | 0, hj => simp only [List.getElem?_cons_zero, Option.some.injEq] at hj; subst hj; exact h0
  | 1, hj => simp only [List.getElem?_cons_succ, List.getElem?_cons_zero, Option.some.injEq] at hj; subst hj; exact h1
  | j + 2, hj => simp at hj

set_option maxHeartbeats 4000000 in
theorem Check_far (s : Int) (v : Value) (w : World) (h : s < 1 ∨ 8 * 3 < s) :
    Calls Tryd.prog 14 #[.agg #[.int .i64 s, v]] w fun e w' => e = .returned (.int .i64 1) ∧ Below w.heap.size w w' := by
  by_cases h1 : s < 1
  · have d1 : decide (s < 1) = true := decide_eq_true h1
    clear h h1
    go_enter Tryd.func14, Tryd.ntmps14
    go_wp2
    go_ret
    exact ⟨rfl, balloc w _⟩
  · have d1 : decide (s < 1) = false := decide_eq_false h1
    have h2 : 24 < s := by omega
    have d2 : decide (24 < s) = true := decide_eq_true h2
    clear h h1 h2
    go_enter Tryd.func14, Tryd.ntmps14
    go_wp2
    go_ret
    exact ⟨rfl, balloc w _⟩
set_option maxHeartbeats 4000000 in
theorem Check_shape (n : Nat) (L : List Int) (v : Value) (w : World) (h1 : 1 ≤ n) (h8 : n ≤ 8 * 3) (hv : Sl w v L) (_hll : L.length ≤ maxLen) (hl : L.length ≠ n * n) :
    Calls Tryd.prog 14 #[.agg #[.int .i64 (n : Int), v]] w fun e w' => e = .returned (.int .i64 2) ∧ Below w.heap.size w w' := by
  have d1 : decide ((n : Int) < 1) = false := by simp; omega
  have d2 : decide (24 < (n : Int)) = false := by simp; omega
  obtain ⟨a, cap, rfl, _⟩ := hv
  obtain ⟨z, hz⟩ : ∃ z, z = n * n := ⟨_, rfl⟩
  have hz99 : z ≤ 999 := by rw [hz]; exact Nat.le_trans (Nat.mul_le_mul h8 h8) (by decide)
  have hmul : (n : Int) * (n : Int) = (z : Int) := by rw [hz]; simp
  have hne : ((L.length : Int) != (z : Int)) = true := by simp; omega
  generalize L.length = q at *
  clear hz hl
  go_enter Tryd.func14, Tryd.ntmps14
  go_wp2
  go_ret
  exact ⟨rfl, balloc w _⟩
set_option maxRecDepth 100000 in
set_option maxHeartbeats 8000000 in
theorem Check_main (n : Nat) (L : List Int) (v : Value) (w : World) (h1 : 1 ≤ n) (h8 : n ≤ 8 * 3) (hv : Sl w v L) (hl : L.length = n * n) :
    Calls Tryd.prog 14 #[.agg #[.int .i64 (n : Int), v]] w fun e w' => e = .returned (.int .i64 (hF n L : Int)) ∧ Below w.heap.size w w' := by
  have d1 : decide ((n : Int) < 1) = false := by simp; omega
  have d2 : decide (24 < (n : Int)) = false := by simp; omega
  have hpos : 0 < n * n := Nat.mul_pos h1 h1
  have HV : Hid (Sl w v L) := hv
  obtain ⟨a, off, cap, rfl, ha, hcell⟩ := hv.form hl hpos
  obtain ⟨u, hu⟩ : ∃ u, u = hF n L := ⟨_, rfl⟩
  have HU : Hid (u = hF n L) := hu
  rw [← hu]
  obtain ⟨z, hz⟩ : ∃ z, z = n * n := ⟨_, rfl⟩
  have hz99 : z ≤ 999 := by rw [hz]; exact Nat.le_trans (Nat.mul_le_mul h8 h8) (by decide)
  have hmul : (n : Int) * (n : Int) = (z : Int) := by rw [hz]; simp
  have hne : ((z : Int) != (z : Int)) = false := by simp
  have HL : Hid (L.length = n * n) := hl
  have HZ : Hid (z = n * n) := hz
  have HC : Hid (∀ j, j < z → w.cell? ⟨a, off + j, none⟩ = some (.int .i64 (L.getD j 0))) := by rw [hz]; exact hcell
  rw [← hz] at HV ⊢
  have b0 := balloc w (.cells #[.int .i64 (n : Int), .slice (some ⟨a, off, none⟩) z cap] 24)
  have hx0 : (w.alloc (.cells #[.int .i64 (n : Int), .slice (some ⟨a, off, none⟩) z cap] 24)).cell? ⟨w.heap.size, 0, none⟩ = some (.int .i64 (n : Int)) := by rw [cell_of_row _ _ _ _ _ _ (heap_alloc_new w _)]; rfl
  have hx1 : (w.alloc (.cells #[.int .i64 (n : Int), .slice (some ⟨a, off, none⟩) z cap] 24)).cell? ⟨w.heap.size, 1, none⟩ = some (.slice (some ⟨a, off, none⟩) z cap) := by rw [cell_of_row _ _ _ _ _ _ (heap_alloc_new w _)]; rfl
  have hsz : w.heap.size < (w.alloc (.cells #[.int .i64 (n : Int), .slice (some ⟨a, off, none⟩) z cap] 24)).heap.size := by simp
  clear hcell hl hz hu
  go_enter Tryd.func14, Tryd.ntmps14
  go_wp2
  go_loopw [25] (fun i wr => ∃ j : Nat, i = .int .i64 (j : Int) ∧ j ≤ z ∧ Hid (∀ q, q < j → Sg (L.getD q 0)) ∧ wr.cell? ⟨w.heap.size, 0, none⟩ = some (.int .i64 (n : Int)) ∧ wr.cell? ⟨w.heap.size, 1, none⟩ = some (.slice (some ⟨a, off, none⟩) z cap) ∧ w.heap.size < wr.heap.size ∧ Below w.heap.size w wr) (fun i _ => (z - intOf i).toNat)
  case atStart => exact ⟨0, rfl, by omega, (fun q h => by omega : ∀ q, q < 0 → _), hx0, hx1, hsz, b0⟩
  case round =>
    clear hx0 hx1 b0 hsz
    obtain ⟨j, rfl, hj, HJ, hx0, hx1, hsz, b0⟩ := hrel
    by_cases hlt : j < z
    · have hdj : decide ((j : Int) < (z : Int)) = true := by simp; omega
      have hji : (j : Int) < z := by omega
      have hj0 : (0 : Int) ≤ (j : Int) := by omega
      have hcj := (b0.cell (p := ⟨a, off + j, none⟩) ha).trans (HC.out j hlt)
      obtain ⟨x, hx⟩ : ∃ x, x = L.getD j 0 := ⟨_, rfl⟩
      rw [← hx] at hcj
      have HJ2 : Hid (Sg x → ∀ q, q < j + 1 → Sg (L.getD q 0)) := fun h q hq => by
        by_cases e : q = j
        · subst e; rw [← hx]; exact h
        · exact HJ.out q (by omega)
      have HN : Hid (¬ Sg x → u = 1) := fun h => by rw [HU.out]; exact hF_out h1 h8 HL.out (by rw [← HZ.out]; exact hlt) (by rw [← hx]; exact h)
      clear hx HJ
      by_cases hx1' : x = 1
      · have HJ3 : Hid (∀ q, q < j + 1 → Sg (L.getD q 0)) := HJ2.out (.inl hx1')
        have hxn : (x != 1) = false := by simp [hx1']
        clear hx1' HN HJ2
        go_wp2
        go_roundw
        case rel => exact ⟨j + 1, by go_num, by omega, HJ3, hx0, hx1, hsz, b0⟩
        case measure => simp [intOf]; omega
      · have hxn : (x != 1) = true := by simp [hx1']
        by_cases hx2 : x = -1
        · have HJ3 : Hid (∀ q, q < j + 1 → Sg (L.getD q 0)) := HJ2.out (.inr hx2)
          have hxm : (x != -1) = false := by simp [hx2]
          clear hx2 hx1' HN HJ2
          go_wp2
          go_roundw
          case rel => exact ⟨j + 1, by go_num, by omega, HJ3, hx0, hx1, hsz, b0⟩
          case measure => simp [intOf]; omega
        · have hxm : (x != -1) = true := by simp [hx2]
          obtain rfl : u = 1 := HN.out (fun h => by rcases h with h | h; exact hx1' h; exact hx2 h)
          clear hx2 hx1' HN HJ2
          go_wp2
          go_ret
          exact ⟨rfl, b0⟩
    · have hdj : decide ((j : Int) < (z : Int)) = false := by simp; omega
      obtain rfl : j = z := by omega
      have hon := hF_on h1 h8 HL.out (by rw [← HZ.out]; exact HJ.out)
      rw [← HU.out] at hon
      have A1 := fun W (b : Below w.heap.size w W) => asked_any n L _ W (HV.out.below b) HL.out h8
      have A2 := fun y W (hT : Teller y n n (mx n L) W) => balanced_any n (mx n L) y W (balB n (mx n L)) h8 (fun r c hr hc => HJ.out _ (by rw [HZ.out]; exact cell_ltH hr hc)) hT rfl
      have HON : Hid (u = if balB n (mx n L) then 0 else 4) := hon
      have HS : Hid (w.heap.size < wr.heap.size) := hsz
      have hrg := range_two wr w.heap.size _ _ hx0 hx1
      generalize balB n (mx n L) = o at *
      clear hon HJ HU
      go_wp2_with fail
      refine wp_region_noPanic ?_
      refine wp_region_held_drew (S := fun w' => w'.cell? ⟨w.heap.size, 0, none⟩ = some (.int .i64 (n : Int)) ∧ w'.rangeAt w.heap.size 0 [.int .i64 (n : Int), .slice (some ⟨a, off, none⟩) j cap]) (by kernel_rfl) (⟨hx0, hrg⟩) (fun hSx => ?_)
      refine wpAnyH_take (i := 0) (v := .pointer (some ⟨w.heap.size, 0, none⟩)) rfl (by kernel_rfl) (by kernel_rfl) (by kernel_rfl) (fun _ _ _ h => h) (Or.inl ⟨by rfl, fun w' hSw => by (try dsimp only at hSw); go_simp⟩) hSx ?_
      try simp only [Act.put, List.setIfInBounds_toArray]
      refine wpAnyH_take (i := 1) (v := .int .i64 (n : Int)) rfl (by kernel_rfl) (by kernel_rfl) (by kernel_rfl) (fun _ _ _ h => h) (Or.inl ⟨by rfl, fun w' hSw => by (try dsimp only at hSw); have hSw1 := hSw.1; go_simp⟩) hSx ?_
      try simp only [Act.put]
      refine wpAnyH_take (i := 2) (v := .agg #[.int .i64 (n : Int), .slice (some ⟨a, off, none⟩) j cap]) rfl (by kernel_rfl) (by kernel_rfl) (by kernel_rfl) (fun _ _ _ h => h) (yieldsIf_load_mid (by rfl) 24 _ rfl w.heap.size 0 rfl [.int .i64 (n : Int), .slice (some ⟨a, off, none⟩) j cap] _ (fun _ h => h.2) Tryd.underlying24 rfl inf24) hSx ?_
      try simp only [Act.put]
      refine wpAnyH_ready (rs := [3]) (by kernel_rfl) (by simp) ?_
      refine AllReadyH.cons rfl (fun J hJ => ?_) AllReadyH.nil
      go_simp
      refine (A1 _ b0.drew).mono ?_
      rintro e w5 ⟨⟨y, rfl, hT⟩, b5⟩
      have hS5 : w5.cell? ⟨w.heap.size, 0, none⟩ = some (.int .i64 (n : Int)) ∧ w5.rangeAt w.heap.size 0 [.int .i64 (n : Int), .slice (some ⟨a, off, none⟩) j cap] := by
        have k : ∀ o, w5.cell? ⟨w.heap.size, o, none⟩ = wr.cell? ⟨w.heap.size, o, none⟩ := fun o => b5.cell (p := ⟨w.heap.size, o, none⟩) HS.out
        exact ⟨(k 0).trans hx0, range_two w5 _ _ _ ((k 0).trans hx0) ((k 1).trans hx1)⟩
      have b15 := Below.next b0.drew b5
      go_wp2_with fail
      refine hJ.out _ _ hS5 (fun hSy => ?_)
      clear hJ J
      try simp only [Act.put, List.setIfInBounds_toArray, List.set_cons_zero, List.set_cons_succ]
      refine wpAnyH_ready (rs := [4]) (by kernel_rfl) (by simp) ?_
      refine AllReadyH.cons rfl (fun J hJ => ?_) AllReadyH.nil
      go_simp
      refine (A2 y w5 hT).mono ?_
      rintro e w6 ⟨rfl, b6⟩
      have hS6 : w6.cell? ⟨w.heap.size, 0, none⟩ = some (.int .i64 (n : Int)) ∧ w6.rangeAt w.heap.size 0 [.int .i64 (n : Int), .slice (some ⟨a, off, none⟩) j cap] := by
        have k : ∀ o, w6.cell? ⟨w.heap.size, o, none⟩ = w5.cell? ⟨w.heap.size, o, none⟩ := fun o => b6.cell (p := ⟨w.heap.size, o, none⟩) (Nat.lt_of_lt_of_le HS.out b5.size)
        have k2 : ∀ o, w5.cell? ⟨w.heap.size, o, none⟩ = wr.cell? ⟨w.heap.size, o, none⟩ := fun o => b5.cell (p := ⟨w.heap.size, o, none⟩) HS.out
        exact ⟨(k 0).trans ((k2 0).trans hx0), range_two w6 _ _ _ ((k 0).trans ((k2 0).trans hx0)) ((k 1).trans ((k2 1).trans hx1))⟩
      have b16 := Below.next b15 b6
      go_wp2_with fail
      refine hJ.out _ _ hS6 (fun hSz => ?_)
      clear hJ J
      try simp only [Act.put, List.setIfInBounds_toArray, List.set_cons_zero, List.set_cons_succ]
      refine wpAnyH_take (i := 5) (v := .bool (!o)) rfl (by kernel_rfl) (by kernel_rfl) (by kernel_rfl) (fun _ _ _ h => h) (Or.inl ⟨by rfl, fun w' hSw => by (try dsimp only at hSw); go_simp⟩) hSz ?_
      try simp only [Act.put, List.setIfInBounds_toArray]
      refine wpAnyH_done (by kernel_rfl) ?_ _
      refine NoPanic.normal ?_
      clear hSx hSy hSz hS5 hS6 hx0 hx1 hrg A1 A2
      cases o with
      | true =>
        have hu0 : u = 0 := HON.out
        subst hu0
        go_wp2
        go_ret
        exact ⟨rfl, b16⟩
      | false =>
        have hu0 : u = 4 := HON.out
        subst hu0
        go_wp2
        go_ret
        exact ⟨rfl, b16⟩
theorem Check_any (s : Int) (L : List Int) (v : Value) (w : World) (hv : Sl w v L) (hll : L.length ≤ maxLen) :
    Calls Tryd.prog 14 #[.agg #[.int .i64 s, v]] w fun e w' => e = .returned (.int .i64 (hF s L : Int)) ∧ Below w.heap.size w w' := by
  by_cases h : s < 1 ∨ 8 * 3 < s
  · rw [hF_far h]; exact Check_far s v w h
  · obtain ⟨n, rfl⟩ : ∃ n : Nat, s = n := ⟨s.toNat, by omega⟩
    by_cases hl : L.length = n * n
    · exact Check_main n L v w (by omega) (by omega) hv hl
    · rw [hF_shape (by omega) (by omega) hl]; exact Check_shape n L v w (by omega) (by omega) hv hll hl

end Go.Proofs.YtamdpcajfgbagaaDoor
