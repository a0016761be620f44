/- The walk of the document's LatinFault. -/
import Derived.Test.YtlmjlffipinjiaaDoorL2
import Derived.Deep.RegionHeld3
import Derived.Deep.MidRow
import Derived.Deep.QuietTactic
import Derived.BigQuiet
/- The walk of Check. -/
namespace Go.Proofs.YtlmjlffipinjiaaDoor
open Go.RowKit

theorem lF_far {s : Int} {L : List Int} (h : s < 1 ∨ 8 < s) : lF s L = 1 := by unfold lF; rw [if_pos h]
theorem lF_shape {n : Nat} {L : List Int} (h1 : 1 ≤ n) (h8 : n ≤ 8) (h : L.length ≠ n * n) : lF n L = 2 := by
  unfold lF
  rw [if_neg (by omega), if_pos]
  intro e
  exact h (by exact_mod_cast e)
theorem lF_out {n : Nat} {L : List Int} {j : Nat} (h1 : 1 ≤ n) (h8 : n ≤ 8) (hl : L.length = n * n) (hj : j < n * n) (h : ¬ (0 ≤ L.getD j 0 ∧ L.getD j 0 < n)) : lF n L = 1 := by
  unfold lF
  rw [if_neg (by omega), if_neg (by rw [hl]; simp), if_pos]
  exact inLB_no fun k => h (k j (by omega))
theorem lF_on {n : Nat} {L : List Int} (h1 : 1 ≤ n) (h8 : n ≤ 8) (hl : L.length = n * n) (h : ∀ j, j < n * n → 0 ≤ L.getD j 0 ∧ L.getD j 0 < n) : lF n L = if onB n L then 0 else 6 := by
  unfold lF
  have hn : ((n : Int)).toNat = n := by omega
  rw [if_neg (by omega), if_neg (by rw [hl]; simp), if_neg (by rw [(inLB_iff _ _).2 fun j hj => h j (by omega)]; simp), hn]
theorem und24r : ∃ d, Tryd.prog.underlying 26 = some d ∧ d.isRow = true := ⟨_, Tryd.underlying26, rfl⟩
theorem inf24 : (Tryd.prog.info? 26).map (·.size) = some 2 := by kernel_rfl
theorem range_two (w : World) (b : Nat) (x y : Value) (h0 : w.cell? ⟨b, 0, none⟩ = some x) (h1 : w.cell? ⟨b, 1, none⟩ = some y) : w.rangeAt b 0 [x, y] := by
  intro j v hj
  match j, hj with
  | 0, hj => simp only [List.getElem?_cons_zero, Option.some.injEq] at hj; subst hj; exact h0
  | 1, hj => simp only [List.getElem?_cons_succ, List.getElem?_cons_zero, Option.some.injEq] at hj; subst hj; exact h1
  | j + 2, hj => simp at hj

set_option maxHeartbeats 4000000 in
theorem Check_far (s : Int) (v : Value) (w : World) (h : s < 1 ∨ 8 < s) :
    Calls Tryd.prog 28 #[.agg #[.int .i64 s, v]] w fun e w' => e = .returned (.int .i64 1) ∧ Below w.heap.size w w' := by
  have C := fun W => isSide_any s W
  have hs : sideB s = false := by unfold sideB; rcases h with h | h <;> simp <;> omega
  rw [hs] at C
  clear hs h
  go_enter Tryd.func28, Tryd.ntmps28
  go_wp2_with (go_at_call 41; refine (C _).mono ?_; rintro e w1 ⟨rfl, rfl⟩)
  go_ret
  exact ⟨rfl, balloc w _⟩
set_option maxHeartbeats 4000000 in
theorem Check_shape (n : Nat) (L : List Int) (v : Value) (w : World) (h1 : 1 ≤ n) (h8 : n ≤ 8) (hv : Sl w v L) (_hll : L.length ≤ maxLen) (hl : L.length ≠ n * n) :
    Calls Tryd.prog 28 #[.agg #[.int .i64 (n : Int), v]] w fun e w' => e = .returned (.int .i64 2) ∧ Below w.heap.size w w' := by
  have C := fun W => isSide_any n W
  have hs : sideB n = true := by unfold sideB; simp; omega
  rw [hs] at C
  obtain ⟨a, cap, rfl, _⟩ := hv
  obtain ⟨z, hz⟩ : ∃ z, z = n * n := ⟨_, rfl⟩
  have hz99 : z ≤ 99 := by rw [hz]; exact Nat.le_trans (Nat.mul_le_mul h8 h8) (by decide)
  have hmul : (n : Int) * (n : Int) = (z : Int) := by rw [hz]; simp
  have hne : ((L.length : Int) != (z : Int)) = true := by simp; omega
  generalize L.length = q at *
  clear hs hz hl
  go_enter Tryd.func28, Tryd.ntmps28
  go_wp2_with (go_at_call 41; refine (C _).mono ?_; rintro e w1 ⟨rfl, rfl⟩)
  go_ret
  exact ⟨rfl, balloc w _⟩
set_option maxRecDepth 100000 in
set_option maxHeartbeats 8000000 in
theorem Check_main (n : Nat) (L : List Int) (v : Value) (w : World) (h1 : 1 ≤ n) (h8 : n ≤ 8) (hv : Sl w v L) (hl : L.length = n * n) :
    Calls Tryd.prog 28 #[.agg #[.int .i64 (n : Int), v]] w fun e w' => e = .returned (.int .i64 (lF n L : Int)) ∧ Below w.heap.size w w' := by
  have C := fun W => isSide_any n W
  have hs : sideB n = true := by unfold sideB; simp; omega
  rw [hs] at C
  have hpos : 0 < n * n := Nat.mul_pos h1 h1
  have HV : Hid (Sl w v L) := hv
  obtain ⟨a, off, cap, rfl, ha, hcell⟩ := hv.form hl hpos
  obtain ⟨u, hu⟩ : ∃ u, u = lF n L := ⟨_, rfl⟩
  have HU : Hid (u = lF n L) := hu
  rw [← hu]
  obtain ⟨z, hz⟩ : ∃ z, z = n * n := ⟨_, rfl⟩
  have hz99 : z ≤ 99 := by rw [hz]; exact Nat.le_trans (Nat.mul_le_mul h8 h8) (by decide)
  have hmul : (n : Int) * (n : Int) = (z : Int) := by rw [hz]; simp
  have hne : ((z : Int) != (z : Int)) = false := by simp
  have HL : Hid (L.length = n * n) := hl
  have HZ : Hid (z = n * n) := hz
  have HC : Hid (∀ j, j < z → w.cell? ⟨a, off + j, none⟩ = some (.int .i64 (L.getD j 0))) := by rw [hz]; exact hcell
  rw [← hz] at HV ⊢
  have b0 := balloc w (.cells #[.int .i64 (n : Int), .slice (some ⟨a, off, none⟩) z cap] 26)
  have hx0 : (w.alloc (.cells #[.int .i64 (n : Int), .slice (some ⟨a, off, none⟩) z cap] 26)).cell? ⟨w.heap.size, 0, none⟩ = some (.int .i64 (n : Int)) := by rw [cell_of_row _ _ _ _ _ _ (heap_alloc_new w _)]; rfl
  have hx1 : (w.alloc (.cells #[.int .i64 (n : Int), .slice (some ⟨a, off, none⟩) z cap] 26)).cell? ⟨w.heap.size, 1, none⟩ = some (.slice (some ⟨a, off, none⟩) z cap) := by rw [cell_of_row _ _ _ _ _ _ (heap_alloc_new w _)]; rfl
  have hsz : w.heap.size < (w.alloc (.cells #[.int .i64 (n : Int), .slice (some ⟨a, off, none⟩) z cap] 26)).heap.size := by simp
  clear hs hcell hl hz hu
  go_enter Tryd.func28, Tryd.ntmps28
  go_wp2_with (go_at_call 41; refine (C _).mono ?_; rintro e w1 ⟨rfl, rfl⟩)
  clear C
  go_loopw [21] (fun i wr => ∃ j : Nat, i = .int .i64 (j : Int) ∧ j ≤ z ∧ Hid (∀ q, q < j → 0 ≤ L.getD q 0 ∧ L.getD q 0 < n) ∧ wr.cell? ⟨w.heap.size, 0, none⟩ = some (.int .i64 (n : Int)) ∧ wr.cell? ⟨w.heap.size, 1, none⟩ = some (.slice (some ⟨a, off, none⟩) z cap) ∧ w.heap.size < wr.heap.size ∧ Below w.heap.size w wr) (fun i _ => (z - intOf i).toNat)
  case atStart => exact ⟨0, rfl, by omega, (fun q h => by omega : ∀ q, q < 0 → _), hx0, hx1, hsz, b0⟩
  case round =>
    clear hx0 hx1 b0 hsz
    obtain ⟨j, rfl, hj, HJ, hx0, hx1, hsz, b0⟩ := hrel
    by_cases hlt : j < z
    · have hdj : decide ((j : Int) < (z : Int)) = true := by simp; omega
      have hji : (j : Int) < z := by omega
      have hj0 : (0 : Int) ≤ (j : Int) := by omega
      have hcj := (b0.cell (p := ⟨a, off + j, none⟩) ha).trans (HC.out j hlt)
      obtain ⟨x, hx⟩ : ∃ x, x = L.getD j 0 := ⟨_, rfl⟩
      rw [← hx] at hcj
      have C2 := fun W => isOf_any n x W
      by_cases hin : 0 ≤ x ∧ x < n
      · have ho : ofB n x = true := by unfold ofB; simp; omega
        have HJ2 : Hid (∀ q, q < j + 1 → 0 ≤ L.getD q 0 ∧ L.getD q 0 < n) := fun q hq => by
          by_cases e : q = j
          · subst e; rw [← hx]; exact hin
          · exact HJ.out q (by omega)
        rw [ho] at C2
        clear hin HJ hx
        go_wp2_with (go_at_call 42; refine (C2 _).mono ?_; rintro e w1 ⟨rfl, rfl⟩)
        go_roundw
        case rel => exact ⟨j + 1, by go_num, by omega, HJ2, hx0, hx1, hsz, b0⟩
        case measure => simp [intOf]; omega
      · have ho : ofB n x = false := by unfold ofB; simp; omega
        have hu1 : u = 1 := by rw [HU.out]; exact lF_out h1 h8 HL.out (by rw [← HZ.out]; exact hlt) (by rw [← hx]; exact hin)
        subst hu1
        rw [ho] at C2
        clear hin HJ hx
        go_wp2_with (go_at_call 42; refine (C2 _).mono ?_; rintro e w1 ⟨rfl, rfl⟩)
        go_ret
        exact ⟨rfl, b0⟩
    · have hdj : decide ((j : Int) < (z : Int)) = false := by simp; omega
      obtain rfl : j = z := by omega
      have hon := lF_on h1 h8 HL.out (by rw [← HZ.out]; exact HJ.out)
      rw [← HU.out] at hon
      have A1 := fun W (b : Below w.heap.size w W) => asked_any n n L _ W (HV.out.below b) HL.out h8 h8 (by rw [← HZ.out]; exact fun q hq => (HJ.out q hq).1)
      have A2 := fun y W (hT : Teller y n n (sq n L) W) => apart_any n n (sq n L) y W (onB n L) h8 h8 (fun r c hr hc => by
        have := (HJ.out _ (by rw [HZ.out]; exact cell_lt hr hc)).2
        unfold sq; omega) hT (onB_ap HL.out (by rw [HL.out, ← HZ.out]; exact fun q hq => (HJ.out q hq).1))
      have HON : Hid (u = if onB n L then 0 else 6) := hon
      have HS : Hid (w.heap.size < wr.heap.size) := hsz
      have hrg := range_two wr w.heap.size _ _ hx0 hx1
      generalize onB n L = o at *
      clear hon HJ HU
      go_wp2_with fail
      refine wp_region_noPanic ?_
      refine wp_region_held_drew (S := fun w' => w'.cell? ⟨w.heap.size, 0, none⟩ = some (.int .i64 (n : Int)) ∧ w'.rangeAt w.heap.size 0 [.int .i64 (n : Int), .slice (some ⟨a, off, none⟩) j cap]) (by kernel_rfl) (⟨hx0, hrg⟩) (fun hSx => ?_)
      refine wpAnyH_take (i := 0) (v := .pointer (some ⟨w.heap.size, 0, none⟩)) rfl (by kernel_rfl) (by kernel_rfl) (by kernel_rfl) (fun _ _ _ h => h) (Or.inl ⟨by rfl, fun w' hSw => by (try dsimp only at hSw); go_simp⟩) hSx ?_
      try simp only [Act.put, List.setIfInBounds_toArray]
      refine wpAnyH_take (i := 1) (v := .int .i64 (n : Int)) rfl (by kernel_rfl) (by kernel_rfl) (by kernel_rfl) (fun _ _ _ h => h) (Or.inl ⟨by rfl, fun w' hSw => by (try dsimp only at hSw); have hSw1 := hSw.1; go_simp⟩) hSx ?_
      try simp only [Act.put]
      refine wpAnyH_take (i := 2) (v := .pointer (some ⟨w.heap.size, 0, none⟩)) rfl (by kernel_rfl) (by kernel_rfl) (by kernel_rfl) (fun _ _ _ h => h) (Or.inl ⟨by rfl, fun w' hSw => by (try dsimp only at hSw); go_simp⟩) hSx ?_
      try simp only [Act.put]
      refine wpAnyH_take (i := 3) (v := .int .i64 (n : Int)) rfl (by kernel_rfl) (by kernel_rfl) (by kernel_rfl) (fun _ _ _ h => h) (Or.inl ⟨by rfl, fun w' hSw => by (try dsimp only at hSw); have hSw1 := hSw.1; go_simp⟩) hSx ?_
      try simp only [Act.put]
      refine wpAnyH_take (i := 4) (v := .agg #[.int .i64 (n : Int), .slice (some ⟨a, off, none⟩) j cap]) rfl (by kernel_rfl) (by kernel_rfl) (by kernel_rfl) (fun _ _ _ h => h) (yieldsIf_load_mid (by rfl) 26 _ rfl w.heap.size 0 rfl [.int .i64 (n : Int), .slice (some ⟨a, off, none⟩) j cap] _ (fun _ h => h.2) Tryd.underlying26 rfl inf24) hSx ?_
      try simp only [Act.put]
      refine wpAnyH_ready (rs := [5]) (by kernel_rfl) (by simp) ?_
      refine AllReadyH.cons rfl (fun J hJ => ?_) AllReadyH.nil
      go_simp
      refine (A1 _ b0.drew).mono ?_
      rintro e w5 ⟨⟨y, rfl, hT⟩, b5⟩
      have hS5 : w5.cell? ⟨w.heap.size, 0, none⟩ = some (.int .i64 (n : Int)) ∧ w5.rangeAt w.heap.size 0 [.int .i64 (n : Int), .slice (some ⟨a, off, none⟩) j cap] := by
        have k : ∀ o, w5.cell? ⟨w.heap.size, o, none⟩ = wr.cell? ⟨w.heap.size, o, none⟩ := fun o => b5.cell (p := ⟨w.heap.size, o, none⟩) HS.out
        exact ⟨(k 0).trans hx0, range_two w5 _ _ _ ((k 0).trans hx0) ((k 1).trans hx1)⟩
      have b15 := Below.next b0.drew b5
      go_wp2_with fail
      refine hJ.out _ _ hS5 (fun hSy => ?_)
      clear hJ J
      try simp only [Act.put, List.setIfInBounds_toArray, List.set_cons_zero, List.set_cons_succ]
      refine wpAnyH_ready (rs := [6]) (by kernel_rfl) (by simp) ?_
      refine AllReadyH.cons rfl (fun J hJ => ?_) AllReadyH.nil
      go_simp
      refine (A2 y w5 hT).mono ?_
      rintro e w6 ⟨rfl, b6⟩
      have hS6 : w6.cell? ⟨w.heap.size, 0, none⟩ = some (.int .i64 (n : Int)) ∧ w6.rangeAt w.heap.size 0 [.int .i64 (n : Int), .slice (some ⟨a, off, none⟩) j cap] := by
        have k : ∀ o, w6.cell? ⟨w.heap.size, o, none⟩ = w5.cell? ⟨w.heap.size, o, none⟩ := fun o => b6.cell (p := ⟨w.heap.size, o, none⟩) (Nat.lt_of_lt_of_le HS.out b5.size)
        have k2 : ∀ o, w5.cell? ⟨w.heap.size, o, none⟩ = wr.cell? ⟨w.heap.size, o, none⟩ := fun o => b5.cell (p := ⟨w.heap.size, o, none⟩) HS.out
        exact ⟨(k 0).trans ((k2 0).trans hx0), range_two w6 _ _ _ ((k 0).trans ((k2 0).trans hx0)) ((k 1).trans ((k2 1).trans hx1))⟩
      have b16 := Below.next b15 b6
      go_wp2_with fail
      refine hJ.out _ _ hS6 (fun hSz => ?_)
      clear hJ J
      try simp only [Act.put, List.setIfInBounds_toArray, List.set_cons_zero, List.set_cons_succ]
      refine wpAnyH_take (i := 7) (v := .bool (!o)) rfl (by kernel_rfl) (by kernel_rfl) (by kernel_rfl) (fun _ _ _ h => h) (Or.inl ⟨by rfl, fun w' hSw => by (try dsimp only at hSw); go_simp⟩) hSz ?_
      try simp only [Act.put, List.setIfInBounds_toArray]
      refine wpAnyH_done (by kernel_rfl) ?_ _
      refine NoPanic.normal ?_
      clear hSx hSy hSz hS5 hS6 hx0 hx1 hrg A1 A2
      cases o with
      | true =>
        have hu0 : u = 0 := HON.out
        subst hu0
        go_wp2
        go_ret
        exact ⟨rfl, b16⟩
      | false =>
        have hu0 : u = 6 := HON.out
        subst hu0
        go_wp2
        go_ret
        exact ⟨rfl, b16⟩
theorem Check_any (s : Int) (L : List Int) (v : Value) (w : World) (hv : Sl w v L) (hll : L.length ≤ maxLen) :
    Calls Tryd.prog 28 #[.agg #[.int .i64 s, v]] w fun e w' => e = .returned (.int .i64 (lF s L : Int)) ∧ Below w.heap.size w w' := by
  by_cases h : s < 1 ∨ 8 < s
  · rw [lF_far h]; exact Check_far s v w h
  · obtain ⟨n, rfl⟩ : ∃ n : Nat, s = n := ⟨s.toNat, by omega⟩
    by_cases hl : L.length = n * n
    · exact Check_main n L v w (by omega) (by omega) hv hl
    · rw [lF_shape (by omega) (by omega) hl]; exact Check_shape n L v w (by omega) (by omega) hv hll hl

end Go.Proofs.YtlmjlffipinjiaaDoor

/- The walks of the document's once, LatinFault. -/
namespace Go.Proofs.YtlmjlffipinjiaaDoor
open Go.RowKit

theorem wrap99 {q : Nat} (h : q ≤ 99) : IntKind.i64.wrap (q : Int) = (q : Int) := by rw [IntKind.wrap_i64]; omega

set_option maxRecDepth 100000 in
set_option maxHeartbeats 8000000 in
theorem onceD_any (n : Nat) (L : List Int) (v : Value) (w : World) (o : Bool) (h1 : 1 ≤ n) (h8 : n ≤ 8) (hv : Sl w v L) (hl : L.length ≤ 99) (ho : o = onB n L) :
    Calls Tryd.prog 30 #[.int .i64 (n : Int), v] w fun e w' => e = .returned (.bool o) ∧ Below w.heap.size w w' := by
  obtain ⟨a, cap, rfl, hc⟩ := hv
  have HO : Hid (o = onB n L) := ho
  obtain ⟨z, hz⟩ : ∃ z, z = L.length := ⟨_, rfl⟩
  have HZ : Hid (z = L.length) := hz
  have HC : Hid (∀ j, j < z → ∃ b off, a = some ⟨b, off, none⟩ ∧ w.cell? ⟨b, off + j, none⟩ = some (.int .i64 (L.getD j 0))) := by rw [hz]; exact hc
  rw [← hz] at hl ⊢
  have hn0 : (n : Int) ≠ 0 := by omega
  have hnn : ¬ n = 0 := by omega
  have hnp : (0 : Int) < n := by omega
  clear hc hz ho
  go_enter Tryd.func30, Tryd.ntmps30
  go_wp2
  go_loopw [5] (fun i wr => ∃ j : Nat, i = .int .i64 (j : Int) ∧ j ≤ z ∧ Hid (∀ i k, k < i → i < j → L.getD i 0 = L.getD k 0 → i / n ≠ k / n ∧ i % n ≠ k % n) ∧ Below w.heap.size w wr) (fun i _ => (z - intOf i).toNat)
  case atStart => exact ⟨0, rfl, by omega, (fun i k _ h => by omega : ∀ i k, k < i → i < 0 → _), Below.refl _ _⟩
  case round =>
    obtain ⟨j, rfl, hj, HJ, hB⟩ := hrel
    by_cases hlt : j < z
    · have hdj : decide ((j : Int) < (z : Int)) = true := by simp; omega
      have hji : (j : Int) < z := by omega
      have hj0 : (0 : Int) ≤ (j : Int) := by omega
      obtain ⟨b, off, rfl, hcj⟩ := HC.out j hlt
      have hb := block_lt_of_cell hcj
      have HX : Hid (∀ k, k < z → w.cell? ⟨b, off + k, none⟩ = some (.int .i64 (L.getD k 0))) := fun k hk => by
        obtain ⟨b', o', e, h⟩ := HC.out k hk
        simp only [Option.some.injEq, Addr.mk.injEq, and_true] at e
        obtain ⟨rfl, rfl⟩ := e
        exact h
      obtain ⟨x, hx⟩ : ∃ x, x = L.getD j 0 := ⟨_, rfl⟩
      have Hx : Hid (x = L.getD j 0) := hx
      rw [← hx] at hcj
      have hdiv : (j : Int) / (n : Int) = ((j / n : Nat) : Int) := by simp
      have hmod : (j : Int) % (n : Int) = ((j % n : Nat) : Int) := by simp
      obtain ⟨qj, Hqj⟩ : ∃ q, Hid (j / n = q) := ⟨_, rfl⟩
      obtain ⟨rj, Hrj⟩ : ∃ q, Hid (j % n = q) := ⟨_, rfl⟩
      have hqj99 : qj ≤ 99 := by rw [← Hqj.out]; exact Nat.le_trans (Nat.div_le_self _ _) (by omega)
      have hwqj : IntKind.i64.wrap (qj : Int) = (qj : Int) := wrap99 hqj99
      have hrj99 : rj ≤ 99 := by rw [← Hrj.out]; exact Nat.le_trans (Nat.mod_le _ _) (by omega)
      have hwrj : IntKind.i64.wrap (rj : Int) = (rj : Int) := wrap99 hrj99
      rw [Hqj.out] at hdiv
      rw [Hrj.out] at hmod
      clear hx
      go_wp2
      go_loopw [6] (fun i wr => ∃ k : Nat, i = .int .i64 (k : Int) ∧ k ≤ j ∧ Hid (∀ t, t < k → x = L.getD t 0 → qj ≠ t / n ∧ rj ≠ t % n) ∧ Below w.heap.size w wr) (fun i _ => (j - intOf i).toNat)
      case atStart => exact ⟨0, rfl, by omega, (fun t h => by omega : ∀ t, t < 0 → _), hB⟩
      case round =>
        clear hB
        obtain ⟨k, rfl, hk, HK, hB⟩ := hrel
        by_cases hkl : k < j
        · have hdk : decide ((k : Int) < (j : Int)) = true := by simp; omega
          have hki : (k : Int) < z := by omega
          have hk0 : (0 : Int) ≤ (k : Int) := by omega
          have hck := (hB.cell (p := ⟨b, off + k, none⟩) hb).trans (HX.out k (by omega))
          have hcj2 := (hB.cell (p := ⟨b, off + j, none⟩) hb).trans hcj
          obtain ⟨y, hy⟩ : ∃ y, y = L.getD k 0 := ⟨_, rfl⟩
          have Hy : Hid (y = L.getD k 0) := hy
          rw [← hy] at hck
          have hdiv2 : (k : Int) / (n : Int) = ((k / n : Nat) : Int) := by simp
          have hmod2 : (k : Int) % (n : Int) = ((k % n : Nat) : Int) := by simp
          obtain ⟨qk, Hqk⟩ : ∃ q, Hid (k / n = q) := ⟨_, rfl⟩
          obtain ⟨rk, Hrk⟩ : ∃ q, Hid (k % n = q) := ⟨_, rfl⟩
          have hqk99 : qk ≤ 99 := by rw [← Hqk.out]; exact Nat.le_trans (Nat.div_le_self _ _) (by omega)
          have hwqk : IntKind.i64.wrap (qk : Int) = (qk : Int) := wrap99 hqk99
          have hrk99 : rk ≤ 99 := by rw [← Hrk.out]; exact Nat.le_trans (Nat.mod_le _ _) (by omega)
          have hwrk : IntKind.i64.wrap (rk : Int) = (rk : Int) := wrap99 hrk99
          rw [Hqk.out] at hdiv2
          rw [Hrk.out] at hmod2
          have hno : x = y → (qj = qk ∨ rj = rk) → o = false := fun e1 e2 => by
            rw [HO.out, Bool.eq_false_iff, ne_eq, onB_iff]
            intro h
            have := h j k hkl (by rw [← HZ.out]; exact hlt) (by rw [← Hx.out, ← Hy.out]; exact e1)
            rw [Hqj.out, Hqk.out, Hrj.out, Hrk.out] at this
            rcases e2 with e2 | e2
            · exact this.1 e2
            · exact this.2 e2
          have HNO : Hid (x = y → (qj = qk ∨ rj = rk) → o = false) := hno
          have HN : Hid (¬ (x = y ∧ (qj = qk ∨ rj = rk)) → ∀ t, t < k + 1 → x = L.getD t 0 → qj ≠ t / n ∧ rj ≠ t % n) := fun hne t ht e => by
            by_cases et : t = k
            · subst et
              rw [Hqk.out, Hrk.out]
              rw [← Hy.out] at e
              exact ⟨fun e2 => hne ⟨e, .inl e2⟩, fun e2 => hne ⟨e, .inr e2⟩⟩
            · exact HK.out t (by omega) e
          clear hy hno HK
          by_cases hxy : x = y
          · have hbn : (x == y) = true := by simpa using hxy
            by_cases hq : qj = qk
            · have hqb : ((qj : Int) == (qk : Int)) = true := by simp; omega
              obtain rfl := HNO.out hxy (.inl hq)
              clear hxy hq HN
              go_wp2
              go_quiet (fail)
              go_wp2
              go_ret
              exact ⟨rfl, bdrewN hB _⟩
            · have hqb : ((qj : Int) == (qk : Int)) = false := by simp; omega
              by_cases hr : rj = rk
              · have hrb : ((rj : Int) == (rk : Int)) = true := by simp; omega
                obtain rfl := HNO.out hxy (.inr hr)
                clear hxy hq hr HN
                go_wp2
                go_quiet (fail)
                go_wp2
                go_ret
                exact ⟨rfl, bdrewN hB _⟩
              · have hrb : ((rj : Int) == (rk : Int)) = false := by simp; omega
                have HN2 : Hid (∀ t, t < k + 1 → x = L.getD t 0 → qj ≠ t / n ∧ rj ≠ t % n) := HN.out fun h => h.2.elim hq hr
                clear hxy hq hr HN
                go_wp2
                go_quiet (fail)
                go_wp2
                go_roundw
                case rel => exact ⟨k + 1, by go_num, by omega, HN2, bdrewN hB _⟩
                case measure => simp [intOf]; omega
          · have hbn : (x == y) = false := by simpa using hxy
            have HN2 : Hid (∀ t, t < k + 1 → x = L.getD t 0 → qj ≠ t / n ∧ rj ≠ t % n) := HN.out fun h => hxy h.1
            clear hxy HN
            go_wp2
            go_quiet (fail)
            go_wp2
            go_roundw
            case rel => exact ⟨k + 1, by go_num, by omega, HN2, bdrewN hB _⟩
            case measure => simp [intOf]; omega
        · have hdk : decide ((k : Int) < (j : Int)) = false := by simp; omega
          obtain rfl : k = j := by omega
          have HJ2 : Hid (∀ i t, t < i → i < k + 1 → L.getD i 0 = L.getD t 0 → i / n ≠ t / n ∧ i % n ≠ t % n) := fun i t h1 h2 e => by
            by_cases ei : i = k
            · subst ei
              rw [Hqj.out, Hrj.out]
              exact HK.out t h1 (by rw [Hx.out]; exact e)
            · exact HJ.out i t h1 (by omega) e
          clear HJ HK
          go_wp2
          go_roundw
          case rel => exact ⟨k + 1, by go_num, by omega, HJ2, hB⟩
          case measure => simp [intOf]; omega
    · have hdj : decide ((j : Int) < (z : Int)) = false := by simp; omega
      obtain rfl : j = z := by omega
      have ho : o = true := by rw [HO.out, onB_iff, ← HZ.out]; exact HJ.out
      subst ho
      go_wp2
      go_ret
      exact ⟨rfl, hB⟩
end Go.Proofs.YtlmjlffipinjiaaDoor

namespace Go.Proofs.YtlmjlffipinjiaaDoor
open Go.RowKit

set_option maxHeartbeats 4000000 in
theorem LatinFault_low (s : Int) (v : Value) (w : World) (h : s < 1) :
    Calls Tryd.prog 11 #[.agg #[.int .i64 s, v]] w fun e w' => e = .returned (.int .i64 1) ∧ Below w.heap.size w w' := by
  have hd : decide (s < 1) = true := decide_eq_true h
  go_enter Tryd.func11, Tryd.ntmps11
  go_wp2
  go_ret
  exact ⟨rfl, balloc w _⟩
set_option maxHeartbeats 4000000 in
theorem LatinFault_high (s : Int) (v : Value) (w : World) (h : 8 < s) :
    Calls Tryd.prog 11 #[.agg #[.int .i64 s, v]] w fun e w' => e = .returned (.int .i64 1) ∧ Below w.heap.size w w' := by
  have hd : decide (s < 1) = false := decide_eq_false (by omega)
  have hd2 : decide (8 < s) = true := decide_eq_true h
  go_enter Tryd.func11, Tryd.ntmps11
  go_wp2
  go_ret
  exact ⟨rfl, balloc w _⟩
set_option maxHeartbeats 4000000 in
theorem LatinFault_shape (n : Nat) (L : List Int) (v : Value) (w : World) (h1 : 1 ≤ n) (h8 : n ≤ 8) (hv : Sl w v L) (hl : L.length ≠ n * n) :
    Calls Tryd.prog 11 #[.agg #[.int .i64 (n : Int), v]] w fun e w' => e = .returned (.int .i64 2) ∧ Below w.heap.size w w' := by
  have hd : decide ((n : Int) < 1) = false := by simp; omega
  have hd2 : decide ((8 : Int) < n) = false := by simp; omega
  obtain ⟨a, cap, rfl, _⟩ := hv
  obtain ⟨z, hz⟩ : ∃ z, z = n * n := ⟨_, rfl⟩
  have hz99 : z ≤ 99 := by rw [hz]; exact Nat.le_trans (Nat.mul_le_mul h8 h8) (by decide)
  have hmul : (n : Int) * (n : Int) = (z : Int) := by rw [hz]; simp
  have hne : ((L.length : Int) != (z : Int)) = true := by simp; omega
  generalize L.length = q at *
  clear hz hl
  go_enter Tryd.func11, Tryd.ntmps11
  go_wp2
  go_ret
  exact ⟨rfl, balloc w _⟩
set_option maxRecDepth 100000 in
set_option maxHeartbeats 8000000 in
theorem LatinFault_main (n : Nat) (L : List Int) (v : Value) (w : World) (h1 : 1 ≤ n) (h8 : n ≤ 8) (hv : Sl w v L) (hl : L.length = n * n) :
    Calls Tryd.prog 11 #[.agg #[.int .i64 (n : Int), v]] w fun e w' => e = .returned (.int .i64 (lF n L : Int)) ∧ Below w.heap.size w w' := by
  have hd : decide ((n : Int) < 1) = false := by simp; omega
  have hd2 : decide ((8 : Int) < n) = false := by simp; omega
  have hpos : 0 < n * n := Nat.mul_pos h1 h1
  have HV : Hid (Sl w v L) := hv
  obtain ⟨a, off, cap, rfl, ha, hcell⟩ := hv.form hl hpos
  obtain ⟨u, hu⟩ : ∃ u, u = lF n L := ⟨_, rfl⟩
  have HU : Hid (u = lF n L) := hu
  rw [← hu]
  obtain ⟨z, hz⟩ : ∃ z, z = n * n := ⟨_, rfl⟩
  have hz99 : z ≤ 99 := by rw [hz]; exact Nat.le_trans (Nat.mul_le_mul h8 h8) (by decide)
  have hmul : (n : Int) * (n : Int) = (z : Int) := by rw [hz]; simp
  have hne : ((z : Int) != (z : Int)) = false := by simp
  have HL : Hid (L.length = n * n) := hl
  have HZ : Hid (z = n * n) := hz
  have HC : Hid (∀ j, j < z → w.cell? ⟨a, off + j, none⟩ = some (.int .i64 (L.getD j 0))) := by rw [hz]; exact hcell
  rw [← hz] at HV ⊢
  have b0 := balloc w (.cells #[.int .i64 (n : Int), .slice (some ⟨a, off, none⟩) z cap] 26)
  have hx0 : (w.alloc (.cells #[.int .i64 (n : Int), .slice (some ⟨a, off, none⟩) z cap] 26)).cell? ⟨w.heap.size, 0, none⟩ = some (.int .i64 (n : Int)) := by rw [cell_of_row _ _ _ _ _ _ (heap_alloc_new w _)]; rfl
  have hx1 : (w.alloc (.cells #[.int .i64 (n : Int), .slice (some ⟨a, off, none⟩) z cap] 26)).cell? ⟨w.heap.size, 1, none⟩ = some (.slice (some ⟨a, off, none⟩) z cap) := by rw [cell_of_row _ _ _ _ _ _ (heap_alloc_new w _)]; rfl
  clear hcell hl hz hu hv hpos
  go_enter Tryd.func11, Tryd.ntmps11
  go_wp2
  go_loopw [3] (fun i wr => ∃ j : Nat, i = .int .i64 (j : Int) ∧ j ≤ z ∧ Hid (∀ q, q < j → 0 ≤ L.getD q 0 ∧ L.getD q 0 < n) ∧ wr.cell? ⟨w.heap.size, 0, none⟩ = some (.int .i64 (n : Int)) ∧ wr.cell? ⟨w.heap.size, 1, none⟩ = some (.slice (some ⟨a, off, none⟩) z cap) ∧ Below w.heap.size w wr) (fun i _ => (z - intOf i).toNat)
  case atStart => exact ⟨0, rfl, by omega, (fun q h => by omega : ∀ q, q < 0 → _), hx0, hx1, b0⟩
  case round =>
    clear hx0 hx1 b0
    obtain ⟨j, rfl, hj, HJ, hx0, hx1, b0⟩ := hrel
    by_cases hlt : j < z
    · have hdj : decide ((j : Int) < (z : Int)) = true := by simp; omega
      have hji : (j : Int) < z := by omega
      have hj0 : (0 : Int) ≤ (j : Int) := by omega
      have hcj := (b0.cell (p := ⟨a, off + j, none⟩) ha).trans (HC.out j hlt)
      obtain ⟨x, hx⟩ : ∃ x, x = L.getD j 0 := ⟨_, rfl⟩
      rw [← hx] at hcj
      by_cases hneg : x < 0
      · have hu1 : u = 1 := by rw [HU.out]; exact lF_out h1 h8 HL.out (by rw [← HZ.out]; exact hlt) (by rw [← hx]; omega)
        subst hu1
        have hdx : decide (x < 0) = true := decide_eq_true hneg
        clear HJ hx hneg
        go_wp2
        go_quiet (fail)
        go_wp2
        go_ret
        exact ⟨rfl, bdrewN b0 _⟩
      · have hdx : decide (x < 0) = false := decide_eq_false hneg
        by_cases hbig : (n : Int) ≤ x
        · have hu1 : u = 1 := by rw [HU.out]; exact lF_out h1 h8 HL.out (by rw [← HZ.out]; exact hlt) (by rw [← hx]; omega)
          subst hu1
          have hdx2 : decide ((n : Int) ≤ x) = true := decide_eq_true hbig
          clear HJ hx hneg hbig
          go_wp2
          go_quiet (fail)
          go_wp2
          go_ret
          exact ⟨rfl, bdrewN b0 _⟩
        · have hdx2 : decide ((n : Int) ≤ x) = false := decide_eq_false hbig
          have HJ2 : Hid (∀ q, q < j + 1 → 0 ≤ L.getD q 0 ∧ L.getD q 0 < n) := fun q hq => by
            by_cases e : q = j
            · subst e; rw [← hx]; omega
            · exact HJ.out q (by omega)
          clear HJ hx hneg hbig
          go_wp2
          go_quiet (fail)
          go_wp2
          go_roundw
          case rel => exact ⟨j + 1, by go_num, by omega, HJ2, hx0, hx1, bdrewN b0 _⟩
          case measure => simp [intOf]; omega
    · have hdj : decide ((j : Int) < (z : Int)) = false := by simp; omega
      obtain rfl : j = z := by omega
      have hon := lF_on h1 h8 HL.out (by rw [← HZ.out]; exact HJ.out)
      rw [← HU.out] at hon
      have C := onceD_any n L _ wr (onB n L) h1 h8 (HV.out.below b0) (by rw [HL.out, ← HZ.out]; exact hz99) rfl
      generalize onB n L = o at *
      cases o with
      | true =>
        have hu0 : u = 0 := hon
        subst hu0
        clear hon HJ HU
        go_wp2_with (go_at_call 30; refine C.mono ?_; rintro e w1 ⟨rfl, b1⟩)
        go_ret
        exact ⟨rfl, Below.next b0 b1⟩
      | false =>
        have hu0 : u = 6 := hon
        subst hu0
        clear hon HJ HU
        go_wp2_with (go_at_call 30; refine C.mono ?_; rintro e w1 ⟨rfl, b1⟩)
        go_ret
        exact ⟨rfl, Below.next b0 b1⟩
theorem LatinFault_any (s : Int) (L : List Int) (v : Value) (w : World) (hv : Sl w v L) (_hll : L.length ≤ maxLen) :
    Calls Tryd.prog 11 #[.agg #[.int .i64 s, v]] w fun e w' => e = .returned (.int .i64 (lF s L : Int)) ∧ Below w.heap.size w w' := by
  by_cases h : s < 1 ∨ 8 < s
  · rw [lF_far h]
    rcases h with h | h
    · exact LatinFault_low s v w h
    · exact LatinFault_high s v w h
  · obtain ⟨n, rfl⟩ : ∃ n : Nat, s = n := ⟨s.toNat, by omega⟩
    by_cases hl : L.length = n * n
    · exact LatinFault_main n L v w (by omega) (by omega) hv hl
    · rw [lF_shape (by omega) (by omega) hl]; exact LatinFault_shape n L v w (by omega) (by omega) hv hl
end Go.Proofs.YtlmjlffipinjiaaDoor
