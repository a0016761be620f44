/- The program's isClosed, walked. -/
import Derived.Test.YtgkfddcmngodgaaN7
namespace Go.Proofs.Ytgkfddcmngodgaa
open Go.RowKit

set_option maxRecDepth 100000 in
set_option maxHeartbeats 16000000 in
theorem isClosed_any {n : Nat} {l : List Int} (hg : GoodT n l) (v : Value) (w : World) (hv : Sl w v l) {M : List Nat} {u : Value} (hu : Slc w u M) (hM9 : M.length ≤ 9) (hM0 : 0 < M.length) (hMn : ∀ x ∈ M, x < n) :
    Calls Try.prog 36 #[.agg #[.int .i64 (n : Int), v], u] w fun e w' => e = .returned (.bool (clB (tB n l) M)) ∧ Below w.heap.size w w' := by
  obtain ⟨m, hm⟩ : ∃ m, M.length = m + 1 := ⟨M.length - 1, by omega⟩
  rcases hu with ⟨rfl, rfl⟩ | ⟨ub, uo, uc, rfl, hu1, hu2, hu3⟩
  · simp at hM0
  · by_cases h1 : M.length = 1
    · have hcl : clB (tB n l) M = true := by unfold clB; rw [h1]; rfl
      have b1 := balloc w (.cells #[.int .i64 (n : Int), v] 24)
      rw [hcl, h1]
      clear hu3 hMn hu1 hu2 hm hM9 hM0 h1 hcl
      go_enter Try.func36, Try.ntmps36
      go_wp2
      refine wp_region_noPanic ?_
      refine wp_region_held_drew (S := (fun _ : World => True)) (by kernel_rfl) (trivial) (fun hSx => ?_)
      refine wpAnyH_take (i := 0) (v := .slice (some ⟨ub, uo, none⟩) 1 uc) rfl (by kernel_rfl) (by kernel_rfl) (by kernel_rfl) (fun _ _ _ h => h) (Or.inl ⟨by kernel_rfl, fun w' hSw => by (try dsimp only at hSw); go_simp⟩) hSx ?_
      try simp only [Act.put, List.setIfInBounds_toArray]
      refine wpAnyH_take (i := 1) (v := .int .i64 1) rfl (by kernel_rfl) (by kernel_rfl) (by kernel_rfl) (fun _ _ _ h => h) (Or.inl ⟨by kernel_rfl, fun w' hSw => by (try dsimp only at hSw); go_simp⟩) hSx ?_
      try simp only [Act.put]
      refine wpAnyH_take (i := 2) (v := .bool true) rfl (by kernel_rfl) (by kernel_rfl) (by kernel_rfl) (fun _ _ _ h => h) (Or.inl ⟨by kernel_rfl, fun w' hSw => by (try dsimp only at hSw); go_simp⟩) hSx ?_
      try simp only [Act.put]
      refine wpAnyH_take (i := 3) (v := .bool true) rfl (by kernel_rfl) (by kernel_rfl) (by kernel_rfl) (fun _ _ _ h => h) (Or.inl ⟨by kernel_rfl, fun w' hSw => by (try dsimp only at hSw); go_simp⟩) hSx ?_
      try simp only [Act.put]
      refine wpAnyH_take (i := 4) (v := undef) rfl (by kernel_rfl) (by kernel_rfl) (by kernel_rfl) (fun _ _ _ h => h) (Or.inr ⟨by kernel_rfl, rfl⟩) hSx ?_
      try simp only [Act.put]
      refine wpAnyH_take (i := 5) (v := undef) rfl (by kernel_rfl) (by kernel_rfl) (by kernel_rfl) (fun _ _ _ h => h) (Or.inr ⟨by kernel_rfl, rfl⟩) hSx ?_
      try simp only [Act.put]
      refine wpAnyH_take (i := 6) (v := undef) rfl (by kernel_rfl) (by kernel_rfl) (by kernel_rfl) (fun _ _ _ h => h) (Or.inr ⟨by kernel_rfl, rfl⟩) hSx ?_
      try simp only [Act.put]
      refine wpAnyH_take (i := 7) (v := undef) rfl (by kernel_rfl) (by kernel_rfl) (by kernel_rfl) (fun _ _ _ h => h) (Or.inr ⟨by kernel_rfl, rfl⟩) hSx ?_
      try simp only [Act.put]
      refine wpAnyH_take (i := 8) (v := undef) rfl (by kernel_rfl) (by kernel_rfl) (by kernel_rfl) (fun _ _ _ h => h) (Or.inr ⟨by kernel_rfl, rfl⟩) hSx ?_
      try simp only [Act.put]
      refine wpAnyH_take (i := 9) (v := undef) rfl (by kernel_rfl) (by kernel_rfl) (by kernel_rfl) (fun _ _ _ h => h) (Or.inr ⟨by kernel_rfl, rfl⟩) hSx ?_
      try simp only [Act.put]
      refine wpAnyH_take (i := 10) (v := undef) rfl (by kernel_rfl) (by kernel_rfl) (by kernel_rfl) (fun _ _ _ h => h) (Or.inr ⟨by kernel_rfl, rfl⟩) hSx ?_
      try simp only [Act.put]
      refine wpAnyH_take (i := 11) (v := undef) rfl (by kernel_rfl) (by kernel_rfl) (by kernel_rfl) (fun _ _ _ h => h) (Or.inr ⟨by kernel_rfl, rfl⟩) hSx ?_
      try simp only [Act.put]
      refine wpAnyH_take (i := 12) (v := undef) rfl (by kernel_rfl) (by kernel_rfl) (by kernel_rfl) (fun _ _ _ h => h) (Or.inr ⟨by kernel_rfl, rfl⟩) hSx ?_
      try simp only [Act.put]
      refine wpAnyH_take (i := 13) (v := undef) rfl (by kernel_rfl) (by kernel_rfl) (by kernel_rfl) (fun _ _ _ h => h) (Or.inr ⟨by kernel_rfl, rfl⟩) hSx ?_
      try simp only [Act.put]
      refine wpAnyH_take (i := 14) (v := undef) rfl (by kernel_rfl) (by kernel_rfl) (by kernel_rfl) (fun _ _ _ h => h) (Or.inr ⟨by kernel_rfl, rfl⟩) hSx ?_
      try simp only [Act.put]
      refine wpAnyH_ready (rs := [15]) (by kernel_rfl) (by simp) ?_
      refine AllReadyH.cons rfl (fun J hJ => ?_) AllReadyH.nil
      go_simp
      refine hJ.out _ _ trivial (fun hSx => ?_)
      clear hJ J
      try simp only [Act.put, List.setIfInBounds_toArray, List.set_cons_zero, List.set_cons_succ]
      refine wpAnyH_ready (rs := [16]) (by kernel_rfl) (by simp) ?_
      refine AllReadyH.cons rfl (fun J hJ => ?_) AllReadyH.nil
      go_simp
      refine hJ.out _ _ trivial (fun hSx => ?_)
      clear hJ J
      try simp only [Act.put, List.setIfInBounds_toArray, List.set_cons_zero, List.set_cons_succ]
      refine wpAnyH_done (by kernel_rfl) ?_ _
      refine NoPanic.normal ?_
      clear hSx
      go_wp2
      go_ret
      exact ⟨rfl, b1.drew⟩
    · have hlast := hu3 m (by omega)
      have hfst := hu3 0 (by omega)
      rw [Nat.add_zero] at hfst
      have hpn : M.getD m 0 < n := hMn _ (by rw [List.getD_eq_getElem?_getD, List.getElem?_eq_getElem (by omega)]; exact List.getElem_mem _)
      have hqn : M.getD 0 0 < n := hMn _ (by rw [List.getD_eq_getElem?_getD, List.getElem?_eq_getElem (by omega)]; exact List.getElem_mem _)
      have hmf : clB (tB n l) M = tB n l (M.getD m 0) (M.getD 0 0) := by
        unfold clB
        rw [decide_eq_false h1, hm, Nat.add_sub_cancel, Bool.false_or]
      have hn9 := hg.le
      obtain ⟨t, Ht⟩ : ∃ t, Hid (tB n l = t) := ⟨_, rfl⟩
      rw [hmf]
      rw [Ht.out]
      have CB : ∀ W, Below w.heap.size w W → ∀ a b, a < n → b < n → Calls Try.prog 40 #[.agg #[.int .i64 (n : Int), v], .int .i64 (a : Int), .int .i64 (b : Int)] W fun e w' => e = .returned (.bool (t a b)) ∧ Below W.heap.size W w' := fun W bW a b ha hb => by rw [← Ht.out]; exact beats_any hg.one hg.le hg.len v W (hv.below bW) ha hb
      have b1 := balloc w (.cells #[.int .i64 (n : Int), v] 24)
      have HX := sq_cells (n : Int) v w
      obtain ⟨w0, Hw0⟩ : ∃ w0, Hid (w.alloc (.cells #[.int .i64 (n : Int), v] 24) = w0) := ⟨_, rfl⟩
      rw [Hw0.out] at b1 HX
      have HX2 : Hid (∀ W, Below w0.heap.size w0 W → W.cell? ⟨w.heap.size, 0, none⟩ = some (.int .i64 (n : Int)) ∧ W.cell? ⟨w.heap.size, 1, none⟩ = some v) := HX
      have HCB : Hid (∀ W, Below w0.heap.size w0 W → ∀ a b, a < n → b < n → Calls Try.prog 40 #[.agg #[.int .i64 (n : Int), v], .int .i64 (a : Int), .int .i64 (b : Int)] W fun e w' => e = .returned (.bool (t a b)) ∧ Below W.heap.size W w') := fun W bW => CB W (Below.next b1 bW)
      have HLA : Hid (∀ W, Below w0.heap.size w0 W → W.cell? ⟨ub, uo + m, none⟩ = some (.int .i64 ((M.getD m 0 : Nat) : Int))) := fun W bW => (bW.cell (World.block_lt_of_cell? _ _ ((b1.cell (World.block_lt_of_cell? _ _ hlast)).trans hlast))).trans ((b1.cell (World.block_lt_of_cell? _ _ hlast)).trans hlast)
      have HLB : Hid (∀ W, Below w0.heap.size w0 W → W.cell? ⟨ub, uo, none⟩ = some (.int .i64 ((M.getD 0 0 : Nat) : Int))) := fun W bW => (bW.cell (World.block_lt_of_cell? _ _ ((b1.cell (World.block_lt_of_cell? _ _ hfst)).trans hfst))).trans ((b1.cell (World.block_lt_of_cell? _ _ hfst)).trans hfst)
      have HB0 : Hid (∀ W, Below w0.heap.size w0 W → Below w.heap.size w W) := fun W b => Below.next b1 b
      have hsz0 : w.heap.size ≤ w0.heap.size := b1.size
      obtain ⟨x0, x1⟩ := HX2.out w0 (Below.refl _ _)
      rw [← Hw0.out] at x0 x1
      have hnt : (!true) = false := rfl
      have hnf : (!false) = true := rfl
      clear HX hv b1 hg CB hlast hfst hu3 hMn
      obtain ⟨p, Hp⟩ : ∃ p, Hid (M.getD m 0 = p) := ⟨_, rfl⟩
      obtain ⟨q, Hq⟩ : ∃ q, Hid (M.getD 0 0 = q) := ⟨_, rfl⟩
      rw [Hp.out] at HLA hpn ⊢
      rw [Hq.out] at HLB hqn ⊢
      have HC1 : Hid (∀ W, Below w0.heap.size w0 W → Calls Try.prog 40 #[.agg #[.int .i64 (n : Int), v], .int .i64 (p : Int), .int .i64 (q : Int)] W fun e w' => e = .returned (.bool (t p q)) ∧ Below W.heap.size W w') := fun W bW => HCB.out W bW p q hpn hqn
      obtain ⟨p1, Hp1⟩ : ∃ p1, Hid (t p q = p1) := ⟨_, rfl⟩
      rw [Hp1.out] at HC1 ⊢
      obtain ⟨N, HN⟩ : ∃ N, Hid (M.length = N) := ⟨_, rfl⟩
      rw [HN.out] at h1 hu1 hM9 hm ⊢
      have hm0 : ((N : Int) == 1) = false := by simp; omega
      have hwm : IntKind.i64.wrap ((N : Int) - 1) = (m : Int) := by rw [IntKind.wrap_i64]; omega
      have hmlt : (m : Int) < (N : Int) := by omega
      have hn0 : (0 : Int) < (N : Int) := by omega
      have hn01 : 0 < N := by omega
      have hm00 : (0 : Int) ≤ (m : Int) := by omega
      clear hmf HCB hu2 hm h1
      cases p1 <;> (
        go_enter Try.func36, Try.ntmps36
        go_wp2
        rw [Hw0.out] at x0 x1 ⊢
        have hBD : Below w0.heap.size w0 w0.drew := (Below.refl _ _).drew
        have hSA : w0.drew.cell? ⟨w.heap.size, 0, none⟩ = some (.int .i64 (n : Int)) ∧ w0.drew.cell? ⟨w.heap.size, 1, none⟩ = some v ∧ w0.drew.cell? ⟨ub, uo + m, none⟩ = some (.int .i64 (p : Int)) ∧ w0.drew.cell? ⟨ub, uo, none⟩ = some (.int .i64 (q : Int)) := ⟨x0, x1, HLA.out _ hBD, HLB.out _ hBD⟩
        go_region_held3 (fun W : World => W.cell? ⟨w.heap.size, 0, none⟩ = some (.int .i64 (n : Int)) ∧ W.cell? ⟨w.heap.size, 1, none⟩ = some v ∧ W.cell? ⟨ub, uo + m, none⟩ = some (.int .i64 (p : Int)) ∧ W.cell? ⟨ub, uo, none⟩ = some (.int .i64 (q : Int))) (first | assumption) (first
          | (go_at_call 40; refine (HC1.out _ (by assumption)).mono ?_; rintro e w5 ⟨rfl, hb5⟩; have hB5 := Below.next (by assumption) hb5; have hS5 := And.intro (HX2.out w5 hB5).1 (And.intro (HX2.out w5 hB5).2 (And.intro (HLA.out w5 hB5) (HLB.out w5 hB5)))))
        go_wp2
        go_ret
        exact ⟨rfl, HB0.out _ hB5⟩)
end Go.Proofs.Ytgkfddcmngodgaa
