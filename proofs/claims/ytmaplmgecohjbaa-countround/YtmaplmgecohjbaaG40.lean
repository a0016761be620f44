/- The walks of Compare, the order of moves, inOrder. -/
import Derived.Test.YtmaplmgecohjbaaGSh
import Derived.Test.YtmaplmgecohjbaaGSc
import Derived.Test.YtmaplmgecohjbaaGLex
import Derived.Test.YtmaplmgecohjbaaG11
namespace Go.Proofs.Ytmaplmgecohjbaa
open Go.RowKit

theorem cmp_nat (a b : Nat) : Lib.compareInt (a : Int) (b : Int) = if a < b then -1 else if b < a then 1 else 0 := by
  unfold Lib.compareInt
  by_cases h1 : a < b
  · rw [if_pos h1, if_pos (by omega)]
  · rw [if_neg h1, if_neg (by omega)]
    by_cases h2 : b < a
    · rw [if_pos h2, if_pos (by omega)]
    · rw [if_neg h2, if_neg (by omega)]

set_option maxRecDepth 100000 in
set_option maxHeartbeats 1000000 in
theorem Compare_any (f g : Nat → Nat) (a b : Nat) (w : World) (ha : ∀ j, j < 7 → w.cell? ⟨a, j, none⟩ = some (.int .i64 (f j : Int))) (hb : ∀ j, j < 7 → w.cell? ⟨b, j, none⟩ = some (.int .i64 (g j : Int))) :
    Calls Try.prog 63 #[.slice (some ⟨a, 0, none⟩) 7 7, .slice (some ⟨b, 0, none⟩) 7 7] w fun e w' => e = .returned (.int .i64 (lexc f g 7 0)) ∧ w' = w := by
  have C := fun (x y : Int) W => AnyG.cmp_Compare_int cmpInt x y W
  change ∀ (x y : Int) W, Calls Try.prog 82 _ _ _ at C
  have HA : Hid (∀ j, j < 7 → w.cell? ⟨a, j, none⟩ = some (.int .i64 (f j : Int))) := ha
  have HB : Hid (∀ j, j < 7 → w.cell? ⟨b, j, none⟩ = some (.int .i64 (g j : Int))) := hb
  obtain ⟨z, Hz⟩ : ∃ z, Hid (lexc f g 7 0 = z) := ⟨_, rfl⟩
  rw [Hz.out]
  clear ha hb
  go_enter Try.func63, Try.ntmps63
  go_wp2
  go_loopw [11] (fun i wr => ∃ j : Nat, i = .int .i64 j ∧ j ≤ 7 ∧ Hid (lexc f g (7 - j) j = z) ∧ wr = w) (fun i _ => (7 - intOf i).toNat)
  case atStart => exact ⟨0, rfl, by omega, Hz, rfl⟩
  case round =>
    obtain ⟨j, rfl, hj, HL, hw⟩ := hrel
    subst hw
    by_cases hlt : j < 7
    · have hji : (j : Int) < 7 := by omega
      have hdec : decide ((j : Int) < 7) = true := by simp; omega
      have hd2 : decide ((7 : Int) ≤ (j : Int)) = false := by simp; omega
      have hca := HA.out j hlt
      have hcb := HB.out j hlt
      have HL2 : Hid ((if f j < g j then (-1 : Int) else if g j < f j then 1 else lexc f g (7 - (j + 1)) (j + 1)) = z) := by
        have h := HL.out
        rw [show 7 - j = 7 - (j + 1) + 1 by omega] at h
        exact h
      obtain ⟨x, Hx⟩ : ∃ x, Hid (f j = x) := ⟨_, rfl⟩
      obtain ⟨y, Hy⟩ : ∃ y, Hid (g j = y) := ⟨_, rfl⟩
      rw [Hx.out] at hca HL2
      rw [Hy.out] at hcb HL2
      have D := C (x : Int) (y : Int)
      rw [cmp_nat] at D
      by_cases h1 : x < y
      · rw [if_pos h1] at D
        obtain rfl : -1 = z := by have := HL2.out; rwa [if_pos h1] at this
        clear h1
        go_wp2_with (first | (go_at_call 82; refine (D _).mono ?_; rintro e w1 ⟨rfl, h⟩; replace h := h.symm; subst h))
        go_ret
        exact ⟨rfl, rfl⟩
      · by_cases h2 : y < x
        · rw [if_neg h1, if_pos h2] at D
          obtain rfl : 1 = z := by have := HL2.out; rwa [if_neg h1, if_pos h2] at this
          clear h1 h2
          go_wp2_with (first | (go_at_call 82; refine (D _).mono ?_; rintro e w1 ⟨rfl, h⟩; replace h := h.symm; subst h))
          go_ret
          exact ⟨rfl, rfl⟩
        · rw [if_neg h1, if_neg h2] at D
          have HL3 : Hid (lexc f g (7 - (j + 1)) (j + 1) = z) := by have := HL2.out; rwa [if_neg h1, if_neg h2] at this
          clear h1 h2
          go_wp2_with (first | (go_at_call 82; refine (D _).mono ?_; rintro e w1 ⟨rfl, h⟩; replace h := h.symm; subst h))
          go_roundw
          case rel => exact ⟨j + 1, by go_num, by omega, HL3, trivial⟩
          case measure => simp [intOf]; omega
    · obtain rfl : j = 7 := by omega
      have hz : z = 0 := by have := HL.out; simpa [lexc] using this.symm
      subst hz
      go_wp2
      go_ret
      exact ⟨rfl, rfl⟩

/-- How two moves compare. -/
def cmpM (x y : List Nat) : Int := lexc (fun j => x.getD j 0) (fun j => y.getD j 0) 7 0

set_option maxRecDepth 100000 in
set_option maxHeartbeats 1000000 in
theorem closure_any (x y : List Nat) (W : World) :
    Calls Try.prog 92 #[.agg (mvL x).toArray, .agg (mvL y).toArray] W fun e w' => e = .returned (.int .i64 (cmpM x y)) ∧ ∃ q os', w' = Go.Sort.grow (W.drewN q) os' := by
  have hB : Below W.heap.size W ((W.alloc (.cells (mvL x).toArray 90)).alloc (.cells (mvL y).toArray 90)) := (balloc W _).alloc (by simp) _
  have C := fun W' (h1 : ∀ j, j < 7 → W'.cell? ⟨W.heap.size, j, none⟩ = some (.int .i64 ((x.getD j 0 : Nat) : Int))) (h2 : ∀ j, j < 7 → W'.cell? ⟨W.heap.size + 1, j, none⟩ = some (.int .i64 ((y.getD j 0 : Nat) : Int))) => Compare_any (fun j => x.getD j 0) (fun j => y.getD j 0) W.heap.size (W.heap.size + 1) W' h1 h2
  have H1 : Hid (∀ j, j < 7 → ((W.alloc (.cells (mvL x).toArray 90)).alloc (.cells (mvL y).toArray 90)).cell? ⟨W.heap.size, j, none⟩ = some (.int .i64 ((x.getD j 0 : Nat) : Int))) := fun j hj => by
    have h := (MRow.made 90 W (fun j => (x.getD j 0 : Int))).alloc (.cells (mvL y).toArray 90)
    exact h.cell j hj
  have H2 : Hid (∀ j, j < 7 → ((W.alloc (.cells (mvL x).toArray 90)).alloc (.cells (mvL y).toArray 90)).cell? ⟨W.heap.size + 1, j, none⟩ = some (.int .i64 ((y.getD j 0 : Nat) : Int))) := fun j hj => by
    have h := MRow.made 90 (W.alloc (.cells (mvL x).toArray 90)) (fun j => (y.getD j 0 : Int))
    rw [World.size_alloc] at h
    exact h.cell j hj
  have e0 : cmpM x y = lexc (fun j => x.getD j 0) (fun j => y.getD j 0) 7 0 := rfl
  rw [e0]
  obtain ⟨z, Hz⟩ : ∃ z, Hid (lexc (fun j => x.getD j 0) (fun j => y.getD j 0) 7 0 = z) := ⟨_, rfl⟩
  rw [Hz.out] at C ⊢
  obtain ⟨X, HX⟩ : ∃ X, Hid (mvL x = X) := ⟨_, rfl⟩
  obtain ⟨Y, HY⟩ : ∃ Y, Hid (mvL y = Y) := ⟨_, rfl⟩
  rw [HX.out, HY.out] at H1 H2 ⊢
  have hlx : X.length = 7 := by rw [← HX.out]; exact mvL_len x
  have hly : Y.length = 7 := by rw [← HY.out]; exact mvL_len y
  clear e0 hB
  go_enter Try.func92, Try.ntmps92
  go_wp2_with fail
  refine wp_region_noPanic ?_
  refine wp_region_held_drew (S := fun _ => True) (by kernel_rfl) (trivial) (fun hSx => ?_)
  refine wpAnyH_take (i := 0) (v := .slice (some ⟨W.heap.size, 0, none⟩) 7 7) rfl (by kernel_rfl) (by kernel_rfl) (by kernel_rfl) (fun _ _ _ h => h) (Or.inl ⟨by rfl, fun w' hSw => by (try dsimp only at hSw); go_simp⟩) trivial ?_
  try simp only [Act.put, List.setIfInBounds_toArray]
  refine wpAnyH_take (i := 1) (v := .slice (some ⟨W.heap.size + 1, 0, none⟩) 7 7) rfl (by kernel_rfl) (by kernel_rfl) (by kernel_rfl) (fun _ _ _ h => h) (Or.inl ⟨by rfl, fun w' hSw => by (try dsimp only at hSw); go_simp⟩) trivial ?_
  try simp only [Act.put]
  refine wpAnyH_ready (rs := [2]) (by kernel_rfl) (by simp) ?_
  refine AllReadyH.cons rfl (fun J hJ => ?_) AllReadyH.nil
  go_simp
  refine (C (World.drew _) (by exact H1.out) (by exact H2.out)).mono ?_
  rintro e w1 ⟨rfl, h⟩
  replace h := h.symm
  subst h
  go_wp2_with fail
  refine hJ.out _ _ trivial (fun _ => ?_)
  clear hJ J
  try simp only [Act.put, List.setIfInBounds_toArray, List.set_cons_zero, List.set_cons_succ]
  refine wpAnyH_ready (rs := [3]) (by kernel_rfl) (by simp) ?_
  refine AllReadyH.cons rfl (fun J hJ => ?_) AllReadyH.nil
  go_simp
  refine hJ.out _ _ trivial (fun _ => ?_)
  clear hJ J
  try simp only [Act.put, List.setIfInBounds_toArray, List.set_cons_zero, List.set_cons_succ]
  refine wpAnyH_done (by kernel_rfl) ?_ _
  refine NoPanic.normal ?_
  go_wp2_with fail
  go_ret
  refine ⟨rfl, 1, #[.cells X.toArray 90, .cells Y.toArray 90], ?_⟩
  rw [Go.Sort.alloc_eq_grow, Go.Sort.alloc_eq_grow, Go.Sort.grow_grow]
  rfl

end Go.Proofs.Ytmaplmgecohjbaa
