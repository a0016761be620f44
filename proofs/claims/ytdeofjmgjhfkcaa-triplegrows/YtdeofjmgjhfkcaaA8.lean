/- The walk of Make. -/
import Derived.Test.YtdeofjmgjhfkcaaA5
import Derived.Test.YtdeofjmgjhfkcaaB5
import Derived.Test.YtdeofjmgjhfkcaaDDu
/- The walk of skolem. -/
/- The walk of bose. -/
namespace Go.Proofs.Ytdeofjmgjhfkcaa
open Go.RowKit

def upL (m x : Nat) : List (List Nat) := (List.range x).map fun x => s3 [0 * m + x, 1 * m + x, 2 * m + x]
theorem upL_succ (m x : Nat) : upL m (x + 1) = upL m x ++ [s3 [0 * m + x, 1 * m + x, 2 * m + x]] := by unfold upL; rw [List.range_succ, List.map_append]; rfl
theorem upL_len (m x : Nat) : (upL m x).length = x := by simp [upL]
def boL (t : Nat) : List (List Nat) := upL (2 * t + 1) (2 * t + 1) ++ slY (2 * t + 1) (boF t (2 * t + 1)) (2 * t + 1)
theorem sl_three {m : Nat} {f : Nat → Nat → Nat} {y : Nat} : ∀ b ∈ slY m f y, b.length = 3 := fun b hb => by
  unfold slY at hb
  obtain ⟨_, _, hb⟩ := List.mem_flatMap.1 hb
  unfold slX at hb
  obtain ⟨_, _, hb⟩ := List.mem_flatMap.1 hb
  unfold slI at hb
  obtain ⟨_, _, rfl⟩ := List.mem_map.1 hb
  rw [s3_len]; rfl
theorem up_three {m x : Nat} : ∀ b ∈ upL m x, b.length = 3 := fun b hb => by
  unfold upL at hb
  obtain ⟨_, _, rfl⟩ := List.mem_map.1 hb
  rw [s3_len]; rfl
theorem boL_three (t : Nat) : ∀ b ∈ boL t, b.length = 3 := fun b hb => by
  rcases List.mem_append.1 hb with h | h
  · exact up_three b h
  · exact sl_three b h
/-- The four boxes that a maker has. -/
structure Bx4 (s t m : Nat) (W : World) : Prop where
  t : W.heap[s]? = some (.cells #[.int .i64 (t : Int)] 3 (0, 0))
  r : W.heap[s + 1]? = some (.cells #[.int .i64 0, .slice none 0 0] 24 (0, 0))
  p : W.heap[s + 3]? = some (.cells #[.pointer (some ⟨s + 2, 0, none⟩)] 74 (0, 0))
  b : ∃ v, W.heap[s + 2]? = some (.cells #[v, .int .i64 (m : Int)] 76 (0, 0))
theorem Bx4.kp {s t m : Nat} {W W' : World} {L : List (List Nat)} (h : Bx4 s t m W) (k : Kp (s + 4) (s + 2) W W') (hL : RowB W' (s + 4) (s + 2) m L) : Bx4 s t m W' := by
  obtain ⟨v, h1, _⟩ := hL
  exact ⟨(k.at' s (by omega) (by omega)).trans h.t, (k.at' (s + 1) (by omega) (by omega)).trans h.r, (k.at' (s + 3) (by omega) (by omega)).trans h.p, v, h1⟩
theorem Bx4.cells {s t m : Nat} {W : World} (h : Bx4 s t m W) : W.cell? ⟨s, 0, none⟩ = some (.int .i64 (t : Int)) ∧ W.cell? ⟨s + 1 + 1, 1, none⟩ = some (.int .i64 (m : Int)) ∧ W.cell? ⟨s + 1 + 1 + 1, 0, none⟩ = some (.pointer (some ⟨s + 1 + 1, 0, none⟩)) := by
  obtain ⟨v, hb⟩ := h.b
  exact ⟨by rw [cell_of_row _ _ _ _ _ _ h.t]; rfl, by rw [cell_of_row _ _ _ _ _ _ hb]; rfl, by rw [cell_of_row _ _ _ _ _ _ h.p]; rfl⟩
def W4 (w : World) (t m : Nat) : World := (((w.alloc (.cells #[.int .i64 (t : Int)] 3)).alloc (.cells #[.int .i64 0, .slice none 0 0] 24)).alloc (.cells #[.slice none 0 0, .int .i64 (m : Int)] 76)).alloc (.cells #[.pointer (some ⟨w.heap.size + 1 + 1, 0, none⟩)] 74)
theorem W4_size (w : World) (t m : Nat) : (W4 w t m).heap.size = w.heap.size + 4 := by simp [W4]
theorem W4_bx (w : World) (t m : Nat) : Bx4 w.heap.size t m (W4 w t m) := by
  have e1 := heap_alloc_new w (.cells #[.int .i64 (t : Int)] 3)
  have e2 := heap_alloc_new (w.alloc (.cells #[.int .i64 (t : Int)] 3)) (.cells #[.int .i64 0, .slice none 0 0] 24)
  have e3 := heap_alloc_new ((w.alloc (.cells #[.int .i64 (t : Int)] 3)).alloc (.cells #[.int .i64 0, .slice none 0 0] 24)) (.cells #[.slice none 0 0, .int .i64 (m : Int)] 76)
  have e4 := heap_alloc_new (((w.alloc (.cells #[.int .i64 (t : Int)] 3)).alloc (.cells #[.int .i64 0, .slice none 0 0] 24)).alloc (.cells #[.slice none 0 0, .int .i64 (m : Int)] 76)) (.cells #[.pointer (some ⟨w.heap.size + 1 + 1, 0, none⟩)] 74)
  rw [show (w.alloc (.cells #[.int .i64 (t : Int)] 3)).heap.size = w.heap.size + 1 by simp] at e2
  rw [show ((w.alloc (.cells #[.int .i64 (t : Int)] 3)).alloc (.cells #[.int .i64 0, .slice none 0 0] 24)).heap.size = w.heap.size + 2 by simp] at e3
  rw [show (((w.alloc (.cells #[.int .i64 (t : Int)] 3)).alloc (.cells #[.int .i64 0, .slice none 0 0] 24)).alloc (.cells #[.slice none 0 0, .int .i64 (m : Int)] 76)).heap.size = w.heap.size + 3 by simp] at e4
  have k := fun (W : World) (o : Obj) (b : Nat) (hb : b < W.heap.size) => (balloc W o).block b hb
  refine ⟨(k _ _ _ (by simp; omega)).trans ((k _ _ _ (by simp; omega)).trans ((k _ _ _ (by simp)).trans e1)), (k _ _ _ (by simp)).trans ((k _ _ _ (by simp)).trans e2), e4, _, (k _ _ _ (by simp)).trans e3⟩
theorem W4_row (w : World) (t m : Nat) : RowB (W4 w t m) (w.heap.size + 4) (w.heap.size + 2) m [] := by
  have h := (W4_bx w t m).b
  have e3 := heap_alloc_new ((w.alloc (.cells #[.int .i64 (t : Int)] 3)).alloc (.cells #[.int .i64 0, .slice none 0 0] 24)) (.cells #[.slice none 0 0, .int .i64 (m : Int)] 76)
  rw [show ((w.alloc (.cells #[.int .i64 (t : Int)] 3)).alloc (.cells #[.int .i64 0, .slice none 0 0] 24)).heap.size = w.heap.size + 2 by simp] at e3
  exact ⟨.slice none 0 0, ((balloc _ _).block _ (by simp)).trans e3, OR.nil _ _, by omega, by rw [W4_size]; exact Nat.le_refl _⟩
theorem W4_below (w : World) (t m : Nat) : Below w.heap.size w (W4 w t m) := Below.next (Below.next (Below.next (balloc _ _) (balloc _ _)) (balloc _ _)) (balloc _ _)
set_option maxRecDepth 100000 in
set_option maxHeartbeats 8000000 in
theorem bose_any (t : Nat) (w : World) (ht : t ≤ 5) :
    Calls Try.prog 27 #[.int .i64 (t : Int)] w fun e w' => ∃ x Z, e = .returned (.agg #[.int .i64 ((6 * t + 3 : Nat) : Int), x]) ∧ Srtd (boL t) Z ∧ OR w' (w.heap.size + 4) x Z ∧ Below w.heap.size w w' := by
  have HBX := W4_bx w t (2 * t + 1)
  have HRW := W4_row w t (2 * t + 1)
  have HBE : Hid (Below w.heap.size w (W4 w t (2 * t + 1))) := W4_below w t (2 * t + 1)
  obtain ⟨M, HM⟩ : ∃ M, Hid (boL t = M) := ⟨_, rfl⟩
  have HME : Hid (∀ m, m = 2 * t + 1 → upL m m ++ slY m (boF t m) m = M) := fun m e => by rw [e]; exact HM.out
  have HM3 : Hid (∀ b ∈ M, b.length = 3) := by rw [← HM.out]; exact boL_three t
  rw [HM.out]
  obtain ⟨m, hm⟩ : ∃ m, m = 2 * t + 1 := ⟨_, rfl⟩
  rw [← hm] at HBX HRW HBE
  replace HME := HME.out m hm
  have HMe : Hid (upL m m ++ slY m (boF t m) m = M) := HME
  have HML : Hid (M.length ≤ 6000) := by
    show _ ≤ _
    rw [← HME, List.length_append, upL_len]
    have := slY_len m (boF t m) m (by omega)
    omega
  have hm2 : (m : Int) = 2 * (t : Int) + 1 := by omega
  obtain ⟨w4, Hw4⟩ : ∃ w4, Hid (w4 = W4 w t m) := ⟨_, rfl⟩
  rw [← Hw4.out] at HBX HRW HBE
  obtain ⟨y0, y1, y2⟩ := HBX.cells
  have HX : Hid (Bx4 w.heap.size t m w4) := HBX
  have HR : Hid (RowB w4 (w.heap.size + 4) (w.heap.size + 2) m (upL m 0)) := HRW
  have HUS : Hid (∀ x, upL m (x + 1) = upL m x ++ [s3 [0 * m + x, 1 * m + x, 2 * m + x]]) := upL_succ m
  have HUP : Hid (∀ (W : World) (x : Nat), x < m → RowB W (w.heap.size + 4) (w.heap.size + 2) m (upL m x) → Calls Try.prog 48 #[.pointer (some ⟨w.heap.size + 1 + 1, 0, none⟩), .int .i64 (x : Int)] W fun e w' => e = .returned (.tuple #[]) ∧ RowB w' (w.heap.size + 4) (w.heap.size + 2) m (upL m (x + 1)) ∧ Kp (w.heap.size + 4) (w.heap.size + 2) W w') := fun W x hx hW => by
    have := upright_any x (w.heap.size + 4) (w.heap.size + 2) m (upL m x) W hW (by rw [upL_len]; omega) (by omega) (by omega)
    rw [← upL_succ] at this
    exact this
  have HSL : Hid (∀ W : World, RowB W (w.heap.size + 4) (w.heap.size + 2) m (upL m m) → Bx4 w.heap.size t m W → Calls Try.prog 51 #[.pointer (some ⟨w.heap.size + 1 + 1, 0, none⟩), .func (.func 53) #[] #[.pointer (some ⟨w.heap.size, 0, none⟩), .pointer (some ⟨w.heap.size + 1 + 1 + 1, 0, none⟩)]] W fun e w' => e = .returned (.tuple #[]) ∧ RowB w' (w.heap.size + 4) (w.heap.size + 2) m M ∧ Kp (w.heap.size + 4) (w.heap.size + 2) W w') := fun W hW hX => by
    obtain ⟨x0, _, x2⟩ := hX.cells
    have := slanted_bo t m w.heap.size (w.heap.size + 3) (w.heap.size + 4) (w.heap.size + 2) (upL m m) W hW (by rw [upL_len]; omega) x0 x2 (by omega) (by omega) (by omega) (by omega) (by omega) (by omega)
    rw [HMe.out] at this
    exact this
  have HTE : Hid (∀ W : World, RowB W (w.heap.size + 4) (w.heap.size + 2) m M → Calls Try.prog 43 #[.pointer (some ⟨w.heap.size + 1 + 1, 0, none⟩), .int .i64 (6 * (t : Int) + 3)] W fun e w' => ∃ x Z, e = .returned (.agg #[.int .i64 (6 * (t : Int) + 3), x]) ∧ Srtd M Z ∧ OR w' (w.heap.size + 4) x Z ∧ Below (w.heap.size + 4) W w') := fun W hW => tell_any (6 * t + 3) _ _ _ _ M W hW HM3.out HML.out
  clear HBX HRW HME HM3 HML HMe HM
  go_enter Try.func27, Try.ntmps27
  go_wp2
  rw [← hm2]
  change Code.wp _ _ _ _ (W4 w t m)
  rw [← Hw4.out]
  have hm11 : m ≤ 11 := by omega
  clear Hw4 y0 y1 y2 hm2 hm
  go_loopw [14] (fun xv wr => ∃ (x : Nat), xv = .int .i64 (x : Int) ∧ x ≤ m ∧ RowB wr (w.heap.size + 4) (w.heap.size + 2) m (upL m x) ∧ Bx4 w.heap.size t m wr ∧ Below w.heap.size w wr) (fun xv _ => (m - intOf xv).toNat)
  case atStart => exact ⟨0, rfl, by omega, HR.out, HX.out, HBE.out⟩
  case round =>
    obtain ⟨x, rfl, hx, hR, hX, hB⟩ := hrel
    obtain ⟨y0, y1, y2⟩ := hX.cells
    have HR1 : Hid (RowB wr (w.heap.size + 4) (w.heap.size + 2) m (upL m x)) := hR
    have HX1 : Hid (Bx4 w.heap.size t m wr) := hX
    clear hR hX
    by_cases hlt : x < m
    · have hdi : decide ((x : Int) < (m : Int)) = true := by simp; omega
      have hii : (x : Int) < (m : Int) := by omega
      go_wp2_with (go_at_call 48; refine (HUP.out _ x hlt HR1.out).mono ?_; rintro e w5 ⟨rfl, hR5, hK5⟩)
      have hX5 := HX1.out.kp hK5 hR5
      have hB5 : Below w.heap.size w w5 := hB.trans (hK5.lo.mono (by omega))
      clear hK5
      go_wp2
      go_roundw
      case rel => exact ⟨x + 1, by go_num, by omega, hR5, hX5, hB5⟩
      case measure => simp [intOf]; omega
    · have hdi : decide ((x : Int) < (m : Int)) = false := by simp; omega
      obtain rfl : x = m := by omega
      go_wp2_with (go_at_call 51; refine (HSL.out _ HR1.out HX1.out).mono ?_; rintro e w5 ⟨rfl, hR5, hK5⟩; have hX5 := HX1.out.kp hK5 hR5; have HB5 : Hid (Below w.heap.size w w5) := hB.trans (hK5.lo.mono (by omega)); have HR5 : Hid (RowB w5 (w.heap.size + 4) (w.heap.size + 2) x M) := hR5; have HX5 : Hid (Bx4 w.heap.size t x w5) := hX5; obtain ⟨z0, z1, z2⟩ := hX5.cells; clear hK5 hR5 hX5 y0 y1 y2 HSL HUP)
      have HS : Hid (∀ W' : World, (∀ k, k = w.heap.size ∨ k = w.heap.size + 3 → W'.heap[k]? = w5.heap[k]?) → (W'.cell? ⟨w.heap.size, 0, none⟩ = some (.int .i64 (t : Int)) ∧ W'.cell? ⟨w.heap.size + 1 + 1 + 1, 0, none⟩ = some (.pointer (some ⟨w.heap.size + 1 + 1, 0, none⟩)))) := fun W' k => ⟨(cell_same (k _ (.inl rfl))).trans z0, (cell_same (k (w.heap.size + 3) (.inr rfl))).trans z2⟩
      have hw6 : IntKind.i64.wrap (6 * (t : Int)) = 6 * (t : Int) := by simp [IntKind.wrap, IntKind.bits, IntKind.signed]; omega
      have hw63 : IntKind.i64.wrap (6 * (t : Int) + 3) = 6 * (t : Int) + 3 := by simp [IntKind.wrap, IntKind.bits, IntKind.signed]; omega
      have h6 : (6 * (t : Int)) ≤ 99 := by omega
      clear z0 z1 z2
      refine wp_region_noPanic ?_
      refine wp_region_held_drew (S := fun w' => w'.cell? ⟨w.heap.size, 0, none⟩ = some (.int .i64 (t : Int)) ∧ w'.cell? ⟨w.heap.size + 1 + 1 + 1, 0, none⟩ = some (.pointer (some ⟨w.heap.size + 1 + 1, 0, none⟩))) (by kernel_rfl) (HS.out _ (fun _ _ => rfl)) (fun hSx => ?_)
      refine wpAnyH_take (i := 0) (v := .pointer (some ⟨w.heap.size + 1 + 1, 0, none⟩)) rfl (by kernel_rfl) (by kernel_rfl) (by kernel_rfl) (fun _ _ _ h => h) (Or.inl ⟨by rfl, fun w' hSw => by (try dsimp only at hSw); obtain ⟨hs0, hs1⟩ := hSw; go_simp⟩) hSx ?_
      try simp only [Act.put, List.setIfInBounds_toArray]
      refine wpAnyH_take (i := 1) (v := .pointer (some ⟨w.heap.size + 1 + 1, 0, none⟩)) rfl (by kernel_rfl) (by kernel_rfl) (by kernel_rfl) (fun _ _ _ h => h) (Or.inl ⟨by rfl, fun w' hSw => by (try dsimp only at hSw); obtain ⟨hs0, hs1⟩ := hSw; go_simp⟩) hSx ?_
      try simp only [Act.put]
      refine wpAnyH_take (i := 2) (v := .pointer (some ⟨w.heap.size + 1 + 1, 0, none⟩)) rfl (by kernel_rfl) (by kernel_rfl) (by kernel_rfl) (fun _ _ _ h => h) (Or.inl ⟨by rfl, fun w' hSw => by (try dsimp only at hSw); obtain ⟨hs0, hs1⟩ := hSw; go_simp⟩) hSx ?_
      try simp only [Act.put]
      refine wpAnyH_take (i := 3) (v := .int .i64 (t : Int)) rfl (by kernel_rfl) (by kernel_rfl) (by kernel_rfl) (fun _ _ _ h => h) (Or.inl ⟨by rfl, fun w' hSw => by (try dsimp only at hSw); obtain ⟨hs0, hs1⟩ := hSw; go_simp⟩) hSx ?_
      try simp only [Act.put]
      refine wpAnyH_take (i := 4) (v := .int .i64 (6 * (t : Int))) rfl (by kernel_rfl) (by kernel_rfl) (by kernel_rfl) (fun _ _ _ h => h) (Or.inl ⟨by rfl, fun w' hSw => by (try dsimp only at hSw); obtain ⟨hs0, hs1⟩ := hSw; go_simp⟩) hSx ?_
      try simp only [Act.put]
      refine wpAnyH_take (i := 5) (v := .int .i64 (6 * (t : Int) + 3)) rfl (by kernel_rfl) (by kernel_rfl) (by kernel_rfl) (fun _ _ _ h => h) (Or.inl ⟨by rfl, fun w' hSw => by (try dsimp only at hSw); obtain ⟨hs0, hs1⟩ := hSw; go_simp⟩) hSx ?_
      try simp only [Act.put]
      refine wpAnyH_ready (rs := [6]) (by kernel_rfl) (by simp) ?_
      refine AllReadyH.cons rfl (fun J hJ => ?_) AllReadyH.nil
      go_simp
      refine (HTE.out w5.drew HR5.out.drew).mono ?_
      rintro e w6 ⟨x6, Z, rfl, hZ, hO, hb6⟩
      have hk6 : Kp (w.heap.size + 4) (w.heap.size + 2) w5 w6 := (Kp.drew _ _ w5).trans (Kp.of hb6 (Nat.le_refl _) (by omega))
      have hr : w6.heap[w.heap.size + 1]? = _ := (hk6.at' _ (by omega) (by omega)).trans HX5.out.r
      obtain ⟨xa, xc, rfl⟩ := hO.cap
      have hZl := hZ.len
      have HO : Hid (OR w6 (w.heap.size + 4) (.slice xa Z.length xc) Z) := hO
      clear hO
      rw [hZl] at HO ⊢
      clear hZl
      have t0 : w6.cell? ⟨w.heap.size + 1, 0, none⟩ = some (.int .i64 0) := by rw [cell_of_row _ _ _ _ _ _ hr]; rfl
      have t1 : w6.cell? ⟨w.heap.size + 1, 1, none⟩ = some (.slice none 0 0) := by rw [cell_of_row _ _ _ _ _ _ hr]; rfl
      have f0 : w6.frozen? ⟨w.heap.size + 1, 0, none⟩ = false := frozen_of_row w6 _ 0 _ _ hr
      have f1 : w6.frozen? ⟨w.heap.size + 1, 1, none⟩ = false := frozen_of_row w6 _ 1 _ _ hr
      go_wp2_with fail
      refine hJ.out _ _ (HS.out _ (fun k hk => hk6.at' k (by omega) (by omega))) (fun hSx => ?_)
      clear hJ J
      try simp only [Act.put, List.setIfInBounds_toArray, List.set_cons_zero, List.set_cons_succ]
      refine wpAnyH_ready (rs := [7]) (by kernel_rfl) (by simp) ?_
      refine AllReadyH.cons rfl (fun J hJ => ?_) AllReadyH.nil
      go_simp
      refine hJ.out _ _ (HS.out _ (fun k hk => (heap_setCell_other _ ⟨w.heap.size + 1, 1, none⟩ k _ (by show k ≠ w.heap.size + 1; omega)).trans ((heap_setCell_other w6 ⟨w.heap.size + 1, 0, none⟩ k _ (by show k ≠ w.heap.size + 1; omega)).trans (hk6.at' k (by omega) (by omega))))) (fun hSx => ?_)
      clear hJ J
      try simp only [Act.put, List.setIfInBounds_toArray, List.set_cons_zero, List.set_cons_succ]
      refine wpAnyH_done (by kernel_rfl) ?_ _
      refine NoPanic.normal ?_
      go_wp2
      have hn1 := heap_setCell_same w6 (w.heap.size + 1) 0 _ _ (.int .i64 (6 * (t : Int) + 3)) hr
      have hn2 := heap_setCell_same _ (w.heap.size + 1) 1 _ _ (.slice xa M.length xc) hn1
      exact post_d 2 Try.results27 rfl hn2 rfl ⟨_, Z, rfl, hZ, HO.out.keep (fun b hb _ => (heap_setCell_other _ ⟨w.heap.size + 1, 1, none⟩ b _ (by show b ≠ w.heap.size + 1; omega)).trans (heap_setCell_other w6 ⟨w.heap.size + 1, 0, none⟩ b _ (by show b ≠ w.heap.size + 1; omega))), ((HB5.out.trans (hk6.lo.mono (by omega))).setCell (p := ⟨w.heap.size + 1, 0, none⟩) (by show _ ≤ w.heap.size + 1; omega) _).setCell (p := ⟨w.heap.size + 1, 1, none⟩) (by show _ ≤ w.heap.size + 1; omega) _⟩

end Go.Proofs.Ytdeofjmgjhfkcaa

namespace Go.Proofs.Ytdeofjmgjhfkcaa
open Go.RowKit

def skC (t m x i : Nat) : List Nat := [6 * t, i * m + (x + t), ((i + 1) % 3) * m + x]
def skI (t m x i : Nat) : List (List Nat) := (List.range i).map fun i => s3 (skC t m x i)
def skX (t m x : Nat) : List (List Nat) := (List.range x).flatMap fun x => s3 [0 * m + x, 1 * m + x, 2 * m + x] :: skI t m x 3
theorem skI_succ (t m x i : Nat) : skI t m x (i + 1) = skI t m x i ++ [s3 (skC t m x i)] := by unfold skI; rw [List.range_succ, List.map_append]; rfl
theorem skI_len (t m x i : Nat) : (skI t m x i).length = i := by simp [skI]
theorem skX_succ (t m x : Nat) : skX t m (x + 1) = (skX t m x ++ [s3 [0 * m + x, 1 * m + x, 2 * m + x]]) ++ skI t m x 3 := by unfold skX; rw [List.range_succ, List.flatMap_append]; simp
theorem skX_len (t m : Nat) : ∀ x, (skX t m x).length = 4 * x
  | 0 => rfl
  | x + 1 => by rw [skX_succ, List.length_append, List.length_append, skX_len t m x, skI_len]; simp; omega
def skL (t : Nat) : List (List Nat) := skX t (2 * t) t ++ slY (2 * t) (skF t (2 * t)) (2 * t)
theorem skL_three (t : Nat) : ∀ b ∈ skL t, b.length = 3 := fun b hb => by
  rcases List.mem_append.1 hb with h | h
  · unfold skX at h
    obtain ⟨_, _, h⟩ := List.mem_flatMap.1 h
    rcases List.mem_cons.1 h with rfl | h
    · rw [s3_len]; rfl
    · unfold skI at h
      obtain ⟨_, _, rfl⟩ := List.mem_map.1 h
      rw [s3_len]; rfl
  · exact sl_three b h
set_option maxRecDepth 100000 in
set_option maxHeartbeats 8000000 in
theorem skolem_any (t : Nat) (w : World) (ht : t ≤ 5) :
    Calls Try.prog 26 #[.int .i64 (t : Int)] w fun e w' => ∃ x Z, e = .returned (.agg #[.int .i64 ((6 * t + 1 : Nat) : Int), x]) ∧ Srtd (skL t) Z ∧ OR w' (w.heap.size + 4) x Z ∧ Below w.heap.size w w' := by
  have HBX := W4_bx w t (2 * t)
  have HRW := W4_row w t (2 * t)
  have HBE : Hid (Below w.heap.size w (W4 w t (2 * t))) := W4_below w t (2 * t)
  obtain ⟨M, HM⟩ : ∃ M, Hid (skL t = M) := ⟨_, rfl⟩
  have HME : Hid (∀ m, m = 2 * t → skX t m t ++ slY m (skF t m) m = M) := fun m e => by rw [e]; exact HM.out
  have HM3 : Hid (∀ b ∈ M, b.length = 3) := by rw [← HM.out]; exact skL_three t
  rw [HM.out]
  obtain ⟨m, hm⟩ : ∃ m, m = 2 * t := ⟨_, rfl⟩
  rw [← hm] at HBX HRW HBE
  replace HME := HME.out m hm
  have HMe : Hid (skX t m t ++ slY m (skF t m) m = M) := HME
  have HML : Hid (M.length ≤ 6000) := by
    show _ ≤ _
    rw [← HME, List.length_append, skX_len]
    have := slY_len m (skF t m) m (by omega)
    omega
  have hm2 : (m : Int) = 2 * (t : Int) := by omega
  obtain ⟨w4, Hw4⟩ : ∃ w4, Hid (w4 = W4 w t m) := ⟨_, rfl⟩
  rw [← Hw4.out] at HBX HRW HBE
  obtain ⟨y0, y1, y2⟩ := HBX.cells
  have HX : Hid (Bx4 w.heap.size t m w4) := HBX
  have HR : Hid (RowB w4 (w.heap.size + 4) (w.heap.size + 2) m (skX t m 0)) := HRW
  have HXS : Hid (∀ x, skX t m (x + 1) = (skX t m x ++ [s3 [0 * m + x, 1 * m + x, 2 * m + x]]) ++ skI t m x 3) := skX_succ t m
  have hm11 : m ≤ 10 := by omega
  have HXL : Hid (∀ x, x ≤ 5 → (skX t m x ++ [s3 [0 * m + x, 1 * m + x, 2 * m + x]]).length ≤ 99) := fun x hx => by rw [List.length_append, skX_len]; simp; omega
  have HUP : Hid (∀ (W : World) (x : Nat), x < t → RowB W (w.heap.size + 4) (w.heap.size + 2) m (skX t m x) → Calls Try.prog 48 #[.pointer (some ⟨w.heap.size + 1 + 1, 0, none⟩), .int .i64 (x : Int)] W fun e w' => e = .returned (.tuple #[]) ∧ RowB w' (w.heap.size + 4) (w.heap.size + 2) m (skX t m x ++ [s3 [0 * m + x, 1 * m + x, 2 * m + x]]) ∧ Kp (w.heap.size + 4) (w.heap.size + 2) W w') := fun W x hx hW => upright_any x (w.heap.size + 4) (w.heap.size + 2) m (skX t m x) W hW (by rw [skX_len]; omega) (by omega) (by omega)
  have HAT : Hid (∀ (W : World) (r p : Nat), r ≤ 99 → p ≤ 99 → W.cell? ⟨w.heap.size + 1 + 1, 1, none⟩ = some (.int .i64 (m : Int)) → Calls Try.prog 50 #[.pointer (some ⟨w.heap.size + 1 + 1, 0, none⟩), .int .i64 (r : Int), .int .i64 (p : Int)] W fun e w' => e = .returned (.int .i64 ((r * m + p : Nat) : Int)) ∧ w' = W) := fun W r p hr hp hW => at_any r p (w.heap.size + 2) m W hW hr (by omega) hp
  have HADD : Hid (∀ (W : World) (x y z : Nat) (M : List (List Nat)), RowB W (w.heap.size + 4) (w.heap.size + 2) m M → M.length ≤ 6000 → Calls Try.prog 49 #[.pointer (some ⟨w.heap.size + 1 + 1, 0, none⟩), .int .i64 (x : Int), .int .i64 (y : Int), .int .i64 (z : Int)] W fun e w' => e = .returned (.tuple #[]) ∧ RowB w' (w.heap.size + 4) (w.heap.size + 2) m (M ++ [s3 [x, y, z]]) ∧ Kp (w.heap.size + 4) (w.heap.size + 2) W w') := fun W x y z M hM hl => add_any x y z (w.heap.size + 4) (w.heap.size + 2) 76 [.int .i64 (m : Int)] M W hM hl
  have HSL : Hid (∀ W : World, RowB W (w.heap.size + 4) (w.heap.size + 2) m (skX t m t) → Bx4 w.heap.size t m W → Calls Try.prog 51 #[.pointer (some ⟨w.heap.size + 1 + 1, 0, none⟩), .func (.func 52) #[] #[.pointer (some ⟨w.heap.size + 1 + 1 + 1, 0, none⟩), .pointer (some ⟨w.heap.size, 0, none⟩)]] W fun e w' => e = .returned (.tuple #[]) ∧ RowB w' (w.heap.size + 4) (w.heap.size + 2) m M ∧ Kp (w.heap.size + 4) (w.heap.size + 2) W w') := fun W hW hX => by
    obtain ⟨x0, _, x2⟩ := hX.cells
    have := slanted_sk t m w.heap.size (w.heap.size + 3) (w.heap.size + 4) (w.heap.size + 2) (skX t m t) W hW (by rw [skX_len]; omega) x0 x2 (by omega) (by omega) (by omega) (by omega) (by omega) (by omega)
    rw [HMe.out] at this
    exact this
  have HTE : Hid (∀ W : World, RowB W (w.heap.size + 4) (w.heap.size + 2) m M → Calls Try.prog 43 #[.pointer (some ⟨w.heap.size + 1 + 1, 0, none⟩), .int .i64 (6 * (t : Int) + 1)] W fun e w' => ∃ x Z, e = .returned (.agg #[.int .i64 (6 * (t : Int) + 1), x]) ∧ Srtd M Z ∧ OR w' (w.heap.size + 4) x Z ∧ Below (w.heap.size + 4) W w') := fun W hW => tell_any (6 * t + 1) _ _ _ _ M W hW HM3.out HML.out
  clear HBX HRW HME HM3 HML HMe HM
  go_enter Try.func26, Try.ntmps26
  go_wp2
  rw [← hm2]
  change Code.wp _ _ _ _ (W4 w t m)
  rw [← Hw4.out]
  clear Hw4 y0 y1 y2 hm2 hm
  go_loopw [11] (fun xv wr => ∃ (x : Nat), xv = .int .i64 (x : Int) ∧ x ≤ t ∧ RowB wr (w.heap.size + 4) (w.heap.size + 2) m (skX t m x) ∧ Bx4 w.heap.size t m wr ∧ Below w.heap.size w wr) (fun xv _ => (t - intOf xv).toNat)
  case atStart => exact ⟨0, rfl, by omega, HR.out, HX.out, HBE.out⟩
  case round =>
    obtain ⟨x, rfl, hx, hR, hX, hB⟩ := hrel
    obtain ⟨y0, y1, y2⟩ := hX.cells
    have HR1 : Hid (RowB wr (w.heap.size + 4) (w.heap.size + 2) m (skX t m x)) := hR
    have HX1 : Hid (Bx4 w.heap.size t m wr) := hX
    clear hR hX
    by_cases hlt : x < t
    · have hdi : decide ((x : Int) < (t : Int)) = true := by simp; omega
      have hii : (x : Int) < (t : Int) := by omega
      have HXS1 := HXS.out x
      have HXL1 := HXL.out x (by omega)
      obtain ⟨Lx, HLx⟩ : ∃ Lx, Hid (skX t m x ++ [s3 [0 * m + x, 1 * m + x, 2 * m + x]] = Lx) := ⟨_, rfl⟩
      rw [HLx.out] at HXS1 HXL1
      have HXE : Hid (skX t m (x + 1) = Lx ++ skI t m x 3) := HXS1
      go_wp2_with (go_at_call 48; refine (HUP.out _ x hlt HR1.out).mono ?_; rintro e w5 ⟨rfl, hR5, hK5⟩; rw [HLx.out] at hR5; have HR5 : Hid (RowB w5 (w.heap.size + 4) (w.heap.size + 2) m (Lx ++ skI t m x 0)) := (by show Lst _ _ _ _ _ _; simpa [skI] using hR5); have HX5 : Hid (Bx4 w.heap.size t m w5) := HX1.out.kp hK5 hR5; have HB5 : Hid (Below w.heap.size w w5) := hB.trans (hK5.lo.mono (by omega)); clear hK5 hR5 y0 y1 y2)
      clear HXS1 HLx
      go_loopw [17] (fun iv wr => ∃ (i : Nat), iv = .int .i64 (i : Int) ∧ i ≤ 3 ∧ RowB wr (w.heap.size + 4) (w.heap.size + 2) m (Lx ++ skI t m x i) ∧ Bx4 w.heap.size t m wr ∧ Below w.heap.size w wr) (fun iv _ => (3 - intOf iv).toNat)
      case atStart => exact ⟨0, rfl, by omega, HR5.out, HX5.out, HB5.out⟩
      case round =>
        clear HR5 HX5 HB5 HR1 HX1 hB
        obtain ⟨i, rfl, hi, hR, hX, hB⟩ := hrel
        have HR6 : Hid (RowB wr (w.heap.size + 4) (w.heap.size + 2) m (Lx ++ skI t m x i)) := hR
        have HX6 : Hid (Bx4 w.heap.size t m wr) := hX
        obtain ⟨y0, y1, y2⟩ := hX.cells
        by_cases hli : i < 3
        · have hdj : decide ((i : Int) < 3) = true := by simp; omega
          have hji : (i : Int) < 3 := by omega
          have HIS : Hid (Lx ++ skI t m x (i + 1) = (Lx ++ skI t m x i) ++ [s3 [6 * t, i * m + (x + t), ((i + 1) % 3) * m + x]]) := by show _ = _; rw [skI_succ, ← List.append_assoc]; rfl
          have hrem : ((i : Int) + 1).tmod 3 = (((i + 1) % 3 : Nat) : Int) := by rw [Int.tmod_eq_emod_of_nonneg (by omega)]; rfl
          have hwi : IntKind.i64.wrap ((i : Int) + 1) = (i : Int) + 1 := by simp [IntKind.wrap, IntKind.bits, IntKind.signed]; omega
          have hw6 : IntKind.i64.wrap (6 * (t : Int)) = 6 * (t : Int) := by simp [IntKind.wrap, IntKind.bits, IntKind.signed]; omega
          have hwx : IntKind.i64.wrap ((x : Int) + (t : Int)) = (x : Int) + (t : Int) := by simp [IntKind.wrap, IntKind.bits, IntKind.signed]; omega
          have hr3 : (i + 1) % 3 < 3 := Nat.mod_lt _ (by omega)
          have hil : (Lx ++ skI t m x i).length ≤ 6000 := by rw [List.length_append, skI_len]; omega
          have HS : Hid (∀ W' : World, Kp (w.heap.size + 4) (w.heap.size + 2) wr W' → (W'.cell? ⟨w.heap.size, 0, none⟩ = some (.int .i64 (t : Int)) ∧ W'.cell? ⟨w.heap.size + 1 + 1 + 1, 0, none⟩ = some (.pointer (some ⟨w.heap.size + 1 + 1, 0, none⟩)))) := fun W' k => ⟨(cell_same (k.at' _ (by omega) (by omega))).trans y0, (cell_same (k.at' (w.heap.size + 3) (by omega) (by omega))).trans y2⟩
          have HC1 : Hid (Calls Try.prog 50 #[.pointer (some ⟨w.heap.size + 1 + 1, 0, none⟩), .int .i64 (i : Int), .int .i64 ((x : Int) + (t : Int))] wr.drew fun e w' => e = .returned (.int .i64 ((i * m + (x + t) : Nat) : Int)) ∧ w' = wr.drew) := HAT.out wr.drew i (x + t) (by omega) (by omega) y1
          have HC2 : Hid (Calls Try.prog 50 #[.pointer (some ⟨w.heap.size + 1 + 1, 0, none⟩), .int .i64 (((i + 1) % 3 : Nat) : Int), .int .i64 (x : Int)] wr.drew fun e w' => e = .returned (.int .i64 ((((i + 1) % 3) * m + x : Nat) : Int)) ∧ w' = wr.drew) := HAT.out wr.drew ((i + 1) % 3) x (by omega) (by omega) y1
          have HC3 : Hid (Calls Try.prog 49 #[.pointer (some ⟨w.heap.size + 1 + 1, 0, none⟩), .int .i64 (6 * (t : Int)), .int .i64 ((i * m + (x + t) : Nat) : Int), .int .i64 ((((i + 1) % 3) * m + x : Nat) : Int)] wr.drew fun e w' => e = .returned (.tuple #[]) ∧ RowB w' (w.heap.size + 4) (w.heap.size + 2) m ((Lx ++ skI t m x i) ++ [s3 [6 * t, i * m + (x + t), ((i + 1) % 3) * m + x]]) ∧ Kp (w.heap.size + 4) (w.heap.size + 2) wr.drew w') := HADD.out wr.drew (6 * t) _ _ _ hR.drew hil
          rw [← HIS.out] at HC3
          generalize i * m + (x + t) = a1 at *
          generalize ((i + 1) % 3) * m + x = a2 at *
          generalize (i + 1) % 3 = r at *
          clear hR hX hil y0 y1 y2 HIS HAT HADD HUP HSL HTE HXL HXS
          go_wp2
          refine wp_region_noPanic ?_
          refine wp_region_held_drew (S := fun w' => w'.cell? ⟨w.heap.size, 0, none⟩ = some (.int .i64 (t : Int)) ∧ w'.cell? ⟨w.heap.size + 1 + 1 + 1, 0, none⟩ = some (.pointer (some ⟨w.heap.size + 1 + 1, 0, none⟩))) (by kernel_rfl) (HS.out _ (Kp.drew _ _ _)) (fun hSx => ?_)
          refine wpAnyH_take (i := 0) (v := .pointer (some ⟨w.heap.size + 1 + 1, 0, none⟩)) rfl (by kernel_rfl) (by kernel_rfl) (by kernel_rfl) (fun _ _ _ h => h) (Or.inl ⟨by rfl, fun w' hSw => by (try dsimp only at hSw); obtain ⟨hs0, hs1⟩ := hSw; go_simp⟩) hSx ?_
          try simp only [Act.put, List.setIfInBounds_toArray]
          refine wpAnyH_take (i := 1) (v := .pointer (some ⟨w.heap.size + 1 + 1, 0, none⟩)) rfl (by kernel_rfl) (by kernel_rfl) (by kernel_rfl) (fun _ _ _ h => h) (Or.inl ⟨by rfl, fun w' hSw => by (try dsimp only at hSw); obtain ⟨hs0, hs1⟩ := hSw; go_simp⟩) hSx ?_
          try simp only [Act.put]
          refine wpAnyH_take (i := 2) (v := .pointer (some ⟨w.heap.size + 1 + 1, 0, none⟩)) rfl (by kernel_rfl) (by kernel_rfl) (by kernel_rfl) (fun _ _ _ h => h) (Or.inl ⟨by rfl, fun w' hSw => by (try dsimp only at hSw); obtain ⟨hs0, hs1⟩ := hSw; go_simp⟩) hSx ?_
          try simp only [Act.put]
          refine wpAnyH_take (i := 3) (v := .int .i64 (t : Int)) rfl (by kernel_rfl) (by kernel_rfl) (by kernel_rfl) (fun _ _ _ h => h) (Or.inl ⟨by rfl, fun w' hSw => by (try dsimp only at hSw); obtain ⟨hs0, hs1⟩ := hSw; go_simp⟩) hSx ?_
          try simp only [Act.put]
          refine wpAnyH_take (i := 4) (v := .int .i64 (6 * (t : Int))) rfl (by kernel_rfl) (by kernel_rfl) (by kernel_rfl) (fun _ _ _ h => h) (Or.inl ⟨by rfl, fun w' hSw => by (try dsimp only at hSw); obtain ⟨hs0, hs1⟩ := hSw; go_simp⟩) hSx ?_
          try simp only [Act.put]
          refine wpAnyH_take (i := 5) (v := .pointer (some ⟨w.heap.size + 1 + 1, 0, none⟩)) rfl (by kernel_rfl) (by kernel_rfl) (by kernel_rfl) (fun _ _ _ h => h) (Or.inl ⟨by rfl, fun w' hSw => by (try dsimp only at hSw); obtain ⟨hs0, hs1⟩ := hSw; go_simp⟩) hSx ?_
          try simp only [Act.put]
          refine wpAnyH_take (i := 6) (v := .int .i64 (i : Int)) rfl (by kernel_rfl) (by kernel_rfl) (by kernel_rfl) (fun _ _ _ h => h) (Or.inl ⟨by rfl, fun w' hSw => by (try dsimp only at hSw); obtain ⟨hs0, hs1⟩ := hSw; go_simp⟩) hSx ?_
          try simp only [Act.put]
          refine wpAnyH_take (i := 7) (v := .int .i64 (x : Int)) rfl (by kernel_rfl) (by kernel_rfl) (by kernel_rfl) (fun _ _ _ h => h) (Or.inl ⟨by rfl, fun w' hSw => by (try dsimp only at hSw); obtain ⟨hs0, hs1⟩ := hSw; go_simp⟩) hSx ?_
          try simp only [Act.put]
          refine wpAnyH_take (i := 8) (v := .int .i64 (t : Int)) rfl (by kernel_rfl) (by kernel_rfl) (by kernel_rfl) (fun _ _ _ h => h) (Or.inl ⟨by rfl, fun w' hSw => by (try dsimp only at hSw); obtain ⟨hs0, hs1⟩ := hSw; go_simp⟩) hSx ?_
          try simp only [Act.put]
          refine wpAnyH_take (i := 9) (v := .int .i64 ((x : Int) + (t : Int))) rfl (by kernel_rfl) (by kernel_rfl) (by kernel_rfl) (fun _ _ _ h => h) (Or.inl ⟨by rfl, fun w' hSw => by (try dsimp only at hSw); obtain ⟨hs0, hs1⟩ := hSw; go_simp⟩) hSx ?_
          try simp only [Act.put]
          refine wpAnyH_take (i := 11) (v := .pointer (some ⟨w.heap.size + 1 + 1, 0, none⟩)) rfl (by kernel_rfl) (by kernel_rfl) (by kernel_rfl) (fun _ _ _ h => h) (Or.inl ⟨by rfl, fun w' hSw => by (try dsimp only at hSw); obtain ⟨hs0, hs1⟩ := hSw; go_simp⟩) hSx ?_
          try simp only [Act.put]
          refine wpAnyH_take (i := 12) (v := .int .i64 (i : Int)) rfl (by kernel_rfl) (by kernel_rfl) (by kernel_rfl) (fun _ _ _ h => h) (Or.inl ⟨by rfl, fun w' hSw => by (try dsimp only at hSw); obtain ⟨hs0, hs1⟩ := hSw; go_simp⟩) hSx ?_
          try simp only [Act.put]
          refine wpAnyH_take (i := 13) (v := .int .i64 ((i : Int) + 1)) rfl (by kernel_rfl) (by kernel_rfl) (by kernel_rfl) (fun _ _ _ h => h) (Or.inl ⟨by rfl, fun w' hSw => by (try dsimp only at hSw); obtain ⟨hs0, hs1⟩ := hSw; go_simp⟩) hSx ?_
          try simp only [Act.put]
          refine wpAnyH_take (i := 14) (v := .int .i64 (r : Int)) rfl (by kernel_rfl) (by kernel_rfl) (by kernel_rfl) (fun _ _ _ h => h) (Or.inl ⟨by rfl, fun w' hSw => by (try dsimp only at hSw); obtain ⟨hs0, hs1⟩ := hSw; go_simp⟩) hSx ?_
          try simp only [Act.put]
          refine wpAnyH_take (i := 15) (v := .int .i64 (x : Int)) rfl (by kernel_rfl) (by kernel_rfl) (by kernel_rfl) (fun _ _ _ h => h) (Or.inl ⟨by rfl, fun w' hSw => by (try dsimp only at hSw); obtain ⟨hs0, hs1⟩ := hSw; go_simp⟩) hSx ?_
          try simp only [Act.put]
          refine wpAnyH_ready (rs := [10]) (by kernel_rfl) (by simp) ?_
          refine AllReadyH.cons rfl (fun J hJ => ?_) AllReadyH.nil
          go_simp
          refine (HC1.out).mono ?_
          rintro e v1 ⟨rfl, hw⟩
          replace hw := hw.symm
          subst hw
          go_wp2_with fail
          refine hJ.out _ _ (HS.out _ (Kp.drew _ _ _)) (fun hSx => ?_)
          clear hJ J
          try simp only [Act.put, List.setIfInBounds_toArray, List.set_cons_zero, List.set_cons_succ]
          refine wpAnyH_ready (rs := [16]) (by kernel_rfl) (by simp) ?_
          refine AllReadyH.cons rfl (fun J hJ => ?_) AllReadyH.nil
          go_simp
          refine (HC2.out).mono ?_
          rintro e v2 ⟨rfl, hw⟩
          replace hw := hw.symm
          subst hw
          go_wp2_with fail
          refine hJ.out _ _ (HS.out _ (Kp.drew _ _ _)) (fun hSx => ?_)
          clear hJ J
          try simp only [Act.put, List.setIfInBounds_toArray, List.set_cons_zero, List.set_cons_succ]
          refine wpAnyH_ready (rs := [17]) (by kernel_rfl) (by simp) ?_
          refine AllReadyH.cons rfl (fun J hJ => ?_) AllReadyH.nil
          go_simp
          refine (HC3.out).mono ?_
          rintro e v3 ⟨rfl, hL, hK⟩
          go_wp2_with fail
          refine hJ.out _ _ (HS.out _ ((Kp.drew _ _ _).trans hK)) (fun hSx => ?_)
          clear hJ J
          try simp only [Act.put, List.setIfInBounds_toArray, List.set_cons_zero, List.set_cons_succ]
          refine wpAnyH_done (by kernel_rfl) ?_ _
          refine NoPanic.normal ?_
          have hX3 := HX6.out.kp ((Kp.drew _ _ _).trans hK) hL
          have hB3 : Below w.heap.size w v3 := hB.trans (((Kp.drew _ _ _).trans hK).lo.mono (by omega))
          clear hK HC3 HC2 HC1 HS HX6 HR6 hSx
          go_wp2
          go_roundw
          case rel => exact ⟨i + 1, by go_num, by omega, hL, hX3, hB3⟩
          case measure => simp [intOf]; omega
        · have hdj : decide ((i : Int) < 3) = false := by simp; omega
          obtain rfl : i = 3 := by omega
          rw [← HXE.out] at hR
          clear HR6 HX6 y0 y1 y2
          go_wp2
          go_roundw
          case rel => exact ⟨x + 1, by go_num, by omega, hR, hX, hB⟩
          case measure => simp [intOf]; omega
    · have hdi : decide ((x : Int) < (t : Int)) = false := by simp; omega
      obtain rfl : x = t := by omega
      go_wp2_with (go_at_call 51; refine (HSL.out _ HR1.out HX1.out).mono ?_; rintro e w5 ⟨rfl, hR5, hK5⟩; have hX5 := HX1.out.kp hK5 hR5; have HB5 : Hid (Below w.heap.size w w5) := hB.trans (hK5.lo.mono (by omega)); have HR5 : Hid (RowB w5 (w.heap.size + 4) (w.heap.size + 2) m M) := hR5; have HX5 : Hid (Bx4 w.heap.size x m w5) := hX5; obtain ⟨z0, z1, z2⟩ := hX5.cells; clear hK5 hR5 hX5 y0 y1 y2 HSL HUP HAT HADD HXL HXS)
      have HS : Hid (∀ W' : World, (∀ k, k = w.heap.size ∨ k = w.heap.size + 3 → W'.heap[k]? = w5.heap[k]?) → (W'.cell? ⟨w.heap.size, 0, none⟩ = some (.int .i64 (x : Int)) ∧ W'.cell? ⟨w.heap.size + 1 + 1 + 1, 0, none⟩ = some (.pointer (some ⟨w.heap.size + 1 + 1, 0, none⟩)))) := fun W' k => ⟨(cell_same (k _ (.inl rfl))).trans z0, (cell_same (k (w.heap.size + 3) (.inr rfl))).trans z2⟩
      have hw6 : IntKind.i64.wrap (6 * (x : Int)) = 6 * (x : Int) := by simp [IntKind.wrap, IntKind.bits, IntKind.signed]; omega
      have hw63 : IntKind.i64.wrap (6 * (x : Int) + 1) = 6 * (x : Int) + 1 := by simp [IntKind.wrap, IntKind.bits, IntKind.signed]; omega
      have h6 : (6 * (x : Int)) ≤ 99 := by omega
      clear z0 z1 z2
      refine wp_region_noPanic ?_
      refine wp_region_held_drew (S := fun w' => w'.cell? ⟨w.heap.size, 0, none⟩ = some (.int .i64 (x : Int)) ∧ w'.cell? ⟨w.heap.size + 1 + 1 + 1, 0, none⟩ = some (.pointer (some ⟨w.heap.size + 1 + 1, 0, none⟩))) (by kernel_rfl) (HS.out _ (fun _ _ => rfl)) (fun hSx => ?_)
      refine wpAnyH_take (i := 0) (v := .pointer (some ⟨w.heap.size + 1 + 1, 0, none⟩)) rfl (by kernel_rfl) (by kernel_rfl) (by kernel_rfl) (fun _ _ _ h => h) (Or.inl ⟨by rfl, fun w' hSw => by (try dsimp only at hSw); obtain ⟨hs0, hs1⟩ := hSw; go_simp⟩) hSx ?_
      try simp only [Act.put, List.setIfInBounds_toArray]
      refine wpAnyH_take (i := 1) (v := .pointer (some ⟨w.heap.size + 1 + 1, 0, none⟩)) rfl (by kernel_rfl) (by kernel_rfl) (by kernel_rfl) (fun _ _ _ h => h) (Or.inl ⟨by rfl, fun w' hSw => by (try dsimp only at hSw); obtain ⟨hs0, hs1⟩ := hSw; go_simp⟩) hSx ?_
      try simp only [Act.put]
      refine wpAnyH_take (i := 2) (v := .pointer (some ⟨w.heap.size + 1 + 1, 0, none⟩)) rfl (by kernel_rfl) (by kernel_rfl) (by kernel_rfl) (fun _ _ _ h => h) (Or.inl ⟨by rfl, fun w' hSw => by (try dsimp only at hSw); obtain ⟨hs0, hs1⟩ := hSw; go_simp⟩) hSx ?_
      try simp only [Act.put]
      refine wpAnyH_take (i := 3) (v := .int .i64 (x : Int)) rfl (by kernel_rfl) (by kernel_rfl) (by kernel_rfl) (fun _ _ _ h => h) (Or.inl ⟨by rfl, fun w' hSw => by (try dsimp only at hSw); obtain ⟨hs0, hs1⟩ := hSw; go_simp⟩) hSx ?_
      try simp only [Act.put]
      refine wpAnyH_take (i := 4) (v := .int .i64 (6 * (x : Int))) rfl (by kernel_rfl) (by kernel_rfl) (by kernel_rfl) (fun _ _ _ h => h) (Or.inl ⟨by rfl, fun w' hSw => by (try dsimp only at hSw); obtain ⟨hs0, hs1⟩ := hSw; go_simp⟩) hSx ?_
      try simp only [Act.put]
      refine wpAnyH_take (i := 5) (v := .int .i64 (6 * (x : Int) + 1)) rfl (by kernel_rfl) (by kernel_rfl) (by kernel_rfl) (fun _ _ _ h => h) (Or.inl ⟨by rfl, fun w' hSw => by (try dsimp only at hSw); obtain ⟨hs0, hs1⟩ := hSw; go_simp⟩) hSx ?_
      try simp only [Act.put]
      refine wpAnyH_ready (rs := [6]) (by kernel_rfl) (by simp) ?_
      refine AllReadyH.cons rfl (fun J hJ => ?_) AllReadyH.nil
      go_simp
      refine (HTE.out w5.drew HR5.out.drew).mono ?_
      rintro e w6 ⟨x6, Z, rfl, hZ, hO, hb6⟩
      have hk6 : Kp (w.heap.size + 4) (w.heap.size + 2) w5 w6 := (Kp.drew _ _ w5).trans (Kp.of hb6 (Nat.le_refl _) (by omega))
      have hr : w6.heap[w.heap.size + 1]? = _ := (hk6.at' _ (by omega) (by omega)).trans HX5.out.r
      obtain ⟨xa, xc, rfl⟩ := hO.cap
      have hZl := hZ.len
      have HO : Hid (OR w6 (w.heap.size + 4) (.slice xa Z.length xc) Z) := hO
      clear hO
      rw [hZl] at HO ⊢
      clear hZl
      have t0 : w6.cell? ⟨w.heap.size + 1, 0, none⟩ = some (.int .i64 0) := by rw [cell_of_row _ _ _ _ _ _ hr]; rfl
      have t1 : w6.cell? ⟨w.heap.size + 1, 1, none⟩ = some (.slice none 0 0) := by rw [cell_of_row _ _ _ _ _ _ hr]; rfl
      have f0 : w6.frozen? ⟨w.heap.size + 1, 0, none⟩ = false := frozen_of_row w6 _ 0 _ _ hr
      have f1 : w6.frozen? ⟨w.heap.size + 1, 1, none⟩ = false := frozen_of_row w6 _ 1 _ _ hr
      go_wp2_with fail
      refine hJ.out _ _ (HS.out _ (fun k hk => hk6.at' k (by omega) (by omega))) (fun hSx => ?_)
      clear hJ J
      try simp only [Act.put, List.setIfInBounds_toArray, List.set_cons_zero, List.set_cons_succ]
      refine wpAnyH_ready (rs := [7]) (by kernel_rfl) (by simp) ?_
      refine AllReadyH.cons rfl (fun J hJ => ?_) AllReadyH.nil
      go_simp
      refine hJ.out _ _ (HS.out _ (fun k hk => (heap_setCell_other _ ⟨w.heap.size + 1, 1, none⟩ k _ (by show k ≠ w.heap.size + 1; omega)).trans ((heap_setCell_other w6 ⟨w.heap.size + 1, 0, none⟩ k _ (by show k ≠ w.heap.size + 1; omega)).trans (hk6.at' k (by omega) (by omega))))) (fun hSx => ?_)
      clear hJ J
      try simp only [Act.put, List.setIfInBounds_toArray, List.set_cons_zero, List.set_cons_succ]
      refine wpAnyH_done (by kernel_rfl) ?_ _
      refine NoPanic.normal ?_
      go_wp2
      have hn1 := heap_setCell_same w6 (w.heap.size + 1) 0 _ _ (.int .i64 (6 * (x : Int) + 1)) hr
      have hn2 := heap_setCell_same _ (w.heap.size + 1) 1 _ _ (.slice xa M.length xc) hn1
      exact post_d 2 Try.results26 rfl hn2 rfl ⟨_, Z, rfl, hZ, HO.out.keep (fun b hb _ => (heap_setCell_other _ ⟨w.heap.size + 1, 1, none⟩ b _ (by show b ≠ w.heap.size + 1; omega)).trans (heap_setCell_other w6 ⟨w.heap.size + 1, 0, none⟩ b _ (by show b ≠ w.heap.size + 1; omega))), ((HB5.out.trans (hk6.lo.mono (by omega))).setCell (p := ⟨w.heap.size + 1, 0, none⟩) (by show _ ≤ w.heap.size + 1; omega) _).setCell (p := ⟨w.heap.size + 1, 1, none⟩) (by show _ ≤ w.heap.size + 1; omega) _⟩

end Go.Proofs.Ytdeofjmgjhfkcaa

namespace Go.Proofs.Ytdeofjmgjhfkcaa
open Go.RowKit

/-- The blocks of a system that is made. -/
def mkL (n : Nat) : List (List Nat) := if n % 6 = 1 then skL (n / 6) else boL (n / 6)
theorem mkL_three (n : Nat) : ∀ b ∈ mkL n, b.length = 3 := by
  unfold mkL
  by_cases h : n % 6 = 1
  · rw [if_pos h]; exact skL_three _
  · rw [if_neg h]; exact boL_three _
/-- What is told of how many points. -/
def MkT (v p e : Int) (L : List (List Nat)) : Prop := ((v < 1 ∨ 33 < v) ∧ p = 0 ∧ e = 1 ∧ L = []) ∨ (∃ n : Nat, v = n ∧ 1 ≤ n ∧ n ≤ 33 ∧ (((n % 6 = 1 ∨ n % 6 = 3) ∧ p = n ∧ e = 0 ∧ L = mkL n) ∨ (n % 6 ≠ 1 ∧ n % 6 ≠ 3 ∧ p = 0 ∧ e = 4 ∧ L = [])))
theorem MkT.one {v p e p' e' : Int} {L L' : List (List Nat)} (h : MkT v p e L) (h' : MkT v p' e' L') : p = p' ∧ e = e' ∧ L = L' := by
  rcases h with ⟨h1, rfl, rfl, rfl⟩ | ⟨n, rfl, h2, h3, h⟩
  · rcases h' with ⟨_, rfl, rfl, rfl⟩ | ⟨n, rfl, h2, h3, _⟩
    · exact ⟨rfl, rfl, rfl⟩
    · omega
  · rcases h' with ⟨h1, _⟩ | ⟨n', e1, _, _, h'⟩
    · omega
    · obtain rfl : n = n' := by omega
      rcases h with ⟨a, rfl, rfl, rfl⟩ | ⟨a, b, rfl, rfl, rfl⟩ <;> rcases h' with ⟨a', rfl, rfl, rfl⟩ | ⟨a', b', rfl, rfl, rfl⟩
      · exact ⟨rfl, rfl, rfl⟩
      · omega
      · omega
      · exact ⟨rfl, rfl, rfl⟩
theorem MkT.three {v p e : Int} {L : List (List Nat)} (h : MkT v p e L) : ∀ b ∈ L, b.length = 3 := by
  rcases h with ⟨_, _, _, rfl⟩ | ⟨n, _, _, _, ⟨_, _, _, rfl⟩ | ⟨_, _, _, _, rfl⟩⟩
  · simp
  · exact mkL_three n
  · simp
theorem Srtd.one {L Z Z' : List (List Nat)} (h3 : ∀ b ∈ L, b.length = 3) (h : Srtd L Z) (h' : Srtd L Z') : Z = Z' := by
  refine (h.perm.trans h'.perm.symm).eq_of_pairwise (fun a b ha hb h1 h2 => ?_) h.ord h'.ord
  rcases llt_tri (s := a) (t := b) (by rw [h3 a (h.perm.mem_iff.1 ha), h3 b (h'.perm.mem_iff.1 hb)]) with g | g | g
  · exact (h2 g).elim
  · exact g
  · exact (h1 g).elim
theorem Srtd.nil : Srtd [] [] := ⟨List.Perm.refl _, List.Pairwise.nil⟩
set_option maxRecDepth 100000 in
set_option maxHeartbeats 4000000 in
theorem Make_far (v : Int) (w : World) (h : v < 1 ∨ 33 < v) :
    Calls Try.prog 9 #[.int .i64 v] w fun e w' => e = .returned (.tuple #[.agg #[.int .i64 0, .slice none 0 0], .int .i64 1]) ∧ Below w.heap.size w w' := by
  have hr := heap_alloc_new w (.cells #[.int .i64 0, .slice none 0 0] 24)
  have b1 := balloc w (.cells #[.int .i64 0, .slice none 0 0] 24)
  have h6 := heap_setCell_same _ w.heap.size 0 _ 24 (.int .i64 0) hr
  have h7 := heap_setCell_same _ w.heap.size 1 _ 24 (.slice none 0 0) h6
  have b7 := (b1.setCell (p := ⟨w.heap.size, 0, none⟩) (Nat.le_refl _) (.int .i64 0)).setCell (p := ⟨w.heap.size, 1, none⟩) (Nat.le_refl _) (.slice none 0 0)
  have H6 : Hid (_ ∧ Below w.heap.size w _) := ⟨h7, b7⟩
  have H1 : Hid (_ ∧ Below w.heap.size w _) := ⟨hr, b1⟩
  have z0 := frozen_of_row _ _ 0 _ _ hr
  have z1 := frozen_of_row _ _ 1 _ _ hr
  have y0 := cell_of_row _ _ 0 _ _ _ hr
  have y1 := cell_of_row _ _ 1 _ _ _ hr
  clear hr b1 h6 h7 b7
  by_cases h1 : v < 1
  · have hd : decide (v < 1) = true := by simp; omega
    go_enter Try.func9, Try.ntmps9
    go_wp2
    first
      | exact post_d2 2 3 rfl rfl H1.out.1 rfl rfl ⟨rfl, H1.out.2⟩
      | exact post_d2 2 3 rfl rfl (by simpa using H6.out.1) rfl rfl ⟨rfl, H6.out.2⟩
  · have hd : decide (v < 1) = false := by simp; omega
    have hd2 : decide (33 < v) = true := by simp; omega
    have h2 : 33 < v := by omega
    go_enter Try.func9, Try.ntmps9
    go_wp2
    first
      | exact post_d2 2 3 rfl rfl H1.out.1 rfl rfl ⟨rfl, H1.out.2⟩
      | exact post_d2 2 3 rfl rfl (by simpa using H6.out.1) rfl rfl ⟨rfl, H6.out.2⟩
set_option maxRecDepth 100000 in
set_option maxHeartbeats 4000000 in
theorem Make_none (n : Nat) (w : World) (h0 : 1 ≤ n) (h3 : n ≤ 33) (h1 : n % 6 ≠ 1) (h2 : n % 6 ≠ 3) :
    Calls Try.prog 9 #[.int .i64 (n : Int)] w fun e w' => e = .returned (.tuple #[.agg #[.int .i64 0, .slice none 0 0], .int .i64 4]) ∧ Below w.heap.size w w' := by
  have hr := heap_alloc_new w (.cells #[.int .i64 0, .slice none 0 0] 24)
  have b1 := balloc w (.cells #[.int .i64 0, .slice none 0 0] 24)
  have h6 := heap_setCell_same _ w.heap.size 0 _ 24 (.int .i64 0) hr
  have h7 := heap_setCell_same _ w.heap.size 1 _ 24 (.slice none 0 0) h6
  have b7 := (b1.setCell (p := ⟨w.heap.size, 0, none⟩) (Nat.le_refl _) (.int .i64 0)).setCell (p := ⟨w.heap.size, 1, none⟩) (Nat.le_refl _) (.slice none 0 0)
  have H6 : Hid (_ ∧ Below w.heap.size w _) := ⟨h7, b7⟩
  have H1 : Hid (_ ∧ Below w.heap.size w _) := ⟨hr, b1⟩
  have z0 := frozen_of_row _ _ 0 _ _ hr
  have z1 := frozen_of_row _ _ 1 _ _ hr
  have y0 := cell_of_row _ _ 0 _ _ _ hr
  have y1 := cell_of_row _ _ 1 _ _ _ hr
  have hd1 : decide ((n : Int) < 1) = false := by simp; omega
  have hd2 : decide ((33 : Int) < (n : Int)) = false := by simp; omega
  have hd3 : ¬ (n : Int) < 1 := by omega
  have hd4 : ¬ (33 : Int) < (n : Int) := by omega
  have hm : (n : Int).tmod 6 = ((n % 6 : Nat) : Int) := by rw [Int.tmod_eq_emod_of_nonneg (by omega)]; rfl
  have hlt : n % 6 < 6 := Nat.mod_lt _ (by omega)
  generalize n % 6 = r at *
  have e1 : ((r : Int) == 1) = false := by simp; omega
  have e2 : ((r : Int) == 3) = false := by simp; omega
  have e3 : ¬ (r : Int) = 1 := by omega
  have e4 : ¬ (r : Int) = 3 := by omega
  clear hr b1 h6 h7 b7
  go_enter Try.func9, Try.ntmps9
  go_wp2
  first
    | exact post_d2 2 3 rfl rfl H1.out.1 rfl rfl ⟨rfl, H1.out.2⟩
    | exact post_d2 2 3 rfl rfl (by simpa using H6.out.1) rfl rfl ⟨rfl, H6.out.2⟩
theorem made_box {wb w : World} {base n : Nat} {p : Int} {y : Value} {Z : List (List Nat)} (hb : Below (wb.heap.size + 1) (wb.alloc (.cells #[.int .i64 0, .slice none 0 0] 24)) w) (hn : wb.heap.size + 1 ≤ base) (hO : OR w base y Z) (_ : n = 0) :
    w.heap[wb.heap.size]? = some (.cells #[.int .i64 0, .slice none 0 0] 24 (0, 0)) ∧ ((w.setCell ⟨wb.heap.size, 0, none⟩ (.int .i64 p)).setCell ⟨wb.heap.size, 1, none⟩ y).heap[wb.heap.size]? = some (.cells #[.int .i64 p, y] 24 (0, 0)) ∧ Rw ((w.setCell ⟨wb.heap.size, 0, none⟩ (.int .i64 p)).setCell ⟨wb.heap.size, 1, none⟩ y) y (toZ Z) ∧ Below wb.heap.size wb ((w.setCell ⟨wb.heap.size, 0, none⟩ (.int .i64 p)).setCell ⟨wb.heap.size, 1, none⟩ y) := by
  have h : w.heap[wb.heap.size]? = some (.cells #[.int .i64 0, .slice none 0 0] 24 (0, 0)) := (hb.block _ (by omega)).trans (heap_alloc_new wb _)
  have h6 := heap_setCell_same w wb.heap.size 0 _ 24 (.int .i64 p) h
  have h7 := heap_setCell_same _ wb.heap.size 1 _ 24 y h6
  refine ⟨h, by simpa using h7, (hO.keep fun b hb' _ => (heap_setCell_other _ ⟨wb.heap.size, 1, none⟩ b _ (by show b ≠ wb.heap.size; omega)).trans (heap_setCell_other w ⟨wb.heap.size, 0, none⟩ b _ (by show b ≠ wb.heap.size; omega))).rw, ?_⟩
  exact ((((balloc wb _).trans (hb.mono (by omega))).setCell (p := ⟨wb.heap.size, 0, none⟩) (Nat.le_refl _) _).setCell (p := ⟨wb.heap.size, 1, none⟩) (Nat.le_refl _) _)
set_option maxRecDepth 100000 in
set_option maxHeartbeats 4000000 in
theorem Make_sk (n : Nat) (w : World) (h0 : 1 ≤ n) (h3 : n ≤ 33) (h1 : n % 6 = 1) :
    Calls Try.prog 9 #[.int .i64 (n : Int)] w fun e w' => ∃ x Z, e = .returned (.tuple #[.agg #[.int .i64 (n : Int), x], .int .i64 0]) ∧ Srtd (skL (n / 6)) Z ∧ Rw w' x (toZ Z) ∧ Below w.heap.size w w' := by
  have hr := heap_alloc_new w (.cells #[.int .i64 0, .slice none 0 0] 24)
  have hd1 : decide ((n : Int) < 1) = false := by simp; omega
  have hd2 : decide ((33 : Int) < (n : Int)) = false := by simp; omega
  have hd3 : ¬ (n : Int) < 1 := by omega
  have hd4 : ¬ (33 : Int) < (n : Int) := by omega
  have hm : (n : Int).tmod 6 = 1 := by rw [Int.tmod_eq_emod_of_nonneg (by omega)]; omega
  have hq : (n : Int).tdiv 6 = ((n / 6 : Nat) : Int) := by rw [Int.tdiv_eq_ediv_of_nonneg (by omega)]; rfl
  have C := skolem_any (n / 6) (w.alloc (.cells #[.int .i64 0, .slice none 0 0] 24)) (by omega)
  rw [show 6 * (n / 6) + 1 = n by omega, World.size_alloc] at C
  have hq5 : n / 6 ≤ 5 := by omega
  generalize skL (n / 6) = M at *
  generalize n / 6 = q at *
  have HC : Hid (Calls Try.prog 26 #[.int .i64 (q : Int)] (w.alloc (.cells #[.int .i64 0, .slice none 0 0] 24)) fun e w' => ∃ x Z, e = .returned (.agg #[.int .i64 (n : Int), x]) ∧ Srtd M Z ∧ OR w' (w.heap.size + 1 + 4) x Z ∧ Below (w.heap.size + 1) (w.alloc (.cells #[.int .i64 0, .slice none 0 0] 24)) w') := C
  clear C hr h1
  go_enter Try.func9, Try.ntmps9
  go_wp2_with (go_at_call 26; refine HC.out.mono ?_; rintro e w1 ⟨x, Z, rfl, hS, hO, hB⟩; clear HC; obtain ⟨xa, xc, rfl⟩ := hO.cap; have hZl := hS.len; rw [hZl] at hO ⊢; obtain ⟨hr, h7, hR, hb7⟩ := made_box (p := (n : Int)) (n := 0) hB (by omega) hO rfl; have H7 : Hid (_ ∧ _ ∧ _) := ⟨h7, hR, hb7⟩; have z0 := frozen_of_row _ _ 0 _ _ hr; have z1 := frozen_of_row _ _ 1 _ _ hr; have y0 := cell_of_row _ _ 0 _ _ _ hr; have y1 := cell_of_row _ _ 1 _ _ _ hr; clear hr h7 hR hb7 hB hO hZl)
  exact post_d2 2 3 rfl rfl H7.out.1 rfl rfl ⟨_, Z, rfl, hS, H7.out.2.1, H7.out.2.2⟩
set_option maxRecDepth 100000 in
set_option maxHeartbeats 4000000 in
theorem Make_bo (n : Nat) (w : World) (h0 : 1 ≤ n) (h3 : n ≤ 33) (h1 : n % 6 = 3) :
    Calls Try.prog 9 #[.int .i64 (n : Int)] w fun e w' => ∃ x Z, e = .returned (.tuple #[.agg #[.int .i64 (n : Int), x], .int .i64 0]) ∧ Srtd (boL (n / 6)) Z ∧ Rw w' x (toZ Z) ∧ Below w.heap.size w w' := by
  have hr := heap_alloc_new w (.cells #[.int .i64 0, .slice none 0 0] 24)
  have hd1 : decide ((n : Int) < 1) = false := by simp; omega
  have hd2 : decide ((33 : Int) < (n : Int)) = false := by simp; omega
  have hd3 : ¬ (n : Int) < 1 := by omega
  have hd4 : ¬ (33 : Int) < (n : Int) := by omega
  have hm : (n : Int).tmod 6 = 3 := by rw [Int.tmod_eq_emod_of_nonneg (by omega)]; omega
  have hq : (n : Int).tdiv 6 = ((n / 6 : Nat) : Int) := by rw [Int.tdiv_eq_ediv_of_nonneg (by omega)]; rfl
  have C := bose_any (n / 6) (w.alloc (.cells #[.int .i64 0, .slice none 0 0] 24)) (by omega)
  rw [show 6 * (n / 6) + 3 = n by omega, World.size_alloc] at C
  have hq5 : n / 6 ≤ 5 := by omega
  generalize boL (n / 6) = M at *
  generalize n / 6 = q at *
  have HC : Hid (Calls Try.prog 27 #[.int .i64 (q : Int)] (w.alloc (.cells #[.int .i64 0, .slice none 0 0] 24)) fun e w' => ∃ x Z, e = .returned (.agg #[.int .i64 (n : Int), x]) ∧ Srtd M Z ∧ OR w' (w.heap.size + 1 + 4) x Z ∧ Below (w.heap.size + 1) (w.alloc (.cells #[.int .i64 0, .slice none 0 0] 24)) w') := C
  clear C hr h1
  go_enter Try.func9, Try.ntmps9
  go_wp2_with (go_at_call 27; refine HC.out.mono ?_; rintro e w1 ⟨x, Z, rfl, hS, hO, hB⟩; clear HC; obtain ⟨xa, xc, rfl⟩ := hO.cap; have hZl := hS.len; rw [hZl] at hO ⊢; obtain ⟨hr, h7, hR, hb7⟩ := made_box (p := (n : Int)) (n := 0) hB (by omega) hO rfl; have H7 : Hid (_ ∧ _ ∧ _) := ⟨h7, hR, hb7⟩; have z0 := frozen_of_row _ _ 0 _ _ hr; have z1 := frozen_of_row _ _ 1 _ _ hr; have y0 := cell_of_row _ _ 0 _ _ _ hr; have y1 := cell_of_row _ _ 1 _ _ _ hr; clear hr h7 hR hb7 hB hO hZl)
  exact post_d2 2 3 rfl rfl H7.out.1 rfl rfl ⟨_, Z, rfl, hS, H7.out.2.1, H7.out.2.2⟩
theorem Make_any (v : Int) (w : World) :
    Calls Try.prog 9 #[.int .i64 v] w fun e w' => ∃ x Z p f L, e = .returned (.tuple #[.agg #[.int .i64 p, x], .int .i64 f]) ∧ MkT v p f L ∧ Srtd L Z ∧ Rw w' x (toZ Z) ∧ Below w.heap.size w w' := by
  by_cases h : v < 1 ∨ 33 < v
  · refine (Make_far v w h).mono ?_
    rintro e w' ⟨rfl, hb⟩
    exact ⟨_, [], 0, 1, [], rfl, .inl ⟨h, rfl, rfl, rfl⟩, Srtd.nil, (OR.nil w' 0).rw, hb⟩
  · obtain ⟨n, rfl⟩ : ∃ n : Nat, v = n := ⟨v.toNat, by omega⟩
    by_cases h1 : n % 6 = 1
    · refine (Make_sk n w (by omega) (by omega) h1).mono ?_
      rintro e w' ⟨x, Z, rfl, hS, hR, hb⟩
      exact ⟨x, Z, n, 0, _, rfl, .inr ⟨n, rfl, by omega, by omega, .inl ⟨.inl h1, rfl, rfl, (if_pos h1).symm⟩⟩, hS, hR, hb⟩
    · by_cases h2 : n % 6 = 3
      · refine (Make_bo n w (by omega) (by omega) h2).mono ?_
        rintro e w' ⟨x, Z, rfl, hS, hR, hb⟩
        exact ⟨x, Z, n, 0, _, rfl, .inr ⟨n, rfl, by omega, by omega, .inl ⟨.inr h2, rfl, rfl, (if_neg h1).symm⟩⟩, hS, hR, hb⟩
      · refine (Make_none n w (by omega) (by omega) h1 h2).mono ?_
        rintro e w' ⟨rfl, hb⟩
        exact ⟨_, [], 0, 4, [], rfl, .inr ⟨n, rfl, by omega, by omega, .inr ⟨h1, h2, rfl, rfl, rfl⟩⟩, Srtd.nil, (OR.nil w' 0).rw, hb⟩

end Go.Proofs.Ytdeofjmgjhfkcaa
