/- The walks of productOf and of what it makes. -/
import Derived.Test.YtncnaaohihmjnaaDoorQ1
import Derived.Test.YtncnaaohihmjnaaDoorL4
namespace Go.Proofs.YtncnaaohihmjnaaDoor
open Go.RowKit

/-- Block g holds a table of eight rows of eight. -/
def Tab8 (w : World) (g : Nat) (f : Nat → Int) : Prop := ∃ cur t, w.heap[g]? = some (.cells cur t (0, 0)) ∧ ∀ j, j < 8 * 8 → cur[j]? = some (.int .i64 (f j))
theorem Tab8.lt {w : World} {g : Nat} {f : Nat → Int} (h : Tab8 w g f) : g < w.heap.size := by
  obtain ⟨cur, t, h, _⟩ := h
  exact (Array.getElem?_eq_some_iff.1 h).1
theorem Tab8.cell {w : World} {g : Nat} {f : Nat → Int} (h : Tab8 w g f) (j : Nat) (hj : j < 8 * 8) : w.cell? ⟨g, j, none⟩ = some (.int .i64 (f j)) := by
  obtain ⟨cur, t, h, hc⟩ := h
  rw [cell_of_row w g j _ _ _ h, hc j hj]
theorem Tab8.frozen {w : World} {g : Nat} {f : Nat → Int} (h : Tab8 w g f) (j : Nat) : w.frozen? ⟨g, j, none⟩ = false := by
  obtain ⟨cur, t, h, _⟩ := h
  exact frozen_of_row w g j _ _ h
theorem Tab8.set {w : World} {g : Nat} {f : Nat → Int} (h : Tab8 w g f) (i : Nat) (v : Int) : Tab8 (w.setCell ⟨g, i, none⟩ (.int .i64 v)) g (upd f i v) := by
  obtain ⟨cur, t, h, hc⟩ := h
  refine ⟨_, t, heap_setCell_same w g i _ _ _ h, fun j hj => ?_⟩
  have hcj := hc j hj
  have hlt : j < cur.size := (Array.getElem?_eq_some_iff.1 hcj).1
  rw [Array.getElem?_setIfInBounds]
  by_cases e : i = j
  · subst e; rw [if_pos rfl, if_pos hlt]; simp [upd]
  · rw [if_neg e, hcj]; simp [upd, Ne.symm e]
theorem Tab8.below {w w' : World} {g : Nat} {f : Nat → Int} (h : Tab8 w g f) (hb : Below w.heap.size w w') : Tab8 w' g f := by
  have hl := h.lt
  obtain ⟨cur, t, h, hc⟩ := h
  exact ⟨cur, t, (hb.block g hl).trans h, hc⟩
theorem tab8_new (w : World) (o : Obj) (cs : Array Value) (t : TypeId) (hc : ∀ j, j < 8 * 8 → cs[j]? = some (.int .i64 0)) : Tab8 ((w.alloc o).alloc (.cells cs t)) (w.heap.size + 1) (fun _ => 0) := by
  refine ⟨cs, t, ?_, hc⟩
  have := heap_alloc_new (w.alloc o) (.cells cs t)
  simpa using this
theorem zero64 (j : Nat) (hj : j < 8 * 8) : (#[.int .i64 0, .int .i64 0, .int .i64 0, .int .i64 0, .int .i64 0, .int .i64 0, .int .i64 0, .int .i64 0, .int .i64 0, .int .i64 0, .int .i64 0, .int .i64 0, .int .i64 0, .int .i64 0, .int .i64 0, .int .i64 0, .int .i64 0, .int .i64 0, .int .i64 0, .int .i64 0, .int .i64 0, .int .i64 0, .int .i64 0, .int .i64 0, .int .i64 0, .int .i64 0, .int .i64 0, .int .i64 0, .int .i64 0, .int .i64 0, .int .i64 0, .int .i64 0, .int .i64 0, .int .i64 0, .int .i64 0, .int .i64 0, .int .i64 0, .int .i64 0, .int .i64 0, .int .i64 0, .int .i64 0, .int .i64 0, .int .i64 0, .int .i64 0, .int .i64 0, .int .i64 0, .int .i64 0, .int .i64 0, .int .i64 0, .int .i64 0, .int .i64 0, .int .i64 0, .int .i64 0, .int .i64 0, .int .i64 0, .int .i64 0, .int .i64 0, .int .i64 0, .int .i64 0, .int .i64 0, .int .i64 0, .int .i64 0, .int .i64 0, .int .i64 0] : Array Value)[j]? = some (.int .i64 0) := by
  have h : (((List.range (8 * 8)).map fun _ => Value.int .i64 0).toArray)[j]? = some (.int .i64 0) := by
    rw [List.getElem?_toArray, List.getElem?_map, List.getElem?_range hj]
    rfl
  exact h
theorem e52 : ∀ args w, (callFunc 25 args).run Tryd.prog w = .ok (.enter 25 args) w := enters_of Tryd.func25 (by kernel_rfl) rfl
set_option maxHeartbeats 1000000 in
theorem product1_any (g r c : Nat) (f : Nat → Int) (W : World) (hr : r < 8) (hc : c < 8) (hL : Tab8 W g f) :
    Calls Tryd.prog 25 #[.int .i64 (r : Int), .int .i64 (c : Int), .pointer (some ⟨g, 0, none⟩)] W fun e w' => e = .returned (.int .i64 (f (r * 8 + c))) ∧ Below W.heap.size W w' := by
  have h1 := hL.cell (r * 8 + c) (by omega)
  have h3 : (r : Int) < 8 := by omega
  have h4 : (c : Int) < 8 := by omega
  generalize f (r * 8 + c) = x at *
  clear hL
  go_enter Tryd.func25, Tryd.ntmps25
  go_wp2
  go_ret
  exact ⟨rfl, Below.refl _ _⟩
/-- What lies where, so far. -/
def LieI (n : Nat) (L : List Int) (k : Nat) (f : Nat → Int) : Prop := ∀ j, j < k → f (j / n * 8 + j % n) = L.getD j 0
theorem LieI.step {n : Nat} {L : List Int} {k : Nat} {f : Nat → Int} (h1 : 0 < n) (h8 : n ≤ 8) (h : LieI n L k f) : LieI n L (k + 1) (upd f (k / n * 8 + k % n) (L.getD k 0)) := fun j hj => by
  unfold upd
  by_cases e : j = k
  · subst e; rw [if_pos rfl]
  · have m1 := Nat.mod_lt j h1
    have m2 := Nat.mod_lt k h1
    rw [if_neg, h j (by omega)]
    intro e2
    have a1 : j / n = k / n := by omega
    have a2 : j % n = k % n := by omega
    have b1 := Nat.div_add_mod j n
    have b2 := Nat.div_add_mod k n
    rw [a1, a2] at b1
    omega
set_option maxRecDepth 100000 in
set_option maxHeartbeats 8000000 in
theorem productOf_any (n : Nat) (L : List Int) (v : Value) (w : World) (hv : Sl w v L) (G : GoodS n L) :
    Calls Tryd.prog 13 #[.agg #[.int .i64 (n : Int), v]] w fun e w' => (∃ y, e = .returned y ∧ Teller y n n (sq n L) w') ∧ Below w.heap.size w w' := by
  have h1 := G.pos
  have h8 := G.le
  have hpos : 0 < n * n := Nat.mul_pos h1 h1
  obtain ⟨a, off, cap, rfl, ha, hcell⟩ := hv.form G.len hpos
  obtain ⟨z, hz⟩ : ∃ z, z = n * n := ⟨_, rfl⟩
  have HZ : Hid (z = n * n) := hz
  have hz99 : z ≤ 8 * 8 := by rw [hz]; exact Nat.mul_le_mul h8 h8
  have HC : Hid (∀ j, j < z → w.cell? ⟨a, off + j, none⟩ = some (.int .i64 (L.getD j 0))) := by rw [hz]; exact hcell
  have HG : Hid (GoodS n L) := G
  rw [← hz]
  have hx1 : ∀ t cs u, ((w.alloc (.cells #[.int .i64 (n : Int), .slice (some ⟨a, off, none⟩) z cap] t)).alloc (.cells cs u)).cell? ⟨w.heap.size, 1, none⟩ = some (.slice (some ⟨a, off, none⟩) z cap) := fun t cs u => by
    rw [cell_of_row _ _ _ _ _ _ ((Below.heap_alloc _ _ _ (by simp)).trans (heap_alloc_new w _))]; rfl
  have HX0 : Hid (∀ t cs u, ((w.alloc (.cells #[.int .i64 (n : Int), .slice (some ⟨a, off, none⟩) z cap] t)).alloc (.cells cs u)).cell? ⟨w.heap.size, 0, none⟩ = some (.int .i64 (n : Int))) := fun t cs u => by
    rw [cell_of_row _ _ _ _ _ _ ((Below.heap_alloc _ _ _ (by simp)).trans (heap_alloc_new w _))]; rfl
  clear hcell hz hv hpos G
  have hn0 : ¬ n = 0 := by omega
  have hni : (n : Int) ≠ 0 := by omega
  go_enter Tryd.func13, Tryd.ntmps13
  go_wp2
  go_loopw [9] (fun i wr => ∃ (k : Nat) (f : Nat → Int), i = .int .i64 (k : Int) ∧ k ≤ z ∧ Tab8 wr (w.heap.size + 1) f ∧ Hid (LieI n L k f) ∧ wr.cell? ⟨w.heap.size, 0, none⟩ = some (.int .i64 (n : Int)) ∧ Below w.heap.size w wr) (fun i _ => (z - intOf i).toNat)
  case atStart => exact ⟨0, _, rfl, by omega, tab8_new w _ _ _ zero64, (show LieI n L 0 _ from fun j h => by omega), HX0.out _ _ _, Below.next (balloc _ _) (balloc _ _)⟩
  case round =>
    clear hx1 HX0
    obtain ⟨k, f, rfl, hk, hT, HI, hx0, hB⟩ := hrel
    by_cases hlt : k < z
    · have hdk : decide ((k : Int) < (z : Int)) = true := by simp; omega
      have hki : (k : Int) < z := by omega
      have hck := (hB.cell (p := ⟨a, off + k, none⟩) ha).trans (HC.out k hlt)
      have HI2 : Hid (LieI n L (k + 1) (upd f (k / n * 8 + k % n) (L.getD k 0))) := HI.out.step h1 h8
      have hdiv : (k : Int) / (n : Int) = ((k / n : Nat) : Int) := by simp
      have hmod : (k : Int) % (n : Int) = ((k % n : Nat) : Int) := by simp
      have htd : (k : Int).tdiv (n : Int) = ((k / n : Nat) : Int) := rfl
      have htm : (k : Int).tmod (n : Int) = ((k % n : Nat) : Int) := rfl
      have hq8 : k / n < 8 := Nat.lt_of_lt_of_le (Nat.div_lt_of_lt_mul (by rw [← HZ.out]; exact hlt)) h8
      have hr8 : k % n < 8 := Nat.lt_of_lt_of_le (Nat.mod_lt _ h1) h8
      generalize k / n = q at *
      generalize k % n = r at *
      generalize L.getD k 0 = x at *
      have hc := hT.cell (q * 8 + r) (by omega)
      have hf := hT.frozen (q * 8 + r)
      have hwq : IntKind.i64.wrap (q : Int) = (q : Int) := by rw [IntKind.wrap_i64]; omega
      have hwr : IntKind.i64.wrap (r : Int) = (r : Int) := by rw [IntKind.wrap_i64]; omega
      have hq8i : (q : Int) < 8 := by omega
      have hr8i : (r : Int) < 8 := by omega
      clear HI
      go_wp2_with fail
      refine wp_region_noPanic ?_
      refine wp_region_held_drew (S := fun w' => w'.cell? ⟨w.heap.size, 0, none⟩ = some (.int .i64 (n : Int))) (by kernel_rfl) (hx0) (fun hSx => ?_)
      refine wpAnyH_take (i := 0) (v := .int .i64 (k : Int)) rfl (by kernel_rfl) (by kernel_rfl) (by kernel_rfl) (fun _ _ _ h => h) (Or.inl ⟨by rfl, fun w' hSw => by (try dsimp only at hSw); go_simp⟩) hSx ?_
      try simp only [Act.put, List.setIfInBounds_toArray]
      refine wpAnyH_take (i := 1) (v := .pointer (some ⟨w.heap.size, 0, none⟩)) rfl (by kernel_rfl) (by kernel_rfl) (by kernel_rfl) (fun _ _ _ h => h) (Or.inl ⟨by rfl, fun w' hSw => by (try dsimp only at hSw); go_simp⟩) hSx ?_
      try simp only [Act.put]
      refine wpAnyH_take (i := 2) (v := .int .i64 (n : Int)) rfl (by kernel_rfl) (by kernel_rfl) (by kernel_rfl) (fun _ _ _ h => h) (Or.inl ⟨by rfl, fun w' hSw => by (try dsimp only at hSw); go_simp⟩) hSx ?_
      try simp only [Act.put]
      refine wpAnyH_take (i := 3) (v := .int .i64 (q : Int)) rfl (by kernel_rfl) (by kernel_rfl) (by kernel_rfl) (fun _ _ _ h => h) (Or.inl ⟨by rfl, fun w' hSw => by (try dsimp only at hSw); go_simp⟩) hSx ?_
      try simp only [Act.put]
      refine wpAnyH_take (i := 4) (v := .int .i64 (k : Int)) rfl (by kernel_rfl) (by kernel_rfl) (by kernel_rfl) (fun _ _ _ h => h) (Or.inl ⟨by rfl, fun w' hSw => by (try dsimp only at hSw); go_simp⟩) hSx ?_
      try simp only [Act.put]
      refine wpAnyH_take (i := 5) (v := .pointer (some ⟨w.heap.size, 0, none⟩)) rfl (by kernel_rfl) (by kernel_rfl) (by kernel_rfl) (fun _ _ _ h => h) (Or.inl ⟨by rfl, fun w' hSw => by (try dsimp only at hSw); go_simp⟩) hSx ?_
      try simp only [Act.put]
      refine wpAnyH_take (i := 6) (v := .int .i64 (n : Int)) rfl (by kernel_rfl) (by kernel_rfl) (by kernel_rfl) (fun _ _ _ h => h) (Or.inl ⟨by rfl, fun w' hSw => by (try dsimp only at hSw); go_simp⟩) hSx ?_
      try simp only [Act.put]
      refine wpAnyH_take (i := 7) (v := .int .i64 (r : Int)) rfl (by kernel_rfl) (by kernel_rfl) (by kernel_rfl) (fun _ _ _ h => h) (Or.inl ⟨by rfl, fun w' hSw => by (try dsimp only at hSw); go_simp⟩) hSx ?_
      try simp only [Act.put]
      refine wpAnyH_take (i := 8) (v := .int .i64 x) rfl (by kernel_rfl) (by kernel_rfl) (by kernel_rfl) (fun _ _ _ h => h) (Or.inl ⟨by rfl, fun w' hSw => by (try dsimp only at hSw); go_simp⟩) hSx ?_
      try simp only [Act.put]
      refine wpAnyH_take (i := 9) (v := .pointer (some ⟨w.heap.size + 1, q * 8, none⟩)) rfl (by kernel_rfl) (by kernel_rfl) (by kernel_rfl) (fun _ _ _ h => h) (Or.inl ⟨by rfl, fun w' hSw => by (try dsimp only at hSw); go_simp⟩) hSx ?_
      try simp only [Act.put]
      refine wpAnyH_take (i := 10) (v := .pointer (some ⟨w.heap.size + 1, q * 8 + r, none⟩)) rfl (by kernel_rfl) (by kernel_rfl) (by kernel_rfl) (fun _ _ _ h => h) (Or.inl ⟨by rfl, fun w' hSw => by (try dsimp only at hSw); go_simp⟩) hSx ?_
      try simp only [Act.put]
      refine wpAnyH_ready (rs := [11]) (by kernel_rfl) (by simp) ?_
      refine AllReadyH.cons rfl (fun J hJ => ?_) AllReadyH.nil
      go_simp
      refine hJ.out _ _ ((World.cell?_setCell_far wr.drew ⟨w.heap.size + 1, q * 8 + r, none⟩ ⟨w.heap.size, 0, none⟩ (.int .i64 x) (by show w.heap.size + 1 ≠ w.heap.size; omega)).trans hx0) (fun hSx => ?_)
      clear hJ J
      try simp only [Act.put, List.setIfInBounds_toArray, List.set_cons_zero, List.set_cons_succ]
      refine wpAnyH_done (by kernel_rfl) ?_ _
      refine NoPanic.normal ?_
      go_simp
      go_wp2
      go_roundw
      case rel => exact ⟨k + 1, _, by go_num, by omega, Tab8.set (w := wr.drew) hT _ _, HI2, hSx, (hB.drew).setCell (by show w.heap.size ≤ w.heap.size + 1; omega) _⟩
      case measure => simp [intOf]; omega
    · have hdk : decide ((k : Int) < (z : Int)) = false := by simp; omega
      obtain rfl : k = z := by omega
      go_wp2
      go_ret
      refine ⟨⟨_, rfl, _, _, rfl, e52, fun W b r c hr hc => ?_⟩, hB⟩
      have G := HG.out
      have hlt := cell_lt hr hc
      have e := HI.out (r * n + c) (by rw [HZ.out]; exact hlt)
      rw [(divmod hc).1, (divmod hc).2, G.val hr hc] at e
      rw [← e]
      exact product1_any (w.heap.size + 1) r c f W (by omega) (by omega) (hT.below b)
end Go.Proofs.YtncnaaohihmjnaaDoor
