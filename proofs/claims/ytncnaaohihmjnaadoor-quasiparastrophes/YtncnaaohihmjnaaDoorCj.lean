/- The walks of conjugate. -/
import Derived.Test.YtncnaaohihmjnaaDoorL17
import Derived.Test.YtncnaaohihmjnaaDoorLConj
import Derived.Laws.Rows
namespace Go.Proofs.YtncnaaohihmjnaaDoor
open Go.RowKit

def o0 (k : Nat) : Nat := if k ≤ 1 then 0 else if k ≤ 3 then 1 else 2
def o1 (k : Nat) : Nat := if k = 0 ∨ k = 5 then 1 else if k = 1 ∨ k = 3 then 2 else 0
def o2 (k : Nat) : Nat := if k = 0 ∨ k = 2 then 2 else if k = 1 ∨ k = 4 then 1 else 0
def tri (r c x p : Nat) : Nat := if p = 0 then r else if p = 1 then c else x
theorem tri_cj (k r c x : Nat) : tri r c x (o0 k) = cA k r c x ∧ tri r c x (o1 k) = cB k r c x ∧ tri r c x (o2 k) = cD k r c x := by
  unfold tri o0 o1 o2 cA cB cD
  refine ⟨?_, ?_, ?_⟩
  · by_cases h1 : k ≤ 1
    · simp [h1]
    · by_cases h2 : k ≤ 3 <;> simp [h1, h2]
  · by_cases h1 : k = 0 ∨ k = 5
    · simp [h1]
    · by_cases h2 : k = 1 ∨ k = 3 <;> simp [h1, h2]
  · by_cases h1 : k = 0 ∨ k = 2
    · simp [h1]
    · by_cases h2 : k = 1 ∨ k = 4 <;> simp [h1, h2]
theorem o_lt (k : Nat) : o0 k < 3 ∧ o1 k < 3 ∧ o2 k < 3 := by
  unfold o0 o1 o2
  refine ⟨?_, ?_, ?_⟩ <;> (repeat' split) <;> omega
/-- The table of orders lies in block 0. -/
def ordCells : Array Value := (([0, 1, 2, 0, 2, 1, 1, 0, 2, 1, 2, 0, 2, 0, 1, 2, 1, 0] : List Int).map (Value.int .i64)).toArray
def OT (w : World) : Prop := ∃ cs t fr, w.heap[0]? = some (.cells cs t fr) ∧ ∀ j, j < 6 * 3 → cs[j]? = ordCells[j]?
theorem OT.pos {w : World} (h : OT w) : 0 < w.heap.size := by
  obtain ⟨cs, t, fr, h, _⟩ := h
  exact (Array.getElem?_eq_some_iff.1 h).1
theorem OT.below {w w' : World} (h : OT w) (hb : Below w.heap.size w w') : OT w' := by
  have hp := h.pos
  obtain ⟨cs, t, fr, h, hc⟩ := h
  exact ⟨cs, t, fr, (hb.block 0 hp).trans h, hc⟩
theorem OT.row {w : World} (h : OT w) {k : Nat} (hk : k ≤ 5) : w.rangeAt 0 (k * 3) [.int .i64 (o0 k : Int), .int .i64 (o1 k : Int), .int .i64 (o2 k : Int)] := by
  obtain ⟨cs, t, fr, h, hc⟩ := h
  intro j v hj
  have hj3 : j < 3 := by have := (List.getElem?_eq_some_iff.1 hj).1; simpa using this
  rw [cell_of_row _ _ _ _ _ _ h, hc _ (by omega)]
  rcases (show k = 0 ∨ k = 1 ∨ k = 2 ∨ k = 3 ∨ k = 4 ∨ k = 5 by omega) with rfl | rfl | rfl | rfl | rfl | rfl <;> rcases (show j = 0 ∨ j = 1 ∨ j = 2 by omega) with rfl | rfl | rfl <;> (rw [← hj]; rfl)
/-- Block g holds where each number lies. -/
def Lies (w : World) (g : Nat) (f : Nat → Nat) : Prop := ∃ cur, w.heap[g]? = some (.cells cur 51 (0, 0)) ∧ ∀ j, j < 8 * 8 → cur[j]? = some (.int .i64 (f j : Int))
def updL (f : Nat → Nat) (i v : Nat) : Nat → Nat := fun j => if j = i then v else f j
theorem Lies.lt {w : World} {g : Nat} {f : Nat → Nat} (h : Lies w g f) : g < w.heap.size := by
  obtain ⟨cur, h, _⟩ := h
  exact (Array.getElem?_eq_some_iff.1 h).1
theorem Lies.cell {w : World} {g : Nat} {f : Nat → Nat} (h : Lies w g f) (j : Nat) (hj : j < 8 * 8) : w.cell? ⟨g, j, none⟩ = some (.int .i64 (f j : Int)) := by
  obtain ⟨cur, h, hc⟩ := h
  rw [cell_of_row w g j _ _ _ h, hc j hj]
theorem Lies.frozen {w : World} {g : Nat} {f : Nat → Nat} (h : Lies w g f) (j : Nat) : w.frozen? ⟨g, j, none⟩ = false := by
  obtain ⟨cur, h, _⟩ := h
  exact frozen_of_row w g j _ _ h
theorem Lies.set {w : World} {g : Nat} {f : Nat → Nat} (h : Lies w g f) (i v : Nat) : Lies (w.setCell ⟨g, i, none⟩ (.int .i64 (v : Int))) g (updL f i v) := by
  obtain ⟨cur, h, hc⟩ := h
  refine ⟨_, heap_setCell_same w g i _ _ _ h, fun j hj => ?_⟩
  have hcj := hc j hj
  have hlt : j < cur.size := (Array.getElem?_eq_some_iff.1 hcj).1
  rw [Array.getElem?_setIfInBounds]
  by_cases e : i = j
  · subst e; rw [if_pos rfl, if_pos hlt]; simp [updL]
  · rw [if_neg e, hcj]; simp [updL, Ne.symm e]
theorem Lies.below {w w' : World} {g : Nat} {f : Nat → Nat} (h : Lies w g f) (hb : Below w.heap.size w w') : Lies w' g f := by
  have hl := h.lt
  obtain ⟨cur, h, hc⟩ := h
  exact ⟨cur, (hb.block g hl).trans h, hc⟩
theorem inf55 : (Tryd.prog.info? 55).map (·.size) = some 3 := by kernel_rfl
theorem e32c : ∀ args w, (callFunc 29 args).run Tryd.prog w = .ok (.enter 29 args) w := enters_of Tryd.func29 (by kernel_rfl) rfl
set_option maxHeartbeats 1000000 in
theorem conjugate1_any (g r c : Nat) (f : Nat → Nat) (W : World) (hr : r < 8) (hc : c < 8) (hL : Lies W g f) :
    Calls Tryd.prog 29 #[.int .i64 (r : Int), .int .i64 (c : Int), .pointer (some ⟨g, 0, none⟩)] W fun e w' => e = .returned (.int .i64 (f (r * 8 + c) : Int)) ∧ Below W.heap.size W w' := by
  have h1 := hL.cell (r * 8 + c) (by omega)
  have h3 : (r : Int) < 8 := by omega
  have h4 : (c : Int) < 8 := by omega
  generalize f (r * 8 + c) = x at *
  clear hL
  go_enter Tryd.func29, Tryd.ntmps29
  go_wp2
  go_ret
  exact ⟨rfl, Below.refl _ _⟩
/-- What lies where, so far. -/
def CjI (n : Nat) (s : Nat → Nat → Nat) (k r c : Nat) (f : Nat → Nat) : Prop := ∀ i j, i < n → j < n → (i < r ∨ (i = r ∧ j < c)) → f (cA k i j (s i j) * 8 + cB k i j (s i j)) = cD k i j (s i j)
theorem CjI.step {n : Nat} {s : Nat → Nat → Nat} {k r c : Nat} {f : Nat → Nat} (L : Lat n s) (hn : n ≤ 8) (hk : k ≤ 5) (h : CjI n s k r c f) (hr : r < n) (hc : c < n) : CjI n s k r (c + 1) (updL f (cA k r c (s r c) * 8 + cB k r c (s r c)) (cD k r c (s r c))) := fun i j hi hj hs => by
  unfold updL
  have l1 := cj_lt (k := k) hr hc (L.lt r c hr hc)
  have l2 := cj_lt (k := k) hi hj (L.lt i j hi hj)
  by_cases e : i = r ∧ j = c
  · obtain ⟨rfl, rfl⟩ := e
    rw [if_pos rfl]
  · rw [if_neg, h i j hi hj (by omega)]
    intro e2
    have a1 : cA k i j (s i j) = cA k r c (s r c) := by omega
    have a2 : cB k i j (s i j) = cB k r c (s r c) := by omega
    exact e (cj_inj L hk hi hj hr hc a1 a2)

set_option maxHeartbeats 1000000 in
theorem asked_exact (n : Nat) (v : Value) (w : World) : Calls Tryd.prog 28 #[.agg #[.int .i64 (n : Int), v]] w fun e w' => e = .returned (.func (.func 37) #[] #[.pointer (some ⟨w.heap.size, 0, none⟩)]) ∧ w' = w.alloc (.cells #[.int .i64 (n : Int), v] 24) := by
  go_enter Tryd.func28, Tryd.ntmps28
  go_wp2
  go_ret
  exact ⟨rfl, rfl⟩
theorem tell_of {n : Nat} {L : List Int} {v : Value} {W : World} {b : Nat} (G : GoodS n L) (hv : Sl W v L) (hb : W.heap[b]? = some (.cells #[.int .i64 (n : Int), v] 24 (0, 0))) : Teller (.func (.func 37) #[] #[.pointer (some ⟨b, 0, none⟩)]) n n (sq n L) W :=
  ⟨_, _, rfl, e36, fun W' bW r c hr hc => asked1_any n n L v W W' b hv G.len G.le G.le (fun j hj => (G.at0 j hj).1) hb bW r c hr hc⟩
theorem tri_cell {w : World} {b r c x p : Nat} (h : w.heap[b]? = some (.cells #[.int .i64 (r : Int), .int .i64 (c : Int), .int .i64 (x : Int)] 55 (0, 0))) (hp : p < 3) : w.cell? ⟨b, p, none⟩ = some (.int .i64 (tri r c x p : Int)) := by
  rw [cell_of_row _ _ _ _ _ _ h]
  rcases (show p = 0 ∨ p = 1 ∨ p = 2 by omega) with rfl | rfl | rfl <;> rfl
theorem two_new1 (w : World) (cs : Array Value) (t : TypeId) (o : Obj := .cells #[] 0) : ((w.alloc (.cells cs t)).alloc o).drew.heap[w.heap.size]? = some (.cells cs t (0, 0)) := (Below.heap_alloc _ _ _ (by simp)).trans (heap_alloc_new w _)
theorem two_new2 (w : World) (cs : Array Value) (t : TypeId) (o : Obj := .cells #[] 0) : ((w.alloc o).alloc (.cells cs t)).drew.heap[w.heap.size + 1]? = some (.cells cs t (0, 0)) := by
  have h : ((w.alloc o).alloc (.cells cs t)).heap[w.heap.size + 1]? = some (.cells cs t (0, 0)) := by
    have := heap_alloc_new (w.alloc o) (.cells cs t)
    simpa using this
  exact h
theorem three_new (w : World) (a b : Obj) (cs : Array Value) (hc : ∀ j, j < 8 * 8 → cs[j]? = some (.int .i64 0)) : (((w.alloc a).alloc b).alloc (.cells cs 51)).heap[w.heap.size]? = (w.alloc a).heap[w.heap.size]? ∧ (((w.alloc a).alloc b).alloc (.cells cs 51)).heap[w.heap.size + 1]? = ((w.alloc a).alloc b).heap[w.heap.size + 1]? ∧ Lies (((w.alloc a).alloc b).alloc (.cells cs 51)) (w.heap.size + 1 + 1) (fun _ => 0) ∧ Below w.heap.size w (((w.alloc a).alloc b).alloc (.cells cs 51)) := by
  refine ⟨(Below.heap_alloc _ _ _ (by simp; omega)).trans (Below.heap_alloc _ _ _ (by simp)), Below.heap_alloc _ _ _ (by simp), ⟨cs, ?_, fun j hj => hc j hj⟩, Below.next (Below.next (balloc _ _) (balloc _ _)) (balloc _ _)⟩
  have := heap_alloc_new ((w.alloc a).alloc b) (.cells cs 51)
  simpa using this
set_option maxRecDepth 100000 in
set_option maxHeartbeats 8000000 in
theorem conjugate_any (n k : Nat) (L : List Int) (v : Value) (w : World) (hv : Sl w v L) (G : GoodS n L) (hk : k ≤ 5) (hO : OT w) :
    Calls Tryd.prog 18 #[.agg #[.int .i64 (n : Int), v], .int .i64 (k : Int)] w fun e w' => (∃ y t, e = .returned (.agg #[.int .i64 (n : Int), y]) ∧ Cj n (sq n L) k t ∧ w'.ownsRow w.heap.size 3 1 y (n * n) (vn (flN n t (n * n)))) ∧ Below w.heap.size w w' := by
  have h1 := G.pos
  have h8 := G.le
  have HG : Hid (GoodS n L) := G
  have A1 := fun W => asked_exact n v W
  have HV : Hid (Sl w v L) := hv
  have HLT : Hid (∀ r c, r < n → c < n → sq n L r c < n) := G.lat.lt
  have HOT : Hid (OT w) := hO
  obtain ⟨s, Hs⟩ : ∃ s, Hid (sq n L = s) := ⟨_, rfl⟩
  have HLS : Hid (Lat n s) := by rw [← Hs.out]; exact G.lat
  rw [Hs.out] at HLT ⊢
  have hki : (k : Int) < 6 := by omega
  clear hv G hO
  go_enter Tryd.func18, Tryd.ntmps18
  go_wp2_with fail
  obtain ⟨f1, f2, hL, hB⟩ := three_new w (.cells #[.int .i64 (n : Int), v] 24) (.cells #[.int .i64 0, .slice none 0 0] 24) #[.int .i64 0, .int .i64 0, .int .i64 0, .int .i64 0, .int .i64 0, .int .i64 0, .int .i64 0, .int .i64 0, .int .i64 0, .int .i64 0, .int .i64 0, .int .i64 0, .int .i64 0, .int .i64 0, .int .i64 0, .int .i64 0, .int .i64 0, .int .i64 0, .int .i64 0, .int .i64 0, .int .i64 0, .int .i64 0, .int .i64 0, .int .i64 0, .int .i64 0, .int .i64 0, .int .i64 0, .int .i64 0, .int .i64 0, .int .i64 0, .int .i64 0, .int .i64 0, .int .i64 0, .int .i64 0, .int .i64 0, .int .i64 0, .int .i64 0, .int .i64 0, .int .i64 0, .int .i64 0, .int .i64 0, .int .i64 0, .int .i64 0, .int .i64 0, .int .i64 0, .int .i64 0, .int .i64 0, .int .i64 0, .int .i64 0, .int .i64 0, .int .i64 0, .int .i64 0, .int .i64 0, .int .i64 0, .int .i64 0, .int .i64 0, .int .i64 0, .int .i64 0, .int .i64 0, .int .i64 0, .int .i64 0, .int .i64 0, .int .i64 0, .int .i64 0] (fun j hj => by
    have h : (((List.range (8 * 8)).map fun _ => Value.int .i64 0).toArray)[j]? = some (.int .i64 0) := by
      rw [List.getElem?_toArray, List.getElem?_map, List.getElem?_range hj]
      rfl
    exact h)
  replace f1 := f1.trans (heap_alloc_new w _)
  have f2' : ((w.alloc (.cells #[.int .i64 (n : Int), v] 24)).alloc (.cells #[.int .i64 0, .slice none 0 0] 24)).heap[w.heap.size + 1]? = some (.cells #[.int .i64 0, .slice none 0 0] 24 (0, 0)) := by
    have := heap_alloc_new (w.alloc (.cells #[.int .i64 (n : Int), v] 24)) (.cells #[.int .i64 0, .slice none 0 0] 24)
    simpa using this
  replace f2 := f2.trans f2'
  clear f2'
  obtain ⟨w3, hw3⟩ : ∃ w3, w3 = ((w.alloc (.cells #[.int .i64 (n : Int), v] 24)).alloc (.cells #[.int .i64 0, .slice none 0 0] 24)).alloc (.cells #[.int .i64 0, .int .i64 0, .int .i64 0, .int .i64 0, .int .i64 0, .int .i64 0, .int .i64 0, .int .i64 0, .int .i64 0, .int .i64 0, .int .i64 0, .int .i64 0, .int .i64 0, .int .i64 0, .int .i64 0, .int .i64 0, .int .i64 0, .int .i64 0, .int .i64 0, .int .i64 0, .int .i64 0, .int .i64 0, .int .i64 0, .int .i64 0, .int .i64 0, .int .i64 0, .int .i64 0, .int .i64 0, .int .i64 0, .int .i64 0, .int .i64 0, .int .i64 0, .int .i64 0, .int .i64 0, .int .i64 0, .int .i64 0, .int .i64 0, .int .i64 0, .int .i64 0, .int .i64 0, .int .i64 0, .int .i64 0, .int .i64 0, .int .i64 0, .int .i64 0, .int .i64 0, .int .i64 0, .int .i64 0, .int .i64 0, .int .i64 0, .int .i64 0, .int .i64 0, .int .i64 0, .int .i64 0, .int .i64 0, .int .i64 0, .int .i64 0, .int .i64 0, .int .i64 0, .int .i64 0, .int .i64 0, .int .i64 0, .int .i64 0, .int .i64 0] 51) := ⟨_, rfl⟩
  rw [← hw3] at f1 f2 hL hB ⊢
  clear hw3
  have hs3 := hL.lt
  have hO3 := HOT.out.below hB
  have hp3 := hO3.pos
  have x0 : w3.cell? ⟨w.heap.size, 0, none⟩ = some (.int .i64 (n : Int)) := by rw [cell_of_row _ _ _ _ _ _ f1]; rfl
  have x1 : w3.cell? ⟨w.heap.size, 1, none⟩ = some v := by rw [cell_of_row _ _ _ _ _ _ f1]; rfl
  have SS : Hid (∀ W, Below w3.heap.size w3 W → W.rangeAt w.heap.size 0 [.int .i64 (n : Int), v] ∧ W.rangeAt 0 (k * 3) [.int .i64 (o0 k : Int), .int .i64 (o1 k : Int), .int .i64 (o2 k : Int)]) := fun W bW => by
    have kk : ∀ o, W.cell? ⟨w.heap.size, o, none⟩ = w3.cell? ⟨w.heap.size, o, none⟩ := fun o => bW.cell (p := ⟨w.heap.size, o, none⟩) (by show w.heap.size < w3.heap.size; omega)
    exact ⟨range_two W _ _ _ ((kk 0).trans x0) ((kk 1).trans x1), (hO3.below bW).row hk⟩
  have HP : Hid (o0 k < 3 ∧ o1 k < 3 ∧ o2 k < 3 ∧ ∀ r c x, tri r c x (o0 k) = cA k r c x ∧ tri r c x (o1 k) = cB k r c x ∧ tri r c x (o2 k) = cD k r c x) := ⟨(o_lt k).1, (o_lt k).2.1, (o_lt k).2.2, fun r c x => tri_cj k r c x⟩
  obtain ⟨p0, Hp0⟩ : ∃ p, Hid (o0 k = p) := ⟨_, rfl⟩
  obtain ⟨p1, Hp1⟩ : ∃ p, Hid (o1 k = p) := ⟨_, rfl⟩
  obtain ⟨p2, Hp2⟩ : ∃ p, Hid (o2 k = p) := ⟨_, rfl⟩
  rw [Hp0.out, Hp1.out, Hp2.out] at SS HP
  clear x0 x1
  refine wp_region_noPanic ?_
  refine wp_region_held_drew (S := fun w' => w'.rangeAt w.heap.size 0 [.int .i64 (n : Int), v] ∧ w'.rangeAt 0 (k * 3) [.int .i64 (p0 : Int), .int .i64 (p1 : Int), .int .i64 (p2 : Int)]) (by kernel_rfl) (SS.out _ (Below.refl _ w3).drew) (fun hSx => ?_)
  refine wpAnyH_take (i := 0) (v := .agg #[.int .i64 (n : Int), v]) rfl (by kernel_rfl) (by kernel_rfl) (by kernel_rfl) (fun _ _ _ h => h) (yieldsIf_load_mid (by rfl) 24 _ rfl w.heap.size 0 rfl [.int .i64 (n : Int), v] _ (fun _ h => h.1) Tryd.underlying24 rfl inf24) hSx ?_
  try simp only [Act.put, List.setIfInBounds_toArray]
  refine wpAnyH_take (i := 2) (v := .int .i64 (k : Int)) rfl (by kernel_rfl) (by kernel_rfl) (by kernel_rfl) (fun _ _ _ h => h) (Or.inl ⟨by rfl, fun w' hSw => by (try dsimp only at hSw); go_simp⟩) hSx ?_
  try simp only [Act.put]
  refine wpAnyH_take (i := 3) (v := .pointer (some ⟨0, k * 3, none⟩)) rfl (by kernel_rfl) (by kernel_rfl) (by kernel_rfl) (fun _ _ _ h => h) (Or.inl ⟨by rfl, fun w' hSw => by (try dsimp only at hSw); go_simp⟩) hSx ?_
  try simp only [Act.put]
  refine wpAnyH_take (i := 4) (v := .agg #[.int .i64 (p0 : Int), .int .i64 (p1 : Int), .int .i64 (p2 : Int)]) rfl (by kernel_rfl) (by kernel_rfl) (by kernel_rfl) (fun _ _ _ h => h) (yieldsIf_load_mid (by rfl) 55 _ rfl 0 (k * 3) rfl [.int .i64 (p0 : Int), .int .i64 (p1 : Int), .int .i64 (p2 : Int)] _ (fun _ h => h.2) Tryd.underlying55 rfl inf55) hSx ?_
  try simp only [Act.put]
  refine wpAnyH_ready (rs := [1, 5]) (by kernel_rfl) (by simp) ?_
  refine AllReadyH.cons rfl (fun J hJ => ?_) (AllReadyH.cons rfl (fun J hJ => ?_) AllReadyH.nil)
  · go_simp
    refine (A1 _).mono ?_
    rintro e w5 ⟨rfl, rfl⟩
    go_wp2_with fail
    refine hJ.out _ _ (SS.out (w3.drew.alloc (.cells #[.int .i64 (n : Int), v] 24)) (Below.next (Below.refl _ w3).drew (balloc _ _))) (fun _ => ?_)
    clear hJ J
    try simp only [Act.put, List.setIfInBounds_toArray, List.set_cons_zero, List.set_cons_succ]
    refine wpAnyH_ready (rs := [5]) (by kernel_rfl) (by simp) ?_
    refine AllReadyH.cons rfl (fun J hJ => ?_) AllReadyH.nil
    go_simp
    refine hJ.out _ _ (SS.out ((w3.drew.alloc (.cells #[.int .i64 (n : Int), v] 24)).alloc (.cells #[.int .i64 0, .int .i64 0, .int .i64 0] 55)) (Below.next (Below.next (Below.refl _ w3).drew (balloc _ _)) (balloc _ _))) (fun _ => ?_)
    clear hJ J
    try simp only [Act.put, List.setIfInBounds_toArray, List.set_cons_zero, List.set_cons_succ]
    refine wpAnyH_ready (rs := [6]) (by kernel_rfl) (by simp) ?_
    refine AllReadyH.cons rfl (fun J hJ => ?_) AllReadyH.nil
    go_simp
    refine hJ.out _ _ (SS.out ((w3.drew.alloc (.cells #[.int .i64 (n : Int), v] 24)).alloc (.cells #[.int .i64 0, .int .i64 0, .int .i64 0] 55)) (Below.next (Below.next (Below.refl _ w3).drew (balloc _ _)) (balloc _ _))) (fun _ => ?_)
    clear hJ J
    try simp only [Act.put, List.setIfInBounds_toArray, List.set_cons_zero, List.set_cons_succ]
    refine wpAnyH_ready (rs := [7]) (by kernel_rfl) (by simp) ?_
    refine AllReadyH.cons rfl (fun J hJ => ?_) AllReadyH.nil
    go_simp
    refine hJ.out _ _ (SS.out ((w3.alloc (.cells #[.int .i64 (n : Int), v] 24)).alloc (.cells #[.int .i64 (p0 : Int), .int .i64 (p1 : Int), .int .i64 (p2 : Int)] 55)).drew (Below.next (balloc _ _) (balloc _ _)).drew) (fun _ => ?_)
    clear hJ J
    try simp only [Act.put, List.setIfInBounds_toArray, List.set_cons_zero, List.set_cons_succ]
    refine wpAnyH_done (by kernel_rfl) ?_ _
    refine NoPanic.normal ?_
    obtain ⟨T, hT⟩ : ∃ T, T = w3.heap.size + 1 := ⟨_, rfl⟩
    obtain ⟨B5, hB5⟩ : ∃ T, T = w3.heap.size := ⟨_, rfl⟩
    obtain ⟨W, hW⟩ : ∃ W, W = ((w3.alloc (.cells #[.int .i64 (n : Int), v] 24)).alloc (.cells #[.int .i64 (p0 : Int), .int .i64 (p1 : Int), .int .i64 (p2 : Int)] 55)).drew := ⟨_, rfl⟩
    have bW : Below w3.heap.size w3 W := by rw [hW]; exact (Below.next (balloc _ _) (balloc _ _)).drew
    have hTk : W.heap[T]? = some (.cells #[.int .i64 (p0 : Int), .int .i64 (p1 : Int), .int .i64 (p2 : Int)] 55 (0, 0)) := by rw [hW, hT]; exact two_new2 _ _ _ _
    have hb5 : W.heap[B5]? = some (.cells #[.int .i64 (n : Int), v] 24 (0, 0)) := by rw [hW, hB5]; exact two_new1 _ _ _ _
    have hn1 : w.heap.size + 1 + 1 < T := by omega
    have hn2 : w.heap.size + 1 + 1 < B5 := by omega
    rw [← hW, ← hT, ← hB5]
    replace f1 := (bW.block _ (by omega)).trans f1
    replace f2 := (bW.block _ (by omega)).trans f2
    replace hL := hL.below bW
    replace hB := Below.next hB bW
    clear hW hT hB5 bW hs3 SS hO3 hp3 hSx
    have y0 : W.cell? ⟨w.heap.size, 0, none⟩ = some (.int .i64 (n : Int)) := by rw [cell_of_row _ _ _ _ _ _ f1]; rfl
    go_wp2
    go_loopw [18] (fun i_ wr => ∃ (r : Nat) (f : Nat → Nat), i_ = .int .i64 (r : Int) ∧ r ≤ n ∧ Hid (CjI n s k r 0 f) ∧ Lies wr (w.heap.size + 1 + 1) f ∧ wr.heap[T]? = some (.cells #[.int .i64 (p0 : Int), .int .i64 (p1 : Int), .int .i64 (p2 : Int)] 55 (0, 0)) ∧ wr.heap[B5]? = some (.cells #[.int .i64 (n : Int), v] 24 (0, 0)) ∧ wr.heap[w.heap.size]? = some (.cells #[.int .i64 (n : Int), v] 24 (0, 0)) ∧ wr.heap[w.heap.size + 1]? = some (.cells #[.int .i64 0, .slice none 0 0] 24 (0, 0)) ∧ Below w.heap.size w wr) (fun i _ => (n - intOf i).toNat)
    case atStart => exact ⟨0, _, rfl, by omega, (fun i j _ _ h => by omega : CjI n s k 0 0 _), hL, hTk, hb5, f1, f2, hB⟩
    case round =>
      clear hL hTk hb5 f1 f2 hB y0
      obtain ⟨r, f, rfl, hr, HI, hL, hTk, hb5, f1, f2, hB⟩ := hrel
      have y0 : wr.cell? ⟨w.heap.size, 0, none⟩ = some (.int .i64 (n : Int)) := by rw [cell_of_row _ _ _ _ _ _ f1]; rfl
      by_cases hlt : r < n
      · have hdr : decide ((r : Int) < (n : Int)) = true := by simp; omega
        go_wp2
        go_loopw [23] (fun i_ wr => ∃ (c : Nat) (f : Nat → Nat), i_ = .int .i64 (c : Int) ∧ c ≤ n ∧ Hid (CjI n s k r c f) ∧ Lies wr (w.heap.size + 1 + 1) f ∧ wr.heap[T]? = some (.cells #[.int .i64 (p0 : Int), .int .i64 (p1 : Int), .int .i64 (p2 : Int)] 55 (0, 0)) ∧ wr.heap[B5]? = some (.cells #[.int .i64 (n : Int), v] 24 (0, 0)) ∧ wr.heap[w.heap.size]? = some (.cells #[.int .i64 (n : Int), v] 24 (0, 0)) ∧ wr.heap[w.heap.size + 1]? = some (.cells #[.int .i64 0, .slice none 0 0] 24 (0, 0)) ∧ Below w.heap.size w wr) (fun i _ => (n - intOf i).toNat)
        case atStart => exact ⟨0, f, rfl, by omega, HI, hL, hTk, hb5, f1, f2, hB⟩
        case round =>
          clear hL hTk hb5 f1 f2 hB y0 HI f
          obtain ⟨c, f, rfl, hc, HI, hL, hTk, hb5, f1, f2, hB⟩ := hrel
          by_cases hlc : c < n
          · have hdc : decide ((c : Int) < (n : Int)) = true := by simp; omega
            have D1 : Calls Tryd.prog 37 #[.int .i64 (r : Int), .int .i64 (c : Int), .pointer (some ⟨B5, 0, none⟩)] wr fun e w' => e = .returned (.int .i64 (s r c : Int)) ∧ Below wr.heap.size wr w' := by
              rw [← Hs.out]
              exact asked1_any n n L v wr wr B5 (HV.out.below hB) HG.out.len h8 h8 (fun j hj => (HG.out.at0 j hj).1) hb5 (Below.refl _ _) r c hlt hlc
            have hxn := HLT.out r c hlt hlc
            have HI2 : Hid (CjI n s k r (c + 1) (updL f (cA k r c (s r c) * 8 + cB k r c (s r c)) (cD k r c (s r c)))) := HI.out.step HLS.out h8 hk hlt hlc
            have hcl := cj_lt (k := k) hlt hlc hxn
            have HQ := HP.out.2.2.2 r c (s r c)
            obtain ⟨x, Hx⟩ : ∃ x, Hid (s r c = x) := ⟨_, rfl⟩
            rw [Hx.out] at D1 hxn HI2 hcl HQ
            obtain ⟨A, HA⟩ : ∃ x', Hid (cA k r c x = x') := ⟨_, rfl⟩
            obtain ⟨B, HBB⟩ : ∃ x', Hid (cB k r c x = x') := ⟨_, rfl⟩
            obtain ⟨D, HD⟩ : ∃ x', Hid (cD k r c x = x') := ⟨_, rfl⟩
            rw [HA.out, HBB.out, HD.out] at HI2 hcl HQ
            have HQ' : Hid (tri r c x p0 = A ∧ tri r c x p1 = B ∧ tri r c x p2 = D) := HQ
            have hA8 : A < 8 := by omega
            have hB8 : B < 8 := by omega
            have hA8i : (A : Int) < 8 := by omega
            have hB8i : (B : Int) < 8 := by omega
            have hp3 : p0 < 3 ∧ p1 < 3 ∧ p2 < 3 := ⟨HP.out.1, HP.out.2.1, HP.out.2.2.1⟩
            have hq0 : (p0 : Int) < 3 := by omega
            have hq1 : (p1 : Int) < 3 := by omega
            have hq2 : (p2 : Int) < 3 := by omega
            clear HI HQ hcl
            go_wp2_with (first | (go_at_call 37; refine D1.mono ?_; rintro e w6 ⟨rfl, b6⟩; clear D1) | fail)
            have b7 := Below.next b6 (balloc w6 (.cells #[.int .i64 (r : Int), .int .i64 (c : Int), .int .i64 (x : Int)] 55))
            have hlG := hL.lt
            have hlT : T < wr.heap.size := (Array.getElem?_eq_some_iff.1 hTk).1
            have hl5 : B5 < wr.heap.size := (Array.getElem?_eq_some_iff.1 hb5).1
            have hL7 := hL.below b7
            have hT7 := (b7.block _ hlT).trans hTk
            have h57 := (b7.block _ hl5).trans hb5
            have f17 := (b7.block _ (by omega)).trans f1
            have f27 := (b7.block _ (by omega)).trans f2
            have hC7 := heap_alloc_new w6 (.cells #[.int .i64 (r : Int), .int .i64 (c : Int), .int .i64 (x : Int)] 55)
            have hs6 := b6.size
            have SC : Hid (∀ W : World, W.heap[T]? = some (.cells #[.int .i64 (p0 : Int), .int .i64 (p1 : Int), .int .i64 (p2 : Int)] 55 (0, 0)) → W.heap[w6.heap.size]? = some (.cells #[.int .i64 (r : Int), .int .i64 (c : Int), .int .i64 (x : Int)] 55 (0, 0)) → W.cell? ⟨T, 0, none⟩ = some (.int .i64 (p0 : Int)) ∧ W.cell? ⟨T, 1, none⟩ = some (.int .i64 (p1 : Int)) ∧ W.cell? ⟨T, 2, none⟩ = some (.int .i64 (p2 : Int)) ∧ W.cell? ⟨w6.heap.size, p0, none⟩ = some (.int .i64 (A : Int)) ∧ W.cell? ⟨w6.heap.size, p1, none⟩ = some (.int .i64 (B : Int)) ∧ W.cell? ⟨w6.heap.size, p2, none⟩ = some (.int .i64 (D : Int))) := fun W k1 k2 => by
              refine ⟨tri_cell k1 (p := 0) (by decide), tri_cell k1 (p := 1) (by decide), tri_cell k1 (p := 2) (by decide), ?_, ?_, ?_⟩
              · rw [tri_cell k2 hp3.1, HQ'.out.1]
              · rw [tri_cell k2 hp3.2.1, HQ'.out.2.1]
              · rw [tri_cell k2 hp3.2.2, HQ'.out.2.2]
            have hS7 := SC.out _ hT7 hC7
            have hfz := hL7.frozen (A * 8 + B)
            have hcz := hL7.cell (A * 8 + B) (by omega)
            refine wp_region_noPanic ?_
            refine wp_region_held_drew (S := fun w' => w'.cell? ⟨T, 0, none⟩ = some (.int .i64 (p0 : Int)) ∧ w'.cell? ⟨T, 1, none⟩ = some (.int .i64 (p1 : Int)) ∧ w'.cell? ⟨T, 2, none⟩ = some (.int .i64 (p2 : Int)) ∧ w'.cell? ⟨w6.heap.size, p0, none⟩ = some (.int .i64 (A : Int)) ∧ w'.cell? ⟨w6.heap.size, p1, none⟩ = some (.int .i64 (B : Int)) ∧ w'.cell? ⟨w6.heap.size, p2, none⟩ = some (.int .i64 (D : Int))) (by kernel_rfl) (hS7) (fun hSx => ?_)
            refine wpAnyH_take (i := 0) (v := .pointer (some ⟨T, 0, none⟩)) rfl (by kernel_rfl) (by kernel_rfl) (by kernel_rfl) (fun _ _ _ h => h) (Or.inl ⟨by rfl, fun w' hSw => by (try dsimp only at hSw); go_simp⟩) hSx ?_
            try simp only [Act.put, List.setIfInBounds_toArray]
            refine wpAnyH_take (i := 1) (v := .int .i64 (p0 : Int)) rfl (by kernel_rfl) (by kernel_rfl) (by kernel_rfl) (fun _ _ _ h => h) (Or.inl ⟨by rfl, fun w' hSw => by have hSw1 := hSw.1; go_simp⟩) hSx ?_
            try simp only [Act.put]
            refine wpAnyH_take (i := 2) (v := .pointer (some ⟨w6.heap.size, p0, none⟩)) rfl (by kernel_rfl) (by kernel_rfl) (by kernel_rfl) (fun _ _ _ h => h) (Or.inl ⟨by rfl, fun w' hSw => by (try dsimp only at hSw); go_simp⟩) hSx ?_
            try simp only [Act.put]
            refine wpAnyH_take (i := 3) (v := .int .i64 (A : Int)) rfl (by kernel_rfl) (by kernel_rfl) (by kernel_rfl) (fun _ _ _ h => h) (Or.inl ⟨by rfl, fun w' hSw => by have hSw1 := hSw.2.2.2.1; go_simp⟩) hSx ?_
            try simp only [Act.put]
            refine wpAnyH_take (i := 4) (v := .pointer (some ⟨T, 1, none⟩)) rfl (by kernel_rfl) (by kernel_rfl) (by kernel_rfl) (fun _ _ _ h => h) (Or.inl ⟨by rfl, fun w' hSw => by (try dsimp only at hSw); go_simp⟩) hSx ?_
            try simp only [Act.put]
            refine wpAnyH_take (i := 5) (v := .int .i64 (p1 : Int)) rfl (by kernel_rfl) (by kernel_rfl) (by kernel_rfl) (fun _ _ _ h => h) (Or.inl ⟨by rfl, fun w' hSw => by have hSw1 := hSw.2.1; go_simp⟩) hSx ?_
            try simp only [Act.put]
            refine wpAnyH_take (i := 6) (v := .pointer (some ⟨w6.heap.size, p1, none⟩)) rfl (by kernel_rfl) (by kernel_rfl) (by kernel_rfl) (fun _ _ _ h => h) (Or.inl ⟨by rfl, fun w' hSw => by (try dsimp only at hSw); go_simp⟩) hSx ?_
            try simp only [Act.put]
            refine wpAnyH_take (i := 7) (v := .int .i64 (B : Int)) rfl (by kernel_rfl) (by kernel_rfl) (by kernel_rfl) (fun _ _ _ h => h) (Or.inl ⟨by rfl, fun w' hSw => by have hSw1 := hSw.2.2.2.2.1; go_simp⟩) hSx ?_
            try simp only [Act.put]
            refine wpAnyH_take (i := 8) (v := .pointer (some ⟨T, 2, none⟩)) rfl (by kernel_rfl) (by kernel_rfl) (by kernel_rfl) (fun _ _ _ h => h) (Or.inl ⟨by rfl, fun w' hSw => by (try dsimp only at hSw); go_simp⟩) hSx ?_
            try simp only [Act.put]
            refine wpAnyH_take (i := 9) (v := .int .i64 (p2 : Int)) rfl (by kernel_rfl) (by kernel_rfl) (by kernel_rfl) (fun _ _ _ h => h) (Or.inl ⟨by rfl, fun w' hSw => by have hSw1 := hSw.2.2.1; go_simp⟩) hSx ?_
            try simp only [Act.put]
            refine wpAnyH_take (i := 10) (v := .pointer (some ⟨w6.heap.size, p2, none⟩)) rfl (by kernel_rfl) (by kernel_rfl) (by kernel_rfl) (fun _ _ _ h => h) (Or.inl ⟨by rfl, fun w' hSw => by (try dsimp only at hSw); go_simp⟩) hSx ?_
            try simp only [Act.put]
            refine wpAnyH_take (i := 11) (v := .int .i64 (D : Int)) rfl (by kernel_rfl) (by kernel_rfl) (by kernel_rfl) (fun _ _ _ h => h) (Or.inl ⟨by rfl, fun w' hSw => by have hSw1 := hSw.2.2.2.2.2; go_simp⟩) hSx ?_
            try simp only [Act.put]
            refine wpAnyH_take (i := 12) (v := .pointer (some ⟨w.heap.size + 1 + 1, A * 8, none⟩)) rfl (by kernel_rfl) (by kernel_rfl) (by kernel_rfl) (fun _ _ _ h => h) (Or.inl ⟨by rfl, fun w' hSw => by (try dsimp only at hSw); go_simp⟩) hSx ?_
            try simp only [Act.put]
            refine wpAnyH_take (i := 13) (v := .pointer (some ⟨w.heap.size + 1 + 1, A * 8 + B, none⟩)) rfl (by kernel_rfl) (by kernel_rfl) (by kernel_rfl) (fun _ _ _ h => h) (Or.inl ⟨by rfl, fun w' hSw => by (try dsimp only at hSw); go_simp⟩) hSx ?_
            try simp only [Act.put]
            have o8 : ∀ j, j ≠ w.heap.size + 1 + 1 → ((w6.alloc (.cells #[.int .i64 (r : Int), .int .i64 (c : Int), .int .i64 (x : Int)] 55)).drew.setCell ⟨w.heap.size + 1 + 1, A * 8 + B, none⟩ (.int .i64 (D : Int))).heap[j]? = (w6.alloc (.cells #[.int .i64 (r : Int), .int .i64 (c : Int), .int .i64 (x : Int)] 55)).heap[j]? := fun j hj => heap_setCell_other _ _ _ _ hj
            have hL8 : Lies ((w6.alloc (.cells #[.int .i64 (r : Int), .int .i64 (c : Int), .int .i64 (x : Int)] 55)).drew.setCell ⟨w.heap.size + 1 + 1, A * 8 + B, none⟩ (.int .i64 (D : Int))) (w.heap.size + 1 + 1) (updL f (A * 8 + B) D) := hL7.set (A * 8 + B) D
            have hT8 := (o8 T (by omega)).trans hT7
            have h58 := (o8 B5 (by omega)).trans h57
            have f18 := (o8 w.heap.size (by omega)).trans f17
            have f28 := (o8 (w.heap.size + 1) (by omega)).trans f27
            have hC8 := (o8 w6.heap.size (by omega)).trans hC7
            have hB8' : Below w.heap.size w ((w6.alloc (.cells #[.int .i64 (r : Int), .int .i64 (c : Int), .int .i64 (x : Int)] 55)).drew.setCell ⟨w.heap.size + 1 + 1, A * 8 + B, none⟩ (.int .i64 (D : Int))) := (Below.next hB b7).drew.setCell (by show w.heap.size ≤ w.heap.size + 1 + 1; omega) _
            refine wpAnyH_ready (rs := [14]) (by kernel_rfl) (by simp) ?_
            refine AllReadyH.cons rfl (fun J hJ => ?_) AllReadyH.nil
            go_simp
            refine hJ.out _ _ (SC.out _ hT8 hC8) (fun _ => ?_)
            clear hJ J
            try simp only [Act.put, List.setIfInBounds_toArray, List.set_cons_zero, List.set_cons_succ]
            refine wpAnyH_done (by kernel_rfl) ?_ _
            refine NoPanic.normal ?_
            clear hS7 hSx hT7 h57 f17 f27 hC7 hC8 hL7 hfz hcz SC o8 hTk hb5 f1 f2 hL hB b6 b7
            go_wp2
            go_roundw
            case rel => exact ⟨c + 1, _, by go_num, by omega, HI2, hL8, hT8, h58, f18, f28, hB8'⟩
            case measure => simp [intOf]; omega
          · have hdc : decide ((c : Int) < (n : Int)) = false := by simp; omega
            obtain rfl : c = n := by omega
            have HI2 : Hid (CjI c s k (r + 1) 0 f) := fun i j hi hj h => HI.out i j hi hj (by omega)
            clear HI
            go_wp2
            go_roundw
            case rel => exact ⟨r + 1, f, by go_num, by omega, HI2, hL, hTk, hb5, f1, f2, hB⟩
            case measure => simp [intOf]; omega
      · have hdr : decide ((r : Int) < (n : Int)) = false := by simp; omega
        obtain rfl : r = n := by omega
        have hlG := hL.lt
        have HCj : Hid (Cj r s k fun i j => f (i * 8 + j)) := fun i j hi hj => HI.out i j hi hj (.inl hi)
        have C4 := filled_any r (fun i j => f (i * 8 + j)) (.func (.func 29) #[] #[.pointer (some ⟨w.heap.size + 1 + 1, 0, none⟩)]) wr h1 h8 ⟨_, _, rfl, e32c, fun W bW i j hi hj => conjugate1_any (w.heap.size + 1 + 1) i j f W (by omega) (by omega) (hL.below bW)⟩
        have hsw := hB.size
        clear HI hTk hb5
        go_wp2_with (go_at_call 20; refine C4.mono ?_; rintro e w9 ⟨⟨y, rfl, hW⟩, b9⟩; have hR9 := (b9.block _ (show w.heap.size + 1 < wr.heap.size by omega)).trans f2; obtain ⟨og, ol, oc, rfl⟩ := own_slice hW; have a2 : w9.cell? ⟨w.heap.size + 1, 0, none⟩ = some (.int .i64 0) := (by rw [cell_of_row _ _ _ _ _ _ hR9]; rfl); have a3 : w9.cell? ⟨w.heap.size + 1, 1, none⟩ = some (.slice none 0 0) := (by rw [cell_of_row _ _ _ _ _ _ hR9]; rfl); have g0 := frozen_of_row w9 (w.heap.size + 1) 0 _ _ hR9; have g1 := frozen_of_row w9 (w.heap.size + 1) 1 _ _ hR9)
        have hn1 := heap_setCell_same w9 (w.heap.size + 1) 0 _ _ (.int .i64 (r : Int)) hR9
        have hn2 := heap_setCell_same _ (w.heap.size + 1) 1 _ _ (.slice og ol oc) hn1
        have hW2 := orow_other (orow_other hW ⟨w.heap.size + 1, 0, none⟩ (.int .i64 (r : Int)) (own_diff hW hR9)) ⟨w.heap.size + 1, 1, none⟩ (.slice og ol oc) (own_diff hW hR9)
        exact post_sq 4 Tryd.results18 rfl hn2 rfl ⟨⟨_, _, rfl, HCj.out, orow_base hW2 hsw⟩, ((Below.next hB b9).setCell (by show w.heap.size ≤ w.heap.size + 1; omega) _).setCell (by show w.heap.size ≤ w.heap.size + 1; omega) _⟩
  · go_simp
    refine hJ.out _ _ (SS.out (w3.drew.alloc (.cells #[.int .i64 0, .int .i64 0, .int .i64 0] 55)) (Below.next (Below.refl _ w3).drew (balloc _ _))) (fun _ => ?_)
    clear hJ J
    try simp only [Act.put, List.setIfInBounds_toArray, List.set_cons_zero, List.set_cons_succ]
    refine wpAnyH_ready (rs := [1]) (by kernel_rfl) (by simp) ?_
    refine AllReadyH.cons rfl (fun J hJ => ?_) AllReadyH.nil
    go_simp
    refine (A1 _).mono ?_
    rintro e w5 ⟨rfl, rfl⟩
    go_wp2_with fail
    refine hJ.out _ _ (SS.out ((w3.drew.alloc (.cells #[.int .i64 0, .int .i64 0, .int .i64 0] 55)).alloc (.cells #[.int .i64 (n : Int), v] 24)) (Below.next (Below.next (Below.refl _ w3).drew (balloc _ _)) (balloc _ _))) (fun _ => ?_)
    clear hJ J
    try simp only [Act.put, List.setIfInBounds_toArray, List.set_cons_zero, List.set_cons_succ]
    refine wpAnyH_ready (rs := [6]) (by kernel_rfl) (by simp) ?_
    refine AllReadyH.cons rfl (fun J hJ => ?_) AllReadyH.nil
    go_simp
    refine hJ.out _ _ (SS.out ((w3.drew.alloc (.cells #[.int .i64 0, .int .i64 0, .int .i64 0] 55)).alloc (.cells #[.int .i64 (n : Int), v] 24)) (Below.next (Below.next (Below.refl _ w3).drew (balloc _ _)) (balloc _ _))) (fun _ => ?_)
    clear hJ J
    try simp only [Act.put, List.setIfInBounds_toArray, List.set_cons_zero, List.set_cons_succ]
    refine wpAnyH_ready (rs := [7]) (by kernel_rfl) (by simp) ?_
    refine AllReadyH.cons rfl (fun J hJ => ?_) AllReadyH.nil
    go_simp
    refine hJ.out _ _ (SS.out ((w3.alloc (.cells #[.int .i64 (p0 : Int), .int .i64 (p1 : Int), .int .i64 (p2 : Int)] 55)).alloc (.cells #[.int .i64 (n : Int), v] 24)).drew (Below.next (balloc _ _) (balloc _ _)).drew) (fun _ => ?_)
    clear hJ J
    try simp only [Act.put, List.setIfInBounds_toArray, List.set_cons_zero, List.set_cons_succ]
    refine wpAnyH_done (by kernel_rfl) ?_ _
    refine NoPanic.normal ?_
    obtain ⟨T, hT⟩ : ∃ T, T = w3.heap.size := ⟨_, rfl⟩
    obtain ⟨B5, hB5⟩ : ∃ T, T = w3.heap.size + 1 := ⟨_, rfl⟩
    obtain ⟨W, hW⟩ : ∃ W, W = ((w3.alloc (.cells #[.int .i64 (p0 : Int), .int .i64 (p1 : Int), .int .i64 (p2 : Int)] 55)).alloc (.cells #[.int .i64 (n : Int), v] 24)).drew := ⟨_, rfl⟩
    have bW : Below w3.heap.size w3 W := by rw [hW]; exact (Below.next (balloc _ _) (balloc _ _)).drew
    have hTk : W.heap[T]? = some (.cells #[.int .i64 (p0 : Int), .int .i64 (p1 : Int), .int .i64 (p2 : Int)] 55 (0, 0)) := by rw [hW, hT]; exact two_new1 _ _ _ _
    have hb5 : W.heap[B5]? = some (.cells #[.int .i64 (n : Int), v] 24 (0, 0)) := by rw [hW, hB5]; exact two_new2 _ _ _ _
    have hn1 : w.heap.size + 1 + 1 < T := by omega
    have hn2 : w.heap.size + 1 + 1 < B5 := by omega
    rw [← hW, ← hB5, ← hT]
    replace f1 := (bW.block _ (by omega)).trans f1
    replace f2 := (bW.block _ (by omega)).trans f2
    replace hL := hL.below bW
    replace hB := Below.next hB bW
    clear hW hT hB5 bW hs3 SS hO3 hp3 hSx
    have y0 : W.cell? ⟨w.heap.size, 0, none⟩ = some (.int .i64 (n : Int)) := by rw [cell_of_row _ _ _ _ _ _ f1]; rfl
    go_wp2
    go_loopw [18] (fun i_ wr => ∃ (r : Nat) (f : Nat → Nat), i_ = .int .i64 (r : Int) ∧ r ≤ n ∧ Hid (CjI n s k r 0 f) ∧ Lies wr (w.heap.size + 1 + 1) f ∧ wr.heap[T]? = some (.cells #[.int .i64 (p0 : Int), .int .i64 (p1 : Int), .int .i64 (p2 : Int)] 55 (0, 0)) ∧ wr.heap[B5]? = some (.cells #[.int .i64 (n : Int), v] 24 (0, 0)) ∧ wr.heap[w.heap.size]? = some (.cells #[.int .i64 (n : Int), v] 24 (0, 0)) ∧ wr.heap[w.heap.size + 1]? = some (.cells #[.int .i64 0, .slice none 0 0] 24 (0, 0)) ∧ Below w.heap.size w wr) (fun i _ => (n - intOf i).toNat)
    case atStart => exact ⟨0, _, rfl, by omega, (fun i j _ _ h => by omega : CjI n s k 0 0 _), hL, hTk, hb5, f1, f2, hB⟩
    case round =>
      clear hL hTk hb5 f1 f2 hB y0
      obtain ⟨r, f, rfl, hr, HI, hL, hTk, hb5, f1, f2, hB⟩ := hrel
      have y0 : wr.cell? ⟨w.heap.size, 0, none⟩ = some (.int .i64 (n : Int)) := by rw [cell_of_row _ _ _ _ _ _ f1]; rfl
      by_cases hlt : r < n
      · have hdr : decide ((r : Int) < (n : Int)) = true := by simp; omega
        go_wp2
        go_loopw [23] (fun i_ wr => ∃ (c : Nat) (f : Nat → Nat), i_ = .int .i64 (c : Int) ∧ c ≤ n ∧ Hid (CjI n s k r c f) ∧ Lies wr (w.heap.size + 1 + 1) f ∧ wr.heap[T]? = some (.cells #[.int .i64 (p0 : Int), .int .i64 (p1 : Int), .int .i64 (p2 : Int)] 55 (0, 0)) ∧ wr.heap[B5]? = some (.cells #[.int .i64 (n : Int), v] 24 (0, 0)) ∧ wr.heap[w.heap.size]? = some (.cells #[.int .i64 (n : Int), v] 24 (0, 0)) ∧ wr.heap[w.heap.size + 1]? = some (.cells #[.int .i64 0, .slice none 0 0] 24 (0, 0)) ∧ Below w.heap.size w wr) (fun i _ => (n - intOf i).toNat)
        case atStart => exact ⟨0, f, rfl, by omega, HI, hL, hTk, hb5, f1, f2, hB⟩
        case round =>
          clear hL hTk hb5 f1 f2 hB y0 HI f
          obtain ⟨c, f, rfl, hc, HI, hL, hTk, hb5, f1, f2, hB⟩ := hrel
          by_cases hlc : c < n
          · have hdc : decide ((c : Int) < (n : Int)) = true := by simp; omega
            have D1 : Calls Tryd.prog 37 #[.int .i64 (r : Int), .int .i64 (c : Int), .pointer (some ⟨B5, 0, none⟩)] wr fun e w' => e = .returned (.int .i64 (s r c : Int)) ∧ Below wr.heap.size wr w' := by
              rw [← Hs.out]
              exact asked1_any n n L v wr wr B5 (HV.out.below hB) HG.out.len h8 h8 (fun j hj => (HG.out.at0 j hj).1) hb5 (Below.refl _ _) r c hlt hlc
            have hxn := HLT.out r c hlt hlc
            have HI2 : Hid (CjI n s k r (c + 1) (updL f (cA k r c (s r c) * 8 + cB k r c (s r c)) (cD k r c (s r c)))) := HI.out.step HLS.out h8 hk hlt hlc
            have hcl := cj_lt (k := k) hlt hlc hxn
            have HQ := HP.out.2.2.2 r c (s r c)
            obtain ⟨x, Hx⟩ : ∃ x, Hid (s r c = x) := ⟨_, rfl⟩
            rw [Hx.out] at D1 hxn HI2 hcl HQ
            obtain ⟨A, HA⟩ : ∃ x', Hid (cA k r c x = x') := ⟨_, rfl⟩
            obtain ⟨B, HBB⟩ : ∃ x', Hid (cB k r c x = x') := ⟨_, rfl⟩
            obtain ⟨D, HD⟩ : ∃ x', Hid (cD k r c x = x') := ⟨_, rfl⟩
            rw [HA.out, HBB.out, HD.out] at HI2 hcl HQ
            have HQ' : Hid (tri r c x p0 = A ∧ tri r c x p1 = B ∧ tri r c x p2 = D) := HQ
            have hA8 : A < 8 := by omega
            have hB8 : B < 8 := by omega
            have hA8i : (A : Int) < 8 := by omega
            have hB8i : (B : Int) < 8 := by omega
            have hp3 : p0 < 3 ∧ p1 < 3 ∧ p2 < 3 := ⟨HP.out.1, HP.out.2.1, HP.out.2.2.1⟩
            have hq0 : (p0 : Int) < 3 := by omega
            have hq1 : (p1 : Int) < 3 := by omega
            have hq2 : (p2 : Int) < 3 := by omega
            clear HI HQ hcl
            go_wp2_with (first | (go_at_call 37; refine D1.mono ?_; rintro e w6 ⟨rfl, b6⟩; clear D1) | fail)
            have b7 := Below.next b6 (balloc w6 (.cells #[.int .i64 (r : Int), .int .i64 (c : Int), .int .i64 (x : Int)] 55))
            have hlG := hL.lt
            have hlT : T < wr.heap.size := (Array.getElem?_eq_some_iff.1 hTk).1
            have hl5 : B5 < wr.heap.size := (Array.getElem?_eq_some_iff.1 hb5).1
            have hL7 := hL.below b7
            have hT7 := (b7.block _ hlT).trans hTk
            have h57 := (b7.block _ hl5).trans hb5
            have f17 := (b7.block _ (by omega)).trans f1
            have f27 := (b7.block _ (by omega)).trans f2
            have hC7 := heap_alloc_new w6 (.cells #[.int .i64 (r : Int), .int .i64 (c : Int), .int .i64 (x : Int)] 55)
            have hs6 := b6.size
            have SC : Hid (∀ W : World, W.heap[T]? = some (.cells #[.int .i64 (p0 : Int), .int .i64 (p1 : Int), .int .i64 (p2 : Int)] 55 (0, 0)) → W.heap[w6.heap.size]? = some (.cells #[.int .i64 (r : Int), .int .i64 (c : Int), .int .i64 (x : Int)] 55 (0, 0)) → W.cell? ⟨T, 0, none⟩ = some (.int .i64 (p0 : Int)) ∧ W.cell? ⟨T, 1, none⟩ = some (.int .i64 (p1 : Int)) ∧ W.cell? ⟨T, 2, none⟩ = some (.int .i64 (p2 : Int)) ∧ W.cell? ⟨w6.heap.size, p0, none⟩ = some (.int .i64 (A : Int)) ∧ W.cell? ⟨w6.heap.size, p1, none⟩ = some (.int .i64 (B : Int)) ∧ W.cell? ⟨w6.heap.size, p2, none⟩ = some (.int .i64 (D : Int))) := fun W k1 k2 => by
              refine ⟨tri_cell k1 (p := 0) (by decide), tri_cell k1 (p := 1) (by decide), tri_cell k1 (p := 2) (by decide), ?_, ?_, ?_⟩
              · rw [tri_cell k2 hp3.1, HQ'.out.1]
              · rw [tri_cell k2 hp3.2.1, HQ'.out.2.1]
              · rw [tri_cell k2 hp3.2.2, HQ'.out.2.2]
            have hS7 := SC.out _ hT7 hC7
            have hfz := hL7.frozen (A * 8 + B)
            have hcz := hL7.cell (A * 8 + B) (by omega)
            refine wp_region_noPanic ?_
            refine wp_region_held_drew (S := fun w' => w'.cell? ⟨T, 0, none⟩ = some (.int .i64 (p0 : Int)) ∧ w'.cell? ⟨T, 1, none⟩ = some (.int .i64 (p1 : Int)) ∧ w'.cell? ⟨T, 2, none⟩ = some (.int .i64 (p2 : Int)) ∧ w'.cell? ⟨w6.heap.size, p0, none⟩ = some (.int .i64 (A : Int)) ∧ w'.cell? ⟨w6.heap.size, p1, none⟩ = some (.int .i64 (B : Int)) ∧ w'.cell? ⟨w6.heap.size, p2, none⟩ = some (.int .i64 (D : Int))) (by kernel_rfl) (hS7) (fun hSx => ?_)
            refine wpAnyH_take (i := 0) (v := .pointer (some ⟨T, 0, none⟩)) rfl (by kernel_rfl) (by kernel_rfl) (by kernel_rfl) (fun _ _ _ h => h) (Or.inl ⟨by rfl, fun w' hSw => by (try dsimp only at hSw); go_simp⟩) hSx ?_
            try simp only [Act.put, List.setIfInBounds_toArray]
            refine wpAnyH_take (i := 1) (v := .int .i64 (p0 : Int)) rfl (by kernel_rfl) (by kernel_rfl) (by kernel_rfl) (fun _ _ _ h => h) (Or.inl ⟨by rfl, fun w' hSw => by have hSw1 := hSw.1; go_simp⟩) hSx ?_
            try simp only [Act.put]
            refine wpAnyH_take (i := 2) (v := .pointer (some ⟨w6.heap.size, p0, none⟩)) rfl (by kernel_rfl) (by kernel_rfl) (by kernel_rfl) (fun _ _ _ h => h) (Or.inl ⟨by rfl, fun w' hSw => by (try dsimp only at hSw); go_simp⟩) hSx ?_
            try simp only [Act.put]
            refine wpAnyH_take (i := 3) (v := .int .i64 (A : Int)) rfl (by kernel_rfl) (by kernel_rfl) (by kernel_rfl) (fun _ _ _ h => h) (Or.inl ⟨by rfl, fun w' hSw => by have hSw1 := hSw.2.2.2.1; go_simp⟩) hSx ?_
            try simp only [Act.put]
            refine wpAnyH_take (i := 4) (v := .pointer (some ⟨T, 1, none⟩)) rfl (by kernel_rfl) (by kernel_rfl) (by kernel_rfl) (fun _ _ _ h => h) (Or.inl ⟨by rfl, fun w' hSw => by (try dsimp only at hSw); go_simp⟩) hSx ?_
            try simp only [Act.put]
            refine wpAnyH_take (i := 5) (v := .int .i64 (p1 : Int)) rfl (by kernel_rfl) (by kernel_rfl) (by kernel_rfl) (fun _ _ _ h => h) (Or.inl ⟨by rfl, fun w' hSw => by have hSw1 := hSw.2.1; go_simp⟩) hSx ?_
            try simp only [Act.put]
            refine wpAnyH_take (i := 6) (v := .pointer (some ⟨w6.heap.size, p1, none⟩)) rfl (by kernel_rfl) (by kernel_rfl) (by kernel_rfl) (fun _ _ _ h => h) (Or.inl ⟨by rfl, fun w' hSw => by (try dsimp only at hSw); go_simp⟩) hSx ?_
            try simp only [Act.put]
            refine wpAnyH_take (i := 7) (v := .int .i64 (B : Int)) rfl (by kernel_rfl) (by kernel_rfl) (by kernel_rfl) (fun _ _ _ h => h) (Or.inl ⟨by rfl, fun w' hSw => by have hSw1 := hSw.2.2.2.2.1; go_simp⟩) hSx ?_
            try simp only [Act.put]
            refine wpAnyH_take (i := 8) (v := .pointer (some ⟨T, 2, none⟩)) rfl (by kernel_rfl) (by kernel_rfl) (by kernel_rfl) (fun _ _ _ h => h) (Or.inl ⟨by rfl, fun w' hSw => by (try dsimp only at hSw); go_simp⟩) hSx ?_
            try simp only [Act.put]
            refine wpAnyH_take (i := 9) (v := .int .i64 (p2 : Int)) rfl (by kernel_rfl) (by kernel_rfl) (by kernel_rfl) (fun _ _ _ h => h) (Or.inl ⟨by rfl, fun w' hSw => by have hSw1 := hSw.2.2.1; go_simp⟩) hSx ?_
            try simp only [Act.put]
            refine wpAnyH_take (i := 10) (v := .pointer (some ⟨w6.heap.size, p2, none⟩)) rfl (by kernel_rfl) (by kernel_rfl) (by kernel_rfl) (fun _ _ _ h => h) (Or.inl ⟨by rfl, fun w' hSw => by (try dsimp only at hSw); go_simp⟩) hSx ?_
            try simp only [Act.put]
            refine wpAnyH_take (i := 11) (v := .int .i64 (D : Int)) rfl (by kernel_rfl) (by kernel_rfl) (by kernel_rfl) (fun _ _ _ h => h) (Or.inl ⟨by rfl, fun w' hSw => by have hSw1 := hSw.2.2.2.2.2; go_simp⟩) hSx ?_
            try simp only [Act.put]
            refine wpAnyH_take (i := 12) (v := .pointer (some ⟨w.heap.size + 1 + 1, A * 8, none⟩)) rfl (by kernel_rfl) (by kernel_rfl) (by kernel_rfl) (fun _ _ _ h => h) (Or.inl ⟨by rfl, fun w' hSw => by (try dsimp only at hSw); go_simp⟩) hSx ?_
            try simp only [Act.put]
            refine wpAnyH_take (i := 13) (v := .pointer (some ⟨w.heap.size + 1 + 1, A * 8 + B, none⟩)) rfl (by kernel_rfl) (by kernel_rfl) (by kernel_rfl) (fun _ _ _ h => h) (Or.inl ⟨by rfl, fun w' hSw => by (try dsimp only at hSw); go_simp⟩) hSx ?_
            try simp only [Act.put]
            have o8 : ∀ j, j ≠ w.heap.size + 1 + 1 → ((w6.alloc (.cells #[.int .i64 (r : Int), .int .i64 (c : Int), .int .i64 (x : Int)] 55)).drew.setCell ⟨w.heap.size + 1 + 1, A * 8 + B, none⟩ (.int .i64 (D : Int))).heap[j]? = (w6.alloc (.cells #[.int .i64 (r : Int), .int .i64 (c : Int), .int .i64 (x : Int)] 55)).heap[j]? := fun j hj => heap_setCell_other _ _ _ _ hj
            have hL8 : Lies ((w6.alloc (.cells #[.int .i64 (r : Int), .int .i64 (c : Int), .int .i64 (x : Int)] 55)).drew.setCell ⟨w.heap.size + 1 + 1, A * 8 + B, none⟩ (.int .i64 (D : Int))) (w.heap.size + 1 + 1) (updL f (A * 8 + B) D) := hL7.set (A * 8 + B) D
            have hT8 := (o8 T (by omega)).trans hT7
            have h58 := (o8 B5 (by omega)).trans h57
            have f18 := (o8 w.heap.size (by omega)).trans f17
            have f28 := (o8 (w.heap.size + 1) (by omega)).trans f27
            have hC8 := (o8 w6.heap.size (by omega)).trans hC7
            have hB8' : Below w.heap.size w ((w6.alloc (.cells #[.int .i64 (r : Int), .int .i64 (c : Int), .int .i64 (x : Int)] 55)).drew.setCell ⟨w.heap.size + 1 + 1, A * 8 + B, none⟩ (.int .i64 (D : Int))) := (Below.next hB b7).drew.setCell (by show w.heap.size ≤ w.heap.size + 1 + 1; omega) _
            refine wpAnyH_ready (rs := [14]) (by kernel_rfl) (by simp) ?_
            refine AllReadyH.cons rfl (fun J hJ => ?_) AllReadyH.nil
            go_simp
            refine hJ.out _ _ (SC.out _ hT8 hC8) (fun _ => ?_)
            clear hJ J
            try simp only [Act.put, List.setIfInBounds_toArray, List.set_cons_zero, List.set_cons_succ]
            refine wpAnyH_done (by kernel_rfl) ?_ _
            refine NoPanic.normal ?_
            clear hS7 hSx hT7 h57 f17 f27 hC7 hC8 hL7 hfz hcz SC o8 hTk hb5 f1 f2 hL hB b6 b7
            go_wp2
            go_roundw
            case rel => exact ⟨c + 1, _, by go_num, by omega, HI2, hL8, hT8, h58, f18, f28, hB8'⟩
            case measure => simp [intOf]; omega
          · have hdc : decide ((c : Int) < (n : Int)) = false := by simp; omega
            obtain rfl : c = n := by omega
            have HI2 : Hid (CjI c s k (r + 1) 0 f) := fun i j hi hj h => HI.out i j hi hj (by omega)
            clear HI
            go_wp2
            go_roundw
            case rel => exact ⟨r + 1, f, by go_num, by omega, HI2, hL, hTk, hb5, f1, f2, hB⟩
            case measure => simp [intOf]; omega
      · have hdr : decide ((r : Int) < (n : Int)) = false := by simp; omega
        obtain rfl : r = n := by omega
        have hlG := hL.lt
        have HCj : Hid (Cj r s k fun i j => f (i * 8 + j)) := fun i j hi hj => HI.out i j hi hj (.inl hi)
        have C4 := filled_any r (fun i j => f (i * 8 + j)) (.func (.func 29) #[] #[.pointer (some ⟨w.heap.size + 1 + 1, 0, none⟩)]) wr h1 h8 ⟨_, _, rfl, e32c, fun W bW i j hi hj => conjugate1_any (w.heap.size + 1 + 1) i j f W (by omega) (by omega) (hL.below bW)⟩
        have hsw := hB.size
        clear HI hTk hb5
        go_wp2_with (go_at_call 20; refine C4.mono ?_; rintro e w9 ⟨⟨y, rfl, hW⟩, b9⟩; have hR9 := (b9.block _ (show w.heap.size + 1 < wr.heap.size by omega)).trans f2; obtain ⟨og, ol, oc, rfl⟩ := own_slice hW; have a2 : w9.cell? ⟨w.heap.size + 1, 0, none⟩ = some (.int .i64 0) := (by rw [cell_of_row _ _ _ _ _ _ hR9]; rfl); have a3 : w9.cell? ⟨w.heap.size + 1, 1, none⟩ = some (.slice none 0 0) := (by rw [cell_of_row _ _ _ _ _ _ hR9]; rfl); have g0 := frozen_of_row w9 (w.heap.size + 1) 0 _ _ hR9; have g1 := frozen_of_row w9 (w.heap.size + 1) 1 _ _ hR9)
        have hn1 := heap_setCell_same w9 (w.heap.size + 1) 0 _ _ (.int .i64 (r : Int)) hR9
        have hn2 := heap_setCell_same _ (w.heap.size + 1) 1 _ _ (.slice og ol oc) hn1
        have hW2 := orow_other (orow_other hW ⟨w.heap.size + 1, 0, none⟩ (.int .i64 (r : Int)) (own_diff hW hR9)) ⟨w.heap.size + 1, 1, none⟩ (.slice og ol oc) (own_diff hW hR9)
        exact post_sq 4 Tryd.results18 rfl hn2 rfl ⟨⟨_, _, rfl, HCj.out, orow_base hW2 hsw⟩, ((Below.next hB b9).setCell (by show w.heap.size ≤ w.heap.size + 1; omega) _).setCell (by show w.heap.size ≤ w.heap.size + 1; omega) _⟩

end Go.Proofs.YtncnaaohihmjnaaDoor
