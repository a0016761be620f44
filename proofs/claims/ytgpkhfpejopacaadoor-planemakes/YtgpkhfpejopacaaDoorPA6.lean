/- The walk of the document's triples. -/
import Derived.Test.YtgpkhfpejopacaaDoorDGo
import Derived.Test.YtgpkhfpejopacaaDoorP27
import Derived.Test.YtgpkhfpejopacaaDoorDCut
import Derived.Test.YtgpkhfpejopacaaDoorDFish
import Derived.OwnWalk
/- The walk of the document's LevelOf: the search. -/
/- The walk of the document's LevelOf. -/
namespace Go.Proofs.YtgpkhfpejopacaaDoor
open Go.RowKit

/-- What is read at a block's beginning. -/
def rdN (w : World) (g t : Nat) : List Nat := (List.range t).map fun j => match w.cell? ⟨g, j, none⟩ with
  | some (.int _ n) => n.toNat
  | _ => 0
theorem rd_own {w : World} {g t : Nat} {f : Nat → Nat} (h : Own w g t fun j => (f j : Int)) : rdN w g t = fl t f := by
  unfold rdN fl
  refine List.map_congr_left fun j hj => ?_
  rw [h.cell j (List.mem_range.1 hj)]
  simp
/-- A row of points, as it goes on: none, or one of the call's own. -/
def Cur (base t g : Nat) (sv : Value) (w : World) (f : Nat → Nat) : Prop := (t = 0 ∧ ∃ a c, sv = .slice a 0 c) ∨ (1 ≤ t ∧ base ≤ g ∧ (∃ cap, sv = .slice (some ⟨g, 0, none⟩) t cap) ∧ Own w g t fun j => (f j : Int))
theorem Cur.sl {base t g : Nat} {sv : Value} {w : World} {f : Nat → Nat} (h : Cur base t g sv w f) : Sl w sv ((fl t f).map Int.ofNat) := by
  rcases h with ⟨rfl, a, c, rfl⟩ | ⟨_, _, ⟨cap, rfl⟩, hO⟩
  · exact ⟨a, c, rfl, fun j hj => by simp [fl] at hj⟩
  · have := hO.sl cap
    have e : (fl t f).map Int.ofNat = (List.range t).map fun j => (f j : Int) := by
      unfold fl
      rw [List.map_map]
      rfl
    rw [e]
    exact this
theorem Cur.below {base t g : Nat} {sv : Value} {w w' : World} {f : Nat → Nat} (h : Cur base t g sv w f) (hb : Below w.heap.size w w') : Cur base t g sv w' f := by
  rcases h with h | ⟨h1, h2, h3, hO⟩
  · exact .inl h
  · exact .inr ⟨h1, h2, h3, hO.below hb⟩
theorem Cur.rd {base t g : Nat} {sv : Value} {w : World} {f : Nat → Nat} (h : Cur base t g sv w f) : rdN w g t = fl t f := by
  rcases h with ⟨rfl, _⟩ | ⟨_, _, _, hO⟩
  · rfl
  · exact rd_own hO
theorem Cur.slice {base t g : Nat} {sv : Value} {w : World} {f : Nat → Nat} (h : Cur base t g sv w f) : ∃ a c, sv = .slice a t c := by
  rcases h with ⟨rfl, a, c, rfl⟩ | ⟨_, _, ⟨cap, rfl⟩, _⟩
  · exact ⟨_, _, rfl⟩
  · exact ⟨_, _, rfl⟩
theorem cur_start {w : World} {base t : Nat} {sv : Value} (h : w.ownsRow base 3 1 sv t ((pl t fun x => x).map (Value.int .i64))) : ∃ g, Cur base t g sv w fun x => x := by
  by_cases ht : t = 0
  · subst ht
    obtain ⟨_, ⟨rfl, _⟩ | ⟨g, cap, cur, rfl, _⟩⟩ := h
    · exact ⟨0, .inl ⟨rfl, _, _, rfl⟩⟩
    · exact ⟨0, .inl ⟨rfl, _, _, rfl⟩⟩
  · obtain ⟨g, cap, rfl, hb, hO⟩ := Own.of h (by omega)
    exact ⟨g, .inr ⟨by omega, hb, ⟨cap, rfl⟩, hO.congr fun j hj => pl_at _ hj⟩⟩
theorem fl_id (t : Nat) : fl t (fun x => x) = List.range' 0 t := by
  unfold fl
  rw [List.map_id', List.range_eq_range']
set_option maxHeartbeats 4000000 in
theorem NextSet_zero (v : Nat) (a : Option Addr) (c : Nat) (w : World) : Calls Tryd.prog 64 #[.slice a 0 c, .int .i64 (v : Int)] w fun e w' => e = .returned (.bool false) ∧ w' = w := by
  go_enter Tryd.func64, Tryd.ntmps64
  go_wp2
  go_loopw [6] (fun iv wr => iv = .int .i64 (-1) ∧ wr = w) (fun _ _ => 0)
  case atStart => exact ⟨rfl, rfl⟩
  case round =>
    obtain ⟨rfl, hw⟩ := hrel
    subst hw
    go_wp2
    go_ret
    exact ⟨rfl, rfl⟩
theorem NextSet_cur (v base t g : Nat) (sv : Value) (f : Nat → Nat) (w : World) (h4 : t ≤ 4) (hv : v ≤ 40) (htv : t ≤ v) (hr : Rs v 0 (fl t f)) (hC : Cur base t g sv w f) :
    Calls Tryd.prog 64 #[sv, .int .i64 (v : Int)] w fun e w' => ((∃ f', e = .returned (.bool true) ∧ nx v (fl t f) = some (fl t f') ∧ Cur base t g sv w' f') ∨ (e = .returned (.bool false) ∧ nx v (fl t f) = none)) ∧ Below (min base w.heap.size) w w' := by
  rcases hC with ⟨rfl, a, c, rfl⟩ | ⟨h1, hb, ⟨cap, rfl⟩, hO⟩
  · refine (NextSet_zero v a c w).mono ?_
    rintro e w' ⟨rfl, rfl⟩
    exact ⟨.inr ⟨rfl, rfl⟩, Below.refl _ _⟩
  · refine (NextSet_any v t g cap f w h1 h4 hv htv (fun j hj => ?_) hO).mono ?_
    · have := Rs.mem hr (f j) (by unfold fl; exact List.mem_map.2 ⟨j, List.mem_range.2 hj, rfl⟩)
      exact this.2
    · rintro e w' ⟨h, hB⟩
      refine ⟨?_, hB.mono (by omega)⟩
      rcases h with ⟨f', rfl, e1, hO'⟩ | ⟨rfl, e1⟩
      · exact .inl ⟨f', rfl, e1, .inr ⟨h1, hb, ⟨cap, rfl⟩, hO'⟩⟩
      · exact .inr ⟨rfl, e1⟩
/-- Where the search for a level stands. -/
def LvS (v t : Nat) (B : List (List Nat)) (lam : Int) (s : List Nat) : Prop :=
  (lam = -1 ∧ ∀ s', Rs v 0 s' → s'.length = t → ¬ llt s' s) ∨ (∃ l : Nat, lam = l ∧ l ≤ 200 ∧ (∃ s0, Rs v 0 s0 ∧ s0.length = t ∧ nb B s0 = l) ∧ ∀ s', Rs v 0 s' → s'.length = t → llt s' s → nb B s' = l)
theorem nb_le (B : List (List Nat)) (s : List Nat) : nb B s ≤ B.length := List.countP_le_length
theorem LvS.before {v t l : Nat} {B : List (List Nat)} {lam : Int} {s : List Nat} (h : LvS v t B lam s) (hl : lam = -1 ∨ lam = l) (hs : nb B s = l) : ∀ s', Rs v 0 s' → s'.length = t → (llt s' s ∨ s' = s) → nb B s' = l := fun s' h1 h2 h3 => by
  rcases h3 with h3 | rfl
  · rcases h with ⟨_, h⟩ | ⟨m, e, _, _, h⟩
    · exact (h s' h1 h2 h3).elim
    · have : m = l := by rcases hl with hl | hl <;> omega
      subst this
      exact h s' h1 h2 h3
  · exact hs
theorem LvS.next {v t l : Nat} {B : List (List Nat)} {lam : Int} {s s2 : List Nat} (h : LvS v t B lam s) (hr : Rs v 0 s) (ht : s.length = t) (hl : lam = -1 ∨ lam = l) (hs : nb B s = l) (h200 : l ≤ 200) (hn : nx v s = some s2) : LvS v t B (l : Int) s2 := by
  obtain ⟨h1, h2, h3, h4⟩ := nx_some hr hn
  refine .inr ⟨l, rfl, h200, ⟨s, hr, ht, hs⟩, fun s' a1 a2 a3 => h.before hl hs s' a1 a2 ?_⟩
  rcases llt_tri (s := s') (t := s) (by omega) with c | c | c
  · exact .inl c
  · exact .inr c
  · rcases h4 s' a1 (by omega) c with rfl | d
    · exact (llt_irr a3).elim
    · exact (llt_asym d a3).elim
where
  llt_asym : ∀ {s t : List Nat}, llt s t → ¬ llt t s
  | [], _, h, _ => by cases h
  | _ :: _, [], h, _ => by cases h
  | x :: s, y :: t, h, h' => by
    rcases h with h | ⟨rfl, h⟩
    · rcases h' with h' | ⟨e, _⟩ <;> omega
    · rcases h' with h' | ⟨_, h'⟩
      · omega
      · exact llt_asym h h'
theorem LvS.done {v t l : Nat} {B : List (List Nat)} {lam : Int} {s : List Nat} (h : LvS v t B lam s) (hr : Rs v 0 s) (ht : s.length = t) (hl : lam = -1 ∨ lam = l) (hs : nb B s = l) (hn : nx v s = none) : Lev v B t l :=
  lev_of_rise fun s' a1 a2 a3 => h.before hl hs s' (rs_iff.2 ⟨a1, fun x hx => ⟨Nat.zero_le _, a2 x hx⟩⟩) a3 (by
    rcases llt_tri (s := s') (t := s) (by omega) with c | c | c
    · exact .inl c
    · exact .inr c
    · exact (nx_none hr hn (rs_iff.2 ⟨a1, fun x hx => ⟨Nat.zero_le _, a2 x hx⟩⟩) (by omega) c).elim)
theorem LvS.no {v t l : Nat} {B : List (List Nat)} {s : List Nat} (h : LvS v t B (l : Int) s) (hr : Rs v 0 s) (ht : s.length = t) (hs : nb B s ≠ l) : ¬ ∃ m, Lev v B t m := by
  rintro ⟨m, hm⟩
  rcases h with ⟨e, _⟩ | ⟨l', e, _, ⟨s0, r0, t0, n0⟩, _⟩
  · omega
  · have p : ∀ s, Rs v 0 s → Pts v s := fun s h => rise_pts (rs_iff.1 h).1 fun x hx => ((rs_iff.1 h).2 x hx).2
    have a := hm s0 (p s0 r0) t0
    have b := hm s (p s hr) ht
    omega
end Go.Proofs.YtgpkhfpejopacaaDoor

namespace Go.Proofs.YtgpkhfpejopacaaDoor
open Go.RowKit

/-- The rows of a design in memory. -/
def DRow (w : World) (a : Option Addr) (B : List (List Nat)) : Prop := ∀ (i : Nat) (b : List Nat), B[i]? = some b → ∃ bb off ua uc, a = some ⟨bb, off, none⟩ ∧ ∀ W, Below w.heap.size w W → W.cell? ⟨bb, off + i, none⟩ = some (.slice ua b.length uc) ∧ Sl W (.slice ua b.length uc) (b.map Int.ofNat)
theorem drow_of {w : World} {v : Value} {B : List (List Nat)} (h : Rw w v (toZ B)) : ∃ a cap, v = .slice a B.length cap ∧ DRow w a B := by
  obtain ⟨a, cap, rfl, h⟩ := h
  have hl : (toZ B).length = B.length := by simp [toZ]
  rw [hl]
  refine ⟨a, cap, rfl, fun i b hb => ?_⟩
  obtain ⟨bb, off, u, e, hc, hS⟩ := h i (b.map Int.ofNat) (by unfold toZ; rw [List.getElem?_map, hb]; rfl)
  have hS' := hS
  obtain ⟨ua, uc, rfl, _⟩ := hS
  rw [List.length_map] at hc hS'
  exact ⟨bb, off, ua, uc, e, fun W bW => ⟨(bW.cell (World.block_lt_of_cell? _ _ hc)).trans hc, hS'.below bW⟩⟩
theorem take_count (B : List (List Nat)) (p : List Nat → Bool) {i : Nat} {b : List Nat} (h : B[i]? = some b) : (B.take (i + 1)).countP p = (B.take i).countP p + if p b = true then 1 else 0 := by
  rw [List.take_add_one, h, List.countP_append]
  simp [List.countP_cons]
end Go.Proofs.YtgpkhfpejopacaaDoor

/- Rows of truths in memory; what a search keeps. -/
namespace Go.Proofs.YtgpkhfpejopacaaDoor
open Go.RowKit

/-- Block g holds n truths. -/
def Bo (w : World) (g n : Nat) (f : Nat → Bool) : Prop := ∃ cur t, w.heap[g]? = some (.cells cur t (0, 0)) ∧ ∀ j, j < n → cur[j]? = some (.bool (f j))
theorem Bo.lt {w : World} {g n : Nat} {f : Nat → Bool} (h : Bo w g n f) : g < w.heap.size := by
  obtain ⟨cur, t, h, _⟩ := h
  exact (Array.getElem?_eq_some_iff.1 h).1
theorem Bo.cell {w : World} {g n : Nat} {f : Nat → Bool} (h : Bo w g n f) (j : Nat) (hj : j < n) : w.cell? ⟨g, j, none⟩ = some (.bool (f j)) := by
  obtain ⟨cur, t, h, hc⟩ := h
  rw [cell_of_row w g j _ _ _ h, hc j hj]
theorem Bo.frozen {w : World} {g n : Nat} {f : Nat → Bool} (h : Bo w g n f) (j : Nat) : w.frozen? ⟨g, j, none⟩ = false := by
  obtain ⟨cur, t, h, _⟩ := h
  exact frozen_of_row w g j _ _ h
def upT (f : Nat → Bool) (i : Nat) (v : Bool) : Nat → Bool := fun j => if j = i then v else f j
theorem Bo.set {w : World} {g n : Nat} {f : Nat → Bool} (h : Bo w g n f) (i : Nat) (v : Bool) : Bo (w.setCell ⟨g, i, none⟩ (.bool v)) g n (upT f i v) := by
  obtain ⟨cur, t, h, hc⟩ := h
  refine ⟨_, t, heap_setCell_same w g i _ _ _ h, fun j hj => ?_⟩
  have hcj := hc j hj
  have hlt : j < cur.size := (Array.getElem?_eq_some_iff.1 hcj).1
  rw [Array.getElem?_setIfInBounds]
  by_cases e : i = j
  · subst e; rw [if_pos rfl, if_pos hlt]; simp [upT]
  · rw [if_neg e, hcj]; simp [upT, Ne.symm e]
theorem Bo.other {w : World} {g n : Nat} {f : Nat → Bool} (h : Bo w g n f) (a : Addr) (v : Value) (hne : g ≠ a.block) : Bo (w.setCell a v) g n f := by
  obtain ⟨cur, t, h, hc⟩ := h
  exact ⟨cur, t, (heap_setCell_other w a g v hne).trans h, hc⟩
theorem Bo.below {w w' : World} {g n : Nat} {f : Nat → Bool} (h : Bo w g n f) (hb : Below w.heap.size w w') : Bo w' g n f := by
  have hl := h.lt
  obtain ⟨cur, t, h, hc⟩ := h
  exact ⟨cur, t, (hb.block g hl).trans h, hc⟩
theorem Bo.congr {w : World} {g n : Nat} {f f' : Nat → Bool} (h : Bo w g n f) (e : ∀ j, j < n → f j = f' j) : Bo w g n f' := by
  obtain ⟨cur, t, h, hc⟩ := h
  exact ⟨cur, t, h, fun j hj => by rw [hc j hj, e j hj]⟩
/-- All but two blocks are as they were. -/
def K2 (B0 g1 g2 : Nat) (w W : World) : Prop := Below B0 w W ∧ ∀ b, b < w.heap.size → b ≠ g1 → b ≠ g2 → W.heap[b]? = w.heap[b]?
theorem K2.refl (B0 g1 g2 : Nat) (w : World) : K2 B0 g1 g2 w w := ⟨Below.refl _ _, fun _ _ _ _ => rfl⟩
theorem K2.trans {B0 g1 g2 : Nat} {a b c : World} (h : K2 B0 g1 g2 a b) (k : K2 B0 g1 g2 b c) : K2 B0 g1 g2 a c := ⟨h.1.trans k.1, fun x hx h1 h2 => (k.2 x (Nat.lt_of_lt_of_le hx h.1.size) h1 h2).trans (h.2 x hx h1 h2)⟩
theorem K2.of {B0 g1 g2 : Nat} {w W : World} (h : Below w.heap.size w W) (hB : B0 ≤ w.heap.size) : K2 B0 g1 g2 w W := ⟨h.mono hB, fun x hx _ _ => h.block x hx⟩
theorem K2.set1 {B0 g1 g2 : Nat} {w W : World} (h : K2 B0 g1 g2 w W) (hB : B0 ≤ g1) (i : Nat) (v : Value) : K2 B0 g1 g2 w (W.setCell ⟨g1, i, none⟩ v) := ⟨h.1.setCell (p := ⟨g1, i, none⟩) hB _, fun x hx h1 h2 => (heap_setCell_other W ⟨g1, i, none⟩ x v h1).trans (h.2 x hx h1 h2)⟩
theorem K2.set2 {B0 g1 g2 : Nat} {w W : World} (h : K2 B0 g1 g2 w W) (hB : B0 ≤ g2) (i : Nat) (v : Value) : K2 B0 g1 g2 w (W.setCell ⟨g2, i, none⟩ v) := ⟨h.1.setCell (p := ⟨g2, i, none⟩) hB _, fun x hx h1 h2 => (heap_setCell_other W ⟨g2, i, none⟩ x v h2).trans (h.2 x hx h1 h2)⟩
/-- The rows of a design, in old memory. -/
def DRowB (B0 : Nat) (w : World) (a : Option Addr) (B : List (List Nat)) : Prop := ∀ (i : Nat) (b : List Nat), B[i]? = some b → ∃ bb off ua uc, a = some ⟨bb, off, none⟩ ∧ ∀ W, Below B0 w W → W.cell? ⟨bb, off + i, none⟩ = some (.slice ua b.length uc) ∧ Sl W (.slice ua b.length uc) (b.map Int.ofNat)
/-- What is marked when the first j points of a block are. -/
def mk1 (D : Nat → Bool) (b : List Nat) (j : Nat) : Nat → Bool := fun x => D x || (b.take j).contains x
theorem mk1_step {D : Nat → Bool} {b : List Nat} {j y : Nat} (h : b[j]? = some y) : upT (mk1 D b j) y true = mk1 D b (j + 1) := by
  funext x
  unfold upT mk1
  rw [List.take_add_one, h]
  by_cases e : x = y
  · subst e; simp
  · simp [e]
theorem mk1_all (D : Nat → Bool) (b : List Nat) : mk1 D b b.length = addD D b := by
  unfold mk1 addD
  rw [List.take_length]
theorem mk1_none (D : Nat → Bool) (b : List Nat) : mk1 D b 0 = D := by
  funext x
  simp [mk1]
def un1 (D : Nat → Bool) (b : List Nat) (j : Nat) : Nat → Bool := fun x => if (b.take j).contains x = true then false else addD D b x
theorem un1_step {D : Nat → Bool} {b : List Nat} {j y : Nat} (h : b[j]? = some y) : upT (un1 D b j) y false = un1 D b (j + 1) := by
  funext x
  unfold upT un1
  rw [List.take_add_one, h]
  by_cases e : x = y
  · subst e; simp
  · simp [e]
theorem un1_all {D : Nat → Bool} {b : List Nat} (hf : fitD D b = true) : un1 D b b.length = D := by
  funext x
  unfold un1 addD
  rw [List.take_length]
  by_cases h : b.contains x = true
  · rw [if_pos h, (fitD_iff.1 hf).2 x (List.contains_iff_mem.1 h)]
  · rw [if_neg h, Bool.eq_false_iff.2 h, Bool.or_false]
theorem un1_none (D : Nat → Bool) (b : List Nat) : un1 D b 0 = addD D b := by
  funext x
  simp [un1]
def undN (v : Nat) (D : Nat → Bool) : Nat := (List.range v).countP fun x => !D x
theorem undN_lt {v x : Nat} {D : Nat → Bool} {b : List Nat} (hx : x < v) (hd : D x = false) (hb : b.contains x = true) : undN v (addD D b) < undN v D := by
  unfold undN addD
  have key : ∀ l : List Nat, l.countP (fun x => !(D x || b.contains x)) ≤ l.countP (fun x => !D x) ∧ (x ∈ l → l.countP (fun x => !(D x || b.contains x)) < l.countP (fun x => !D x)) := by
    intro l
    induction l with
    | nil => exact ⟨Nat.le_refl _, fun h => by simp at h⟩
    | cons y l ih =>
      rw [List.countP_cons, List.countP_cons]
      have e : (if (!(D y || b.contains y)) = true then 1 else 0) ≤ (if (!D y) = true then 1 else 0) := by
        cases D y <;> cases b.contains y <;> decide
      refine ⟨by omega, fun hm => ?_⟩
      rcases List.mem_cons.1 hm with rfl | hm
      · have h1 := ih.1
        rw [hd, hb, if_neg (by decide), if_pos (by decide)]
        omega
      · have := ih.2 hm
        omega
  exact (key _).2 (List.mem_range.2 hx)
end Go.Proofs.YtgpkhfpejopacaaDoor

/- The walk of the document's Together. -/
namespace Go.Proofs.YtgpkhfpejopacaaDoor
open Go.RowKit

theorem mt_take {b c : List Nat} {j : Nat} (hj : j < b.length) : mt (b.take (j + 1)) c = mt (b.take j) c + if c.contains (b.getD j 0) = true then 1 else 0 := by
  unfold mt
  rw [List.take_add_one, List.getElem?_eq_getElem hj, List.countP_append, List.getD_eq_getElem?_getD, List.getElem?_eq_getElem hj]
  simp [List.countP_cons]
set_option maxHeartbeats 4000000 in
theorem Together_any (b c : List Nat) (v u : Value) (w : World) (hv : Sl w v (b.map Int.ofNat)) (hu : Sl w u (c.map Int.ofNat)) (hb : b.length ≤ 99) (hc : c.length ≤ 99) :
    Calls Tryd.prog 62 #[v, u] w fun e w' => e = .returned (.int .i64 ((mt b c : Nat) : Int)) ∧ w' = w := by
  have L : Hid (∀ x, Calls Tryd.prog 27 #[u, .int .i64 ((x : Nat) : Int)] w fun e w' => e = .returned (.bool (c.contains x)) ∧ w' = w) := fun x => Lies_any c x _ u w hu hc rfl
  obtain ⟨va, vc, rfl, _⟩ := hu
  obtain ⟨a, cap, rfl, hcc⟩ := hv
  rw [List.length_map] at hcc L ⊢
  rw [List.length_map]
  have HC : Hid (∀ j, j < b.length → ∃ b' off, a = some ⟨b', off, none⟩ ∧ w.cell? ⟨b', off + j, none⟩ = some (.int .i64 ((b.getD j 0 : Nat) : Int))) := fun j hj => by
    obtain ⟨b', off, e1, e2⟩ := hcc j hj
    rw [ofNat_at b hj] at e2
    exact ⟨b', off, e1, e2⟩
  have HM : Hid (∀ j, j < b.length → mt (b.take (j + 1)) c = mt (b.take j) c + if c.contains (b.getD j 0) = true then 1 else 0) := fun j hj => mt_take hj
  have HZ : Hid (mt (b.take b.length) c = mt b c) := by show _ = _; rw [List.take_length]
  have HL : Hid (∀ j, mt (b.take j) c ≤ b.length) := fun j => Nat.le_trans List.countP_le_length (by rw [List.length_take]; omega)
  obtain ⟨M, HMM⟩ : ∃ M, Hid (mt b c = M) := ⟨_, rfl⟩
  rw [HMM.out] at HZ ⊢
  generalize hn : b.length = n at *
  generalize c.length = vl at *
  clear hcc
  go_enter Tryd.func62, Tryd.ntmps62
  go_wp2
  go_loopw [5, 6] (fun k i wr => ∃ j m : Nat, i = .int .i64 (j : Int) ∧ k = .int .i64 (m : Int) ∧ j ≤ n ∧ Hid (mt (b.take j) c = m) ∧ wr = w) (fun _ i _ => (n - intOf i).toNat)
  case atStart => exact ⟨0, 0, rfl, rfl, by omega, (show mt (b.take 0) c = 0 by simp [mt]), rfl⟩
  case round =>
    obtain ⟨j, m, rfl, rfl, hj, HJ, hw⟩ := hrel
    subst hw
    have hm : m ≤ n := by have := HL.out j; rw [HJ.out] at this; exact this
    by_cases hlt : j < n
    · have hdj : decide ((j : Int) < (n : Int)) = true := by simp; omega
      have hji : (j : Int) < n := by omega
      obtain ⟨b', off, rfl, hcell⟩ := HC.out j hlt
      have C := L.out (b.getD j 0)
      have hs := HM.out j hlt
      obtain ⟨X, hX⟩ : ∃ X : Int, X = ((b.getD j 0 : Nat) : Int) := ⟨_, rfl⟩
      rw [← hX] at hcell C
      cases he : c.contains (b.getD j 0) with
      | false =>
        rw [he] at C
        have HJ2 : Hid (mt (b.take (j + 1)) c = m) := by show _ = _; rw [hs, he, HJ.out]; rfl
        clear he hX hs HJ
        go_wp2_with (go_at_call 27; refine C.mono ?_; rintro e w1 ⟨rfl, hw⟩; replace hw := hw.symm; subst hw)
        go_roundw
        case rel => exact ⟨j + 1, m, by go_num, rfl, by omega, HJ2, trivial⟩
        case measure => simp [intOf]; omega
      | true =>
        rw [he] at C
        have HJ2 : Hid (mt (b.take (j + 1)) c = m + 1) := by show _ = _; rw [hs, he, HJ.out]; rfl
        clear he hX hs HJ
        go_wp2_with (go_at_call 27; refine C.mono ?_; rintro e w1 ⟨rfl, hw⟩; replace hw := hw.symm; subst hw)
        go_roundw
        case rel => exact ⟨j + 1, m + 1, by go_num, by go_num, by omega, HJ2, trivial⟩
        case measure => simp [intOf]; omega
    · have hdj : decide ((j : Int) < (n : Int)) = false := by simp; omega
      obtain rfl : j = n := by omega
      obtain rfl : M = m := by rw [← HZ.out, HJ.out]
      go_wp2
      go_ret
      exact ⟨rfl, rfl⟩
end Go.Proofs.YtgpkhfpejopacaaDoor

/- Rows of rows of one's own. -/
/- The walk of the document's MeetsOf. -/
namespace Go.Proofs.YtgpkhfpejopacaaDoor
open Go.RowKit

/-- In how many points two blocks meet. -/
def metB (B : List (List Nat)) (n : Nat) : Bool := (List.range B.length).any fun i => (List.range i).any fun j => mt (B.getD i []) (B.getD j []) == n
theorem metB_iff {B : List (List Nat)} {n : Nat} : metB B n = true ↔ ∃ i j, j < i ∧ i < B.length ∧ mt (B.getD i []) (B.getD j []) = n := by
  unfold metB
  rw [List.any_eq_true]
  constructor
  · rintro ⟨i, hi, h⟩
    rw [List.any_eq_true] at h
    obtain ⟨j, hj, h⟩ := h
    exact ⟨i, j, List.mem_range.1 hj, List.mem_range.1 hi, by simpa using h⟩
  · rintro ⟨i, j, hj, hi, h⟩
    refine ⟨i, List.mem_range.2 hi, ?_⟩
    rw [List.any_eq_true]
    exact ⟨j, List.mem_range.2 hj, by simpa using h⟩
def mtL (v : Nat) (B : List (List Nat)) : List Nat := (List.range (v + 1)).filter (metB B)
def SeenM (B : List (List Nat)) (i j : Nat) (f : Nat → Bool) : Prop := ∀ n, f n = true ↔ ∃ i' j', j' < i' ∧ (i' < i ∨ (i' = i ∧ j' < j)) ∧ mt (B.getD i' []) (B.getD j' []) = n
theorem SeenM.zero (B : List (List Nat)) : SeenM B 0 0 (fun _ => false) := fun n => by
  constructor
  · intro h; cases h
  · rintro ⟨i, j, h1, h2 | h2, _⟩ <;> omega
theorem SeenM.step {B : List (List Nat)} {i j : Nat} {f : Nat → Bool} (h : SeenM B i j f) (hj : j < i) : SeenM B i (j + 1) (upT f (mt (B.getD i []) (B.getD j [])) true) := fun n => by
  unfold upT
  by_cases e : n = mt (B.getD i []) (B.getD j [])
  · rw [if_pos e]
    exact ⟨fun _ => ⟨i, j, hj, .inr ⟨rfl, by omega⟩, e.symm⟩, fun _ => rfl⟩
  · rw [if_neg e, h n]
    constructor
    · rintro ⟨i', j', h1, h2, h3⟩
      exact ⟨i', j', h1, by omega, h3⟩
    · rintro ⟨i', j', h1, h2, h3⟩
      refine ⟨i', j', h1, ?_, h3⟩
      rcases h2 with h2 | ⟨h2, h4⟩
      · exact .inl h2
      · by_cases e2 : j' = j
        · subst h2 e2; exact (e h3.symm).elim
        · exact .inr ⟨h2, by omega⟩
theorem SeenM.row {B : List (List Nat)} {i : Nat} {f : Nat → Bool} (h : SeenM B i i f) : SeenM B (i + 1) 0 f := fun n => by
  rw [h n]
  constructor
  · rintro ⟨i', j', h1, h2, h3⟩
    exact ⟨i', j', h1, by omega, h3⟩
  · rintro ⟨i', j', h1, h2, h3⟩
    exact ⟨i', j', h1, by omega, h3⟩
theorem SeenM.all {B : List (List Nat)} {f : Nat → Bool} (h : SeenM B B.length 0 f) : f = metB B := by
  funext n
  rw [Bool.eq_iff_iff, h n, metB_iff]
  constructor
  · rintro ⟨i', j', h1, h2, h3⟩
    exact ⟨i', j', h1, by omega, h3⟩
  · rintro ⟨i', j', h1, h2, h3⟩
    exact ⟨i', j', h1, by omega, h3⟩
theorem info4 : ∃ i, Tryd.prog.info? 4 = some i ∧ i.zero = some (.bool false) ∧ i.size = 1 ∧ i.bytes = 1 := by
  have h1 : ((Tryd.prog.info? 4).bind fun i => i.zero) = some (.bool false) := by kernel_rfl
  have h2 : ((Tryd.prog.info? 4).map fun i => i.size) = some 1 := by kernel_rfl
  have h3 : ((Tryd.prog.info? 4).map fun i => i.bytes) = some 1 := by kernel_rfl
  cases h : Tryd.prog.info? 4 with
  | none => rw [h] at h2; cases h2
  | some i =>
    rw [h] at h1 h2 h3
    exact ⟨i, rfl, h1, Option.some.inj h2, Option.some.inj h3⟩
theorem bo_new (w : World) (n : Nat) : Bo (w.alloc (.cells (madeCells #[.bool false] n) 4)) w.heap.size n (fun _ => false) := by
  refine ⟨_, 4, heap_alloc_new w _, fun j hj => ?_⟩
  rw [Array.getElem?_eq_getElem (by rw [size_madeCells]; exact hj)]
  simp [madeCells, Nat.mod_one]
theorem own_low {w : World} {b b' n : Nat} {v : Value} {l : List Value} (h : w.ownsRow b 3 1 v n l) (hb : b' ≤ b) : w.ownsRow b' 3 1 v n l := by
  obtain ⟨h0, h | ⟨g, cap, cur, h1, h2, h3⟩⟩ := h
  · exact ⟨h0, .inl h⟩
  · exact ⟨h0, .inr ⟨g, cap, cur, h1, Nat.le_trans hb h2, h3⟩⟩
theorem filter_succ (f : Nat → Bool) (m : Nat) : (List.range (m + 1)).filter f = (List.range m).filter f ++ if f m = true then [m] else [] := by
  rw [List.range_succ, List.filter_append]
  cases h : f m <;> simp [h]
end Go.Proofs.YtgpkhfpejopacaaDoor

namespace Go.Proofs.YtgpkhfpejopacaaDoor
open Go.RowKit

theorem undR : Tryd.prog.underlying 27 = some (.slice 22) := by kernel_rfl
theorem info36 : ∃ i, Tryd.prog.info? 22 = some i ∧ i.zero = some (.slice none 0 0) ∧ i.size = 1 ∧ i.bytes = 24 := by
  have h1 : (Tryd.prog.info? 22).map (·.zero) = some (some (.slice none 0 0)) := by kernel_rfl
  have h2 : (Tryd.prog.info? 22).map (·.size) = some 1 := by kernel_rfl
  have h3 : (Tryd.prog.info? 22).map (·.bytes) = some 24 := by kernel_rfl
  cases h : Tryd.prog.info? 22 with
  | none => rw [h] at h1; cases h1
  | some i =>
    rw [h] at h1 h2 h3
    exact ⟨i, rfl, Option.some.inj h1, Option.some.inj h2, Option.some.inj h3⟩
/-- A row of numbers of one's own. -/
def ORow (w : World) (base : Nat) (u : Value) (l : List Nat) : Prop := w.ownsRow base 3 1 u l.length ((l.map Int.ofNat).map (Value.int .i64))
theorem own_keep {w w' : World} {base n : Nat} {e : TypeId} {v : Value} {xs : List Value} (h : w.ownsRow base e 1 v n xs) (k : ∀ b, base ≤ b → b < w.heap.size → w'.heap[b]? = w.heap[b]?) : w'.ownsRow base e 1 v n xs := by
  obtain ⟨h3, h4 | ⟨g, cap, cur, h5, h6, h7, h8⟩⟩ := h
  · exact ⟨h3, .inl h4⟩
  · exact ⟨h3, .inr ⟨g, cap, cur, h5, h6, (k g h6 (Array.getElem?_eq_some_iff.1 h7).1).trans h7, h8⟩⟩
def OR (w : World) (base : Nat) (v : Value) (ls : List (List Nat)) : Prop :=
  ∃ vals : List Value, w.ownsRow base 22 1 v ls.length vals ∧ ∀ (i : Nat) (u : Value) (l : List Nat), vals[i]? = some u → ls[i]? = some l → ORow w base u l
theorem OR.nil (w : World) (base : Nat) : OR w base (.slice none 0 0) [] := ⟨[], World.ownsRow_nil _ _ _ _, fun i u l h _ => by simp at h⟩
theorem OR.keep {w w' : World} {base : Nat} {v : Value} {ls : List (List Nat)} (h : OR w base v ls) (k : ∀ b, base ≤ b → b < w.heap.size → w'.heap[b]? = w.heap[b]?) : OR w' base v ls := by
  obtain ⟨vals, h1, h2⟩ := h
  exact ⟨vals, own_keep h1 k, fun i u l hu hl => own_keep (h2 i u l hu hl) k⟩
theorem OR.below {w w' : World} {base : Nat} {v : Value} {ls : List (List Nat)} (h : OR w base v ls) (k : Below w.heap.size w w') : OR w' base v ls := h.keep fun b _ hb => k.block b hb
theorem ORow.below {w w' : World} {base : Nat} {u : Value} {l : List Nat} (h : ORow w base u l) (k : Below w.heap.size w w') : ORow w' base u l := own_keep h fun b _ hb => k.block b hb
/-- One row more. -/
theorem OR.more {wa w2 : World} {base : Nat} {v v' u : Value} {ls : List (List Nat)} {l : List Nat} {vals : List Value} (h1 : wa.ownsRow base 22 1 v ls.length vals) (h2 : ∀ (i : Nat) (u : Value) (l : List Nat), vals[i]? = some u → ls[i]? = some l → ORow wa base u l) (hu : ORow wa base u l)
    (hown : w2.ownsRow base 22 1 v' (ls.length + 1) (vals ++ [u])) (hgr : wa.grownBy w2 v.ownBlock) : OR w2 base v' (ls ++ [l]) := by
  have key : ∀ {u l}, ORow wa base u l → ORow w2 base u l := by
    rintro u l ⟨h0, hn | ⟨g, cap, cur, e1, hg, k1, k2⟩⟩
    · exact ⟨h0, .inl hn⟩
    · refine ⟨h0, .inr ⟨g, cap, cur, e1, hg, (hgr.block g (Array.getElem?_eq_some_iff.1 k1).1 (fun e => ?_)).trans k1, k2⟩⟩
      obtain ⟨_, ⟨rfl, _⟩ | ⟨g', cap', cur', rfl, _, hg', _⟩⟩ := h1
      · simp [Value.ownBlock] at e
      · have e2 : g = g' := by simpa [Value.ownBlock] using e
        subst e2
        rw [hg'] at k1
        simp at k1
  have hlen : vals.length = ls.length := by have := h1.1; omega
  refine ⟨vals ++ [u], by rw [List.length_append]; exact hown, fun i u' l' e1 e2 => ?_⟩
  by_cases hi : i < vals.length
  · rw [List.getElem?_append_left hi] at e1
    rw [List.getElem?_append_left (by omega)] at e2
    exact key (h2 i u' l' e1 e2)
  · rw [List.getElem?_append_right (by omega)] at e1
    rw [List.getElem?_append_right (by omega)] at e2
    have h0 : i - vals.length = 0 := by
      rcases Nat.eq_zero_or_pos (i - vals.length) with h | h
      · exact h
      · rw [List.getElem?_eq_none (by simp; omega)] at e1; simp at e1
    rw [h0] at e1
    rw [show i - ls.length = 0 by omega] at e2
    simp at e1 e2
    subst e1 e2
    exact key hu
theorem ORow.sl {w : World} {base : Nat} {u : Value} {l : List Nat} (h : ORow w base u l) : Sl w u (l.map Int.ofNat) := Sl.owned (by rw [List.length_map]; exact h)
/-- It reads as rows of numbers. -/
theorem OR.rw {w : World} {base : Nat} {v : Value} {ls : List (List Nat)} (h : OR w base v ls) : Rw w v (toZ ls) := by
  obtain ⟨vals, h1, h2⟩ := h
  have hz : (toZ ls).length = ls.length := by simp [toZ]
  obtain ⟨h3, ⟨rfl, h4⟩ | ⟨g, cap, cur, rfl, h6, h7, h8, h9, h10, ht⟩⟩ := h1
  · refine ⟨none, 0, by rw [hz, h4], fun i l hl => ?_⟩
    have : toZ ls = [] := List.length_eq_zero_iff.1 (by rw [hz, h4])
    rw [this] at hl; simp at hl
  · refine ⟨_, cap, by rw [hz], fun i l hl => ?_⟩
    obtain ⟨hi, e⟩ := List.getElem?_eq_some_iff.1 hl
    rw [hz] at hi
    have e2 : (cur.toList.take (ls.length * 1))[i]? = vals[i]? := by rw [ht]
    rw [List.getElem?_take, if_pos (by omega)] at e2
    obtain ⟨u, hu⟩ : ∃ u, vals[i]? = some u := ⟨vals[i]'(by omega), by simp⟩
    refine ⟨g, 0, u, rfl, ?_, ?_⟩
    · rw [cell_of_row w g _ _ _ _ h7, Nat.zero_add, ← Array.getElem?_toList, e2, hu]
    · have := (h2 i u ls[i] hu (List.getElem?_eq_getElem hi)).sl
      rw [← e]
      simpa [toZ] using this
theorem OR.cap {w : World} {base : Nat} {v : Value} {ls : List (List Nat)} (h : OR w base v ls) : ∃ a c, v = .slice a ls.length c := by
  obtain ⟨a, c, e, _⟩ := h.rw
  exact ⟨a, c, by rw [e]; simp [toZ]⟩
end Go.Proofs.YtgpkhfpejopacaaDoor

namespace Go.Proofs.YtgpkhfpejopacaaDoor
open Go.RowKit

/-- The first number that is not nought. -/
def fst3 (x y z : Nat) : Nat := if x ≠ 0 then x else if y ≠ 0 then y else z
def tr1 (q n : Nat) : List (List Nat) := if fst3 (n / (q * q)) (n / q % q) (n % q) = 1 then [[n / (q * q), n / q % q, n % q]] else []
/-- The triples of the numbers below k. -/
def trL (q k : Nat) : List (List Nat) := (List.range k).flatMap (tr1 q)
theorem trL_succ (q k : Nat) : trL q (k + 1) = trL q k ++ tr1 q k := by
  unfold trL
  rw [List.range_succ, List.flatMap_append]
  simp
theorem trL_one (q : Nat) : trL q 1 = [] := by simp [trL, tr1, fst3]
theorem trL_len (q : Nat) : ∀ k, (trL q k).length ≤ k
  | 0 => by simp [trL]
  | k + 1 => by
    rw [trL_succ, List.length_append]
    have := trL_len q k
    have : (tr1 q k).length ≤ 1 := by unfold tr1; split <;> simp
    omega
/-- A new triple behind the others. -/
theorem or_app3 {w w2 : World} {base n : Nat} {v v' : Value} {L : List (List Nat)} {vals : List Value} {a b c : Int} (x y z : Nat) (h1 : w.ownsRow base 22 1 v L.length vals) (h2 : ∀ (i : Nat) (u : Value) (l : List Nat), vals[i]? = some u → L[i]? = some l → ORow w base u l) (hn : L.length = n) (hbs : base ≤ w.heap.size)
    (hown : w2.ownsRow base 22 1 v' (n + 1) (vals ++ [.slice (some ⟨w.heap.size, 0, none⟩) 3 3])) (hgr : ((w.alloc (.cells #[.int .i64 a, .int .i64 b, .int .i64 c] 3)).alloc (.cells #[.slice (some ⟨w.heap.size, 0, none⟩) 3 3] 22)).grownBy w2 v.ownBlock) (ha : a = (x : Int)) (hb : b = (y : Int)) (hc : c = (z : Int)) : OR w2 base v' (L ++ [[x, y, z]]) ∧ Below base w w2 := by
  subst ha hb hc
  have b1 := balloc w (.cells #[.int .i64 (x : Int), .int .i64 (y : Int), .int .i64 (z : Int)] 3)
  have b2 := balloc (w.alloc (.cells #[.int .i64 (x : Int), .int .i64 (y : Int), .int .i64 (z : Int)] 3)) (.cells #[.slice (some ⟨w.heap.size, 0, none⟩) 3 3] 22)
  have hr : ORow (w.alloc (.cells #[.int .i64 (x : Int), .int .i64 (y : Int), .int .i64 (z : Int)] 3)) base (.slice (some ⟨w.heap.size, 0, none⟩) 3 3) [x, y, z] := ⟨rfl, .inr ⟨w.heap.size, 3, _, rfl, hbs, heap_alloc_new w _, Nat.le_refl _, by unfold maxLen; omega, rfl, rfl⟩⟩
  have b12 := Below.next b1 b2
  refine ⟨OR.more (own_keep h1 fun b _ hb => b12.block b hb) (fun i u l e1 e2 => (h2 i u l e1 e2).below b12) (hr.below b2) (by rw [hn]; exact hown) hgr, ?_⟩
  exact (b12.mono hbs).grown hgr (by simp; omega) fun k hk => (h1.lt k hk).1
theorem own_form2 {w : World} {base n : Nat} {e : TypeId} {v : Value} {xs : List Value} (h : w.ownsRow base e 1 v n xs) : ∃ a c, v = .slice a n c := by
  obtain ⟨_, ⟨h1, h2⟩ | ⟨g, c, cur, h1, _⟩⟩ := h
  · exact ⟨none, 0, by rw [h1, h2]⟩
  · exact ⟨_, _, h1⟩
set_option maxRecDepth 100000 in
set_option maxHeartbeats 16000000 in
theorem triples_any (q : Nat) (w : World) (h2 : 2 ≤ q) (h5 : q ≤ 5) :
    Calls Tryd.prog 35 #[.int .i64 (q : Int)] w fun e w' => ∃ x, e = .returned x ∧ OR w' w.heap.size x (trL q (q * q * q)) ∧ Below w.heap.size w w' := by
  obtain ⟨i27, ji3, jz0, jz1, jz2⟩ := info36
  have HST : Hid (∀ k, trL q (k + 1) = trL q k ++ (if fst3 (k / (q * q)) (k / q % q) (k % q) = 1 then [[k / (q * q), k / q % q, k % q]] else [])) := fun k => trL_succ q k
  have HLE : Hid (∀ k, (trL q k).length ≤ k) := trL_len q
  have H1 : Hid (trL q 1 = []) := trL_one q
  obtain ⟨Q2, HQ2⟩ : ∃ Q2, Hid (q * q = Q2) := ⟨_, rfl⟩
  obtain ⟨Q3, HQ3⟩ : ∃ Q3, Hid (Q2 * q = Q3) := ⟨_, rfl⟩
  have hQ2 : Q2 ≤ 25 := by rw [← HQ2.out]; exact Nat.mul_le_mul h5 h5
  have hQ2' : 4 ≤ Q2 := by rw [← HQ2.out]; exact Nat.mul_le_mul h2 h2
  have hQ3 : Q3 ≤ 125 := by rw [← HQ3.out]; exact Nat.mul_le_mul hQ2 h5
  have hQ3' : 8 ≤ Q3 := by rw [← HQ3.out]; exact Nat.mul_le_mul hQ2' h2
  have hm2 : (q : Int) * (q : Int) = (Q2 : Int) := by rw [← HQ2.out]; rfl
  have hm3 : (Q2 : Int) * (q : Int) = (Q3 : Int) := by rw [← HQ3.out]; rfl
  have hq0 : ¬ (q : Int) = 0 := by omega
  have hq0' : ¬ q = 0 := by omega
  have hQ0 : ¬ (Q2 : Int) = 0 := by omega
  have hQ0' : ¬ Q2 = 0 := by omega
  have HLT : Hid (∀ k : Nat, k / q % q ≤ 5 ∧ k % q ≤ 5) := fun k => ⟨by have := Nat.mod_lt (k / q) (show 0 < q by omega); omega, by have := Nat.mod_lt k (show 0 < q by omega); omega⟩
  rw [HQ2.out, HQ3.out]
  rw [HQ2.out] at HST
  obtain ⟨TL, HTL⟩ : ∃ TL, Hid (trL q = TL) := ⟨_, rfl⟩
  rw [HTL.out] at HST HLE H1 ⊢
  go_enter Tryd.func35, Tryd.ntmps35
  go_wp2
  go_loopw [3, 4] (fun lv kv wr => ∃ k : Nat, kv = .int .i64 (k : Int) ∧ 1 ≤ k ∧ k ≤ Q3 ∧ OR wr w.heap.size lv (TL k) ∧ Below w.heap.size w wr) (fun _ kv _ => (Q3 - intOf kv).toNat)
  case atStart => exact ⟨1, rfl, by omega, by omega, by rw [H1.out]; exact OR.nil _ _, Below.refl _ _⟩
  case round =>
    obtain ⟨k, rfl, hk1, hk, hO, hB⟩ := hrel
    obtain ⟨oa, oc, rfl⟩ := hO.cap
    have hsz := hB.size
    by_cases hlt : k < Q3
    · have hdi : decide ((k : Int) < (Q3 : Int)) = true := by simp; omega
      have hdi' : decide (k < Q3) = true := by simpa using hlt
      have hii : (k : Int) < (Q3 : Int) := by omega
      have hst := HST.out k
      have hle := HLE.out k
      obtain ⟨hyb, hzb⟩ := HLT.out k
      have hxb : k / Q2 ≤ 125 := Nat.le_trans (Nat.div_le_self _ _) (by omega)
      have e1 : (k : Int).tdiv (Q2 : Int) = ((k / Q2 : Nat) : Int) := rfl
      have e2 : (k : Int).tdiv (q : Int) = ((k / q : Nat) : Int) := rfl
      have e3 : ((k / q : Nat) : Int).tmod (q : Int) = ((k / q % q : Nat) : Int) := rfl
      have e4 : (k : Int).tmod (q : Int) = ((k % q : Nat) : Int) := rfl
      have hyy : k / q ≤ 125 := Nat.le_trans (Nat.div_le_self _ _) (by omega)
      obtain ⟨x, Hx⟩ : ∃ x, Hid (k / Q2 = x) := ⟨_, rfl⟩
      obtain ⟨yy, Hyy⟩ : ∃ y, Hid (k / q = y) := ⟨_, rfl⟩
      rw [Hx.out] at hst e1 hxb
      rw [Hyy.out] at hst e2 e3 hyb hyy
      obtain ⟨y, Hy⟩ : ∃ y, Hid (yy % q = y) := ⟨_, rfl⟩
      obtain ⟨z, Hzz⟩ : ∃ z, Hid (k % q = z) := ⟨_, rfl⟩
      rw [Hy.out] at hst e3 hyb
      rw [Hzz.out] at hst e4 hzb
      have HS : Hid (TL (k + 1) = TL k ++ (if fst3 x y z = 1 then [[x, y, z]] else [])) := hst
      obtain ⟨LL, HLL⟩ : ∃ LL, Hid (TL k = LL) := ⟨_, rfl⟩
      rw [HLL.out] at hO hle HS
      obtain ⟨ln, HLN⟩ : ∃ ln, Hid (LL.length = ln) := ⟨_, rfl⟩
      rw [HLL.out, HLN.out]
      rw [HLN.out] at hle hO
      clear hst
      by_cases hx0 : x = 0
      · subst hx0
        by_cases hy0 : y = 0
        · subst hy0
          by_cases hz1 : z = 1
          · subst hz1
            have HS2 : Hid (TL (k + 1) = LL ++ [[0, 0, 1]]) := (show TL (k + 1) = LL ++ [[0, 0, 1]] by rw [HS.out, if_pos (by unfold fst3; simp)])
            obtain ⟨vals, h1, h2'⟩ := hO
            have H1' : Hid (wr.ownsRow w.heap.size 22 1 (.slice oa ln oc) LL.length vals) := h1
            have H2' : Hid (∀ (i : Nat) (u : Value) (l : List Nat), vals[i]? = some u → LL[i]? = some l → ORow wr w.heap.size u l) := h2'
            rw [HLN.out] at h1
            clear h2'
            go_wp2_with (first
              | (at_builtin; refine wpList_append_own _ rfl _ _ 27 rfl w.heap.size 22 i27 (.slice none 0 0) 1 24 undR ji3 jz0 jz1 jz2 rfl (by decide) _ _ _ rfl ((h1.alloc _).alloc _) ⟨wr.heap.size + 1, 0, none⟩ 1 1 [.slice (some ⟨wr.heap.size, 0, none⟩) 3 3] rfl rfl (fun j u hj => by (match j, hj with | 0, hj => simp at hj; subst hj; simp [Addr.add])) (fun u hu => by (simp at hu; subst hu; rfl)) (by (unfold maxLen; omega)) (by omega) (by (simp; omega)) ?_; intro v' w2 hown' hgrow _
                 have hap := or_app3 (L := LL) 0 0 1 H1'.out H2'.out HLN.out (by omega) hown' hgrow (by omega) (by omega) (by omega)
                 rw [← HS2.out] at hap
                 have hBn := hB.trans hap.2
                 have hOn := hap.1
                 obtain ⟨va', vc', rfl⟩ := own_form2 hown'
                 clear hap hown' hgrow h1 hB)
              | go_in)
            go_roundw
            case rel => exact ⟨k + 1, by go_num, by omega, by omega, hOn, hBn⟩
            case measure => simp [intOf]; omega
          · have k1 : ((z : Int) == 1) = false := by simp; omega
            have k2 : ¬ (z : Int) = 1 := by omega
            have HS2 : Hid (TL (k + 1) = LL) := (show TL (k + 1) = LL by rw [HS.out, if_neg (by unfold fst3; simpa using hz1), List.append_nil])
            have hO2 : OR wr w.heap.size (.slice oa ln oc) (TL (k + 1)) := by rw [HS2.out]; exact hO
            clear hO
            go_wp2
            go_roundw
            case rel => exact ⟨k + 1, by go_num, by omega, by omega, hO2, hB⟩
            case measure => simp [intOf]; omega
        · have k3 : ((y : Int) == 0) = false := by simp; omega
          have k4 : ¬ (y : Int) = 0 := by omega
          by_cases hy1 : y = 1
          · subst hy1
            have HS2 : Hid (TL (k + 1) = LL ++ [[0, 1, z]]) := (show TL (k + 1) = LL ++ [[0, 1, z]] by rw [HS.out, if_pos (by unfold fst3; simp)])
            obtain ⟨vals, h1, h2'⟩ := hO
            have H1' : Hid (wr.ownsRow w.heap.size 22 1 (.slice oa ln oc) LL.length vals) := h1
            have H2' : Hid (∀ (i : Nat) (u : Value) (l : List Nat), vals[i]? = some u → LL[i]? = some l → ORow wr w.heap.size u l) := h2'
            rw [HLN.out] at h1
            clear h2'
            go_wp2_with (first
              | (at_builtin; refine wpList_append_own _ rfl _ _ 27 rfl w.heap.size 22 i27 (.slice none 0 0) 1 24 undR ji3 jz0 jz1 jz2 rfl (by decide) _ _ _ rfl ((h1.alloc _).alloc _) ⟨wr.heap.size + 1, 0, none⟩ 1 1 [.slice (some ⟨wr.heap.size, 0, none⟩) 3 3] rfl rfl (fun j u hj => by (match j, hj with | 0, hj => simp at hj; subst hj; simp [Addr.add])) (fun u hu => by (simp at hu; subst hu; rfl)) (by (unfold maxLen; omega)) (by omega) (by (simp; omega)) ?_; intro v' w2 hown' hgrow _
                 have hap := or_app3 (L := LL) 0 1 z H1'.out H2'.out HLN.out (by omega) hown' hgrow (by omega) (by omega) (by omega)
                 rw [← HS2.out] at hap
                 have hBn := hB.trans hap.2
                 have hOn := hap.1
                 obtain ⟨va', vc', rfl⟩ := own_form2 hown'
                 clear hap hown' hgrow h1 hB)
              | go_in)
            go_roundw
            case rel => exact ⟨k + 1, by go_num, by omega, by omega, hOn, hBn⟩
            case measure => simp [intOf]; omega
          · have k1 : ((y : Int) == 1) = false := by simp; omega
            have k2 : ¬ (y : Int) = 1 := by omega
            have HS2 : Hid (TL (k + 1) = LL) := (show TL (k + 1) = LL by rw [HS.out, if_neg (by unfold fst3; simp [hy0]; exact hy1), List.append_nil])
            have hO2 : OR wr w.heap.size (.slice oa ln oc) (TL (k + 1)) := by rw [HS2.out]; exact hO
            clear hO
            go_wp2
            go_roundw
            case rel => exact ⟨k + 1, by go_num, by omega, by omega, hO2, hB⟩
            case measure => simp [intOf]; omega
      · have k3 : ((x : Int) == 0) = false := by simp; omega
        have k4 : ¬ (x : Int) = 0 := by omega
        by_cases hx1 : x = 1
        · subst hx1
          have HS2 : Hid (TL (k + 1) = LL ++ [[1, y, z]]) := (show TL (k + 1) = LL ++ [[1, y, z]] by rw [HS.out, if_pos (by unfold fst3; simp)])
          obtain ⟨vals, h1, h2'⟩ := hO
          have H1' : Hid (wr.ownsRow w.heap.size 22 1 (.slice oa ln oc) LL.length vals) := h1
          have H2' : Hid (∀ (i : Nat) (u : Value) (l : List Nat), vals[i]? = some u → LL[i]? = some l → ORow wr w.heap.size u l) := h2'
          rw [HLN.out] at h1
          clear h2'
          go_wp2_with (first
            | (at_builtin; refine wpList_append_own _ rfl _ _ 27 rfl w.heap.size 22 i27 (.slice none 0 0) 1 24 undR ji3 jz0 jz1 jz2 rfl (by decide) _ _ _ rfl ((h1.alloc _).alloc _) ⟨wr.heap.size + 1, 0, none⟩ 1 1 [.slice (some ⟨wr.heap.size, 0, none⟩) 3 3] rfl rfl (fun j u hj => by (match j, hj with | 0, hj => simp at hj; subst hj; simp [Addr.add])) (fun u hu => by (simp at hu; subst hu; rfl)) (by (unfold maxLen; omega)) (by omega) (by (simp; omega)) ?_; intro v' w2 hown' hgrow _
               have hap := or_app3 (L := LL) 1 y z H1'.out H2'.out HLN.out (by omega) hown' hgrow (by omega) (by omega) (by omega)
               rw [← HS2.out] at hap
               have hBn := hB.trans hap.2
               have hOn := hap.1
               obtain ⟨va', vc', rfl⟩ := own_form2 hown'
               clear hap hown' hgrow h1 hB)
            | go_in)
          go_roundw
          case rel => exact ⟨k + 1, by go_num, by omega, by omega, hOn, hBn⟩
          case measure => simp [intOf]; omega
        · have k1 : ((x : Int) == 1) = false := by simp; omega
          have k2 : ¬ (x : Int) = 1 := by omega
          have HS2 : Hid (TL (k + 1) = LL) := (show TL (k + 1) = LL by rw [HS.out, if_neg (by unfold fst3; simp [hx0]; exact hx1), List.append_nil])
          have hO2 : OR wr w.heap.size (.slice oa ln oc) (TL (k + 1)) := by rw [HS2.out]; exact hO
          clear hO
          go_wp2
          go_roundw
          case rel => exact ⟨k + 1, by go_num, by omega, by omega, hO2, hB⟩
          case measure => simp [intOf]; omega
    · have hdi : decide ((k : Int) < (Q3 : Int)) = false := by simp; omega
      have hdi' : decide (k < Q3) = false := by simpa using hlt
      have hii : ¬ (k : Int) < (Q3 : Int) := by omega
      obtain rfl : k = Q3 := by omega
      have HOF : Hid (OR wr w.heap.size (.slice oa (TL k).length oc) (TL k)) := hO
      generalize (TL k).length = ln at *
      clear hO
      go_wp2
      go_ret
      exact ⟨_, rfl, HOF.out, hB⟩

end Go.Proofs.YtgpkhfpejopacaaDoor
