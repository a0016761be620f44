/- A slice of rows that were made one after another: cycles. -/
import Derived.Test.YtgpkhfpejopacabGreatDoorZPList
import Derived.OwnWalk
/- The walks of Still, Then, Undo. -/
namespace Go.Proofs.YtgpkhfpejopacabGreatDoor.Gc
open Go.RowKit

theorem own_made' {w : World} {base g n : Nat} (h : w.ownsRow base 3 1 (.slice (some ⟨g, 0, none⟩) n n) n (madeCells #[Value.int .i64 0] n).toList) : Own w g n (fun _ => 0) := by
  obtain ⟨_, ⟨h1, _⟩ | ⟨g', cap, cur, e, hb, hg, h2, h3, h4, ht⟩⟩ := h
  · cases h1
  · cases e
    refine ⟨cur, hg, fun j hj => ?_⟩
    have e2 : (cur.toList.take (n * 1))[j]? = ((madeCells #[Value.int .i64 0] n).toList)[j]? := by rw [ht]
    rw [List.getElem?_take, if_pos (by omega)] at e2
    rw [← Array.getElem?_toList, e2]
    simp [madeCells, hj, Nat.mod_one]
theorem pl_succ (n : Nat) (f : Nat → Nat) : pl (n + 1) f = pl n f ++ [(f n : Int)] := by unfold pl; rw [List.range_succ, List.map_append]; rfl
theorem Own.pl {w : World} {g n : Nat} {h : Nat → Int} {f : Nat → Nat} (hO : Own w g n h) (cap : Nat) (e : ∀ j, j < n → h j = (f j : Int)) : Sl w (.slice (some ⟨g, 0, none⟩) n cap) (Go.Proofs.YtgpkhfpejopacabGreatDoor.Gc.pl n f) := by
  have := (hO.congr (f' := fun j => (f j : Int)) e).sl cap
  exact this

/-- What undoes it. -/
noncomputable def iv (f : Nat → Nat) (y : Nat) : Nat := itr f (per f y - 1) y
theorem Pm.iv_lt {n : Nat} {f : Nat → Nat} (P : Pm n f) {y : Nat} (hy : y < n) : iv f y < n := P.itr_lt hy _
theorem Pm.f_iv {n : Nat} {f : Nat → Nat} (P : Pm n f) {y : Nat} (hy : y < n) : f (iv f y) = y := by
  have hp := (P.per hy).1
  show itr f (Go.Proofs.YtgpkhfpejopacabGreatDoor.Gc.per f y - 1 + 1) y = y
  rw [show Go.Proofs.YtgpkhfpejopacabGreatDoor.Gc.per f y - 1 + 1 = Go.Proofs.YtgpkhfpejopacabGreatDoor.Gc.per f y by omega, hp.2.2]
theorem Pm.iv_f {n : Nat} {f : Nat → Nat} (P : Pm n f) {x : Nat} (hx : x < n) : iv f (f x) = x :=
  P.inj _ _ (P.iv_lt (P.lt x hx)) hx (P.f_iv (P.lt x hx))
theorem Pm.iv_pm {n : Nat} {f : Nat → Nat} (P : Pm n f) : Pm n (iv f) :=
  ⟨fun y hy => P.iv_lt hy, fun i j hi hj e => by rw [← P.f_iv hi, ← P.f_iv hj, e]⟩
theorem Pm.iv_of {n : Nat} {f : Nat → Nat} (P : Pm n f) {h : Nat → Int} (e : ∀ t, t < n → h (f t) = (t : Int)) : ∀ y, y < n → h y = (iv f y : Int) := fun y hy => by
  have := e _ (P.iv_lt hy)
  rw [P.f_iv hy] at this
  exact this
theorem undo_step {n k : Nat} {f : Nat → Nat} (P : Pm n f) {h : Nat → Int} (hk : k < n) (e : ∀ t, t < k → h (f t) = (t : Int)) : ∀ t, t < k + 1 → upd h (f k) (k : Int) (f t) = (t : Int) := fun t ht => by
  unfold upd
  by_cases et : t = k
  · subst et; rw [if_pos rfl]
  · rw [if_neg (fun e2 => et (P.inj t k (by omega) hk e2))]
    exact e t (by omega)

end Go.Proofs.YtgpkhfpejopacabGreatDoor.Gc

namespace Go.Proofs.YtgpkhfpejopacabGreatDoor.Gc
open Go.RowKit

set_option maxRecDepth 100000 in
theorem und54 : Tryz.prog.underlying 22 = some (.slice 29) := by kernel_rfl
set_option maxRecDepth 100000 in
theorem info22 : ∃ i, Tryz.prog.info? 29 = some i ∧ i.zero = some (.slice none 0 0) ∧ i.size = 1 ∧ i.bytes = 24 := by
  have h1 : (Tryz.prog.info? 29).map (·.zero) = some (some (.slice none 0 0)) := by kernel_rfl
  have h2 : (Tryz.prog.info? 29).map (·.size) = some 1 := by kernel_rfl
  have h3 : (Tryz.prog.info? 29).map (·.bytes) = some 24 := by kernel_rfl
  cases h : Tryz.prog.info? 29 with
  | none => rw [h] at h1; cases h1
  | some i =>
    rw [h] at h1 h2 h3
    exact ⟨i, rfl, Option.some.inj h1, Option.some.inj h2, Option.some.inj h3⟩
theorem own_below {w w' : World} {base n : Nat} {e : TypeId} {size : Nat} {v : Value} {xs : List Value} (h : w.ownsRow base e size v n xs) (hb : Below w.heap.size w w') : w'.ownsRow base e size v n xs :=
  h.kept (row := none) ⟨hb.os, hb.tape, hb.output, hb.size, fun k hk _ => hb.block k hk⟩ (by cases v.ownBlock <;> simp)

theorem own_other {w : World} {base n : Nat} {e : TypeId} {size : Nat} {v : Value} {xs : List Value} (h : w.ownsRow base e size v n xs) (a : Addr) (u : Value) (hb : a.block < base) : (w.setCell a u).ownsRow base e size v n xs := by
  obtain ⟨h1, h2 | ⟨g, cap, cur, h3, h4, h5, h6⟩⟩ := h
  · exact ⟨h1, .inl h2⟩
  · exact ⟨h1, .inr ⟨g, cap, cur, h3, h4, (heap_setCell_other w a g u (by omega)).trans h5, h6⟩⟩
theorem cell_new (W : World) (x : Value) (t : TypeId) (n : Nat) (h : W.heap.size = n) : (W.alloc (.cells #[x] t)).cell? ((⟨n, 0, none⟩ : Addr).add 0) = some x := by
  subst h
  show (W.alloc (.cells #[x] t)).cell? ⟨W.heap.size, 0 + 0, none⟩ = some x
  rw [cell_of_row _ _ _ _ _ _ (heap_alloc_new W _)]; rfl
def sliceLen : Value → Nat
  | .slice _ n _ => n
  | _ => 0
theorem sliceLen_own {w : World} {base n : Nat} {e : TypeId} {size : Nat} {v : Value} {xs : List Value} (h : w.ownsRow base e size v n xs) : sliceLen v = n := by
  obtain ⟨_, ⟨rfl, rfl⟩ | ⟨g, cap, cur, rfl, _⟩⟩ := h <;> rfl
/-- All blocks but one are as they were. -/
def Kp (M : Nat) (w w' : World) : Prop := w.heap.size ≤ w'.heap.size ∧ ∀ b, b < w.heap.size → b ≠ M → w'.heap[b]? = w.heap[b]?
theorem Kp.refl (M : Nat) (w : World) : Kp M w w := ⟨Nat.le_refl _, fun _ _ _ => rfl⟩
theorem Kp.trans {M : Nat} {a b c : World} (h : Kp M a b) (k : Kp M b c) : Kp M a c := ⟨Nat.le_trans h.1 k.1, fun x hx hm => (k.2 x (by have := h.1; omega) hm).trans (h.2 x hx hm)⟩
theorem Kp.set (M : Nat) (w : World) (j : Nat) (v : Value) : Kp M w (w.setCell ⟨M, j, none⟩ v) := ⟨by simp, fun b _ hm => heap_setCell_other w _ b v hm⟩
theorem Kp.below {M : Nat} {w w' : World} (h : Below w.heap.size w w') : Kp M w w' := ⟨h.size, fun b hb _ => h.block b hb⟩
theorem Kp.under {M B : Nat} {w a b : World} (h : Kp M w a) (hB : w.heap.size ≤ B) (k : Below B a b) : Kp M w b := ⟨Nat.le_trans h.1 k.size, fun x hx hm => (k.block x (by omega)).trans (h.2 x hx hm)⟩

/-- The value is a slice, from a block's beginning on, of a row of numbers. -/
def RowIs (w : World) (base : Nat) (u : Value) (l : List Nat) : Prop := ∃ g cap, u = .slice (some ⟨g, 0, none⟩) l.length cap ∧ base ≤ g ∧ Own w g l.length (fun j => (l.getD j 0 : Int))
theorem RowIs.kp {w w' : World} {base M : Nat} {u : Value} {l : List Nat} (h : RowIs w base u l) (k : Kp M w w') (hM : M < base) : RowIs w' base u l := by
  obtain ⟨g, cap, rfl, hg, hO⟩ := h
  have hl := hO.lt
  obtain ⟨cur, h1, h2⟩ := hO
  exact ⟨g, cap, rfl, hg, cur, (k.2 g hl (by omega)).trans h1, h2⟩
def CycR (w : World) (base : Nat) (v : Value) (ls : List (List Nat)) : Prop :=
  ∃ vals : List Value, w.ownsRow base 29 1 v ls.length vals ∧ ∀ (i : Nat) (u : Value) (l : List Nat), vals[i]? = some u → ls[i]? = some l → RowIs w base u l
theorem CycR.nil (w : World) (base : Nat) : CycR w base (.slice none 0 0) [] := ⟨[], World.ownsRow_nil _ _ _ _, fun i u l h _ => by simp at h⟩
theorem CycR.kp {w w' : World} {base M : Nat} {v : Value} {ls : List (List Nat)} (h : CycR w base v ls) (k : Kp M w w') (hM : M < base) : CycR w' base v ls := by
  obtain ⟨vals, h1, h2⟩ := h
  refine ⟨vals, ?_, fun i u l hu hl => (h2 i u l hu hl).kp k hM⟩
  obtain ⟨h3, h4 | ⟨g, cap, cur, h5, h6, h7, h8⟩⟩ := h1
  · exact ⟨h3, .inl h4⟩
  · exact ⟨h3, .inr ⟨g, cap, cur, h5, h6, (k.2 g (Array.getElem?_eq_some_iff.1 h7).1 (by omega)).trans h7, h8⟩⟩
/-- One row more. -/
theorem CycR.more {wa w2 : World} {base : Nat} {v v' u : Value} {ls : List (List Nat)} {l : List Nat} {vals : List Value} (h1 : wa.ownsRow base 29 1 v ls.length vals) (h2 : ∀ (i : Nat) (u : Value) (l : List Nat), vals[i]? = some u → ls[i]? = some l → RowIs wa base u l) (hu : RowIs wa base u l)
    (hown : w2.ownsRow base 29 1 v' (ls.length + 1) (vals ++ [u])) (hgr : wa.grownBy w2 v.ownBlock) : CycR w2 base v' (ls ++ [l]) := by
  have key : ∀ {u l}, RowIs wa base u l → RowIs w2 base u l := by
    rintro u l ⟨g, cap, rfl, hg, hO⟩
    have hl := hO.lt
    obtain ⟨cur, k1, k2⟩ := hO
    refine ⟨g, cap, rfl, hg, cur, (hgr.block g hl (fun e => ?_)).trans k1, k2⟩
    obtain ⟨_, ⟨rfl, _⟩ | ⟨g', cap', cur', rfl, _, hg', _⟩⟩ := h1
    · simp [Value.ownBlock] at e
    · have e2 : g = g' := by simpa [Value.ownBlock] using e
      subst e2
      rw [hg'] at k1
      simp at k1
  have hlen : vals.length = ls.length := by have := h1.1; omega
  refine ⟨vals ++ [u], by rw [List.length_append]; exact hown, fun i u' l' e1 e2 => ?_⟩
  by_cases hi : i < vals.length
  · rw [List.getElem?_append_left hi] at e1
    rw [List.getElem?_append_left (by omega)] at e2
    exact key (h2 i u' l' e1 e2)
  · rw [List.getElem?_append_right (by omega)] at e1
    rw [List.getElem?_append_right (by omega)] at e2
    have h0 : i - vals.length = 0 := by
      rcases Nat.eq_zero_or_pos (i - vals.length) with h | h
      · exact h
      · rw [List.getElem?_eq_none (by simp; omega)] at e1; simp at e1
    rw [h0] at e1
    rw [show i - ls.length = 0 by omega] at e2
    simp at e1 e2
    subst e1 e2
    exact key hu
/-- A slice that reads as rows of numbers. -/
def SlSl (w : World) (v : Value) (ls : List (List Nat)) : Prop :=
  ∃ a cap, v = .slice a ls.length cap ∧ ∀ (i : Nat) (l : List Nat), ls[i]? = some l → ∃ b off u, a = some ⟨b, off, none⟩ ∧ w.cell? ⟨b, off + i, none⟩ = some u ∧ Sl w u (l.map Int.ofNat)
theorem CycR.sl {w : World} {base : Nat} {v : Value} {ls : List (List Nat)} (h : CycR w base v ls) : SlSl w v ls := by
  obtain ⟨vals, h1, h2⟩ := h
  have h1' := h1
  obtain ⟨h3, ⟨rfl, h4⟩ | ⟨g, cap, cur, rfl, h6, h7, h8, h9, h10, ht⟩⟩ := h1
  · refine ⟨none, 0, by rw [h4], fun i l hl => ?_⟩
    rw [List.length_eq_zero_iff.1 h4] at hl; simp at hl
  · refine ⟨_, cap, rfl, fun i l hl => ?_⟩
    have hi : i < ls.length := by
      rcases Nat.lt_or_ge i ls.length with h | h
      · exact h
      · rw [List.getElem?_eq_none h] at hl; simp at hl
    have e : (cur.toList.take (ls.length * 1))[i]? = vals[i]? := by rw [ht]
    rw [List.getElem?_take, if_pos (by omega)] at e
    obtain ⟨u, hu⟩ : ∃ u, vals[i]? = some u := ⟨vals[i]'(by omega), by simp⟩
    refine ⟨g, 0, u, rfl, ?_, ?_⟩
    · rw [cell_of_row w g _ _ _ _ h7, Nat.zero_add, ← Array.getElem?_toList, e, hu]
    · obtain ⟨g', cap', rfl, _, hO⟩ := h2 i u l hu hl
      have h := hO.sl cap'
      have e3 : (List.range l.length).map (fun j => (l.getD j 0 : Int)) = l.map Int.ofNat := by
        refine List.ext_getElem (by simp) fun j h1 h2 => ?_
        have hj : j < l.length := by simpa using h2
        simp [hj]
      rw [e3] at h
      exact h
theorem SlSl.below {w w' : World} {v : Value} {ls : List (List Nat)} (h : SlSl w v ls) (hb : Below w.heap.size w w') : SlSl w' v ls := by
  obtain ⟨a, cap, rfl, h⟩ := h
  refine ⟨a, cap, rfl, fun i l hl => ?_⟩
  obtain ⟨b, off, u, e, hc, hs⟩ := h i l hl
  exact ⟨b, off, u, e, (hb.cell (p := ⟨b, off + i, none⟩) (block_lt_of_cell hc)).trans hc, hs.below hb⟩

theorem CycR.form {w : World} {base : Nat} {v : Value} {ls : List (List Nat)} (h : CycR w base v ls) : ∃ a cap, v = .slice a ls.length cap := by
  obtain ⟨a, cap, e, _⟩ := h.sl
  exact ⟨a, cap, e⟩
theorem CycR.at {w : World} {base : Nat} {a : Option Addr} {c n : Nat} {ls : List (List Nat)} (h : CycR w base (.slice a n c) ls) {i : Nat} {l : List Nat} (hl : ls[i]? = some l) : ∃ b off u, a = some ⟨b, off, none⟩ ∧ b < w.heap.size ∧ w.cell? ⟨b, off + i, none⟩ = some u ∧ Sl w u (l.map Int.ofNat) := by
  obtain ⟨a', cap, e, h'⟩ := h.sl
  cases e
  obtain ⟨b, off, u, h1, h2, h3⟩ := h' i l hl
  exact ⟨b, off, u, h1, by simpa using block_lt_of_cell h2, h2, h3⟩

theorem met_zero {n : Nat} {f : Nat → Nat} {m : Nat → Bool} {k : Nat} (hm : ∀ x : Nat, x < n → (m x = true ↔ ∃ i j, i < k ∧ itr f j i = x)) (P : Pm n f) (hk : k < n) : m k = !leadB n f k := by
  rw [Bool.eq_iff_iff, hm k hk, Bool.not_eq_true', Bool.eq_false_iff, ne_eq, P.lead hk]
  constructor
  · rintro ⟨i, j, hi, hj⟩ h
    obtain ⟨q, hq⟩ := P.back (x := i) (k := j) (by omega)
    rw [hj] at hq
    have := h q
    omega
  · intro h
    obtain ⟨i, j, h1, h2, h3, h4, h5⟩ := P.lead_ex hk
    refine ⟨i, j, ?_, h5⟩
    rcases Nat.lt_or_ge i k with h6 | h6
    · exact h6
    · have : i = k := by omega
      subst this
      exact absurd ((P.lead hk).1 h3) h
theorem met_in {n : Nat} {f : Nat → Nat} {k q : Nat} (P : Pm n f) (hk : k < n) (hl : leadB n f k = true) : ¬ ∃ i j, i < k ∧ itr f j i = itr f q k := by
  rintro ⟨i, j, hi, hj⟩
  obtain ⟨q', hq⟩ := P.back (x := i) (k := j) (by omega)
  rw [hj, ← itr_add] at hq
  have := (P.lead hk).1 hl (q' + q)
  omega

end Go.Proofs.YtgpkhfpejopacabGreatDoor.Gc
