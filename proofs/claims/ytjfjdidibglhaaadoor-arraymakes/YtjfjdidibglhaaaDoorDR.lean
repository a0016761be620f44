/- Rows of rows of one's own. -/
import Derived.Test.YtjfjdidibglhaaaDoorDOw
import Derived.Deep.AppendLies
namespace Go.Proofs.YtjfjdidibglhaaaDoor.Ar
open Go.RowKit

theorem undR : Tryd.prog.underlying 25 = some (.slice 22) := by kernel_rfl
theorem info40 : ∃ i, Tryd.prog.info? 22 = some i ∧ i.zero = some (.slice none 0 0) ∧ i.size = 1 ∧ i.bytes = 24 := by
  have h1 : (Tryd.prog.info? 22).map (·.zero) = some (some (.slice none 0 0)) := by kernel_rfl
  have h2 : (Tryd.prog.info? 22).map (·.size) = some 1 := by kernel_rfl
  have h3 : (Tryd.prog.info? 22).map (·.bytes) = some 24 := by kernel_rfl
  cases h : Tryd.prog.info? 22 with
  | none => rw [h] at h1; cases h1
  | some i =>
    rw [h] at h1 h2 h3
    exact ⟨i, rfl, Option.some.inj h1, Option.some.inj h2, Option.some.inj h3⟩
/-- A row of numbers of one's own. -/
def OZw (w : World) (base : Nat) (u : Value) (l : List Int) : Prop := w.ownsRow base 3 1 u l.length (l.map (Value.int .i64))
theorem own_keep {w w' : World} {base n : Nat} {e : TypeId} {v : Value} {xs : List Value} (h : w.ownsRow base e 1 v n xs) (k : ∀ b, base ≤ b → b < w.heap.size → w'.heap[b]? = w.heap[b]?) : w'.ownsRow base e 1 v n xs := by
  obtain ⟨h3, h4 | ⟨g, cap, cur, h5, h6, h7, h8⟩⟩ := h
  · exact ⟨h3, .inl h4⟩
  · exact ⟨h3, .inr ⟨g, cap, cur, h5, h6, (k g h6 (Array.getElem?_eq_some_iff.1 h7).1).trans h7, h8⟩⟩
def OZ (w : World) (base : Nat) (v : Value) (ls : List (List Int)) : Prop :=
  ∃ vals : List Value, w.ownsRow base 22 1 v ls.length vals ∧ ∀ (i : Nat) (u : Value) (l : List Int), vals[i]? = some u → ls[i]? = some l → OZw w base u l
theorem OZ.nil (w : World) (base : Nat) : OZ w base (.slice none 0 0) [] := ⟨[], World.ownsRow_nil _ _ _ _, fun i u l h _ => by simp at h⟩
theorem OZ.keep {w w' : World} {base : Nat} {v : Value} {ls : List (List Int)} (h : OZ w base v ls) (k : ∀ b, base ≤ b → b < w.heap.size → w'.heap[b]? = w.heap[b]?) : OZ w' base v ls := by
  obtain ⟨vals, h1, h2⟩ := h
  exact ⟨vals, own_keep h1 k, fun i u l hu hl => own_keep (h2 i u l hu hl) k⟩
theorem OZ.below {w w' : World} {base : Nat} {v : Value} {ls : List (List Int)} (h : OZ w base v ls) (k : Below w.heap.size w w') : OZ w' base v ls := h.keep fun b _ hb => k.block b hb
theorem OZw.below {w w' : World} {base : Nat} {u : Value} {l : List Int} (h : OZw w base u l) (k : Below w.heap.size w w') : OZw w' base u l := own_keep h fun b _ hb => k.block b hb
/-- One row more. -/
theorem OZ.more {wa w2 : World} {base : Nat} {v v' u : Value} {ls : List (List Int)} {l : List Int} {vals : List Value} (h1 : wa.ownsRow base 22 1 v ls.length vals) (h2 : ∀ (i : Nat) (u : Value) (l : List Int), vals[i]? = some u → ls[i]? = some l → OZw wa base u l) (hu : OZw wa base u l)
    (hown : w2.ownsRow base 22 1 v' (ls.length + 1) (vals ++ [u])) (hgr : wa.grownBy w2 v.ownBlock) : OZ w2 base v' (ls ++ [l]) := by
  have key : ∀ {u l}, OZw wa base u l → OZw w2 base u l := by
    rintro u l ⟨h0, hn | ⟨g, cap, cur, e1, hg, k1, k2⟩⟩
    · exact ⟨h0, .inl hn⟩
    · refine ⟨h0, .inr ⟨g, cap, cur, e1, hg, (hgr.block g (Array.getElem?_eq_some_iff.1 k1).1 (fun e => ?_)).trans k1, k2⟩⟩
      obtain ⟨_, ⟨rfl, _⟩ | ⟨g', cap', cur', rfl, _, hg', _⟩⟩ := h1
      · simp [Value.ownBlock] at e
      · have e2 : g = g' := by simpa [Value.ownBlock] using e
        subst e2
        rw [hg'] at k1
        simp at k1
  have hlen : vals.length = ls.length := by have := h1.1; omega
  refine ⟨vals ++ [u], by rw [List.length_append]; exact hown, fun i u' l' e1 e2 => ?_⟩
  by_cases hi : i < vals.length
  · rw [List.getElem?_append_left hi] at e1
    rw [List.getElem?_append_left (by omega)] at e2
    exact key (h2 i u' l' e1 e2)
  · rw [List.getElem?_append_right (by omega)] at e1
    rw [List.getElem?_append_right (by omega)] at e2
    have h0 : i - vals.length = 0 := by
      rcases Nat.eq_zero_or_pos (i - vals.length) with h | h
      · exact h
      · rw [List.getElem?_eq_none (by simp; omega)] at e1; simp at e1
    rw [h0] at e1
    rw [show i - ls.length = 0 by omega] at e2
    simp at e1 e2
    subst e1 e2
    exact key hu
theorem OZw.sl {w : World} {base : Nat} {u : Value} {l : List Int} (h : OZw w base u l) : Sl w u l := Sl.owned h
/-- It reads as rows of numbers. -/
theorem OZ.rw {w : World} {base : Nat} {v : Value} {ls : List (List Int)} (h : OZ w base v ls) : Rw w v ls := by
  obtain ⟨vals, h1, h2⟩ := h
  obtain ⟨h3, ⟨rfl, h4⟩ | ⟨g, cap, cur, rfl, h6, h7, h8, h9, h10, ht⟩⟩ := h1
  · refine ⟨none, 0, by rw [h4], fun i l hl => ?_⟩
    rw [List.length_eq_zero_iff.1 h4] at hl
    simp at hl
  · refine ⟨_, cap, rfl, fun i l hl => ?_⟩
    have hi : i < ls.length := (List.getElem?_eq_some_iff.1 hl).1
    have e2 : (cur.toList.take (ls.length * 1))[i]? = vals[i]? := by rw [ht]
    rw [List.getElem?_take, if_pos (by omega)] at e2
    obtain ⟨u, hu⟩ : ∃ u, vals[i]? = some u := ⟨vals[i]'(by omega), by simp⟩
    refine ⟨g, 0, u, rfl, ?_, (h2 i u l hu hl).sl⟩
    rw [cell_of_row w g _ _ _ _ h7, Nat.zero_add, ← Array.getElem?_toList, e2, hu]
theorem OZ.form {w : World} {base : Nat} {v : Value} {ls : List (List Int)} (h : OZ w base v ls) : ∃ a c, v = .slice a ls.length c := by
  obtain ⟨a, c, e, _⟩ := h.rw
  exact ⟨a, c, e⟩
theorem OZ.low {w : World} {b b' : Nat} {v : Value} {ls : List (List Int)} (h : OZ w b' v ls) (hb : b ≤ b') : OZ w b v ls := by
  have key : ∀ {e : TypeId} {size : Nat} {v : Value} {n : Nat} {xs : List Value}, w.ownsRow b' e size v n xs → w.ownsRow b e size v n xs := by
    intro e size v n xs h
    obtain ⟨h1, h2 | ⟨g, cap, cur, h3, h4, h5⟩⟩ := h
    · exact ⟨h1, .inl h2⟩
    · exact ⟨h1, .inr ⟨g, cap, cur, h3, Nat.le_trans hb h4, h5⟩⟩
  obtain ⟨vals, h1, h2⟩ := h
  exact ⟨vals, key h1, fun i u l hu hl => key (h2 i u l hu hl)⟩
theorem news_row (w : World) (u : Value) (t : TypeId) : ∀ j v, [u][j]? = some v → (w.alloc (.cells #[u] t)).cell? ((⟨w.heap.size, 0, none⟩ : Addr).add j) = some v := fun j v hj => by
  match j, hj with
  | 0, hj =>
    simp only [List.getElem?_cons_zero, Option.some.injEq] at hj
    subst hj
    rw [Addr.add_mid, cell_of_row _ _ _ _ _ _ (heap_alloc_new w _)]
    rfl
/-- Rows that are read, each with its room. -/
def RwR (w : World) (v : Value) (ls : List (List Int)) : Prop := ∃ a cap, v = .slice a ls.length cap ∧ ∀ i l, ls[i]? = some l → ∃ b off u, a = some ⟨b, off, none⟩ ∧ w.cell? ⟨b, off + i, none⟩ = some u ∧ Sl w u l ∧ ∀ a n c, u = .slice a n c → n ≤ c
theorem RwR.rw {w : World} {v : Value} {ls : List (List Int)} (h : RwR w v ls) : Rw w v ls := by
  obtain ⟨a, cap, e, h⟩ := h
  refine ⟨a, cap, e, fun i l hl => ?_⟩
  obtain ⟨b, off, u, h1, h2, h3, _⟩ := h i l hl
  exact ⟨b, off, u, h1, h2, h3⟩
theorem RwR.below {w w' : World} {v : Value} {ls : List (List Int)} (h : RwR w v ls) (hb : Below w.heap.size w w') : RwR w' v ls := by
  obtain ⟨a, cap, rfl, h⟩ := h
  refine ⟨a, cap, rfl, fun i l hl => ?_⟩
  obtain ⟨b, off, u, e, hc, hS, hr⟩ := h i l hl
  exact ⟨b, off, u, e, (hb.cell (World.block_lt_of_cell? _ _ hc)).trans hc, hS.below hb, hr⟩
theorem RwR.at {w : World} {v : Value} {ls : List (List Int)} (h : RwR w v ls) {i : Nat} {l : List Int} (hi : ls[i]? = some l) {a : Option Addr} {n cap : Nat} (e : v = .slice a n cap) (hl : 0 < l.length) : ∃ b off b2 o2 c2, a = some ⟨b, off, none⟩ ∧ w.cell? ⟨b, off + i, none⟩ = some (.slice (some ⟨b2, o2, none⟩) l.length c2) ∧ Sl w (.slice (some ⟨b2, o2, none⟩) l.length c2) l ∧ l.length ≤ c2 := by
  obtain ⟨a', cap', e', hr⟩ := h
  rw [e] at e'
  simp only [Value.slice.injEq] at e'
  obtain ⟨rfl, _, _⟩ := e'
  obtain ⟨b, off, u, h1, h2, h3, h4⟩ := hr i l hi
  obtain ⟨b2, o2, c2, rfl, _, _⟩ := h3.form rfl hl
  exact ⟨b, off, b2, o2, c2, h1, h2, h3, h4 _ _ _ rfl⟩
end Go.Proofs.YtjfjdidibglhaaaDoor.Ar
