/- The walk of slices.Clone at rows. -/
import Derived.Test.YtagpbkcnjogbgaaX3
import Derived.Maps.AppendAt
namespace Go.Proofs.Ytagpbkcnjogbgaa
open Go.RowKit Go.Maps

/-- A row of rows of one's own: the block's cells are slices that read as these rows in an earlier world, or rows of one's own. -/
def OwnR (w0 w : World) (base : Nat) (v : Value) (ls : List (List Int)) : Prop := ∃ us : List Value, w.ownsRow base 22 1 v ls.length us ∧ us.length = ls.length ∧ ∀ (i : Nat) (l : List Int), ls[i]? = some l → ∃ u, us[i]? = some u ∧ (Sl w0 u l ∨ w.ownsRow base 3 1 u l.length (l.map (Value.int .i64)))
theorem OwnR.rw {w0 w : World} {base : Nat} {v : Value} {ls : List (List Int)} (h : OwnR w0 w base v ls) (hb0 : Below w0.heap.size w0 w) : Rw w v ls := by
  obtain ⟨us, ⟨h1, ⟨rfl, h0⟩ | ⟨g, cap, cur, rfl, hb, hg, h2, h3, h4, ht⟩⟩, hl, hu⟩ := h
  · have : ls = [] := List.length_eq_zero_iff.1 h0
    subst this
    exact ⟨none, 0, rfl, fun i l hi => by simp at hi⟩
  · refine ⟨_, cap, rfl, fun i l hi => ?_⟩
    obtain ⟨u, h5, h6⟩ := hu i l hi
    have hil : i < ls.length := (List.getElem?_eq_some_iff.1 hi).1
    refine ⟨g, 0, u, rfl, ?_, h6.elim (fun h => h.below hb0) Sl.owned⟩
    rw [cell_of_row w g _ cur 22 (0, 0) hg, Nat.zero_add, ← Array.getElem?_toList]
    have h7 : (cur.toList.take (ls.length * 1))[i]? = us[i]? := by rw [ht]
    rw [List.getElem?_take, if_pos (by omega)] at h7
    rw [h7, h5]
theorem OwnR.form {w0 w : World} {base : Nat} {v : Value} {ls : List (List Int)} (h : OwnR w0 w base v ls) : ∃ a c, v = .slice a ls.length c := by
  obtain ⟨us, ⟨_, ⟨rfl, h0⟩ | ⟨g, cap, cur, rfl, _⟩⟩, _⟩ := h
  · exact ⟨none, 0, by rw [h0]⟩
  · exact ⟨_, cap, rfl⟩
theorem own_apart {w : World} {base base' n n' : Nat} {e e' : TypeId} {size size' : Nat} {v v' : Value} {xs xs' : List Value} (h : w.ownsRow base e size v n xs) (h' : w.ownsRow base' e' size' v' n' xs') (hne : e ≠ e') (g : Nat) (hg : v.ownBlock = some g) : v'.ownBlock ≠ some g := by
  obtain ⟨_, ⟨rfl, _⟩ | ⟨g1, cap, cur, rfl, _, h7, _⟩⟩ := h
  · cases hg
  · obtain rfl : g1 = g := by simpa [Value.ownBlock] using hg
    obtain ⟨_, ⟨rfl, _⟩ | ⟨g2, cap2, cur2, rfl, _, h8, _⟩⟩ := h'
    · intro e; cases e
    · intro e2
      obtain rfl : g2 = g1 := by simpa [Value.ownBlock] using e2
      rw [h7] at h8
      simp only [Option.some.injEq, Obj.cells.injEq] at h8
      exact hne h8.2.1
theorem orow_grown {w w' : World} {base n : Nat} {e : TypeId} {size : Nat} {v : Value} {xs : List Value} {ob : Option Nat} (h : w.ownsRow base e size v n xs) (hG : w.grownBy w' ob) (hne : ∀ g, v.ownBlock = some g → ob ≠ some g) : w'.ownsRow base e size v n xs := by
  obtain ⟨h3, h4 | ⟨g, cap, cur, rfl, h6, h7, h8⟩⟩ := h
  · exact ⟨h3, .inl h4⟩
  · exact ⟨h3, .inr ⟨g, cap, cur, rfl, h6, (hG.block g (Array.getElem?_eq_some_iff.1 h7).1 (hne g (by simp [Value.ownBlock])).symm).trans h7, h8⟩⟩
theorem OwnR.below {w0 w w' : World} {base : Nat} {v : Value} {ls : List (List Int)} (h : OwnR w0 w base v ls) (hb : Below w.heap.size w w') : OwnR w0 w' base v ls := by
  obtain ⟨us, h1, h2, h3⟩ := h
  exact ⟨us, orow_below h1 hb, h2, fun i l hi => by obtain ⟨u, h4, h5⟩ := h3 i l hi; exact ⟨u, h4, h5.imp id (fun h => orow_below h hb)⟩⟩
theorem und34 : Try.prog.underlying 34 = some (.slice 22) := by kernel_rfl
theorem info22 : ∃ i, Try.prog.info? 22 = some i ∧ i.zero = some (.slice none 0 0) ∧ i.size = 1 ∧ i.bytes = 24 := by
  have h1 : (Try.prog.info? 22).map (·.zero) = some (some (.slice none 0 0)) := by kernel_rfl
  have h2 : (Try.prog.info? 22).map (·.size) = some 1 := by kernel_rfl
  have h3 : (Try.prog.info? 22).map (·.bytes) = some 24 := by kernel_rfl
  cases h : Try.prog.info? 22 with
  | none => rw [h] at h1; cases h1
  | some i =>
    rw [h] at h1 h2 h3
    exact ⟨i, rfl, Option.some.inj h1, Option.some.inj h2, Option.some.inj h3⟩
set_option maxHeartbeats 4000000 in
theorem Clone_any (ls : List (List Int)) (v : Value) (w : World) (hv : Rw w v ls) (hl : ls.length ≤ 8) (hn : v = .slice none 0 0 ∨ ∃ a l c, v = .slice (some a) l c) :
    Calls Try.prog 38 #[v] w fun e w' => (∃ y, e = .returned y ∧ OwnR w w' w.heap.size y ls) ∧ Below w.heap.size w w' := by
  have q34 : ∀ (w : World) (a : Option Addr) (n c : Nat), (binOp .eql 34 (.slice a n c) (.slice none 0 0)).run Try.prog w = .ok (.bool a.isNone) w := fun w a n c => by
    have h := run_equal_slice_nil (P := Try.prog) w 34 22 a n c und34
    simp only [binOp]
    simp [h]
  rcases hn with rfl | ⟨a, l, c, rfl⟩
  · have h0 : ls = [] := by
      obtain ⟨a, cap, e, _⟩ := hv
      cases hls : ls with
      | nil => rfl
      | cons x y => rw [hls] at e; simp at e
    subst h0
    go_enter Try.func38, Try.ntmps38
    go_wp2
    go_ret
    exact ⟨⟨_, rfl, [], World.ownsRow_nil _ _ _ _, rfl, fun i l hi => by simp at hi⟩, Below.refl _ _⟩
  · obtain ⟨a', cap, e, hr⟩ := id hv
    cases e
    obtain ⟨i22, ti, tz0, tz1, tz2⟩ := info22
    have hU : ∀ i : Nat, ∃ u : Value, ∀ l, ls[i]? = some l → w.cell? (a.add i) = some u ∧ Sl w u l := fun i => by
      cases hi : ls[i]? with
      | none => exact ⟨.slice none 0 0, fun l h => by cases h⟩
      | some l =>
        obtain ⟨b, off, u, e, hc, hs⟩ := hr i l hi
        cases e
        exact ⟨u, fun l' h => by cases h; exact ⟨by rw [Addr.add_mid]; exact hc, hs⟩⟩
    obtain ⟨U, hU'⟩ := Classical.axiomOfChoice hU
    have HU : Hid (∀ i l, ls[i]? = some l → w.cell? (a.add i) = some (U i) ∧ Sl w (U i) l) := fun i l h => hU' i l h
    obtain ⟨n, hnn⟩ : ∃ n, n = ls.length := ⟨_, rfl⟩
    have HN : Hid (n = ls.length) := hnn
    rw [← hnn] at hl ⊢
    clear hU hU' hr hnn
    go_enter Try.func38, Try.ntmps38
    go_wp2_with (first
      | (at_builtin; refine wpList_append_own_at _ rfl _ _ 34 rfl w.heap.size 22 i22 (.slice none 0 0) 1 24 und34 ti tz0 tz1 tz2 rfl (by decide) _ 0 [] rfl ?o1 a n _ ((List.range n).map U) rfl (by simp) ?o2 ?o3 ?o4 ?o5 ?o6 ?_)
      | go_in)
    case o1 => exact ⟨rfl, .inr ⟨w.heap.size, 0, #[], rfl, Nat.le_refl _, heap_alloc_new w _, Nat.le_refl _, by unfold maxLen; omega, rfl, rfl⟩⟩
    case o2 =>
      intro j u hj
      have hjn : j < n := by have := (List.getElem?_eq_some_iff.1 hj).1; simpa using this
      obtain ⟨l, hl'⟩ : ∃ l, ls[j]? = some l := ⟨ls[j]'(by rw [← HN.out]; exact hjn), by simp⟩
      have hc := (HU.out j l hl').1
      have hu : U j = u := by simpa [hjn] using hj
      rw [← hu, ← hc]
      exact (balloc w (.cells #[] 22)).cell (block_lt_of_cell hc)
    case o3 =>
      intro u hu
      obtain ⟨j, hj, rfl⟩ := List.mem_map.1 hu
      have hjn := List.mem_range.1 hj
      obtain ⟨l, hl'⟩ : ∃ l, ls[j]? = some l := ⟨ls[j]'(by rw [← HN.out]; exact hjn), by simp⟩
      obtain ⟨a', c', e, _⟩ := (HU.out j l hl').2
      rw [e]; rfl
    case o4 => unfold maxLen; omega
    case o5 => omega
    case o6 => simp
    intro v' w' hO hg _ _
    have hB : Below w.heap.size w w' := (balloc w (.cells #[] 22)).grown hg (by simp) (fun j hj => by cases hj; exact Nat.le_refl _)
    have hR : OwnR w w' w.heap.size v' ls := by
      refine ⟨(List.range n).map U, by rw [← HN.out]; exact hO, by rw [← HN.out]; simp, fun i l hi => ?_⟩
      have hin : i < n := by rw [HN.out]; exact (List.getElem?_eq_some_iff.1 hi).1
      exact ⟨U i, by simp [hin], .inl (HU.out i l hi).2⟩
    have HR : Hid (OwnR w w' w.heap.size v' ls) := hR
    clear hR hO hg q34
    go_wp2
    go_ret
    exact ⟨⟨_, rfl, HR.out⟩, hB⟩
end Go.Proofs.Ytagpbkcnjogbgaa
