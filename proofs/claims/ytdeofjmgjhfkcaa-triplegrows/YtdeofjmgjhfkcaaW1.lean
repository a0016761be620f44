/- Rows of rows, some read in an earlier world and some of one's own; what is appended to them. -/
import Derived.Test.YtdeofjmgjhfkcaaDOw
import Derived.Maps.AppendAt
import Derived.Deep.AppendLies
namespace Go.Proofs.Ytdeofjmgjhfkcaa
open Go.RowKit Go.Maps

def OM (w0 w : World) (base : Nat) (v : Value) (ls : List (List Nat)) : Prop :=
  ∃ vals : List Value, w.ownsRow base 45 1 v ls.length vals ∧ ∀ (i : Nat) (u : Value) (l : List Nat), vals[i]? = some u → ls[i]? = some l → ORow w base u l ∨ Sl w0 u (l.map Int.ofNat)
theorem OM.form {w0 w : World} {base : Nat} {v : Value} {ls : List (List Nat)} (h : OM w0 w base v ls) : ∃ a c, v = .slice a ls.length c := by
  obtain ⟨vals, ⟨_, ⟨rfl, h0⟩ | ⟨g, cap, cur, rfl, _⟩⟩, _⟩ := h
  · exact ⟨none, 0, by rw [h0]⟩
  · exact ⟨_, cap, rfl⟩
theorem OM.more {w0 wa w2 : World} {base : Nat} {v v' u : Value} {ls : List (List Nat)} {l : List Nat} {vals : List Value} (h1 : wa.ownsRow base 45 1 v ls.length vals) (h2 : ∀ (i : Nat) (u : Value) (l : List Nat), vals[i]? = some u → ls[i]? = some l → ORow wa base u l ∨ Sl w0 u (l.map Int.ofNat)) (hu : ORow wa base u l)
    (hown : w2.ownsRow base 45 1 v' (ls.length + 1) (vals ++ [u])) (hgr : wa.grownBy w2 v.ownBlock) : OM w0 w2 base v' (ls ++ [l]) := by
  have key : ∀ {u l}, ORow wa base u l → ORow w2 base u l := by
    rintro u l ⟨h0, hn | ⟨g, cap, cur, e1, hg, k1, k2⟩⟩
    · exact ⟨h0, .inl hn⟩
    · refine ⟨h0, .inr ⟨g, cap, cur, e1, hg, (hgr.block g (Array.getElem?_eq_some_iff.1 k1).1 (fun e => ?_)).trans k1, k2⟩⟩
      obtain ⟨_, ⟨rfl, _⟩ | ⟨g', cap', cur', rfl, _, hg', _⟩⟩ := h1
      · simp [Value.ownBlock] at e
      · have e2 : g = g' := by simpa [Value.ownBlock] using e
        subst e2
        rw [hg'] at k1
        simp at k1
  have hlen : vals.length = ls.length := by have := h1.1; omega
  refine ⟨vals ++ [u], by rw [List.length_append]; exact hown, fun i u' l' e1 e2 => ?_⟩
  by_cases hi : i < vals.length
  · rw [List.getElem?_append_left hi] at e1
    rw [List.getElem?_append_left (by omega)] at e2
    exact (h2 i u' l' e1 e2).imp key id
  · rw [List.getElem?_append_right (by omega)] at e1
    rw [List.getElem?_append_right (by omega)] at e2
    have h0 : i - vals.length = 0 := by
      rcases Nat.eq_zero_or_pos (i - vals.length) with h | h
      · exact h
      · rw [List.getElem?_eq_none (by simp; omega)] at e1; simp at e1
    rw [h0] at e1
    rw [show i - ls.length = 0 by omega] at e2
    simp at e1 e2
    subst e1 e2
    exact .inl (key hu)
/-- A new triple behind the others. -/
theorem om_app3 {w0 w w2 : World} {base n : Nat} {v v' : Value} {L : List (List Nat)} {vals : List Value} {x y z : Nat} {a b c : Int} (h1 : w.ownsRow base 45 1 v L.length vals) (h2 : ∀ (i : Nat) (u : Value) (l : List Nat), vals[i]? = some u → L[i]? = some l → ORow w base u l ∨ Sl w0 u (l.map Int.ofNat)) (hn : L.length = n) (hbs : base ≤ w.heap.size)
    (hown : w2.ownsRow base 45 1 v' (n + 1) (vals ++ [.slice (some ⟨w.heap.size, 0, none⟩) 3 3])) (hgr : ((w.alloc (.cells #[.int .i64 a, .int .i64 b, .int .i64 c] 3)).alloc (.cells #[.slice (some ⟨w.heap.size, 0, none⟩) 3 3] 45)).grownBy w2 v.ownBlock) (ha : a = (x : Int)) (hb : b = (y : Int)) (hc : c = (z : Int)) : OM w0 w2 base v' (L ++ [[x, y, z]]) ∧ Below base w w2 := by
  subst ha hb hc
  have b1 := balloc w (.cells #[.int .i64 (x : Int), .int .i64 (y : Int), .int .i64 (z : Int)] 3)
  have b2 := balloc (w.alloc (.cells #[.int .i64 (x : Int), .int .i64 (y : Int), .int .i64 (z : Int)] 3)) (.cells #[.slice (some ⟨w.heap.size, 0, none⟩) 3 3] 45)
  have hr : ORow (w.alloc (.cells #[.int .i64 (x : Int), .int .i64 (y : Int), .int .i64 (z : Int)] 3)) base (.slice (some ⟨w.heap.size, 0, none⟩) 3 3) [x, y, z] := ⟨rfl, .inr ⟨w.heap.size, 3, _, rfl, hbs, heap_alloc_new w _, Nat.le_refl _, by unfold maxLen; omega, rfl, rfl⟩⟩
  have b12 := Below.next b1 b2
  refine ⟨OM.more (own_keep h1 fun b _ hb => b12.block b hb) (fun i u l e1 e2 => (h2 i u l e1 e2).imp (fun h => h.below b12) id) (hr.below b2) (by rw [hn]; exact hown) hgr, ?_⟩
  exact (b12.mono hbs).grown hgr (by simp; omega) fun k hk => (h1.lt k hk).1
theorem OM.rw {w0 w : World} {base : Nat} {v : Value} {ls : List (List Nat)} (h : OM w0 w base v ls) (hb0 : Below w0.heap.size w0 w) : Rw w v (toZ ls) := by
  obtain ⟨us, h0, hu⟩ := h
  have hlen : us.length = ls.length := by have := h0.1; omega
  have hzl : (toZ ls).length = ls.length := by simp [toZ]
  obtain ⟨h1, ⟨rfl, h0⟩ | ⟨g, cap, cur, rfl, hb, hg, h2, h3, h4, ht⟩⟩ := h0
  · refine ⟨none, 0, by rw [hzl, h0], fun i l hi => ?_⟩
    have := (List.getElem?_eq_some_iff.1 hi).1
    omega
  · refine ⟨_, cap, by rw [hzl], fun i l hi => ?_⟩
    have hil : i < ls.length := by rw [← hzl]; exact (List.getElem?_eq_some_iff.1 hi).1
    obtain ⟨l0, hl0⟩ : ∃ l0, ls[i]? = some l0 := ⟨_, List.getElem?_eq_getElem hil⟩
    obtain ⟨u, h5⟩ : ∃ u, us[i]? = some u := ⟨_, List.getElem?_eq_getElem (by omega)⟩
    have hl : l = l0.map Int.ofNat := by
      unfold toZ at hi
      rw [List.getElem?_map, hl0] at hi
      exact (Option.some.inj hi).symm
    subst hl
    refine ⟨g, 0, u, rfl, ?_, (hu i u l0 h5 hl0).elim ORow.sl (fun h => h.below hb0)⟩
    rw [cell_of_row w g _ cur 45 (0, 0) hg, Nat.zero_add, ← Array.getElem?_toList]
    have h7 : (cur.toList.take (ls.length * 1))[i]? = us[i]? := by rw [ht]
    rw [List.getElem?_take, if_pos (by omega)] at h7
    rw [h7, h5]
/-- What is appended: nothing, or so many cells. -/
def SrcC (w : World) (x : Value) (m : Nat) (news : List Value) : Prop := (∃ c, x = .slice none 0 c ∧ m = 0 ∧ news = []) ∨ ∃ ad c, x = .slice (some ad) m c ∧ news.length = m ∧ ∀ (j : Nat) (u : Value), news[j]? = some u → w.cell? (ad.add j) = some u
theorem run_append_none_c {P : Program} {w : World} (base : Nat) (t ty e : TypeId) (i : TypeInfo) (size c : Nat) (ht : P.underlying t = some (.slice e)) (hi : P.info? e = some i)
    (v : Value) (n : Nat) (xs : List Value) (hown : w.ownsRow base e size v n xs) : (Builtin.append_ #[t, t] ty #[v, .slice none 0 c]).run P w = .ok v w := by
  rcases hown.2 with ⟨rfl, rfl⟩ | ⟨g, cap, cur, rfl, _, _, hnc, _⟩
  · simp [Builtin.append_, run_underlying ht, sizeOf, typeInfo, hi, Builtin.lenOf, Builtin.firstCells]
  · simp [Builtin.append_, run_underlying ht, sizeOf, typeInfo, hi, Builtin.lenOf, Builtin.firstCells, hnc, storeCells]
theorem wpList_append_srcC {P : Program} (w : World) {ops : Array Oper} {rest : List Oper} {o : Oper} {a : Act} {Q : Exit → Act → World → Prop} (hgd : o.guard = none) (s x : Operand) (t : TypeId)
    (ho : o.op = .call { callee := .builtin .append, args := #[s, x], argTypes := #[t, t] })
    (base : Nat) (e : TypeId) (i : TypeInfo) (z : Value) (bytes : Nat) (ht : P.underlying t = some (.slice e)) (hi : P.info? e = some i) (hz : i.zero = some z)
    (hsize : i.size = 1) (hby : i.bytes = bytes) (hzs : z.cells.size = 1)
    (v : Value) (n : Nat) (xs : List Value) (hs : a.eval s = v) (hown : w.ownsRow base e 1 v n xs)
    (vx : Value) (m : Nat) (news : List Value) (hx : a.eval x = vx) (hsrc : SrcC w vx m news) (h1 : ∀ u ∈ news, u.oneCell' = true)
    (h63 : n + m ≤ maxLen) (hbytes : (n + m) * bytes ≤ 140737488355328) (hbase : base ≤ w.heap.size)
    (h : ∀ v' w', w'.ownsRow base e 1 v' (n + m) (xs ++ news) → w.grownBy w' v.ownBlock → wpList P ops Q rest (a.put o.dst v') w') :
    wpList P ops Q (o :: rest) a w := by
  rcases hsrc with ⟨c, rfl, rfl, rfl⟩ | ⟨ad, c, rfl, hl, hnews⟩
  · refine wpList_plain hgd fun K hK => ?_
    have hr := run_append_none_c (P := P) base t o.type e i 1 c ht hi v n xs hown
    unfold Oper.wp execOp
    simp only [ho, resolve, invoke, builtin, Sem.run_bind, Sem.run_pure, Result.andThen_ok, List.map_toArray, List.map_cons, List.map_nil, hs, hx, hr]
    exact hK _ _ (h v w (by rw [List.append_nil]; exact hown) ⟨rfl, rfl, rfl, Nat.le_refl _, fun _ _ _ => rfl⟩)
  · exact wpList_append_own_at w hgd s x t ho base e i z 1 bytes ht hi hz hsize hby hzs (by decide) v n xs hs hown ad m c news hx (by rw [hl, Nat.mul_one]) hnews h1 h63 hbytes hbase fun v' w' h2 h3 _ _ => h v' w' h2 h3
/-- The rows of a design as cells. -/
theorem src_rows {w : World} {u : Value} {B : List (List Nat)} (hu : Rw w u (toZ B)) : ∃ news : List Value, (∀ W, Below w.heap.size w W → SrcC W u B.length news) ∧ (∀ x ∈ news, x.oneCell' = true) ∧ ∀ (i : Nat) (x : Value) (l : List Nat), news[i]? = some x → B[i]? = some l → Sl w x (l.map Int.ofNat) := by
  obtain ⟨a, cap, rfl, hr⟩ := hu
  have hzl : (toZ B).length = B.length := by simp [toZ]
  rw [hzl]
  have hU : ∀ i : Nat, ∃ u : Value, ∀ l, B[i]? = some l → ∃ b off, a = some ⟨b, off, none⟩ ∧ w.cell? ⟨b, off + i, none⟩ = some u ∧ Sl w u (l.map Int.ofNat) := fun i => by
    cases hi : B[i]? with
    | none => exact ⟨.slice none 0 0, fun l h => by cases h⟩
    | some l =>
      obtain ⟨b, off, u, e, hc, hs⟩ := hr i (l.map Int.ofNat) (by unfold toZ; rw [List.getElem?_map, hi]; rfl)
      exact ⟨u, fun l' h => by cases h; exact ⟨b, off, e, hc, hs⟩⟩
  obtain ⟨U, hU'⟩ := Classical.axiomOfChoice hU
  refine ⟨(List.range B.length).map U, fun W hW => ?_, fun x hx => ?_, fun i x l h1 h2 => ?_⟩
  · cases a with
    | none =>
      have h0 : B.length = 0 := by
        rcases Nat.eq_zero_or_pos B.length with h | h
        · exact h
        · obtain ⟨b, off, e, _⟩ := hU' 0 _ (List.getElem?_eq_getElem h)
          cases e
      rw [h0]
      exact .inl ⟨cap, rfl, rfl, rfl⟩
    | some ad =>
      refine .inr ⟨ad, cap, rfl, by simp, fun j u hj => ?_⟩
      have hjn : j < B.length := by have := (List.getElem?_eq_some_iff.1 hj).1; simpa using this
      obtain ⟨b, off, e, hc, _⟩ := hU' j _ (List.getElem?_eq_getElem hjn)
      cases e
      have hu : U j = u := by simpa [hjn] using hj
      rw [Addr.add_mid, ← hu]
      exact (hW.cell (World.block_lt_of_cell? _ _ hc)).trans hc
  · obtain ⟨j, hj, rfl⟩ := List.mem_map.1 hx
    obtain ⟨b, off, _, _, hs⟩ := hU' j _ (List.getElem?_eq_getElem (List.mem_range.1 hj))
    obtain ⟨a', c', e, _⟩ := hs
    rw [e]; rfl
  · have hin : i < B.length := (List.getElem?_eq_some_iff.1 h2).1
    obtain ⟨_, _, _, _, hs⟩ := hU' i l h2
    have hu : U i = x := by simpa [hin] using h1
    rw [← hu]; exact hs
theorem news_row (w : World) (u : Value) : ∀ j v, [u][j]? = some v → (w.alloc (.cells #[u] 45)).cell? ((⟨w.heap.size, 0, none⟩ : Addr).add j) = some v := fun j v hj => by
  match j, hj with
  | 0, hj =>
    simp only [List.getElem?_cons_zero, Option.some.injEq] at hj
    subst hj
    rw [Addr.add_mid, cell_of_row _ _ _ _ _ _ (heap_alloc_new w _)]
    rfl

end Go.Proofs.Ytdeofjmgjhfkcaa
