/- Words and rows as they lie. -/
import Derived.Test.YtmogmkdcplgfjaaP14
import Derived.Test.YtmogmkdcplgfjaaDL
import Derived.Test.YtmogmkdcplgfjaaDOw
import Derived.Laws.MakeOwn
import Derived.Deep.RegionLaw
import Derived.Deep.QuietTactic
import Derived.BigQuiet
namespace Go.Proofs.Ytmogmkdcplgfjaa
open Go.RowKit


theorem nat_at (s : List Nat) (a : Nat) : (s.map Int.ofNat).getD a 0 = ((s.getD a 0 : Nat) : Int) := by
  rw [List.getD_eq_getElem?_getD, List.getD_eq_getElem?_getD, List.getElem?_map]
  cases s[a]? <;> rfl
/-- A word as it lies, with room. -/
def Wd (w : World) (v : Value) (M : List Nat) : Prop := ∃ (a : Option Addr) (c : Nat), v = .slice a M.length c ∧ M.length ≤ c ∧ ∀ j, j < M.length → ∃ b o, a = some ⟨b, o, none⟩ ∧ w.cell? ⟨b, o + j, none⟩ = some (.int .i64 ((M.getD j 0 : Nat) : Int))
theorem Wd.below {w w' : World} {v : Value} {M : List Nat} (h : Wd w v M) (hb : Below w.heap.size w w') : Wd w' v M := by
  obtain ⟨a, c, e, h0, h⟩ := h
  refine ⟨a, c, e, h0, fun j hj => ?_⟩
  obtain ⟨b, o, e1, e2⟩ := h j hj
  exact ⟨b, o, e1, (hb.cell (World.block_lt_of_cell? _ _ e2)).trans e2⟩
theorem Wd.sl {w : World} {v : Value} {M : List Nat} (h : Wd w v M) : Sl w v (M.map Int.ofNat) := by
  obtain ⟨a, c, e, _, h⟩ := h
  refine ⟨a, c, by rw [List.length_map]; exact e, fun j hj => ?_⟩
  obtain ⟨b, o, e1, e2⟩ := h j (by simpa using hj)
  exact ⟨b, o, e1, by rw [nat_at]; exact e2⟩
theorem Wd.drop {w : World} {b o n c : Nat} {M : List Nat} (h : Wd w (.slice (some ⟨b, o, none⟩) n c) M) {i : Nat} (hi : i ≤ n) : Wd w (.slice (some ⟨b, o + i, none⟩) (n - i) (c - i)) (M.drop i) := by
  obtain ⟨a', c', e, h0, hk⟩ := h
  cases e
  refine ⟨_, _, by rw [List.length_drop], by rw [List.length_drop]; omega, fun j hj => ?_⟩
  rw [List.length_drop] at hj
  obtain ⟨b', o', e, hc⟩ := hk (i + j) (by omega)
  cases e
  refine ⟨b, o + i, rfl, ?_⟩
  rw [Nat.add_assoc, hc, List.getD_eq_getElem?_getD, List.getD_eq_getElem?_getD, List.getElem?_drop]
theorem Wd.take {w : World} {b o n c : Nat} {M : List Nat} (h : Wd w (.slice (some ⟨b, o, none⟩) n c) M) {i : Nat} (hi : i ≤ n) : Wd w (.slice (some ⟨b, o, none⟩) i c) (M.take i) := by
  obtain ⟨a', c', e, h0, hk⟩ := h
  cases e
  have hl : (M.take i).length = i := by rw [List.length_take]; omega
  refine ⟨_, c, by rw [hl], by rw [hl]; omega, fun j hj => ?_⟩
  rw [hl] at hj
  obtain ⟨b', o', e, hc⟩ := hk j (by omega)
  cases e
  refine ⟨b, o, rfl, ?_⟩
  rw [hc, List.getD_eq_getElem?_getD, List.getD_eq_getElem?_getD, List.getElem?_take, if_pos hj]
theorem Wd.some {w : World} {v : Value} {M : List Nat} (h : Wd w v M) (h0 : 0 < M.length) : ∃ b o c, v = .slice (some ⟨b, o, none⟩) M.length c ∧ M.length ≤ c := by
  obtain ⟨a, c, rfl, h1, hk⟩ := h
  obtain ⟨b, o, rfl, _⟩ := hk 0 h0
  exact ⟨b, o, c, rfl, h1⟩

theorem own_form {w : World} {base n : Nat} {e : TypeId} {v : Value} {xs : List Value} (h : w.ownsRow base e 1 v n xs) : ∃ a c, v = .slice a n c := by
  obtain ⟨_, ⟨rfl, rfl⟩ | ⟨g, cap, cur, rfl, _⟩⟩ := h
  · exact ⟨_, _, rfl⟩
  · exact ⟨_, _, rfl⟩
/-- The numbers of a row of one's own. -/
def nz (l : List Nat) : List Value := (l.map Int.ofNat).map (Value.int .i64)
theorem nz_more (l : List Nat) (x : Nat) : nz (l ++ [x]) = nz l ++ [.int .i64 (x : Int)] := by simp [nz]
def slLen : Value → Nat
  | .slice _ n _ => n
  | _ => 0

/-- An append onto a row of the call's own, as one step of a region that draws its order. -/
theorem step_append_own {P : Program} {ops : Array Oper} {o : Oper} {a : Act} {w : World} {K : Act → World → Prop} {Q : Exit → Act → World → Prop} {E : Prop}
    (hg : o.guard = none) (s x : Operand) (t : TypeId) (hop : o.op = Op.call { callee := Callee.builtin Builtin.append, args := #[s, x], argTypes := #[t, t] })
    (base : Nat) (e : TypeId) (i : TypeInfo) (z : Value) (size bytes : Nat) (h1 : P.underlying t = some (.slice e)) (h2 : P.info? e = some i) (h3 : i.zero = some z) (h4 : i.size = size) (h5 : i.bytes = bytes) (h6 : z.cells.size = size) (h7 : 0 < size)
    (v : Value) (k : Nat) (xs : List Value) (hs : a.eval s = v) (hown : w.ownsRow base e size v k xs) (ad : Addr) (m c : Nat) (news : List Value) (hx : a.eval x = .slice (some ad) m c) (hn : news.length = m * size)
    (hc : ∀ j u, news[j]? = some u → w.cell? (ad.add j) = some u) (h1c : ∀ u ∈ news, u.oneCell' = true) (b1 : k + m ≤ maxLen) (b2 : (k + m) * bytes ≤ 140737488355328) (b3 : base ≤ w.heap.size)
    (hK : ∀ v' w', w'.ownsRow base e size v' (k + m) (xs ++ news) → w.grownBy w' v.ownBlock → K (a.put o.dst v') w') :
    if Region.wanted o (yielded ops a.tmps) = true then Oper.wp P o a w K Q else E := by
  have hw : Region.wanted o (yielded ops a.tmps) = true := by simp [Region.wanted, hg]
  rw [if_pos hw]
  obtain ⟨v', w', hrun, r1, r2, _⟩ := run_append_own (P := P) w base t o.type e i z size bytes h1 h2 h3 h4 h5 h6 h7 v k xs hown ad m c news hn hc h1c b1 b2 b3
  unfold Oper.wp
  unfold execOp
  simp only [hop, resolve, invoke, builtin, Sem.run_bind, Sem.run_pure, Result.andThen_ok, List.map_toArray, List.map_cons, List.map_nil, hs, hx, hrun]
  exact hK _ _ r1 r2
theorem newCell (w : World) (x : Int) : ∀ j u, ([.int .i64 x] : List Value)[j]? = some u → (w.alloc (.cells #[.int .i64 x] 3)).drew.cell? ((⟨w.heap.size, 0, none⟩ : Addr).add j) = some u := fun j u hj => by
  match j, hj with
  | 0, hj => simp at hj; subst hj; simp [Addr.add]
theorem own_cells {w : World} {base n : Nat} {v : Value} {L : List Nat} (h : w.ownsRow base 3 1 v n (nz L)) (h0 : 0 < n) : ∃ g cap, v = .slice (some ⟨g, 0, none⟩) n cap ∧ base ≤ g ∧ n = L.length ∧ ∀ j, j < n → w.cell? ⟨g, j, none⟩ = some (.int .i64 ((L.getD j 0 : Nat) : Int)) := by
  have hl : n = L.length := by have := h.1; simp [nz] at this; omega
  obtain ⟨g, cap, rfl, hb, cur, hg, hc⟩ := Own.of (l := L.map Int.ofNat) h h0
  exact ⟨g, cap, rfl, hb, hl, fun j hj => by rw [cell_of_row _ _ _ _ _ _ hg, hc j hj]; show some (Value.int .i64 ((L.map Int.ofNat).getD j 0)) = _; rw [nat_at]⟩

def updV {T : Type} (f : Nat → T) (i : Nat) (v : T) : Nat → T := fun j => if j = i then v else f j
/-- Block g is a row of one's own whose first n values are f's. -/
def OwV {T : Type} (t : TypeId) (en : T → Value) (w : World) (g n : Nat) (f : Nat → T) : Prop := ∃ cur, w.heap[g]? = some (.cells cur t (0, 0)) ∧ ∀ j, j < n → cur[j]? = some (en (f j))
theorem OwV.lt {T : Type} {t : TypeId} {en : T → Value} {w : World} {g n : Nat} {f : Nat → T} (h : OwV t en w g n f) : g < w.heap.size := by
  obtain ⟨cur, h, _⟩ := h
  exact (Array.getElem?_eq_some_iff.1 h).1
theorem OwV.cell {T : Type} {t : TypeId} {en : T → Value} {w : World} {g n : Nat} {f : Nat → T} (h : OwV t en w g n f) (j : Nat) (hj : j < n) : w.cell? ⟨g, j, none⟩ = some (en (f j)) := by
  obtain ⟨cur, h, hc⟩ := h
  rw [cell_of_row w g j _ _ _ h, hc j hj]
theorem OwV.frozen {T : Type} {t : TypeId} {en : T → Value} {w : World} {g n : Nat} {f : Nat → T} (h : OwV t en w g n f) (j : Nat) : w.frozen? ⟨g, j, none⟩ = false := by
  obtain ⟨cur, h, _⟩ := h
  exact frozen_of_row w g j _ _ h
theorem OwV.set {T : Type} {t : TypeId} {en : T → Value} {w : World} {g n : Nat} {f : Nat → T} (h : OwV t en w g n f) (i : Nat) (v : T) : OwV t en (w.setCell ⟨g, i, none⟩ (en v)) g n (updV f i v) := by
  obtain ⟨cur, h, hc⟩ := h
  refine ⟨_, heap_setCell_same w g i _ _ _ h, fun j hj => ?_⟩
  have hcj := hc j hj
  have hlt : j < cur.size := (Array.getElem?_eq_some_iff.1 hcj).1
  rw [Array.getElem?_setIfInBounds]
  by_cases e : i = j
  · subst e; rw [if_pos rfl, if_pos hlt]; simp [updV]
  · rw [if_neg e, hcj]; simp [updV, Ne.symm e]
theorem OwV.below {T : Type} {t : TypeId} {en : T → Value} {w w' : World} {g n : Nat} {f : Nat → T} (h : OwV t en w g n f) (hb : Below w.heap.size w w') : OwV t en w' g n f := by
  have hl := h.lt
  obtain ⟨cur, h, hc⟩ := h
  exact ⟨cur, (hb.block g hl).trans h, hc⟩
theorem OwV.congr {T : Type} {t : TypeId} {en : T → Value} {w : World} {g n : Nat} {f f' : Nat → T} (h : OwV t en w g n f) (e : ∀ j, j < n → f j = f' j) : OwV t en w g n f' := by
  obtain ⟨cur, h, hc⟩ := h
  exact ⟨cur, h, fun j hj => by rw [hc j hj, e j hj]⟩
theorem OwV.other {T : Type} {t : TypeId} {en : T → Value} {w : World} {g n : Nat} {f : Nat → T} (h : OwV t en w g n f) (a : Addr) (v : Value) (hne : g ≠ a.block) : OwV t en (w.setCell a v) g n f := by
  obtain ⟨cur, h, hc⟩ := h
  exact ⟨cur, (heap_setCell_other w a g v hne).trans h, hc⟩
theorem OwV.made {T : Type} {t : TypeId} {en : T → Value} (n : Nat) (w : World) (f : Nat → T) (z : Value) (hz : ∀ {j}, z = en (f j)) : OwV t en (w.alloc (.cells (madeCells #[z] n) t)) w.heap.size n f :=
  ⟨_, heap_alloc_new w _, fun j hj => by simp only [madeCells, Array.getElem?_map, Array.getElem?_range, hj, if_true, Option.map_some]; rw [← hz]; simp [Nat.mod_one]⟩
theorem OwV.low {T : Type} {t : TypeId} {en : T → Value} {w w' : World} {B g n : Nat} {f : Nat → T} (h : OwV t en w g n f) (hb : Below B w w') (hg : g < B) : OwV t en w' g n f := by
  obtain ⟨cur, h, hc⟩ := h
  exact ⟨cur, (hb.block g hg).trans h, hc⟩
theorem newCellZ (w : World) (n : Nat) (x : Int) (h : n = w.heap.size) : (w.alloc (.cells #[.int .i64 x] 3)).cell? ⟨n, 0, none⟩ = some (.int .i64 x) := by subst h; simp
theorem own_up {w : World} {b b' : Nat} {e : TypeId} {size : Nat} {v : Value} {n : Nat} {xs : List Value} (h : w.ownsRow b e size v n xs) (hb : b' ≤ b) : w.ownsRow b' e size v n xs := by
  obtain ⟨h1, h2⟩ := h
  refine ⟨h1, ?_⟩
  rcases h2 with h2 | ⟨g, cap, cur, r1, r2, r3⟩
  · exact .inl h2
  · exact .inr ⟨g, cap, cur, r1, by omega, r3⟩
theorem und44 : Try.prog.underlying 51 = some (.slice 4) := by kernel_rfl
theorem info4 : ∃ i, Try.prog.info? 4 = some i ∧ i.zero = some (.bool false) ∧ i.size = 1 ∧ i.bytes = 1 := by
  refine ⟨_, rfl, ?_, ?_, ?_⟩ <;> kernel_rfl
theorem run_makeB (n : Nat) (hn : n ≤ 100000) (w : World) : (Instr.makeSlice 51 (.int .i64 (n : Int)) (.int .i64 (n : Int))).run Try.prog w = .ok (.slice (some ⟨w.heap.size, 0, none⟩) n n) (w.alloc (.cells (madeCells #[.bool false] n) 4)) := by
  obtain ⟨i4, hi, hz0, hz1, hz2⟩ := info4
  have h := run_make (P := Try.prog) w 51 4 i4 (.bool false) und44 hi hz0 .i64 .i64 n n (by omega) (by omega) (by rw [hz2]; omega) (by omega)
  simpa [hz1, Value.cells] using h

/-- A word as it comes: a row of numbers, with room. -/
def Sw (w : World) (v : Value) (l : List Int) : Prop := Sl w v l ∧ (∀ a n c, v = .slice a n c → n ≤ c) ∧ l.length ≤ maxLen
theorem Sw.below {w w' : World} {v : Value} {l : List Int} (h : Sw w v l) (hb : Below w.heap.size w w') : Sw w' v l := ⟨h.1.below hb, h.2⟩
theorem Wd.form {w : World} {v : Value} {M : List Nat} (h : Wd w v M) : ∃ a m c, v = .slice a m c := by
  obtain ⟨a, c, e, _⟩ := h
  exact ⟨a, _, c, e⟩
theorem Wd.len {w : World} {v : Value} {M : List Nat} (h : Wd w v M) {m : Nat} (e : M.length = m) : ∃ a c, v = .slice a m c := by
  obtain ⟨a, c, rfl, _⟩ := h
  exact ⟨a, c, by rw [e]⟩
theorem Wd.cellAt {w : World} {b o n c : Nat} {M : List Nat} (h : Wd w (.slice (Option.some ⟨b, o, none⟩) n c) M) {j : Nat} (hj : j < n) : w.cell? ⟨b, o + j, none⟩ = Option.some (Value.int .i64 ((M.getD j 0 : Nat) : Int)) := by
  obtain ⟨a', c', e, -, hcell⟩ := h
  cases e
  obtain ⟨b', o', e, hci⟩ := hcell j hj
  cases e
  exact hci
/-- Two rows of the same numbers. -/
theorem same_any {M : List Nat} (hM : M.length ≤ 4096) {x y : Value} {W : World} (hx : Wd W x M) (hy : Wd W y M) : Calls Try.prog 14 #[x, y] W fun e w' => e = .returned (.bool true) ∧ Below W.heap.size W w' :=
  (ints_any _ _ x y W hx.sl hy.sl (by rw [List.length_map]; unfold maxLen; omega) (by rw [List.length_map]; unfold maxLen; omega)).mono fun e w' ⟨b, h1, h2, h3⟩ => ⟨by rw [h1, h2.2 rfl], h3⟩
theorem Wd.news {w : World} {b o n c : Nat} {M : List Nat} (h : Wd w (.slice (Option.some ⟨b, o, none⟩) n c) M) : ∀ j u, (nz M)[j]? = Option.some u → w.cell? ((⟨b, o, none⟩ : Addr).add j) = Option.some u := fun j u hj => by
  obtain ⟨a', c', e, -, hcell⟩ := h
  cases e
  have hjl : j < M.length := by
    have := (List.getElem?_eq_some_iff.1 hj).1
    simpa [nz] using this
  obtain ⟨b', o', e, hci⟩ := hcell j hjl
  cases e
  have e2 : ((⟨b, o, none⟩ : Addr).add j) = ⟨b, o + j, none⟩ := by simp [Addr.add]
  rw [e2, hci, ← hj]
  simp [nz, hjl]
theorem nz_one (L : List Nat) : ∀ u ∈ nz L, u.oneCell' = true := fun u hu => by
  obtain ⟨x, -, rfl⟩ := List.mem_map.1 hu
  rfl
theorem ORow.own {w : World} {base : Nat} {v : Value} {M : List Nat} (h : ORow w base v M) : Wd w v M := by
  rcases Nat.eq_zero_or_pos M.length with h0 | h0
  · have e : M = [] := List.length_eq_zero_iff.1 h0
    subst e
    obtain ⟨a, c, rfl⟩ := own_form h
    exact ⟨a, c, rfl, Nat.zero_le _, fun j hj => absurd hj (Nat.not_lt_zero j)⟩
  · obtain ⟨g, cap, rfl, -, -, hc⟩ := own_cells (L := M) h h0
    refine ⟨_, cap, rfl, ?_, fun j hj => ⟨g, 0, rfl, by rw [Nat.zero_add]; exact hc j hj⟩⟩
    obtain ⟨-, h2 | ⟨g', cap', cur, h3, -, -, h5, -⟩⟩ := h
    · cases h2.1
    · cases h3
      omega
theorem Wd.nil (w : World) : Wd w (.slice none 0 0) [] := ⟨none, 0, rfl, Nat.le_refl _, fun _ hj => absurd hj (Nat.not_lt_zero _)⟩

def nV (x : Nat) : Value := .int .i64 (x : Int)
/-- A made row of one's own is a word. -/
theorem OwV.wd {w : World} {g n : Nat} {f : Nat → Nat} (h : OwV 3 nV w g n f) {M : List Nat} {m c : Nat} (hm : M.length = m) (hmn : m ≤ n) (hc : m ≤ c) (e : ∀ j, j < m → M.getD j 0 = f j) : Wd w (.slice (some ⟨g, 0, none⟩) m c) M := by
  subst hm
  refine ⟨_, c, rfl, hc, fun j hj => ⟨g, 0, rfl, ?_⟩⟩
  rw [Nat.zero_add, h.cell j (by omega), e j hj]; rfl
theorem run_makeN (n : Nat) (hn : n ≤ 100000) (w : World) : (Instr.makeSlice 22 (.int .i64 (n : Int)) (.int .i64 (n : Int))).run Try.prog w = .ok (.slice (some ⟨w.heap.size, 0, none⟩) n n) (w.alloc (.cells (madeCells #[.int .i64 0] n) 3)) := by
  obtain ⟨i3, hi, hz0, hz1, hz2⟩ := info3
  have h := run_make (P := Try.prog) w 22 3 i3 (.int .i64 0) und22 hi hz0 .i64 .i64 n n (by omega) (by omega) (by rw [hz2]; omega) (by omega)
  simpa [hz1, Value.cells] using h
end Go.Proofs.Ytmogmkdcplgfjaa
