/- A row that grows and shrinks at its end, and knows how often each gap is there: what it is in memory; the walks of newRow and byMuch. -/
import Derived.Test.YtmiinhbffiodmaaDoorG1
import Derived.Laws.EntriesVeiled
namespace Go.Proofs.YtmiinhbffiodmaaDoor
open Go.RowKit Go.Maps

/-- How often a gap is there when these have come. -/
def upT (T : Int × Int → Int) (L : List (Int × Int)) (c : Int × Int) : Int := T c + (L.count c : Int)
theorem upT_nil (T : Int × Int → Int) : upT T [] = T := by funext c; simp [upT]
theorem upT_app (T : Int × Int → Int) (L M : List (Int × Int)) (c : Int × Int) : upT T (L ++ M) c = upT (upT T L) M c := by simp [upT, List.count_append]; omega
/-- Was none of them there, and none twice? -/
def ftB (T : Int × Int → Int) (L : List (Int × Int)) : Nat → Bool
  | 0 => true
  | i + 1 => ftB T L i && (upT T (L.take i) (L.getD i (0, 0)) == 0)
/-- The gaps that a number makes at the end of a list. -/
def nwG (ap : Int → Int → Int × Int) (l : List Int) (x : Int) : List (Int × Int) := (List.range l.length).map fun (i : Nat) => ap ((l.length : Int) - (i : Int)) (x - l.getD i 0)
theorem nwG_len (ap : Int → Int → Int × Int) (l : List Int) (x : Int) : (nwG ap l x).length = l.length := by simp [nwG]
theorem nwG_at (ap : Int → Int → Int × Int) (l : List Int) (x : Int) {i : Nat} (h : i < l.length) : (nwG ap l x).getD i (0, 0) = ap ((l.length : Int) - (i : Int)) (x - l.getD i 0) := by
  simp [nwG, h]
theorem take_upG {L : List (Int × Int)} {i : Nat} (h : i < L.length) : L.take (i + 1) = L.take i ++ [L.getD i (0, 0)] := by
  rw [List.take_add_one, List.getElem?_eq_getElem h, List.getD_eq_getElem?_getD, List.getElem?_eq_getElem h]; rfl
theorem upT_put {T : Int × Int → Int} {L : List (Int × Int)} {i : Nat} (h : i < L.length) : upT T (L.take (i + 1)) (L.getD i (0, 0)) = upT T (L.take i) (L.getD i (0, 0)) + 1 ∧ ∀ d, d ≠ L.getD i (0, 0) → upT T (L.take (i + 1)) d = upT T (L.take i) d := by
  rw [take_upG h]
  refine ⟨?_, fun d hd => ?_⟩
  · unfold upT
    rw [List.count_append, List.count_singleton]
    simp
    omega
  · unfold upT
    rw [List.count_append, List.count_singleton, if_neg (by simpa using fun h => hd h.symm)]
    simp
theorem upT_bd {T : Int × Int → Int} {L : List (Int × Int)} {i : Nat} (c : Int × Int) (hT : 0 ≤ T c ∧ T c ≤ 100000) (hL : L.length ≤ 100) : 0 ≤ upT T (L.take i) c ∧ upT T (L.take i) c ≤ 100100 := by
  have := List.count_le_length (a := c) (l := L.take i)
  rw [List.length_take] at this
  unfold upT
  omega
theorem wfI {x : Int} (h1 : -9223372036854775808 ≤ x) (h2 : x ≤ 9223372036854775807) : (Lit.int .i64 x).wf = true := WalkArith.wf_i64 (by omega)

/-- A function that tells a gap. -/
structure ApF (f : Nat) (ap : Int → Int → Int × Int) : Prop where
  ent : ∀ args w, (callFunc f args).run Tryd.prog w = .ok (.enter f args) w
  call : ∀ (a b : Int) (W : World), Calls Tryd.prog f #[.int .i64 a, .int .i64 b] W fun e w' => e = .returned (gV (ap a b)) ∧ Below W.heap.size W w'
  ok : ∀ a b : Int, -9223372036854775808 ≤ a → a ≤ 9223372036854775807 → -9223372036854775808 ≤ b → b ≤ 9223372036854775807 → GOk (ap a b)
/-- The row in memory: its block g, its map's block m, its function f, its numbers l, how often the gaps are there T. -/
structure RowS (w : World) (base g m f : Nat) (l : List Int) (T : Int × Int → Int) (n : Nat) : Prop where
  box : ∃ v, w.heap[g]? = some (.cells #[v, .map (some m), .func (.func f) #[] #[]] 64 (0, 0)) ∧ w.ownsRow base 3 1 v l.length (l.map (Value.int .i64))
  map : ∃ D : DataW Unit, w.ownsMap Tryd.prog 55 (plainElem Tryd.prog 3) m n D ∧ GapsIs D T
  bg : base ≤ g
  bm : base ≤ m
/-- What is kept: all below the base, and whatever is neither numbers, nor a map, nor the row's own block. -/
structure Kr (base g : Nat) (w w' : World) : Prop where
  os : w'.os = w.os
  tape : w'.tape = w.tape
  output : w'.output = w.output
  size : w.heap.size ≤ w'.heap.size
  low : ∀ k, k < base → w'.heap[k]? = w.heap[k]?
  cells : ∀ k c t fz, w.heap[k]? = some (.cells c t fz) → t ≠ 3 → k ≠ g → w'.heap[k]? = w.heap[k]?
theorem Kr.refl (base g : Nat) (w : World) : Kr base g w w := ⟨rfl, rfl, rfl, Nat.le_refl _, fun _ _ => rfl, fun _ _ _ _ _ _ _ => rfl⟩
theorem Kr.trans {base g : Nat} {a b c : World} (h : Kr base g a b) (k : Kr base g b c) : Kr base g a c :=
  ⟨k.os.trans h.os, k.tape.trans h.tape, k.output.trans h.output, Nat.le_trans h.size k.size, fun j hj => (k.low j hj).trans (h.low j hj), fun j cs t fz e ht hg => by
    have e1 := h.cells j cs t fz e ht hg
    exact (k.cells j cs t fz (e1.trans e) ht hg).trans e1⟩
theorem blk_lt {w : World} {k : Nat} {o : Obj} (h : w.heap[k]? = some o) : k < w.heap.size := (Array.getElem?_eq_some_iff.1 h).1
theorem Kr.of_below {base g : Nat} {w w' : World} (hb : base ≤ w.heap.size) (h : Below w.heap.size w w') : Kr base g w w' :=
  ⟨h.os, h.tape, h.output, h.size, fun k hk => h.block k (by omega), fun k c t fz e _ _ => h.block k (blk_lt e)⟩
theorem Kr.below {base g : Nat} {w w' : World} (h : Kr base g w w') : Below base w w' := ⟨h.os, h.tape, h.output, h.size, h.low⟩
theorem grownB {A B : World} (h : Below A.heap.size A B) : A.grownBy B none := ⟨h.os, h.tape, h.output, h.size, fun k hk _ => h.block k hk⟩
theorem RowS.below {w w' : World} {base g m f n : Nat} {l : List Int} {T : Int × Int → Int} (h : RowS w base g m f l T n) (hb : Below w.heap.size w w') : RowS w' base g m f l T n := by
  obtain ⟨v, h1, h2⟩ := h.box
  obtain ⟨D, h3, h4⟩ := h.map
  exact ⟨⟨v, (hb.block g (blk_lt h1)).trans h1, h2.kept (grownB hb) (Classical.em _)⟩, ⟨D, h3.kept (grownB hb) (by simp), h4⟩, h.bg, h.bm⟩
set_option maxHeartbeats 1000000 in
theorem byMuch_any (a b : Int) (w : World) : Calls Tryd.prog 32 #[.int .i64 a, .int .i64 b] w fun e w' => e = .returned (gV (0, b)) ∧ Below w.heap.size w w' := by
  go_enter Tryd.func32, Tryd.ntmps32
  go_wp2
  exact bodyPost_ret (v := gV (0, b)) (by simp [results, Tryd.results32, go_sem, gV]) rfl ⟨rfl, (Below.refl _ _).alloc (Nat.le_refl _) _⟩
theorem byMuch_ap : ApF 32 (fun _ b => (0, b)) := ⟨fun _ _ => rfl, fun a b W => byMuch_any a b W, fun _ b _ _ h1 h2 => ⟨by show (Lit.int .i64 0).wf = true; decide, wfI h1 h2⟩⟩
set_option maxHeartbeats 1000000 in
theorem newRow_any (f : Nat) (w : World) : Calls Tryd.prog 38 #[.func (.func f) #[] #[]] w fun e w' => e = .returned (.pointer (some ⟨w.heap.size + 1, 0, none⟩)) ∧ RowS w' w.heap.size (w.heap.size + 1) w.heap.size f [] (fun _ => 0) 0 ∧ Below w.heap.size w w' := by
  have hmm := @run_makeMap Tryd.prog
  go_enter Tryd.func38, Tryd.ntmps38
  go_wp2
  go_ret
  have e1 : (w.alloc (.map #[] 0)).heap.size = w.heap.size + 1 := by simp
  have hb1 : Below w.heap.size w (w.alloc (.map #[] 0)) := (Below.refl _ _).alloc (Nat.le_refl _) _
  have hb2 : Below (w.heap.size + 1) (w.alloc (.map #[] 0)) ((w.alloc (.map #[] 0)).alloc (.cells #[.slice none 0 0, .map (some w.heap.size), .func (.func f) #[] #[]] 64)) := by
    have := (Below.refl (w.alloc (.map #[] 0)).heap.size (w.alloc (.map #[] 0))).alloc (Nat.le_refl _) (.cells #[.slice none 0 0, .map (some w.heap.size), .func (.func f) #[] #[]] 64)
    rwa [e1] at this
  refine ⟨rfl, ⟨⟨.slice none 0 0, ?_, World.ownsRow_nil _ _ _ _⟩, ⟨.map [], ?_, GapsIs.empty⟩, by omega, Nat.le_refl _⟩, hb1.trans (hb2.mono (by omega))⟩
  · have := heap_alloc_new (w.alloc (.map #[] 0)) (.cells #[.slice none 0 0, .map (some w.heap.size), .func (.func f) #[] #[]] 64)
    rwa [e1] at this
  · exact (World.ownsMap_made w _ _ _).kept (grownB (by rw [e1]; exact hb2)) (by simp)

theorem step_store_row {P : Program} {ops : Array Oper} {o : Oper} {a : Act} {w : World} {K : Act → World → Prop} {Q : Exit → Act → World → Prop} {E : Prop} (hgd : o.guard = none) (ty : TypeId) (x y : Operand) (ho : o.op = .store ty x y)
    (g : Nat) (cells : Array Value) (hx : a.eval x = .pointer (some ⟨g, 0, none⟩)) (hy : a.eval y = .agg cells)
    (t : TypeId) (old : Array Value) (hg : w.heap[g]? = some (.cells old t (0, 0))) (hi : (P.info? ty).map (·.size) = some cells.size)
    (hold : old.size = cells.size) (h1 : cells.all (·.oneCell') = true)
    (h : K (a.put o.dst undef) (w.setRow g cells)) : if Region.wanted o (yielded ops a.tmps) = true then Oper.wp P o a w K Q else E := by
  have hw : Region.wanted o (yielded ops a.tmps) = true := by simp [Region.wanted, hgd]
  rw [if_pos hw]
  exact wp_store_row ty x y ho g cells hx hy t old hg hi hold h1 h
theorem range_setRow {w : World} {b o g : Nat} {cs : List Value} (h : w.rangeAt b o cs) (hne : b ≠ g) (cells : Array Value) : (w.setRow g cells).rangeAt b o cs := fun j v hv => (World.cell?_of_block (w := w) (a := ⟨b, o + j, none⟩) (setRow_other w g b cells hne)).trans (h j v hv)

end Go.Proofs.YtmiinhbffiodmaaDoor
