/- Rows of 7 numbers (moves and cuts), and slices of slices that are read. -/
import Derived.Test.YtgpkhfpejopacabGreatDoorZGMore
import Derived.Test.YtgpkhfpejopacabGreatDoorZPCyc
import Derived.Deep.QuietTactic
import Derived.BigQuiet
/- Words in a group of permutations: what commutators make; points that are not moved laid behind; nothing of the program. -/
namespace Go.Proofs.YtgpkhfpejopacabGreatDoor.Gc

/-! ### points that are not moved, laid behind -/
def ext (n : Nat) (l : List Nat) : List Nat := (List.range 7).map fun i => if i < n then l.getD i 0 else i
theorem ext_len (n : Nat) (l : List Nat) : (ext n l).length = 7 := by simp [ext]
theorem ext_at {n : Nat} (l : List Nat) {i : Nat} (hi : i < 7) : (ext n l).getD i 0 = if i < n then l.getD i 0 else i := by simp [ext, hi]
theorem ext_lo {n : Nat} (hn : n ≤ 7) (l : List Nat) {i : Nat} (hi : i < n) : (ext n l).getD i 0 = l.getD i 0 := by rw [ext_at l (by omega), if_pos hi]
theorem ext_hi {n : Nat} (l : List Nat) {i : Nat} (hi : n ≤ i) (h7 : i < 7) : (ext n l).getD i 0 = i := by rw [ext_at l h7, if_neg (by omega)]
theorem ext_lt {n : Nat} {l : List Nat} (h : IsP n l) (hn : n ≤ 7) {i : Nat} (hi : i < 7) : (ext n l).getD i 0 < 7 := by
  rw [ext_at l hi]
  split
  · have := h.at ‹i < n›; omega
  · exact hi
theorem ext_isP {n : Nat} {l : List Nat} (h : IsP n l) (hn : n ≤ 7) : IsP 7 (ext n l) := by
  unfold ext
  refine isP_of ⟨fun i hi => ?_, fun i j hi hj e => ?_⟩
  · split
    · have := h.at ‹i < n›; omega
    · exact hi
  · by_cases h1 : i < n
    · by_cases h2 : j < n
      · rw [if_pos h1, if_pos h2] at e; exact h.pm.inj i j h1 h2 e
      · rw [if_pos h1, if_neg h2] at e; have := h.at h1; omega
    · by_cases h2 : j < n
      · rw [if_neg h1, if_pos h2] at e; have := h.at h2; omega
      · rw [if_neg h1, if_neg h2] at e; exact e
theorem ext_inj {n : Nat} {a b : List Nat} (ha : a.length = n) (hb : b.length = n) (hn : n ≤ 7) (e : ext n a = ext n b) : a = b :=
  isP_ext ha hb fun i hi => by rw [← ext_lo hn a hi, e, ext_lo hn b hi]
theorem ext_id {n : Nat} (_hn : n ≤ 7) : ext n (idL n) = idL 7 :=
  isP_ext (ext_len _ _) (idL_len 7) fun i hi => by
    rw [ext_at _ hi, idL_at hi]
    split
    · exact idL_at ‹_›
    · rfl
theorem ext_then {n : Nat} {a b : List Nat} (ha : IsP n a) (hn : n ≤ 7) : ext n (thenL a b) = thenL (ext n a) (ext n b) :=
  isP_ext (ext_len _ _) (by rw [thenL_len, ext_len]) fun i hi => by
    rw [thenL_at (ext_len n a) hi, ext_at _ hi, ext_at a hi]
    by_cases h : i < n
    · rw [if_pos h, if_pos h, thenL_at ha.len h, ext_lo hn b (ha.at h)]
    · rw [if_neg h, if_neg h, ext_hi b (by omega) hi]
end Go.Proofs.YtgpkhfpejopacabGreatDoor.Gc

/- Cuts of points: joined, kept, the finest; what is primitive; nothing of the program. -/
namespace Go.Proofs.YtgpkhfpejopacabGreatDoor.Gc

/-- A cut: each point has the least of its list. -/
structure Cut (c : Nat → Nat) : Prop where
  le : ∀ i, c i ≤ i
  fix : ∀ i, c (c i) = c i
theorem cut_id : Cut fun i => i := ⟨fun _ => Nat.le_refl _, fun _ => rfl⟩
/-- Two lists made one. -/
def joinC (c : Nat → Nat) (p q : Nat) : Nat → Nat := fun i => if c i = max (c p) (c q) then min (c p) (c q) else c i
theorem joinC_le (c : Nat → Nat) (p q i : Nat) : joinC c p q i ≤ c i := by
  unfold joinC
  split
  · omega
  · exact Nat.le_refl _
theorem Cut.join {c : Nat → Nat} (h : Cut c) (p q : Nat) : Cut (joinC c p q) := by
  have hp := h.fix p
  have hq := h.fix q
  have hlo : c (min (c p) (c q)) = min (c p) (c q) := by rcases Nat.le_total (c p) (c q) with e | e <;> simp [Nat.min_eq_left, Nat.min_eq_right, e, hp, hq]
  refine ⟨fun i => Nat.le_trans (joinC_le c p q i) (h.le i), fun i => ?_⟩
  unfold joinC
  by_cases h1 : c i = max (c p) (c q)
  · rw [if_pos h1, hlo]
    split
    · rfl
    · rfl
  · rw [if_neg h1, h.fix i, if_neg h1]
theorem join_same {c : Nat → Nat} {p q x y : Nat} (h : c x = c y) : joinC c p q x = joinC c p q y := by unfold joinC; rw [h]
theorem join_two (c : Nat → Nat) (p q : Nat) : joinC c p q p = joinC c p q q := by
  unfold joinC
  rcases Nat.le_total (c p) (c q) with e | e
  · rw [Nat.max_eq_right e, Nat.min_eq_left e]
    by_cases h : c p = c q
    · rw [if_pos h, if_pos rfl]
    · rw [if_neg h, if_pos rfl]
  · rw [Nat.max_eq_left e, Nat.min_eq_right e]
    by_cases h : c q = c p
    · rw [if_pos rfl, if_pos h]
    · rw [if_pos rfl, if_neg h]
/-- What is in one list of c is in one list of d. -/
def Fin1 (c : Nat → Nat) (d : Nat → Nat) : Prop := ∀ x y, x < 7 → y < 7 → c x = c y → d x = d y
theorem fin_id (d : Nat → Nat) : Fin1 (fun i => i) d := fun x y _ _ e => by rw [show x = y from e]
theorem Fin1.join {c d : Nat → Nat} (h : Fin1 c d) {p q : Nat} (hp : p < 7) (hq : q < 7) (e : d p = d q) : Fin1 (joinC c p q) d := by
  intro x y hx hy e'
  unfold joinC at e'
  have key : ∀ z, z < 7 → c z = max (c p) (c q) → d z = d p := fun z hz ez => by
    rcases Nat.le_total (c p) (c q) with o | o
    · rw [Nat.max_eq_right o] at ez; rw [h z q hz hq ez, e]
    · rw [Nat.max_eq_left o] at ez; exact h z p hz hp ez
  have key' : ∀ z, z < 7 → c z = min (c p) (c q) → d z = d p := fun z hz ez => by
    rcases Nat.le_total (c p) (c q) with o | o
    · rw [Nat.min_eq_left o] at ez; exact h z p hz hp ez
    · rw [Nat.min_eq_right o] at ez; rw [h z q hz hq ez, e]
  by_cases h1 : c x = max (c p) (c q)
  · rw [if_pos h1] at e'
    by_cases h2 : c y = max (c p) (c q)
    · rw [key x hx h1, key y hy h2]
    · rw [if_neg h2] at e'; rw [key x hx h1, key' y hy e'.symm]
  · rw [if_neg h1] at e'
    by_cases h2 : c y = max (c p) (c q)
    · rw [if_pos h2] at e'; rw [key' x hx e', key y hy h2]
    · rw [if_neg h2] at e'; exact h x y hx hy e'
theorem Fin1.trans {c d e : Nat → Nat} (h : Fin1 c d) (k : Fin1 d e) : Fin1 c e := fun x y hx hy h1 => k x y hx hy (h x y hx hy h1)
/-! ### orbits -/
/-- The finest cut that has each point with those that the makers move it to. -/
structure OrbC (ms : List (List Nat)) (c : Nat → Nat) : Prop where
  cut : Cut c
  two : ∀ m ∈ ms, ∀ x, x < 7 → c x = c (m.getD x 0)
  fin : ∀ d : Nat → Nat, (∀ m ∈ ms, ∀ x, x < 7 → d x = d (m.getD x 0)) → Fin1 c d
theorem OrbC.orb {n : Nat} {ms : List (List Nat)} {c : Nat → Nat} (hn : n ≤ 7) (hm : ∀ m ∈ ms, IsP n m) (h : OrbC (ms.map (ext n)) c) {x y : Nat} (hx : x < n) (hy : y < n) : c x = c y ↔ Orb (Gen n ms) x y := by
  have hG := gen_grp hm
  constructor
  · intro e
    have hd : ∀ m ∈ ms.map (ext n), ∀ z, z < 7 → (fun z => if z < n then repO n (Gen n ms) z else z + n) z = (fun z => if z < n then repO n (Gen n ms) z else z + n) (m.getD z 0) := by
      intro m hm' z hz
      obtain ⟨a, ha, rfl⟩ := List.mem_map.1 hm'
      show (if z < n then repO n (Gen n ms) z else z + n) = if (ext n a).getD z 0 < n then repO n (Gen n ms) ((ext n a).getD z 0) else (ext n a).getD z 0 + n
      by_cases hzn : z < n
      · have h1 := (hm a ha).at hzn
        rw [ext_lo hn a hzn, if_pos hzn, if_pos h1]
        exact (repO_eq hG hzn h1).2 ⟨a, Gen.maker hm ha, rfl⟩
      · rw [ext_hi a (by omega) hz]
    have := h.fin _ hd x y (by omega) (by omega) e
    simp only [if_pos hx, if_pos hy] at this
    exact (repO_eq hG hx hy).1 this
  · rintro ⟨a, ha, rfl⟩
    have key : ∀ a, Gen n ms a → ∀ x, x < n → c x = c (a.getD x 0) := by
      intro a ha
      induction ha with
      | one => intro x hx; rw [idL_at hx]
      | step a m h1 h2 ih =>
        intro x hx
        have pa := h1.isP hm
        rw [thenL_at pa.len hx, ih x hx, h.two (ext n m) (List.mem_map.2 ⟨m, h2, rfl⟩) _ (by have := pa.at hx; omega), ext_lo hn m (pa.at hx)]
    exact key a ha x hx
theorem orb_least {n : Nat} {G : List Nat → Prop} {c : Nat → Nat} (hG : Grp n G) (hc : Cut c) (h : ∀ x y, x < n → y < n → (c x = c y ↔ Orb G x y)) {x : Nat} (hx : x < n) : c x = repO n G x := by
  have h1 := mem_orbL.1 (repO_mem hG hx)
  have h2 : c x < n := Nat.lt_of_le_of_lt (hc.le x) hx
  have h3 : Orb G x (c x) := (h x (c x) hx h2).1 (hc.fix x).symm
  -- the head of a rising list is its least
  have hle : ∀ y ∈ orbL n G x, repO n G x ≤ y := by
    intro y hy
    have hp : (orbL n G x).Pairwise (· < ·) := List.Pairwise.filter _ List.pairwise_lt_range
    unfold repO
    cases he : orbL n G x with
    | nil => rw [he] at hy; cases hy
    | cons a l =>
      rw [he] at hy hp
      rcases List.mem_cons.1 hy with rfl | h'
      · exact Nat.le_refl _
      · exact Nat.le_of_lt ((List.pairwise_cons.1 hp).1 y h')
  have h4 := hle (c x) (mem_orbL.2 ⟨h2, h3⟩)
  have h5 : c x = c (repO n G x) := (h x _ hx h1.1).2 h1.2
  have h6 := hc.le (repO n G x)
  omega

/-! ### what is primitive -/
/-! ### all cuts, one after another -/
/-- So many numbers, all below parts, each of these taken. -/
structure Rgs (pre : List Nat) (parts : Nat) : Prop where
  lt : ∀ x ∈ pre, x < parts
  all : ∀ c, c < parts → c ∈ pre
theorem Rgs.more {pre : List Nat} {parts c : Nat} (h : Rgs pre parts) (hc : c ≤ parts) : Rgs (pre ++ [c]) (if c = parts then parts + 1 else parts) := by
  by_cases e : c = parts
  · subst e
    rw [if_pos rfl]
    refine ⟨fun x hx => ?_, fun x hx => ?_⟩
    · rcases List.mem_append.1 hx with h1 | h1
      · have := h.lt x h1; omega
      · simp at h1; omega
    · rw [List.mem_append]
      by_cases e2 : x = c
      · right; simp [e2]
      · left; exact h.all x (by omega)
  · rw [if_neg e]
    refine ⟨fun x hx => ?_, fun x hx => List.mem_append.2 (.inl (h.all x hx))⟩
    rcases List.mem_append.1 hx with h1 | h1
    · exact h.lt x h1
    · simp at h1; omega
end Go.Proofs.YtgpkhfpejopacabGreatDoor.Gc

namespace Go.Proofs.YtgpkhfpejopacabGreatDoor.Gc
open Go.RowKit

/-- A row of 7 numbers. -/
def mrow (f : Nat → Int) : Array Value := ((List.range 7).map fun j => Value.int .i64 (f j)).toArray
@[simp] theorem mrow_size (f : Nat → Int) : (mrow f).size = 7 := by simp [mrow]
theorem mrow_at (f : Nat → Int) (j : Nat) (h : j < 7) : (mrow f)[j]? = some (.int .i64 (f j)) := by simp [mrow, h]
theorem mrow_set (f : Nat → Int) (i : Nat) (v : Int) : (mrow f).setIfInBounds i (.int .i64 v) = mrow (upd f i v) := by
  apply Array.ext_getElem?
  intro j
  rw [Array.getElem?_setIfInBounds]
  by_cases hj : j < 7
  · rw [mrow_at _ _ hj]
    by_cases e : i = j
    · subst e; rw [if_pos rfl, mrow_at _ _ hj, if_pos (by simpa using hj)]; simp [upd]
    · rw [if_neg e, mrow_at _ _ hj]; simp [upd, Ne.symm e]
  · simp [mrow, hj]; omega
theorem mrow_congr {f g : Nat → Int} (h : ∀ j, j < 7 → f j = g j) : mrow f = mrow g := by
  unfold mrow
  congr 1
  apply List.map_congr_left
  intro j hj
  rw [h j (by simpa using hj)]
theorem mrow_inj {f g : Nat → Int} (h : mrow f = mrow g) {j : Nat} (hj : j < 7) : f j = g j := by
  have h1 := mrow_at f j hj
  rw [h, mrow_at g j hj] at h1
  simpa using h1.symm
/-- Block g holds the row f, laid as type T. -/
def MRow (T : Nat) (w : World) (g : Nat) (f : Nat → Int) : Prop := w.heap[g]? = some (.cells (mrow f) T (0, 0))
theorem MRow.lt {T : Nat} {w : World} {g : Nat} {f : Nat → Int} (h : MRow T w g f) : g < w.heap.size := (Array.getElem?_eq_some_iff.1 h).1
theorem MRow.cell {T : Nat} {w : World} {g : Nat} {f : Nat → Int} (h : MRow T w g f) (j : Nat) (hj : j < 7) : w.cell? ⟨g, j, none⟩ = some (.int .i64 (f j)) := by
  rw [cell_of_row w g j _ _ _ h, mrow_at _ _ hj]
theorem MRow.frozen {T : Nat} {w : World} {g : Nat} {f : Nat → Int} (h : MRow T w g f) (j : Nat) : w.frozen? ⟨g, j, none⟩ = false := frozen_of_row w g j _ _ h
theorem MRow.set {T : Nat} {w : World} {g : Nat} {f : Nat → Int} (h : MRow T w g f) (i : Nat) (v : Int) : MRow T (w.setCell ⟨g, i, none⟩ (.int .i64 v)) g (upd f i v) := by
  unfold MRow
  rw [heap_setCell_same w g i _ _ _ h, mrow_set]
theorem MRow.other {T : Nat} {w : World} {g : Nat} {f : Nat → Int} (h : MRow T w g f) (a : Addr) (v : Value) (hne : g ≠ a.block) : MRow T (w.setCell a v) g f := by
  unfold MRow
  rw [heap_setCell_other w a g v hne]; exact h
theorem MRow.below {T : Nat} {w w' : World} {g : Nat} {f : Nat → Int} (h : MRow T w g f) (hb : Below w.heap.size w w') : MRow T w' g f := (hb.block g h.lt).trans h
theorem MRow.congr {T : Nat} {w : World} {g : Nat} {f f' : Nat → Int} (h : MRow T w g f) (e : ∀ j, j < 7 → f j = f' j) : MRow T w g f' := by
  unfold MRow; rw [← mrow_congr e]; exact h
theorem MRow.whole {T : Nat} {w : World} {g : Nat} {f : Nat → Int} (h : MRow T w g f) (f' : Nat → Int) : MRow T (w.setRow g (mrow f')) g f' := setRow_heap w g _ _ _ _ h
theorem MRow.wother {T : Nat} {w : World} {g g' : Nat} {f : Nat → Int} (h : MRow T w g f) (hne : g ≠ g') (cs : Array Value) : MRow T (w.setRow g' cs) g f := (setRow_other w g' g cs hne).trans h
theorem MRow.made (T : Nat) (w : World) (f : Nat → Int) : MRow T (w.alloc (.cells (mrow f) T)) w.heap.size f := heap_alloc_new w _
theorem MRow.alloc {T : Nat} {w : World} {g : Nat} {f : Nat → Int} (h : MRow T w g f) (o : Obj) : MRow T (w.alloc o) g f := h.below (balloc _ _)
theorem bsetRow {B g : Nat} {w0 w : World} (hb : Below B w0 w) (hBg : B ≤ g) (cs : Array Value) : Below B w0 (w.setRow g cs) :=
  ⟨hb.os, hb.tape, hb.output, by simpa using hb.size, fun k hk => (setRow_other w g k cs (by omega)).trans (hb.block k hk)⟩
theorem mrow_one (f : Nat → Int) : (mrow f).all (·.oneCell') = true := by
  rw [Array.all_eq_true]
  intro i hi
  have h := mrow_at f i (by simpa using hi)
  rw [Array.getElem?_eq_getElem hi] at h
  rw [Option.some.inj h]; rfl
/-- The row of noughts, as it is laid at first. -/
theorem mrow_zero : (#[.int .i64 0, .int .i64 0, .int .i64 0, .int .i64 0, .int .i64 0, .int .i64 0, .int .i64 0] : Array Value) = mrow fun _ => 0 := rfl
theorem MRow.made0 (T : Nat) (w : World) : MRow T (w.alloc (.cells #[.int .i64 0, .int .i64 0, .int .i64 0, .int .i64 0, .int .i64 0, .int .i64 0, .int .i64 0] T)) w.heap.size (fun _ => 0) := by rw [mrow_zero]; exact MRow.made T w _
set_option maxRecDepth 100000 in
theorem und62 : Tryz.prog.underlying 95 = some (.array 7 3) := by kernel_rfl
set_option maxRecDepth 100000 in
theorem inf62 (f : Nat → Int) : (Tryz.prog.info? 95).map (·.size) = some (mrow f).size := by rw [mrow_size]; kernel_rfl
set_option maxRecDepth 100000 in
theorem post_mrow {T : Nat} (ht : Tryz.prog.underlying T = some (.array 7 3)) (hi : ∀ f : Nat → Int, (Tryz.prog.info? T).map (·.size) = some (mrow f).size) {fn : Func} {R : Ending → World → Prop} {a : Act} {w : World} {g : Nat} {f : Nat → Int} (slot : Tmp) (hres : fn.results = #[.cell slot T])
    (hp : a.tmps.getD slot undef = .pointer (some ⟨g, 0, none⟩)) (hr : MRow T w g f) (hd : a.defers = []) (hR : R (.returned (.agg (mrow f))) w) : bodyPost Tryz.prog fn R .ret a w :=
  bodyPost_ret (results_cell_row hres a.tmps w g T (mrow f) (0, 0) _ hp hr ht rfl (hi f)) hd hR
set_option maxRecDepth 100000 in
theorem idx62 (f : Nat → Int) (k : Nat) (h : k < 7) (w : World) : (Instr.index 95 (.agg (mrow f)) (.int .i64 (k : Int))).run Tryz.prog w = .ok (.int .i64 (f k)) w := by
  have : k = 0 ∨ k = 1 ∨ k = 2 ∨ k = 3 ∨ k = 4 ∨ k = 5 ∨ k = 6 := by omega
  rcases this with rfl | rfl | rfl | rfl | rfl | rfl | rfl <;> (change _ = _; kernel_rfl)

/-- A permutation of 7 points as a value. -/
def mv (x : List Nat) : Value := .agg (mrow fun j => (x.getD j 0 : Int))
theorem mv_inj {x y : List Nat} (hx : x.length = 7) (hy : y.length = 7) (h : mv x = mv y) : x = y := by
  unfold mv at h
  simp only [Value.agg.injEq] at h
  exact isP_ext hx hy fun i hi => Int.ofNat.inj (mrow_inj h hi)

/-- A slice that reads as rows of any numbers. -/
def Sls (w : World) (v : Value) (ls : List (List Int)) : Prop :=
  ∃ a cap, v = .slice a ls.length cap ∧ ∀ (i : Nat) (l : List Int), ls[i]? = some l → ∃ b off u, a = some ⟨b, off, none⟩ ∧ w.cell? ⟨b, off + i, none⟩ = some u ∧ Sl w u l
theorem Sls.below {w w' : World} {v : Value} {ls : List (List Int)} (h : Sls w v ls) (hb : Below w.heap.size w w') : Sls w' v ls := by
  obtain ⟨a, cap, rfl, h⟩ := h
  refine ⟨a, cap, rfl, fun i l hl => ?_⟩
  obtain ⟨b, off, u, e, hc, hs⟩ := h i l hl
  exact ⟨b, off, u, e, (hb.cell (p := ⟨b, off + i, none⟩) (block_lt_of_cell hc)).trans hc, hs.below hb⟩
theorem SlSl.sls {w : World} {v : Value} {ls : List (List Nat)} (h : SlSl w v ls) : Sls w v (ls.map fun l => l.map Int.ofNat) := by
  obtain ⟨a, cap, rfl, h⟩ := h
  refine ⟨a, cap, by rw [List.length_map], fun i l hl => ?_⟩
  rw [List.getElem?_map] at hl
  cases he : ls[i]? with
  | none => rw [he] at hl; cases hl
  | some l' =>
    rw [he] at hl
    obtain rfl : l'.map Int.ofNat = l := by simpa using hl
    exact h i l' he
theorem Sls.slsl {w : World} {v : Value} {ls : List (List Nat)} (h : Sls w v (ls.map fun l => l.map Int.ofNat)) : SlSl w v ls := by
  obtain ⟨a, cap, rfl, h⟩ := h
  refine ⟨a, cap, by rw [List.length_map], fun i l hl => h i _ (by rw [List.getElem?_map, hl]; rfl)⟩
theorem Sls.at {w : World} {a : Option Addr} {n c : Nat} {ls : List (List Int)} (h : Sls w (.slice a n c) ls) {i : Nat} {l : List Int} (hl : ls[i]? = some l) : ∃ b off u, a = some ⟨b, off, none⟩ ∧ b < w.heap.size ∧ w.cell? ⟨b, off + i, none⟩ = some u ∧ Sl w u l := by
  obtain ⟨a', cap, e, h'⟩ := h
  cases e
  obtain ⟨b, off, u, h1, h2, h3⟩ := h' i l hl
  exact ⟨b, off, u, h1, by simpa using block_lt_of_cell h2, h2, h3⟩
theorem SlSl.at {w : World} {a : Option Addr} {n c : Nat} {ls : List (List Nat)} (h : SlSl w (.slice a n c) ls) {i : Nat} {l : List Nat} (hl : ls[i]? = some l) : ∃ b off u, a = some ⟨b, off, none⟩ ∧ b < w.heap.size ∧ w.cell? ⟨b, off + i, none⟩ = some u ∧ Sl w u (l.map Int.ofNat) := by
  obtain ⟨a', cap, e, h'⟩ := h
  cases e
  obtain ⟨b, off, u, h1, h2, h3⟩ := h' i l hl
  exact ⟨b, off, u, h1, by simpa using block_lt_of_cell h2, h2, h3⟩
theorem pl_map {n : Nat} {l : List Nat} (h : l.length = n) : pl n (fun i => l.getD i 0) = l.map Int.ofNat := by
  unfold pl
  refine List.ext_getElem (by simp [h]) fun j h1 h2 => ?_
  have hj : j < l.length := by simpa using h2
  simp [hj]

end Go.Proofs.YtgpkhfpejopacabGreatDoor.Gc
