/- Small facts that the walks share: slices that are read, rows of the call's own, rows of truths. -/
import Derived.Test.YtcjkcgfohmhbcabDoorProg
import Derived.WalkKit
import Derived.WalkSpells
import Derived.WalkLawsBesides
/- Permutations of few points as functions: going on, coming round, cycles; nothing of the program. -/
namespace Go.Proofs.YtcjkcgfohmhbcabDoor

theorem least_ex {p : Nat → Prop} (h : ∃ k, p k) : ∃ k, p k ∧ ∀ j, j < k → ¬ p j := by
  obtain ⟨k, hk⟩ := h
  induction k using Nat.strongRecOn with
  | _ k ih =>
    by_cases hj : ∃ j, j < k ∧ p j
    · obtain ⟨j, h1, h2⟩ := hj; exact ih j h1 h2
    · exact ⟨k, hk, fun j h1 h2 => hj ⟨j, h1, h2⟩⟩

/-- n points, each moved to one of them, no two to the same. -/
structure Pm (n : Nat) (f : Nat → Nat) : Prop where
  lt : ∀ i, i < n → f i < n
  inj : ∀ i j, i < n → j < n → f i = f j → i = j

def itr (f : Nat → Nat) : Nat → Nat → Nat
  | 0, x => x
  | k + 1, x => f (itr f k x)
theorem itr_add (f : Nat → Nat) (j k x : Nat) : itr f (j + k) x = itr f j (itr f k x) := by
  induction j with
  | zero => rw [Nat.zero_add]; rfl
  | succ j ih => rw [Nat.succ_add]; show f (itr f (j + k) x) = f (itr f j (itr f k x)); rw [ih]
theorem Pm.itr_lt {n : Nat} {f : Nat → Nat} (P : Pm n f) {x : Nat} (hx : x < n) (k : Nat) : itr f k x < n := by
  induction k with
  | zero => exact hx
  | succ k ih => exact P.lt _ ih
theorem Pm.itr_inj {n : Nat} {f : Nat → Nat} (P : Pm n f) {x y : Nat} (hx : x < n) (hy : y < n) {k : Nat} (h : itr f k x = itr f k y) : x = y := by
  induction k with
  | zero => exact h
  | succ k ih => exact ih (P.inj _ _ (P.itr_lt hx k) (P.itr_lt hy k) h)
theorem Pm.pow {n : Nat} {f : Nat → Nat} (P : Pm n f) (k : Nat) : Pm n (itr f k) := ⟨fun _ h => P.itr_lt h k, fun _ _ h1 h2 h => P.itr_inj h1 h2 h⟩
theorem Pm.comp {n : Nat} {f g : Nat → Nat} (P : Pm n f) (Q : Pm n g) : Pm n (fun x => g (f x)) :=
  ⟨fun i h => Q.lt _ (P.lt i h), fun i j h1 h2 h => P.inj i j h1 h2 (Q.inj _ _ (P.lt i h1) (P.lt j h2) h)⟩
theorem Pm.id (n : Nat) : Pm n (fun x => x) := ⟨fun _ h => h, fun _ _ _ _ h => h⟩
theorem Pm.congr {n : Nat} {f g : Nat → Nat} (P : Pm n f) (e : ∀ i, i < n → f i = g i) : Pm n g :=
  ⟨fun i h => by rw [← e i h]; exact P.lt i h, fun i j h1 h2 h => P.inj i j h1 h2 (by rw [e i h1, e j h2]; exact h)⟩
/-! ### Coming round -/
theorem Pm.round {n : Nat} {f : Nat → Nat} (P : Pm n f) {x : Nat} (hx : x < n) : ∃ k, 1 ≤ k ∧ k ≤ n ∧ itr f k x = x := by
  refine Classical.byContradiction fun hno => ?_
  have hne : ∀ i j, i < j → j ≤ n → itr f i x ≠ itr f j x := by
    intro i j h1 h2 h
    refine hno ⟨j - i, by omega, by omega, ?_⟩
    have h3 : itr f i (itr f (j - i) x) = itr f i x := by rw [← itr_add, show i + (j - i) = j by omega, h]
    exact P.itr_inj (P.itr_lt hx _) hx h3
  have hn : ((List.range (n + 1)).map fun k => itr f k x).Nodup := by
    rw [List.nodup_iff_pairwise_ne, List.pairwise_map]
    refine List.Pairwise.imp_of_mem (fun {a b} ha hb hab => ?_) List.pairwise_lt_range
    have := List.mem_range.1 hb
    exact hne a b hab (by omega)
  have hsub : ((List.range (n + 1)).map fun k => itr f k x) ⊆ List.range n := by
    intro y hy
    obtain ⟨k, _, rfl⟩ := List.mem_map.1 hy
    exact List.mem_range.2 (P.itr_lt hx k)
  have := hn.length_le_of_subset hsub
  simp at this
  omega

/-- After how many steps a point comes round. -/
noncomputable def per (f : Nat → Nat) (x : Nat) : Nat := open Classical in if h : ∃ k, 1 ≤ k ∧ itr f k x = x then Classical.choose (least_ex h) else 0
theorem Pm.per {n : Nat} {f : Nat → Nat} (P : Pm n f) {x : Nat} (hx : x < n) : (1 ≤ per f x ∧ per f x ≤ n ∧ itr f (per f x) x = x) ∧ ∀ j, 1 ≤ j → j < Go.Proofs.YtcjkcgfohmhbcabDoor.per f x → itr f j x ≠ x := by
  obtain ⟨k, h1, h2, h3⟩ := P.round hx
  have h : ∃ k, 1 ≤ k ∧ itr f k x = x := ⟨k, h1, h3⟩
  have e : Go.Proofs.YtcjkcgfohmhbcabDoor.per f x = Classical.choose (least_ex h) := by unfold Go.Proofs.YtcjkcgfohmhbcabDoor.per; rw [dif_pos h]
  have hs := Classical.choose_spec (least_ex h)
  rw [← e] at hs
  refine ⟨⟨hs.1.1, ?_, hs.1.2⟩, fun j h4 h5 h6 => hs.2 j h5 ⟨h4, h6⟩⟩
  refine Classical.byContradiction fun hn => hs.2 k (by omega) ⟨h1, h3⟩
theorem itr_mul {f : Nat → Nat} {x p : Nat} (h : itr f p x = x) (q : Nat) : itr f (q * p) x = x := by
  induction q with
  | zero => rw [Nat.zero_mul]; rfl
  | succ q ih => rw [Nat.succ_mul, itr_add, h, ih]
theorem Pm.back {n : Nat} {f : Nat → Nat} (P : Pm n f) {x k : Nat} (hx : x < n) : ∃ j, itr f j (itr f k x) = x := by
  have hp := (P.per hx).1
  refine ⟨k * Go.Proofs.YtcjkcgfohmhbcabDoor.per f x - k, ?_⟩
  have : k ≤ k * Go.Proofs.YtcjkcgfohmhbcabDoor.per f x := Nat.le_mul_of_pos_right k (by omega)
  rw [← itr_add, show k * Go.Proofs.YtcjkcgfohmhbcabDoor.per f x - k + k = k * Go.Proofs.YtcjkcgfohmhbcabDoor.per f x by omega]
  exact itr_mul hp.2.2 k
/-! ### Cycles, each from its least point on -/
def leadB (n : Nat) (f : Nat → Nat) (i : Nat) : Bool := (List.range n).all fun k => decide (i ≤ itr f k i)
def leads (n : Nat) (f : Nat → Nat) (m : Nat) : List Nat := (List.range m).filter (leadB n f)
/-- The order. -/
def OrdIs (n : Nat) (f : Nat → Nat) (o : Nat) : Prop := 1 ≤ o ∧ ∀ N, o ∣ N ↔ ∀ x, x < n → itr f N x = x
theorem OrdIs.one {n : Nat} {f : Nat → Nat} {o o' : Nat} (h : OrdIs n f o) (h' : OrdIs n f o') : o = o' :=
  Nat.dvd_antisymm ((h.2 _).2 ((h'.2 _).1 (Nat.dvd_refl _))) ((h'.2 _).2 ((h.2 _).1 (Nat.dvd_refl _)))

end Go.Proofs.YtcjkcgfohmhbcabDoor

namespace Go.Proofs.YtcjkcgfohmhbcabDoor
open Go.RowKit

/-- One number of a row changed. -/
def upd (f : Nat → Int) (i : Nat) (v : Int) : Nat → Int := fun j => if j = i then v else f j

theorem ret_int {k : IntKind} {a b : Int} (h : a = b) : Ending.returned (.int k a) = .returned (.int k b) := by rw [h]
theorem ret_bool {a b : Bool} (h : a = b) : Ending.returned (.bool a) = .returned (.bool b) := by rw [h]
theorem Below.next {a b c : World} (h : Below a.heap.size a b) (k : Below b.heap.size b c) : Below a.heap.size a c := h.trans (k.mono h.size)
theorem bcell {W w1 : World} (hb : Below W.heap.size W w1) : (∀ b o, b < W.heap.size → w1.cell? ⟨b, o, none⟩ = W.cell? ⟨b, o, none⟩) ∧ (∀ b o, b < W.heap.size → w1.frozen? ⟨b, o, none⟩ = W.frozen? ⟨b, o, none⟩) :=
  ⟨fun b o h => hb.cell (p := ⟨b, o, none⟩) h, fun b o h => hb.frozen (p := ⟨b, o, none⟩) h⟩

theorem und3 : Tryd.prog.underlying 3 = some (.int .i64) := by kernel_rfl
theorem und22 : Tryd.prog.underlying 23 = some (.slice 3) := by kernel_rfl
theorem info3 : ∃ i, Tryd.prog.info? 3 = some i ∧ i.zero = some (.int .i64 0) ∧ i.size = 1 ∧ i.bytes = 8 := by
  have h1 : (Tryd.prog.info? 3).map (·.zero) = some (some (.int .i64 0)) := by kernel_rfl
  have h2 : (Tryd.prog.info? 3).map (·.size) = some 1 := by kernel_rfl
  have h3 : (Tryd.prog.info? 3).map (·.bytes) = some 8 := by kernel_rfl
  cases h : Tryd.prog.info? 3 with
  | none => rw [h] at h1; cases h1
  | some i =>
    rw [h] at h1 h2 h3
    exact ⟨i, rfl, Option.some.inj h1, Option.some.inj h2, Option.some.inj h3⟩

/-- The value is a slice that reads as the list of numbers. -/
def Sl (w : World) (v : Value) (l : List Int) : Prop := ∃ (a : Option Addr) (cap : Nat), v = .slice a l.length cap ∧ ∀ j, j < l.length → ∃ b off, a = some ⟨b, off, none⟩ ∧ w.cell? ⟨b, off + j, none⟩ = some (.int .i64 (l.getD j 0))
theorem Sl.below {w w' : World} {v : Value} {l : List Int} (h : Sl w v l) (hb : Below w.heap.size w w') : Sl w' v l := by
  obtain ⟨a, cap, rfl, h⟩ := h
  refine ⟨a, cap, rfl, fun j hj => ?_⟩
  obtain ⟨b, off, e, hc⟩ := h j hj
  exact ⟨b, off, e, (hb.cell (p := ⟨b, off + j, none⟩) (block_lt_of_cell hc)).trans hc⟩
theorem Sl.nil (w : World) : Sl w (.slice none 0 0) [] := ⟨none, 0, rfl, fun j hj => by simp at hj⟩
theorem Sl.owned {w : World} {base : Nat} {v : Value} {l : List Int} (h : w.ownsRow base 3 1 v l.length (l.map (Value.int .i64))) : Sl w v l := by
  obtain ⟨_, ⟨rfl, hn⟩ | ⟨g, cap, cur, rfl, _, hg, _, _, _, ht⟩⟩ := h
  · have : l = [] := List.length_eq_zero_iff.1 hn
    subst this
    exact Sl.nil w
  · refine ⟨_, cap, rfl, fun j hj => ⟨g, 0, rfl, ?_⟩⟩
    rw [cell_of_row w g _ cur 3 (0, 0) hg]
    have h2 : (cur.toList.take (l.length * 1))[j]? = (l.map (Value.int .i64))[j]? := by rw [ht]
    rw [List.getElem?_take, if_pos (by omega)] at h2
    rw [Nat.zero_add, ← Array.getElem?_toList, h2]
    simp [hj]

/-- Block g is a row of the call's own whose first n numbers are f's. -/
def Own (w : World) (g n : Nat) (f : Nat → Int) : Prop := ∃ cur, w.heap[g]? = some (.cells cur 3 (0, 0)) ∧ ∀ j, j < n → cur[j]? = some (.int .i64 (f j))
theorem Own.lt {w : World} {g n : Nat} {f : Nat → Int} (h : Own w g n f) : g < w.heap.size := by
  obtain ⟨cur, h, _⟩ := h
  exact (Array.getElem?_eq_some_iff.1 h).1
theorem Own.cell {w : World} {g n : Nat} {f : Nat → Int} (h : Own w g n f) (j : Nat) (hj : j < n) : w.cell? ⟨g, j, none⟩ = some (.int .i64 (f j)) := by
  obtain ⟨cur, h, hc⟩ := h
  rw [cell_of_row w g j _ _ _ h, hc j hj]
theorem Own.frozen {w : World} {g n : Nat} {f : Nat → Int} (h : Own w g n f) (j : Nat) : w.frozen? ⟨g, j, none⟩ = false := by
  obtain ⟨cur, h, _⟩ := h
  exact frozen_of_row w g j _ _ h
theorem Own.set {w : World} {g n : Nat} {f : Nat → Int} (h : Own w g n f) (i : Nat) (v : Int) : Own (w.setCell ⟨g, i, none⟩ (.int .i64 v)) g n (upd f i v) := by
  obtain ⟨cur, h, hc⟩ := h
  refine ⟨_, heap_setCell_same w g i _ _ _ h, fun j hj => ?_⟩
  have hcj := hc j hj
  have hlt : j < cur.size := (Array.getElem?_eq_some_iff.1 hcj).1
  rw [Array.getElem?_setIfInBounds]
  by_cases e : i = j
  · subst e; rw [if_pos rfl, if_pos hlt]; simp [upd]
  · rw [if_neg e, hcj]; simp [upd, Ne.symm e]
theorem Own.other {w : World} {g n : Nat} {f : Nat → Int} (h : Own w g n f) (a : Addr) (v : Value) (hne : g ≠ a.block) : Own (w.setCell a v) g n f := by
  obtain ⟨cur, h, hc⟩ := h
  exact ⟨cur, (heap_setCell_other w a g v hne).trans h, hc⟩
theorem Own.below {w w' : World} {g n : Nat} {f : Nat → Int} (h : Own w g n f) (hb : Below w.heap.size w w') : Own w' g n f := by
  have hl := h.lt
  obtain ⟨cur, h, hc⟩ := h
  exact ⟨cur, (hb.block g hl).trans h, hc⟩
theorem Own.drew {w : World} {g n : Nat} {f : Nat → Int} (h : Own w g n f) : Own w.drew g n f := h
theorem Own.congr {w : World} {g n : Nat} {f f' : Nat → Int} (h : Own w g n f) (e : ∀ j, j < n → f j = f' j) : Own w g n f' := by
  obtain ⟨cur, h, hc⟩ := h
  exact ⟨cur, h, fun j hj => by rw [hc j hj, e j hj]⟩
theorem Own.sl {w : World} {g n : Nat} {f : Nat → Int} (h : Own w g n f) (cap : Nat) : Sl w (.slice (some ⟨g, 0, none⟩) n cap) ((List.range n).map f) := by
  refine ⟨_, cap, by simp, fun j hj => ⟨g, 0, rfl, ?_⟩⟩
  have hj' : j < n := by simpa using hj
  rw [Nat.zero_add, h.cell j hj']
  simp [hj']
theorem Own.of {w : World} {base n : Nat} {v : Value} {l : List Int} (h : w.ownsRow base 3 1 v n (l.map (Value.int .i64))) (hn : 0 < n) :
    ∃ g cap, v = .slice (some ⟨g, 0, none⟩) n cap ∧ base ≤ g ∧ Own w g n (fun j => l.getD j 0) := by
  obtain ⟨hl, ⟨_, hn0⟩ | ⟨g, cap, cur, rfl, hb, hg, _, _, _, ht⟩⟩ := h
  · omega
  · refine ⟨g, cap, rfl, hb, cur, hg, fun j hj => ?_⟩
    have hj2 : j < l.length := by simp at hl; omega
    have h2 : (cur.toList.take (n * 1))[j]? = (l.map (Value.int .i64))[j]? := by rw [ht]
    rw [List.getElem?_take, if_pos (by omega)] at h2
    rw [← Array.getElem?_toList, h2]
    simp [hj2]

theorem Sl.form {w : World} {v : Value} {l : List Int} {n : Nat} (h : Sl w v l) (hl : l.length = n) (hn : 0 < n) :
    ∃ b off cap, v = .slice (some ⟨b, off, none⟩) n cap ∧ b < w.heap.size ∧ ∀ j, j < n → w.cell? ⟨b, off + j, none⟩ = some (.int .i64 (l.getD j 0)) := by
  obtain ⟨a, cap, rfl, h⟩ := h
  rw [hl] at h ⊢
  obtain ⟨b, off, rfl, h0⟩ := h 0 hn
  refine ⟨b, off, cap, rfl, by simpa using block_lt_of_cell h0, fun j hj => ?_⟩
  obtain ⟨b', o', e, hc⟩ := h j hj
  simp only [Option.some.injEq, Addr.mk.injEq, and_true] at e
  obtain ⟨rfl, rfl⟩ := e
  exact hc
theorem bdrewN {B : Nat} {a w : World} (h : Below B a w) (n : Nat) : Below B a (w.drewN n) := ⟨h.os, h.tape, h.output, h.size, h.block⟩
theorem Sl.alloc {w : World} {v : Value} {l : List Int} (h : Sl w v l) (o : Obj) : Sl (w.alloc o) v l := h.below ((Below.refl _ _).alloc (Nat.le_refl _) o)
theorem Sl.drew {w : World} {v : Value} {l : List Int} (h : Sl w v l) : Sl w.drew v l := h
theorem balloc (w : World) (o : Obj) : Below w.heap.size w (w.alloc o) := (Below.refl _ _).alloc (Nat.le_refl _) o

end Go.Proofs.YtcjkcgfohmhbcabDoor
