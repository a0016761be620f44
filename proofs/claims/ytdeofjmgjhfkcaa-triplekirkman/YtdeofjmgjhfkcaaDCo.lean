/- The walk of the document's ComplementOf. -/
import Derived.Test.YtdeofjmgjhfkcaaDLw
import Derived.Test.YtdeofjmgjhfkcaaDFish
import Derived.Test.YtdeofjmgjhfkcaaDCm
import Derived.OwnWalk
/- The walk of the document's Together. -/
namespace Go.Proofs.Ytdeofjmgjhfkcaa
open Go.RowKit

theorem mt_take {b c : List Nat} {j : Nat} (hj : j < b.length) : mt (b.take (j + 1)) c = mt (b.take j) c + if c.contains (b.getD j 0) = true then 1 else 0 := by
  unfold mt
  rw [List.take_add_one, List.getElem?_eq_getElem hj, List.countP_append, List.getD_eq_getElem?_getD, List.getElem?_eq_getElem hj]
  simp [List.countP_cons]
set_option maxHeartbeats 4000000 in
theorem Together_any (b c : List Nat) (v u : Value) (w : World) (hv : Sl w v (b.map Int.ofNat)) (hu : Sl w u (c.map Int.ofNat)) (hb : b.length ≤ 99) (hc : c.length ≤ 99) :
    Calls Try.prog 25 #[v, u] w fun e w' => e = .returned (.int .i64 ((mt b c : Nat) : Int)) ∧ w' = w := by
  have L : Hid (∀ x, Calls Try.prog 31 #[u, .int .i64 ((x : Nat) : Int)] w fun e w' => e = .returned (.bool (c.contains x)) ∧ w' = w) := fun x => Lies_any c x _ u w hu hc rfl
  obtain ⟨va, vc, rfl, _⟩ := hu
  obtain ⟨a, cap, rfl, hcc⟩ := hv
  rw [List.length_map] at hcc L ⊢
  rw [List.length_map]
  have HC : Hid (∀ j, j < b.length → ∃ b' off, a = some ⟨b', off, none⟩ ∧ w.cell? ⟨b', off + j, none⟩ = some (.int .i64 ((b.getD j 0 : Nat) : Int))) := fun j hj => by
    obtain ⟨b', off, e1, e2⟩ := hcc j hj
    rw [ofNat_at b hj] at e2
    exact ⟨b', off, e1, e2⟩
  have HM : Hid (∀ j, j < b.length → mt (b.take (j + 1)) c = mt (b.take j) c + if c.contains (b.getD j 0) = true then 1 else 0) := fun j hj => mt_take hj
  have HZ : Hid (mt (b.take b.length) c = mt b c) := by show _ = _; rw [List.take_length]
  have HL : Hid (∀ j, mt (b.take j) c ≤ b.length) := fun j => Nat.le_trans List.countP_le_length (by rw [List.length_take]; omega)
  obtain ⟨M, HMM⟩ : ∃ M, Hid (mt b c = M) := ⟨_, rfl⟩
  rw [HMM.out] at HZ ⊢
  generalize hn : b.length = n at *
  generalize c.length = vl at *
  clear hcc
  go_enter Try.func25, Try.ntmps25
  go_wp2
  go_loopw [5, 6] (fun k i wr => ∃ j m : Nat, i = .int .i64 (j : Int) ∧ k = .int .i64 (m : Int) ∧ j ≤ n ∧ Hid (mt (b.take j) c = m) ∧ wr = w) (fun _ i _ => (n - intOf i).toNat)
  case atStart => exact ⟨0, 0, rfl, rfl, by omega, (show mt (b.take 0) c = 0 by simp [mt]), rfl⟩
  case round =>
    obtain ⟨j, m, rfl, rfl, hj, HJ, hw⟩ := hrel
    subst hw
    have hm : m ≤ n := by have := HL.out j; rw [HJ.out] at this; exact this
    by_cases hlt : j < n
    · have hdj : decide ((j : Int) < (n : Int)) = true := by simp; omega
      have hji : (j : Int) < n := by omega
      obtain ⟨b', off, rfl, hcell⟩ := HC.out j hlt
      have C := L.out (b.getD j 0)
      have hs := HM.out j hlt
      obtain ⟨X, hX⟩ : ∃ X : Int, X = ((b.getD j 0 : Nat) : Int) := ⟨_, rfl⟩
      rw [← hX] at hcell C
      cases he : c.contains (b.getD j 0) with
      | false =>
        rw [he] at C
        have HJ2 : Hid (mt (b.take (j + 1)) c = m) := by show _ = _; rw [hs, he, HJ.out]; rfl
        clear he hX hs HJ
        go_wp2_with (go_at_call 31; refine C.mono ?_; rintro e w1 ⟨rfl, hw⟩; replace hw := hw.symm; subst hw)
        go_roundw
        case rel => exact ⟨j + 1, m, by go_num, rfl, by omega, HJ2, trivial⟩
        case measure => simp [intOf]; omega
      | true =>
        rw [he] at C
        have HJ2 : Hid (mt (b.take (j + 1)) c = m + 1) := by show _ = _; rw [hs, he, HJ.out]; rfl
        clear he hX hs HJ
        go_wp2_with (go_at_call 31; refine C.mono ?_; rintro e w1 ⟨rfl, hw⟩; replace hw := hw.symm; subst hw)
        go_roundw
        case rel => exact ⟨j + 1, m + 1, by go_num, by go_num, by omega, HJ2, trivial⟩
        case measure => simp [intOf]; omega
    · have hdj : decide ((j : Int) < (n : Int)) = false := by simp; omega
      obtain rfl : j = n := by omega
      obtain rfl : M = m := by rw [← HZ.out, HJ.out]
      go_wp2
      go_ret
      exact ⟨rfl, rfl⟩
end Go.Proofs.Ytdeofjmgjhfkcaa

/- The walk of the document's MeetsOf. -/
namespace Go.Proofs.Ytdeofjmgjhfkcaa
open Go.RowKit

/-- In how many points two blocks meet. -/
def metB (B : List (List Nat)) (n : Nat) : Bool := (List.range B.length).any fun i => (List.range i).any fun j => mt (B.getD i []) (B.getD j []) == n
theorem metB_iff {B : List (List Nat)} {n : Nat} : metB B n = true ↔ ∃ i j, j < i ∧ i < B.length ∧ mt (B.getD i []) (B.getD j []) = n := by
  unfold metB
  rw [List.any_eq_true]
  constructor
  · rintro ⟨i, hi, h⟩
    rw [List.any_eq_true] at h
    obtain ⟨j, hj, h⟩ := h
    exact ⟨i, j, List.mem_range.1 hj, List.mem_range.1 hi, by simpa using h⟩
  · rintro ⟨i, j, hj, hi, h⟩
    refine ⟨i, List.mem_range.2 hi, ?_⟩
    rw [List.any_eq_true]
    exact ⟨j, List.mem_range.2 hj, by simpa using h⟩
def mtL (v : Nat) (B : List (List Nat)) : List Nat := (List.range (v + 1)).filter (metB B)
def SeenM (B : List (List Nat)) (i j : Nat) (f : Nat → Bool) : Prop := ∀ n, f n = true ↔ ∃ i' j', j' < i' ∧ (i' < i ∨ (i' = i ∧ j' < j)) ∧ mt (B.getD i' []) (B.getD j' []) = n
theorem SeenM.zero (B : List (List Nat)) : SeenM B 0 0 (fun _ => false) := fun n => by
  constructor
  · intro h; cases h
  · rintro ⟨i, j, h1, h2 | h2, _⟩ <;> omega
theorem SeenM.step {B : List (List Nat)} {i j : Nat} {f : Nat → Bool} (h : SeenM B i j f) (hj : j < i) : SeenM B i (j + 1) (upT f (mt (B.getD i []) (B.getD j [])) true) := fun n => by
  unfold upT
  by_cases e : n = mt (B.getD i []) (B.getD j [])
  · rw [if_pos e]
    exact ⟨fun _ => ⟨i, j, hj, .inr ⟨rfl, by omega⟩, e.symm⟩, fun _ => rfl⟩
  · rw [if_neg e, h n]
    constructor
    · rintro ⟨i', j', h1, h2, h3⟩
      exact ⟨i', j', h1, by omega, h3⟩
    · rintro ⟨i', j', h1, h2, h3⟩
      refine ⟨i', j', h1, ?_, h3⟩
      rcases h2 with h2 | ⟨h2, h4⟩
      · exact .inl h2
      · by_cases e2 : j' = j
        · subst h2 e2; exact (e h3.symm).elim
        · exact .inr ⟨h2, by omega⟩
theorem SeenM.row {B : List (List Nat)} {i : Nat} {f : Nat → Bool} (h : SeenM B i i f) : SeenM B (i + 1) 0 f := fun n => by
  rw [h n]
  constructor
  · rintro ⟨i', j', h1, h2, h3⟩
    exact ⟨i', j', h1, by omega, h3⟩
  · rintro ⟨i', j', h1, h2, h3⟩
    exact ⟨i', j', h1, by omega, h3⟩
theorem SeenM.all {B : List (List Nat)} {f : Nat → Bool} (h : SeenM B B.length 0 f) : f = metB B := by
  funext n
  rw [Bool.eq_iff_iff, h n, metB_iff]
  constructor
  · rintro ⟨i', j', h1, h2, h3⟩
    exact ⟨i', j', h1, by omega, h3⟩
  · rintro ⟨i', j', h1, h2, h3⟩
    exact ⟨i', j', h1, by omega, h3⟩
theorem und46 : Try.prog.underlying 85 = some (.slice 4) := by kernel_rfl
theorem info4 : ∃ i, Try.prog.info? 4 = some i ∧ i.zero = some (.bool false) ∧ i.size = 1 ∧ i.bytes = 1 := by
  have h1 : ((Try.prog.info? 4).bind fun i => i.zero) = some (.bool false) := by kernel_rfl
  have h2 : ((Try.prog.info? 4).map fun i => i.size) = some 1 := by kernel_rfl
  have h3 : ((Try.prog.info? 4).map fun i => i.bytes) = some 1 := by kernel_rfl
  cases h : Try.prog.info? 4 with
  | none => rw [h] at h2; cases h2
  | some i =>
    rw [h] at h1 h2 h3
    exact ⟨i, rfl, h1, Option.some.inj h2, Option.some.inj h3⟩
theorem run_makeB (n : Nat) (hn : n ≤ 100000000) (w : World) : (Instr.makeSlice 85 (.int .i64 (n : Int)) (.int .i64 (n : Int))).run Try.prog w = .ok (.slice (some ⟨w.heap.size, 0, none⟩) n n) (w.alloc (.cells (madeCells #[.bool false] n) 4)) := by
  obtain ⟨i4, hi, hz0, hz1, hz2⟩ := info4
  have h := run_make (P := Try.prog) w 85 4 i4 (.bool false) und46 hi hz0 .i64 .i64 n n (by omega) (by omega) (by rw [hz2]; omega) (by omega)
  simpa [hz1, Value.cells] using h
theorem bo_new (w : World) (n : Nat) : Bo (w.alloc (.cells (madeCells #[.bool false] n) 4)) w.heap.size n (fun _ => false) := by
  refine ⟨_, 4, heap_alloc_new w _, fun j hj => ?_⟩
  rw [Array.getElem?_eq_getElem (by rw [size_madeCells]; exact hj)]
  simp [madeCells, Nat.mod_one]
theorem own_low {w : World} {b b' n : Nat} {v : Value} {l : List Value} (h : w.ownsRow b 3 1 v n l) (hb : b' ≤ b) : w.ownsRow b' 3 1 v n l := by
  obtain ⟨h0, h | ⟨g, cap, cur, h1, h2, h3⟩⟩ := h
  · exact ⟨h0, .inl h⟩
  · exact ⟨h0, .inr ⟨g, cap, cur, h1, Nat.le_trans hb h2, h3⟩⟩
theorem filter_succ (f : Nat → Bool) (m : Nat) : (List.range (m + 1)).filter f = (List.range m).filter f ++ if f m = true then [m] else [] := by
  rw [List.range_succ, List.filter_append]
  cases h : f m <;> simp [h]
end Go.Proofs.Ytdeofjmgjhfkcaa

/- Rows of rows of one's own. -/
namespace Go.Proofs.Ytdeofjmgjhfkcaa
open Go.RowKit

theorem undR : Try.prog.underlying 22 = some (.slice 45) := by kernel_rfl
theorem info36 : ∃ i, Try.prog.info? 45 = some i ∧ i.zero = some (.slice none 0 0) ∧ i.size = 1 ∧ i.bytes = 24 := by
  have h1 : (Try.prog.info? 45).map (·.zero) = some (some (.slice none 0 0)) := by kernel_rfl
  have h2 : (Try.prog.info? 45).map (·.size) = some 1 := by kernel_rfl
  have h3 : (Try.prog.info? 45).map (·.bytes) = some 24 := by kernel_rfl
  cases h : Try.prog.info? 45 with
  | none => rw [h] at h1; cases h1
  | some i =>
    rw [h] at h1 h2 h3
    exact ⟨i, rfl, Option.some.inj h1, Option.some.inj h2, Option.some.inj h3⟩
/-- A row of numbers of one's own. -/
def ORow (w : World) (base : Nat) (u : Value) (l : List Nat) : Prop := w.ownsRow base 3 1 u l.length ((l.map Int.ofNat).map (Value.int .i64))
theorem own_keep {w w' : World} {base n : Nat} {e : TypeId} {v : Value} {xs : List Value} (h : w.ownsRow base e 1 v n xs) (k : ∀ b, base ≤ b → b < w.heap.size → w'.heap[b]? = w.heap[b]?) : w'.ownsRow base e 1 v n xs := by
  obtain ⟨h3, h4 | ⟨g, cap, cur, h5, h6, h7, h8⟩⟩ := h
  · exact ⟨h3, .inl h4⟩
  · exact ⟨h3, .inr ⟨g, cap, cur, h5, h6, (k g h6 (Array.getElem?_eq_some_iff.1 h7).1).trans h7, h8⟩⟩
def OR (w : World) (base : Nat) (v : Value) (ls : List (List Nat)) : Prop :=
  ∃ vals : List Value, w.ownsRow base 45 1 v ls.length vals ∧ ∀ (i : Nat) (u : Value) (l : List Nat), vals[i]? = some u → ls[i]? = some l → ORow w base u l
theorem OR.nil (w : World) (base : Nat) : OR w base (.slice none 0 0) [] := ⟨[], World.ownsRow_nil _ _ _ _, fun i u l h _ => by simp at h⟩
theorem OR.keep {w w' : World} {base : Nat} {v : Value} {ls : List (List Nat)} (h : OR w base v ls) (k : ∀ b, base ≤ b → b < w.heap.size → w'.heap[b]? = w.heap[b]?) : OR w' base v ls := by
  obtain ⟨vals, h1, h2⟩ := h
  exact ⟨vals, own_keep h1 k, fun i u l hu hl => own_keep (h2 i u l hu hl) k⟩
theorem OR.below {w w' : World} {base : Nat} {v : Value} {ls : List (List Nat)} (h : OR w base v ls) (k : Below w.heap.size w w') : OR w' base v ls := h.keep fun b _ hb => k.block b hb
theorem ORow.below {w w' : World} {base : Nat} {u : Value} {l : List Nat} (h : ORow w base u l) (k : Below w.heap.size w w') : ORow w' base u l := own_keep h fun b _ hb => k.block b hb
/-- One row more. -/
theorem OR.more {wa w2 : World} {base : Nat} {v v' u : Value} {ls : List (List Nat)} {l : List Nat} {vals : List Value} (h1 : wa.ownsRow base 45 1 v ls.length vals) (h2 : ∀ (i : Nat) (u : Value) (l : List Nat), vals[i]? = some u → ls[i]? = some l → ORow wa base u l) (hu : ORow wa base u l)
    (hown : w2.ownsRow base 45 1 v' (ls.length + 1) (vals ++ [u])) (hgr : wa.grownBy w2 v.ownBlock) : OR w2 base v' (ls ++ [l]) := by
  have key : ∀ {u l}, ORow wa base u l → ORow w2 base u l := by
    rintro u l ⟨h0, hn | ⟨g, cap, cur, e1, hg, k1, k2⟩⟩
    · exact ⟨h0, .inl hn⟩
    · refine ⟨h0, .inr ⟨g, cap, cur, e1, hg, (hgr.block g (Array.getElem?_eq_some_iff.1 k1).1 (fun e => ?_)).trans k1, k2⟩⟩
      obtain ⟨_, ⟨rfl, _⟩ | ⟨g', cap', cur', rfl, _, hg', _⟩⟩ := h1
      · simp [Value.ownBlock] at e
      · have e2 : g = g' := by simpa [Value.ownBlock] using e
        subst e2
        rw [hg'] at k1
        simp at k1
  have hlen : vals.length = ls.length := by have := h1.1; omega
  refine ⟨vals ++ [u], by rw [List.length_append]; exact hown, fun i u' l' e1 e2 => ?_⟩
  by_cases hi : i < vals.length
  · rw [List.getElem?_append_left hi] at e1
    rw [List.getElem?_append_left (by omega)] at e2
    exact key (h2 i u' l' e1 e2)
  · rw [List.getElem?_append_right (by omega)] at e1
    rw [List.getElem?_append_right (by omega)] at e2
    have h0 : i - vals.length = 0 := by
      rcases Nat.eq_zero_or_pos (i - vals.length) with h | h
      · exact h
      · rw [List.getElem?_eq_none (by simp; omega)] at e1; simp at e1
    rw [h0] at e1
    rw [show i - ls.length = 0 by omega] at e2
    simp at e1 e2
    subst e1 e2
    exact key hu
theorem ORow.sl {w : World} {base : Nat} {u : Value} {l : List Nat} (h : ORow w base u l) : Sl w u (l.map Int.ofNat) := Sl.owned (by rw [List.length_map]; exact h)
/-- It reads as rows of numbers. -/
theorem OR.rw {w : World} {base : Nat} {v : Value} {ls : List (List Nat)} (h : OR w base v ls) : Rw w v (toZ ls) := by
  obtain ⟨vals, h1, h2⟩ := h
  have hz : (toZ ls).length = ls.length := by simp [toZ]
  obtain ⟨h3, ⟨rfl, h4⟩ | ⟨g, cap, cur, rfl, h6, h7, h8, h9, h10, ht⟩⟩ := h1
  · refine ⟨none, 0, by rw [hz, h4], fun i l hl => ?_⟩
    have : toZ ls = [] := List.length_eq_zero_iff.1 (by rw [hz, h4])
    rw [this] at hl; simp at hl
  · refine ⟨_, cap, by rw [hz], fun i l hl => ?_⟩
    obtain ⟨hi, e⟩ := List.getElem?_eq_some_iff.1 hl
    rw [hz] at hi
    have e2 : (cur.toList.take (ls.length * 1))[i]? = vals[i]? := by rw [ht]
    rw [List.getElem?_take, if_pos (by omega)] at e2
    obtain ⟨u, hu⟩ : ∃ u, vals[i]? = some u := ⟨vals[i]'(by omega), by simp⟩
    refine ⟨g, 0, u, rfl, ?_, ?_⟩
    · rw [cell_of_row w g _ _ _ _ h7, Nat.zero_add, ← Array.getElem?_toList, e2, hu]
    · have := (h2 i u ls[i] hu (List.getElem?_eq_getElem hi)).sl
      rw [← e]
      simpa [toZ] using this
theorem OR.cap {w : World} {base : Nat} {v : Value} {ls : List (List Nat)} (h : OR w base v ls) : ∃ a c, v = .slice a ls.length c := by
  obtain ⟨a, c, e, _⟩ := h.rw
  exact ⟨a, c, by rw [e]; simp [toZ]⟩
end Go.Proofs.Ytdeofjmgjhfkcaa

namespace Go.Proofs.Ytdeofjmgjhfkcaa
open Go.RowKit

/-- The three boxes: the design, the answer, what is built. -/
structure BoxS (s v p : Nat) (dv ov : Value) (W : World) : Prop where
  d : W.heap[s]? = some (.cells #[.int .i64 (v : Int), dv] 24 (0, 0))
  r : W.heap[s + 1]? = some (.cells #[.int .i64 0, .slice none 0 0] 24 (0, 0))
  o : W.heap[s + 2]? = some (.cells #[.int .i64 (p : Int), ov] 24 (0, 0))
theorem BoxS.lt {s v p : Nat} {dv ov : Value} {W : World} (h : BoxS s v p dv ov W) : s + 3 ≤ W.heap.size := by
  have := (Array.getElem?_eq_some_iff.1 h.o).1
  omega
theorem BoxS.low {s v p : Nat} {dv ov : Value} {W W' : World} (h : BoxS s v p dv ov W) (b : Below (s + 3) W W') : BoxS s v p dv ov W' :=
  ⟨(b.block s (by omega)).trans h.d, (b.block (s + 1) (by omega)).trans h.r, (b.block (s + 2) (by omega)).trans h.o⟩
theorem BoxS.cells {s v p : Nat} {dv ov : Value} {W : World} (h : BoxS s v p dv ov W) : W.cell? ⟨s, 0, none⟩ = some (.int .i64 (v : Int)) ∧ W.cell? ⟨s, 1, none⟩ = some dv ∧ W.cell? ⟨s + 1 + 1, 0, none⟩ = some (.int .i64 (p : Int)) ∧ W.cell? ⟨s + 1 + 1, 1, none⟩ = some ov :=
  ⟨by rw [cell_of_row _ _ _ _ _ _ h.d]; rfl, by rw [cell_of_row _ _ _ _ _ _ h.d]; rfl, by rw [cell_of_row _ _ _ _ _ _ h.o]; rfl, by rw [cell_of_row _ _ _ _ _ _ h.o]; rfl⟩
theorem BoxS.put {s v p : Nat} {dv ov : Value} {W : World} (h : BoxS s v p dv ov W) (nv : Value) : BoxS s v p dv nv (W.setCell ⟨s + 1 + 1, 1, none⟩ nv) :=
  ⟨(heap_setCell_other W ⟨s + 2, 1, none⟩ s nv (by show s ≠ s + 2; omega)).trans h.d, (heap_setCell_other W ⟨s + 2, 1, none⟩ (s + 1) nv (by show s + 1 ≠ s + 2; omega)).trans h.r, heap_setCell_same W (s + 2) 1 _ _ nv h.o⟩
theorem BoxS.start (w : World) (v p : Nat) (dv : Value) : BoxS w.heap.size v p dv (.slice none 0 0) (((w.alloc (.cells #[.int .i64 (v : Int), dv] 24)).alloc (.cells #[.int .i64 0, .slice none 0 0] 24)).alloc (.cells #[.int .i64 (p : Int), .slice none 0 0] 24)) := by
  refine ⟨?_, ?_, ?_⟩
  · exact ((balloc _ _).block _ (by simp; omega)).trans (((balloc _ _).block _ (by simp)).trans (heap_alloc_new w _))
  · have := heap_alloc_new (w.alloc (.cells #[.int .i64 (v : Int), dv] 24)) (.cells #[.int .i64 0, .slice none 0 0] 24)
    rw [show (w.alloc (.cells #[.int .i64 (v : Int), dv] 24)).heap.size = w.heap.size + 1 by simp] at this
    exact ((balloc _ _).block _ (by simp)).trans this
  · have := heap_alloc_new ((w.alloc (.cells #[.int .i64 (v : Int), dv] 24)).alloc (.cells #[.int .i64 0, .slice none 0 0] 24)) (.cells #[.int .i64 (p : Int), .slice none 0 0] 24)
    rw [show ((w.alloc (.cells #[.int .i64 (v : Int), dv] 24)).alloc (.cells #[.int .i64 0, .slice none 0 0] 24)).heap.size = w.heap.size + 2 by simp] at this
    exact this
theorem oth_succ (x : Nat) (b : List Nat) : oth (x + 1) b = oth x b ++ if b.contains x = true then [] else [x] := by
  unfold oth
  rw [filter_succ]
  cases b.contains x <;> rfl
theorem take_map_succ {B : List (List Nat)} (f : List Nat → List Nat) {i : Nat} {b : List Nat} (h : B[i]? = some b) : (B.take (i + 1)).map f = (B.take i).map f ++ [f b] := by
  rw [List.take_add_one, h, List.map_append]; rfl
theorem inf24 : (Try.prog.info? 24).map (·.size) = some 2 := by kernel_rfl
theorem own_form {w : World} {base n : Nat} {e : TypeId} {v : Value} {xs : List Value} (h : w.ownsRow base e 1 v n xs) : ∃ a c, v = .slice a n c := by
  obtain ⟨_, ⟨rfl, rfl⟩ | ⟨g, cap, cur, rfl, _⟩⟩ := h
  · exact ⟨_, _, rfl⟩
  · exact ⟨_, _, rfl⟩
theorem post_d {fn : Func} {R : Ending → World → Prop} {a : Act} {w : World} {g : Nat} {x y : Value} (slot : Tmp) (hres : fn.results = #[.cell slot 24]) (hp : a.tmps.getD slot undef = .pointer (some ⟨g, 0, none⟩)) (hr : w.heap[g]? = some (.cells #[x, y] 24 (0, 0))) (hd : a.defers = []) (hR : R (.returned (.agg #[x, y])) w) : bodyPost Try.prog fn R .ret a w :=
  bodyPost_ret (results_cell_row hres a.tmps w g 24 #[x, y] (0, 0) _ hp hr Try.underlying24 rfl inf24) hd hR
end Go.Proofs.Ytdeofjmgjhfkcaa
