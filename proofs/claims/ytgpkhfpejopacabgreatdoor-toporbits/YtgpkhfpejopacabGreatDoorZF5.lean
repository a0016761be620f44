/- The library's Grow by its contract; the walk of its Concat, at one number and some others. -/
import Derived.Test.YtgpkhfpejopacabGreatDoorZP25
import Derived.Test.YtgpkhfpejopacabGreatDoorZGB
import Derived.Laws.CopyOwn
import Derived.OrdersHeld
import Derived.Deep.RegionHeld3
import Derived.Test.YtgpkhfpejopacabGreatDoorZCCon
import Derived.Test.YtgpkhfpejopacabGreatDoorZG66
import Derived.Deep.QuietTactic
import Derived.BigQuiet
import Derived.Test.YtgpkhfpejopacabGreatDoorZC8
import Derived.RangeFuncNested
import Derived.RangeFuncBox
import Derived.RangeFuncLeaves
import Derived.RangeFuncFrom
import Derived.RangeFuncBound
import Derived.RangeFuncCalls
import Derived.Shelf.Abstract
import Derived.Shelf.RegionOpen
import Derived.OwnWalkIn
import Derived.TacticsInMore
import Derived.LoopNIn
import Derived.LoopIn
import Derived.Stop.RegionWithIn
import Derived.Maps.AppendAt
import Derived.Test.YtgpkhfpejopacabGreatDoorZG57
import Derived.Shelf.Spec.SlicesGrow
/- The walk of lengths. -/
/- The walk of the library's Repeat, at one number. -/
namespace Go.Proofs.YtgpkhfpejopacabGreatDoor.Gc
open Go.RowKit

set_option maxRecDepth 100000 in
set_option maxHeartbeats 4000000 in
theorem mul64_any (c : Nat) (hc : c ≤ 7) (w : World) : Calls Tryz.prog 192 #[.int .u64 1, .int .u64 (c : Int)] w fun e w' => e = .returned (.tuple #[.int .u64 0, .int .u64 (c : Int)]) ∧ w' = w := by
  rcases (show c = 0 ∨ c = 1 ∨ c = 2 ∨ c = 3 ∨ c = 4 ∨ c = 5 ∨ c = 6 ∨ c = 7 by omega) with rfl | rfl | rfl | rfl | rfl | rfl | rfl | rfl
  all_goals
    go_enter Tryz.func192, Tryz.ntmps192
    go_wp2
    go_ret2
    exact ⟨rfl, rfl⟩
set_option maxRecDepth 100000 in
set_option maxHeartbeats 1000000 in
theorem mul_any (c : Nat) (hc : c ≤ 7) (w : World) : Calls Tryz.prog 157 #[.int .u64 1, .int .u64 (c : Int)] w fun e w' => e = .returned (.tuple #[.int .u64 0, .int .u64 (c : Int)]) ∧ w' = w := by
  go_enter Tryz.func157, Tryz.ntmps157
  go_wp2_with (go_at_call 192; refine (mul64_any c hc _).mono ?_; rintro e w1 ⟨rfl, rfl⟩)
  go_ret2
  exact ⟨rfl, rfl⟩

/-- So many x, and noughts behind. -/
def repL (x q c : Nat) : List Value := List.replicate q (.int .i64 (x : Int)) ++ List.replicate (c - q) (.int .i64 0)
theorem repL_len {x q c : Nat} (h : q ≤ c) : (repL x q c).length = c := by simp [repL]; omega
theorem repL_splice {x q c m : Nat} (h : q + m ≤ c) : splice (repL x q c) q (List.replicate m (.int .i64 (x : Int))) = repL x (q + m) c := by
  unfold splice repL
  rw [List.take_append_of_le_length (by simp), List.take_of_length_le (by simp), List.length_replicate, List.drop_append, List.length_replicate, List.drop_eq_nil_of_le (by simp), List.nil_append, List.drop_replicate, ← List.append_assoc, List.replicate_append_replicate]
  congr 2
  omega
theorem repL_zero (x c : Nat) : repL x 0 c = List.replicate c (.int .i64 0) := by simp [repL]
theorem repL_at {x q c j : Nat} (hj : j < q) : (repL x q c)[j]? = some (.int .i64 (x : Int)) := by
  unfold repL
  rw [List.getElem?_append_left (by simpa using hj)]
  simp [hj]
theorem made_rep (c : Nat) : madeCells #[Value.int .i64 0] c = (List.replicate c (Value.int .i64 0)).toArray := by
  apply Array.ext_getElem?
  intro j
  by_cases hj : j < c
  · rw [Array.getElem?_eq_getElem (by rw [size_madeCells]; exact hj)]
    simp [madeCells, Nat.mod_one, hj]
  · rw [Array.getElem?_eq_none (by rw [size_madeCells]; omega)]
    simp [hj]
set_option maxRecDepth 100000 in
theorem run_make3r (n : Nat) (hn : n ≤ 100000000) (w : World) : (Instr.makeSlice 29 (.int .i64 (n : Int)) (.int .i64 (n : Int))).run Tryz.prog w = .ok (.slice (some ⟨w.heap.size, 0, none⟩) n n) (w.alloc (.cells (List.replicate n (Value.int .i64 0)).toArray 3)) := by
  obtain ⟨i3, hi, hz0, hz1, hz2⟩ := info3
  have h := run_make (P := Tryz.prog) w 29 3 i3 (.int .i64 0) und22 hi hz0 .i64 .i64 n n (by omega) (by omega) (by rw [hz2]; omega) (by omega)
  rw [← made_rep]
  simpa [hz1, Value.cells] using h
set_option maxRecDepth 100000 in
theorem hsz3r : (Tryz.prog.info? 3).map (·.size) = some 1 := by kernel_rfl

set_option maxRecDepth 100000 in
set_option maxHeartbeats 4000000 in
theorem Repeat_any (x c b : Nat) (w : World) (hc : c ≤ 7) (hb : b < w.heap.size) (hx : w.cell? ⟨b, 0, none⟩ = some (.int .i64 (x : Int))) :
    Calls Tryz.prog 128 #[.slice (some ⟨b, 0, none⟩) 1 1, .int .i64 (c : Int)] w fun e w' => (∃ g, e = .returned (.slice (some ⟨g, 0, none⟩) c c) ∧ w.heap.size ≤ g ∧ w'.heap[g]? = some (.cells (repL x c c).toArray 3 (0, 0))) ∧ Below w.heap.size w w' := by
  have C := fun W => mul_any c hc W
  have hmk := run_make3r c (by omega)
  have hd0 : decide ((c : Int) < 0) = false := by simp
  have hd1 : decide ((9223372036854775807 : Int) < (c : Int)) = false := by simp; omega
  have hR0 : (w.alloc (.cells (List.replicate c (Value.int .i64 0)).toArray 3)).heap[w.heap.size]? = some (.cells (repL x 0 c).toArray 3 (0, 0)) := by rw [repL_zero]; exact heap_alloc_new w _
  go_enter Tryz.func128, Tryz.ntmps128
  go_wp2_with (first
    | (go_at_call 157; refine (C _).mono ?_; rintro e w1 ⟨rfl, hw⟩; replace hw := hw.symm; subst hw)
    | (refine wpList_copy_splice rfl _ _ 29 29 rfl 3 und22 hsz3r (some ⟨w.heap.size, 0, none⟩) (some ⟨b, 0, none⟩) c c 1 1 rfl rfl w.heap.size 0 (repL x 0 c) 3 hR0 (List.replicate (min 1 c) (.int .i64 (x : Int))) ?c1 ?c2 ?c3 ?c4 w.heap.size _ (Below.refl _ _) (Nat.le_refl _) ?_))
  case c1 => rw [List.length_replicate]
  case c2 =>
    intro _ j v hv
    have hj : j < 1 := by have := (List.getElem?_eq_some_iff.1 hv).1; rw [List.length_replicate] at this; omega
    obtain rfl : j = 0 := by omega
    rw [List.eq_of_mem_replicate (List.mem_of_getElem? hv)]
    exact hx
  case c3 => rw [List.length_replicate, repL_len (by omega)]; omega
  case c4 => intro v hv; rw [List.eq_of_mem_replicate hv]; rfl
  intro w2 HG hb2
  have hG2 : w2.heap[w.heap.size]? = some (.cells (repL x (min 1 c) c).toArray 3 (0, 0)) := by
    have h := HG.out
    rw [repL_splice (by omega), Nat.zero_add] at h
    exact h
  have hB2 : Below w.heap.size w w2 := (balloc w _).trans hb2
  obtain ⟨q0, Hq0⟩ : ∃ q0, Hid (min 1 c = q0) := ⟨_, rfl⟩
  rw [Hq0.out] at hG2 ⊢
  have hq01 : q0 ≤ c := by rw [← Hq0.out]; omega
  have hq02 : 0 < c → 0 < q0 := by rw [← Hq0.out]; omega
  have hs2 := hB2.size
  clear HG hb2 hR0 hmk C
  go_wp2_with fail
  go_loopw [8] (fun i wr => ∃ q : Nat, i = .int .i64 (q : Int) ∧ q ≤ c ∧ (0 < c → 0 < q) ∧ wr.heap[w.heap.size]? = some (.cells (repL x q c).toArray 3 (0, 0)) ∧ Below w.heap.size w wr) (fun i _ => (c - intOf i).toNat)
  case atStart => exact ⟨q0, rfl, hq01, hq02, hG2, hB2⟩
  case round =>
    clear hG2 hB2 hq01 hq02
    obtain ⟨q, rfl, hq, hqp, hG, hB⟩ := hrel
    by_cases hlt : q < c
    · have hqi : (q : Int) < c := by omega
      have hq0 : 0 < q := hqp (by omega)
      have hqn : ¬ c = q := by omega
      have hq00 : (0 : Int) ≤ (q : Int) := by omega
      have hdec : decide ((q : Int) < c) = true := by simp; omega
      go_wp2_with fail
      refine wp_region_noPanic ?_
      refine wp_region_held_drew (S := fun _ => True) (by kernel_rfl) (trivial) (fun hSx => ?_)
      refine wpAnyH_take (i := 0) (v := .int .i64 (q : Int)) rfl (by kernel_rfl) (by kernel_rfl) (by kernel_rfl) (fun _ _ _ h => h) (Or.inl ⟨by rfl, fun w_ hSw => by clear hSw; go_simp⟩) hSx ?_
      try simp only [Act.put, List.setIfInBounds_toArray]
      refine wpAnyH_take (i := 1) (v := .slice (some ⟨w.heap.size, 0, none⟩) c c) rfl (by kernel_rfl) (by kernel_rfl) (by kernel_rfl) (fun _ _ _ h => h) (Or.inl ⟨by rfl, fun w_ hSw => by clear hSw; go_simp⟩) hSx ?_
      try simp only [Act.put]
      refine wpAnyH_take (i := 2) (v := .int .i64 (q : Int)) rfl (by kernel_rfl) (by kernel_rfl) (by kernel_rfl) (fun _ _ _ h => h) (Or.inl ⟨by rfl, fun w_ hSw => by clear hSw; go_simp⟩) hSx ?_
      try simp only [Act.put]
      refine wpAnyH_take (i := 3) (v := .slice (some ⟨w.heap.size, q, none⟩) (c - q) (c - q)) rfl (by kernel_rfl) (by kernel_rfl) (by kernel_rfl) (fun _ _ _ h => h) (Or.inl ⟨by rfl, fun w_ hSw => by clear hSw; go_simp⟩) hSx ?_
      try simp only [Act.put]
      refine wpAnyH_take (i := 4) (v := .slice (some ⟨w.heap.size, 0, none⟩) c c) rfl (by kernel_rfl) (by kernel_rfl) (by kernel_rfl) (fun _ _ _ h => h) (Or.inl ⟨by rfl, fun w_ hSw => by clear hSw; go_simp⟩) hSx ?_
      try simp only [Act.put]
      refine wpAnyH_take (i := 5) (v := .int .i64 (q : Int)) rfl (by kernel_rfl) (by kernel_rfl) (by kernel_rfl) (fun _ _ _ h => h) (Or.inl ⟨by rfl, fun w_ hSw => by clear hSw; go_simp⟩) hSx ?_
      try simp only [Act.put]
      refine wpAnyH_take (i := 6) (v := .slice (some ⟨w.heap.size, 0, none⟩) q c) rfl (by kernel_rfl) (by kernel_rfl) (by kernel_rfl) (fun _ _ _ h => h) (Or.inl ⟨by rfl, fun w_ hSw => by clear hSw; go_simp⟩) hSx ?_
      try simp only [Act.put]
      refine wpAnyH_ready (rs := [7]) (by kernel_rfl) (by simp) ?_
      refine AllReadyH.cons rfl (fun J hJ => ?_) AllReadyH.nil
      refine step_copy_splice (by rfl) _ _ 29 29 (by rfl) 3 und22 hsz3r (some ⟨w.heap.size, q, none⟩) (some ⟨w.heap.size, 0, none⟩) (c - q) (c - q) q c (by rfl) (by rfl) w.heap.size q (repL x q c) 3 hG (List.replicate (min q (c - q)) (.int .i64 (x : Int))) (by rw [List.length_replicate]) (fun _ => ⟨rfl, _, rfl, fun j v hv => ?_⟩) (by rw [List.length_replicate, repL_len hq]; omega) (fun v hv => by rw [List.eq_of_mem_replicate hv]; rfl) w.heap.size w hB.drew (Nat.le_refl _) ?_
      · have hj : j < min q (c - q) := by have := (List.getElem?_eq_some_iff.1 hv).1; rwa [List.length_replicate] at this
        rw [List.eq_of_mem_replicate (List.mem_of_getElem? hv)]
        have h2 := cell_of_row wr w.heap.size j _ _ _ hG
        rw [List.getElem?_toArray, repL_at (by omega)] at h2
        show wr.cell? ((⟨w.heap.size, 0, none⟩ : Addr).add j) = _
        rw [Addr.add_mid, Nat.zero_add]
        exact h2
      · intro w4 HG4 hB4
        have hG4 : w4.heap[w.heap.size]? = some (.cells (repL x (q + min q (c - q)) c).toArray 3 (0, 0)) := by
          have h := HG4.out
          rw [repL_splice (by omega)] at h
          exact h
        rw [List.length_replicate]
        obtain ⟨m, Hm⟩ : ∃ m, Hid (min q (c - q) = m) := ⟨_, rfl⟩
        rw [Hm.out] at hG4 ⊢
        have hm1 : q + m ≤ c := by rw [← Hm.out]; omega
        have hm2 : 0 < m := by rw [← Hm.out]; omega
        rw [show goInt ((m : Nat) : Int) = Value.int .i64 ((m : Nat) : Int) from rfl]
        refine hJ.out _ _ trivial (fun hSy => ?_)
        clear hJ J HG4
        try simp only [Act.put]
        refine wpAnyH_take (i := 8) (v := .int .i64 ((q : Int) + (m : Int))) rfl (by kernel_rfl) (by kernel_rfl) (by kernel_rfl) (fun _ _ _ h => h) (Or.inl ⟨by rfl, fun w_ hSw => by clear hSw; go_simp; rw [IntKind.wrap_i64]; omega⟩) hSy ?_
        try simp only [Act.put]
        refine wpAnyH_ready (rs := [9]) (by kernel_rfl) (by simp) ?_
        refine AllReadyH.cons rfl (fun J hJ => ?_) AllReadyH.nil
        go_simp
        refine hJ.out _ _ trivial (fun _ => ?_)
        clear hJ J
        refine wpAnyH_done (by kernel_rfl) ?_ _
        refine NoPanic.normal ?_
        go_wp2
        go_roundw
        case rel => exact ⟨q + m, by go_num, hm1, fun _ => by omega, hG4, hB4⟩
        case measure => simp [intOf]; omega
    · have hdec : decide ((q : Int) < c) = false := by simp; omega
      obtain rfl : c = q := by omega
      go_wp2
      go_ret
      exact ⟨⟨w.heap.size, rfl, Nat.le_refl _, hG⟩, hB⟩

end Go.Proofs.YtgpkhfpejopacabGreatDoor.Gc

/- The walk of fills. -/
namespace Go.Proofs.YtgpkhfpejopacabGreatDoor.Gc
open Go.RowKit

/-- A slice of lengths that lies in another block than g. -/
def LenIs (w : World) (g : Nat) (v : Value) (ls : List Nat) : Prop :=
  ∃ (a : Option Addr) (lc : Nat), v = .slice a ls.length lc ∧ ls.length ≤ lc ∧ ∀ j, j < ls.length → ∃ lb lo, a = some ⟨lb, lo, none⟩ ∧ lb ≠ g ∧ w.cell? ⟨lb, lo + j, none⟩ = some (.int .i64 (ls.getD j 0 : Int))
theorem LenIs.only {w w' : World} {g : Nat} {v : Value} {ls : List Nat} (h : LenIs w g v ls) (k : Only g w w') : LenIs w' g v ls := by
  obtain ⟨a, lc, e, hl, h⟩ := h
  refine ⟨a, lc, e, hl, fun j hj => ?_⟩
  obtain ⟨lb, lo, e1, e2, e3⟩ := h j hj
  exact ⟨lb, lo, e1, e2, (World.cell?_of_block (w := w) (a := ⟨lb, lo + j, none⟩) (k.2.2 lb e2)).trans e3⟩
/-- What the first look reads. -/
def SF (lb lo g c l r : Nat) (w : World) : Prop := w.cell? ⟨lb, lo, none⟩ = some (.int .i64 (l : Int)) ∧ w.cell? ⟨g, c, none⟩ = some (.int .i64 (r : Int))
theorem Only.trans {g : Nat} {a b c : World} (h : Only g a b) (k : Only g b c) : Only g a c := ⟨h.1.trans k.1, k.2.1.trans h.2.1, fun x hx => (k.2.2 x hx).trans (h.2.2 x hx)⟩

/-- So much is counted of the first c colours. -/
def partF (k l : Nat) (ls : List Nat) (room : Nat → Nat) (c : Nat) : Nat := sR (fun x => if l ≤ room x then fillsN k ls (tk room x l) else 0) c
theorem partF_le (k l : Nat) (ls : List Nat) (room : Nat → Nat) : ∀ c, partF k l ls room c ≤ c * k ^ ls.length
  | 0 => by simp [partF, sR]
  | c + 1 => by
    have ih := partF_le k l ls room c
    unfold partF at ih ⊢
    rw [sR, Nat.add_mul, Nat.one_mul]
    have h := fills_le k ls (tk room c l)
    split <;> omega
theorem pow8 {k m : Nat} (hk : k ≤ 8) (hm : m ≤ 7) : k ^ m ≤ 2097152 := by
  by_cases h0 : k = 0
  · subst h0
    cases m with
    | zero => decide
    | succ m => rw [Nat.zero_pow (by omega)]; omega
  · exact Nat.le_trans (Nat.pow_le_pow_left hk m) (Nat.le_trans (Nat.pow_le_pow_right (by omega) hm) (by decide))

set_option maxRecDepth 100000 in
set_option maxHeartbeats 1000000 in
theorem fills_nil (a : Option Addr) (lc : Nat) (rv : Value) (w : World) : Calls Tryz.prog 90 #[.slice a 0 lc, rv] w fun e w' => e = .returned (.int .i64 1) ∧ w' = w := by
  go_enter Tryz.func90, Tryz.ntmps90
  go_wp2
  go_ret
  exact ⟨rfl, rfl⟩

set_option maxRecDepth 100000 in
theorem cut40a (lb lo m lc : Nat) (h8 : m ≤ 7) (h1 : ¬ lc = 1) (W : World) : (Instr.sliceAt 29 (.slice (some ⟨lb, lo, none⟩) (m + 1) lc) (some (.int .i64 1)) none none).run Tryz.prog W = .ok (.slice (some ⟨lb, lo + 1, none⟩) m (lc - 1)) W := by
  go_simp
  intro q; omega
set_option maxRecDepth 100000 in
theorem cut40b (lb lo : Nat) (W : World) : (Instr.sliceAt 29 (.slice (some ⟨lb, lo, none⟩) (0 + 1) 1) (some (.int .i64 1)) none none).run Tryz.prog W = .ok (.slice (some ⟨lb, lo, none⟩) 0 0) W := by
  go_simp
set_option maxRecDepth 100000 in
theorem cut40 (lb lo m lc : Nat) (h : m + 1 ≤ lc) (h8 : m ≤ 7) : ∃ v1, (∀ W, (Instr.sliceAt 29 (.slice (some ⟨lb, lo, none⟩) (m + 1) lc) (some (.int .i64 1)) none none).run Tryz.prog W = .ok v1 W) ∧ (v1 = .slice (some ⟨lb, lo + 1, none⟩) m (lc - 1) ∨ (lc = 1 ∧ v1 = .slice (some ⟨lb, lo, none⟩) m 0)) := by
  by_cases h1 : lc = 1
  · obtain rfl : m = 0 := by omega
    subst h1
    exact ⟨_, cut40b lb lo, .inr ⟨rfl, rfl⟩⟩
  · exact ⟨_, cut40a lb lo m lc h8 h1, .inl rfl⟩
/-- What fills answers, whatever the room is. -/
def FillsP (k : Nat) (ls : List Nat) : Prop := ∀ (room : Nat → Nat) (g rc : Nat) (lv : Value) (w : World), ls.length ≤ 7 → (∀ x ∈ ls, x ≤ 7) → (∀ c, room c ≤ 7) → LenIs w g lv ls → Own w g k (fun c => (room c : Int)) →
    Calls Tryz.prog 90 #[lv, .slice (some ⟨g, 0, none⟩) k rc] w fun e w' => e = .returned (.int .i64 (fillsN k ls room : Int)) ∧ Own w' g k (fun c => (room c : Int)) ∧ Only g w w'
set_option maxRecDepth 100000 in
set_option maxHeartbeats 8000000 in
theorem fills_any (k : Nat) (hk : k ≤ 8) : ∀ (ls : List Nat), FillsP k ls := by
  intro ls
  induction ls with
  | nil =>
    intro room g rc lv w _ _ _ hL hO
    obtain ⟨a, lc, rfl, _⟩ := hL
    exact (fills_nil a lc _ w).mono fun e w' ⟨e1, e2⟩ => ⟨by rw [e1]; rfl, by rw [e2]; exact hO, by rw [e2]; exact Only.refl _ _⟩
  | cons l ls ih =>
    intro room g rc lv w hlen hl7 hroom hL hO
    obtain ⟨m, Hm⟩ : ∃ m, Hid (ls.length = m) := ⟨_, rfl⟩
    have HL : Hid (LenIs w g lv (l :: ls)) := hL
    obtain ⟨a, lc, rfl, hlc, hcells⟩ := hL
    rw [List.length_cons] at hlc hlen HL hcells ⊢
    rw [Hm.out] at hlc hlen HL hcells ⊢
    obtain ⟨lb, lo, rfl, hlbg, hc0⟩ := hcells 0 (by omega)
    have HC : Hid (∀ j, j < m + 1 → w.cell? ⟨lb, lo + j, none⟩ = some (.int .i64 ((l :: ls).getD j 0 : Int))) := fun j hj => by
      obtain ⟨lb', lo', e1, _, e3⟩ := hcells j hj
      simp only [Option.some.injEq, Addr.mk.injEq, and_true] at e1
      obtain ⟨rfl, rfl⟩ := e1
      exact e3
    have hl := hl7 l (by simp)
    have HR : Hid (∀ c, room c ≤ 7) := hroom
    have HH : Hid (∀ x ∈ ls, x ≤ 7) := fun x hx => hl7 x (by simp [hx])
    have HIH : Hid (FillsP k ls) := ih
    have hpw := pow8 (m := m) hk (by omega)
    have HPF : Hid (∀ c, partF k l ls room c ≤ c * k ^ ls.length) := partF_le k l ls room
    have HPS : Hid (∀ c, partF k l ls room (c + 1) = partF k l ls room c + if l ≤ room c then fillsN k ls (tk room c l) else 0) := fun c => rfl
    have HFL : Hid (∀ r, fillsN k ls r ≤ k ^ ls.length) := fills_le k ls
    rw [Hm.out] at HPF HFL
    obtain ⟨z, Hz⟩ : ∃ z, Hid (fillsN k (l :: ls) room = z) := ⟨_, rfl⟩
    rw [Hz.out]
    have hbl : lb < w.heap.size := by simpa using block_lt_of_cell hc0
    obtain ⟨v1, hcut0, hv1⟩ := cut40 lb lo m lc hlc (by omega)
    have HCUT : Hid (∀ W, (Instr.sliceAt 29 (.slice (some ⟨lb, lo, none⟩) (m + 1) lc) (some (.int .i64 1)) none none).run Tryz.prog W = .ok v1 W) := hcut0
    clear hcut0
    have hm0 : (((m : Int) + 1) == 0) = false := by simp; omega
    clear ih hl7 hroom hcells hc0
    go_enter Tryz.func90, Tryz.ntmps90
    go_wp2
    go_loopw [5, 12] (fun o i wr => ∃ c p : Nat, i = .int .i64 (c : Int) ∧ c ≤ k ∧ o = .int .i64 (p : Int) ∧ Hid (partF k l ls room c = p) ∧ Own wr g k (fun c => (room c : Int)) ∧ Only g w wr) (fun _ i _ => (k - intOf i).toNat)
    case atStart => exact ⟨0, 0, rfl, by omega, rfl, (rfl : partF k l ls room 0 = 0), hO, Only.refl _ _⟩
    case round =>
      clear hO
      obtain ⟨c, p, rfl, hck, rfl, HP, hO, hOn⟩ := hrel
      have hpb := HPF.out c
      rw [HP.out] at hpb
      have hpb2 : p ≤ 8 * 2097152 := Nat.le_trans hpb (Nat.mul_le_mul (by omega) hpw)
      by_cases hlt : c < k
      · have hci : (c : Int) < k := by omega
        have hc0 : (0 : Int) ≤ (c : Int) := by omega
        have hdec : decide ((c : Int) < k) = true := by simp; omega
        have hcr := hO.cell c hlt
        have hfr := hO.frozen c
        have hrb := HR.out c
        have hps := HPS.out c
        have hcl : wr.cell? ⟨lb, lo, none⟩ = some (.int .i64 (l : Int)) := (World.cell?_of_block (w := w) (a := ⟨lb, lo, none⟩) (hOn.2.2 lb hlbg)).trans (by have := HC.out 0 (by omega); simpa using this)
        obtain ⟨rc0, Hrc⟩ : ∃ rc0, Hid (room c = rc0) := ⟨_, rfl⟩
        rw [Hrc.out] at hcr hrb hps
        have hSF : SF lb lo g c l rc0 wr := ⟨hcl, hcr⟩
        by_cases hle : l ≤ rc0
        · have hlei : (l : Int) ≤ (rc0 : Int) := by omega
          have hdl : decide ((l : Int) ≤ (rc0 : Int)) = true := by simp; omega
          rw [if_pos hle] at hps
          go_wp2_with fail
          refine wp_region_noPanic ?_
          refine wp_region_held_drew (S := SF lb lo g c l rc0) (by kernel_rfl) (hSF) (fun hSx => ?_)
          refine wpAnyH_take (i := 0) (v := .slice (some ⟨g, 0, none⟩) k rc) rfl (by kernel_rfl) (by kernel_rfl) (by kernel_rfl) (fun _ _ _ h => h) (Or.inl ⟨by rfl, fun w_ hSw => by clear hSw; go_simp⟩) hSx ?_
          try simp only [Act.put, List.setIfInBounds_toArray]
          refine wpAnyH_take (i := 1) (v := .int .i64 (c : Int)) rfl (by kernel_rfl) (by kernel_rfl) (by kernel_rfl) (fun _ _ _ h => h) (Or.inl ⟨by rfl, fun w_ hSw => by clear hSw; go_simp⟩) hSx ?_
          try simp only [Act.put]
          refine wpAnyH_take (i := 2) (v := .pointer (some ⟨g, c, none⟩)) rfl (by kernel_rfl) (by kernel_rfl) (by kernel_rfl) (fun _ _ _ h => h) (Or.inl ⟨by rfl, fun w_ hSw => by clear hSw; go_simp⟩) hSx ?_
          try simp only [Act.put]
          refine wpAnyH_take (i := 3) (v := .int .i64 (rc0 : Int)) rfl (by kernel_rfl) (by kernel_rfl) (by kernel_rfl) (fun _ _ _ h => h) (Or.inl ⟨by rfl, fun w_ hSw => by obtain ⟨hSw1, hSw2⟩ := hSw; go_simp⟩) hSx ?_
          try simp only [Act.put]
          refine wpAnyH_take (i := 4) (v := .slice (some ⟨lb, lo, none⟩) (m + 1) lc) rfl (by kernel_rfl) (by kernel_rfl) (by kernel_rfl) (fun _ _ _ h => h) (Or.inl ⟨by rfl, fun w_ hSw => by clear hSw; go_simp⟩) hSx ?_
          try simp only [Act.put]
          refine wpAnyH_take (i := 5) (v := .pointer (some ⟨lb, lo, none⟩)) rfl (by kernel_rfl) (by kernel_rfl) (by kernel_rfl) (fun _ _ _ h => h) (Or.inl ⟨by rfl, fun w_ hSw => by clear hSw; go_simp⟩) hSx ?_
          try simp only [Act.put]
          refine wpAnyH_take (i := 6) (v := .int .i64 (l : Int)) rfl (by kernel_rfl) (by kernel_rfl) (by kernel_rfl) (fun _ _ _ h => h) (Or.inl ⟨by rfl, fun w_ hSw => by obtain ⟨hSw1, hSw2⟩ := hSw; go_simp⟩) hSx ?_
          try simp only [Act.put]
          refine wpAnyH_take (i := 7) (v := .bool true) rfl (by kernel_rfl) (by kernel_rfl) (by kernel_rfl) (fun _ _ _ h => h) (Or.inl ⟨by rfl, fun w_ hSw => by clear hSw; go_simp⟩) hSx ?_
          try simp only [Act.put]
          refine wpAnyH_done (by kernel_rfl) ?_ _
          refine NoPanic.normal ?_
          go_simp
          -- the room with l less
          have hO1 : Own (wr.setCell ⟨g, c, none⟩ (.int .i64 ((rc0 - l : Nat) : Int))).drew.drew g k (fun x => (tk room c l x : Int)) := (hO.set c ((rc0 - l : Nat) : Int)).congr fun x _ => by
            unfold upd tk
            by_cases e : x = c
            · rw [if_pos e, if_pos e, e, Hrc.out]
            · rw [if_neg e, if_neg e]
          have hOn1 : Only g w (wr.setCell ⟨g, c, none⟩ (.int .i64 ((rc0 - l : Nat) : Int))).drew.drew := (hOn.set c _).drew.drew
          have hsub : ((rc0 : Int) - (l : Int)) = ((rc0 - l : Nat) : Int) := by omega
          have hSF2 : (wr.setCell ⟨g, c, none⟩ (.int .i64 ((rc0 - l : Nat) : Int))).drew.drew.cell? ⟨lb, lo, none⟩ = some (.int .i64 (l : Int)) := (World.cell?_of_block (w := wr) (heap_setCell_other wr _ _ _ hlbg)).trans hcl
          have hrt : ∀ x, tk room c l x ≤ 7 := fun x => by have := HR.out x; unfold tk; split <;> omega
          go_wp2_with fail
          refine wp_region_noPanic ?_
          refine wp_region_held_drew (S := fun w_ => w_.cell? ⟨lb, lo, none⟩ = some (.int .i64 (l : Int))) (by kernel_rfl) (hcl) (fun hSx => ?_)
          refine wpAnyH_take (i := 0) (v := .slice (some ⟨g, 0, none⟩) k rc) rfl (by kernel_rfl) (by kernel_rfl) (by kernel_rfl) (fun _ _ _ h => h) (Or.inl ⟨by rfl, fun w_ hSw => by clear hSw; go_simp⟩) hSx ?_
          try simp only [Act.put, List.setIfInBounds_toArray]
          refine wpAnyH_take (i := 1) (v := .int .i64 (c : Int)) rfl (by kernel_rfl) (by kernel_rfl) (by kernel_rfl) (fun _ _ _ h => h) (Or.inl ⟨by rfl, fun w_ hSw => by clear hSw; go_simp⟩) hSx ?_
          try simp only [Act.put]
          refine wpAnyH_take (i := 2) (v := .pointer (some ⟨g, c, none⟩)) rfl (by kernel_rfl) (by kernel_rfl) (by kernel_rfl) (fun _ _ _ h => h) (Or.inl ⟨by rfl, fun w_ hSw => by clear hSw; go_simp⟩) hSx ?_
          try simp only [Act.put]
          refine wpAnyH_take (i := 4) (v := .slice (some ⟨lb, lo, none⟩) (m + 1) lc) rfl (by kernel_rfl) (by kernel_rfl) (by kernel_rfl) (fun _ _ _ h => h) (Or.inl ⟨by rfl, fun w_ hSw => by clear hSw; go_simp⟩) hSx ?_
          try simp only [Act.put]
          refine wpAnyH_take (i := 5) (v := .pointer (some ⟨lb, lo, none⟩)) rfl (by kernel_rfl) (by kernel_rfl) (by kernel_rfl) (fun _ _ _ h => h) (Or.inl ⟨by rfl, fun w_ hSw => by clear hSw; go_simp⟩) hSx ?_
          try simp only [Act.put]
          refine wpAnyH_take (i := 6) (v := .int .i64 (l : Int)) rfl (by kernel_rfl) (by kernel_rfl) (by kernel_rfl) (fun _ _ _ h => h) (Or.inl ⟨by rfl, fun w_ hSw => by (try dsimp only at hSw); go_simp⟩) hSx ?_
          try simp only [Act.put]
          refine wpAnyH_ready (rs := [3]) (by kernel_rfl) (by simp) ?_
          refine AllReadyH.cons rfl (fun J hJ => ?_) AllReadyH.nil
          go_simp
          refine hJ.out _ _ hSx (fun hSy => ?_)
          clear hJ J
          try simp only [Act.put, List.setIfInBounds_toArray, List.set_cons_zero, List.set_cons_succ]
          refine wpAnyH_take (i := 7) (v := .int .i64 ((rc0 - l : Nat) : Int)) rfl (by kernel_rfl) (by kernel_rfl) (by kernel_rfl) (fun _ _ _ h => h) (Or.inl ⟨by rfl, fun w_ hSw => by clear hSw; go_simp; rw [IntKind.wrap_i64]; omega⟩) hSy ?_
          try simp only [Act.put, List.setIfInBounds_toArray]
          refine wpAnyH_take (i := 8) (v := .pointer (some ⟨g, c, none⟩)) rfl (by kernel_rfl) (by kernel_rfl) (by kernel_rfl) (fun _ _ _ h => h) (Or.inl ⟨by rfl, fun w_ hSw => by clear hSw; go_simp⟩) hSy ?_
          try simp only [Act.put]
          refine wpAnyH_ready (rs := [9]) (by kernel_rfl) (by simp) ?_
          refine AllReadyH.cons rfl (fun J hJ => ?_) AllReadyH.nil
          go_simp
          refine hJ.out _ _ hSF2 (fun _ => ?_)
          clear hJ J
          refine wpAnyH_done (by kernel_rfl) ?_ _
          refine NoPanic.normal ?_
          have hcut := HCUT.out
          -- the call of itself
          have hL1 : ∀ W, Only g w W → LenIs W g v1 ls := fun W hW => by
            rcases hv1 with rfl | ⟨h1, rfl⟩
            · refine ⟨_, lc - 1, by rw [Hm.out], by rw [Hm.out]; omega, fun q hq => ⟨lb, lo + 1, rfl, hlbg, ?_⟩⟩
              rw [Hm.out] at hq
              have h := (World.cell?_of_block (w := w) (a := ⟨lb, lo + (q + 1), none⟩) (hW.2.2 lb hlbg)).trans (HC.out (q + 1) (by omega))
              rw [show lo + 1 + q = lo + (q + 1) by omega]
              simpa using h
            · exact ⟨_, 0, by rw [Hm.out], by rw [Hm.out]; omega, fun q hq => absurd hq (by rw [Hm.out]; omega)⟩
          have C := HIH.out (tk room c l) g rc _ _ (by rw [Hm.out]; omega) HH.out hrt (hL1 _ hOn1) hO1
          have hf := HFL.out (tk room c l)
          rw [HP.out] at hps
          obtain ⟨f, Hf⟩ : ∃ f, Hid (fillsN k ls (tk room c l) = f) := ⟨_, rfl⟩
          rw [Hf.out] at C hf hps
          have hfb : f ≤ 2097152 := Nat.le_trans hf hpw
          have HPN : Hid (partF k l ls room (c + 1) = p + f) := hps
          have hadd : (((rc0 - l : Nat) : Int) + (l : Int)) = (rc0 : Int) := by omega
          clear hv1 hps hL1 hO1 hSF2 hSx hSF hcl hcr hfr hO hf
          go_wp2_with (go_at_call 90; refine C.mono ?_; rintro e w2 ⟨rfl, hO2, hOn2⟩)
          have hOn3 := hOn1.trans hOn2
          have hcl3 : w2.cell? ⟨lb, lo, none⟩ = some (.int .i64 (l : Int)) := (World.cell?_of_block (w := w) (a := ⟨lb, lo, none⟩) (hOn3.2.2 lb hlbg)).trans (by have := HC.out 0 (by omega); simpa using this)
          have hcr := hO2.cell c hlt
          have hfr := hO2.frozen c
          have htc : tk room c l c = rc0 - l := by unfold tk; rw [if_pos rfl, Hrc.out]
          rw [htc] at hcr
          have hSF3 : (w2.setCell ⟨g, c, none⟩ (.int .i64 (rc0 : Int))).drew.cell? ⟨lb, lo, none⟩ = some (.int .i64 (l : Int)) := (World.cell?_of_block (w := w2) (heap_setCell_other w2 _ _ _ hlbg)).trans hcl3
          have hO4 : Own (w2.setCell ⟨g, c, none⟩ (.int .i64 (rc0 : Int))).drew g k (fun c => (room c : Int)) := (hO2.set c (rc0 : Int)).congr fun x _ => by
            unfold upd tk
            by_cases e : x = c
            · rw [if_pos e, e, Hrc.out]
            · rw [if_neg e]; show ((if x = c then room x - l else room x : Nat) : Int) = _; rw [if_neg e]
          have hOn4 : Only g w (w2.setCell ⟨g, c, none⟩ (.int .i64 (rc0 : Int))).drew := (hOn3.set c _).drew
          clear hO2 hOn2 hOn1 C hOn htc
          go_wp2_with fail
          refine wp_region_noPanic ?_
          refine wp_region_held_drew (S := fun w_ => w_.cell? ⟨lb, lo, none⟩ = some (.int .i64 (l : Int))) (by kernel_rfl) (hcl3) (fun hSx => ?_)
          refine wpAnyH_take (i := 0) (v := .slice (some ⟨g, 0, none⟩) k rc) rfl (by kernel_rfl) (by kernel_rfl) (by kernel_rfl) (fun _ _ _ h => h) (Or.inl ⟨by rfl, fun w_ hSw => by clear hSw; go_simp⟩) hSx ?_
          try simp only [Act.put, List.setIfInBounds_toArray]
          refine wpAnyH_take (i := 1) (v := .int .i64 (c : Int)) rfl (by kernel_rfl) (by kernel_rfl) (by kernel_rfl) (fun _ _ _ h => h) (Or.inl ⟨by rfl, fun w_ hSw => by clear hSw; go_simp⟩) hSx ?_
          try simp only [Act.put]
          refine wpAnyH_take (i := 2) (v := .pointer (some ⟨g, c, none⟩)) rfl (by kernel_rfl) (by kernel_rfl) (by kernel_rfl) (fun _ _ _ h => h) (Or.inl ⟨by rfl, fun w_ hSw => by clear hSw; go_simp⟩) hSx ?_
          try simp only [Act.put]
          refine wpAnyH_take (i := 4) (v := .slice (some ⟨lb, lo, none⟩) (m + 1) lc) rfl (by kernel_rfl) (by kernel_rfl) (by kernel_rfl) (fun _ _ _ h => h) (Or.inl ⟨by rfl, fun w_ hSw => by clear hSw; go_simp⟩) hSx ?_
          try simp only [Act.put]
          refine wpAnyH_take (i := 5) (v := .pointer (some ⟨lb, lo, none⟩)) rfl (by kernel_rfl) (by kernel_rfl) (by kernel_rfl) (fun _ _ _ h => h) (Or.inl ⟨by rfl, fun w_ hSw => by clear hSw; go_simp⟩) hSx ?_
          try simp only [Act.put]
          refine wpAnyH_take (i := 6) (v := .int .i64 (l : Int)) rfl (by kernel_rfl) (by kernel_rfl) (by kernel_rfl) (fun _ _ _ h => h) (Or.inl ⟨by rfl, fun w_ hSw => by (try dsimp only at hSw); go_simp⟩) hSx ?_
          try simp only [Act.put]
          refine wpAnyH_ready (rs := [3]) (by kernel_rfl) (by simp) ?_
          refine AllReadyH.cons rfl (fun J hJ => ?_) AllReadyH.nil
          go_simp
          refine hJ.out _ _ hSx (fun hSy => ?_)
          clear hJ J
          try simp only [Act.put, List.setIfInBounds_toArray, List.set_cons_zero, List.set_cons_succ]
          refine wpAnyH_take (i := 7) (v := .int .i64 (rc0 : Int)) rfl (by kernel_rfl) (by kernel_rfl) (by kernel_rfl) (fun _ _ _ h => h) (Or.inl ⟨by rfl, fun w_ hSw => by clear hSw; go_simp; rw [IntKind.wrap_i64]; omega⟩) hSy ?_
          try simp only [Act.put, List.setIfInBounds_toArray]
          refine wpAnyH_take (i := 8) (v := .pointer (some ⟨g, c, none⟩)) rfl (by kernel_rfl) (by kernel_rfl) (by kernel_rfl) (fun _ _ _ h => h) (Or.inl ⟨by rfl, fun w_ hSw => by clear hSw; go_simp⟩) hSy ?_
          try simp only [Act.put]
          refine wpAnyH_ready (rs := [9]) (by kernel_rfl) (by simp) ?_
          refine AllReadyH.cons rfl (fun J hJ => ?_) AllReadyH.nil
          go_simp
          refine hJ.out _ _ hSF3 (fun _ => ?_)
          clear hJ J
          refine wpAnyH_done (by kernel_rfl) ?_ _
          refine NoPanic.normal ?_
          go_wp2
          go_roundw
          case rel => exact ⟨c + 1, p + f, by go_num, by omega, by go_num, HPN, hO4, hOn4⟩
          case measure => simp [intOf]; omega
        · have hlei : ¬ (l : Int) ≤ (rc0 : Int) := by omega
          have hdl : decide ((l : Int) ≤ (rc0 : Int)) = false := by simp; omega
          rw [if_neg hle, Nat.add_zero, HP.out] at hps
          have HPN : Hid (partF k l ls room (c + 1) = p) := hps
          clear hps
          go_wp2_with fail
          refine wp_region_noPanic ?_
          refine wp_region_held_drew (S := SF lb lo g c l rc0) (by kernel_rfl) (hSF) (fun hSx => ?_)
          refine wpAnyH_take (i := 0) (v := .slice (some ⟨g, 0, none⟩) k rc) rfl (by kernel_rfl) (by kernel_rfl) (by kernel_rfl) (fun _ _ _ h => h) (Or.inl ⟨by rfl, fun w_ hSw => by clear hSw; go_simp⟩) hSx ?_
          try simp only [Act.put, List.setIfInBounds_toArray]
          refine wpAnyH_take (i := 1) (v := .int .i64 (c : Int)) rfl (by kernel_rfl) (by kernel_rfl) (by kernel_rfl) (fun _ _ _ h => h) (Or.inl ⟨by rfl, fun w_ hSw => by clear hSw; go_simp⟩) hSx ?_
          try simp only [Act.put]
          refine wpAnyH_take (i := 2) (v := .pointer (some ⟨g, c, none⟩)) rfl (by kernel_rfl) (by kernel_rfl) (by kernel_rfl) (fun _ _ _ h => h) (Or.inl ⟨by rfl, fun w_ hSw => by clear hSw; go_simp⟩) hSx ?_
          try simp only [Act.put]
          refine wpAnyH_take (i := 3) (v := .int .i64 (rc0 : Int)) rfl (by kernel_rfl) (by kernel_rfl) (by kernel_rfl) (fun _ _ _ h => h) (Or.inl ⟨by rfl, fun w_ hSw => by obtain ⟨hSw1, hSw2⟩ := hSw; go_simp⟩) hSx ?_
          try simp only [Act.put]
          refine wpAnyH_take (i := 4) (v := .slice (some ⟨lb, lo, none⟩) (m + 1) lc) rfl (by kernel_rfl) (by kernel_rfl) (by kernel_rfl) (fun _ _ _ h => h) (Or.inl ⟨by rfl, fun w_ hSw => by clear hSw; go_simp⟩) hSx ?_
          try simp only [Act.put]
          refine wpAnyH_take (i := 5) (v := .pointer (some ⟨lb, lo, none⟩)) rfl (by kernel_rfl) (by kernel_rfl) (by kernel_rfl) (fun _ _ _ h => h) (Or.inl ⟨by rfl, fun w_ hSw => by clear hSw; go_simp⟩) hSx ?_
          try simp only [Act.put]
          refine wpAnyH_take (i := 6) (v := .int .i64 (l : Int)) rfl (by kernel_rfl) (by kernel_rfl) (by kernel_rfl) (fun _ _ _ h => h) (Or.inl ⟨by rfl, fun w_ hSw => by obtain ⟨hSw1, hSw2⟩ := hSw; go_simp⟩) hSx ?_
          try simp only [Act.put]
          refine wpAnyH_take (i := 7) (v := .bool false) rfl (by kernel_rfl) (by kernel_rfl) (by kernel_rfl) (fun _ _ _ h => h) (Or.inl ⟨by rfl, fun w_ hSw => by clear hSw; go_simp⟩) hSx ?_
          try simp only [Act.put]
          refine wpAnyH_done (by kernel_rfl) ?_ _
          refine NoPanic.normal ?_
          go_simp
          go_wp2
          go_roundw
          case rel => exact ⟨c + 1, p, by go_num, by omega, rfl, HPN, hO, hOn.drew⟩
          case measure => simp [intOf]; omega
      · have hdec : decide ((c : Int) < k) = false := by simp; omega
        obtain rfl : c = k := by omega
        obtain rfl : p = z := by rw [← HP.out, ← Hz.out]; rfl
        go_wp2
        go_ret
        exact ⟨rfl, hO, hOn⟩

end Go.Proofs.YtgpkhfpejopacabGreatDoor.Gc

/- The walk of the library's Backward, at seven numbers. -/
namespace Go.Proofs.YtgpkhfpejopacabGreatDoor.Gc
open Go.RowKit Go.Shelf

attribute [local go_sem] Oper.semAt_some

/-- What lies in these blocks lies there as it lay. -/
def Same (S : Nat → Prop) (A B : World) : Prop := ∀ b, S b → B.heap[b]? = A.heap[b]?
theorem Same.refl (S : Nat → Prop) (A : World) : Same S A A := fun _ _ => rfl
theorem Same.trans {S : Nat → Prop} {A B C : World} (h : Same S A B) (k : Same S B C) : Same S A C := fun b hb => (k b hb).trans (h b hb)
theorem Same.put {S : Nat → Prop} {n : Nat} (hS : ∀ b, S b → b < n) (A : World) {l : Nat} (o : Obj) (hl : n ≤ l) : Same S A (A.putObj l o) :=
  fun b hb => World.putObj_heap_other (by have := hS b hb; omega)
theorem wide_no {p : Prop} (h : Fence.wide.depth.isSome = true) : p := by cases h

/-- A pair that is handed out: a place and what stands there. -/
abbrev BP := {p : Nat × Nat // p.1 ≤ 6 ∧ p.2 ≤ 7}
def bpE (x : BP) : Array Value := #[.int .i64 (x.1.1 : Int), .int .i64 (x.1.2 : Int)]
/-- The first m pairs, from behind. -/
def bpL (x : List Nat) (hx : SmK x) : Nat → List BP
  | 0 => []
  | m + 1 => bpL x hx m ++ [⟨(6 - m, x.getD (6 - m) 0), by simp, hx.2 _ (by omega)⟩]
theorem bpL_len (x : List Nat) (hx : SmK x) : ∀ m, (bpL x hx m).length = m
  | 0 => rfl
  | m + 1 => by rw [bpL, List.length_append, bpL_len x hx m]; rfl

set_option maxRecDepth 100000 in
set_option maxHeartbeats 1000000 in
theorem Backward_any (a : Option Addr) (m c : Nat) (w : World) : Calls Tryz.prog 127 #[.slice a m c] w fun e w' => e = .returned (.func (.func 156) #[] #[.pointer (some ⟨w.heap.size, 0, none⟩)]) ∧ w' = w.alloc (.cells #[.slice a m c] 29) := by
  go_enter Tryz.func127, Tryz.ntmps127
  go_wp2
  go_ret
  exact ⟨rfl, rfl⟩

set_option maxRecDepth 100000 in
set_option maxHeartbeats 2000000 in
theorem back_seq (n A B : Nat) (x : List Nat) (hx : SmK x) (S : Nat → Prop) (w : World) (hA : MRow 136 w A (fun j => (x.getD j 0 : Int))) (hB : w.heap[B]? = some (.cells #[.slice (some ⟨A, 0, none⟩) 7 7] 29 (0, 0))) (hSA : S A) (hSB : S B) :
    SeqStopsK Fence.wide n Tryz.prog 156 #[.pointer (some ⟨B, 0, none⟩)] bpE (Same S) (fun xs => xs = bpL x hx 7) (fun _ => True) 7 w := by
  intro l J Jx W hbW _ _ hY hJ0
  have hAl : A < w.heap.size := (Array.getElem?_eq_some_iff.1 hA).1
  have hBl : B < w.heap.size := (Array.getElem?_eq_some_iff.1 hB).1
  have hA1 : MRow 136 W A (fun j => (x.getD j 0 : Int)) := (hbW.block A hAl).trans hA
  have hB1 : W.heap[B]? = some (.cells #[.slice (some ⟨A, 0, none⟩) 7 7] 29 (0, 0)) := (hbW.block B hBl).trans hB
  clear hA hB hAl hBl
  have HY : Hid (∀ pre x W1, J pre W1 → pre.length < 7 → YieldAt Fence.wide (n - 1) Tryz.prog l (bpE x) W1 fun e W' => (e = .returned (.bool true) ∧ J (pre ++ [x]) W' ∧ Same S W1 W') ∨ (e = .returned (.bool false) ∧ Jx (pre ++ [x]) W')) := hY
  have HX : Hid (SmK x) := hx
  clear hY
  refine callsIn_of_wp Tryz.func156 rfl trivial ?_ rfl
  simp only [Tryz.ntmps156, List.size_toArray, List.length_cons, List.length_nil, Nat.reduceAdd, Nat.reduceSub, Array.replicate_succ, Array.replicate_zero, List.push_toArray, List.append_toArray, List.nil_append, List.cons_append]
  have hBc : W.cell? ⟨B, 0, none⟩ = some (.slice (some ⟨A, 0, none⟩) 7 7) := by simpa using cell_of_row W B 0 _ _ _ hB1
  gi_wp2
  gi_loopw [3] (fun y wr => ∃ m : Nat, m ≤ 7 ∧ y = .int .i64 (6 - (m : Int)) ∧ J (bpL x hx m) wr ∧ Same S W wr) (fun y _ => (intOf y + 1).toNat)
  case atStart => exact ⟨0, by omega, rfl, hJ0, Same.refl _ _⟩
  case round =>
    clear hBc
    obtain ⟨m, hm, rfl, hJ, hS⟩ := hrel
    have hA2 : MRow 136 wr A (fun j => (x.getD j 0 : Int)) := (hS A hSA).trans hA1
    have hB2 : wr.heap[B]? = some (.cells #[.slice (some ⟨A, 0, none⟩) 7 7] 29 (0, 0)) := (hS B hSB).trans hB1
    have hBc : wr.cell? ⟨B, 0, none⟩ = some (.slice (some ⟨A, 0, none⟩) 7 7) := by simpa using cell_of_row wr B 0 _ _ _ hB2
    by_cases hlt : m < 7
    · have hd : decide ((0 : Int) ≤ 6 - (m : Int)) = true := by simp; omega
      obtain ⟨q, hq⟩ : ∃ q : Nat, q = 6 - m := ⟨_, rfl⟩
      have e6 : (6 : Int) - (m : Int) = (q : Int) := by omega
      have hq6 : q ≤ 6 := by omega
      have hq7 : q < 7 := by omega
      have hc := hA2.cell q hq7
      obtain ⟨c, Hc⟩ : ∃ c, Hid (x.getD q 0 = c) := ⟨_, rfl⟩
      have hc7 : c ≤ 7 := by rw [← Hc.out]; exact hx.2 q hq7
      rw [Hc.out] at hc
      obtain ⟨fn, tmps, assign, body, hy, hR⟩ := HY.out (bpL x hx m) ⟨(q, c), hq6, hc7⟩ wr hJ (by rw [bpL_len]; exact hlt)
      rw [e6] at hd ⊢
      have HQ : Hid (q = 6 - m ∧ (6 : Int) - (m : Int) = (q : Int)) := ⟨hq, e6⟩
      have hq0 : (0 : Int) ≤ (q : Int) := by omega
      have hqi : (q : Int) < 7 := by omega
      simp only [bpE] at hy
      clear hq e6
      gi_wp2
      refine ⟨(fun h => by cases h), hR.mono ?_⟩
      rintro e W3 (⟨rfl, hJ3, hs3⟩ | ⟨rfl, hJx3⟩)
      · gi_wp2
        go_roundw
        case rel =>
          obtain ⟨hq, e6⟩ := HQ.out
          refine ⟨m + 1, by omega, by go_num, ?_, hS.trans hs3⟩
          rw [bpL]
          have hcc := Hc.out
          subst hq
          subst hcc
          exact hJ3
        case measure => (simp [intOf]; try omega)
      · gi_wp2
        refine bodyPost_ret (results_none rfl _ _ _) rfl ?_
        exact ⟨⟨_, rfl⟩, .inr ⟨_, trivial, hJx3⟩⟩
    · have hd : decide ((0 : Int) ≤ 6 - (m : Int)) = false := by simp; omega
      obtain rfl : m = 7 := by omega
      gi_wp2
      go_end0
      exact ⟨⟨_, rfl⟩, .inl ⟨_, rfl, hJ⟩⟩

end Go.Proofs.YtgpkhfpejopacabGreatDoor.Gc

namespace Go.Proofs.YtgpkhfpejopacabGreatDoor.Gc
open Go.RowKit Go.Shelf

attribute [local go_sem] Oper.semAt_some

/-- An append onto a row of the call's own, as one step of a region that draws its order, inside a fence. -/
theorem stepIn_append_own {F : Fence} {n : Nat} {P : Program} {ops : Array Oper} {o : Oper} {a : Act} {w : World} {K : Act → World → Prop} {Q : Exit → Act → World → Prop} {E : Prop}
    (hg : o.guard = none) (s x : Operand) (t : TypeId) (hop : o.op = Op.call { callee := Callee.builtin Builtin.append, args := #[s, x], argTypes := #[t, t] })
    (base : Nat) (e : TypeId) (i : TypeInfo) (z : Value) (size bytes : Nat) (h1 : P.underlying t = some (.slice e)) (h2 : P.info? e = some i) (h3 : i.zero = some z) (h4 : i.size = size) (h5 : i.bytes = bytes) (h6 : z.cells.size = size) (h7 : 0 < size)
    (v : Value) (k : Nat) (xs : List Value) (hs : a.eval s = v) (hown : w.ownsRow base e size v k xs) (ad : Addr) (m c : Nat) (news : List Value) (hx : a.eval x = .slice (some ad) m c) (hn : news.length = m * size)
    (hc : ∀ j u, news[j]? = some u → w.cell? (ad.add j) = some u) (h1c : ∀ u ∈ news, u.oneCell' = true) (b1 : k + m ≤ maxLen) (b2 : (k + m) * bytes ≤ 140737488355328) (b3 : base ≤ w.heap.size)
    (hK : ∀ v' w', w'.ownsRow base e size v' (k + m) (xs ++ news) → w.grownBy w' v.ownBlock → K (a.put o.dst v') w') :
    if Region.wanted o (yielded ops a.tmps) = true then Oper.wpIn F n P o a w K Q else E := by
  have hw : Region.wanted o (yielded ops a.tmps) = true := by simp [Region.wanted, hg]
  rw [if_pos hw]
  obtain ⟨v', w', hrun, r1, r2, _⟩ := run_append_own (P := P) w base t o.type e i z size bytes h1 h2 h3 h4 h5 h6 h7 v k xs hown ad m c news hn hc h1c b1 b2 b3
  unfold Oper.wpIn
  refine ⟨?_, ?_⟩
  · simp [Oper.about, hop, resolve, Target.leads, Sem.run_pure]
  · rw [Oper.semAt_plain F _ _ (by rw [hop]; intro c hc'; cases hc')]
    simp [execOp, hop, resolve, invoke, builtin, hs, hx, hrun, Result.andThen]
    exact hK _ _ r1 r2

theorem boxBelow {W W' : World} {B : Nat} {t : TypeId} {v : Value} (h : Boxed W B t v) (hb : Below W.heap.size W W') : Boxed W' B t v := (hb.block B h.lt).trans h
theorem ownFrom_same {β : Type} {S : Nat → Prop} {w : World} (hS : ∀ b, S b → b < w.heap.size) : OwnFrom w.heap.size (fun (_ : β) W => Same S w W) := by
  intro s W W' row hs hg hr b hb
  have hlt := hS b hb
  have hw : W.heap[b]? = some w.heap[b] := (hs b hb).trans (Array.getElem?_eq_getElem hlt)
  refine (hg.block b (Array.getElem?_eq_some_iff.1 hw).1 (fun e => ?_)).trans (hs b hb)
  have := (hr b e.symm).1
  omega
/-- In a round operations that defer nothing are carried out as everywhere. -/
theorem wpAnyIn_round {F : Fence} {n : Nat} {P : Program} {md : Region.Mode} {ops : Array Oper} {Q : Exit → Act → World → Prop} (l : Nat) (hd : ∀ (i : Nat) (o : Oper), ops[i]? = some o → ∀ c, o.op ≠ .defer c) :
    ∀ (fuel : Nat) (listed : Array Bool) (a : Act) (w : World), F.round = none → wpAnyIn F n P md ops Q fuel listed a w → wpAnyIn (F.inRound l) n P md ops Q fuel listed a w := by
  intro fuel
  induction fuel with
  | zero => intro listed a w _ h; exact h
  | succ fuel ih =>
    intro listed a w hro h
    refine ⟨h.1, fun i hi => ?_⟩
    have h2 := h.2 i hi
    unfold wpOpIn at h2 ⊢
    cases ho : ops[i]? with
    | none => rw [ho] at h2; exact ih _ _ _ hro h2
    | some o =>
      rw [ho] at h2
      simp only at h2 ⊢
      by_cases hw : Region.wanted o (yielded ops a.tmps) = true
      · rw [if_pos hw] at h2 ⊢
        have h3 := Oper.wpIn_mono (fun a w h => ih _ a w hro h) h2
        refine ⟨h3.1, ?_⟩
        have h4 := h3.2
        rw [Oper.semAt_eq _ _ _ (hd i o ho)] at h4 ⊢
        exact h4
      · rw [if_neg hw] at h2 ⊢
        exact ⟨h2.1, ih _ _ _ hro h2.2⟩

theorem ownFrom_size {β : Type} {B n : Nat} : OwnFrom B (fun (_ : β) (W : World) => n ≤ W.heap.size) := fun _ _ _ _ h hg _ => Nat.le_trans h hg.size
theorem ownsRow_base {w : World} {b b' : Nat} {e : TypeId} {size : Nat} {v : Value} {n : Nat} {xs : List Value} (h : w.ownsRow b' e size v n xs) (hb : b ≤ b') : w.ownsRow b e size v n xs := by
  obtain ⟨h1, h2 | ⟨g, cap, cur, e1, e2, e3⟩⟩ := h
  · exact ⟨h1, .inl h2⟩
  · exact ⟨h1, .inr ⟨g, cap, cur, e1, by omega, e3⟩⟩

theorem keepsOthers_below {A B : World} (h : Below A.heap.size A B) : KeepsOthers A B := ⟨h.size, fun k _ hk _ => (h.block k (Array.getElem?_eq_some_iff.1 hk).1).trans hk⟩
/-- What an append to the row in the box leaves. -/
theorem appFacts {S : Nat → Prop} {W W5 w2 : World} {ob lo base k m : Nat} {t e : TypeId} {size : Nat} {u v' : Value} {xs ys : List Value} (hte : t ≠ e) (hu : Boxed W ob t u) (hrow : W.ownsRow base e size u k xs) (h5 : Below W.heap.size W W5)
    (hSlt : ∀ b, S b → b < base) (hSo : ¬ S ob) (hsz : base ≤ W.heap.size) (hlo : lo ≤ ob ∧ lo ≤ base) (hown' : w2.ownsRow base e size v' m ys) (hgrow : W5.grownBy w2 u.ownBlock) :
    Boxed w2 ob t u ∧ Boxed (w2.setCell ⟨ob, 0, none⟩ v') ob t v' ∧ (w2.setCell ⟨ob, 0, none⟩ v').ownsRow base e size v' m ys ∧ KeepsOthers W (w2.setCell ⟨ob, 0, none⟩ v') ∧ Same S W (w2.setCell ⟨ob, 0, none⟩ v') ∧ Below lo W (w2.setCell ⟨ob, 0, none⟩ v') := by
  have hu5 := boxBelow hu h5
  have hrow5 : W5.ownsRow base e size u k xs := hrow.kept (grown_of_below h5) (by cases h : u.ownBlock <;> simp)
  have h1 : Boxed w2 ob t u := hu5.kept hgrow (hu.not_row hte hrow)
  have hblk : ∀ b, b < base → b ≠ ob → (w2.setCell ⟨ob, 0, none⟩ v').heap[b]? = W.heap[b]? := by
    intro b hb hne
    refine (heap_setCell_other w2 ⟨ob, 0, none⟩ b v' hne).trans ((hgrow.block b (by have := h5.size; omega) (fun e => ?_)).trans (h5.block b (by omega)))
    rcases hrow.2 with ⟨rfl, _⟩ | ⟨g, cap, cur, rfl, hg, _⟩
    · simp [Value.ownBlock] at e
    · simp [Value.ownBlock] at e
      omega
  refine ⟨h1, h1.set v', hown'.kept (grownBy_setCell' w2 ob v') (.inr (h1.not_row hte hown').symm), ?_, fun b hb => hblk b (hSlt b hb) (fun e => hSo (e ▸ hb)), ?_⟩
  · refine ((keepsOthers_below h5).trans (KeepsOthers.of_grownBy hgrow fun j o ej hj => ?_)).trans (KeepsOthers.setCell _ _ _)
    rcases hrow5.2 with ⟨rfl, _⟩ | ⟨g, cap, cur, rfl, _, hgb, _⟩
    · simp [Value.ownBlock] at ej
    · obtain rfl : g = j := by simpa [Value.ownBlock] using ej
      rw [hgb] at hj; cases hj; rfl
  · refine ⟨hgrow.os.trans h5.os, hgrow.tape.trans h5.tape, hgrow.output.trans h5.output, ?_, fun b hb => hblk b (by omega) (by omega)⟩
    have := hgrow.size
    have := h5.size
    simp
    omega

/-- What these pairs make. -/
def outB (l : List BP) : List Nat := l.flatMap fun p => List.replicate p.1.2 (p.1.1 + 1)
theorem outB_snoc (l : List BP) (p : BP) : outB (l ++ [p]) = outB l ++ List.replicate p.1.2 (p.1.1 + 1) := by simp [outB]
theorem outB_len (l : List BP) : (outB l).length ≤ 7 * l.length := by
  induction l with
  | nil => simp [outB]
  | cons p l ih =>
    have : outB (p :: l) = List.replicate p.1.2 (p.1.1 + 1) ++ outB l := by simp [outB]
    rw [this, List.length_append, List.length_replicate, List.length_cons]
    have := p.2.2
    omega
theorem outB_bpL (x : List Nat) (hx : SmK x) : ∀ m, m ≤ 7 → outB (bpL x hx m) ++ desc x (7 - m) = desc x 7
  | 0, _ => by simp [outB, bpL]
  | m + 1, h => by
    rw [bpL, outB_snoc, List.append_assoc, ← outB_bpL x hx m (by omega)]
    congr 1
    rw [show 7 - m = (6 - m) + 1 by omega, desc, show 7 - (m + 1) = 6 - m by omega]
theorem outB_all (x : List Nat) (hx : SmK x) : outB (bpL x hx 7) = desc x 7 := by
  have := outB_bpL x hx 7 (by omega)
  rwa [desc, List.append_nil] at this

theorem row_none (u : Value) : u.ownBlock = none ∨ u.ownBlock ≠ none := by cases h : u.ownBlock <;> simp
theorem ownsRow_slice {w : World} {base : Nat} {e : TypeId} {size n : Nat} {v : Value} {xs : List Value} (h : w.ownsRow base e size v n xs) : ∃ a l c, v = .slice a l c := by
  rcases h.2 with ⟨rfl, _⟩ | ⟨g, c, cur, rfl, _⟩
  · exact ⟨_, _, _, rfl⟩
  · exact ⟨_, _, _, rfl⟩
theorem new_rep {W : World} {g x c : Nat} (h : W.heap[g]? = some (.cells (repL x c c).toArray 3 (0, 0))) : ∀ j u, (List.replicate c (Value.int .i64 (x : Int)))[j]? = some u → W.cell? ((⟨g, 0, none⟩ : Addr).add j) = some u := by
  intro j u hj
  have hjc : j < c := by have := (List.getElem?_eq_some_iff.1 hj).1; rwa [List.length_replicate] at this
  rw [List.eq_of_mem_replicate (List.mem_of_getElem? hj)]
  have h2 := cell_of_row W g j _ _ _ h
  rw [List.getElem?_toArray, repL_at hjc] at h2
  rw [Addr.add_mid, Nat.zero_add]
  exact h2
def intL (l : List Nat) : List Value := l.map fun c : Nat => Value.int .i64 (c : Int)

set_option maxRecDepth 100000 in
set_option maxHeartbeats 4000000 in
theorem lengths_any (x : List Nat) (w : World) (hx : SmK x) :
    Calls Tryz.prog 91 #[mv x] w fun e w' => ∃ u, e = .returned u ∧ w'.ownsRow w.heap.size 3 1 u (desc x 7).length (intL (desc x 7)) ∧ Below w.heap.size w w' := by
  obtain ⟨i3, hi, hz0, hz1, hz2⟩ := info3
  refine (callsIn_wide (n := 4)).1 ?_
  rw [← outB_all x hx]
  unfold mv
  obtain ⟨F, HF⟩ : ∃ F : Nat → Int, Hid ((fun j => (x.getD j 0 : Int)) = F) := ⟨_, rfl⟩
  rw [HF.out]
  obtain ⟨w1, Hw1⟩ : ∃ w1, Hid (w1 = ((w.alloc (.cells (mrow F) 136)).alloc (.cells #[.slice none 0 0] 29)).alloc (.cells #[.slice (some ⟨w.heap.size, 0, none⟩) 7 7] 29)) := ⟨_, rfl⟩
  have hB1 : Below w.heap.size w w1 := by rw [Hw1.out]; exact ((balloc w _).alloc (by simp) _).alloc (by simp; omega) _
  have hs1 : w1.heap.size = w.heap.size + 3 := by rw [Hw1.out]; simp
  have hA : MRow 136 w1 w.heap.size F := by rw [Hw1.out]; exact ((MRow.made 136 w F).alloc _).alloc _
  have hob : Boxed w1 (w.heap.size + 1) 29 (.slice none 0 0) := by
    rw [Hw1.out]
    have h := Boxed.new (w.alloc (.cells (mrow F) 136)) 29 (.slice none 0 0)
    rw [World.size_alloc] at h
    exact h.alloc _
  have hBk : w1.heap[w.heap.size + 2]? = some (.cells #[.slice (some ⟨w.heap.size, 0, none⟩) 7 7] 29 (0, 0)) := by
    rw [Hw1.out]
    have h := World.alloc_heap_new ((w.alloc (.cells (mrow F) 136)).alloc (.cells #[.slice none 0 0] 29)) (.cells #[.slice (some ⟨w.heap.size, 0, none⟩) 7 7] 29)
    rw [World.size_alloc, World.size_alloc] at h
    exact h
  refine callsIn_of_wp_marks Tryz.func91 rfl trivial ?_ rfl
  simp only [Tryz.ntmps91, List.size_toArray, List.length_cons, List.length_nil, Nat.reduceAdd, Nat.reduceSub, Array.replicate_succ, Array.replicate_zero, List.push_toArray, List.append_toArray, List.nil_append, List.cons_append]
  gi_wp2_with (refine ⟨trivial, (callsIn_wide.2 (Backward_any (some ⟨w.heap.size, 0, none⟩) 7 7 _)).mono ?_⟩; rintro e w2 ⟨rfl, rfl⟩)
  rw [← Hw1.out]
  have hSlt : ∀ b, (b = w.heap.size ∨ b = w.heap.size + 1 + 1) → b < w1.heap.size := fun b h => by omega
  have hSo : ¬ (w.heap.size + 1 = w.heap.size ∨ w.heap.size + 1 = w.heap.size + 1 + 1) := by omega
  obtain ⟨S, HS⟩ : ∃ S : Nat → Prop, S = fun b => b = w.heap.size ∨ b = w.heap.size + 1 + 1 := ⟨_, rfl⟩
  replace hSlt : ∀ b, S b → b < w1.heap.size := by rw [HS]; exact hSlt
  replace hSo : ¬ S (w.heap.size + 1) := by rw [HS]; exact hSo
  have hsA : S w.heap.size := by rw [HS]; exact .inl rfl
  have hsB : S (w.heap.size + 1 + 1) := by rw [HS]; exact .inr rfl
  clear HS
  have HSQ := back_seq 3 w.heap.size (w.heap.size + 1 + 1) x hx S w1 (by rw [HF.out]; exact hA) hBk hsA hsB
  refine wpIn_rangeFunc_ownF rfl (by decide) (gf := 156) (lb := #[.pointer (some ⟨w.heap.size + 1 + 1, 0, none⟩)]) rfl trivial (enters_of Tryz.func156 (by kernel_rfl) rfl) HSQ Same.trans (fun W l o o' hl _ _ _ => Same.put hSlt W o' hl) (Below.refl _ _) (fun _ => rfl)
    (fun pre W => (∃ u, Boxed W (w.heap.size + 1) 29 u ∧ W.ownsRow w1.heap.size 3 1 u (outB pre).length (intL (outB pre)) ∧ True) ∧ Same S w1 W ∧ w1.heap.size ≤ W.heap.size ∧ Below w.heap.size w W)
    (fun _ _ _ => False)
    (OwnFrom.and (Own.from (holdsRow_own w1.heap.size (w.heap.size + 1) 29 3 1 (fun pre => (outB pre).length) (fun pre => intL (outB pre)) (fun _ _ => True)) _) (OwnFrom.and (ownFrom_same hSlt) (OwnFrom.and ownFrom_size (ownFrom_below (Nat.le_refl _) (by omega)))))
    (fun _ _ _ _ _ h _ _ => h)
    ⟨⟨_, hob, World.ownsRow_nil _ _ _ _, trivial⟩, Same.refl _ _, Nat.le_refl _, hB1⟩
    (fun p => { tmps := #[.agg (mrow F), .pointer (some ⟨w.heap.size, 0, none⟩), .slice none 0 0, .pointer (some ⟨w.heap.size + 1, 0, none⟩), .int .i64 (p.1.1 : Int), .int .i64 (p.1.2 : Int), .slice (some ⟨w.heap.size, 0, none⟩) 7 7, .func (.func 156) #[] #[.pointer (some ⟨w.heap.size + 1 + 1, 0, none⟩)], .int .i64 (p.1.1 : Int), .int .i64 (p.1.2 : Int), undef, undef, undef, undef, undef, undef, undef, undef], defers := [] }) ?assign ?body ?done ?stop
  case assign =>
    intro l p W K hK
    simp only [bpE]
    gi_wp2
    exact hK
  case stop => intro D c pre W _ _ h; exact h.elim
  case done =>
    rintro D xs W hD rfl ⟨⟨u, hu, hrow, _⟩, hsm, hsz, hbw⟩ hK
    have hc := hu.cell
    gi_wp2
    refine ⟨by simp, .inl ⟨_, _, rfl, run_takeDeferred hK, ?_⟩⟩
    exact ⟨_, results_tmp rfl _ _ _, u, rfl, ownsRow_putObj (ownsRow_base hrow hB1.size) _ hK rfl, hbw.trans (belowK_b (w := w) (Nat.le_refl _) W D _ _ (by omega) hK rfl rfl)⟩
  case body =>
    rintro l pre ⟨⟨i, c⟩, hi6, hc7⟩ W ⟨⟨u, hu, hrow, _⟩, hsm, hsz, hbw⟩ hlen
    obtain ⟨a', c', rfl⟩ : ∃ a' c', u = .slice a' (outB pre).length c' := by
      rcases hrow.2 with ⟨rfl, h0⟩ | ⟨g, c, cur, rfl, _⟩
      · exact ⟨none, 0, by rw [h0]⟩
      · exact ⟨_, c, rfl⟩
    have hoc := hu.cell
    have hol := outB_len pre
    obtain ⟨q, Hq⟩ : ∃ q : Nat, Hid (i + 1 = q) := ⟨_, rfl⟩
    have hqi : (i : Int) + 1 = (q : Int) := by have := Hq.out; omega
    have hq7 : q ≤ 7 := by have := Hq.out; have : i ≤ 6 := hi6; omega
    have hu3 := (hu.alloc (.cells #[.int .i64 (q : Int)] 3)).cell
    have HB3 : Hid (W.heap.size < (W.alloc (.cells #[.int .i64 (q : Int)] 3)).heap.size) := by show _ < _; simp
    have HC3 : Hid ((W.alloc (.cells #[.int .i64 (q : Int)] 3)).drew.cell? ⟨W.heap.size, 0, none⟩ = some (.int .i64 (q : Int))) := (Boxed.new W 3 (.int .i64 (q : Int))).cell
    have HB4 : Hid (Below W.heap.size W (W.alloc (.cells #[.int .i64 (q : Int)] 3)).drew) := (balloc W _).drew
    have C5 := fun (A : World) (h1 : W.heap.size < A.heap.size) (h2 : A.cell? ⟨W.heap.size, 0, none⟩ = some (.int .i64 (q : Int))) => Repeat_any q c W.heap.size A hc7 h1 h2
    gi_wp2
    refine wpIn_region_any (by kernel_rfl) (wpAnyIn_round l (fun i o h c e => by revert h; revert i; intro i h; have hm := Array.mem_of_getElem? h; simp at hm; rcases hm with rfl | rfl | rfl | rfl | rfl | rfl | rfl | rfl <;> cases e) _ _ _ _ rfl ?_)
    try (change wpAnyIn _ _ _ _ _ _ _ _ _ (World.drew _))
    refine wpAnyIn_take (i := 1) (v := .int .i64 (i : Int)) rfl rfl (by kernel_rfl) (by kernel_rfl) (by kernel_rfl) (fun _ _ _ h => h) ⟨Or.inl ⟨by rfl, fun w => by go_simp⟩, fun _ => rfl⟩ ?_
    refine wpAnyIn_take (i := 2) (v := .int .i64 (q : Int)) rfl rfl (by kernel_rfl) (by kernel_rfl) (by kernel_rfl) (fun _ _ _ h => h) ⟨Or.inl ⟨by rfl, fun w => by go_simp; (try rw [IntKind.wrap_i64]); (try omega)⟩, fun _ => rfl⟩ ?_
    refine wpAnyIn_take (i := 4) (v := .int .i64 (c : Int)) rfl rfl (by kernel_rfl) (by kernel_rfl) (by kernel_rfl) (fun _ _ _ h => h) ⟨Or.inl ⟨by rfl, fun w => by go_simp⟩, fun _ => rfl⟩ ?_
    refine wpAnyIn_ready (rs := [0, 3]) (by kernel_rfl) (by simp) (AllReadyIn.cons rfl (fun K hK => ?_) (AllReadyIn.cons rfl (fun K hK => ?_) AllReadyIn.nil))
    · go_simp
      refine hK _ _ ?_
      clear hK K
      refine wpAnyIn_ready (rs := [3]) (by kernel_rfl) (by simp) (AllReadyIn.cons rfl (fun K hK => ?_) AllReadyIn.nil)
      go_simp
      refine hK _ _ ?_
      clear hK K
      refine wpAnyIn_ready (rs := [5]) (by kernel_rfl) (by simp) (AllReadyIn.cons rfl (fun K hK => ?_) AllReadyIn.nil)
      go_simp
      refine ⟨trivial, (callsIn_wide.2 (C5 (W.alloc (.cells #[.int .i64 (q : Int)] 3)).drew HB3.out HC3.out)).mono ?_⟩
      rintro e W5 ⟨⟨g, rfl, hg, hG⟩, hb5⟩
      have hb5' : Below W.heap.size W W5 := HB4.out.trans (hb5.mono (by simp))
      have hu5 := boxBelow hu hb5'
      have hoc5 := hu5.cell
      have hrow5 := hrow.kept (grown_of_below hb5') (row_none _)
      refine hK _ _ ?_
      clear hK K
      refine wpAnyIn_ready (rs := [6]) (by kernel_rfl) (by simp) (AllReadyIn.cons rfl (fun K hK => ?_) AllReadyIn.nil)
      refine stepIn_append_own rfl (.tmp 10) (.tmp 15) 29 rfl w1.heap.size 3 i3 (.int .i64 0) 1 8 und22 hi hz0 hz1 hz2 rfl (by decide) (.slice a' (outB pre).length c') (outB pre).length (intL (outB pre)) (by simp [Act.eval]) hrow5 ⟨g, 0, none⟩ c c (List.replicate c (.int .i64 (q : Int))) (by simp [Act.eval]) (by simp) (new_rep hG) (by intro u hu; rw [List.eq_of_mem_replicate hu]; rfl) (by unfold maxLen; omega) (by omega) (by have := hb5'.size; omega) ?_
      intro v' w2 hown' hgrow
      obtain ⟨f1, f2, f3, f4, f5, f6⟩ := appFacts (lo := w.heap.size) (by decide) hu hrow hb5' hSlt hSo hsz ⟨by omega, hB1.size⟩ hown' hgrow
      have f1c := f1.cell
      have f1f := f1.frozen
      obtain ⟨a2, l2, c2, rfl⟩ : ∃ a2 l2 c2, v' = .slice a2 l2 c2 := ownsRow_slice hown'
      refine hK _ _ ?_
      clear hK K
      refine wpAnyIn_ready (rs := [7]) (by kernel_rfl) (by simp) (AllReadyIn.cons rfl (fun K hK => ?_) AllReadyIn.nil)
      go_simp
      refine hK _ _ ?_
      clear hK K
      refine wpAnyIn_done (by kernel_rfl) ?_ _
      gi_wp2
      exact ⟨f4, f5, ⟨_, f2, by rw [outB_snoc, List.length_append, List.length_replicate, intL, List.map_append, List.map_replicate, Hq.out]; exact f3, trivial⟩, hsm.trans f5, Nat.le_trans hsz f6.size, hbw.trans f6⟩
    · go_simp
      refine hK _ _ ?_
      clear hK K
      refine wpAnyIn_ready (rs := [0, 5]) (by kernel_rfl) (by simp) (AllReadyIn.cons rfl (fun K hK => ?_) (AllReadyIn.cons rfl (fun K hK => ?_) AllReadyIn.nil))
      · go_simp
        refine hK _ _ ?_
        clear hK K
        refine wpAnyIn_ready (rs := [5]) (by kernel_rfl) (by simp) (AllReadyIn.cons rfl (fun K hK => ?_) AllReadyIn.nil)
        go_simp
        refine ⟨trivial, (callsIn_wide.2 (C5 (W.alloc (.cells #[.int .i64 (q : Int)] 3)).drew HB3.out HC3.out)).mono ?_⟩
        rintro e W5 ⟨⟨g, rfl, hg, hG⟩, hb5⟩
        have hb5' : Below W.heap.size W W5 := HB4.out.trans (hb5.mono (by simp))
        have hu5 := boxBelow hu hb5'
        have hoc5 := hu5.cell
        have hrow5 := hrow.kept (grown_of_below hb5') (row_none _)
        refine hK _ _ ?_
        clear hK K
        refine wpAnyIn_ready (rs := [6]) (by kernel_rfl) (by simp) (AllReadyIn.cons rfl (fun K hK => ?_) AllReadyIn.nil)
        refine stepIn_append_own rfl (.tmp 10) (.tmp 15) 29 rfl w1.heap.size 3 i3 (.int .i64 0) 1 8 und22 hi hz0 hz1 hz2 rfl (by decide) (.slice a' (outB pre).length c') (outB pre).length (intL (outB pre)) (by simp [Act.eval]) hrow5 ⟨g, 0, none⟩ c c (List.replicate c (.int .i64 (q : Int))) (by simp [Act.eval]) (by simp) (new_rep hG) (by intro u hu; rw [List.eq_of_mem_replicate hu]; rfl) (by unfold maxLen; omega) (by omega) (by have := hb5'.size; omega) ?_
        intro v' w2 hown' hgrow
        obtain ⟨f1, f2, f3, f4, f5, f6⟩ := appFacts (lo := w.heap.size) (by decide) hu hrow hb5' hSlt hSo hsz ⟨by omega, hB1.size⟩ hown' hgrow
        have f1c := f1.cell
        have f1f := f1.frozen
        obtain ⟨a2, l2, c2, rfl⟩ : ∃ a2 l2 c2, v' = .slice a2 l2 c2 := ownsRow_slice hown'
        refine hK _ _ ?_
        clear hK K
        refine wpAnyIn_ready (rs := [7]) (by kernel_rfl) (by simp) (AllReadyIn.cons rfl (fun K hK => ?_) AllReadyIn.nil)
        go_simp
        refine hK _ _ ?_
        clear hK K
        refine wpAnyIn_done (by kernel_rfl) ?_ _
        gi_wp2
        exact ⟨f4, f5, ⟨_, f2, by rw [outB_snoc, List.length_append, List.length_replicate, intL, List.map_append, List.map_replicate, Hq.out]; exact f3, trivial⟩, hsm.trans f5, Nat.le_trans hsz f6.size, hbw.trans f6⟩
      · go_simp
        refine ⟨trivial, (callsIn_wide.2 (C5 (W.alloc (.cells #[.int .i64 (q : Int)] 3)).drew HB3.out HC3.out)).mono ?_⟩
        rintro e W5 ⟨⟨g, rfl, hg, hG⟩, hb5⟩
        have hb5' : Below W.heap.size W W5 := HB4.out.trans (hb5.mono (by simp))
        have hu5 := boxBelow hu hb5'
        have hoc5 := hu5.cell
        have hrow5 := hrow.kept (grown_of_below hb5') (row_none _)
        refine hK _ _ ?_
        clear hK K
        refine wpAnyIn_ready (rs := [0]) (by kernel_rfl) (by simp) (AllReadyIn.cons rfl (fun K hK => ?_) AllReadyIn.nil)
        go_simp
        refine hK _ _ ?_
        clear hK K
        refine wpAnyIn_ready (rs := [6]) (by kernel_rfl) (by simp) (AllReadyIn.cons rfl (fun K hK => ?_) AllReadyIn.nil)
        refine stepIn_append_own rfl (.tmp 10) (.tmp 15) 29 rfl w1.heap.size 3 i3 (.int .i64 0) 1 8 und22 hi hz0 hz1 hz2 rfl (by decide) (.slice a' (outB pre).length c') (outB pre).length (intL (outB pre)) (by simp [Act.eval]) hrow5 ⟨g, 0, none⟩ c c (List.replicate c (.int .i64 (q : Int))) (by simp [Act.eval]) (by simp) (new_rep hG) (by intro u hu; rw [List.eq_of_mem_replicate hu]; rfl) (by unfold maxLen; omega) (by omega) (by have := hb5'.size; omega) ?_
        intro v' w2 hown' hgrow
        obtain ⟨f1, f2, f3, f4, f5, f6⟩ := appFacts (lo := w.heap.size) (by decide) hu hrow hb5' hSlt hSo hsz ⟨by omega, hB1.size⟩ hown' hgrow
        have f1c := f1.cell
        have f1f := f1.frozen
        obtain ⟨a2, l2, c2, rfl⟩ : ∃ a2 l2 c2, v' = .slice a2 l2 c2 := ownsRow_slice hown'
        refine hK _ _ ?_
        clear hK K
        refine wpAnyIn_ready (rs := [7]) (by kernel_rfl) (by simp) (AllReadyIn.cons rfl (fun K hK => ?_) AllReadyIn.nil)
        go_simp
        refine hK _ _ ?_
        clear hK K
        refine wpAnyIn_done (by kernel_rfl) ?_ _
        gi_wp2
        exact ⟨f4, f5, ⟨_, f2, by rw [outB_snoc, List.length_append, List.length_replicate, intL, List.map_append, List.map_replicate, Hq.out]; exact f3, trivial⟩, hsm.trans f5, Nat.le_trans hsz f6.size, hbw.trans f6⟩

end Go.Proofs.YtgpkhfpejopacabGreatDoor.Gc

namespace Go.Proofs.YtgpkhfpejopacabGreatDoor.Gc
open Go.Shelf Go.RowKit

def growInt_ren : Go.Shelf.Ren := ⟨fun | 4 => 132 | n => n, fun | 22 => 29 | 25 => 3 | 3 => 3 | 4 => 4 | 9 => 9 | 20 => 20 | 0 => 0 | n => n, fun | n => n⟩
set_option maxRecDepth 100000 in
theorem growInt : Go.Proofs.Lays8.n4 Tryz.prog growInt_ren := {
  mixed := by kernel_rfl
  f4 := ⟨Tryz.f132.name, by decide, Tryz.func132.trans (congrArg some (by kernel_rfl))⟩
  t0 := Tryz.underlying0
  a0 := Tryz.isAgg0
  z0 := Tryz.sizeOf0
  v0 := Tryz.zeroValue0
  t3 := Tryz.underlying3
  a3 := Tryz.isAgg3
  z3 := Tryz.sizeOf3
  v3 := Tryz.zeroValue3
  t4 := Tryz.underlying4
  a4 := Tryz.isAgg4
  z4 := Tryz.sizeOf4
  v4 := Tryz.zeroValue4
  t9 := Tryz.underlying9
  a9 := Tryz.isAgg9
  z9 := Tryz.sizeOf9
  v9 := Tryz.zeroValue9
  t20 := Tryz.underlying20
  a20 := Tryz.isAgg20
  z20 := Tryz.sizeOf20
  v20 := Tryz.zeroValue20
  t22 := Tryz.underlying29
  a22 := Tryz.isAgg29
  z22 := Tryz.sizeOf29
  v22 := Tryz.zeroValue29 }

/-- Grow of nothing: a row of one's own with room for n. -/
theorem Grow_any (n : Nat) (w : World) (h1 : 1 ≤ n) (h9 : n ≤ 100) :
    Calls Tryz.prog 132 #[.slice none 0 0, .int .i64 (n : Int)] w fun e w' => ∃ cap, e = .returned (.slice (some ⟨w.heap.size, 0, none⟩) 0 cap) ∧ w'.ownsRow w.heap.size 3 1 (.slice (some ⟨w.heap.size, 0, none⟩) 0 cap) 0 [] ∧ Below w.heap.size w w' := by
  obtain ⟨i3, hi, hz0, hz1, hz2⟩ := info3
  have C := Any8.slices_Grow_grow growInt i3 (.int .i64 0) hi hz0 (by omega) none 0 0 n [] w (Nat.le_refl _) (by omega) (by rw [hz2]; omega) (by omega) (by simp) (fun _ => rfl) (fun a h => by cases h)
  change Calls Tryz.prog 132 _ _ _ at C
  refine C.mono ?_
  rintro e w' ⟨rfl, rfl⟩
  obtain ⟨G, hG⟩ : ∃ G, G = grownCap w (0 + n) 0 (growInt_ren.t 25) := ⟨_, rfl⟩
  have hge : 0 + n ≤ G := by rw [hG]; exact grownCap_ge w _ _ _
  have hle : G ≤ maxLen := by rw [hG]; exact grownCap_le_maxLen w (0 + n) 0 _ (by unfold maxLen; omega)
  rw [← hG]
  refine ⟨G, rfl, ⟨by simp, .inr ⟨w.heap.size, G, _, rfl, Nat.le_refl _, heap_alloc_new w.drew _, Nat.zero_le _, hle, ?_, by simp⟩⟩, (Below.refl _ w).drew.alloc (Nat.le_refl _) _⟩
  simp [size_zeroCells, Value.cells]
  omega

theorem lenF_take {ls : List (List Int)} {j : Nat} {l : List Int} (h : ls[j]? = some l) : (ls.take (j + 1)).flatten = (ls.take j).flatten ++ l := by
  have hj := (List.getElem?_eq_some_iff.1 h).1
  rw [List.take_add_one, h, Option.toList_some, List.flatten_append]
  simp
theorem lenF_le (ls : List (List Int)) (j : Nat) : (ls.take j).flatten.length ≤ ls.flatten.length := by
  conv => rhs; rw [← List.take_append_drop j ls, List.flatten_append, List.length_append]
  omega

set_option maxRecDepth 100000 in
set_option maxHeartbeats 2000000 in
theorem Concat_any (ls : List (List Int)) (v : Value) (w : World) (hv : Sls w v ls) (hne : ∀ l ∈ ls, 1 ≤ l.length) (hl : ls.length ≤ 100) (h1 : 1 ≤ ls.flatten.length) (h9 : ls.flatten.length ≤ 100) :
    Calls Tryz.prog 96 #[v] w fun e w' => ∃ u, e = .returned u ∧ w'.ownsRow w.heap.size 3 1 u ls.flatten.length (ls.flatten.map (Value.int .i64)) ∧ Below w.heap.size w w' := by
  obtain ⟨i3, ti, tz0, tz1, tz2⟩ := info3
  obtain ⟨r, Hr⟩ : ∃ r, Hid (ls.length = r) := ⟨_, rfl⟩
  obtain ⟨T, HT⟩ : ∃ T, Hid (ls.flatten.length = T) := ⟨_, rfl⟩
  have HV : Hid (Sls w v ls) := hv
  obtain ⟨a, cap, rfl, hc⟩ := hv
  have HC : Hid (∀ j, j < r → ∃ b off va n c l, a = some ⟨b, off, none⟩ ∧ ls[j]? = some l ∧ l.length = n ∧ 1 ≤ n ∧ (∀ W, Below w.heap.size w W → W.cell? ⟨b, off + j, none⟩ = some (.slice (some va) n c) ∧ ∀ q z, (l.map (Value.int .i64))[q]? = some z → W.cell? (va.add q) = some z)) := fun j hj => by
    have hj' : j < ls.length := by rw [Hr.out]; exact hj
    obtain ⟨b, off, u, e1, e2, a2, c2, rfl, h3⟩ := hc j ls[j] (List.getElem?_eq_getElem hj')
    have hn1 := hne ls[j] (List.getElem_mem hj')
    obtain ⟨b2, o2, rfl, _⟩ := h3 0 (by omega)
    refine ⟨b, off, ⟨b2, o2, none⟩, ls[j].length, c2, ls[j], e1, List.getElem?_eq_getElem hj', rfl, hn1, fun W hW => ⟨?_, fun q z hz => ?_⟩⟩
    · rw [hW.cell (p := ⟨b, off + j, none⟩) (block_lt_of_cell e2)]; exact e2
    · have hq : q < ls[j].length := by have := (List.getElem?_eq_some_iff.1 hz).1; simpa using this
      obtain ⟨b3, o3, e3, h4⟩ := h3 q hq
      simp only [Option.some.injEq, Addr.mk.injEq, and_true] at e3
      obtain ⟨rfl, rfl⟩ := e3
      rw [Addr.add_mid, hW.cell (p := ⟨b2, o2 + q, none⟩) (block_lt_of_cell h4), h4]
      simp [hq] at hz ⊢
      exact hz
  have HLE : Hid (∀ j, (ls.take j).flatten.length ≤ T) := fun j => by rw [← HT.out]; exact lenF_le ls j
  rw [HT.out] at h1 h9 ⊢
  rw [Hr.out] at hl ⊢
  have C := fun W => Grow_any T W h1 h9
  clear hc hne
  go_enter Tryz.func96, Tryz.ntmps96
  go_wp2
  go_loopw [3, 11] (fun s i wr => ∃ j m : Nat, i = .int .i64 (j : Int) ∧ j ≤ r ∧ s = .int .i64 (m : Int) ∧ Hid ((ls.take j).flatten.length = m) ∧ wr = w) (fun _ i _ => (r - intOf i).toNat)
  case atStart => exact ⟨0, 0, rfl, by omega, rfl, (by simp : (ls.take 0).flatten.length = 0), rfl⟩
  case round =>
    obtain ⟨j, m, rfl, hj, rfl, HM, hw⟩ := hrel
    replace hw := hw.symm
    subst hw
    by_cases hlt : j < r
    · have hji : (j : Int) < r := by omega
      have hj0 : (0 : Int) ≤ (j : Int) := by omega
      have hdec : decide ((j : Int) < r) = true := by simp; omega
      obtain ⟨b, off, va, n, c, l, rfl, hlj, hln, hn1, hcell⟩ := HC.out j hlt
      have hc1 := (hcell _ (Below.refl _ _)).1
      have hm2 := HLE.out (j + 1)
      rw [lenF_take hlj, List.length_append, HM.out, hln] at hm2
      have HM2 : Hid ((ls.take (j + 1)).flatten.length = m + n) := by
        show _ = _
        rw [lenF_take hlj, List.length_append, HM.out, hln]
      have hd0 : decide ((m : Int) + (n : Int) < 0) = false := by simp; omega
      clear hcell hlj
      go_wp2
      go_roundw
      case rel => exact ⟨j + 1, m + n, by go_num, by omega, by go_num, HM2, trivial⟩
      case measure => simp [intOf]; omega
    · have hdec : decide ((j : Int) < r) = false := by simp; omega
      obtain rfl : r = j := by omega
      have hmT : m = T := by
        rw [← HM.out, ← HT.out, List.take_of_length_le (by rw [Hr.out]; omega)]
      subst hmT
      go_wp2_with (go_at_call 132; refine (C _).mono ?_; rintro e w1 ⟨gc, rfl, hown, b1⟩)
      go_loopw [6, 27] (fun u i wr => ∃ j : Nat, i = .int .i64 (j : Int) ∧ j ≤ r ∧ wr.ownsRow w.heap.size 3 1 u (ls.take j).flatten.length ((ls.take j).flatten.map (Value.int .i64)) ∧ Below w.heap.size w wr) (fun _ i _ => (r - intOf i).toNat)
      case atStart => exact ⟨0, rfl, by omega, hown, b1⟩
      case round =>
        clear hown b1
        obtain ⟨j, rfl, hj2, hown, b2⟩ := hrel
        obtain ⟨sa, sl, sc, rfl⟩ := ownsRow_slice hown
        have HM0 := HLE.out j
        obtain ⟨m2, Hm2⟩ : ∃ m2, Hid ((ls.take j).flatten.length = m2) := ⟨_, rfl⟩
        rw [Hm2.out] at hown HM0
        by_cases hlt2 : j < r
        · have hji : (j : Int) < r := by omega
          have hj0 : (0 : Int) ≤ (j : Int) := by omega
          have hdec2 : decide ((j : Int) < r) = true := by simp; omega
          obtain ⟨b, off, va, n, c, l, rfl, hlj, hln, hn1, hcell⟩ := HC.out j hlt2
          obtain ⟨hc1, hnews⟩ := hcell _ b2
          have hm3 := HLE.out (j + 1)
          rw [lenF_take hlj, List.length_append, Hm2.out, hln] at hm3
          have HF : Hid ((ls.take (j + 1)).flatten.length = m2 + n ∧ (ls.take (j + 1)).flatten.map (Value.int .i64) = (ls.take j).flatten.map (Value.int .i64) ++ l.map (Value.int .i64)) := by
            refine ⟨?_, ?_⟩
            · rw [lenF_take hlj, List.length_append, Hm2.out, hln]
            · rw [lenF_take hlj, List.map_append]
          have hs2 := b2.size
          have hnl : (l.map (Value.int .i64)).length = n * 1 := by rw [List.length_map, hln, Nat.mul_one]
          have hn1c : ∀ z ∈ l.map (Value.int .i64), z.oneCell' = true := fun z hz => by
            obtain ⟨x, _, rfl⟩ := List.mem_map.1 hz
            rfl
          clear hcell hlj
          go_wp2_with (first
            | (at_builtin; refine wpList_append_own _ rfl _ _ 29 rfl w.heap.size 3 i3 (.int .i64 0) 1 8 und22 ti tz0 tz1 tz2 rfl (by decide) (.slice sa sl sc) m2 _ rfl hown va n c (l.map (Value.int .i64)) rfl hnl hnews hn1c (by unfold maxLen; omega) (by omega) hs2 ?_; intro v' w4 hown4 hgrow _; obtain ⟨a4, l4, c4, rfl⟩ := ownsRow_slice hown4))
          go_roundw
          case rel =>
            refine ⟨j + 1, by go_num, by omega, by rw [HF.out.1, HF.out.2]; exact hown4, b2.grown hgrow b2.size (fun q hq => (hown.lt q hq).1)⟩
          case measure => simp [intOf]; omega
        · have hdec2 : decide ((j : Int) < r) = false := by simp; omega
          have HE : Hid ((ls.take j).flatten = ls.flatten) := by
            show _ = _
            rw [List.take_of_length_le (by rw [Hr.out]; omega)]
          go_wp2
          go_ret
          refine ⟨_, rfl, ?_, b2⟩
          rw [HE.out] at hown
          have e : m2 = m := by rw [← Hm2.out, HE.out, HT.out]
          rw [← e]
          exact hown

end Go.Proofs.YtgpkhfpejopacabGreatDoor.Gc
