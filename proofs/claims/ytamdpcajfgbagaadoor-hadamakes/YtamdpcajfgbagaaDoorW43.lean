/- The walks of low and of Fields. -/
import Derived.Test.YtamdpcajfgbagaaDoorBaseB
import Derived.Deep.QuietTactic
import Derived.BigQuiet
import Derived.Laws.CopyOwn
/- The walks of Ints and Fields: are two lists, two fields the same? -/
namespace Go.Proofs.YtamdpcajfgbagaaDoor.Fd
open Go.RowKit

set_option maxRecDepth 100000 in
set_option maxHeartbeats 1000000 in
theorem ints_any (l m : List Int) (v u : Value) (w : World) (hl : Sl w v l) (hm : Sl w u m) (hll : l.length ≤ maxLen) (hml : m.length ≤ maxLen) :
    Calls Tryd.prog 18 #[v, u] w fun e w' => ∃ b : Bool, e = .returned (.bool b) ∧ (b = true ↔ l = m) ∧ Below w.heap.size w w' := by
  unfold maxLen at hll hml
  by_cases he : l.length = m.length
  · by_cases hz : l.length = 0
    · obtain ⟨a, cap, rfl, _⟩ := hl
      obtain ⟨a', cap', rfl, _⟩ := hm
      have e1 : l = [] := List.length_eq_zero_iff.1 hz
      have e2 : m = [] := List.length_eq_zero_iff.1 (by omega)
      subst e1 e2
      go_enter Tryd.func18, Tryd.ntmps18
      go_wp2
      refine wp_loop_rounds 1 ?_
      rw [rounds_succ]
      go_wp2
      go_ret
      exact ⟨true, rfl, by simp, Below.refl _ _⟩
    · obtain ⟨n, Hn⟩ : ∃ n : Nat, Hid (n = l.length) := ⟨_, rfl⟩
      have hln : l.length = n := Hn.out.symm
      have hmn : m.length = n := by omega
      obtain ⟨b, off, cap, rfl, hbw, hlc⟩ := hl.form hln (by omega)
      obtain ⟨b', off', cap', rfl, hbw', hmc⟩ := hm.form hmn (by omega)
      have HL : Hid (l.length = n ∧ m.length = n) := ⟨hln, hmn⟩
      have hn63 : n ≤ 9223372036854775807 := by omega
      clear he hz hln hmn Hn
      have hne : ((n : Int) != n) = false := by simp
      go_enter Tryd.func18, Tryd.ntmps18
      go_wp2
      go_loopw [5] (fun i wr => ∃ j : Nat, i = .int .i64 j ∧ j ≤ n ∧ Hid (∀ t, t < j → l.getD t 0 = m.getD t 0) ∧ Below w.heap.size w wr) (fun i _ => (n - intOf i).toNat)
      case atStart => exact ⟨0, rfl, by omega, (fun t ht => by omega : ∀ t, t < 0 → _), Below.refl _ _⟩
      case round =>
        obtain ⟨j, rfl, hj, HALL, hb⟩ := hrel
        by_cases hlt : j < n
        · obtain ⟨x, Hx⟩ : ∃ z : Int, Hid (z = l.getD j 0) := ⟨_, rfl⟩
          obtain ⟨y, Hy⟩ : ∃ z : Int, Hid (z = m.getD j 0) := ⟨_, rfl⟩
          have hcx := (hb.cell (p := ⟨b, off + j, none⟩) hbw).trans (hlc j hlt)
          rw [← Hx.out] at hcx
          have hcy := (hb.cell (p := ⟨b', off' + j, none⟩) hbw').trans (hmc j hlt)
          rw [← Hy.out] at hcy
          have hji : (j : Int) < n := by omega
          have hdec : decide ((j : Int) < n) = true := by simp; omega
          by_cases hxy : x = y
          · have HXY : Hid (x = y) := hxy
            have hbn : (x != y) = false := by simpa using hxy
            clear hxy
            go_wp2
            go_quiet (fail)
            go_wp2
            go_roundw
            case rel =>
              refine ⟨j + 1, by go_num, by omega, (fun t ht => ?_ : ∀ t, t < j + 1 → _), bdrewN hb _⟩
              by_cases e : t = j
              · subst e; rw [← Hx.out, ← Hy.out]; exact HXY.out
              · exact HALL.out t (by omega)
            case measure => simp [intOf]; omega
          · have HXY : Hid (x ≠ y) := hxy
            have hbn : (x != y) = true := by simpa using hxy
            clear hxy
            go_wp2
            go_quiet (fail)
            go_wp2
            go_ret
            refine ⟨false, rfl, ⟨fun h => absurd h Bool.false_ne_true, fun h => absurd ?_ HXY.out⟩, bdrewN hb _⟩
            rw [Hx.out, Hy.out, h]
        · go_wp2
          go_ret
          refine ⟨true, rfl, ⟨fun _ => ?_, fun _ => rfl⟩, hb⟩
          apply List.ext_getElem (by rw [HL.out.1, HL.out.2])
          intro t h1 h2
          have := HALL.out t (by have := HL.out.1; omega)
          simpa [h1, h2] using this
  · obtain ⟨a, cap, rfl, _⟩ := hl
    obtain ⟨a', cap', rfl, _⟩ := hm
    have hne : ((l.length : Int) != (m.length : Int)) = true := by simp; omega
    have HE : Hid (¬ l.length = m.length) := he
    clear he
    go_enter Tryd.func18, Tryd.ntmps18
    go_wp2
    go_ret
    exact ⟨false, rfl, ⟨fun h => absurd h Bool.false_ne_true, fun h => absurd (by rw [h]) HE.out⟩, Below.refl _ _⟩

end Go.Proofs.YtamdpcajfgbagaaDoor.Fd

namespace Go.Proofs.YtamdpcajfgbagaaDoor.Fd
open Go.RowKit

set_option maxRecDepth 100000 in
set_option maxHeartbeats 400000 in
theorem low_any (f : Nat → Int) (k : Nat) (w : World) (hk : 1 ≤ k) (hk' : k ≤ 11) :
    Calls Tryd.prog 38 #[.agg (prow f), .int .i64 k] w fun e w' => ∃ g cap, e = .returned (.slice (some ⟨g, 0, none⟩) k cap) ∧ w.heap.size ≤ g ∧ Own w' g k f ∧ Below w.heap.size w w' := by
  obtain ⟨i3, hi, hz0, hz1, hz2⟩ := info3
  have hmk : ∀ w : World, (Instr.makeSlice 22 (.int .i64 (k : Int)) (.int .i64 (k : Int))).run Tryd.prog w = .ok (.slice (some ⟨w.heap.size, 0, none⟩) k k) (w.alloc (.cells (madeCells #[.int .i64 0] k) 3)) := fun w => by
    have h := run_make (P := Tryd.prog) w 22 3 i3 (.int .i64 0) und22 hi hz0 .i64 .i64 k k (by omega) (by omega) (by rw [hz2]; omega) (by omega)
    rw [hz1] at h
    simpa [Value.cells] using h
  have hsz : (Tryd.prog.info? 3).map (·.size) = some 1 := by kernel_rfl
  have hrow := (Row.made w f).alloc (.cells (madeCells #[.int .i64 0] k) 3)
  have hnew : ((w.alloc (.cells (prow f) 61)).alloc (.cells (madeCells #[.int .i64 0] k) 3)).heap[w.heap.size + 1]? = some (.cells (madeCells #[.int .i64 0] k) 3 (0, 0)) := heap_alloc2_new w _ _
  clear hi
  go_enter Tryd.func38, Tryd.ntmps38
  go_wp2_with (first
    | (refine wpList_copy_own rfl _ _ 22 22 rfl 3 und22 hsz (w.heap.size + 1) 0 k k ⟨w.heap.size, 0, none⟩ 11 11 rfl rfl (madeCells #[.int .i64 0] k) 3 hnew ((List.range k).map fun j => Value.int .i64 (f j)) ?c1 ?c2 ?c3 ?c4 ?_)
    | go_in)
  case c1 => show _ = min 11 k; simp; omega
  case c2 =>
    intro j v hj
    simp only [List.getElem?_map, Option.map_eq_some_iff] at hj
    obtain ⟨z, hz, rfl⟩ := hj
    have hjk : j < k := by
      have := (List.getElem?_eq_some_iff.1 hz).1
      simpa using this
    have hzj : z = j := by
      have h := (List.getElem?_eq_some_iff.1 hz).2
      simpa using h.symm
    subst hzj
    have hx := hrow.cell z (by omega)
    by_cases e : z = 0
    · subst e; simpa [Addr.add] using hx
    · simpa [Addr.add, e] using hx
  case c3 => simp [size_madeCells]
  case c4 => intro v hv; simp at hv; obtain ⟨z, _, rfl⟩ := hv; rfl
  go_wp2
  go_ret
  refine ⟨w.heap.size + 1, k, rfl, by omega, ⟨_, setRow_heap _ _ _ _ _ _ hnew, fun j hj => ?_⟩, bsetRow (((Below.refl _ _).alloc (Nat.le_refl _) _).alloc (by simp) _) (by omega) _⟩
  simp [hj, List.getElem?_append]

end Go.Proofs.YtamdpcajfgbagaaDoor.Fd
