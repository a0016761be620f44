/- The walks of without, has, first, points: the points of a set, one after another. -/
import Derived.Test.YtgdkfbgehbdkjabDoorE7
import Derived.Lib.TrailingZeros
import Derived.Shelf.Spec.TrailingZeros
namespace Go.Proofs.YtgdkfbgehbdkjabDoor
open Go.RowKit Go.Shelf

attribute [local go_sem] Oper.semAt_some

/-- The table of math/bits, in its variable. -/
def tzCells : Array Value := (Lib.deBruijn64tab.map fun n => Value.int .u8 ((n : Nat) : Int)).toArray
def Tab (w : World) : Prop := ∃ t fr, w.heap[1]? = some (.cells tzCells t fr)
theorem Tab.pos {w : World} (h : Tab w) : 1 < w.heap.size := by
  obtain ⟨t, fr, h⟩ := h
  exact (Array.getElem?_eq_some_iff.1 h).1
theorem Tab.below {w w' : World} {n : Nat} (h : Tab w) (hb : Below n w w') (hn : 1 < n) : Tab w' := by
  obtain ⟨t, fr, h⟩ := h
  exact ⟨t, fr, (hb.block 1 hn).trans h⟩
theorem Tab.next {w w' : World} (h : Tab w) (hb : Below w.heap.size w w') : Tab w' := h.below hb h.pos
theorem Tab.cell {w : World} (h : Tab w) (j : Nat) (hj : j < 64) : w.cell? ⟨1, j, none⟩ = some (.int .u8 ((Lib.deBruijn64tab.getD j 0 : Nat) : Int)) := by
  obtain ⟨t, fr, h⟩ := h
  rw [cell_of_row _ _ _ _ _ _ h]
  unfold tzCells
  rw [List.getElem?_toArray, List.getElem?_map, List.getD_eq_getElem?_getD]
  have : j < Lib.deBruijn64tab.length := hj
  rw [List.getElem?_eq_getElem this]
  rfl

set_option maxHeartbeats 1000000 in
theorem tz_core (x k idx : Nat) (w : World) (hx0 : ((x : Int) == 0) = false)
    (key : IntKind.u64.wrap (bits BinOp.and IntKind.u64 (x : Int) (IntKind.u64.wrap (-(x : Int))) * 285870213051353865) / 288230376151711744 = (idx : Int))
    (hi : idx < 64) (hk : k < 64) (hcell : w.cell? ⟨1, idx, none⟩ = some (.int .u8 k)) :
    Calls Tryd.prog 89 #[.int .u64 x] w fun e w' => e = .returned (.int .i64 k) ∧ w' = w := by
  go_enter Tryd.func89, Tryd.ntmps89
  go_wp2_with (simp only [key])
  go_ret
  exact ⟨rfl, rfl⟩

/-- The least point of a set. -/
theorem first_any (x : Nat) (w : World) (hT : Tab w) (hx : x < 2 ^ 64) (h0 : x ≠ 0) : ∃ k m : Nat, x = 2 ^ k * (2 * m + 1) ∧ k < 64 ∧
    Calls Tryd.prog 88 #[.int .u64 (x : Int)] w fun e w' => e = .returned (.int .i64 (k : Int)) ∧ w' = w := by
  obtain ⟨m, hm, hk⟩ := Lib.ctzFrom_spec 64 x (by omega) hx
  refine ⟨_, m, hm, hk, ?_⟩
  obtain ⟨hlow, hk2⟩ := Lib.lowest_bit 64 x h0 hx
  obtain ⟨hi, htab⟩ := Lib.deBruijn64_at _ hk2
  have hcell := hT.cell _ hi
  rw [htab] at hcell
  have hc : Lib.ctz 64 x = Lib.ctzFrom 64 x := by unfold Lib.ctz; rw [if_neg h0]
  have C := tz_core x _ _ w (by simp; omega) (tz64_key x _ hx h0 hlow) hi hk2 hcell
  rw [hc] at C
  generalize Lib.ctzFrom 64 x = c at *
  clear hm hlow hk2 hi htab hcell hc
  go_enter Tryd.func88, Tryd.ntmps88
  go_wp2_with (go_at_call 89; refine C.mono ?_; rintro e w' ⟨rfl, rfl⟩)
  go_ret
  exact ⟨rfl, rfl⟩

def encI (p : Nat) : Array Value := #[.int .i64 (p : Int)]
def KT (_ : Nat) (A B : World) : Prop := B.heap[1]? = A.heap[1]?
def AbN (_ _ _ : World) : Prop := False
theorem Tab.kt {A B : World} {l : Nat} (h : Tab A) (k : KT l A B) : Tab B := by
  obtain ⟨t, fr, h⟩ := h
  exact ⟨t, fr, (k : B.heap[1]? = A.heap[1]?).trans h⟩

theorem points_any (x : Nat) (w : World) :
    Calls Tryd.prog 81 #[.int .u64 (x : Int)] w fun e w' => e = .returned (.func (.func 87) #[] #[.pointer (some ⟨w.heap.size, 0, none⟩)]) ∧ w' = w.alloc (.cells #[.int .u64 (x : Int)] 87) := by
  go_enter Tryd.func81, Tryd.ntmps81
  go_wp2
  go_ret
  exact ⟨rfl, rfl⟩

set_option maxRecDepth 100000 in
set_option maxHeartbeats 4000000 in
theorem points_runs (x n bs : Nat) (w : World) (hx : x < 2 ^ 64) (hT : Tab w) (h1 : Boxed w bs 87 (.int .u64 (x : Int))) : Runs n Tryd.prog 87 #[.pointer (some ⟨bs, 0, none⟩)] (pts x) encI KT AbN w := by
  intro l J Jx W hbW hl1 hl2 hJ hJx hY hJ0
  have c1 := (boxBelow h1 hbW h1.lt).cell
  have hTW : Tab W := hT.next hbW
  have HY : Hid (∀ (i y : Nat) (A : World) (m : Nat), (pts x)[i]? = some y → J i A → YieldAt Fence.wide m Tryd.prog l #[.int .i64 (y : Int)] A fun e B => (e = .returned (.bool true) ∧ J (i + 1) B ∧ KT l A B) ∨ (e = .returned (.bool false) ∧ Jx i B ∧ KT l A B)) := fun i y A m hx hA => YieldAt.anyD (hY i y A hx hA) m
  have HX : Hid (x < 2 ^ 64) := hx
  clear hJ hJx hY hT h1 hx
  refine callsIn_of_wp Tryd.func87 rfl trivial ?_ rfl
  simp only [Tryd.ntmps87, List.size_toArray, List.length_cons, List.length_nil, Nat.reduceAdd, Nat.reduceSub, Array.replicate_succ, Array.replicate_zero, List.push_toArray, List.append_toArray, List.nil_append, List.cons_append]
  gi_wp2
  gi_loopw [3] (fun lv wr => ∃ i y : Nat, lv = .int .u64 (y : Int) ∧ y < 2 ^ 64 ∧ Hid ((pts x).drop i = pts y) ∧ Hid (i ≤ (pts x).length) ∧ J i wr ∧ Tab wr) (fun lv _ => (pts (intOf lv).toNat).length)
  case atStart => exact ⟨0, x, rfl, HX.out, (rfl : (pts x).drop 0 = pts x), (Nat.zero_le _ : 0 ≤ (pts x).length), hJ0, hTW⟩
  case round =>
    clear c1 hTW hJ0
    obtain ⟨i, y, rfl, hy64, HD, HLE, hJi, hTi⟩ := hrel
    by_cases hy0 : y = 0
    · subst hy0
      have hd : (((0 : Nat) : Int) != 0) = false := by decide
      have hlen : (pts x).length ≤ i := by
        have := HD.out
        rw [pts_zero] at this
        exact List.drop_eq_nil_iff.1 this
      have hlt : i ≤ (pts x).length := HLE.out
      obtain rfl : i = (pts x).length := by omega
      gi_wp2
      refine ⟨trivial, ?_⟩
      gi_wp2
      refine ⟨fun _ h => (by cases h), ?_⟩
      gi_wp2
      go_end0
      exact ⟨⟨_, rfl⟩, .inl hJi⟩
    · have hd : ((y : Int) != 0) = true := by simp; omega
      obtain ⟨k, m, hk, hk64, CF⟩ := first_any y wr hTi hy64 hy0
      have hp := pts_off hy64 hk
      have hat : (pts x)[i]? = some k := by
        have h2 := HD.out
        rw [hp] at h2
        have := congrArg (·[0]?) h2
        simpa [List.getElem?_drop] using this
      have hnx : (pts x).drop (i + 1) = pts (y &&& (y - 1)) := by
        have h2 := HD.out
        rw [hp] at h2
        have := congrArg (·.drop 1) h2
        simpa [List.drop_drop] using this
      have HLE2 : Hid (i + 1 ≤ (pts x).length) := (List.getElem?_eq_some_iff.1 hat).1
      have HNX : Hid ((pts x).drop (i + 1) = pts (y &&& (y - 1))) := hnx
      have hle : y &&& (y - 1) ≤ y := Nat.and_le_left
      have HM : Hid ((pts (y &&& (y - 1))).length < (pts y).length) := by show _ < _; rw [hp]; simp
      have e1 : IntKind.u64.wrap ((y : Int) - 1) = ((y - 1 : Nat) : Int) := by
        rw [show (y : Int) - 1 = ((y - 1 : Nat) : Int) by omega]; exact wrapN (by omega)
      have e2 : bits .and .u64 (y : Int) ((y - 1 : Nat) : Int) = ((y &&& (y - 1) : Nat) : Int) := andN hy64 (by omega)
      obtain ⟨z, Hz⟩ : ∃ z, Hid (y &&& (y - 1) = z) := ⟨_, rfl⟩
      rw [Hz.out] at HNX HM hle e2
      obtain ⟨y1, Hy1⟩ : ∃ y1, Hid (y - 1 = y1) := ⟨_, rfl⟩
      rw [Hy1.out] at e1 e2
      obtain ⟨fn, tmps, assign, body, hy, hR⟩ := HY.out i k wr (n - 1) hat hJi
      clear hk hp hat hnx
      gi_wp2_with (refine ⟨trivial, (fun h => wide_no h), (callsIn_wide.2 CF).mono ?_⟩; rintro e w3 ⟨rfl, hw3⟩; subst hw3; clear CF)
      refine ⟨(fun h => wide_no h), hR.mono ?_⟩
      rintro e C (⟨rfl, hJ3, hk3⟩ | ⟨rfl, hJ3, hk3⟩)
      · have hT3 := hTi.kt hk3
        clear hy hR
        gi_wp2
        go_roundw
        case rel => exact ⟨i + 1, z, rfl, by omega, HNX, HLE2, hJ3, hT3⟩
        case measure => simpa [intOf] using HM.out
      · clear hy hR
        gi_wp2
        go_end0
        exact ⟨⟨_, rfl⟩, .inr ⟨_, hJ3⟩⟩

end Go.Proofs.YtgdkfbgehbdkjabDoor
