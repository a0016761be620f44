/- The walks of OnesCount, TrailingZeros, width, within, weight. -/
import Derived.Test.YtioggiapkkeloaaDoorBE1
import Derived.Test.YtioggiapkkeloaaDoorCB6
import Derived.Test.YtioggiapkkeloaaDoorBoF
import Derived.Lib.TrailingZeros
import Derived.Shelf.Spec.TrailingZeros
namespace Go.Proofs.YtioggiapkkeloaaDoor
open Go.RowKit Go.Shelf

attribute [local go_sem] Oper.semAt_some

/-- The table of math/bits, in its variable. -/
def tzCells : Array Value := (Lib.deBruijn64tab.map fun n => Value.int .u8 ((n : Nat) : Int)).toArray
def Tab (w : World) : Prop := ∃ t fr, w.heap[1]? = some (.cells tzCells t fr)
theorem Tab.pos {w : World} (h : Tab w) : 1 < w.heap.size := by
  obtain ⟨t, fr, h⟩ := h
  exact (Array.getElem?_eq_some_iff.1 h).1
theorem Tab.below {w w' : World} {n : Nat} (h : Tab w) (hb : Below n w w') (hn : 1 < n) : Tab w' := by
  obtain ⟨t, fr, h⟩ := h
  exact ⟨t, fr, (hb.block 1 hn).trans h⟩
theorem Tab.next {w w' : World} (h : Tab w) (hb : Below w.heap.size w w') : Tab w' := h.below hb h.pos
theorem Tab.cell {w : World} (h : Tab w) (j : Nat) (hj : j < 8 * 8) : w.cell? ⟨1, j, none⟩ = some (.int .u8 ((Lib.deBruijn64tab.getD j 0 : Nat) : Int)) := by
  obtain ⟨t, fr, h⟩ := h
  rw [cell_of_row _ _ _ _ _ _ h]
  unfold tzCells
  rw [List.getElem?_toArray, List.getElem?_map, List.getD_eq_getElem?_getD]
  have : j < Lib.deBruijn64tab.length := hj
  rw [List.getElem?_eq_getElem this]
  rfl
theorem OnesCount_any (x : Nat) (hx : x < 2 ^ 64) (w : World) :
    Calls Tryd.prog 37 #[.int .u64 (x : Int)] w fun e w' => e = .returned (.int .i64 (pc x : Int)) ∧ w' = w := by
  go_enter Tryd.func37, Tryd.ntmps37
  go_wp2_with (go_at_call 44; refine (ones_any x hx w).mono ?_; rintro e w' ⟨rfl, rfl⟩)
  go_ret
  exact ⟨rfl, rfl⟩
set_option maxHeartbeats 1000000 in
theorem tz_core (x k idx : Nat) (w : World) (hx0 : ((x : Int) == 0) = false)
    (key : IntKind.u64.wrap (bits BinOp.and IntKind.u64 (x : Int) (IntKind.u64.wrap (-(x : Int))) * 285870213051353865) / 288230376151711744 = (idx : Int))
    (hi : idx < 8 * 8) (hk : k < 8 * 8) (hcell : w.cell? ⟨1, idx, none⟩ = some (.int .u8 k)) :
    Calls Tryd.prog 46 #[.int .u64 x] w fun e w' => e = .returned (.int .i64 k) ∧ w' = w := by
  go_enter Tryd.func46, Tryd.ntmps46
  go_wp2_with (simp only [key])
  go_ret
  exact ⟨rfl, rfl⟩
/-- The least bit of a number. -/
theorem least_any (x : Nat) (w : World) (hT : Tab w) (hx : x < 2 ^ 64) (h0 : x ≠ 0) : ∃ k m : Nat, x = 2 ^ k * (2 * m + 1) ∧ k < 8 * 8 ∧
    Calls Tryd.prog 38 #[.int .u64 (x : Int)] w fun e w' => e = .returned (.int .i64 (k : Int)) ∧ w' = w := by
  obtain ⟨m, hm, hk⟩ := Lib.ctzFrom_spec 64 x (by omega) hx
  refine ⟨_, m, hm, hk, ?_⟩
  obtain ⟨hlow, hk2⟩ := Lib.lowest_bit 64 x h0 hx
  obtain ⟨hi, htab⟩ := Lib.deBruijn64_at _ hk2
  have hcell := hT.cell _ hi
  rw [htab] at hcell
  have hc : Lib.ctz 64 x = Lib.ctzFrom 64 x := by unfold Lib.ctz; rw [if_neg h0]
  have C := tz_core x _ _ w (by simp; omega) (tz64_key x _ hx h0 hlow) hi hk2 hcell
  rw [hc] at C
  generalize Lib.ctzFrom 64 x = c at *
  clear hm hlow hk2 hi htab hcell hc
  go_enter Tryd.func38, Tryd.ntmps38
  go_wp2_with (go_at_call 46; refine C.mono ?_; rintro e w' ⟨rfl, rfl⟩)
  go_ret
  exact ⟨rfl, rfl⟩
theorem pc_tab : ∀ l : Fin 257, pc l.val = 1 → btN l.val ≤ 8 := by decide +kernel
theorem pc_pow : ∀ n : Fin 9, pc (2 ^ n.val) = 1 := by decide +kernel
theorem pc_wt : ∀ x : Fin 256, pc x.val = wt x.val := by decide +kernel
theorem pc_no {l : Nat} (h : pc l ≠ 1) : btN l = 9 := by
  have := bt_le l
  apply Classical.byContradiction
  intro c
  have h8 : btN l ≤ 8 := by omega
  have e := pc_pow ⟨btN l, by omega⟩
  dsimp only at e
  rw [← bt_some h8] at e
  exact h e
theorem bt_far {l : Nat} (h : 999 - 743 < l) : btN l = 9 := by
  have := bt_le l
  apply Classical.byContradiction
  intro c
  have h8 : btN l ≤ 8 := by omega
  have e := bt_some h8
  have := (pow256 h8).2
  omega
theorem pow_one {n k m : Nat} (h : 2 ^ n = 2 ^ k * (2 * m + 1)) : k = n := by
  have h2 : ∀ (k n m : Nat), 2 ^ n = 2 ^ k * (2 * m + 1) → k = n := by
    intro k
    induction k with
    | zero =>
      intro n m h
      cases n with
      | zero => rfl
      | succ n => rw [Nat.pow_succ, Nat.pow_zero] at h; omega
    | succ k ih =>
      intro n m h
      cases n with
      | zero => 
        rw [Nat.pow_succ, Nat.pow_zero, Nat.mul_right_comm] at h
        omega
      | succ n =>
        rw [Nat.pow_succ, Nat.pow_succ, Nat.mul_right_comm] at h
        rw [ih n m (by omega)]
  exact h2 k n m h
set_option maxHeartbeats 4000000 in
theorem width_bad (l cap : Nat) (a : Option Addr) (w : World) (hl : l ≤ maxLen) (h9 : btN l = 9) :
    Calls Tryd.prog 27 #[.slice a l cap] w fun e w' => e = .returned (.tuple #[.int .i64 0, .int .i64 2]) ∧ w' = w := by
  unfold maxLen at hl
  have hw : IntKind.u64.wrap (l : Int) = (l : Int) := wrapN (by omega)
  have C := OnesCount_any l (by omega) w
  have HP : Hid (pc l = 1 → 999 - 743 < l) := fun h => by
    apply Classical.byContradiction
    intro c
    have := pc_tab ⟨l, by omega⟩ h
    dsimp only at this
    omega
  obtain ⟨p, Hp⟩ : ∃ p, Hid (pc l = p) := ⟨_, rfl⟩
  rw [Hp.out] at C HP
  clear h9
  by_cases h1 : p = 1
  · have d1 : ((p : Int) != 1) = false := by simp [h1]
    have hlt := HP.out h1
    have d2 : decide ((256 : Int) < (l : Int)) = true := by simp; omega
    have d3 : decide (256 < l) = true := by simp; omega
    clear h1 hlt
    go_enter Tryd.func27, Tryd.ntmps27
    go_wp2_with (go_at_call 37; refine C.mono ?_; rintro e w1 ⟨rfl, h1⟩; replace h1 := h1.symm; subst h1; clear C)
    go_ret2
    exact ⟨rfl, rfl⟩
  · have d1 : ((p : Int) != 1) = true := by simp; omega
    clear h1
    go_enter Tryd.func27, Tryd.ntmps27
    go_wp2_with (go_at_call 37; refine C.mono ?_; rintro e w1 ⟨rfl, h1⟩; replace h1 := h1.symm; subst h1; clear C)
    go_ret2
    exact ⟨rfl, rfl⟩
set_option maxHeartbeats 4000000 in
theorem width_ok (l cap : Nat) (a : Option Addr) (w : World) (hT : Tab w) (h8 : btN l ≤ 8) :
    Calls Tryd.prog 27 #[.slice a l cap] w fun e w' => e = .returned (.tuple #[.int .i64 (btN l : Int), .int .i64 0]) ∧ w' = w := by
  have hpw := pow256 h8
  have hls := bt_some h8
  rw [← hls] at hpw
  have hw : IntKind.u64.wrap (l : Int) = (l : Int) := wrapN (by omega)
  have C := OnesCount_any l (by omega) w
  have e1 := pc_pow ⟨btN l, by omega⟩
  dsimp only at e1
  rw [← hls] at e1
  rw [e1] at C
  obtain ⟨k, m, hk, hk64, D⟩ := least_any l w hT (by omega) (by omega)
  have ek : k = btN l := pow_one (n := btN l) (by rw [← hls]; exact hk)
  rw [ek] at D
  have d2 : decide ((256 : Int) < (l : Int)) = false := by simp; omega
  have d3 : decide (256 < l) = false := by simp; omega
  generalize btN l = n at *
  clear hpw hls hk ek e1 hT
  go_enter Tryd.func27, Tryd.ntmps27
  go_wp2_with (first
    | (go_at_call 37; refine C.mono ?_; rintro e w1 ⟨rfl, h1⟩; replace h1 := h1.symm; subst h1; clear C)
    | (go_at_call 38; refine D.mono ?_; rintro e w1 ⟨rfl, h1⟩; replace h1 := h1.symm; subst h1; clear D))
  go_ret2
  exact ⟨rfl, rfl⟩
theorem weight_any (x : Nat) (w : World) (hx : x < 999 - 743) :
    Calls Tryd.prog 30 #[.int .i64 (x : Int)] w fun e w' => e = .returned (.int .i64 (wt x : Int)) ∧ w' = w := by
  have C := OnesCount_any x (by omega) w
  have hw : IntKind.u64.wrap (x : Int) = (x : Int) := wrapN (by omega)
  have e := pc_wt ⟨x, hx⟩
  dsimp only at e
  rw [e] at C
  go_enter Tryd.func30, Tryd.ntmps30
  go_wp2_with (go_at_call 37; refine C.mono ?_; rintro e w1 ⟨rfl, h1⟩; replace h1 := h1.symm; subst h1; clear C)
  go_ret
  exact ⟨rfl, rfl⟩
/-- Do all numbers of a list lie between two? -/
def wiB (lo hi : Int) (l : List Int) : Bool := (List.range l.length).all fun j => decide (lo ≤ l.getD j 0) && decide (l.getD j 0 ≤ hi)
theorem wi_yes {lo hi : Int} {l : List Int} (h : ∀ j, j < l.length → lo ≤ l.getD j 0 ∧ l.getD j 0 ≤ hi) : wiB lo hi l = true := by
  unfold wiB
  rw [List.all_eq_true]
  intro j hj
  have := h j (List.mem_range.1 hj)
  rw [decide_eq_true this.1, decide_eq_true this.2]; rfl
theorem wi_no {lo hi : Int} {l : List Int} {j : Nat} (hj : j < l.length) (h : ¬ (lo ≤ l.getD j 0 ∧ l.getD j 0 ≤ hi)) : wiB lo hi l = false := by
  apply Bool.eq_false_iff.2
  intro k
  unfold wiB at k
  rw [List.all_eq_true] at k
  have := k j (List.mem_range.2 hj)
  simp only [Bool.and_eq_true, decide_eq_true_eq] at this
  exact h this
theorem wi_is {lo hi : Int} {l : List Int} (h : wiB lo hi l = true) : ∀ j, j < l.length → lo ≤ l.getD j 0 ∧ l.getD j 0 ≤ hi := fun j hj => by
  apply Classical.byContradiction
  intro c
  rw [wi_no hj c] at h
  cases h
set_option maxHeartbeats 4000000 in
theorem within_any (l : List Int) (lo hi : Int) (v : Value) (w : World) (hv : Sl w v l) (hl : l.length ≤ 999) (hpos : 0 < l.length) :
    Calls Tryd.prog 28 #[v, .int .i64 lo, .int .i64 hi] w fun e w' => e = .returned (.bool (wiB lo hi l)) ∧ w' = w := by
  obtain ⟨a, off, cap, rfl, ha, hcell⟩ := hv.form rfl hpos
  have HY : Hid ((∀ j, j < l.length → lo ≤ l.getD j 0 ∧ l.getD j 0 ≤ hi) → wiB lo hi l = true) := wi_yes
  have HN : Hid (∀ j, j < l.length → ¬ (lo ≤ l.getD j 0 ∧ l.getD j 0 ≤ hi) → wiB lo hi l = false) := fun j => wi_no
  have HC : Hid (∀ j, j < l.length → w.cell? ⟨a, off + j, none⟩ = some (.int .i64 (l.getD j 0))) := hcell
  obtain ⟨q, Hq⟩ : ∃ q, Hid (wiB lo hi l = q) := ⟨_, rfl⟩
  rw [Hq.out] at HY HN ⊢
  clear hcell hv
  generalize l.length = z at *
  go_enter Tryd.func28, Tryd.ntmps28
  go_wp2
  go_loopw [11] (fun iv wr => ∃ (j : Nat), iv = .int .i64 (j : Int) ∧ j ≤ z ∧ Hid (∀ i, i < j → lo ≤ l.getD i 0 ∧ l.getD i 0 ≤ hi) ∧ wr = w) (fun iv _ => (z - intOf iv).toNat)
  case atStart => exact ⟨0, rfl, by omega, (fun i h => by omega : ∀ i, i < 0 → _), rfl⟩
  case round =>
    obtain ⟨j, rfl, hj, HJ, hw⟩ := hrel
    replace hw := hw.symm
    subst hw
    by_cases hlt : j < z
    · have hdj : decide ((j : Int) < (z : Int)) = true := by simp; omega
      have hji : (j : Int) < z := by omega
      have hj0 : (0 : Int) ≤ (j : Int) := by omega
      have hcj := HC.out j hlt
      have HJ2 : Hid ((lo ≤ l.getD j 0 ∧ l.getD j 0 ≤ hi) → ∀ i, i < j + 1 → lo ≤ l.getD i 0 ∧ l.getD i 0 ≤ hi) := fun h i hi => by
        by_cases e : i = j
        · subst e; exact h
        · exact HJ.out i (by omega)
      have HN2 := HN.out j hlt
      generalize l.getD j 0 = x at hcj HJ2 HN2
      clear HJ
      by_cases h1 : x < lo
      · have d1 : decide (x < lo) = true := by simp [h1]
        obtain rfl : q = false := HN2 (by omega)
        clear h1 HN2
        go_wp2
        go_ret
        exact ⟨rfl, rfl⟩
      · have d1 : decide (x < lo) = false := by simp; omega
        by_cases h2 : hi < x
        · have d2 : decide (hi < x) = true := by simp [h2]
          obtain rfl : q = false := HN2 (by omega)
          clear h1 h2 HN2
          go_wp2
          go_ret
          exact ⟨rfl, rfl⟩
        · have d2 : decide (hi < x) = false := by simp; omega
          have HJ3 : Hid (∀ i, i < j + 1 → lo ≤ l.getD i 0 ∧ l.getD i 0 ≤ hi) := HJ2.out ⟨by omega, by omega⟩
          clear h1 h2 HN2 HJ2
          go_wp2
          go_roundw
          case rel => exact ⟨j + 1, by go_num, by omega, HJ3, trivial⟩
          case measure => simp [intOf]; omega
    · have hdj : decide ((j : Int) < (z : Int)) = false := by simp; omega
      obtain rfl : q = true := HY.out fun i hi => HJ.out i (by omega)
      go_wp2
      go_ret
      exact ⟨rfl, rfl⟩
end Go.Proofs.YtioggiapkkeloaaDoor
