/- The walks of Unrank and PermOfRank. -/
import Derived.Test.YtgpkhfpejopacabGreatDoorPList
import Derived.Deep.QuietTactic
import Derived.BigQuiet
import Derived.Test.YtgpkhfpejopacabGreatDoorPRank
import Derived.Test.YtgpkhfpejopacabGreatDoorP27
import Derived.Shelf.Slices.Delete
import Derived.Shelf.Slices.Cells
import Derived.Test.YtgpkhfpejopacabGreatDoorPUnr
/- The walks of orders, Factorial, rank, Rank, PermRank. -/
/- The walks of allBelow, twice and Check. -/
namespace Go.Proofs.YtgpkhfpejopacabGreatDoor.Pu
open Go.RowKit

set_option maxRecDepth 100000 in
set_option maxHeartbeats 400000 in
theorem allBelow_any (l : List Int) (v : Value) (bd : Int) (w : World) (hl : Sl w v l) (hll : l.length ≤ 12) :
    Calls Tryz.prog 103 #[v, .int .i64 bd] w fun e w' => e = .returned (.bool (inLB bd l)) ∧ w' = w := by
  obtain ⟨n, Hn⟩ : ∃ n : Nat, Hid (l.length = n) := ⟨_, rfl⟩
  have hn63 : n ≤ 9223372036854775807 := by have := Hn.out; omega
  obtain ⟨a, cap, rfl, hc⟩ := hl
  rw [Hn.out] at hc ⊢
  have HC : Hid (∀ j, j < n → ∃ b off, a = some ⟨b, off, none⟩ ∧ w.cell? ⟨b, off + j, none⟩ = some (.int .i64 (l.getD j 0))) := hc
  clear hc hll
  go_enter Tryz.func103, Tryz.ntmps103
  go_wp2
  go_loop [9] (fun i => ∃ j : Nat, i = .int .i64 j ∧ j ≤ n ∧ Hid (∀ t, t < j → 0 ≤ l.getD t 0 ∧ l.getD t 0 < bd)) (fun i => (n - intOf i).toNat)
  case atStart => exact ⟨0, rfl, by omega, (fun t ht => by omega : ∀ t, t < 0 → _)⟩
  case round =>
    obtain ⟨j, rfl, hj, HALL⟩ := hrel
    by_cases hlt : j < n
    · obtain ⟨z, Hz⟩ : ∃ z : Int, Hid (z = l.getD j 0) := ⟨_, rfl⟩
      obtain ⟨b, off, rfl, hcz⟩ := HC.out j hlt
      rw [← Hz.out] at hcz
      have hji : (j : Int) < n := by omega
      have hdec : decide ((j : Int) < n) = true := by simp; omega
      by_cases hz0 : z < 0
      · have hd : decide (z < 0) = true := by simpa using hz0
        go_wp2
        go_ret
        refine ⟨ret_bool (inLB_no fun h => ?_).symm, rfl⟩
        have := h j (by have := Hn.out; omega)
        rw [← Hz.out] at this
        omega
      · have hd : decide (z < 0) = false := by simpa using hz0
        by_cases hzp : bd ≤ z
        · have hd2 : decide (bd ≤ z) = true := by simpa using hzp
          go_wp2
          go_ret
          refine ⟨ret_bool (inLB_no fun h => ?_).symm, rfl⟩
          have := h j (by have := Hn.out; omega)
          rw [← Hz.out] at this
          omega
        · have hd2 : decide (bd ≤ z) = false := by simpa using hzp
          go_wp2
          go_round
          case rel =>
            refine ⟨j + 1, by go_num, by omega, (fun t ht => ?_ : ∀ t, t < j + 1 → _)⟩
            by_cases e : t = j
            · subst e; rw [← Hz.out]; omega
            · exact HALL.out t (by omega)
          case measure => simp [intOf]; omega
    · go_wp2
      go_ret
      exact ⟨ret_bool ((inLB_iff bd l).2 fun t ht => HALL.out t (by have := Hn.out; omega)).symm, rfl⟩

set_option maxRecDepth 100000 in
set_option maxHeartbeats 1000000 in
theorem twice_any (l : List Int) (v : Value) (w : World) (hl : Sl w v l) (hll : l.length ≤ 12) (hr : ∀ j, j < l.length → 0 ≤ l.getD j 0 ∧ l.getD j 0 < 12) :
    Calls Tryz.prog 104 #[v] w fun e w' => e = .returned (.bool (dupB l)) ∧ Below w.heap.size w w' := by
  obtain ⟨n, Hn⟩ : ∃ n : Nat, Hid (l.length = n) := ⟨_, rfl⟩
  have hn12 : n ≤ 12 := by have := Hn.out; omega
  obtain ⟨a, cap, rfl, hc⟩ := hl
  rw [Hn.out] at hc hr ⊢
  have HC : Hid (∀ j, j < n → ∃ b off, a = some ⟨b, off, none⟩ ∧ w.cell? ⟨b, off + j, none⟩ = some (.int .i64 (l.getD j 0))) := hc
  have HR : Hid (∀ j, j < n → 0 ≤ l.getD j 0 ∧ l.getD j 0 < 12) := hr
  clear hc hll hr
  have hb0 := BRow.made0 w
  have hB0 : Below w.heap.size w (w.alloc (.cells #[.bool false, .bool false, .bool false, .bool false, .bool false, .bool false, .bool false, .bool false, .bool false, .bool false, .bool false, .bool false] 188)) := balloc w _
  go_enter Tryz.func104, Tryz.ntmps104
  go_wp2
  go_loopw [8] (fun i wr => ∃ (j : Nat) (m : Nat → Bool), i = .int .i64 j ∧ j ≤ n ∧ BRow wr w.heap.size m ∧ Hid (∀ x : Nat, x < 12 → (m x = true ↔ ∃ t, t < j ∧ l.getD t 0 = (x : Int))) ∧ Hid (∀ i j', j' < i → i < j → l.getD i 0 ≠ l.getD j' 0) ∧ Below w.heap.size w wr) (fun i _ => (n - intOf i).toNat)
  case atStart => exact ⟨0, _, rfl, by omega, hb0, (fun x _ => ⟨fun h => by simp at h, fun ⟨t, h, _⟩ => by omega⟩ : ∀ x : Nat, x < 12 → _), (fun i j' h1 h2 => by omega : ∀ i j', j' < i → i < 0 → _), hB0⟩
  case round =>
    clear hb0 hB0
    obtain ⟨j, m, rfl, hj, hbr, HM, HD, hB⟩ := hrel
    by_cases hlt : j < n
    · obtain ⟨b, off, rfl, hcz⟩ := HC.out j hlt
      have hr := HR.out j hlt
      obtain ⟨x, hx⟩ : ∃ x : Nat, l.getD j 0 = (x : Int) := ⟨(l.getD j 0).toNat, by omega⟩
      rw [hx] at hcz
      have hx12 : (x : Int) < 12 := by omega
      clear hr
      have HX : Hid (l.getD j 0 = (x : Int)) := hx
      clear hx
      have hbw : b < w.heap.size := by simpa using block_lt_of_cell hcz
      have hcw := (hB.cell (p := ⟨b, off + j, none⟩) hbw).trans hcz
      have hcx := hbr.cell x (by omega)
      have hfx := hbr.frozen x
      have hji : (j : Int) < n := by omega
      have hdec : decide ((j : Int) < n) = true := by simp; omega
      cases hm : m x
      · rw [hm] at hcx
        go_wp2
        go_roundw
        case rel =>
          refine ⟨j + 1, updB m x, by go_num, by omega, hbr.set x, ?_, ?_, hB.setCell (by simp) _⟩
          · intro y hy
            unfold updB
            by_cases e : y = x
            · subst e
              rw [if_pos rfl]
              exact ⟨fun _ => ⟨j, by omega, HX.out⟩, fun _ => rfl⟩
            · rw [if_neg e, HM.out y hy]
              constructor
              · rintro ⟨t, h1, h2⟩; exact ⟨t, by omega, h2⟩
              · rintro ⟨t, h1, h2⟩
                by_cases et : t = j
                · subst et; rw [HX.out] at h2; omega
                · exact ⟨t, by omega, h2⟩
          · intro i j' h1 h2 e
            by_cases ei : i = j
            · subst ei
              have : m x = true := (HM.out x (by omega)).2 ⟨j', h1, by rw [← e]; exact HX.out⟩
              rw [hm] at this; simp at this
            · exact HD.out i j' h1 (by omega) e
        case measure => simp [intOf]; omega
      · rw [hm] at hcx
        go_wp2
        go_ret
        refine ⟨ret_bool ?_, hB⟩
        obtain ⟨t, h1, h2⟩ := (HM.out x (by omega)).1 hm
        exact ((dupB_iff l).2 ⟨j, t, h1, by rw [Hn.out]; exact hlt, by rw [HX.out, h2]⟩).symm
    · obtain rfl : j = n := by omega
      have hjd : decide ((j : Int) < (j : Int)) = false := by simp
      go_wp2
      go_ret
      exact ⟨ret_bool (dupB_no fun i j' h1 h2 => HD.out i j' h1 (by rw [← Hn.out]; exact h2)).symm, hB⟩

set_option maxRecDepth 100000 in
set_option maxHeartbeats 400000 in
theorem Check_any (l : List Int) (v : Value) (w : World) (hl : Sl w v l) (hll : l.length ≤ maxLen) :
    Calls Tryz.prog 52 #[v] w fun e w' => e = .returned (.int .i64 (pF l)) ∧ Below w.heap.size w w' := by
  unfold maxLen at hll
  obtain ⟨z, Hz⟩ : ∃ z : Int, Hid (pF l = z) := ⟨_, rfl⟩
  rw [Hz.out]
  have hl' := hl
  obtain ⟨a, cap, rfl, _⟩ := hl'
  by_cases h1 : 12 < l.length
  · have hd : decide ((12 : Int) < (l.length : Int)) = true := by simp; omega
    have hz : z = 3 := by rw [← Hz.out]; unfold pF; rw [if_pos h1]
    subst hz
    go_enter Tryz.func52, Tryz.ntmps52
    go_wp2
    go_ret
    exact ⟨rfl, Below.refl _ _⟩
  · have hd : decide ((12 : Int) < (l.length : Int)) = false := by simp; omega
    have C1 := allBelow_any l _ l.length w hl (by omega)
    by_cases h2 : inLB l.length l = true
    · have C2 := twice_any l _ w hl (by omega) (fun j hj => by have := (inLB_iff _ _).1 h2 j hj; omega)
      rw [h2] at C1
      have hz : z = if dupB l = true then 6 else 0 := by rw [← Hz.out]; unfold pF; rw [if_neg h1, h2, if_neg (by simp)]
      cases h3 : dupB l with
      | true =>
        rw [h3] at C2
        rw [h3, if_pos rfl] at hz
        subst hz
        go_enter Tryz.func52, Tryz.ntmps52
        go_wp2_with (first
          | (go_at_call 103; refine C1.mono ?_; rintro e w1 ⟨rfl, hw⟩; replace hw := hw.symm; subst hw)
          | (go_at_call 104; refine C2.mono ?_; rintro e w1 ⟨rfl, hb⟩))
        go_ret
        exact ⟨rfl, hb⟩
      | false =>
        rw [h3] at C2
        rw [h3, if_neg (by simp)] at hz
        subst hz
        go_enter Tryz.func52, Tryz.ntmps52
        go_wp2_with (first
          | (go_at_call 103; refine C1.mono ?_; rintro e w1 ⟨rfl, hw⟩; replace hw := hw.symm; subst hw)
          | (go_at_call 104; refine C2.mono ?_; rintro e w1 ⟨rfl, hb⟩))
        go_ret
        exact ⟨rfl, hb⟩
    · have h2 : inLB l.length l = false := by simpa using h2
      rw [h2] at C1
      have hz : z = 1 := by rw [← Hz.out]; unfold pF; rw [if_neg h1, if_pos h2]
      subst hz
      go_enter Tryz.func52, Tryz.ntmps52
      go_wp2_with (first
        | (go_at_call 103; refine C1.mono ?_; rintro e w1 ⟨rfl, hw⟩; replace hw := hw.symm; subst hw))
      go_ret
      exact ⟨rfl, Below.refl _ _⟩

end Go.Proofs.YtgpkhfpejopacabGreatDoor.Pu

namespace Go.Proofs.YtgpkhfpejopacabGreatDoor.Pu
open Go.RowKit

/-- A slice no longer than its room. -/
def capOk : Value → Prop
  | .slice _ n c => n ≤ c
  | _ => True

set_option maxRecDepth 100000 in
set_option maxHeartbeats 400000 in
theorem orders_any (n : Nat) (w : World) (hn : n ≤ 12) :
    Calls Tryz.prog 29 #[.int .i64 (n : Int)] w fun e w' => e = .returned (.int .i64 (fac n : Int)) ∧ w' = w := by
  obtain ⟨z, Hz⟩ : ∃ z, Hid (fac n = z) := ⟨_, rfl⟩
  rw [Hz.out]
  go_enter Tryz.func29, Tryz.ntmps29
  go_wp2
  go_loop [3, 6] (fun x i => ∃ a k : Nat, x = .int .i64 a ∧ i = .int .i64 k ∧ k ≤ n ∧ Hid (fac k = a)) (fun _ i => (n - intOf i).toNat)
  case atStart => exact ⟨1, 0, rfl, rfl, by omega, (rfl : fac 0 = 1)⟩
  case round =>
    obtain ⟨a, k, rfl, rfl, hk, HA⟩ := hrel
    by_cases hlt : k < n
    · have hki : (k : Int) < n := by omega
      have hdec : decide ((k : Int) < n) = true := by simp; omega
      obtain ⟨b, Hb⟩ : ∃ b, Hid (fac (k + 1) = b) := ⟨_, rfl⟩
      have hbb : b ≤ 479001600 := by rw [← Hb.out]; exact fac_le (by omega)
      have hm : (a : Int) * ((k : Int) + 1) = (b : Int) := by rw [← Hb.out, fac, HA.out]; simp
      go_wp2
      go_round
      case rel => exact ⟨b, k + 1, rfl, by go_num, by omega, Hb⟩
      case measure => simp [intOf]; omega
    · obtain rfl : k = n := by omega
      have hkd : decide ((k : Int) < (k : Int)) = false := by simp
      have : a = z := by rw [← HA.out, Hz.out]
      subst this
      go_wp2
      go_ret
      exact ⟨rfl, rfl⟩

end Go.Proofs.YtgpkhfpejopacabGreatDoor.Pu

/- One number is struck out of a row of the call's own: the library's Delete, by its contract. -/
/- A slice of rows that were made one after another: cycles. -/
namespace Go.Proofs.YtgpkhfpejopacabGreatDoor.Pu
open Go.RowKit

set_option maxRecDepth 100000 in
theorem info22 : ∃ i, Tryz.prog.info? 29 = some i ∧ i.zero = some (.slice none 0 0) ∧ i.size = 1 ∧ i.bytes = 24 := by
  have h1 : (Tryz.prog.info? 29).map (·.zero) = some (some (.slice none 0 0)) := by kernel_rfl
  have h2 : (Tryz.prog.info? 29).map (·.size) = some 1 := by kernel_rfl
  have h3 : (Tryz.prog.info? 29).map (·.bytes) = some 24 := by kernel_rfl
  cases h : Tryz.prog.info? 29 with
  | none => rw [h] at h1; cases h1
  | some i =>
    rw [h] at h1 h2 h3
    exact ⟨i, rfl, Option.some.inj h1, Option.some.inj h2, Option.some.inj h3⟩
theorem own_below {w w' : World} {base n : Nat} {e : TypeId} {size : Nat} {v : Value} {xs : List Value} (h : w.ownsRow base e size v n xs) (hb : Below w.heap.size w w') : w'.ownsRow base e size v n xs :=
  h.kept (row := none) ⟨hb.os, hb.tape, hb.output, hb.size, fun k hk _ => hb.block k hk⟩ (by cases v.ownBlock <;> simp)

theorem own_other {w : World} {base n : Nat} {e : TypeId} {size : Nat} {v : Value} {xs : List Value} (h : w.ownsRow base e size v n xs) (a : Addr) (u : Value) (hb : a.block < base) : (w.setCell a u).ownsRow base e size v n xs := by
  obtain ⟨h1, h2 | ⟨g, cap, cur, h3, h4, h5, h6⟩⟩ := h
  · exact ⟨h1, .inl h2⟩
  · exact ⟨h1, .inr ⟨g, cap, cur, h3, h4, (heap_setCell_other w a g u (by omega)).trans h5, h6⟩⟩
theorem cell_new (W : World) (x : Value) (t : TypeId) (n : Nat) (h : W.heap.size = n) : (W.alloc (.cells #[x] t)).cell? ((⟨n, 0, none⟩ : Addr).add 0) = some x := by
  subst h
  show (W.alloc (.cells #[x] t)).cell? ⟨W.heap.size, 0 + 0, none⟩ = some x
  rw [cell_of_row _ _ _ _ _ _ (heap_alloc_new W _)]; rfl
def sliceLen : Value → Nat
  | .slice _ n _ => n
  | _ => 0
theorem sliceLen_own {w : World} {base n : Nat} {e : TypeId} {size : Nat} {v : Value} {xs : List Value} (h : w.ownsRow base e size v n xs) : sliceLen v = n := by
  obtain ⟨_, ⟨rfl, rfl⟩ | ⟨g, cap, cur, rfl, _⟩⟩ := h <;> rfl
/-- All blocks but one are as they were. -/
def Kp (M : Nat) (w w' : World) : Prop := w.heap.size ≤ w'.heap.size ∧ ∀ b, b < w.heap.size → b ≠ M → w'.heap[b]? = w.heap[b]?
theorem Kp.refl (M : Nat) (w : World) : Kp M w w := ⟨Nat.le_refl _, fun _ _ _ => rfl⟩
theorem Kp.trans {M : Nat} {a b c : World} (h : Kp M a b) (k : Kp M b c) : Kp M a c := ⟨Nat.le_trans h.1 k.1, fun x hx hm => (k.2 x (by have := h.1; omega) hm).trans (h.2 x hx hm)⟩
theorem Kp.set (M : Nat) (w : World) (j : Nat) (v : Value) : Kp M w (w.setCell ⟨M, j, none⟩ v) := ⟨by simp, fun b _ hm => heap_setCell_other w _ b v hm⟩
theorem Kp.below {M : Nat} {w w' : World} (h : Below w.heap.size w w') : Kp M w w' := ⟨h.size, fun b hb _ => h.block b hb⟩
theorem Kp.under {M B : Nat} {w a b : World} (h : Kp M w a) (hB : w.heap.size ≤ B) (k : Below B a b) : Kp M w b := ⟨Nat.le_trans h.1 k.size, fun x hx hm => (k.block x (by omega)).trans (h.2 x hx hm)⟩

/-- The value is a slice, from a block's beginning on, of a row of numbers. -/
def RowIs (w : World) (base : Nat) (u : Value) (l : List Nat) : Prop := ∃ g cap, u = .slice (some ⟨g, 0, none⟩) l.length cap ∧ base ≤ g ∧ Own w g l.length (fun j => (l.getD j 0 : Int))
theorem RowIs.kp {w w' : World} {base M : Nat} {u : Value} {l : List Nat} (h : RowIs w base u l) (k : Kp M w w') (hM : M < base) : RowIs w' base u l := by
  obtain ⟨g, cap, rfl, hg, hO⟩ := h
  have hl := hO.lt
  obtain ⟨cur, h1, h2⟩ := hO
  exact ⟨g, cap, rfl, hg, cur, (k.2 g hl (by omega)).trans h1, h2⟩
def CycR (w : World) (base : Nat) (v : Value) (ls : List (List Nat)) : Prop :=
  ∃ vals : List Value, w.ownsRow base 29 1 v ls.length vals ∧ ∀ (i : Nat) (u : Value) (l : List Nat), vals[i]? = some u → ls[i]? = some l → RowIs w base u l
theorem CycR.nil (w : World) (base : Nat) : CycR w base (.slice none 0 0) [] := ⟨[], World.ownsRow_nil _ _ _ _, fun i u l h _ => by simp at h⟩
theorem CycR.kp {w w' : World} {base M : Nat} {v : Value} {ls : List (List Nat)} (h : CycR w base v ls) (k : Kp M w w') (hM : M < base) : CycR w' base v ls := by
  obtain ⟨vals, h1, h2⟩ := h
  refine ⟨vals, ?_, fun i u l hu hl => (h2 i u l hu hl).kp k hM⟩
  obtain ⟨h3, h4 | ⟨g, cap, cur, h5, h6, h7, h8⟩⟩ := h1
  · exact ⟨h3, .inl h4⟩
  · exact ⟨h3, .inr ⟨g, cap, cur, h5, h6, (k.2 g (Array.getElem?_eq_some_iff.1 h7).1 (by omega)).trans h7, h8⟩⟩
/-- One row more. -/
theorem CycR.more {wa w2 : World} {base : Nat} {v v' u : Value} {ls : List (List Nat)} {l : List Nat} {vals : List Value} (h1 : wa.ownsRow base 29 1 v ls.length vals) (h2 : ∀ (i : Nat) (u : Value) (l : List Nat), vals[i]? = some u → ls[i]? = some l → RowIs wa base u l) (hu : RowIs wa base u l)
    (hown : w2.ownsRow base 29 1 v' (ls.length + 1) (vals ++ [u])) (hgr : wa.grownBy w2 v.ownBlock) : CycR w2 base v' (ls ++ [l]) := by
  have key : ∀ {u l}, RowIs wa base u l → RowIs w2 base u l := by
    rintro u l ⟨g, cap, rfl, hg, hO⟩
    have hl := hO.lt
    obtain ⟨cur, k1, k2⟩ := hO
    refine ⟨g, cap, rfl, hg, cur, (hgr.block g hl (fun e => ?_)).trans k1, k2⟩
    obtain ⟨_, ⟨rfl, _⟩ | ⟨g', cap', cur', rfl, _, hg', _⟩⟩ := h1
    · simp [Value.ownBlock] at e
    · have e2 : g = g' := by simpa [Value.ownBlock] using e
      subst e2
      rw [hg'] at k1
      simp at k1
  have hlen : vals.length = ls.length := by have := h1.1; omega
  refine ⟨vals ++ [u], by rw [List.length_append]; exact hown, fun i u' l' e1 e2 => ?_⟩
  by_cases hi : i < vals.length
  · rw [List.getElem?_append_left hi] at e1
    rw [List.getElem?_append_left (by omega)] at e2
    exact key (h2 i u' l' e1 e2)
  · rw [List.getElem?_append_right (by omega)] at e1
    rw [List.getElem?_append_right (by omega)] at e2
    have h0 : i - vals.length = 0 := by
      rcases Nat.eq_zero_or_pos (i - vals.length) with h | h
      · exact h
      · rw [List.getElem?_eq_none (by simp; omega)] at e1; simp at e1
    rw [h0] at e1
    rw [show i - ls.length = 0 by omega] at e2
    simp at e1 e2
    subst e1 e2
    exact key hu
/-- A slice that reads as rows of numbers. -/
def SlSl (w : World) (v : Value) (ls : List (List Nat)) : Prop :=
  ∃ a cap, v = .slice a ls.length cap ∧ ∀ (i : Nat) (l : List Nat), ls[i]? = some l → ∃ b off u, a = some ⟨b, off, none⟩ ∧ w.cell? ⟨b, off + i, none⟩ = some u ∧ Sl w u (l.map Int.ofNat)
theorem CycR.sl {w : World} {base : Nat} {v : Value} {ls : List (List Nat)} (h : CycR w base v ls) : SlSl w v ls := by
  obtain ⟨vals, h1, h2⟩ := h
  have h1' := h1
  obtain ⟨h3, ⟨rfl, h4⟩ | ⟨g, cap, cur, rfl, h6, h7, h8, h9, h10, ht⟩⟩ := h1
  · refine ⟨none, 0, by rw [h4], fun i l hl => ?_⟩
    rw [List.length_eq_zero_iff.1 h4] at hl; simp at hl
  · refine ⟨_, cap, rfl, fun i l hl => ?_⟩
    have hi : i < ls.length := by
      rcases Nat.lt_or_ge i ls.length with h | h
      · exact h
      · rw [List.getElem?_eq_none h] at hl; simp at hl
    have e : (cur.toList.take (ls.length * 1))[i]? = vals[i]? := by rw [ht]
    rw [List.getElem?_take, if_pos (by omega)] at e
    obtain ⟨u, hu⟩ : ∃ u, vals[i]? = some u := ⟨vals[i]'(by omega), by simp⟩
    refine ⟨g, 0, u, rfl, ?_, ?_⟩
    · rw [cell_of_row w g _ _ _ _ h7, Nat.zero_add, ← Array.getElem?_toList, e, hu]
    · obtain ⟨g', cap', rfl, _, hO⟩ := h2 i u l hu hl
      have h := hO.sl cap'
      have e3 : (List.range l.length).map (fun j => (l.getD j 0 : Int)) = l.map Int.ofNat := by
        refine List.ext_getElem (by simp) fun j h1 h2 => ?_
        have hj : j < l.length := by simpa using h2
        simp [hj]
      rw [e3] at h
      exact h
theorem SlSl.below {w w' : World} {v : Value} {ls : List (List Nat)} (h : SlSl w v ls) (hb : Below w.heap.size w w') : SlSl w' v ls := by
  obtain ⟨a, cap, rfl, h⟩ := h
  refine ⟨a, cap, rfl, fun i l hl => ?_⟩
  obtain ⟨b, off, u, e, hc, hs⟩ := h i l hl
  exact ⟨b, off, u, e, (hb.cell (p := ⟨b, off + i, none⟩) (block_lt_of_cell hc)).trans hc, hs.below hb⟩

theorem CycR.form {w : World} {base : Nat} {v : Value} {ls : List (List Nat)} (h : CycR w base v ls) : ∃ a cap, v = .slice a ls.length cap := by
  obtain ⟨a, cap, e, _⟩ := h.sl
  exact ⟨a, cap, e⟩
theorem CycR.at {w : World} {base : Nat} {a : Option Addr} {c n : Nat} {ls : List (List Nat)} (h : CycR w base (.slice a n c) ls) {i : Nat} {l : List Nat} (hl : ls[i]? = some l) : ∃ b off u, a = some ⟨b, off, none⟩ ∧ b < w.heap.size ∧ w.cell? ⟨b, off + i, none⟩ = some u ∧ Sl w u (l.map Int.ofNat) := by
  obtain ⟨a', cap, e, h'⟩ := h.sl
  cases e
  obtain ⟨b, off, u, h1, h2, h3⟩ := h' i l hl
  exact ⟨b, off, u, h1, by simpa using block_lt_of_cell h2, h2, h3⟩

theorem met_zero {n : Nat} {f : Nat → Nat} {m : Nat → Bool} {k : Nat} (hm : ∀ x : Nat, x < n → (m x = true ↔ ∃ i j, i < k ∧ itr f j i = x)) (P : Pm n f) (hk : k < n) : m k = !leadB n f k := by
  rw [Bool.eq_iff_iff, hm k hk, Bool.not_eq_true', Bool.eq_false_iff, ne_eq, P.lead hk]
  constructor
  · rintro ⟨i, j, hi, hj⟩ h
    obtain ⟨q, hq⟩ := P.back (x := i) (k := j) (by omega)
    rw [hj] at hq
    have := h q
    omega
  · intro h
    obtain ⟨i, j, h1, h2, h3, h4, h5⟩ := P.lead_ex hk
    refine ⟨i, j, ?_, h5⟩
    rcases Nat.lt_or_ge i k with h6 | h6
    · exact h6
    · have : i = k := by omega
      subst this
      exact absurd ((P.lead hk).1 h3) h
theorem met_in {n : Nat} {f : Nat → Nat} {k q : Nat} (P : Pm n f) (hk : k < n) (hl : leadB n f k = true) : ¬ ∃ i j, i < k ∧ itr f j i = itr f q k := by
  rintro ⟨i, j, hi, hj⟩
  obtain ⟨q', hq⟩ := P.back (x := i) (k := j) (by omega)
  rw [hj, ← itr_add] at hq
  have := (P.lead hk).1 hl (q' + q)
  omega

end Go.Proofs.YtgpkhfpejopacabGreatDoor.Pu

namespace Go.Proofs.YtgpkhfpejopacabGreatDoor.Pu
open Go.Shelf Go.RowKit

def delRen : Go.Shelf.Ren := ⟨fun | 23 => 76 | n => n, fun | 22 => 29 | 3 => 3 | 4 => 4 | 0 => 0 | n => n, fun | n => n⟩
set_option maxRecDepth 100000 in
theorem delLays : Go.Proofs.Lays2.n23 Tryz.prog delRen := {
  mixed := by kernel_rfl
  f23 := Tryz.func76.trans (congrArg some (by kernel_rfl))
  t0 := Tryz.underlying0
  a0 := Tryz.isAgg0
  z0 := Tryz.sizeOf0
  v0 := Tryz.zeroValue0
  t3 := Tryz.underlying3
  a3 := Tryz.isAgg3
  z3 := Tryz.sizeOf3
  v3 := Tryz.zeroValue3
  t4 := Tryz.underlying4
  a4 := Tryz.isAgg4
  z4 := Tryz.sizeOf4
  v4 := Tryz.zeroValue4
  t22 := Tryz.underlying29
  a22 := Tryz.isAgg29
  z22 := Tryz.sizeOf29
  v22 := Tryz.zeroValue29
  i3 := by kernel_rfl }
theorem Own.sets {g n : Nat} : ∀ (vs : List Int) (o : Nat) (w : World) (f : Nat → Int), Own w g n f → Own (w.setCells g o (vs.map (Value.int .i64))) g n (fun j => if o ≤ j ∧ j < o + vs.length then vs.getD (j - o) 0 else f j)
  | [], o, w, f, h => h.congr fun j _ => by rw [if_neg (by rw [List.length_nil]; omega)]
  | x :: vs, o, w, f, h => by
    have h1 := Own.sets vs (o + 1) _ _ (h.set o x)
    refine Own.congr h1 fun j _ => ?_
    by_cases e : j = o
    · subst e
      rw [if_neg (by omega), if_pos (by simp)]
      simp [upd]
    · by_cases h2 : o + 1 ≤ j ∧ j < o + 1 + vs.length
      · rw [if_pos h2, if_pos (by rw [List.length_cons]; omega)]
        rw [show j - o = (j - (o + 1)) + 1 by omega]; simp
      · rw [if_neg h2, if_neg (by rw [List.length_cons]; omega)]
        simp [upd, e]
theorem Kp.sets (M : Nat) : ∀ (vs : List Value) (o : Nat) (w : World), Kp M w (w.setCells M o vs)
  | [], _, w => Kp.refl M w
  | v :: vs, o, w => (Kp.set M w o v).trans (Kp.sets M vs (o + 1) _)
theorem Below.sets {B M : Nat} (h : B ≤ M) : ∀ (vs : List Value) (o : Nat) (w : World), Below B w (w.setCells M o vs)
  | [], _, w => Below.refl B w
  | v :: vs, o, w => ((Below.refl B w).setCell (p := ⟨M, o, none⟩) h v).trans (Below.sets h vs (o + 1) _)

theorem Delete_any (L m c i : Nat) (h : Nat → Int) (w : World) (hO : Own w L (m + 1) h) (hi : i < m + 1) (hc : m + 1 ≤ c) (hcm : c ≤ 9223372036854775807) :
    Calls Tryz.prog 76 #[.slice (some ⟨L, 0, none⟩) (m + 1) c, .int .i64 (i : Int), .int .i64 ((i : Int) + 1)] w fun e w' => e = .returned (.slice (some ⟨L, 0, none⟩) m c) ∧ Own w' L m (fun j => if j < i then h j else h (j + 1)) ∧ Kp L w w' ∧ Below L w w' := by
  have hz : ((List.range (m + 1)).map h).length = m + 1 := by simp
  have C := Any.slices_Delete_int_cells delLays L 0 (m + 1) c i (i + 1) ((List.range (m + 1)).map h) w (by rw [hz]; exact Nat.le_refl _) hc hcm (by omega) (by omega) (fun j hj => by
    rw [hz] at hj
    rw [Nat.zero_add, hO.cell j hj]; simp [hj]) (fun j hj => by rw [Nat.zero_add]; exact hO.frozen j)
  have e1 : m + 1 - (i + 1 - i) = m := by omega
  have e2 : ((List.range (m + 1)).map h).take (m + 1) = (List.range (m + 1)).map h := List.take_of_length_le (by rw [hz]; exact Nat.le_refl _)
  rw [e1, e2, show i + 1 - i = 1 by omega] at C
  refine C.mono ?_
  rintro e w' ⟨rfl, q, rfl⟩
  have hO2 : Own (w.drewN q) L (m + 1) h := hO
  refine ⟨rfl, ?_, ?_, ?_⟩
  · have h1 := Own.sets (((List.range (m + 1)).map h).take i ++ ((List.range (m + 1)).map h).drop (i + 1) ++ List.replicate 1 0) 0 _ _ hO2
    obtain ⟨cur, k1, k2⟩ := h1
    refine ⟨cur, k1, fun j hj => ?_⟩
    rw [k2 j (by omega)]
    refine congrArg (fun x => some (Value.int .i64 x)) ?_
    have hlen : (((List.range (m + 1)).map h).take i ++ ((List.range (m + 1)).map h).drop (i + 1) ++ List.replicate 1 0).length = m + 1 := by simp; omega
    show (if 0 ≤ j ∧ j < 0 + _ then _ else _) = _
    rw [if_pos (by rw [hlen]; omega), Nat.sub_zero]
    show _ = if j < i then h j else h (j + 1)
    by_cases e : j < i
    · rw [if_pos e, List.getD_eq_getElem?_getD, List.append_assoc, List.getElem?_append_left (by simp; omega)]
      simp [e, show j < m + 1 by omega]
    · rw [if_neg e, List.getD_eq_getElem?_getD, List.append_assoc, List.getElem?_append_right (by simp; omega), List.getElem?_append_left (by simp; omega)]
      rw [List.getElem?_drop]
      simp only [List.length_take, List.length_map, List.length_range]
      rw [show i + 1 + (j - min i (m + 1)) = j + 1 by omega]
      simp [show j + 1 < m + 1 by omega]
  · exact Kp.trans (b := w.drewN q) (Kp.refl L w) (Kp.sets L _ 0 _)
  · exact (show Below L w (w.drewN q) from bdrewN (Below.refl L w) q).trans (Below.sets (Nat.le_refl L) _ 0 _)

end Go.Proofs.YtgpkhfpejopacabGreatDoor.Pu

/- The walks of unrank, Unrank. -/
namespace Go.Proofs.YtgpkhfpejopacabGreatDoor.Pu
open Go.RowKit

theorem own_kp {w w' : World} {base M n : Nat} {e : TypeId} {size : Nat} {v : Value} {xs : List Value} (h : w.ownsRow base e size v n xs) (k : Kp M w w') (hM : M < base) : w'.ownsRow base e size v n xs := by
  obtain ⟨h3, h4 | ⟨g, cap, cur, h5, h6, h7, h8⟩⟩ := h
  · exact ⟨h3, .inl h4⟩
  · exact ⟨h3, .inr ⟨g, cap, cur, h5, h6, (k.2 g (Array.getElem?_eq_some_iff.1 h7).1 (by omega)).trans h7, h8⟩⟩
theorem getD_erase (l : List Nat) (i j : Nat) : (l.eraseIdx i).getD j 0 = if j < i then l.getD j 0 else l.getD (j + 1) 0 := by
  rw [List.getD_eq_getElem?_getD, List.getElem?_eraseIdx]
  split <;> simp [List.getD_eq_getElem?_getD]
/-- A list of numbers as values. -/
def vl (l : List Nat) : List Value := (l.map Int.ofNat).map (Value.int .i64)
theorem vl_append (l m : List Nat) : vl (l ++ m) = vl l ++ vl m := by simp [vl]
theorem own_vl {w : World} {base n : Nat} {v : Value} {l : List Nat} (h : w.ownsRow base 3 1 v n (vl l)) (hn : l.length = n) : Sl w v (l.map Int.ofNat) := Sl.owned (by rw [List.length_map, hn]; exact h)
/-- A slice that lies above the base. -/
def UpA (base : Nat) (x : Value) : Prop := ∀ b o n c, x = .slice (some ⟨b, o, none⟩) n c → base ≤ b
theorem upA_owned {w : World} {base base' n sz : Nat} {t : TypeId} {v : Value} {xs : List Value} (h : w.ownsRow base t sz v n xs) (hb : base' ≤ base) : UpA base' v := by
  intro b o m c e
  obtain ⟨_, ⟨rfl, _⟩ | ⟨g, cap, cur, rfl, hg, _⟩⟩ := h
  · cases e
  · cases e; omega


set_option maxRecDepth 100000 in
set_option maxHeartbeats 2000000 in
theorem unrank_any (n k : Nat) (w : World) (hn : n ≤ 12) (hk : k < fac n) :
    Calls Tryz.prog 30 #[.int .i64 (n : Int), .int .i64 (k : Int)] w fun e w' => ∃ x, e = .returned x ∧ UpA w.heap.size x ∧ Sl w' x ((unrL n (List.range n) k).map Int.ofNat) ∧ Below w.heap.size w w' := by
  obtain ⟨i3, hi, hz0, hz1, hz2⟩ := info3
  have C := fun (m : Nat) A (h : m ≤ 12) => orders_any m A h
  have hkb : k < 479001600 := Nat.lt_of_lt_of_le hk (fac_le hn)
  have HKF : Hid (k < fac n) := hk
  obtain ⟨goal, Hgoal⟩ : ∃ g, Hid (unrL n (List.range n) k = g) := ⟨_, rfl⟩
  have hgl : Hid (goal.length = n) := by rw [← Hgoal.out]; exact unrL_len _ _ _
  rw [Hgoal.out]
  clear hk
  go_enter Tryz.func30, Tryz.ntmps30
  go_wp2_with (first
    | (at_make; refine wpList_make_full _ rfl _ _ 29 rfl w.heap.size 3 i3 (.int .i64 0) 1 und22 hi hz0 hz1 .i64 .i64 (n : Int) (n : Int) n rfl rfl rfl rfl ?c1 ?c2 (Nat.le_refl _) ?_))
  case c1 => rw [hz2]; omega
  case c2 => unfold maxLen; omega
  intro w1 how1 hgr1
  have hO1 := own_made' how1
  have hb1 : Below w.heap.size w w1 := ⟨hgr1.os, hgr1.tape, hgr1.output, hgr1.size, fun k hk => hgr1.block k hk (by simp)⟩
  clear how1 hgr1
  go_wp2
  go_loopw [14] (fun i wr => ∃ (j : Nat) (h : Nat → Int), i = .int .i64 j ∧ j ≤ n ∧ Own wr w.heap.size n h ∧ Hid (∀ t, t < j → h t = (t : Int)) ∧ Below w.heap.size w wr) (fun i _ => (n - intOf i).toNat)
  case atStart => exact ⟨0, _, rfl, by omega, hO1, (fun t ht => by omega : ∀ t, t < 0 → _), hb1⟩
  case round =>
    clear hO1 hb1
    obtain ⟨j, h, rfl, hj, hO, HH, hb⟩ := hrel
    by_cases hlt : j < n
    · have hji : (j : Int) < n := by omega
      have hjd : decide ((j : Int) < n) = true := by simp; omega
      have hcell := hO.cell j hlt
      have hfr := hO.frozen j
      go_wp2
      go_roundw
      case rel =>
        refine ⟨j + 1, upd h j j, by go_num, by omega, hO.set j j, (fun t ht => ?_ : ∀ t, t < j + 1 → _), hb.setCell (p := ⟨w.heap.size, j, none⟩) (Nat.le_refl _) _⟩
        unfold upd
        by_cases e : t = j
        · subst e; rw [if_pos rfl]
        · rw [if_neg e]; exact HH.out t (by omega)
      case measure => simp [intOf]; omega
    · obtain rfl : j = n := by omega
      have hjd : decide ((j : Int) < (j : Int)) = false := by simp
      have hOr : Own wr w.heap.size j (fun t => ((List.range j).getD t 0 : Int)) := hO.congr fun t ht => by rw [HH.out t ht]; simp [ht]
      have hlt' := hOr.lt
      clear hO HH
      go_wp2_with (first
        | (at_make; refine wpList_make_own _ rfl _ _ 29 rfl wr.heap.size 3 i3 (.int .i64 0) 1 und22 hi hz0 hz1 .i64 .i64 (j : Int) j rfl rfl rfl ?d1 ?d2 (Nat.le_refl _) ?_))
      case d1 => rw [hz2]; omega
      case d2 => unfold maxLen; omega
      intro w2 how2 hgr2
      have hb2 : Below wr.heap.size wr w2 := ⟨hgr2.os, hgr2.tape, hgr2.output, hgr2.size, fun k hk => hgr2.block k hk (by simp)⟩
      obtain ⟨wo, rfl⟩ : ∃ wo, wo = wr := ⟨_, rfl⟩
      have hO2 := hOr.below hb2
      have hB2 := Below.next hb hb2
      have hs2 := hb2.size
      clear hgr2 hOr hb hb2
      go_wp2
      go_loopw [1, 5, 7] (fun kv lv ov wr => ∃ (kk m : Nat) (lft done : List Nat), kv = .int .i64 kk ∧ lv = .slice (some ⟨w.heap.size, 0, none⟩) m j ∧ m ≤ j ∧ Hid (lft.length = m) ∧ Own wr w.heap.size m (fun t => (lft.getD t 0 : Int)) ∧ wr.ownsRow wo.heap.size 3 1 ov (j - m) (vl done) ∧ Hid (done.length = j - m) ∧ Hid (kk < fac m) ∧ Hid (done ++ unrL m lft kk = goal) ∧ wo.heap.size ≤ wr.heap.size ∧ Below w.heap.size w wr) (fun _ lv _ _ => sliceLen lv)
      case atStart =>
        refine ⟨k, j, List.range j, [], rfl, rfl, Nat.le_refl _, List.length_range, hO2, ?_, (by simp : [].length = j - j), HKF, Hgoal, hs2, hB2⟩
        rw [Nat.sub_self]; exact how2
      case round =>
        clear how2 hO2 hB2 hs2
        obtain ⟨kk, m, lft, done, rfl, rfl, hm, HL, hO, hown, HD, HK, HG, hsz, hB⟩ := hrel
        by_cases hm0 : m = 0
        · subst hm0
          have hmd : decide ((0 : Int) < ((0 : Nat) : Int)) = false := by simp
          go_wp2
          go_ret
          refine ⟨_, rfl, upA_owned hown (by omega), ?_, hB⟩
          have e : done = goal := by
            have := HG.out
            rw [unrL, List.append_nil] at this
            exact this
          rw [← e]
          exact own_vl hown (by rw [HD.out])
        · obtain ⟨m', rfl⟩ : ∃ m', m = m' + 1 := ⟨m - 1, by omega⟩
          have hmi : (0 : Int) < ((m' + 1 : Nat) : Int) := by omega
          have hmd : decide ((0 : Int) < ((m' + 1 : Nat) : Int)) = true := decide_eq_true hmi
          have hm1 : (((m' + 1 : Nat) : Int)) - 1 = (m' : Int) := by omega
          obtain ⟨g, Hg⟩ : ∃ g, Hid (fac m' = g) := ⟨_, rfl⟩
          have D := fun A => C m' A (by omega)
          rw [Hg.out] at D
          have hg1 : 1 ≤ g := by rw [← Hg.out]; exact fac_pos m'
          have hgb : g ≤ 479001600 := by rw [← Hg.out]; exact fac_le (by omega)
          obtain ⟨at', Hat⟩ : ∃ a, Hid (kk / g = a) := ⟨_, rfl⟩
          obtain ⟨r, Hr⟩ : ∃ r, Hid (kk % g = r) := ⟨_, rfl⟩
          have hatm : at' < m' + 1 := by rw [← Hat.out, ← Hg.out]; exact div_fac HK.out
          have hrg : r < g := by rw [← Hr.out]; exact Nat.mod_lt _ (by omega)
          have e1 : (kk : Int) / (g : Int) = (at' : Int) := by rw [← Hat.out, Int.natCast_ediv]
          have e2 : (kk : Int) % (g : Int) = (r : Int) := by rw [← Hr.out, Int.natCast_emod]
          have hgz : ((g : Int) == 0) = false := by simp; omega
          have hkkb : kk < 479001600 := Nat.lt_of_lt_of_le HK.out (fac_le (by omega))
          obtain ⟨x, Hx⟩ : ∃ x, Hid (lft.getD at' 0 = x) := ⟨_, rfl⟩
          have hcx := hO.cell at' hatm
          rw [Hx.out] at hcx
          have hatmi : (at' : Int) < ((m' + 1 : Nat) : Int) := by omega
          have HU : Hid (unrL (m' + 1) lft kk = x :: unrL m' (lft.eraseIdx at') r) := by
            show unrL (m' + 1) lft kk = _
            rw [unrL, Hg.out, Hat.out, Hr.out, Hx.out]
          go_wp2_with (first
            | (go_at_call 29; refine (D _).mono ?_; rintro e w3 ⟨rfl, hw⟩; replace hw := hw.symm; subst hw)
            | (at_builtin; refine wpList_append_own _ rfl _ _ 29 rfl wo.heap.size 3 i3 (.int .i64 0) 1 8 und22 hi hz0 hz1 hz2 rfl (by decide) _ _ _ rfl (hown.alloc _) ⟨wr.heap.size, 0, none⟩ 1 1 [.int .i64 (x : Int)] rfl rfl ?c1 ?c2 ?c3 ?c4 ?c5 ?_)
            | go_in)
          case c1 =>
            intro j u hj
            match j, hj with
            | 0, hj => simp at hj; subst hj; simp [Addr.add]
          case c2 => intro u hu; simp at hu; subst hu; rfl
          case c3 => unfold maxLen; omega
          case c4 => omega
          case c5 => simp; omega
          intro v' w4 hown4 hgrow _
          have hU4 : Below wo.heap.size wr w4 := ((Below.refl _ _).alloc (by omega) _).grown hgrow (by simp; omega) (fun k hk => (hown.lt k hk).1)
          have hB4 : Below w.heap.size w w4 := hB.trans (hU4.mono (by omega))
          have hO4 : Own w4 w.heap.size (m' + 1) (fun t => (lft.getD t 0 : Int)) := by
            obtain ⟨cur, k1, k2⟩ := hO
            exact ⟨cur, (hU4.block w.heap.size (by omega)).trans k1, k2⟩
          have CD := Delete_any w.heap.size m' j at' _ w4 hO4 hatm hm (by omega)
          have hs4 := hU4.size
          clear hgrow hU4 hO4 hO
          go_wp2_with (first
            | (go_at_call 76; refine CD.mono ?_; rintro e w5 ⟨rfl, hO5, hK5, hB5⟩))
          have hown5 := own_kp hown4 hK5 (by omega)
          have hs5 := hB5.size
          go_roundw
          case rel =>
            refine ⟨r, m', lft.eraseIdx at', done ++ [x], rfl, rfl, by omega, ?_, ?_, ?_, ?_, ?_, ?_, by omega, hB4.trans hB5⟩
            · show (lft.eraseIdx at').length = m'
              rw [List.length_eraseIdx_of_lt (by rw [HL.out]; exact hatm), HL.out]; omega
            · refine hO5.congr fun t ht => ?_
              show (if t < at' then (lft.getD t 0 : Int) else (lft.getD (t + 1) 0 : Int)) = _
              rw [getD_erase lft at' t]
              split <;> rfl
            · rw [show j - m' = j - (m' + 1) + 1 by omega, vl_append]
              exact hown5
            · show (done ++ [x]).length = j - m'
              rw [List.length_append, HD.out]; simp; omega
            · show r < fac m'
              rw [Hg.out]; exact hrg
            · show done ++ [x] ++ unrL m' (lft.eraseIdx at') r = goal
              rw [← HG.out, HU.out]; simp
          case measure => simp [sliceLen]

end Go.Proofs.YtgpkhfpejopacabGreatDoor.Pu

namespace Go.Proofs.YtgpkhfpejopacabGreatDoor.Pu
open Go.RowKit

set_option maxRecDepth 100000 in
theorem info4 : ∃ i, Tryz.prog.info? 4 = some i ∧ i.zero = some (.bool false) ∧ i.size = 1 ∧ i.bytes = 1 := by
  have h1 : (Tryz.prog.info? 4).map (·.zero) = some (some (.bool false)) := by kernel_rfl
  have h2 : (Tryz.prog.info? 4).map (·.size) = some 1 := by kernel_rfl
  have h3 : (Tryz.prog.info? 4).map (·.bytes) = some 1 := by kernel_rfl
  match h : Tryz.prog.info? 4 with
  | none => rw [h] at h1; simp at h1
  | some i =>
    rw [h] at h1 h2 h3
    simp only [Option.map_some, Option.some.injEq] at h1 h2 h3
    exact ⟨i, rfl, h1, h2, h3⟩
/-- A row of truths of the call's own. -/
def OwnB (w : World) (g n : Nat) (f : Nat → Bool) : Prop := ∃ cur, w.heap[g]? = some (.cells cur 4 (0, 0)) ∧ ∀ j, j < n → cur[j]? = some (.bool (f j))
theorem OwnB.lt {w : World} {g n : Nat} {f : Nat → Bool} (h : OwnB w g n f) : g < w.heap.size := by
  obtain ⟨cur, h, _⟩ := h
  exact (Array.getElem?_eq_some_iff.1 h).1
theorem OwnB.cell {w : World} {g n : Nat} {f : Nat → Bool} (h : OwnB w g n f) (j : Nat) (hj : j < n) : w.cell? ⟨g, j, none⟩ = some (.bool (f j)) := by
  obtain ⟨cur, h, hc⟩ := h
  rw [cell_of_row w g j _ _ _ h, hc j hj]
theorem OwnB.frozen {w : World} {g n : Nat} {f : Nat → Bool} (h : OwnB w g n f) (j : Nat) : w.frozen? ⟨g, j, none⟩ = false := by
  obtain ⟨cur, h, _⟩ := h
  exact frozen_of_row w g j _ _ h
theorem OwnB.set {w : World} {g n : Nat} {f : Nat → Bool} (h : OwnB w g n f) (i : Nat) : OwnB (w.setCell ⟨g, i, none⟩ (.bool true)) g n (upU f i) := by
  obtain ⟨cur, h, hc⟩ := h
  refine ⟨_, heap_setCell_same w g i _ _ _ h, fun j hj => ?_⟩
  have hcj := hc j hj
  rw [Array.getElem?_setIfInBounds]
  unfold upU
  by_cases e : i = j
  · subst e
    rw [if_pos rfl, if_pos rfl, if_pos (Array.getElem?_eq_some_iff.1 hcj).1]
  · rw [if_neg e, if_neg (fun h => e h.symm), hcj]
theorem OwnB.below {w w' : World} {g n B : Nat} {f : Nat → Bool} (h : OwnB w g n f) (hb : Below B w w') (hB : g < B) : OwnB w' g n f := by
  obtain ⟨cur, h, hc⟩ := h
  exact ⟨cur, (hb.block g hB).trans h, hc⟩
theorem ownB_made {w : World} {base g n : Nat} (h : w.ownsRow base 4 1 (.slice (some ⟨g, 0, none⟩) n n) n (madeCells #[Value.bool false] n).toList) : OwnB w g n (fun _ => false) := by
  obtain ⟨_, ⟨h1, _⟩ | ⟨g', cap, cur, e, hb, hg, h2, h3, h4, ht⟩⟩ := h
  · cases h1
  · cases e
    refine ⟨cur, hg, fun j hj => ?_⟩
    have e2 : (cur.toList.take (n * 1))[j]? = ((madeCells #[Value.bool false] n).toList)[j]? := by rw [ht]
    rw [List.getElem?_take, if_pos (by omega)] at e2
    rw [← Array.getElem?_toList, e2]
    simp [madeCells, hj, Nat.mod_one]

theorem Unrank_n (n k : Int) (w : World) (h : n < 0 ∨ 12 < n) :
    Calls Tryz.prog 7 #[.int .i64 n, .int .i64 k] w fun e w' => e = .returned (.tuple #[.slice none 0 0, .int .i64 1]) ∧ Below w.heap.size w w' := by
  by_cases h1 : n < 0
  · have hd : decide (n < 0) = true := by simpa using h1
    go_enter Tryz.func7, Tryz.ntmps7
    go_wp2
    exact bodyPost_ret (v := .tuple #[.slice none 0 0, .int .i64 1]) (by simp [results, Tryz.results7, go_sem]) rfl ⟨rfl, Below.refl _ _⟩
  · have hd : decide (n < 0) = false := by simpa using h1
    have hd2 : decide (12 < n) = true := by simp; omega
    clear h
    go_enter Tryz.func7, Tryz.ntmps7
    go_wp2
    exact bodyPost_ret (v := .tuple #[.slice none 0 0, .int .i64 1]) (by simp [results, Tryz.results7, go_sem]) rfl ⟨rfl, Below.refl _ _⟩
theorem Unrank_k (n : Nat) (k : Int) (w : World) (hn : n ≤ 12) (h : k < 0 ∨ (fac n : Int) ≤ k) :
    Calls Tryz.prog 7 #[.int .i64 (n : Int), .int .i64 k] w fun e w' => e = .returned (.tuple #[.slice none 0 0, .int .i64 1]) ∧ Below w.heap.size w w' := by
  have C := fun A => orders_any n A hn
  obtain ⟨z, Hz⟩ : ∃ z, Hid (fac n = z) := ⟨_, rfl⟩
  rw [Hz.out] at h C
  have hd0 : decide ((n : Int) < 0) = false := decide_eq_false (by omega)
  have hd1 : decide (12 < (n : Int)) = false := decide_eq_false (by omega)
  by_cases h1 : k < 0
  · have hd : decide (k < 0) = true := by simpa using h1
    go_enter Tryz.func7, Tryz.ntmps7
    go_wp2_with (first
      | (go_at_call 29; refine (C _).mono ?_; rintro e w1 ⟨rfl, hw⟩; replace hw := hw.symm; subst hw))
    all_goals exact bodyPost_ret (v := .tuple #[.slice none 0 0, .int .i64 1]) (by simp [results, Tryz.results7, go_sem]) rfl ⟨rfl, Below.refl _ _⟩
  · have hd : decide (k < 0) = false := by simpa using h1
    have h2 : (z : Int) ≤ k := by omega
    have hd2 : decide ((z : Int) ≤ k) = true := by simpa using h2
    clear h
    go_enter Tryz.func7, Tryz.ntmps7
    go_wp2_with (first
      | (go_at_call 29; refine (C _).mono ?_; rintro e w1 ⟨rfl, hw⟩; replace hw := hw.symm; subst hw))
    all_goals exact bodyPost_ret (v := .tuple #[.slice none 0 0, .int .i64 1]) (by simp [results, Tryz.results7, go_sem]) rfl ⟨rfl, Below.refl _ _⟩
theorem Unrank_ok (n k : Nat) (w : World) (hn : n ≤ 12) (hk : k < fac n) :
    Calls Tryz.prog 7 #[.int .i64 (n : Int), .int .i64 (k : Int)] w fun e w' => ∃ x, e = .returned (.tuple #[x, .int .i64 0]) ∧ UpA w.heap.size x ∧ Sl w' x ((unrL n (List.range n) k).map Int.ofNat) ∧ Below w.heap.size w w' := by
  have C := fun A => orders_any n A hn
  have C2 := fun A => unrank_any n k A hn hk
  obtain ⟨goal, Hgoal⟩ : ∃ g, Hid (unrL n (List.range n) k = g) := ⟨_, rfl⟩
  rw [Hgoal.out] at C2 ⊢
  obtain ⟨z, Hz⟩ : ∃ z, Hid (fac n = z) := ⟨_, rfl⟩
  rw [Hz.out] at hk C
  have hd0 : decide ((n : Int) < 0) = false := decide_eq_false (by omega)
  have hd1 : decide (12 < (n : Int)) = false := decide_eq_false (by omega)
  have hd2 : decide ((k : Int) < 0) = false := decide_eq_false (by omega)
  have hd3 : decide ((z : Int) ≤ (k : Int)) = false := decide_eq_false (by omega)
  go_enter Tryz.func7, Tryz.ntmps7
  go_wp2_with (first
    | (go_at_call 29; refine (C _).mono ?_; rintro e w1 ⟨rfl, hw⟩; replace hw := hw.symm; subst hw)
    | (go_at_call 30; refine (C2 _).mono ?_; rintro e w2 ⟨x, rfl, hx0, hx, hb2⟩))
  exact bodyPost_ret (v := .tuple #[x, .int .i64 0]) (by simp [results, Tryz.results7, go_sem]) rfl ⟨x, rfl, hx0, hx, hb2⟩

end Go.Proofs.YtgpkhfpejopacabGreatDoor.Pu
