/- The walk of what a run has in some columns. -/
import Derived.Test.YtjfjdidibglhaabAK
import Derived.Test.YtjfjdidibglhaabA3
namespace Go.Proofs.Ytjfjdidibglhaab
open Go.RowKit Go.Maps

/-- What a run has in some columns, and 0 elsewhere. -/
def enG (c : Nat) (l : List Int) (m i : Nat) : Int := if i < m ∧ c.testBit i = true then l.getD i 0 else 0
def enF (c : Nat) (l : List Int) : List Int := (List.range 8).map fun i => if c.testBit i = true then l.getD i 0 else 0
theorem enF_at (c : Nat) (l : List Int) {i : Nat} (hi : i < 8) : (enF c l).getD i 0 = if c.testBit i = true then l.getD i 0 else 0 := by
  unfold enF
  rw [List.getD_eq_getElem?_getD, List.getElem?_map, List.getElem?_range hi]
  rfl
theorem enF_row (c : Nat) (l : List Int) : eV (enF c l) = .agg (erow (enG c l l.length)) := by
  unfold eV
  congr 1
  refine erow_congr fun i hi => ?_
  rw [enF_at c l hi]
  unfold enG
  by_cases h : i < l.length
  · by_cases hb : c.testBit i = true
    · rw [if_pos hb, if_pos ⟨h, hb⟩]
    · rw [if_neg hb, if_neg fun k => hb k.2]
  · have e2 : (if i < l.length ∧ c.testBit i = true then l.getD i 0 else 0) = 0 := if_neg fun k => h k.1
    rw [e2, List.getD_eq_getElem?_getD, List.getElem?_eq_none (by omega)]
    split <;> rfl
theorem en_in (c : Nat) (l : List Int) {m i : Nat} (h : i < m) : enG c l m i = if c.testBit i = true then l.getD i 0 else 0 := by
  unfold enG
  by_cases hb : c.testBit i = true
  · rw [if_pos hb, if_pos ⟨h, hb⟩]
  · rw [if_neg hb, if_neg fun k => hb k.2]
theorem en_out (c : Nat) (l : List Int) {m i : Nat} (h : m ≤ i) : enG c l m i = 0 := if_neg fun k => by omega
theorem en_yes {c : Nat} (l : List Int) {j : Nat} (hj : c.testBit j = true) (i : Nat) : upd (enG c l j) j (l.getD j 0) i = enG c l (j + 1) i := by
  show (if i = j then l.getD j 0 else enG c l j i) = _
  by_cases e : i = j
  · subst e; rw [if_pos rfl, en_in c l (by omega), if_pos hj]
  · rw [if_neg e]
    rcases (show i < j ∨ j < i by omega) with k | k
    · rw [en_in c l k, en_in c l (by omega)]
    · rw [en_out c l (by omega), en_out c l (by omega)]
theorem en_no {c : Nat} (l : List Int) {j : Nat} (hj : c.testBit j = false) (i : Nat) : enG c l j i = enG c l (j + 1) i := by
  rcases (show i < j ∨ i = j ∨ j < i by omega) with k | k | k
  · rw [en_in c l k, en_in c l (by omega)]
  · subst k; rw [en_out c l (Nat.le_refl _), en_in c l (by omega), hj]; rfl
  · rw [en_out c l (by omega), en_out c l (by omega)]
theorem and64 {a b : Nat} (ha : a < 2 ^ 64) (hb : b < 2 ^ 64) : bits .and .u64 (a : Int) (b : Int) = ((a &&& b : Nat) : Int) := bits_and_u64_nat a b ha hb
theorem col_bit {x : Nat} (hx : x < 2 ^ 64) (b : Nat) : (bits .and .u64 ((x : Int) / 2 ^ b) 1 == 1) = x.testBit b := by
  have h1 : x / 2 ^ b < 2 ^ 64 := Nat.lt_of_le_of_lt (Nat.div_le_self _ _) hx
  have h0 : (x : Int) / 2 ^ b = ((x / 2 ^ b : Nat) : Int) := by simp
  rw [h0, show (1 : Int) = ((1 : Nat) : Int) from rfl, and64 h1 (by decide), Nat.and_one_is_mod]
  unfold Nat.testBit
  rw [Nat.one_and_eq_mod_two, Nat.shiftRight_eq_div_pow]
  have := Nat.mod_two_eq_zero_or_one (x / 2 ^ b)
  rcases this with e | e <;> rw [e] <;> rfl
theorem two_rows (w : World) : ERow 60 ((w.alloc (.cells #[.int .i64 0, .int .i64 0, .int .i64 0, .int .i64 0, .int .i64 0, .int .i64 0, .int .i64 0, .int .i64 0] 60)).alloc (.cells #[.int .i64 0, .int .i64 0, .int .i64 0, .int .i64 0, .int .i64 0, .int .i64 0, .int .i64 0, .int .i64 0] 60)) w.heap.size (fun _ => 0) ∧
    ERow 60 ((w.alloc (.cells #[.int .i64 0, .int .i64 0, .int .i64 0, .int .i64 0, .int .i64 0, .int .i64 0, .int .i64 0, .int .i64 0] 60)).alloc (.cells #[.int .i64 0, .int .i64 0, .int .i64 0, .int .i64 0, .int .i64 0, .int .i64 0, .int .i64 0, .int .i64 0] 60)) (w.heap.size + 1) (fun _ => 0) :=
  ⟨(ERow.made0 60 w).alloc _, by have := ERow.made0 60 (w.alloc (.cells #[.int .i64 0, .int .i64 0, .int .i64 0, .int .i64 0, .int .i64 0, .int .i64 0, .int .i64 0, .int .i64 0] 60)); simpa using this⟩
set_option maxRecDepth 100000 in
set_option maxHeartbeats 8000000 in
theorem of_any (c : Nat) (l : List Int) (v : Value) (w : World) (hc : c < 2 ^ 64) (hv : Sl w v l) (hl : l.length ≤ 8) :
    Calls Try.prog 28 #[.int .u64 (c : Int), v] w fun e w' => e = .returned (eV (enF c l)) ∧ Below w.heap.size w w' := by
  rw [enF_row c l]
  obtain ⟨h1, h2⟩ := two_rows w
  have hb0 : Below w.heap.size w ((w.alloc (.cells #[.int .i64 0, .int .i64 0, .int .i64 0, .int .i64 0, .int .i64 0, .int .i64 0, .int .i64 0, .int .i64 0] 60)).alloc (.cells #[.int .i64 0, .int .i64 0, .int .i64 0, .int .i64 0, .int .i64 0, .int .i64 0, .int .i64 0, .int .i64 0] 60)) := Below.next (balloc _ _) (balloc _ _)
  obtain ⟨m, Hm⟩ : ∃ m, Hid (l.length = m) := ⟨_, rfl⟩
  have HV : Hid (∀ W, Below w.heap.size w W → Sl W v l) := fun W b => hv.below b
  obtain ⟨a, cap, rfl, -⟩ := hv
  rw [Hm.out] at hl HV ⊢
  have HBIT : Hid (∀ j, (bits .and .u64 ((c : Int) / 2 ^ j) 1 == 1) = c.testBit j) := fun j => col_bit hc j
  obtain ⟨F, HF⟩ : ∃ F : Nat → Nat → Int, Hid (enG c l = F) := ⟨_, rfl⟩
  rw [HF.out]
  have H0 : Hid (∀ i, (0 : Int) = F 0 i) := fun i => by rw [← HF.out]; unfold enG; rw [if_neg (by omega)]
  have HY : Hid (∀ j, c.testBit j = true → ∀ i, upd (F j) j (l.getD j 0) i = F (j + 1) i) := fun j hj i => by rw [← HF.out]; exact en_yes l hj i
  have HNO : Hid (∀ j, c.testBit j = false → ∀ i, F j i = F (j + 1) i) := fun j hj i => by rw [← HF.out]; exact en_no l hj i
  clear hc
  go_enter Try.func28, Try.ntmps28
  go_wp2
  go_loopw [6, 7, 10] (fun _ _ iv wr => ∃ j : Nat, iv = .int .i64 (j : Int) ∧ j ≤ m ∧ ERow 60 wr (w.heap.size + 1) (F j) ∧ ERow 60 wr w.heap.size (fun _ => 0) ∧ Below w.heap.size w wr) (fun _ _ iv _ => (m - intOf iv).toNat)
  case atStart => exact ⟨0, rfl, by omega, h2.congr fun i _ => H0.out i, h1, hb0⟩
  case round =>
    clear h1 h2 hb0
    obtain ⟨j, rfl, hj, h2, h1, hB⟩ := hrel
    by_cases hlt : j < m
    · have hdj : decide ((j : Int) < (m : Int)) = true := by simp; omega
      have hjj : (j : Int) < (m : Int) := by omega
      obtain ⟨xb, xo, xc', exa, -, hcj0⟩ := (HV.out _ hB).form Hm.out (show 0 < m by omega)
      simp only [Value.slice.injEq, true_and] at exa
      obtain ⟨rfl, rfl⟩ := exa
      have hcj := hcj0 j hlt
      clear hcj0
      obtain ⟨y, Hy⟩ : ∃ y, Hid (l.getD j 0 = y) := ⟨_, rfl⟩
      rw [Hy.out] at hcj
      have hbit := HBIT.out j
      have hj8 : (j : Int) < 8 := by omega
      cases hq : c.testBit j with
      | true =>
        rw [hq] at hbit
        have hc2 := h2.cell j (by omega)
        have hfz := h2.frozen j
        have HF2 : Hid (∀ i, upd (F j) j y i = F (j + 1) i) := fun i => by rw [← Hy.out]; exact HY.out j hq i
        go_wp2
        go_roundw
        case rel => exact ⟨j + 1, by go_num, by omega, (h2.set j y).congr fun i _ => HF2.out i, h1.other _ _ (by simp), hB.setCell (by show w.heap.size ≤ w.heap.size + 1; omega) _⟩
        case measure => simp [intOf]; omega
      | false =>
        rw [hq] at hbit
        have HF2 : Hid (∀ i, F j i = F (j + 1) i) := fun i => HNO.out j hq i
        go_wp2
        go_roundw
        case rel => exact ⟨j + 1, by go_num, by omega, h2.congr fun i _ => HF2.out i, h1, hB⟩
        case measure => simp [intOf]; omega
    · have hdj : decide ((j : Int) < (m : Int)) = false := by simp; omega
      obtain rfl : j = m := by omega
      go_wp2_with (first
        | (refine wpList_load_row rfl 60 _ rfl (w.heap.size + 1) rfl 60 _ (0, 0) _ h2 und61 rfl (inf61 _) ?_)
        | (refine wpList_store_row rfl 60 _ _ rfl w.heap.size (erow (F j)) rfl rfl 60 _ h1 (inf61 _) (by simp) (erow_one _) ?_))
      exact post_erow 4 rfl rfl (h1.whole (F j)) rfl ⟨rfl, bsetRw hB (Nat.le_refl _) _⟩
end Go.Proofs.Ytjfjdidibglhaab
