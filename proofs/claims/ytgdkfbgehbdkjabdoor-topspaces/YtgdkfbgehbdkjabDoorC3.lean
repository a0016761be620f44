/- The walk of the program's Gauss. -/
import Derived.Test.YtgdkfbgehbdkjabDoorC1
import Derived.Deep.RegionWith
/- The walk of the program's gauss. -/
namespace Go.Proofs.YtgdkfbgehbdkjabDoor
open Go.RowKit

/-- The counts on their way: those from i + 1 on are of the next row. -/
def gcT (q m i : Nat) : Nat → Int := fun j => if i < j then (cnG q (m + 1) j : Int) else (cnG q m j : Int)
theorem gcT_start (q m k : Nat) (j : Nat) (hj : j < k + 1) : (cnG q m j : Int) = gcT q m k j := by unfold gcT; rw [if_neg (by omega)]
theorem gcT_end (q m : Nat) (j : Nat) : gcT q m 0 j = (cnG q (m + 1) j : Int) := by
  unfold gcT
  by_cases h : 0 < j
  · rw [if_pos h]
  · obtain rfl : j = 0 := by omega
    rw [if_neg (by omega)]
    unfold cnG
    rw [gs_zero, gs_zero]
theorem gcT_next (q m i j : Nat) : upd (gcT q m (i + 1)) (i + 1) (cnG q (m + 1) (i + 1) : Int) j = gcT q m i j := by
  unfold upd gcT
  by_cases h : j = i + 1
  · rw [if_pos h, h, if_pos (by omega)]
  · rw [if_neg h]
    by_cases h2 : i < j
    · rw [if_pos h2, if_pos (by omega)]
    · rw [if_neg h2, if_neg (by omega)]
theorem own_made (w : World) (n : Nat) : Own (w.alloc (.cells (madeCells #[.int .i64 0] n) 3)) w.heap.size n (fun _ => 0) := by
  refine ⟨_, heap_alloc_new w _, fun j hj => ?_⟩
  have hs : j < (madeCells #[Value.int .i64 0] n).size := by rw [size_madeCells]; exact hj
  rw [Array.getElem?_eq_getElem hs]
  simp [madeCells, Nat.mod_one]
theorem run_makeI (n : Nat) (hn : n ≤ 100000) (w : World) : (Instr.makeSlice 22 (.int .i64 ((n : Int) + 1)) (.int .i64 ((n : Int) + 1))).run Tryd.prog w = .ok (.slice (some ⟨w.heap.size, 0, none⟩) (n + 1) (n + 1)) (w.alloc (.cells (madeCells #[.int .i64 0] (n + 1)) 3)) := by
  obtain ⟨i4, hi, hz0, hz1, hz2⟩ := info3
  have h := run_make (P := Tryd.prog) w 22 3 i4 (.int .i64 0) und22 hi hz0 .i64 .i64 (n + 1) (n + 1) (by omega) (by omega) (by rw [hz2]; omega) (by omega)
  rw [hz1, show ((n : Int) + 1).toNat = n + 1 by omega] at h
  simpa [Value.cells] using h
set_option maxRecDepth 100000 in
set_option maxHeartbeats 4000000 in
theorem gauss_any (n k q : Nat) (w : World) (hn : n ≤ 30) (hk : k ≤ n) (hq : q ≤ 64) :
    Calls Tryd.prog 19 #[.int .i64 (n : Int), .int .i64 (k : Int), .int .i64 (q : Int)] w fun e w' => e = .returned (.int .i64 (cnG q n k : Int)) ∧ Below w.heap.size w w' := by
  have hmk := run_makeI k (by omega)
  have hO0 := own_made w (k + 1)
  have hB0 := balloc w (.cells (madeCells #[.int .i64 0] (k + 1)) 3)
  have hset := hO0.set 0 1
  have hfz := hO0.frozen 0
  have hB1 := hB0.setCell (p := ⟨w.heap.size, 0, none⟩) (Nat.le_refl _) (.int .i64 1)
  have HO1 : Hid (Own ((w.alloc (.cells (madeCells #[.int .i64 0] (k + 1)) 3)).setCell ⟨w.heap.size, 0, none⟩ (.int .i64 1)) w.heap.size (k + 1) (fun j => (cnG q 0 j : Int))) := hset.congr fun j hj => by
    unfold upd cnG
    cases j with
    | zero => rw [if_pos rfl, gs_zero]; rfl
    | succ j => rw [if_neg (by omega)]; rfl
  have HSt : Hid (∀ m i, min (prO (cO (q ^ (i + 1))) (cnG q m (i + 1)) + cnG q m i) 1000000000000000001 = cnG q (m + 1) (i + 1)) := cnG_step q
  have HLe : Hid (∀ m i, cnG q m i ≤ 1000000000000000001) := fun m i => cO_le _
  have hc0 := hO0.cell 0 (by omega)
  rw [World.setCell_alloc_at _ _ _ _ _ rfl] at HO1 hB1
  clear hset hO0
  go_enter Tryd.func19, Tryd.ntmps19
  go_wp2
  go_loopw [8, 15] (fun iv mv wr => ∃ m : Nat, mv = .int .i64 (m : Int) ∧ m ≤ n ∧ Own wr w.heap.size (k + 1) (fun j => (cnG q m j : Int)) ∧ Below w.heap.size w wr) (fun _ mv _ => (n - intOf mv).toNat)
  case atStart => exact ⟨0, rfl, by omega, HO1.out, hB1⟩
  case round =>
    clear HO1 hB1 hB0 hmk hfz hc0
    obtain ⟨m, rfl, hm, hO, hB⟩ := hrel
    by_cases hlt : m < n
    · have hdm : decide ((m : Int) < (n : Int)) = true := by simp; omega
      have hmi : (m : Int) < n := by omega
      go_wp2
      go_loopw [8] (fun iv wr => ∃ i : Nat, iv = .int .i64 (i : Int) ∧ i ≤ k ∧ Own wr w.heap.size (k + 1) (gcT q m i) ∧ Below w.heap.size w wr) (fun iv _ => (intOf iv).toNat)
      case atStart => exact ⟨k, rfl, Nat.le_refl _, hO.congr fun j hj => gcT_start q m k j hj, hB⟩
      case round =>
        clear hO hB
        obtain ⟨i, rfl, hi, hO, hB⟩ := hrel
        by_cases hi0 : i = 0
        · subst hi0
          go_wp2
          go_roundw
          case rel => exact ⟨m + 1, by go_num, by omega, hO.congr fun j _ => gcT_end q m j, hB⟩
          case measure => simp [intOf]; omega
        · obtain ⟨j, Hj⟩ : ∃ j, Hid (i = j + 1) := ⟨i - 1, by show _ = _; omega⟩
          have hd0 : decide ((0 : Int) < (i : Int)) = true := by simp; omega
          have hik : (i : Int) < (k : Int) + 1 := by omega
          have hik2 : (i : Int) - 1 = (j : Int) := by have := Hj.out; omega
          have hjk : j < i := by have := Hj.out; omega
          have hwj : IntKind.i64.wrap (j : Int) = (j : Int) := by rw [IntKind.wrap_i64]; omega
          have hik3 : (j : Int) < (k : Int) + 1 := by omega
          have c1 := hO.cell i (by omega)
          have c2 := hO.cell j (by omega)
          have f1 := hO.frozen i
          have e1 : gcT q m i i = (cnG q m i : Int) := by unfold gcT; rw [if_neg (by omega)]
          have e2 : gcT q m i j = (cnG q m j : Int) := by unfold gcT; rw [if_neg (by omega)]
          rw [e1] at c1
          rw [e2] at c2
          have l1 := HLe.out m i
          have l2 := HLe.out m j
          obtain ⟨x1, H1⟩ : ∃ x, Hid (cnG q m i = x) := ⟨_, rfl⟩
          obtain ⟨x2, H2⟩ : ∃ x, Hid (cnG q m j = x) := ⟨_, rfl⟩
          obtain ⟨p1, HP1⟩ : ∃ x, Hid (cO (q ^ i) = x) := ⟨_, rfl⟩
          obtain ⟨p2, HP2⟩ : ∃ x, Hid (prO p1 x1 = x) := ⟨_, rfl⟩
          obtain ⟨p3, HP3⟩ : ∃ x, Hid (min (p2 + x2) 1000000000000000001 = x) := ⟨_, rfl⟩
          have HF : Hid (cnG q (m + 1) i = p3) := by
            show _ = _
            have h := HSt.out m j
            rw [← Hj.out, H1.out, H2.out, HP1.out, HP2.out, HP3.out] at h
            exact h.symm
          rw [H1.out] at l1 c1
          rw [H2.out] at l2 c2
          have lp1 : p1 ≤ 1000000000000000001 := by rw [← HP1.out]; exact cO_le _
          have lp2 : p2 ≤ 1000000000000000001 := by rw [← HP2.out, prO_is]; exact cO_le _
          have C1 := fun W => power_any q i W hq (by omega) p1 HP1
          have C2 := fun W => product_any p1 x1 W lp1 l1 p2 HP2
          have C3 := fun W => sum_any p2 x2 W lp2 l2 p3 HP3
          have HS : Hid (∀ W, Own W w.heap.size (k + 1) (upd (gcT q m i) i (p3 : Int)) → Own W w.heap.size (k + 1) (gcT q m j)) := fun W h => h.congr fun t _ => by
            have h := gcT_next q m j t
            rw [← Hj.out, HF.out] at h
            exact h
          have HO3 : Hid (Own (wr.setCell ⟨w.heap.size, i, none⟩ (.int .i64 (p3 : Int))) w.heap.size (k + 1) (gcT q m j)) := HS.out _ (hO.set i (p3 : Int))
          have hB2 := hB.setCell (p := ⟨w.heap.size, i, none⟩) (Nat.le_refl _) (.int .i64 (p3 : Int))
          clear e1 e2 HF HP1 HP2 HP3 H1 H2 hO HLe HSt HS Hj hi0
          go_wp2
          go_region_with (first | (go_at_call 43; refine (C1 _).mono ?_; rintro e w1 ⟨rfl, rfl⟩) | (go_at_call 42; refine (C2 _).mono ?_; rintro e w1 ⟨rfl, rfl⟩) | (go_at_call 41; refine (C3 _).mono ?_; rintro e w1 ⟨rfl, rfl⟩))
          all_goals
            go_wp2
            go_roundw
            case rel => exact ⟨j, by go_num, by omega, HO3.out.drew, hB2.drew⟩
            case measure => simp [intOf]; omega
    · have hdm : decide ((m : Int) < (n : Int)) = false := by simp; omega
      obtain rfl : m = n := by omega
      have hkk : (k : Int) < (k : Int) + 1 := by omega
      have c1 := hO.cell k (by omega)
      go_wp2
      go_ret
      exact ⟨rfl, hB⟩
end Go.Proofs.YtgdkfbgehbdkjabDoor

namespace Go.Proofs.YtgdkfbgehbdkjabDoor
open Go.RowKit

def GIn (n k q : Int) : Prop := 0 ≤ n ∧ n ≤ 30 ∧ 0 ≤ k ∧ k ≤ n ∧ 2 ≤ q ∧ q ≤ 64
theorem GIn.nat {n k q : Int} (h : GIn n k q) : ∃ N K Q : Nat, n = N ∧ k = K ∧ q = Q ∧ N ≤ 30 ∧ K ≤ N ∧ 2 ≤ Q ∧ Q ≤ 64 := by
  obtain ⟨h1, h2, h3, h4, h5, h6⟩ := h
  exact ⟨n.toNat, k.toNat, q.toNat, by omega, by omega, by omega, by omega, by omega, by omega, by omega⟩
set_option maxRecDepth 100000 in
set_option maxHeartbeats 4000000 in
theorem Gauss_bad (n k q : Int) (w : World) (h : ¬ GIn n k q) :
    Calls Tryd.prog 7 #[.int .i64 n, .int .i64 k, .int .i64 q] w fun e w' => e = .returned (.tuple #[.int .i64 0, .int .i64 1]) ∧ Below w.heap.size w w' := by
  by_cases h1 : n < 0
  · go_enter Tryd.func7, Tryd.ntmps7
    go_wp2
    go_ret2
    exact ⟨rfl, Below.refl _ _⟩
  by_cases h2 : 30 < n
  · have d1 : decide (n < 0) = false := by simp; omega
    go_enter Tryd.func7, Tryd.ntmps7
    go_wp2
    go_ret2
    exact ⟨rfl, Below.refl _ _⟩
  by_cases h3 : k < 0
  · have d1 : decide (n < 0) = false := by simp; omega
    have d2 : decide (30 < n) = false := by simp; omega
    go_enter Tryd.func7, Tryd.ntmps7
    go_wp2
    go_ret2
    exact ⟨rfl, Below.refl _ _⟩
  by_cases h4 : n < k
  · have d1 : decide (n < 0) = false := by simp; omega
    have d2 : decide (30 < n) = false := by simp; omega
    have d3 : decide (k < 0) = false := by simp; omega
    go_enter Tryd.func7, Tryd.ntmps7
    go_wp2
    go_ret2
    exact ⟨rfl, Below.refl _ _⟩
  have d1 : decide (n < 0) = false := by simp; omega
  have d2 : decide (30 < n) = false := by simp; omega
  have d3 : decide (k < 0) = false := by simp; omega
  have d4 : decide (n < k) = false := by simp; omega
  by_cases h5 : q < 2
  · go_enter Tryd.func7, Tryd.ntmps7
    go_wp2
    go_ret2
    exact ⟨rfl, Below.refl _ _⟩
  have d5 : decide (q < 2) = false := by simp; omega
  have h6 : 64 < q := by unfold GIn at h; omega
  go_enter Tryd.func7, Tryd.ntmps7
  go_wp2
  go_ret2
  exact ⟨rfl, Below.refl _ _⟩
/-- What Gauss answers. -/
def gA (q n k : Nat) : Nat := if gs q n k ≤ 1000000000000000000 then gs q n k else 0
def gE (q n k : Nat) : Nat := if gs q n k ≤ 1000000000000000000 then 0 else 3
set_option maxRecDepth 100000 in
set_option maxHeartbeats 4000000 in
theorem Gauss_any (n k q : Nat) (w : World) (hn : n ≤ 30) (hk : k ≤ n) (hq2 : 2 ≤ q) (hq : q ≤ 64) :
    Calls Tryd.prog 7 #[.int .i64 (n : Int), .int .i64 (k : Int), .int .i64 (q : Int)] w fun e w' => e = .returned (.tuple #[.int .i64 (gA q n k : Int), .int .i64 (gE q n k : Int)]) ∧ Below w.heap.size w w' := by
  have d1 : decide ((n : Int) < 0) = false := by simp
  have d2 : decide ((30 : Int) < n) = false := by simp; omega
  have d3 : decide ((k : Int) < 0) = false := by simp
  have d4 : decide ((n : Int) < k) = false := by simp; omega
  have d5 : decide ((q : Int) < 2) = false := by simp; omega
  have d6 : decide ((64 : Int) < q) = false := by simp; omega
  have C := gauss_any n k q w hn hk hq
  obtain ⟨x, Hx⟩ : ∃ x, Hid (cnG q n k = x) := ⟨_, rfl⟩
  rw [Hx.out] at C
  obtain ⟨a, Ha⟩ : ∃ x, Hid (gA q n k = x) := ⟨_, rfl⟩
  obtain ⟨b, Hb⟩ : ∃ x, Hid (gE q n k = x) := ⟨_, rfl⟩
  rw [Ha.out, Hb.out]
  by_cases hx : 1000000000000000000 < x
  · have dx : decide ((1000000000000000000 : Int) < (x : Int)) = true := by simp; omega
    have hg : ¬ gs q n k ≤ 1000000000000000000 := by
      have := hx
      rw [← Hx.out] at this
      have := cO_big.1 this
      omega
    obtain rfl : a = 0 := by rw [← Ha.out]; unfold gA; rw [if_neg hg]
    obtain rfl : b = 3 := by rw [← Hb.out]; unfold gE; rw [if_neg hg]
    clear hg
    go_enter Tryd.func7, Tryd.ntmps7
    go_wp2_with (go_at_call 19; refine C.mono ?_; rintro e w1 ⟨rfl, b1⟩)
    go_ret2
    exact ⟨rfl, b1⟩
  · have dx : decide ((1000000000000000000 : Int) < (x : Int)) = false := by simp; omega
    have hg : gs q n k ≤ 1000000000000000000 := by
      rcases Nat.lt_or_ge 1000000000000000000 (gs q n k) with h | h
      · exact absurd (by rw [← Hx.out]; exact cO_big.2 h) hx
      · exact h
    have hxa : x = a := by rw [← Ha.out, ← Hx.out]; unfold gA cnG; rw [if_pos hg, cO_small hg]
    obtain rfl : b = 0 := by rw [← Hb.out]; unfold gE; rw [if_pos hg]
    subst hxa
    clear hg
    go_enter Tryd.func7, Tryd.ntmps7
    go_wp2_with (go_at_call 19; refine C.mono ?_; rintro e w1 ⟨rfl, b1⟩)
    go_ret2
    exact ⟨rfl, b1⟩
end Go.Proofs.YtgdkfbgehbdkjabDoor
