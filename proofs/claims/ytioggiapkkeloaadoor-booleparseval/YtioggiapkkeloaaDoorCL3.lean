/- booleFact; the law BooleSiegenthaler over what the faces tell. -/
import Derived.Test.YtioggiapkkeloaaDoorCL2
namespace Go.Proofs.YtioggiapkkeloaaDoor
open Go.RowKit

theorem sl_new (W : World) (a b c d : Int) : Sl (W.alloc (.cells #[.int .i64 a, .int .i64 b, .int .i64 c, .int .i64 d] 3)) (.slice (some ⟨W.heap.size, 0, none⟩) 4 4) [a, b, c, d] := by
  have hk := heap_alloc_new W (.cells #[.int .i64 a, .int .i64 b, .int .i64 c, .int .i64 d] 3)
  refine ⟨_, _, rfl, fun j hj => ⟨_, _, rfl, ?_⟩⟩
  rw [cell_of_row _ _ _ _ _ _ hk]
  match j, hj with
  | 0, _ => rfl
  | 1, _ => rfl
  | 2, _ => rfl
  | 3, _ => rfl
theorem tF_fact : tF [0, 0, 0, 1] = 0 := by decide +kernel
theorem sp_fact : spR [0, 0, 0, 1] = [2, 2, 2, -2] := by decide +kernel
set_option maxRecDepth 100000 in
set_option maxHeartbeats 4000000 in
theorem booleFact_any (hS : FSpectrum) (w : World) (hT : Tab w) : Calls Tryd.prog 25 #[] w fun e w' => e = .returned (.bool true) ∧ Below w.heap.size w w' := by
  have C := hS [0, 0, 0, 1] _ _ (hT.next (balloc _ _)) (sl_new w 0 0 0 1) (by decide)
  rw [tF_fact, sp_fact] at C
  have HC : Hid (Calls Tryd.prog 13 #[.slice (some ⟨w.heap.size, 0, none⟩) 4 4] (w.alloc (.cells #[.int .i64 0, .int .i64 0, .int .i64 0, .int .i64 1] 3)) fun e w' => (∃ y, e = .returned (.tuple #[y, .int .i64 0]) ∧ Sl w' y [2, 2, 2, -2]) ∧ Below (w.alloc (.cells #[.int .i64 0, .int .i64 0, .int .i64 0, .int .i64 1] 3)).heap.size (w.alloc (.cells #[.int .i64 0, .int .i64 0, .int .i64 0, .int .i64 1] 3)) w') := C
  have HE : Hid (∀ y W, Sl W y [2, 2, 2, -2] → Calls Tryd.prog 18 #[y, .slice (some ⟨W.heap.size, 0, none⟩) 4 4] (W.alloc (.cells #[.int .i64 2, .int .i64 2, .int .i64 2, .int .i64 (-2)] 3)) fun e w' => e = .returned (.bool true) ∧ Below (W.alloc (.cells #[.int .i64 2, .int .i64 2, .int .i64 2, .int .i64 (-2)] 3)).heap.size (W.alloc (.cells #[.int .i64 2, .int .i64 2, .int .i64 2, .int .i64 (-2)] 3)) w') := fun y W h => ints_same _ _ _ _ (h.alloc _) (sl_new W 2 2 2 (-2)) (by decide)
  clear C
  go_enter Tryd.func25, Tryd.ntmps25
  go_wp2_with (first
    | (go_at_call 13; refine HC.out.mono ?_; rintro e w1 ⟨⟨y, rfl, hy⟩, b1⟩; clear HC; obtain ⟨ya, yc, ey⟩ := sl_len hy; replace ey : y = .slice ya 4 yc := ey; subst ey; have D := HE.out _ _ hy; clear HE)
    | (go_at_call 18; refine D.mono ?_; rintro e w2 ⟨rfl, b2⟩; clear D))
  go_ret
  exact ⟨rfl, Below.next (Below.next (Below.next (balloc _ _) b1) (balloc _ _)) b2⟩
theorem ck_le (l : List Int) : ckN l ≤ 8 := by
  unfold ckN
  split
  · rename_i h
    exact (tF_ok h).le
  · omega
theorem sieg_R {l : List Int} (h : tF l = 0) : dgR l + imR l ≤ ckN l := by
  unfold dgR imR ckN
  rw [if_pos h, if_pos h, if_pos h]
  exact sieg_table (tF_ok h)
set_option maxRecDepth 100000 in
set_option maxHeartbeats 8000000 in
theorem Sieg_bad (hC : FCheck) (hS : FSpectrum) (l : List Int) (v : Value) (w : World) (hT : Tab w) (hv : Sl w v l) (hl : l.length ≤ maxLen) (hz : tF l ≠ 0) :
    Calls Tryd.prog 8 #[v] w fun e w' => e = .returned (.bool true) ∧ Below w.heap.size w w' := by
  have C0 := booleFact_any hS w hT
  have C1 : Hid (∀ W, Below w.heap.size w W → Calls Tryd.prog 10 #[v] W fun e w' => e = .returned (.tuple #[.int .i64 (ckN l : Int), .int .i64 (tF l : Int)]) ∧ Below W.heap.size W w') := fun W b => hC l v W (hT.next b) (hv.below b) hl
  obtain ⟨u, Hu⟩ : ∃ u, Hid (tF l = u) := ⟨_, rfl⟩
  rw [Hu.out] at C1 hz
  have hne : ((u : Int) != 0) = true := by simp; omega
  generalize ckN l = k at *
  obtain ⟨a, c, rfl⟩ := sl_len hv
  clear hv hz
  go_enter Tryd.func8, Tryd.ntmps8
  go_wp2_with (first
    | (go_at_call 25; refine C0.mono ?_; rintro e w0 ⟨rfl, b0⟩; clear C0; have D1 := C1.out _ b0; clear C1)
    | (go_at_call 10; refine D1.mono ?_; rintro e w1 ⟨rfl, b1⟩; clear D1))
  go_ret
  exact ⟨rfl, Below.next b0 b1⟩
set_option maxRecDepth 100000 in
set_option maxHeartbeats 8000000 in
theorem Sieg_ok (hC : FCheck) (hD : FDegree) (hS : FSpectrum) (hI : FImmune) (l : List Int) (v : Value) (w : World) (hT : Tab w) (hv : Sl w v l) (hl : l.length ≤ maxLen) (hz : tF l = 0) :
    Calls Tryd.prog 8 #[v] w fun e w' => e = .returned (.bool true) ∧ Below w.heap.size w w' := by
  have C0 := booleFact_any hS w hT
  have C1 : Hid (∀ W, Below w.heap.size w W → Calls Tryd.prog 10 #[v] W fun e w' => e = .returned (.tuple #[.int .i64 (ckN l : Int), .int .i64 (tF l : Int)]) ∧ Below W.heap.size W w') := fun W b => hC l v W (hT.next b) (hv.below b) hl
  have C2 : Hid (∀ W, Below w.heap.size w W → Calls Tryd.prog 12 #[v] W fun e w' => e = .returned (.tuple #[.int .i64 (dgR l : Int), .int .i64 (tF l : Int)]) ∧ Below W.heap.size W w') := fun W b => hD l v W (hT.next b) (hv.below b) hl
  have C3 : Hid (∀ W, Below w.heap.size w W → Calls Tryd.prog 21 #[v] W fun e w' => e = .returned (.tuple #[.int .i64 (imR l : Int), .int .i64 (tF l : Int)]) ∧ Below W.heap.size W w') := fun W b => hI l v W (hT.next b) (hv.below b) hl
  have hk := ck_le l
  have hs := sieg_R hz
  rw [hz] at C1 C2 C3
  generalize ckN l = k at *
  generalize dgR l = d at *
  generalize imR l = m at *
  have hw : IntKind.i64.wrap ((d : Int) + (m : Int)) = (d : Int) + (m : Int) := wrapZ (by omega) (by omega)
  have hle : decide ((d : Int) + (m : Int) ≤ (k : Int)) = true := by simp; omega
  obtain ⟨a, c, rfl⟩ := sl_len hv
  clear hv hz hk hs
  go_enter Tryd.func8, Tryd.ntmps8
  go_wp2_with (first
    | (go_at_call 25; refine C0.mono ?_; rintro e w0 ⟨rfl, b0⟩; clear C0; have D1 := C1.out _ b0; clear C1)
    | (go_at_call 10; refine D1.mono ?_; rintro e w1 ⟨rfl, b1⟩; clear D1; have B1 := Below.next b0 b1; have D2 := C2.out _ B1; clear C2)
    | (go_at_call 12; refine D2.mono ?_; rintro e w2 ⟨rfl, b2⟩; clear D2; have B2 := Below.next B1 b2; have D3 := C3.out _ B2; clear C3)
    | (go_at_call 21; refine D3.mono ?_; rintro e w3 ⟨rfl, b3⟩; clear D3))
  go_ret
  exact ⟨rfl, Below.next B2 b3⟩
theorem Sieg_law (hC : FCheck) (hD : FDegree) (hS : FSpectrum) (hI : FImmune) (l : List Int) (v : Value) (w : World) (hT : Tab w) (hv : Sl w v l) (hl : l.length ≤ maxLen) :
    Calls Tryd.prog 8 #[v] w fun e w' => e = .returned (.bool true) ∧ Below w.heap.size w w' := by
  by_cases hz : tF l = 0
  · exact Sieg_ok hC hD hS hI l v w hT hv hl hz
  · exact Sieg_bad hC hS l v w hT hv hl hz
end Go.Proofs.YtioggiapkkeloaaDoor
