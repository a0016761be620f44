/- The walk of the document's PlaneOrder. -/
import Derived.Test.YtgpkhfpejopacaaDoorPA4
namespace Go.Proofs.YtgpkhfpejopacaaDoor
open Go.RowKit

theorem PlP.ne {v : Nat} {B : List (List Nat)} (h : PlP v B) : ∃ b, B[0]? = some b := by
  have h1 := h.2.1 1 0 (by omega) (by have := h.2.2.1; omega)
  cases B with
  | nil => simp [nb] at h1
  | cons b B => exact ⟨b, rfl⟩
set_option maxRecDepth 100000 in
set_option maxHeartbeats 8000000 in
theorem PlaneOrder_bad (p : Int) (ls : List (List Int)) (u : Value) (w : World) (hu : Rw w u ls) (hl : ls.length ≤ maxLen) (hll : ∀ l ∈ ls, l.length ≤ maxLen) (h : dF p ls ≠ 0) :
    Calls Tryd.prog 16 #[.agg #[.int .i64 p, u]] w fun e w' => e = .returned (.tuple #[.int .i64 0, .int .i64 (dF p ls : Int)]) ∧ Below w.heap.size w w' := by
  have HDF : Hid (∀ W, Below w.heap.size w W → Calls Tryd.prog 38 #[.agg #[.int .i64 p, u]] W fun e w' => e = .returned (.int .i64 (dF p ls : Int)) ∧ Below W.heap.size W w') := fun W hW => DesignFault_any p ls u W (hu.below hW) hl hll
  obtain ⟨z, Hz⟩ : ∃ z, Hid (dF p ls = z) := ⟨_, rfl⟩
  rw [Hz.out] at HDF h ⊢
  have hz1 : ((z : Int) != 0) = true := by simpa using h
  have hz2 : ¬ (z : Int) = 0 := by omega
  obtain ⟨x0, x1⟩ := des_box p u w _ (Below.refl _ _)
  have hb := balloc w (.cells #[.int .i64 p, u] 29)
  obtain ⟨a, cap, rfl, _⟩ := hu
  go_enter Tryd.func16, Tryd.ntmps16
  go_wp2_with (go_at_call 38; refine (HDF.out _ hb).mono ?_; rintro e w1 ⟨rfl, b1⟩)
  exact bodyPost_ret (v := .tuple #[.int .i64 0, .int .i64 (z : Int)]) (by simp [results, Tryd.results16, go_sem]) rfl ⟨rfl, Below.next hb b1⟩
set_option maxRecDepth 100000 in
set_option maxHeartbeats 8000000 in
theorem PlaneOrder_no (v : Nat) (B : List (List Nat)) (u : Value) (w : World) (G : GoodD v B) (hd : dF (v : Int) (toZ B) = 0) (hu : Rw w u (toZ B)) (hl : (toZ B).length ≤ maxLen) (hll : ∀ l ∈ toZ B, l.length ≤ maxLen) (h : ¬ PlP v B) :
    Calls Tryd.prog 16 #[.agg #[.int .i64 (v : Int), u]] w fun e w' => e = .returned (.tuple #[.int .i64 0, .int .i64 4]) ∧ Below w.heap.size w w' := by
  have HDF : Hid (∀ W, Below w.heap.size w W → Calls Tryd.prog 38 #[.agg #[.int .i64 (v : Int), u]] W fun e w' => e = .returned (.int .i64 0) ∧ Below W.heap.size W w') := fun W hW => by
    have h := DesignFault_any v _ u W (hu.below hW) hl hll
    rw [hd] at h
    exact h
  have HIP : Hid (∀ W, Below w.heap.size w W → Calls Tryd.prog 39 #[.agg #[.int .i64 (v : Int), u]] W fun e w' => e = .returned (.bool false) ∧ Below W.heap.size W w') := fun W hW => IsPlane_any v B false u W G (hu.below hW) ⟨fun hh => absurd hh (by decide), fun hp => absurd hp h⟩
  have HC : Hid (∀ W, Below (w.alloc (.cells #[.int .i64 (v : Int), u] 29)).heap.size (w.alloc (.cells #[.int .i64 (v : Int), u] 29)) W → W.cell? ⟨w.heap.size, 0, none⟩ = some (.int .i64 (v : Int)) ∧ W.cell? ⟨w.heap.size, 1, none⟩ = some u) := des_box (v : Int) u w
  obtain ⟨x0, x1⟩ := HC.out _ (Below.refl _ _)
  have hb := balloc w (.cells #[.int .i64 (v : Int), u] 29)
  obtain ⟨a, cap, rfl, _⟩ := hu
  generalize (toZ B).length = n at *
  clear hl hll
  go_enter Tryd.func16, Tryd.ntmps16
  go_wp2_with (first
    | (go_at_call 38; refine (HDF.out _ hb).mono ?_; rintro e w1 ⟨rfl, b1⟩; obtain ⟨y0, y1⟩ := HC.out _ b1; clear HDF; replace b1 := Below.next hb b1)
    | (go_at_call 39; refine (HIP.out _ b1).mono ?_; rintro e w2 ⟨rfl, b2⟩; clear HIP; replace b2 := Below.next b1 b2))
  exact bodyPost_ret (v := .tuple #[.int .i64 0, .int .i64 4]) (by simp [results, Tryd.results16, go_sem]) rfl ⟨rfl, b2⟩
set_option maxRecDepth 100000 in
set_option maxHeartbeats 8000000 in
theorem PlaneOrder_yes (v : Nat) (B : List (List Nat)) (b0 : List Nat) (u : Value) (w : World) (G : GoodD v B) (hd : dF (v : Int) (toZ B) = 0) (hu : Rw w u (toZ B)) (hl : (toZ B).length ≤ maxLen) (hll : ∀ l ∈ toZ B, l.length ≤ maxLen) (h : PlP v B) (hb0 : B[0]? = some b0) :
    Calls Tryd.prog 16 #[.agg #[.int .i64 (v : Int), u]] w fun e w' => e = .returned (.tuple #[.int .i64 ((b0.length : Int) - 1), .int .i64 0]) ∧ Below w.heap.size w w' := by
  have HDF : Hid (∀ W, Below w.heap.size w W → Calls Tryd.prog 38 #[.agg #[.int .i64 (v : Int), u]] W fun e w' => e = .returned (.int .i64 0) ∧ Below W.heap.size W w') := fun W hW => by
    have h := DesignFault_any v _ u W (hu.below hW) hl hll
    rw [hd] at h
    exact h
  have HIP : Hid (∀ W, Below w.heap.size w W → Calls Tryd.prog 39 #[.agg #[.int .i64 (v : Int), u]] W fun e w' => e = .returned (.bool true) ∧ Below W.heap.size W w') := fun W hW => IsPlane_any v B true u W G (hu.below hW) ⟨fun _ => h, fun _ => rfl⟩
  have HC : Hid (∀ W, Below (w.alloc (.cells #[.int .i64 (v : Int), u] 29)).heap.size (w.alloc (.cells #[.int .i64 (v : Int), u] 29)) W → W.cell? ⟨w.heap.size, 0, none⟩ = some (.int .i64 (v : Int)) ∧ W.cell? ⟨w.heap.size, 1, none⟩ = some u) := des_box (v : Int) u w
  obtain ⟨x0, x1⟩ := HC.out _ (Below.refl _ _)
  have hb := balloc w (.cells #[.int .i64 (v : Int), u] 29)
  have hbl : b0.length ≤ 40 := G.len (List.mem_of_getElem? hb0)
  obtain ⟨a, cap, rfl, hD⟩ := drow_of hu
  obtain ⟨bb, off, ua, uc, rfl, hrow⟩ := hD 0 b0 hb0
  have HRO : Hid (∀ W, Below w.heap.size w W → W.cell? ⟨bb, off, none⟩ = some (.slice ua b0.length uc)) := fun W hW => (hrow W hW).1
  have hpos : 0 < B.length := (List.getElem?_eq_some_iff.1 hb0).1
  have hne : ¬ B.length = 0 := by omega
  have hpi : (0 : Int) < (B.length : Int) := by omega
  generalize B.length = n at *
  generalize b0.length = bl at *
  clear hl hll hD hu hrow
  go_enter Tryd.func16, Tryd.ntmps16
  go_wp2_with (first
    | (go_at_call 38; refine (HDF.out _ hb).mono ?_; rintro e w1 ⟨rfl, b1⟩; obtain ⟨y0, y1⟩ := HC.out _ b1; have b1a := b1; clear HDF; replace b1 := Below.next hb b1)
    | (go_at_call 39; refine (HIP.out _ b1).mono ?_; rintro e w2 ⟨rfl, b2⟩; clear HIP; obtain ⟨z0, z1⟩ := HC.out _ (Below.next b1a b2); replace b2 := Below.next b1 b2; have hro := HRO.out _ b2))
  exact bodyPost_ret (v := .tuple #[.int .i64 ((bl : Int) - 1), .int .i64 0]) (by simp [results, Tryd.results16, go_sem]) rfl ⟨rfl, b2⟩

end Go.Proofs.YtgpkhfpejopacaaDoor
