/- The walk of Kind. -/
import Derived.Test.YtmaplmgecohjbaaC9
import Derived.Test.YtmaplmgecohjbaaGSc
import Derived.Test.YtmaplmgecohjbaaP30
import Derived.Test.YtmaplmgecohjbaaP28
namespace Go.Proofs.Ytmaplmgecohjbaa
open Go.RowKit Go.Maps Go.Shelf

theorem sizeOf3k (w : World) : (Go.sizeOf 3).run Try.prog w = .ok 1 w := by kernel_rfl
/-- The kind as Kind answers it: as many numbers as there are points. -/
noncomputable def kdI (n : Nat) (a : List Nat) : List Int := (List.range n).map fun j => ((lens n (fnL a)).count (j + 1) : Int)
theorem kdI_len (n : Nat) (a : List Nat) : (kdI n a).length = n := by simp [kdI]
theorem kdI_at {n : Nat} {a : List Nat} {j : Nat} (hj : j < n) : (kdI n a).getD j 0 = ((lens n (fnL a)).count (j + 1) : Int) := by simp [kdI, hj]

set_option maxRecDepth 100000 in
theorem cut96 (n : Nat) (h1 : 1 ≤ n) (hn : n ≤ 7) (g : Nat) (W : World) : (Instr.sliceAt 96 (.pointer (some ⟨g, 0, none⟩)) (some (.int .i64 1)) (some (.int .i64 ((n : Int) + 1))) none).run Try.prog W = .ok (.slice (some ⟨g, 1, none⟩) n 12) W := by
  rcases (show n = 1 ∨ n = 2 ∨ n = 3 ∨ n = 4 ∨ n = 5 ∨ n = 6 ∨ n = 7 by omega) with rfl | rfl | rfl | rfl | rfl | rfl | rfl <;> (change _ = _; kernel_rfl)
set_option maxRecDepth 100000 in
set_option maxHeartbeats 1000000 in
theorem Kind_any (n : Nat) (a : List Nat) (v : Value) (w : World) (hv : Sl w v (a.map Int.ofNat)) (ha : IsP n a) (h1 : 1 ≤ n) (hn : n ≤ 7) :
    Calls Try.prog 59 #[v] w fun e w' => (∃ y, e = .returned (.tuple #[y, .int .i64 0]) ∧ Sl w' y (kdI n a)) ∧ Below w.heap.size w w' := by
  have P : Pm n (fnL a) := ha.pm
  have hvp : Sl w v (pl n (fnL a)) := by unfold fnL; rw [pl_map ha.len]; exact hv
  have C1 := Check_any (pl n (fnL a)) v w hvp (by rw [pl_len]; unfold maxLen; omega)
  rw [pF_pl P (by omega)] at C1
  have C2 := fun W (h : Below w.heap.size w W) => kindOf_any n (fnL a) v W (by omega) (hvp.below h) P
  obtain ⟨i3, ti, tz0, tz1, tz2⟩ := info3
  obtain ⟨F, HF⟩ : ∃ F : Nat → Int, Hid ((fun L => ((lens n (fnL a)).count L : Int)) = F) := ⟨_, rfl⟩
  rw [HF.out] at C2
  have hFx : ∀ j, F j = ((lens n (fnL a)).count j : Int) := fun j => by rw [← HF.out]
  have hkd : (kdI n a).map (Value.int .i64) = (List.range n).map fun j => Value.int .i64 (F (j + 1)) := by
    unfold kdI
    rw [List.map_map]
    exact List.map_congr_left fun j _ => by simp [hFx]
  have C3 : ∀ (W : World) (g : Nat), KRow W g F → Calls Try.prog 70 #[.slice (some ⟨g, 1, none⟩) n 12] W fun e w' => (∃ y, e = .returned y ∧ Sl w' y (kdI n a)) ∧ Below W.heap.size W w' := by
    intro W g hk
    have hcl : ∀ j u, ((kdI n a).map (Value.int .i64))[j]? = some u → W.cell? ⟨g, 1 + j, none⟩ = some u := by
      intro j u hu
      have hj : j < n := by have := (List.getElem?_eq_some_iff.1 hu).1; rwa [List.length_map, kdI_len] at this
      rw [hk.cell (1 + j) (by omega)]
      rw [hkd] at hu
      simp [hj] at hu
      rw [← hu, Nat.add_comm]
    have C := AnyE.slices_Clone cloneInt i3 (.int .i64 0) 1 8 ti tz0 tz1 tz2 (by simp [Value.cells]) (by omega) sizeOf3k g 1 n 12 ((kdI n a).map (Value.int .i64)) W (by rw [List.length_map, kdI_len, Nat.mul_one]) (by unfold maxLen; omega) (by omega) hcl (fun u hu => by
      obtain ⟨x, _, rfl⟩ := List.mem_map.1 hu
      rfl)
    change Calls Try.prog 70 _ _ _ at C
    exact C.mono (fun e w' ⟨v', e1, e2, _, e4⟩ => ⟨⟨v', e1, Sl.owned (by rw [kdI_len]; exact e2)⟩, e4⟩)
  obtain ⟨aa, cap, ev, _⟩ := id hv
  have hal : (a.map Int.ofNat).length = n := by rw [List.length_map, ha.len]
  rw [hal] at ev
  subst ev
  have hn0 : (0 : Int) ≤ (n : Int) := by omega
  have hn7 : (n : Int) ≤ 7 := by omega
  have hcut := cut96 n h1 hn
  clear hFx hkd hvp hv hal P ha ti tz0 tz1 tz2
  go_enter Try.func59, Try.ntmps59
  go_wp2_with (first
    | (go_at_call 75; refine C1.mono ?_; rintro e w1 ⟨rfl, b1⟩)
    | (go_at_call 78; refine (C2 _ b1).mono ?_; rintro e w2 ⟨rfl, b2⟩; have hk0 := KRow.made w2 (fun _ => 0); have hk1 := hk0.whole F; have hB1 : Below w2.heap.size w2 ((w2.alloc (.cells (krow fun _ => 0) 96)).setRow w2.heap.size (krow F)) := bsetRow (balloc w2 _) (Nat.le_refl _) _
       have b3 := Below.next (Below.next b1 b2) hB1)
    | (refine wpList_store_row rfl 96 _ _ rfl w2.heap.size _ rfl rfl 96 _ hk0 (inf46 _) (by simp) (krow_one _) ?_)
    | (go_at_call 70; refine (C3 _ _ hk1).mono ?_; rintro e w3 ⟨⟨y, rfl, hy⟩, b4⟩))
  go_ret2
  exact ⟨⟨y, rfl, hy⟩, Below.next b3 b4⟩

end Go.Proofs.Ytmaplmgecohjbaa
