/- The law DesignMeets. -/
import Derived.Test.YtnnopfdckillpaaDoorF3
namespace Go.Proofs.YtnnopfdckillpaaDoor
open Go.RowKit

set_option maxRecDepth 100000 in
set_option maxHeartbeats 4000000 in
theorem LMeets_bad (p : Int) (ls : List (List Int)) (u : Value) (w : World) (hu : Rw w u ls) (hll : ∀ l ∈ ls, l.length ≤ maxLen) (hlm : ls.length ≤ maxLen) (hz : dF p ls ≠ 0) :
    Calls Tryd.prog 4 #[.agg #[.int .i64 p, u]] w fun e w' => e = .returned (.bool true) ∧ Below w.heap.size w w' := by
  have HC : Hid (∀ W, Below (w.alloc (.cells #[.int .i64 p, u] 24)).heap.size (w.alloc (.cells #[.int .i64 p, u] 24)) W → W.cell? ⟨w.heap.size, 0, none⟩ = some (.int .i64 p) ∧ W.cell? ⟨w.heap.size, 1, none⟩ = some u) := des_box p u w
  obtain ⟨w0, Hw0⟩ : ∃ w0, Hid (w0 = w.alloc (.cells #[.int .i64 p, u] 24)) := ⟨_, rfl⟩
  rw [← Hw0.out] at HC
  have hb0 : Below w.heap.size w w0 := by rw [Hw0.out]; exact balloc _ _
  have C1 := DesignFault_any p ls u w0 (hu.below hb0) hlm hll
  have C2 : Hid (∀ W, Below w0.heap.size w0 W → Calls Tryd.prog 17 #[.agg #[.int .i64 p, u]] W fun e w' => e = .returned (.tuple #[.slice none 0 0, .int .i64 (dF p ls : Int)]) ∧ Below W.heap.size W w') := fun W hW => Meets_bad p ls u W (hu.below (Below.next hb0 hW)) hlm hll hz
  obtain ⟨z, Hz⟩ : ∃ z, Hid (dF p ls = z) := ⟨_, rfl⟩
  rw [Hz.out] at C1 C2 hz
  have hd : ((z : Int) != 0) = true := by simp; omega
  obtain ⟨x0, x1⟩ := HC.out _ (Below.refl _ _)
  rw [Hw0.out] at x0 x1
  obtain ⟨ua, uc, rfl⟩ := rw_form hu
  generalize ls.length = n at *
  clear hu hll hz
  go_enter Tryd.func4, Tryd.ntmps4
  go_wp2_with (first
    | (go_at_call 7; rw [← Hw0.out]; refine C1.mono ?_; rintro e w1 ⟨rfl, hb1⟩; clear C1; obtain ⟨y0, y1⟩ := HC.out _ hb1)
    | (go_at_call 17; refine (C2.out _ hb1).mono ?_; rintro e w2 ⟨rfl, hb2⟩; replace hb2 := Below.next hb1 hb2))
  go_ret
  exact ⟨rfl, Below.next hb0 hb2⟩

set_option maxRecDepth 100000 in
set_option maxHeartbeats 4000000 in
theorem LMeets_good (v : Nat) (B : List (List Nat)) (u : Value) (w : World) (hT : Tab w) (G : GoodD v B) (hu : Rw w u (toZ B)) :
    Calls Tryd.prog 4 #[.agg #[.int .i64 (v : Int), u]] w fun e w' => e = .returned (.bool true) ∧ Below w.heap.size w w' := by
  have HC : Hid (∀ W, Below (w.alloc (.cells #[.int .i64 (v : Int), u] 24)).heap.size (w.alloc (.cells #[.int .i64 (v : Int), u] 24)) W → W.cell? ⟨w.heap.size, 0, none⟩ = some (.int .i64 (v : Int)) ∧ W.cell? ⟨w.heap.size, 1, none⟩ = some u) := des_box v u w
  obtain ⟨w0, Hw0⟩ : ∃ w0, Hid (w0 = w.alloc (.cells #[.int .i64 (v : Int), u] 24)) := ⟨_, rfl⟩
  rw [← Hw0.out] at HC
  have hb0 : Below w.heap.size w w0 := by rw [Hw0.out]; exact balloc _ _
  have hz := good_dF G
  obtain ⟨hll, hlm⟩ := good_max G
  have C1 := DesignFault_any v (toZ B) u w0 (hu.below hb0) hlm hll
  have C2 : Hid (∀ W, Below w0.heap.size w0 W → Calls Tryd.prog 17 #[.agg #[.int .i64 (v : Int), u]] W fun e w' => ∃ x, e = .returned (.tuple #[x, .int .i64 0]) ∧ w'.ownsRow W.heap.size 3 1 x (mtL v B).length (((mtL v B).map Int.ofNat).map (Value.int .i64)) ∧ Below W.heap.size W w') := fun W hW => Meets_good v B u W ((hT.next hb0).next hW) G (hu.below (Below.next hb0 hW))
  have C3 : Hid (∀ W, Below w0.heap.size w0 W → Calls Tryd.prog 18 #[.agg #[.int .i64 (v : Int), u]] W fun e w' => ∃ x, e = .returned x ∧ w'.ownsRow W.heap.size 3 1 x (mtL v B).length (((mtL v B).map Int.ofNat).map (Value.int .i64)) ∧ Below W.heap.size W w') := fun W hW => MeetsOf_any v B u W G (hu.below (Below.next hb0 hW))
  rw [hz] at C1
  have hb0' : Hid (Below w.heap.size w w0) := hb0
  have hml : (mtL v B).length ≤ maxLen := by
    have h1 : (mtL v B).length ≤ v + 1 := by unfold mtL; exact Nat.le_trans (List.length_filter_le _ _) (by simp)
    have := G.le
    unfold maxLen; omega
  obtain ⟨M, HM⟩ : ∃ M, Hid ((mtL v B).map Int.ofNat = M) := ⟨_, rfl⟩
  rw [← List.length_map (f := Int.ofNat), HM.out] at hml
  have hlen : (mtL v B).length = M.length := by rw [← HM.out, List.length_map]
  rw [hlen, HM.out] at C2 C3
  obtain ⟨x0, x1⟩ := HC.out _ (Below.refl _ _)
  rw [Hw0.out] at x0 x1
  obtain ⟨ua, uc, rfl⟩ := rw_form hu
  rw [toZ_len] at *
  generalize B.length = n at *
  clear hu hll hlm hz G hb0 hT hlen
  have HML : Hid (M.length ≤ maxLen) := hml
  clear hml
  go_enter Tryd.func4, Tryd.ntmps4
  go_wp2_with (first
    | (go_at_call 7; rw [← Hw0.out]; refine C1.mono ?_; rintro e w1 ⟨rfl, hb1⟩; clear C1; obtain ⟨y0, y1⟩ := HC.out _ hb1)
    | (go_at_call 17; refine (C2.out _ hb1).mono ?_; rintro e w2 ⟨x, rfl, hx, hb2⟩; replace hb2 := Below.next hb1 hb2; have HX : Hid (Sl w2 x M) := Sl.owned hx; clear hx; obtain ⟨z0, z1⟩ := HC.out _ hb2)
    | (go_at_call 18; refine (C3.out _ hb2).mono ?_; rintro e w3 ⟨y, rfl, hy, hb3⟩; have HX3 : Hid (Sl w3 x M) := HX.out.below hb3; replace hb3 := Below.next hb2 hb3; have HY : Hid (Sl w3 y M) := Sl.owned hy; clear hy)
    | (go_at_call 19; refine (ints_any M M x y w3 HX3.out HY.out HML.out HML.out).mono ?_; rintro e w4 ⟨b, rfl, hb, hb4⟩; obtain rfl : b = true := hb.2 rfl; replace hb4 := Below.next hb3 hb4; clear hb))
  go_ret
  exact ⟨rfl, Below.next hb0'.out hb4⟩

theorem DesignMeets_law (p : Int) (ls : List (List Int)) (u : Value) (w : World) (hT : Tab w) (hu : Rw w u ls) (hll : ∀ l ∈ ls, l.length ≤ maxLen) (hlm : ls.length ≤ maxLen) :
    Calls Tryd.prog 4 #[.agg #[.int .i64 p, u]] w fun e w' => e = .returned (.bool true) ∧ Below w.heap.size w w' := by
  by_cases hz : dF p ls = 0
  · obtain ⟨v, B, rfl, rfl, G⟩ := dF_ok hz
    exact LMeets_good v B u w hT G hu
  · exact LMeets_bad p ls u w hu hll hlm hz

end Go.Proofs.YtnnopfdckillpaaDoor
