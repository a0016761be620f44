/- The law LatinEuler, walked. -/
import Derived.Test.YtagpbkcnjogbgabL17
namespace Go.Proofs.Ytagpbkcnjogbgab
open Go.RowKit

set_option maxHeartbeats 4000000 in
theorem LatinEuler_law (n : Int) (w : World) (_hw : (Lit.int .i64 n).wf = true) : Calls Try.prog 3 #[.int .i64 n] w fun e w' => e = .returned (.bool true) ∧ Below w.heap.size w w' := by
  have C0 := latinFact_any w
  by_cases h : n < 1 ∨ 8 < n
  · have C1 := fun W => Cyclic_bad n W h
    clear h
    go_enter Try.func3, Try.ntmps3
    go_wp2_with (first
      | (go_at_call 4; refine C0.mono ?_; rintro e w1 ⟨rfl, b1⟩)
      | (go_at_call 5; refine (C1 _).mono ?_; rintro e w2 ⟨rfl, b2⟩; have b2' := Below.next b1 b2))
    go_ret
    exact ⟨rfl, Below.next b2' (balloc _ _)⟩
  · obtain ⟨m, rfl⟩ : ∃ m : Nat, n = m := ⟨n.toNat, by omega⟩
    have C1 := fun W => Cyclic_ok m W (by omega) (by omega)
    have G : GoodS m ((flN m (cyc m) (m * m)).map Int.ofNat) := fl_good (by omega) (by omega) (cyc_lat (by omega))
    have HSL : Hid (∀ (W : World) (base : Nat) (y : Value), W.ownsRow base 3 1 y (m * m) (vn (flN m (cyc m) (m * m))) → Sl W y ((flN m (cyc m) (m * m)).map Int.ofNat)) := fun W base y hW => fl_sl hW
    by_cases h7 : m ≤ 7
    · have hd : decide ((7 : Int) < m) = false := by simp; omega
      have C2 := fun y W (hS : Sl W y ((flN m (cyc m) (m * m)).map Int.ofNat)) => Transversals_ok m _ y W hS G h7
      have e : trN m (sq m ((flN m (cyc m) (m * m)).map Int.ofNat)) = trN m (cyc m) := cr_congr fun i j hi hj => fl_sq hi hj
      rw [e] at C2
      have hE : 0 < trN m (cyc m) ↔ m % 2 = 1 := euler (by omega)
      generalize trN m (cyc m) = t at *
      have CC2 : Hid (∀ y W, Sl W y ((flN m (cyc m) (m * m)).map Int.ofNat) → Calls Try.prog 6 #[.agg #[.int .i64 (m : Int), y]] W fun e w' => e = .returned (.tuple #[.int .i64 (t : Int), .int .i64 0]) ∧ Below W.heap.size W w') := C2
      obtain ⟨p, hp1, hp2⟩ : ∃ p : Bool, decide (0 < t) = p ∧ ((m : Int) % 2 == 1) = p := by
        by_cases h2 : m % 2 = 1
        · exact ⟨true, decide_eq_true (hE.2 h2), by simp; omega⟩
        · refine ⟨false, ?_, ?_⟩
          · have : ¬ 0 < t := fun h => h2 (hE.1 h)
            exact decide_eq_false this
          · simp; omega
      have hpp : (p == p) = true := by simp
      clear C2 e hE G h
      go_enter Try.func3, Try.ntmps3
      go_wp2_with (first
        | (go_at_call 4; refine C0.mono ?_; rintro e w1 ⟨rfl, b1⟩)
        | (go_at_call 5; refine (C1 _).mono ?_; rintro e w2 ⟨⟨y, rfl, hW⟩, b2⟩; have b2' := Below.next b1 b2; have hS := HSL.out _ _ _ hW; obtain ⟨og, ol, oc, rfl⟩ := own_slice hW; have D := CC2.out _ _ (hS.alloc (.cells #[.int .i64 (m : Int), .slice og ol oc] 25)); clear hW)
        | (go_at_call 6; refine D.mono ?_; rintro e w3 ⟨rfl, b3⟩))
      go_ret
      exact ⟨rfl, Below.next (Below.next b2' (balloc _ _)) b3⟩
    · obtain rfl : m = 8 := by omega
      have CC2 : Hid (∀ y W, Sl W y ((flN 8 (cyc 8) (8 * 8)).map Int.ofNat) → Calls Try.prog 6 #[.agg #[.int .i64 8, y]] W fun e w' => e = .returned (.tuple #[.int .i64 0, .int .i64 3]) ∧ Below W.heap.size W w') := fun y W hS => Transversals_full _ y W hS G
      clear G h h7
      go_enter Try.func3, Try.ntmps3
      go_wp2_with (first
        | (go_at_call 4; refine C0.mono ?_; rintro e w1 ⟨rfl, b1⟩)
        | (go_at_call 5; refine (C1 _).mono ?_; rintro e w2 ⟨⟨y, rfl, hW⟩, b2⟩; have b2' := Below.next b1 b2; have hS := HSL.out _ _ _ hW; obtain ⟨og, ol, oc, rfl⟩ := own_slice hW; have D := CC2.out _ _ (hS.alloc (.cells #[.int .i64 8, .slice og ol oc] 25)); clear hW)
        | (go_at_call 6; refine D.mono ?_; rintro e w3 ⟨rfl, b3⟩))
      go_ret
      exact ⟨rfl, Below.next (Below.next b2' (balloc _ _)) b3⟩
end Go.Proofs.Ytagpbkcnjogbgab
