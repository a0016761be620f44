/- The law LatinBose, walked. -/
import Derived.Test.YtagpbkcnjogbgabDoorBo
import Derived.Test.YtagpbkcnjogbgabDoorL7
namespace Go.Proofs.YtagpbkcnjogbgabDoor
open Go.RowKit

theorem fl_len (q : Nat) (t : Nat → Nat → Nat) (k : Nat) : (flN q t k).length = k := by simp [flN]
theorem sq_max {q : Nat} (h8 : q ≤ 8) : q * q ≤ maxLen := Nat.le_trans (Nat.mul_le_mul h8 h8) (by unfold maxLen; omega)
theorem in_az {q a : Int} (hq : 0 < q) : Fd.inL q [a, 0] ↔ 0 ≤ a ∧ a < q := by
  rw [Fd.inL_pair, Fd.inB_iff, Fd.inB_iff]
  omega
/-- Made tells this fault, wherever. -/
def BadM (p k a : Int) (v : Value) (w : World) (z : Int) : Prop := ∀ W, Below w.heap.size w W → Calls Tryd.prog 6 #[.agg #[.int .i64 p, .int .i64 k, v], .int .i64 a] W fun e w' => e = .returned (.tuple #[.agg #[.int .i64 0, .slice none 0 0], .int .i64 z]) ∧ Below W.heap.size W w'
/-- A field and an element of it that make a square. -/
structure GoodM (P K A : Nat) (l : List Int) : Prop where
  good : Fd.GoodF P K l
  one : 1 ≤ A
  lt : A < P ^ K
  le : P ^ K ≤ 8
theorem made_case (p k a : Int) (l : List Int) (v : Value) (w : World) (hT : Fd.Tab w) (hl : Sl w v l) (hll : l.length ≤ maxLen) : (∃ z, z ≠ 0 ∧ BadM p k a v w z) ∨ ∃ P K A : Nat, p = P ∧ k = K ∧ a = A ∧ GoodM P K A l := by
  obtain ⟨z, hz⟩ := fault_some p k l
  by_cases h0 : z = 0
  · subst h0
    obtain ⟨P, K, rfl, rfl, hG⟩ := Fd.good_of hz
    have h2 := two_le hG
    have ho := hG.ord
    by_cases hin : 0 ≤ a ∧ a < ((P ^ K : Nat) : Int)
    · obtain ⟨A, rfl⟩ : ∃ A : Nat, a = A := ⟨a.toNat, by omega⟩
      have hA : A < P ^ K := by omega
      by_cases hA0 : A = 0
      · subst hA0
        exact .inl ⟨1, by decide, fun W b => Made_zero P K l v W (hT.below b) (hl.below b) hG⟩
      · by_cases h8 : P ^ K ≤ 8
        · exact .inr ⟨P, K, A, rfl, rfl, rfl, hG, by omega, hA, h8⟩
        · exact .inl ⟨3, by decide, fun W b => Made_full P K A l v W (hT.below b) (hl.below b) hG (by omega) hA (by omega)⟩
    · have hO : Fd.OpenIs (P : Int) K l [a, 0] 1 := .inr (.inl ⟨hz, by rw [in_az (by rw [ho]; omega), ho]; exact hin, rfl⟩)
      exact .inl ⟨1, by decide, fun W b => Made_bad P K a 1 l v W (hT.below b) (hl.below b) hll (by decide) hO⟩
  · exact .inl ⟨z, h0, fun W b => Made_bad p k a z l v W (hT.below b) (hl.below b) hll h0 (.inl ⟨h0, hz⟩)⟩
/-- Made makes this list, wherever. -/
def OkM (P K A : Nat) (l : List Int) (v : Value) (w : World) : Prop := ∀ W, Below w.heap.size w W → Calls Tryd.prog 6 #[.agg #[.int .i64 (P : Int), .int .i64 (K : Int), v], .int .i64 (A : Int)] W fun e w' => (∃ y, e = .returned (.tuple #[.agg #[.int .i64 ((P ^ K : Nat) : Int), y], .int .i64 0]) ∧ Sl w' y ((madeL P K l A).map Int.ofNat)) ∧ Below W.heap.size W w'
theorem GoodM.ok {P K A : Nat} {l : List Int} (h : GoodM P K A l) {v : Value} {w : World} (hT : Fd.Tab w) (hl : Sl w v l) : OkM P K A l v w := fun W b =>
  (Made_ok P K A l v W (hT.below b) (hl.below b) h.good h.one h.lt h.le).mono fun _ _ ⟨⟨y, h1, h2⟩, h3⟩ => ⟨⟨y, h1, fl_sl h2⟩, h3⟩

set_option maxHeartbeats 4000000 in
theorem Bose_first (p k a b z : Int) (l : List Int) (v : Value) (w : World) (hl : Sl w v l) (hz : z ≠ 0) (hM : BadM p k a v w z) :
    Calls Tryd.prog 3 #[.agg #[.int .i64 p, .int .i64 k, v], .int .i64 a, .int .i64 b] w fun e w' => e = .returned (.bool true) ∧ Below w.heap.size w w' := by
  obtain ⟨va, vc, ev, _⟩ := id hl
  subst ev
  have F0 := Fd.FB.made w p k (.slice va l.length vc)
  have b0 := balloc w (.cells #[.int .i64 p, .int .i64 k, .slice va l.length vc] 24)
  have C1 := latinFact_any (w.alloc (.cells #[.int .i64 p, .int .i64 k, .slice va l.length vc] 24))
  have C2 : Hid (BadM p k a (.slice va l.length vc) w z) := hM
  have hzb : (z != 0) = true := by simpa using hz
  clear hl hz hM
  go_enter Tryd.func3, Tryd.ntmps3
  go_wp2_with (first
    | (go_at_call 5; refine C1.mono ?_; rintro e w1 ⟨rfl, b1⟩; have d1 := Below.next b0 b1; obtain ⟨x0, x1, x2⟩ := (F0.below b1).cells; have D := C2.out _ d1; clear C1)
    | (go_at_call 6; refine Calls.mono D ?_; rintro e w2 ⟨rfl, b2⟩; clear D))
  go_ret
  exact ⟨rfl, Below.next (Below.next d1 b2) (balloc w2 _)⟩
set_option maxHeartbeats 4000000 in
theorem Bose_second (P K A : Nat) (b z : Int) (l : List Int) (v : Value) (w : World) (hl : Sl w v l) (hz : z ≠ 0) (hM : BadM P K b v w z) (hA : OkM P K A l v w) :
    Calls Tryd.prog 3 #[.agg #[.int .i64 P, .int .i64 K, v], .int .i64 A, .int .i64 b] w fun e w' => e = .returned (.bool true) ∧ Below w.heap.size w w' := by
  obtain ⟨va, vc, ev, _⟩ := id hl
  subst ev
  have F0 := Fd.FB.made w P K (.slice va l.length vc)
  have b0 := balloc w (.cells #[.int .i64 (P : Int), .int .i64 (K : Int), .slice va l.length vc] 24)
  have C1 := latinFact_any (w.alloc (.cells #[.int .i64 (P : Int), .int .i64 (K : Int), .slice va l.length vc] 24))
  have C2 : Hid (OkM P K A l (.slice va l.length vc) w) := hA
  unfold OkM at C2
  obtain ⟨L, HL⟩ : ∃ L, Hid ((madeL P K l A).map Int.ofNat = L) := ⟨_, rfl⟩
  obtain ⟨q, Hq⟩ : ∃ q, Hid (P ^ K = q) := ⟨_, rfl⟩
  rw [HL.out, Hq.out] at C2
  have C3 : Hid (BadM P K b (.slice va l.length vc) w z) := hM
  have hzb : (z != 0) = true := by simpa using hz
  clear hl hz hM hA
  go_enter Tryd.func3, Tryd.ntmps3
  go_wp2_with (first
    | (go_at_call 5; refine C1.mono ?_; rintro e w1 ⟨rfl, b1⟩; have d1 := Below.next b0 b1; have F1 := F0.below b1; obtain ⟨x0, x1, x2⟩ := F1.cells; have D := C2.out _ d1; clear C1)
    | (go_at_call 6; refine Calls.mono D ?_; rintro e w2 ⟨⟨y, rfl, sy⟩, b2⟩; obtain ⟨ya, yc, ey, _⟩ := id sy; subst ey; have F2 := (F1.below b2).below (balloc w2 (.cells #[.int .i64 (q : Int), .slice ya L.length yc] 27)); have d2 := Below.next (Below.next d1 b2) (balloc w2 (.cells #[.int .i64 (q : Int), .slice ya L.length yc] 27)); obtain ⟨z0, z1, z2⟩ := F2.cells; have D2 := C3.out _ d2; clear D)
    | (go_at_call 6; refine Calls.mono D2 ?_; rintro e w3 ⟨rfl, b3⟩; clear D2))
  go_ret
  exact ⟨rfl, Below.next (Below.next d2 b3) (balloc w3 _)⟩
theorem orth_made {P K A B : Nat} {l : List Int} (h : GoodM P K A l) (h' : GoodM P K B l) : (decide (A ≠ B) = true ↔ Orth (P ^ K) (sq (P ^ K) ((madeL P K l A).map Int.ofNat)) (sq (P ^ K) ((madeL P K l B).map Int.ofNat))) := by
  have e : Orth (P ^ K) (sq (P ^ K) ((madeL P K l A).map Int.ofNat)) (sq (P ^ K) ((madeL P K l B).map Int.ofNat)) ↔ Orth (P ^ K) (sqF P K l A) (sqF P K l B) := by
    unfold madeL Orth
    constructor
    · intro o i j i' j' hi hj hi' hj' e1 e2
      exact o i j i' j' hi hj hi' hj' (by rw [fl_sq hi hj, fl_sq hi' hj']; exact e1) (by rw [fl_sq hi hj, fl_sq hi' hj']; exact e2)
    · intro o i j i' j' hi hj hi' hj' e1 e2
      rw [fl_sq hi hj, fl_sq hi' hj'] at e1 e2
      exact o i j i' j' hi hj hi' hj' e1 e2
  rw [e, decide_eq_true_iff]
  constructor
  · exact fun hab => orth_F h.good h.lt h'.lt hab
  · rintro o rfl
    exact not_orth_F h.good h.lt o
set_option maxHeartbeats 8000000 in
theorem Bose_ok (P K A B : Nat) (l : List Int) (v : Value) (w : World) (hT : Fd.Tab w) (hl : Sl w v l) (hA : GoodM P K A l) (hB : GoodM P K B l) :
    Calls Tryd.prog 3 #[.agg #[.int .i64 P, .int .i64 K, v], .int .i64 A, .int .i64 B] w fun e w' => e = .returned (.bool true) ∧ Below w.heap.size w w' := by
  have h2 := two_le hA.good
  have h8 := hA.le
  have g1 : GoodS (P ^ K) ((madeL P K l A).map Int.ofNat) := fl_good (by omega) h8 (lat_F hA.good hA.one hA.lt)
  have g2 : GoodS (P ^ K) ((madeL P K l B).map Int.ofNat) := fl_good (by omega) h8 (lat_F hB.good hB.one hB.lt)
  have ho : oF ((P ^ K : Nat) : Int) ((P ^ K : Nat) : Int) ((madeL P K l A).map Int.ofNat) ((madeL P K l B).map Int.ofNat) = 0 := by
    unfold oF
    rw [lF_good g1, lF_good g2]
    simp
  have hor := orth_made hA hB
  have C4 : Hid (∀ W y y', Sl W y ((madeL P K l A).map Int.ofNat) → Sl W y' ((madeL P K l B).map Int.ofNat) → Calls Tryd.prog 7 #[.agg #[.int .i64 ((P ^ K : Nat) : Int), y], .agg #[.int .i64 ((P ^ K : Nat) : Int), y']] W fun e w' => e = .returned (.tuple #[.bool (decide (A ≠ B)), .int .i64 0]) ∧ Below W.heap.size W w') := fun W y y' s s' => by
    have h := Orthogonal_any _ _ _ _ y y' W (decide (A ≠ B)) s s' (by rw [g1.len]; exact sq_max h8) (by rw [g2.len]; exact sq_max h8) (fun _ => by rw [Int.toNat_natCast]; exact hor) (fun h => absurd ho h)
    rw [ho] at h
    exact h
  have C2 : Hid (OkM P K A l v w) := hA.ok hT hl
  have C3 : Hid (OkM P K B l v w) := hB.ok hT hl
  unfold OkM at C2 C3
  obtain ⟨L, HL⟩ : ∃ L, Hid ((madeL P K l A).map Int.ofNat = L) := ⟨_, rfl⟩
  obtain ⟨M, HM⟩ : ∃ M, Hid ((madeL P K l B).map Int.ofNat = M) := ⟨_, rfl⟩
  obtain ⟨q, Hq⟩ : ∃ q, Hid (P ^ K = q) := ⟨_, rfl⟩
  rw [HL.out, Hq.out] at C2
  rw [HM.out, Hq.out] at C3
  rw [HL.out, HM.out, Hq.out] at C4
  rw [Hq.out] at h2 h8
  obtain ⟨va, vc, ev, _⟩ := id hl
  subst ev
  have F0 := Fd.FB.made w P K (.slice va l.length vc)
  have b0 := balloc w (.cells #[.int .i64 (P : Int), .int .i64 (K : Int), .slice va l.length vc] 24)
  have C1 := latinFact_any (w.alloc (.cells #[.int .i64 (P : Int), .int .i64 (K : Int), .slice va l.length vc] 24))
  have hq1 : ((q : Int) == 1) = false := by simp; omega
  clear hl hT g1 g2 ho hor
  by_cases hab : A = B
  · have hd : decide (A ≠ B) = false := decide_eq_false (by simpa using hab)
    have hn : ((A : Int) != (B : Int)) = false := by simp; omega
    rw [hd] at C4
    clear hab hd hA hB
    go_enter Tryd.func3, Tryd.ntmps3
    go_wp2_with (first
      | (go_at_call 5; refine C1.mono ?_; rintro e w1 ⟨rfl, b1⟩; have d1 := Below.next b0 b1; have F1 := F0.below b1; obtain ⟨x0, x1, x2⟩ := F1.cells; have D := C2.out _ d1; clear C1)
      | (go_at_call 6; refine Calls.mono D ?_; rintro e w2 ⟨⟨y, rfl, sy⟩, b2⟩; obtain ⟨ya, yc, ey, _⟩ := id sy; subst ey; have F2 := (F1.below b2).below (balloc w2 (.cells #[.int .i64 (q : Int), .slice ya L.length yc] 27)); have d2 := Below.next (Below.next d1 b2) (balloc w2 (.cells #[.int .i64 (q : Int), .slice ya L.length yc] 27)); obtain ⟨z0, z1, z2⟩ := F2.cells; have D2 := C3.out _ d2; have s2 := Sl.below sy (balloc w2 (.cells #[.int .i64 (q : Int), .slice ya L.length yc] 27)); clear D)
      | (go_at_call 6; refine Calls.mono D2 ?_; rintro e w3 ⟨⟨u, rfl, su⟩, b3⟩; obtain ⟨ua, uc, eu, _⟩ := id su; subst eu; have k3 := (b3.block w2.heap.size (by simp)).trans (heap_alloc_new w2 (.cells #[.int .i64 (q : Int), .slice ya L.length yc] 27)); have hlt3 : w2.heap.size < w3.heap.size := (Array.getElem?_eq_some_iff.1 k3).1; have m0 : w3.cell? ⟨w2.heap.size, 0, none⟩ = some (.int .i64 (q : Int)) := (by rw [cell_of_row _ _ _ _ _ _ k3]; rfl); have m1 : w3.cell? ⟨w2.heap.size, 1, none⟩ = some (.slice ya L.length yc) := (by rw [cell_of_row _ _ _ _ _ _ k3]; rfl); have s3 := Sl.below (Sl.below s2 b3) (balloc w3 (.cells #[.int .i64 (q : Int), .slice ua M.length uc] 27)); have t3 := Sl.below su (balloc w3 (.cells #[.int .i64 (q : Int), .slice ua M.length uc] 27)); have D3 := C4.out _ _ _ s3 t3; have d3 := Below.next (Below.next d2 b3) (balloc w3 (.cells #[.int .i64 (q : Int), .slice ua M.length uc] 27)); clear D2)
      | (go_at_call 7; refine Calls.mono D3 ?_; rintro e w4 ⟨rfl, b4⟩; have k4 := (b4.block w2.heap.size (by simp; omega)).trans (((balloc w3 _).block w2.heap.size hlt3).trans k3); have n0 : w4.cell? ⟨w2.heap.size, 0, none⟩ = some (.int .i64 (q : Int)) := (by rw [cell_of_row _ _ _ _ _ _ k4]; rfl); clear D3))
    go_ret
    exact ⟨rfl, Below.next d3 b4⟩
  · have hd : decide (A ≠ B) = true := decide_eq_true hab
    have hn : ((A : Int) != (B : Int)) = true := by simp; omega
    rw [hd] at C4
    clear hab hd hA hB
    go_enter Tryd.func3, Tryd.ntmps3
    go_wp2_with (first
      | (go_at_call 5; refine C1.mono ?_; rintro e w1 ⟨rfl, b1⟩; have d1 := Below.next b0 b1; have F1 := F0.below b1; obtain ⟨x0, x1, x2⟩ := F1.cells; have D := C2.out _ d1; clear C1)
      | (go_at_call 6; refine Calls.mono D ?_; rintro e w2 ⟨⟨y, rfl, sy⟩, b2⟩; obtain ⟨ya, yc, ey, _⟩ := id sy; subst ey; have F2 := (F1.below b2).below (balloc w2 (.cells #[.int .i64 (q : Int), .slice ya L.length yc] 27)); have d2 := Below.next (Below.next d1 b2) (balloc w2 (.cells #[.int .i64 (q : Int), .slice ya L.length yc] 27)); obtain ⟨z0, z1, z2⟩ := F2.cells; have D2 := C3.out _ d2; have s2 := Sl.below sy (balloc w2 (.cells #[.int .i64 (q : Int), .slice ya L.length yc] 27)); clear D)
      | (go_at_call 6; refine Calls.mono D2 ?_; rintro e w3 ⟨⟨u, rfl, su⟩, b3⟩; obtain ⟨ua, uc, eu, _⟩ := id su; subst eu; have k3 := (b3.block w2.heap.size (by simp)).trans (heap_alloc_new w2 (.cells #[.int .i64 (q : Int), .slice ya L.length yc] 27)); have hlt3 : w2.heap.size < w3.heap.size := (Array.getElem?_eq_some_iff.1 k3).1; have m0 : w3.cell? ⟨w2.heap.size, 0, none⟩ = some (.int .i64 (q : Int)) := (by rw [cell_of_row _ _ _ _ _ _ k3]; rfl); have m1 : w3.cell? ⟨w2.heap.size, 1, none⟩ = some (.slice ya L.length yc) := (by rw [cell_of_row _ _ _ _ _ _ k3]; rfl); have s3 := Sl.below (Sl.below s2 b3) (balloc w3 (.cells #[.int .i64 (q : Int), .slice ua M.length uc] 27)); have t3 := Sl.below su (balloc w3 (.cells #[.int .i64 (q : Int), .slice ua M.length uc] 27)); have D3 := C4.out _ _ _ s3 t3; have d3 := Below.next (Below.next d2 b3) (balloc w3 (.cells #[.int .i64 (q : Int), .slice ua M.length uc] 27)); clear D2)
      | (go_at_call 7; refine Calls.mono D3 ?_; rintro e w4 ⟨rfl, b4⟩; have k4 := (b4.block w2.heap.size (by simp; omega)).trans (((balloc w3 _).block w2.heap.size hlt3).trans k3); have n0 : w4.cell? ⟨w2.heap.size, 0, none⟩ = some (.int .i64 (q : Int)) := (by rw [cell_of_row _ _ _ _ _ _ k4]; rfl); clear D3))
    go_ret
    exact ⟨rfl, Below.next d3 b4⟩
theorem Bose_any (a b p k : Int) (l : List Int) (v : Value) (w : World) (hT : Fd.Tab w) (hl : Sl w v l) (hll : l.length ≤ maxLen) :
    Calls Tryd.prog 3 #[.agg #[.int .i64 p, .int .i64 k, v], .int .i64 a, .int .i64 b] w fun e w' => e = .returned (.bool true) ∧ Below w.heap.size w w' := by
  rcases made_case p k a l v w hT hl hll with ⟨z, hz, hM⟩ | ⟨P, K, A, rfl, rfl, rfl, hA⟩
  · exact Bose_first p k a b z l v w hl hz hM
  · rcases made_case P K b l v w hT hl hll with ⟨z, hz, hM⟩ | ⟨P', K', B, e1, e2, rfl, hB⟩
    · exact Bose_second P K A b z l v w hl hz hM (hA.ok hT hl)
    · obtain rfl : P = P' := by omega
      obtain rfl : K = K' := by omega
      exact Bose_ok P K A B l v w hT hl hA hB
end Go.Proofs.YtagpbkcnjogbgabDoor
