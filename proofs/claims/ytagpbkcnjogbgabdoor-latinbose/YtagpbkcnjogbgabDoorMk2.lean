/- The walks of made and Made. -/
import Derived.Test.YtagpbkcnjogbgabDoorWG
import Derived.Test.YtagpbkcnjogbgabDoorL17
/- The walks of latin's order, made and Made. -/
namespace Go.Proofs.YtagpbkcnjogbgabDoor
open Go.RowKit

theorem pow_lt {P K i : Nat} (hP : 2 ≤ P) (hi : i ≤ K) : P ^ i ≤ P ^ K := Nat.pow_le_pow_right (by omega) hi
set_option maxHeartbeats 4000000 in
theorem order_any (P K : Nat) (A : Option Addr) (n c : Nat) (w : World) (hP : 2 ≤ P) (_hP' : P ≤ 61) (hK : K ≤ 6) (hPK : P ^ K ≤ 64) :
    Calls Tryd.prog 14 #[.agg #[.int .i64 P, .int .i64 K, .slice A n c]] w fun e w' => e = .returned (.int .i64 ((P ^ K : Nat) : Int)) ∧ Below w.heap.size w w' := by
  obtain ⟨q, Hq⟩ : ∃ q, Hid (P ^ K = q) := ⟨_, rfl⟩
  rw [Hq.out] at hPK ⊢
  have hB := balloc w (.cells #[.int .i64 (P : Int), .int .i64 (K : Int), .slice A n c] 24)
  have hc := (Fd.FB.made w P K (.slice A n c)).cells
  obtain ⟨c0, c1, c2⟩ := hc
  go_enter Tryd.func14, Tryd.ntmps14
  go_wp2
  go_loop [3, 6] (fun o i => ∃ j r : Nat, i = .int .i64 (j : Int) ∧ o = .int .i64 (r : Int) ∧ j ≤ K ∧ Hid (r = P ^ j)) (fun _ i => (K - intOf i).toNat)
  case atStart => exact ⟨0, 1, rfl, rfl, by omega, (by simp : 1 = P ^ 0)⟩
  case round =>
    obtain ⟨j, r, rfl, rfl, hj, Hr⟩ := hrel
    by_cases hlt : j < K
    · have hd : decide ((j : Int) < (K : Int)) = true := by simp; omega
      have hle : r * P ≤ 64 := by
        rw [Hr.out, ← Nat.pow_succ]
        exact Nat.le_trans (pow_lt hP hlt) (by rw [Hq.out]; exact hPK)
      obtain ⟨r2, Hr2⟩ : ∃ r2, Hid (r * P = r2) := ⟨_, rfl⟩
      rw [Hr2.out] at hle
      have hm : (r : Int) * (P : Int) = (r2 : Int) := by rw [← Hr2.out]; simp
      have Hr3 : Hid (r2 = P ^ (j + 1)) := by show _ = _; rw [← Hr2.out, Hr.out, Nat.pow_succ]
      clear Hr
      go_wp2
      go_round
      case rel => exact ⟨j + 1, r2, by go_num, by go_num, by omega, Hr3⟩
      case measure => simp [intOf]; omega
    · have hd : decide ((j : Int) < (K : Int)) = false := by simp; omega
      obtain rfl : j = K := by omega
      have Hrq : Hid (r = q) := by show _ = _; rw [Hr.out, Hq.out]
      clear Hr
      go_wp2
      go_ret
      exact ⟨congrArg (fun x : Nat => Ending.returned (.int .i64 (x : Int))) Hrq.out, hB⟩
/-- The cell of a field's square. -/
def sqF (P K : Nat) (l : List Int) (a r c : Nat) : Nat := Fd.addQ P K (Fd.mulQ P K (Fd.monL l) a r) c
theorem e35 : ∀ args w, (callFunc 28 args).run Tryd.prog w = .ok (.enter 28 args) w := enters_of Tryd.func28 (by kernel_rfl) rfl
set_option maxHeartbeats 4000000 in
theorem made1_any (P K a r c gf ga : Nat) (l : List Int) (v : Value) (W : World) (hT : Fd.Tab W) (hl : Sl W v l) (hG : Fd.GoodF P K l) (ha : a < P ^ K) (hr : r < P ^ K) (hc : c < P ^ K) (hF : Fd.FB W gf P K v) (hA : W.cell? ⟨ga, 0, none⟩ = some (.int .i64 (a : Int))) :
    Calls Tryd.prog 28 #[.int .i64 (r : Int), .int .i64 (c : Int), .pointer (some ⟨gf, 0, none⟩), .pointer (some ⟨ga, 0, none⟩)] W fun e w' => e = .returned (.int .i64 (sqF P K l a r c : Int)) ∧ Below W.heap.size W w' := by
  have hll : l.length ≤ maxLen := by rw [hG.len]; have := hG.le6; unfold maxLen; omega
  obtain ⟨m, Hm⟩ : ∃ m, Hid (m = Fd.mulQ P K (Fd.monL l) a r) := ⟨_, (rfl : _ = Fd.mulQ P K (Fd.monL l) a r)⟩
  obtain ⟨s, Hs⟩ : ∃ s, Hid (s = Fd.addQ P K m c) := ⟨_, (rfl : _ = Fd.addQ P K m c)⟩
  have hm : m < P ^ K := by rw [Hm.out]; exact Fd.mulQ_lt hG.field.toRing1 a r
  have C1 := Fd.MulG P K a r l v W hT hl hll hG ha hr m Hm
  have C2 : Hid (∀ W', Below W.heap.size W W' → Calls Tryd.prog 29 #[.agg #[.int .i64 P, .int .i64 K, v], .int .i64 m, .int .i64 c] W' fun e w' => e = .returned (.tuple #[.int .i64 s, .int .i64 0]) ∧ Below W'.heap.size W' w') := fun W' bW => Fd.AddG P K m c l v W' (hT.below bW) (Sl.below hl bW) hll hG hm hc s Hs
  have HS : Hid (sqF P K l a r c = s) := by show _ = _; unfold sqF; rw [← Hm.out, Hs.out]
  rw [HS.out]
  obtain ⟨c0, c1, c2⟩ := hF.cells
  have HF : Hid (Fd.FB W gf P K v) := hF
  obtain ⟨va, vc, rfl, _⟩ := id hl
  clear hT hl hG ha hr hc hm hF HS
  go_enter Tryd.func28, Tryd.ntmps28
  go_wp2_with (first
    | (go_at_call 13; refine C1.mono ?_; rintro e w1 ⟨rfl, b1⟩; obtain ⟨d0, d1, d2⟩ := (HF.out.below b1).cells; clear C1)
    | (go_at_call 29; refine (C2.out _ b1).mono ?_; rintro e w2 ⟨rfl, b2⟩; clear C2))
  go_ret
  exact ⟨rfl, Below.next b1 b2⟩
end Go.Proofs.YtagpbkcnjogbgabDoor

namespace Go.Proofs.YtagpbkcnjogbgabDoor
open Go.RowKit

/-- The square of a field's element, row by row. -/
def madeL (P K : Nat) (l : List Int) (a : Nat) : List Nat := flN (P ^ K) (sqF P K l a) (P ^ K * P ^ K)
theorem two_le {P K : Nat} {l : List Int} (hG : Fd.GoodF P K l) : 2 ≤ P ^ K := Fd.one_lt hG.field.toRing1
set_option maxHeartbeats 4000000 in
theorem made_any (P K a : Nat) (l : List Int) (v : Value) (w : World) (hT : Fd.Tab w) (hl : Sl w v l) (hG : Fd.GoodF P K l) (ha : a < P ^ K) (h8 : P ^ K ≤ 8) :
    Calls Tryd.prog 15 #[.agg #[.int .i64 P, .int .i64 K, v], .int .i64 a] w fun e w' => (∃ y, e = .returned (.agg #[.int .i64 ((P ^ K : Nat) : Int), y]) ∧ w'.ownsRow w.heap.size 3 1 y (P ^ K * P ^ K) (vn (madeL P K l a))) ∧ Below w.heap.size w w' := by
  have h2 := two_le hG
  obtain ⟨va, vc, ev, _⟩ := id hl
  subst ev
  have bA := balloc w (.cells #[.int .i64 (P : Int), .int .i64 (K : Int), .slice va l.length vc] 24)
  have bB := Below.next bA (balloc _ (.cells #[.int .i64 (a : Int)] 3))
  have bC := Below.next bB (balloc _ (.cells #[.int .i64 0, .slice none 0 0] 27))
  obtain ⟨W, hW⟩ : ∃ W, ((w.alloc (.cells #[.int .i64 (P : Int), .int .i64 (K : Int), .slice va l.length vc] 24)).alloc (.cells #[.int .i64 (a : Int)] 3)).alloc (.cells #[.int .i64 0, .slice none 0 0] 27) = W := ⟨_, rfl⟩
  have k0 : W.heap[w.heap.size]? = some (.cells #[.int .i64 (P : Int), .int .i64 (K : Int), .slice va l.length vc] 24 (0, 0)) := by rw [← hW]; exact (Below.heap_alloc _ _ _ (by simp; omega)).trans ((Below.heap_alloc _ _ _ (by simp)).trans (heap_alloc_new w _))
  have k1 : W.heap[w.heap.size + 1]? = some (.cells #[.int .i64 (a : Int)] 3 (0, 0)) := by
    rw [← hW]
    refine (Below.heap_alloc _ _ _ (by simp)).trans ?_
    have := heap_alloc_new (w.alloc (.cells #[.int .i64 (P : Int), .int .i64 (K : Int), .slice va l.length vc] 24)) (.cells #[.int .i64 (a : Int)] 3)
    simpa using this
  have k2 : W.heap[w.heap.size + 1 + 1]? = some (.cells #[.int .i64 0, .slice none 0 0] 27 (0, 0)) := by
    rw [← hW]
    have := heap_alloc_new ((w.alloc (.cells #[.int .i64 (P : Int), .int .i64 (K : Int), .slice va l.length vc] 24)).alloc (.cells #[.int .i64 (a : Int)] 3)) (.cells #[.int .i64 0, .slice none 0 0] 27)
    simpa using this
  have HW : Hid (((w.alloc (.cells #[.int .i64 (P : Int), .int .i64 (K : Int), .slice va l.length vc] 24)).alloc (.cells #[.int .i64 (a : Int)] 3)).alloc (.cells #[.int .i64 0, .slice none 0 0] 27) = W) := hW
  rw [hW] at bC
  have hWs : w.heap.size + 1 + 1 < W.heap.size := (Array.getElem?_eq_some_iff.1 k2).1
  have C1 := order_any P K va l.length vc W hG.field.two hG.le61 hG.le6 hG.le64
  have C2 : Hid (∀ W', Below W.heap.size W W' → Calls Tryd.prog 24 #[.int .i64 ((P ^ K : Nat) : Int), .func (.func 28) #[] #[.pointer (some ⟨w.heap.size, 0, none⟩), .pointer (some ⟨w.heap.size + 1, 0, none⟩)]] W' fun e w' => (∃ y, e = .returned (.agg #[.int .i64 ((P ^ K : Nat) : Int), y]) ∧ w'.ownsRow W'.heap.size 3 1 y (P ^ K * P ^ K) (vn (madeL P K l a))) ∧ Below W'.heap.size W' w') := fun W' b' =>
    filled_any (P ^ K) (sqF P K l a) _ W' (by omega) h8 ⟨_, _, rfl, e35, fun X bX r c hr hc => by
      have bWX := Below.next b' bX
      have bwX := Below.next bC bWX
      exact made1_any P K a r c w.heap.size (w.heap.size + 1) l _ X (hT.below bwX) (hl.below bwX) hG ha hr hc ((bWX.block _ (by omega)).trans k0) (by rw [cell_of_row _ _ _ _ _ _ ((bWX.block _ (by omega)).trans k1)]; rfl)⟩
  obtain ⟨q, Hq⟩ : ∃ q, Hid (P ^ K = q) := ⟨_, rfl⟩
  obtain ⟨L, HL⟩ : ∃ L, Hid (vn (madeL P K l a) = L) := ⟨_, rfl⟩
  rw [Hq.out] at h8 h2 C1
  rw [Hq.out, HL.out] at C2 ⊢
  have x0 : W.cell? ⟨w.heap.size, 0, none⟩ = some (.int .i64 (P : Int)) := by rw [cell_of_row _ _ _ _ _ _ k0]; rfl
  have x1 : W.cell? ⟨w.heap.size, 1, none⟩ = some (.int .i64 (K : Int)) := by rw [cell_of_row _ _ _ _ _ _ k0]; rfl
  have x2 : W.cell? ⟨w.heap.size, 2, none⟩ = some (.slice va l.length vc) := by rw [cell_of_row _ _ _ _ _ _ k0]; rfl
  have HK2 : Hid (W.heap[w.heap.size + 1 + 1]? = some (.cells #[.int .i64 0, .slice none 0 0] 27 (0, 0))) := k2
  have hC1 : Hid (Calls Tryd.prog 14 #[.agg #[.int .i64 (P : Int), .int .i64 (K : Int), .slice va l.length vc]] W fun e w' => e = .returned (.int .i64 (q : Int)) ∧ Below W.heap.size W w') := C1
  clear hW k0 k1 k2 hl hT hG ha bA bB C1
  go_enter Tryd.func15, Tryd.ntmps15
  go_wp2_with (first
    | (go_at_call 14; first | rw [HW.out] | skip; refine hC1.out.mono ?_; rintro e w1 ⟨rfl, b1⟩; clear hC1)
    | (go_at_call 24; refine (C2.out _ b1).mono ?_; rintro e w2 ⟨⟨y, rfl, hY⟩, b2⟩; have hR2 := ((Below.next b1 b2).block (w.heap.size + 1 + 1) hWs).trans HK2.out; obtain ⟨og, ol, oc, rfl⟩ := own_slice hY; have y0 : w2.cell? ⟨w.heap.size + 1 + 1, 0, none⟩ = some (.int .i64 0) := (by rw [cell_of_row _ _ _ _ _ _ hR2]; rfl); have y1 : w2.cell? ⟨w.heap.size + 1 + 1, 1, none⟩ = some (.slice none 0 0) := (by rw [cell_of_row _ _ _ _ _ _ hR2]; rfl); have f0 := frozen_of_row w2 (w.heap.size + 1 + 1) 0 _ _ hR2; have f1 := frozen_of_row w2 (w.heap.size + 1 + 1) 1 _ _ hR2; clear C2))
  have hn1 := heap_setCell_same w2 (w.heap.size + 1 + 1) 0 _ _ (.int .i64 (q : Int)) hR2
  have hn2 := heap_setCell_same _ (w.heap.size + 1 + 1) 1 _ _ (.slice og ol oc) hn1
  have hs1 := b1.size
  have hY2 := orow_other (orow_other (orow_base (base' := w.heap.size) hY (by omega)) ⟨w.heap.size + 1 + 1, 0, none⟩ (.int .i64 (q : Int)) (own_diff hY hR2)) ⟨w.heap.size + 1 + 1, 1, none⟩ (.slice og ol oc) (own_diff hY hR2)
  exact post_sq 4 Tryd.results15 rfl hn2 rfl ⟨⟨_, rfl, hY2⟩, (((Below.next bC (Below.next b1 b2))).setCell (by show w.heap.size ≤ w.heap.size + 1 + 1; omega) _).setCell (by show w.heap.size ≤ w.heap.size + 1 + 1; omega) _⟩
end Go.Proofs.YtagpbkcnjogbgabDoor
