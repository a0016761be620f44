/- The walks of latin's order, made and Made. -/
import Derived.Test.YtagpbkcnjogbgaaDoorWG
import Derived.Test.YtagpbkcnjogbgaaDoorL17
namespace Go.Proofs.YtagpbkcnjogbgaaDoor
open Go.RowKit

theorem pow_lt {P K i : Nat} (hP : 2 ≤ P) (hi : i ≤ K) : P ^ i ≤ P ^ K := Nat.pow_le_pow_right (by omega) hi
set_option maxHeartbeats 4000000 in
theorem order_any (P K : Nat) (A : Option Addr) (n c : Nat) (w : World) (hP : 2 ≤ P) (_hP' : P ≤ 61) (hK : K ≤ 6) (hPK : P ^ K ≤ 64) :
    Calls Tryd.prog 24 #[.agg #[.int .i64 P, .int .i64 K, .slice A n c]] w fun e w' => e = .returned (.int .i64 ((P ^ K : Nat) : Int)) ∧ Below w.heap.size w w' := by
  obtain ⟨q, Hq⟩ : ∃ q, Hid (P ^ K = q) := ⟨_, rfl⟩
  rw [Hq.out] at hPK ⊢
  have hB := balloc w (.cells #[.int .i64 (P : Int), .int .i64 (K : Int), .slice A n c] 33)
  have hc := (Fd.FB.made w P K (.slice A n c)).cells
  obtain ⟨c0, c1, c2⟩ := hc
  go_enter Tryd.func24, Tryd.ntmps24
  go_wp2
  go_loop [3, 6] (fun o i => ∃ j r : Nat, i = .int .i64 (j : Int) ∧ o = .int .i64 (r : Int) ∧ j ≤ K ∧ Hid (r = P ^ j)) (fun _ i => (K - intOf i).toNat)
  case atStart => exact ⟨0, 1, rfl, rfl, by omega, (by simp : 1 = P ^ 0)⟩
  case round =>
    obtain ⟨j, r, rfl, rfl, hj, Hr⟩ := hrel
    by_cases hlt : j < K
    · have hd : decide ((j : Int) < (K : Int)) = true := by simp; omega
      have hle : r * P ≤ 64 := by
        rw [Hr.out, ← Nat.pow_succ]
        exact Nat.le_trans (pow_lt hP hlt) (by rw [Hq.out]; exact hPK)
      obtain ⟨r2, Hr2⟩ : ∃ r2, Hid (r * P = r2) := ⟨_, rfl⟩
      rw [Hr2.out] at hle
      have hm : (r : Int) * (P : Int) = (r2 : Int) := by rw [← Hr2.out]; simp
      have Hr3 : Hid (r2 = P ^ (j + 1)) := by show _ = _; rw [← Hr2.out, Hr.out, Nat.pow_succ]
      clear Hr
      go_wp2
      go_round
      case rel => exact ⟨j + 1, r2, by go_num, by go_num, by omega, Hr3⟩
      case measure => simp [intOf]; omega
    · have hd : decide ((j : Int) < (K : Int)) = false := by simp; omega
      obtain rfl : j = K := by omega
      have Hrq : Hid (r = q) := by show _ = _; rw [Hr.out, Hq.out]
      clear Hr
      go_wp2
      go_ret
      exact ⟨congrArg (fun x : Nat => Ending.returned (.int .i64 (x : Int))) Hrq.out, hB⟩
/-- The cell of a field's square. -/
def sqF (P K : Nat) (l : List Int) (a r c : Nat) : Nat := Fd.addQ P K (Fd.mulQ P K (Fd.monL l) a r) c
theorem e35 : ∀ args w, (callFunc 35 args).run Tryd.prog w = .ok (.enter 35 args) w := enters_of Tryd.func35 (by kernel_rfl) rfl
set_option maxHeartbeats 4000000 in
theorem made1_any (P K a r c gf ga : Nat) (l : List Int) (v : Value) (W : World) (hT : Fd.Tab W) (hl : Sl W v l) (hG : Fd.GoodF P K l) (ha : a < P ^ K) (hr : r < P ^ K) (hc : c < P ^ K) (hF : Fd.FB W gf P K v) (hA : W.cell? ⟨ga, 0, none⟩ = some (.int .i64 (a : Int))) :
    Calls Tryd.prog 35 #[.int .i64 (r : Int), .int .i64 (c : Int), .pointer (some ⟨gf, 0, none⟩), .pointer (some ⟨ga, 0, none⟩)] W fun e w' => e = .returned (.int .i64 (sqF P K l a r c : Int)) ∧ Below W.heap.size W w' := by
  have hll : l.length ≤ maxLen := by rw [hG.len]; have := hG.le6; unfold maxLen; omega
  obtain ⟨m, Hm⟩ : ∃ m, Hid (m = Fd.mulQ P K (Fd.monL l) a r) := ⟨_, (rfl : _ = Fd.mulQ P K (Fd.monL l) a r)⟩
  obtain ⟨s, Hs⟩ : ∃ s, Hid (s = Fd.addQ P K m c) := ⟨_, (rfl : _ = Fd.addQ P K m c)⟩
  have hm : m < P ^ K := by rw [Hm.out]; exact Fd.mulQ_lt hG.field.toRing1 a r
  have C1 := Fd.MulG P K a r l v W hT hl hll hG ha hr m Hm
  have C2 : Hid (∀ W', Below W.heap.size W W' → Calls Tryd.prog 36 #[.agg #[.int .i64 P, .int .i64 K, v], .int .i64 m, .int .i64 c] W' fun e w' => e = .returned (.tuple #[.int .i64 s, .int .i64 0]) ∧ Below W'.heap.size W' w') := fun W' bW => Fd.AddG P K m c l v W' (hT.below bW) (Sl.below hl bW) hll hG hm hc s Hs
  have HS : Hid (sqF P K l a r c = s) := by show _ = _; unfold sqF; rw [← Hm.out, Hs.out]
  rw [HS.out]
  obtain ⟨c0, c1, c2⟩ := hF.cells
  have HF : Hid (Fd.FB W gf P K v) := hF
  obtain ⟨va, vc, rfl, _⟩ := id hl
  clear hT hl hG ha hr hc hm hF HS
  go_enter Tryd.func35, Tryd.ntmps35
  go_wp2_with (first
    | (go_at_call 23; refine C1.mono ?_; rintro e w1 ⟨rfl, b1⟩; obtain ⟨d0, d1, d2⟩ := (HF.out.below b1).cells; clear C1)
    | (go_at_call 36; refine (C2.out _ b1).mono ?_; rintro e w2 ⟨rfl, b2⟩; clear C2))
  go_ret
  exact ⟨rfl, Below.next b1 b2⟩
end Go.Proofs.YtagpbkcnjogbgaaDoor
