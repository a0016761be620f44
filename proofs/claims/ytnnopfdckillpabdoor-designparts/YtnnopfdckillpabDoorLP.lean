/- The law DesignParts: what counting says of derived and residual designs. -/
import Derived.Test.YtnnopfdckillpabDoorH6
import Derived.Test.YtnnopfdckillpabDoorLFi
namespace Go.Proofs.YtnnopfdckillpabDoor
open Go.RowKit

theorem rng_rs {v : Nat} (q : Nat → Bool) : Rs v 0 ((List.range v).filter q) := rs_iff.2 ⟨List.Pairwise.filter _ List.pairwise_lt_range, fun _ hy => ⟨Nat.zero_le _, List.mem_range.1 (List.mem_filter.1 hy).1⟩⟩
theorem deriv_good {v p : Nat} {B : List (List Nat)} (G : GoodD v B) (hv : 2 ≤ v) : GoodD (v - 1) (deriv v p B) where
  pos := by omega
  le := by have := G.le; omega
  few := by unfold deriv; rw [List.length_map]; exact Nat.le_trans (List.length_filter_le _ _) G.few
  rs := fun b hb => by
    obtain ⟨x, _, rfl⟩ := List.mem_map.1 hb
    exact rng_rs _
theorem resid_good {v i : Nat} {B : List (List Nat)} (G : GoodD v B) (hne : oth v (B.getD i []) ≠ []) : GoodD (oth v (B.getD i [])).length (resid v i B) where
  pos := List.length_pos_iff.2 hne
  le := by
    have h1 : (oth v (B.getD i [])).length ≤ v := by unfold oth; exact Nat.le_trans (List.length_filter_le _ _) (by simp)
    have := G.le; omega
  few := by
    have := G.few
    unfold resid
    rw [List.length_map, List.length_append, List.length_take, List.length_drop]; omega
  rs := fun b hb => by
    obtain ⟨x, _, rfl⟩ := List.mem_map.1 hb
    exact rng_rs _
theorem deriv_ok {v p k l : Nat} {B : List (List Nat)} (G : GoodD v B) (h : LvOk v B 2 k l) (h2 : 2 ≤ k) (hv : k < v) (hp : p < v) : LvOk (v - 1) (deriv v p B) 1 (k - 1) l := by
  obtain ⟨r, T⟩ := two_of G.bls h.2.1 h2 hv h.2.2
  have hr : 0 < r := by
    rcases Nat.eq_zero_or_pos r with e | e
    · have e2 := T.e2
      rw [e, Nat.zero_mul] at e2
      have hB : 0 < B.length := List.length_pos_iff.2 h.1
      rcases Nat.mul_eq_zero.1 e2 with h | h <;> omega
    · exact e
  refine ⟨fun e => ?_, deriv_size G.bls h.2.1 hp, deriv_lev hp h.2.2⟩
  have h1 : nb B [p] = r := T.l1 [p] ⟨by simp, fun x h => by simp at h; omega⟩ rfl
  have hf : B.filter (fun b => b.contains p) = [] := List.map_eq_nil_iff.1 e
  have : nb B [p] = 0 := by
    unfold nb
    rw [List.countP_eq_length_filter]
    have : B.filter (fun b => [p].all fun x => b.contains x) = B.filter fun b => b.contains p := List.filter_congr fun b _ => by simp
    rw [this, hf]; rfl
  omega
theorem resid_ok {v i k l : Nat} {B : List (List Nat)} (G : GoodD v B) (h : LvOk v B 2 k l) (h2 : 2 ≤ k) (hv : k + 2 ≤ v) (hb : B.length = v) (hi : i < B.length) : l ≤ k ∧ (oth v (B.getD i [])).length = v - k ∧ LvOk (oth v (B.getD i [])).length (resid v i B) 2 (k - l) l := by
  obtain ⟨r, T⟩ := two_of G.bls h.2.1 h2 (by omega) h.2.2
  obtain ⟨j, hj, hji⟩ : ∃ j, j < B.length ∧ i ≠ j := by
    by_cases e : i = 0
    · exact ⟨1, by omega, by omega⟩
    · exact ⟨0, by omega, e⟩
  have hm := ryser_at T h2 (by omega) hb hi hj hji
  have hk := h.2.1 _ (getD_memB hi)
  refine ⟨?_, ?_, fun e => ?_, resid_size T h2 (by omega) hb hi, resid_lev h.2.2 hi⟩
  · rw [← hm, ← hk]; exact List.countP_le_length
  · have := oth_len (G.bls _ (getD_memB hi))
    rw [hk] at this
    omega
  · have := congrArg List.length e
    unfold resid at this
    rw [List.length_map, List.length_append, List.length_take, List.length_drop, List.length_nil] at this
    omega

set_option maxRecDepth 100000 in
set_option maxHeartbeats 4000000 in
theorem Parts_skip (p q r : Int) (k l g n : Nat) (u : Value) (w : World) (hu : ∃ a c, u = .slice a n c) (h : g ≠ 0 ∨ k < 2 ∨ p ≤ k) (H : ∀ W, Below w.heap.size w W → Calls Tryd.prog 8 #[.agg #[.int .i64 p, u], .int .i64 2] W fun e w' => e = .returned (.tuple #[.int .i64 (k : Int), .int .i64 (l : Int), .int .i64 (g : Int)]) ∧ Below W.heap.size W w') :
    Calls Tryd.prog 4 #[.agg #[.int .i64 p, u], .int .i64 q, .int .i64 r] w fun e w' => e = .returned (.bool true) ∧ Below w.heap.size w w' := by
  have HC : Hid (∀ W, Below (w.alloc (.cells #[.int .i64 p, u] 24)).heap.size (w.alloc (.cells #[.int .i64 p, u] 24)) W → W.cell? ⟨w.heap.size, 0, none⟩ = some (.int .i64 p) ∧ W.cell? ⟨w.heap.size, 1, none⟩ = some u) := des_box p u w
  obtain ⟨w0, Hw0⟩ : ∃ w0, Hid (w0 = w.alloc (.cells #[.int .i64 p, u] 24)) := ⟨_, rfl⟩
  rw [← Hw0.out] at HC
  have hb0 : Below w.heap.size w w0 := by rw [Hw0.out]; exact balloc _ _
  have hb0' : Hid (Below w.heap.size w w0) := hb0
  have C1 := fact_any w0
  have C3 : Hid (∀ W, Below w0.heap.size w0 W → Calls Tryd.prog 8 #[.agg #[.int .i64 p, u], .int .i64 2] W fun e w' => e = .returned (.tuple #[.int .i64 (k : Int), .int .i64 (l : Int), .int .i64 (g : Int)]) ∧ Below W.heap.size W w') := fun W hW => H W (Below.next hb0 hW)
  obtain ⟨x0, x1⟩ := HC.out _ (Below.refl _ _)
  rw [Hw0.out] at x0 x1
  obtain ⟨ua, uc, rfl⟩ := hu
  clear H hb0
  by_cases h0 : g ≠ 0
  · have hd : ((g : Int) != 0) = true := by simp; omega
    clear h h0
    go_enter Tryd.func4, Tryd.ntmps4
    go_wp2_with (first
      | (go_at_call 5; rw [← Hw0.out]; refine C1.mono ?_; rintro e w1 ⟨rfl, hb1⟩; clear C1; obtain ⟨y0, y1⟩ := HC.out _ hb1)
      | (go_at_call 8; refine (C3.out _ hb1).mono ?_; rintro e w3 ⟨rfl, hb3⟩; replace hb3 := Below.next hb1 hb3; obtain ⟨q0, q1⟩ := HC.out _ hb3))
    go_ret
    exact ⟨rfl, Below.next hb0'.out hb3⟩
  by_cases h1 : k < 2
  · have hd0 : ((g : Int) != 0) = false := by simp; omega
    have hd : decide ((k : Int) < 2) = true := by simp; omega
    clear h h0 h1
    go_enter Tryd.func4, Tryd.ntmps4
    go_wp2_with (first
      | (go_at_call 5; rw [← Hw0.out]; refine C1.mono ?_; rintro e w1 ⟨rfl, hb1⟩; clear C1; obtain ⟨y0, y1⟩ := HC.out _ hb1)
      | (go_at_call 8; refine (C3.out _ hb1).mono ?_; rintro e w3 ⟨rfl, hb3⟩; replace hb3 := Below.next hb1 hb3; obtain ⟨q0, q1⟩ := HC.out _ hb3))
    go_ret
    exact ⟨rfl, Below.next hb0'.out hb3⟩
  · have hd0 : ((g : Int) != 0) = false := by simp; omega
    have hd1 : decide ((k : Int) < 2) = false := by simp; omega
    have hd : decide ((k : Int) ≥ p) = true := by simp; omega
    have hd' : decide (p ≤ (k : Int)) = true := by simp; omega
    clear h h0 h1
    go_enter Tryd.func4, Tryd.ntmps4
    go_wp2_with (first
      | (go_at_call 5; rw [← Hw0.out]; refine C1.mono ?_; rintro e w1 ⟨rfl, hb1⟩; clear C1; obtain ⟨y0, y1⟩ := HC.out _ hb1)
      | (go_at_call 8; refine (C3.out _ hb1).mono ?_; rintro e w3 ⟨rfl, hb3⟩; replace hb3 := Below.next hb1 hb3; obtain ⟨q0, q1⟩ := HC.out _ hb3))
    go_ret
    exact ⟨rfl, Below.next hb0'.out hb3⟩

end Go.Proofs.YtnnopfdckillpabDoor
