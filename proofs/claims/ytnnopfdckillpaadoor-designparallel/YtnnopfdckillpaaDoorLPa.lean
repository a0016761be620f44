/- The law DesignParallel. -/
import Derived.Test.YtnnopfdckillpaaDoorDPa
import Derived.Test.YtnnopfdckillpaaDoorH9
import Derived.Test.YtnnopfdckillpaaDoorP14
namespace Go.Proofs.YtnnopfdckillpaaDoor
open Go.RowKit

set_option maxRecDepth 100000 in
set_option maxHeartbeats 4000000 in
theorem Par_err (p : Int) (z c n : Nat) (u : Value) (w : World) (hu : ∃ a c, u = .slice a n c) (h : (z ≠ 0 ∧ c = z) ∨ (z = 0 ∧ 15 < p ∧ c = 3))
    (F : ∀ W, Below w.heap.size w W → Calls Tryd.prog 7 #[.agg #[.int .i64 p, u]] W fun e w' => e = .returned (.int .i64 (z : Int)) ∧ Below W.heap.size W w')
    (P : ∀ W, Below w.heap.size w W → Calls Tryd.prog 20 #[.agg #[.int .i64 p, u]] W fun e w' => e = .returned (.tuple #[.slice none 0 0, .int .i64 (c : Int)]) ∧ Below W.heap.size W w') :
    Calls Tryd.prog 5 #[.agg #[.int .i64 p, u]] w fun e w' => e = .returned (.bool true) ∧ Below w.heap.size w w' := by
  have HC : Hid (∀ W, Below (w.alloc (.cells #[.int .i64 p, u] 24)).heap.size (w.alloc (.cells #[.int .i64 p, u] 24)) W → W.cell? ⟨w.heap.size, 0, none⟩ = some (.int .i64 p) ∧ W.cell? ⟨w.heap.size, 1, none⟩ = some u) := des_box p u w
  obtain ⟨w0, Hw0⟩ : ∃ w0, Hid (w0 = w.alloc (.cells #[.int .i64 p, u] 24)) := ⟨_, rfl⟩
  rw [← Hw0.out] at HC
  have hb0 : Below w.heap.size w w0 := by rw [Hw0.out]; exact balloc _ _
  have hb0' : Hid (Below w.heap.size w w0) := hb0
  have C1 := F w0 hb0
  have C2 : Hid (∀ W, Below w0.heap.size w0 W → Calls Tryd.prog 20 #[.agg #[.int .i64 p, u]] W fun e w' => e = .returned (.tuple #[.slice none 0 0, .int .i64 (c : Int)]) ∧ Below W.heap.size W w') := fun W hW => P W (Below.next hb0 hW)
  obtain ⟨x0, x1⟩ := HC.out _ (Below.refl _ _)
  rw [Hw0.out] at x0 x1
  obtain ⟨ua, uc, rfl⟩ := hu
  clear F P hb0
  rcases h with ⟨hz, rfl⟩ | ⟨rfl, hp, rfl⟩
  · have hd : ((c : Int) != 0) = true := by simp; omega
    have hd2 : ((c : Int) == 0) = false := beq_eq_false_iff_ne.2 (by omega)
    clear hz
    go_enter Tryd.func5, Tryd.ntmps5
    go_wp2_with (first
      | (go_at_call 7; rw [← Hw0.out]; refine C1.mono ?_; rintro e w1 ⟨rfl, hb1⟩; clear C1; obtain ⟨y0, y1⟩ := HC.out _ hb1)
      | (go_at_call 20; refine (C2.out _ hb1).mono ?_; rintro e w2 ⟨rfl, hb2⟩; replace hb2 := Below.next hb1 hb2))
    go_ret
    exact ⟨rfl, Below.next hb0'.out hb2⟩
  · have hd : decide (p > 15) = true := by simp; omega
    have hd2 : decide ((15 : Int) < p) = true := by simp; omega
    clear hp
    go_enter Tryd.func5, Tryd.ntmps5
    go_wp2_with (first
      | (go_at_call 7; rw [← Hw0.out]; refine C1.mono ?_; rintro e w1 ⟨rfl, hb1⟩; clear C1; obtain ⟨y0, y1⟩ := HC.out _ hb1)
      | (go_at_call 20; refine (C2.out _ hb1).mono ?_; rintro e w2 ⟨rfl, hb2⟩; replace hb2 := Below.next hb1 hb2))
    go_ret
    exact ⟨rfl, Below.next hb0'.out hb2⟩

set_option maxRecDepth 100000 in
set_option maxHeartbeats 4000000 in
theorem Par_main (v n : Nat) (c : Int) (l : List Int) (u : Value) (w : World) (hu : ∃ a c, u = .slice a n c) (hv : v ≤ 15) (hl : l.length ≤ maxLen)
    (F : ∀ W, Below w.heap.size w W → Calls Tryd.prog 7 #[.agg #[.int .i64 (v : Int), u]] W fun e w' => e = .returned (.int .i64 0) ∧ Below W.heap.size W w')
    (P : ∀ W, Below w.heap.size w W → Calls Tryd.prog 20 #[.agg #[.int .i64 (v : Int), u]] W fun e w' => ∃ x, e = .returned (.tuple #[x, .int .i64 c]) ∧ Sl w' x l ∧ Below W.heap.size W w')
    (O : ∀ W, Below w.heap.size w W → Calls Tryd.prog 21 #[.agg #[.int .i64 (v : Int), u]] W fun e w' => ∃ x, e = .returned (.tuple #[x, .int .i64 c]) ∧ Sl w' x l ∧ Below W.heap.size W w') :
    Calls Tryd.prog 5 #[.agg #[.int .i64 (v : Int), u]] w fun e w' => e = .returned (.bool true) ∧ Below w.heap.size w w' := by
  have HC : Hid (∀ W, Below (w.alloc (.cells #[.int .i64 (v : Int), u] 24)).heap.size (w.alloc (.cells #[.int .i64 (v : Int), u] 24)) W → W.cell? ⟨w.heap.size, 0, none⟩ = some (.int .i64 (v : Int)) ∧ W.cell? ⟨w.heap.size, 1, none⟩ = some u) := des_box v u w
  obtain ⟨w0, Hw0⟩ : ∃ w0, Hid (w0 = w.alloc (.cells #[.int .i64 (v : Int), u] 24)) := ⟨_, rfl⟩
  rw [← Hw0.out] at HC
  have hb0 : Below w.heap.size w w0 := by rw [Hw0.out]; exact balloc _ _
  have hb0' : Hid (Below w.heap.size w w0) := hb0
  have C1 := F w0 hb0
  have C2 : Hid (∀ W, Below w0.heap.size w0 W → Calls Tryd.prog 20 #[.agg #[.int .i64 (v : Int), u]] W fun e w' => ∃ x, e = .returned (.tuple #[x, .int .i64 c]) ∧ Sl w' x l ∧ Below W.heap.size W w') := fun W hW => P W (Below.next hb0 hW)
  have C3 : Hid (∀ W, Below w0.heap.size w0 W → Calls Tryd.prog 21 #[.agg #[.int .i64 (v : Int), u]] W fun e w' => ∃ x, e = .returned (.tuple #[x, .int .i64 c]) ∧ Sl w' x l ∧ Below W.heap.size W w') := fun W hW => O W (Below.next hb0 hW)
  obtain ⟨x0, x1⟩ := HC.out _ (Below.refl _ _)
  rw [Hw0.out] at x0 x1
  obtain ⟨ua, uc, rfl⟩ := hu
  have hd : decide ((v : Int) > 15) = false := by simp; omega
  have hd2 : decide ((15 : Int) < (v : Int)) = false := by simp; omega
  have HML : Hid (l.length ≤ maxLen) := hl
  clear F P O hb0 hv hl
  go_enter Tryd.func5, Tryd.ntmps5
  go_wp2_with (first
    | (go_at_call 7; rw [← Hw0.out]; refine C1.mono ?_; rintro e w1 ⟨rfl, hb1⟩; clear C1; obtain ⟨y0, y1⟩ := HC.out _ hb1)
    | (go_at_call 20; refine (C2.out _ hb1).mono ?_; rintro e w2 ⟨x, rfl, hx, hb2⟩; replace hb2 := Below.next hb1 hb2; have HX : Hid (Sl w2 x l) := hx; clear hx; obtain ⟨z0, z1⟩ := HC.out _ hb2)
    | (go_at_call 21; refine (C3.out _ hb2).mono ?_; rintro e w3 ⟨y, rfl, hy, hb3⟩; have HX3 : Hid (Sl w3 x l) := HX.out.below hb3; replace hb3 := Below.next hb2 hb3; have HY : Hid (Sl w3 y l) := hy; clear hy)
    | (go_at_call 19; refine (ints_any l l x y w3 HX3.out HY.out HML.out HML.out).mono ?_; rintro e w4 ⟨b, rfl, hb, hb4⟩; obtain rfl : b = true := hb.2 rfl; replace hb4 := Below.next hb3 hb4; clear hb))
  go_ret
  exact ⟨rfl, Below.next hb0'.out hb4⟩

theorem fc_lt {v : Nat} : ∀ {B : List (List Nat)} {i : Nat} {D : Nat → Bool} {l : List Nat}, fcB v B i D = some l → l.length ≤ B.length
  | [], i, D, l, h => by
    unfold fcB at h
    by_cases e : fullD v D = true
    · rw [if_pos e] at h; cases h; simp
    · rw [if_neg e] at h; cases h
  | b :: B, i, D, l, h => by
    have h' : (if (fitD D b && ccB v B (addD D b)) = true then (fcB v B (i + 1) (addD D b)).map (i :: ·) else fcB v B (i + 1) D) = some l := h
    by_cases e : (fitD D b && ccB v B (addD D b)) = true
    · rw [if_pos e] at h'
      cases e2 : fcB v B (i + 1) (addD D b) with
      | none => rw [e2] at h'; cases h'
      | some r =>
        rw [e2] at h'
        cases h'
        have := fc_lt e2
        simp; omega
    · rw [if_neg e] at h'
      have := fc_lt h'
      simp; omega
theorem DesignParallel_law (p : Int) (ls : List (List Int)) (u : Value) (w : World) (hT : Tab w) (hu : Rw w u ls) (hll : ∀ l ∈ ls, l.length ≤ maxLen) (hlm : ls.length ≤ maxLen) (hcap : ∀ a n c, u = .slice a n c → n ≤ c) :
    Calls Tryd.prog 5 #[.agg #[.int .i64 p, u]] w fun e w' => e = .returned (.bool true) ∧ Below w.heap.size w w' := by
  by_cases hz : dF p ls = 0
  · have F : ∀ W, Below w.heap.size w W → Calls Tryd.prog 7 #[.agg #[.int .i64 p, u]] W fun e w' => e = .returned (.int .i64 0) ∧ Below W.heap.size W w' := fun W hW => by
      have := DesignFault_any p ls u W (hu.below hW) hlm hll
      rwa [hz] at this
    obtain ⟨v, B, rfl, rfl, G⟩ := dF_ok hz
    by_cases hv : v ≤ 15
    · have h1 := fun W (hW : Below w.heap.size w W) => Parallel_good v B u W (hT.next hW) G (hu.below hW) hv
      have h2 := fun W (hW : Below w.heap.size w W) => ParallelOf_any v B u W G (hu.below hW) hcap
      cases hF : fcB v B 0 (fun _ => false) with
      | none =>
        refine Par_main v _ 4 [] u w (rw_form hu) hv (by simp) F (fun W hW => (h1 W hW).mono ?_) (fun W hW => (h2 W hW).mono ?_)
        · rintro e w' ⟨⟨_, rfl⟩ | ⟨l, x, h, _⟩, hb⟩
          · exact ⟨_, rfl, Sl.nil _, hb⟩
          · rw [hF] at h; cases h
        · rintro e w' ⟨⟨_, rfl⟩ | ⟨l, x, h, _⟩, hb⟩
          · exact ⟨_, rfl, Sl.nil _, hb⟩
          · rw [hF] at h; cases h
      | some l =>
        have hlen := fc_lt hF
        have := G.few
        refine Par_main v _ 0 (l.map Int.ofNat) u w (rw_form hu) hv (by rw [List.length_map]; unfold maxLen; omega) F (fun W hW => (h1 W hW).mono ?_) (fun W hW => (h2 W hW).mono ?_)
        · rintro e w' ⟨⟨h, _⟩ | ⟨l', x, h, rfl, hx⟩, hb⟩
          · rw [hF] at h; cases h
          · rw [hF] at h; cases h; exact ⟨_, rfl, hx, hb⟩
        · rintro e w' ⟨⟨h, _⟩ | ⟨l', x, h, rfl, hx⟩, hb⟩
          · rw [hF] at h; cases h
          · rw [hF] at h; cases h; exact ⟨_, rfl, hx, hb⟩
    · exact Par_err v 0 3 _ u w (rw_form hu) (.inr ⟨rfl, by omega, rfl⟩) F fun W hW => Parallel_far v B u W G (hu.below hW) (by omega)
  · exact Par_err p (dF p ls) (dF p ls) _ u w (rw_form hu) (.inl ⟨hz, rfl⟩) (fun W hW => DesignFault_any p ls u W (hu.below hW) hlm hll) fun W hW => Parallel_bad p ls u W (hu.below hW) hlm hll hz

end Go.Proofs.YtnnopfdckillpaaDoor
