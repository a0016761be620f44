/- The law PlaneMakes, whole. -/
import Derived.Test.YtgpkhfpejopacaaDoorM6
import Derived.Test.YtgpkhfpejopacaaDoorDDe
/- The law PlaneMakes. -/
namespace Go.Proofs.YtgpkhfpejopacaaDoor
open Go.RowKit

theorem PlaneFault_z (p k z : Int) (l : List Int) (v : Value) (w : World) (hl : Sl w v l) (hz : Fd.FaultIs p k l z) :
    Calls Tryd.prog 9 #[.agg #[.int .i64 p, .int .i64 k, v]] w fun e w' => e = .returned (.int .i64 (pfZ p k z)) ∧ Below w.heap.size w w' := by
  refine PlaneFault_walk p k l z (Fd.ordZ p k) (pfZ p k z) v w hl (fun W hW => ?_) (fun W => Fd.size_any p k v W) rfl
  refine (Fd.fault_any p k l v W (hl.below hW)).mono ?_
  rintro e w' ⟨z', rfl, h, b⟩
  rw [h.one hz]
  exact ⟨rfl, b⟩
theorem rw_nil (w : World) : Rw w (.slice none 0 0) [] := ⟨none, 0, rfl, fun i l hi => by simp at hi⟩
set_option maxRecDepth 100000 in
set_option maxHeartbeats 8000000 in
theorem LMakes_bad (p k r : Int) (v : Value) (w : World) (hr : r ≠ 0) (hv : ∃ a n c, v = .slice a n c)
    (h1 : ∀ W, Below w.heap.size w W → Calls Tryd.prog 9 #[.agg #[.int .i64 p, .int .i64 k, v]] W fun e w' => e = .returned (.int .i64 r) ∧ Below W.heap.size W w')
    (h2 : ∀ W, Below w.heap.size w W → Calls Tryd.prog 10 #[.agg #[.int .i64 p, .int .i64 k, v]] W fun e w' => e = .returned (.tuple #[.agg #[.int .i64 0, .slice none 0 0], .int .i64 r]) ∧ Below W.heap.size W w')
    (h3 : ∀ W, Below w.heap.size w W → Calls Tryd.prog 11 #[.agg #[.int .i64 p, .int .i64 k, v]] W fun e w' => e = .returned (.tuple #[.slice none 0 0, .int .i64 r]) ∧ Below W.heap.size W w') :
    Calls Tryd.prog 3 #[.agg #[.int .i64 p, .int .i64 k, v]] w fun e w' => e = .returned (.bool true) ∧ Below w.heap.size w w' := by
  obtain ⟨fa, fn, fc, rfl⟩ := hv
  have b0 := balloc w (.cells #[.int .i64 p, .int .i64 k, .slice fa fn fc] 24)
  have HF : Hid (∀ W, Below (w.alloc (.cells #[.int .i64 p, .int .i64 k, .slice fa fn fc] 24)).heap.size (w.alloc (.cells #[.int .i64 p, .int .i64 k, .slice fa fn fc] 24)) W → W.cell? ⟨w.heap.size, 0, none⟩ = some (.int .i64 p) ∧ W.cell? ⟨w.heap.size, 1, none⟩ = some (.int .i64 k) ∧ W.cell? ⟨w.heap.size, 2, none⟩ = some (.slice fa fn fc)) := fBoxM _ _ _ w
  obtain ⟨x0, x1, x2⟩ := HF.out _ (Below.refl _ _)
  have C1 := h1 _ b0
  have H2 : Hid (∀ W, Below w.heap.size w W → Calls Tryd.prog 10 #[.agg #[.int .i64 p, .int .i64 k, .slice fa fn fc]] W fun e w' => e = .returned (.tuple #[.agg #[.int .i64 0, .slice none 0 0], .int .i64 r]) ∧ Below W.heap.size W w') := h2
  have H3 : Hid (∀ W, Below w.heap.size w W → Calls Tryd.prog 11 #[.agg #[.int .i64 p, .int .i64 k, .slice fa fn fc]] W fun e w' => e = .returned (.tuple #[.slice none 0 0, .int .i64 r]) ∧ Below W.heap.size W w') := h3
  have H4 : Hid (∀ W : World, Calls Tryd.prog 12 #[.agg #[.int .i64 0, .slice none 0 0], .agg #[.int .i64 0, .slice none 0 0]] W fun e w' => e = .returned (.bool true) ∧ Below W.heap.size W w') := fun W => by
    refine (Designs_any 0 0 [] [] _ _ W (rw_nil W) (rw_nil W) (by simp) (by simp) (by simp) (by simp)).mono ?_
    rintro e w' ⟨b, rfl, hb, bW⟩
    rw [hb.2 ⟨rfl, rfl⟩]
    exact ⟨rfl, bW⟩
  have HDB : Hid (∀ (W W' : World), Below (W.alloc (.cells #[.int .i64 0, .slice none 0 0] 29)).heap.size (W.alloc (.cells #[.int .i64 0, .slice none 0 0] 29)) W' → W'.cell? ⟨W.heap.size, 0, none⟩ = some (.int .i64 0) ∧ W'.cell? ⟨W.heap.size, 1, none⟩ = some (.slice none 0 0)) := fun W W' h => des_box 0 _ W W' h
  have hr1 : (r != 0) = true := by simpa using hr
  have hrr : (r != r) = false := by simp
  clear h1 h2 h3
  go_enter Tryd.func3, Tryd.ntmps3
  go_wp2_with (first
    | (go_at_call 9; refine C1.mono ?_; rintro e w1 ⟨rfl, b1⟩; clear C1; obtain ⟨y0, y1, y2⟩ := HF.out _ b1; have b1a := b1; replace b1 := Below.next b0 b1; have C2 := H2.out _ b1)
    | (go_at_call 10; refine C2.mono ?_; rintro e w2 ⟨rfl, b2⟩; clear C2; have c2 := balloc w2 (.cells #[.int .i64 0, .slice none 0 0] 29); have b2a := Below.next (Below.next b1a b2) c2; replace b2 := Below.next (Below.next b1 b2) c2; obtain ⟨z0, z1, z2⟩ := HF.out _ b2a; have C3 := H3.out _ b2)
    | (go_at_call 11; refine C3.mono ?_; rintro e w3 ⟨rfl, b3⟩; clear C3; obtain ⟨d0, d1⟩ := HDB.out w2 _ b3; replace b3 := Below.next b2 b3; have C4 := H4.out w3)
    | (go_at_call 12; refine C4.mono ?_; rintro e w4 ⟨rfl, b4⟩; clear C4; replace b4 := Below.next b3 b4))
  go_ret
  exact ⟨rfl, b4⟩
set_option maxRecDepth 100000 in
set_option maxHeartbeats 8000000 in
theorem LMakes_good (p k : Int) (vv : Nat) (BB : List (List Nat)) (CC : List Nat) (v : Value) (w : World) (hv : ∃ a n c, v = .slice a n c) (hBB : BB.length ≤ maxLen) (hBl : ∀ b ∈ BB, b.length ≤ maxLen) (hCC : CC.length ≤ maxLen)
    (h1 : ∀ W, Below w.heap.size w W → Calls Tryd.prog 9 #[.agg #[.int .i64 p, .int .i64 k, v]] W fun e w' => e = .returned (.int .i64 0) ∧ Below W.heap.size W w')
    (h2 : ∀ W, Below w.heap.size w W → Calls Tryd.prog 10 #[.agg #[.int .i64 p, .int .i64 k, v]] W fun e w' => ∃ xa xn xc, e = .returned (.tuple #[.agg #[.int .i64 (vv : Int), .slice xa xn xc], .int .i64 0]) ∧ Hid (Rw w' (.slice xa xn xc) (toZ BB)) ∧ Below W.heap.size W w')
    (h3 : ∀ W, Below w.heap.size w W → Calls Tryd.prog 11 #[.agg #[.int .i64 p, .int .i64 k, v]] W fun e w' => ∃ xa xn xc, e = .returned (.tuple #[.slice xa xn xc, .int .i64 0]) ∧ Hid (Sl w' (.slice xa xn xc) (CC.map Int.ofNat)) ∧ Below W.heap.size W w')
    (h5 : ∀ W, Below w.heap.size w W → Calls Tryd.prog 13 #[.agg #[.int .i64 p, .int .i64 k, v]] W fun e w' => ∃ xa xn xc, e = .returned (.agg #[.int .i64 (vv : Int), .slice xa xn xc]) ∧ Hid (Rw w' (.slice xa xn xc) (toZ BB)) ∧ Below W.heap.size W w')
    (h6 : ∀ W, Below w.heap.size w W → Calls Tryd.prog 14 #[.agg #[.int .i64 p, .int .i64 k, v]] W fun e w' => ∃ xa xn xc, e = .returned (.slice xa xn xc) ∧ Hid (Sl w' (.slice xa xn xc) (CC.map Int.ofNat)) ∧ Below W.heap.size W w') :
    Calls Tryd.prog 3 #[.agg #[.int .i64 p, .int .i64 k, v]] w fun e w' => e = .returned (.bool true) ∧ Below w.heap.size w w' := by
  obtain ⟨fa, fn, fc, rfl⟩ := hv
  have b0 := balloc w (.cells #[.int .i64 p, .int .i64 k, .slice fa fn fc] 24)
  have HF : Hid (∀ W, Below (w.alloc (.cells #[.int .i64 p, .int .i64 k, .slice fa fn fc] 24)).heap.size (w.alloc (.cells #[.int .i64 p, .int .i64 k, .slice fa fn fc] 24)) W → W.cell? ⟨w.heap.size, 0, none⟩ = some (.int .i64 p) ∧ W.cell? ⟨w.heap.size, 1, none⟩ = some (.int .i64 k) ∧ W.cell? ⟨w.heap.size, 2, none⟩ = some (.slice fa fn fc)) := fBoxM _ _ _ w
  obtain ⟨x0, x1, x2⟩ := HF.out _ (Below.refl _ _)
  have C1 := h1 _ b0
  have H2 : Hid (∀ W, Below w.heap.size w W → Calls Tryd.prog 10 #[.agg #[.int .i64 p, .int .i64 k, .slice fa fn fc]] W fun e w' => ∃ xa xn xc, e = .returned (.tuple #[.agg #[.int .i64 (vv : Int), .slice xa xn xc], .int .i64 0]) ∧ Hid (Rw w' (.slice xa xn xc) (toZ BB)) ∧ Below W.heap.size W w') := h2
  have H3 : Hid (∀ W, Below w.heap.size w W → Calls Tryd.prog 11 #[.agg #[.int .i64 p, .int .i64 k, .slice fa fn fc]] W fun e w' => ∃ xa xn xc, e = .returned (.tuple #[.slice xa xn xc, .int .i64 0]) ∧ Hid (Sl w' (.slice xa xn xc) (CC.map Int.ofNat)) ∧ Below W.heap.size W w') := h3
  have H5 : Hid (∀ W, Below w.heap.size w W → Calls Tryd.prog 13 #[.agg #[.int .i64 p, .int .i64 k, .slice fa fn fc]] W fun e w' => ∃ xa xn xc, e = .returned (.agg #[.int .i64 (vv : Int), .slice xa xn xc]) ∧ Hid (Rw w' (.slice xa xn xc) (toZ BB)) ∧ Below W.heap.size W w') := h5
  have H6 : Hid (∀ W, Below w.heap.size w W → Calls Tryd.prog 14 #[.agg #[.int .i64 p, .int .i64 k, .slice fa fn fc]] W fun e w' => ∃ xa xn xc, e = .returned (.slice xa xn xc) ∧ Hid (Sl w' (.slice xa xn xc) (CC.map Int.ofNat)) ∧ Below W.heap.size W w') := h6
  have HD : Hid (∀ (W : World) (a b : Value), Rw W a (toZ BB) → Rw W b (toZ BB) → Calls Tryd.prog 12 #[.agg #[.int .i64 (vv : Int), a], .agg #[.int .i64 (vv : Int), b]] W fun e w' => e = .returned (.bool true) ∧ Below W.heap.size W w') := fun W a b ha hb => by
    have hl1 : (toZ BB).length ≤ maxLen := by unfold toZ; rw [List.length_map]; exact hBB
    have hl2 : ∀ l ∈ toZ BB, l.length ≤ maxLen := fun l hl => by
      obtain ⟨b', hb', rfl⟩ := List.mem_map.1 hl
      rw [List.length_map]; exact hBl b' hb'
    refine (Designs_any vv vv _ _ a b W ha hb hl1 hl1 hl2 hl2).mono ?_
    rintro e w' ⟨b, rfl, hb, bW⟩
    rw [hb.2 ⟨rfl, rfl⟩]
    exact ⟨rfl, bW⟩
  have HI : Hid (∀ (W : World) (a b : Value), Sl W a (CC.map Int.ofNat) → Sl W b (CC.map Int.ofNat) → Calls Tryd.prog 15 #[a, b] W fun e w' => e = .returned (.bool true) ∧ Below W.heap.size W w') := fun W a b ha hb => by
    refine (ints_any _ _ a b W ha hb (by rw [List.length_map]; exact hCC) (by rw [List.length_map]; exact hCC)).mono ?_
    rintro e w' ⟨b, rfl, hb, bW⟩
    rw [hb.2 rfl]
    exact ⟨rfl, bW⟩
  have HDB : Hid (∀ (W W' : World) (u : Value), Below (W.alloc (.cells #[.int .i64 (vv : Int), u] 29)).heap.size (W.alloc (.cells #[.int .i64 (vv : Int), u] 29)) W' → W'.cell? ⟨W.heap.size, 0, none⟩ = some (.int .i64 (vv : Int)) ∧ W'.cell? ⟨W.heap.size, 1, none⟩ = some u) := fun W W' u h => des_box vv _ W W' h
  clear h1 h2 h3 h5 h6
  go_enter Tryd.func3, Tryd.ntmps3
  go_wp2_with (first
    | (go_at_call 9; refine C1.mono ?_; rintro e w1 ⟨rfl, b1⟩; clear C1; obtain ⟨y0, y1, y2⟩ := HF.out _ b1; have b1a := b1; replace b1 := Below.next b0 b1; have C2 := H2.out _ b1)
    | (go_at_call 10; refine C2.mono ?_; rintro e w2 ⟨xa, xn, xc, rfl, HR2, b2⟩; clear C2; have c2 := balloc w2 (.cells #[.int .i64 (vv : Int), .slice xa xn xc] 29); have b2a := Below.next (Below.next b1a b2) c2; replace b2 := Below.next (Below.next b1 b2) c2; obtain ⟨z0, z1, z2⟩ := HF.out _ b2a; have C3 := H3.out _ b2)
    | (go_at_call 11; refine C3.mono ?_; rintro e w3 ⟨ya, yn, yc, rfl, HS3, b3⟩; clear C3; have b23 := b3; have b3a := Below.next b2a b3; replace b3 := Below.next b2 b3; obtain ⟨s0, s1, s2⟩ := HF.out _ b3a; have C5 := H5.out _ b3)
    | (go_at_call 13; refine C5.mono ?_; rintro e w5 ⟨za, zn, zc, rfl, HR5, b5⟩; clear C5; have c5 := balloc w5 (.cells #[.int .i64 (vv : Int), .slice za zn zc] 29); have b25 := Below.next (Below.next b23 b5) c5; have b35 := Below.next b5 c5; have b5a := Below.next (Below.next b3a b5) c5; replace b5 := Below.next (Below.next b3 b5) c5; obtain ⟨d0, d1⟩ := HDB.out w2 _ (.slice xa xn xc) b25; obtain ⟨e0, e1⟩ := HDB.out w5 (w5.alloc (.cells #[.int .i64 (vv : Int), .slice za zn zc] 29)) (.slice za zn zc) (Below.refl _ _); have CD := HD.out (w5.alloc (.cells #[.int .i64 (vv : Int), .slice za zn zc] 29)) _ _ (HR2.out.below (Below.next c2 b25)) (HR5.out.below c5))
    | (go_at_call 12; refine CD.mono ?_; rintro e w6 ⟨rfl, b6⟩; clear CD; have b36 := Below.next b35 b6; have b6a := Below.next b5a b6; replace b6 := Below.next b5 b6; obtain ⟨t0, t1, t2⟩ := HF.out _ b6a; have C6 := H6.out _ b6)
    | (go_at_call 14; refine C6.mono ?_; rintro e w7 ⟨ua, un, uc, rfl, HS7, b7⟩; clear C6; have CI := HI.out w7 _ _ (HS3.out.below (Below.next b36 b7)) HS7.out; replace b7 := Below.next b6 b7)
    | (go_at_call 15; refine CI.mono ?_; rintro e w8 ⟨rfl, b8⟩; clear CI; replace b8 := Below.next b7 b8))
  go_ret
  exact ⟨rfl, b8⟩

end Go.Proofs.YtgpkhfpejopacaaDoor

namespace Go.Proofs.YtgpkhfpejopacaaDoor
open Go.RowKit

theorem bq_small {q : Nat} (h : Q4 q) : (bq q).length ≤ 40 ∧ ∀ b ∈ bq q, b.length ≤ 40 := by
  rcases h with rfl | rfl | rfl | rfl <;> exact ⟨by decide, by decide⟩
theorem cq_small {q : Nat} (h : Q4 q) : (cq q).length ≤ 40 := by
  rcases h with rfl | rfl | rfl | rfl <;> decide
theorem fault_ex (p k : Int) (l : List Int) : ∃ z, Fd.FaultIs p k l z := by
  unfold Fd.FaultIs
  by_cases h1 : Fd.ordZ p k = 0
  · exact ⟨1, .inl ⟨h1, rfl⟩⟩
  · by_cases h2 : (l.length : Int) = k
    · by_cases h3 : Fd.inL p l
      · by_cases h4 : Fd.irrP (Fd.monL l) k.toNat p.toNat
        · exact ⟨0, .inr (.inr (.inr (.inr ⟨h1, h2, h3, h4, rfl⟩)))⟩
        · exact ⟨4, .inr (.inr (.inr (.inl ⟨h1, h2, h3, h4, rfl⟩)))⟩
      · exact ⟨1, .inr (.inr (.inl ⟨h1, h2, h3, rfl⟩))⟩
    · exact ⟨2, .inr (.inl ⟨h1, h2, rfl⟩)⟩
/-- A field has a plane, or something is wrong with it. -/
theorem field_two (p k : Int) (l : List Int) : (∃ z, Fd.FaultIs p k l z ∧ pfZ p k z ≠ 0) ∨ (∃ P K : Nat, p = P ∧ k = K ∧ Fd.GoodF P K l ∧ P ^ K ≤ 5 ∧ pfZ p k 0 = 0) := by
  obtain ⟨z, hz⟩ := fault_ex p k l
  by_cases h : pfZ p k z = 0
  · have h0 : z = 0 := by
      refine Classical.byContradiction fun hn => ?_
      unfold pfZ at h
      rw [if_pos hn] at h
      exact hn h
    subst h0
    obtain ⟨P, K, rfl, rfl, hG⟩ := Fd.good_of hz
    refine .inr ⟨P, K, rfl, rfl, hG, ?_, h⟩
    refine Nat.le_of_not_lt fun hn => ?_
    unfold pfZ at h
    rw [if_neg (by simp), hG.ord, if_pos (by omega)] at h
    cases h
  · exact .inl ⟨z, hz, h⟩
theorem PlaneMakes_law (p k : Int) (l : List Int) (v : Value) (w : World) (hT : Fd.Tab w) (hl : Sl w v l) (hll : l.length ≤ maxLen) :
    Calls Tryd.prog 3 #[.agg #[.int .i64 p, .int .i64 k, v]] w fun e w' => e = .returned (.bool true) ∧ Below w.heap.size w w' := by
  have hform : ∃ a n c, v = .slice a n c := by obtain ⟨a, c, e, _⟩ := hl; exact ⟨a, _, c, e⟩
  rcases field_two p k l with ⟨z, hz, hr⟩ | ⟨P, K, rfl, rfl, hG, h5, h0⟩
  · exact LMakes_bad p k _ v w hr hform (fun W hW => PlaneFault_z p k z l v W (hl.below hW) hz) (fun W hW => Make_bad p k z l v W (hT.below hW) (hl.below hW) hll hz hr) (fun W hW => Conic_bad p k z l v W (hT.below hW) (hl.below hW) hll hz hr)
  · obtain ⟨hq, p1, p2, p3⟩ := plane_five hG h5
    obtain ⟨s1, s2⟩ := bq_small hq
    have s3 := cq_small hq
    have hmx : (40 : Nat) ≤ maxLen := by unfold maxLen; omega
    refine LMakes_good P K (vq (P ^ K)) (bq (P ^ K)) (cq (P ^ K)) v w hform (Nat.le_trans s1 hmx) (fun b hb => Nat.le_trans (s2 b hb) hmx) (Nat.le_trans s3 hmx) (fun W hW => ?_) (fun W hW => ?_) (fun W hW => ?_) (fun W hW => ?_) (fun W hW => ?_)
    · have h := PlaneFault_z P K 0 l v W (hl.below hW) hG.fault
      rw [h0] at h
      exact h
    · refine (Make_good P K l v W (hT.below hW) (hl.below hW) hll hG h5).mono ?_
      rintro e w' ⟨xa, xn, xc, rfl, hO, b⟩
      exact ⟨xa, xn, xc, rfl, hO.rw, b⟩
    · refine (Conic_good P K l v W (hT.below hW) (hl.below hW) hll hG h5).mono ?_
      rintro e w' ⟨xa, xn, xc, rfl, hO, b⟩
      exact ⟨xa, xn, xc, rfl, hO.sl, b⟩
    · refine (PlaneOf_any P K l v W (hl.below hW) hG h5).mono ?_
      rw [p2, p1]
      rintro e w' ⟨x, rfl, hO, b⟩
      have hR := hO.rw
      obtain ⟨xa, xc, rfl, _⟩ := id hR
      exact ⟨xa, _, xc, rfl, hR, b⟩
    · refine (ConicOf_any P K l v W (hl.below hW) hG h5).mono ?_
      rw [p3]
      rintro e w' ⟨x, rfl, hO, b⟩
      have hR := hO.sl
      obtain ⟨xa, xc, rfl, _⟩ := id hR
      exact ⟨xa, _, xc, rfl, hR, b⟩

end Go.Proofs.YtgpkhfpejopacaaDoor
