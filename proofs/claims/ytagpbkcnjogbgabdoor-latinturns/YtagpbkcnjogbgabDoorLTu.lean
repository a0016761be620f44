/- The law LatinTurns, walked. -/
import Derived.Test.YtagpbkcnjogbgabDoorCg
import Derived.Test.YtagpbkcnjogbgabDoorL14
namespace Go.Proofs.YtagpbkcnjogbgabDoor
open Go.RowKit

theorem cj_congr {n k : Nat} {s t t' : Nat → Nat → Nat} (L : Lat n s) (h : Cj n s k t) (he : ∀ i j, i < n → j < n → t' i j = t i j) : Cj n s k t' := fun r c hr hc => by
  have hl := cj_lt (k := k) hr hc (L.lt r c hr hc)
  rw [he _ _ hl.1 hl.2.1]
  exact h r c hr hc
theorem nbs (z : Nat) : ((z : Int) == (z : Int)) = true := by simp
theorem nbn (z : Nat) : ((z : Int) != (z : Int)) = false := by simp
set_option maxRecDepth 100000 in
set_option maxHeartbeats 8000000 in
theorem LatinTurns_law (s k : Int) (L : List Int) (v : Value) (w : World) (hO : OT w) (_hw : (Lit.int .i64 k).wf = true) (hv : Sl w v L) (hL : L.length ≤ maxLen) :
    Calls Tryd.prog 4 #[.agg #[.int .i64 s, v], .int .i64 k] w fun e w' => e = .returned (.bool true) ∧ Below w.heap.size w w' := by
  have SS : Hid (∀ W, Below (w.alloc (.cells #[.int .i64 s, v] 27)).heap.size (w.alloc (.cells #[.int .i64 s, v] 27)) W → W.cell? ⟨w.heap.size, 0, none⟩ = some (.int .i64 s) ∧ W.cell? ⟨w.heap.size, 1, none⟩ = some v ∧ W.rangeAt w.heap.size 0 [.int .i64 s, v]) := one_box s v w
  have hb0 := balloc w (.cells #[.int .i64 s, v] 27)
  have C0 := latinFact_any (w.alloc (.cells #[.int .i64 s, v] 27))
  by_cases h : lF s L = 0
  · obtain ⟨n, rfl, G⟩ := lF_ok h
    by_cases hk : k < 0 ∨ 5 < k
    · have C1 := fun W (b : Below w.heap.size w W) => Conjugate_far n k L v W (hv.below b) G hk
      clear hv G h hk hO
      go_enter Tryd.func4, Tryd.ntmps4
      go_wp2_with (first
        | (go_at_call 5; refine C0.mono ?_; rintro e w1 ⟨rfl, b1⟩; obtain ⟨x0, x1, _⟩ := SS.out _ b1; have d1 := Below.next hb0 b1)
        | (go_at_call 8; refine (C1 _ d1).mono ?_; rintro e w2 ⟨rfl, b2⟩; have d2 := Below.next d1 b2))
      go_ret
      exact ⟨rfl, Below.next d2 (balloc _ _)⟩
    · obtain ⟨m, rfl⟩ : ∃ m : Nat, k = m := ⟨k.toNat, by omega⟩
      have hm : m ≤ 5 := by omega
      have C1 := fun W (b : Below w.heap.size w W) => Conjugate_ok n m L v W (hv.below b) G hm (hO.below b)
      have K : Hid (∀ t, Cj n (sq n L) m t → GoodS n ((flN n t (n * n)).map Int.ofNat) ∧ trN n (sq n ((flN n t (n * n)).map Int.ofNat)) = trN n (sq n L) ∧ icN n (sq n ((flN n t (n * n)).map Int.ofNat)) = icN n (sq n L)) := fun t ht => by
        have h1 := cj_all G.lat hm ht
        have h2 := cj_all G.lat hm (cj_congr G.lat ht fun i j hi hj => fl_sq (t := t) hi hj)
        exact ⟨fl_good G.pos G.le h1.1, h2.2⟩
      have C3 := fun W (b : Below w.heap.size w W) => Intercalates_ok n L v W (hv.below b) G
      have HSL : Hid (∀ (W : World) (base : Nat) (y : Value) (t : Nat → Nat → Nat), W.ownsRow base 3 1 y (n * n) (vn (flN n t (n * n))) → Sl W y ((flN n t (n * n)).map Int.ofNat)) := fun W base y t hW => fl_sl hW
      have hlen : Hid (∀ t : Nat → Nat → Nat, ((flN n t (n * n)).map Int.ofNat).length ≤ maxLen) := fun t => by
        have : ((flN n t (n * n)).map Int.ofNat).length = n * n := by simp [flN]
        rw [this]
        exact Nat.le_trans (Nat.mul_le_mul G.le G.le) (by unfold maxLen; omega)
      have HC : Hid (∀ t y W, GoodS n ((flN n t (n * n)).map Int.ofNat) → Sl W y ((flN n t (n * n)).map Int.ofNat) → Calls Tryd.prog 9 #[.agg #[.int .i64 (n : Int), y]] W fun e w' => e = .returned (.int .i64 0) ∧ Below W.heap.size W w') := fun t y W hG hS => by
        have := Check_any n _ y W hS (hlen.out t)
        rw [lF_good hG] at this
        exact this
      have HI : Hid (∀ t y W, icN n (sq n ((flN n t (n * n)).map Int.ofNat)) = icN n (sq n L) → GoodS n ((flN n t (n * n)).map Int.ofNat) → Sl W y ((flN n t (n * n)).map Int.ofNat) → Calls Tryd.prog 10 #[.agg #[.int .i64 (n : Int), y]] W fun e w' => e = .returned (.tuple #[.int .i64 (icN n (sq n L) : Int), .int .i64 0]) ∧ Below W.heap.size W w') := fun t y W e hG hS => by
        have := Intercalates_ok n _ y W hS hG
        rw [e] at this
        exact this
      by_cases h7 : n ≤ 7
      · have C4 := fun W (b : Below w.heap.size w W) => Transversals_ok n L v W (hv.below b) G h7
        have HTR : Hid (∀ t y W, trN n (sq n ((flN n t (n * n)).map Int.ofNat)) = trN n (sq n L) → GoodS n ((flN n t (n * n)).map Int.ofNat) → Sl W y ((flN n t (n * n)).map Int.ofNat) → Calls Tryd.prog 11 #[.agg #[.int .i64 (n : Int), y]] W fun e w' => e = .returned (.tuple #[.int .i64 (trN n (sq n L) : Int), .int .i64 0]) ∧ Below W.heap.size W w') := fun t y W e hG hS => by
          have := Transversals_ok n _ y W hS hG h7
          rw [e] at this
          exact this
        generalize icN n (sq n L) = p at *
        generalize trN n (sq n L) = q at *
        have e1 := nbs q
        have e2 := nbn p
        clear hv G h hk hO
        go_enter Tryd.func4, Tryd.ntmps4
        go_wp2_with (first
          | (go_at_call 5; refine C0.mono ?_; rintro e w1 ⟨rfl, b1⟩; obtain ⟨x0, x1, _⟩ := SS.out _ b1; have d1 := Below.next hb0 b1; clear C0)
          | (go_at_call 8; refine (C1 _ d1).mono ?_; rintro e w2 ⟨⟨y, t, rfl, hCj, hW⟩, b2⟩; obtain ⟨hG, ht1, ht2⟩ := K.out t hCj; have hS := HSL.out _ _ _ _ hW; obtain ⟨og, ol, oc, rfl⟩ := own_slice hW; have SC := one_box (n : Int) (.slice og ol oc) w2; have b3 := Below.next b2 (balloc w2 (.cells #[.int .i64 (n : Int), .slice og ol oc] 27)); have d3 := Below.next d1 b3; have s3 := Below.next b1 b3; have hS3 := hS.alloc (.cells #[.int .i64 (n : Int), .slice og ol oc] 27); have E1 := HC.out t _ _ hG hS3; have HSC : Hid (∀ W, Below (w2.alloc (.cells #[.int .i64 (n : Int), .slice og ol oc] 27)).heap.size (w2.alloc (.cells #[.int .i64 (n : Int), .slice og ol oc] 27)) W → W.cell? ⟨w2.heap.size, 0, none⟩ = some (.int .i64 (n : Int)) ∧ W.cell? ⟨w2.heap.size, 1, none⟩ = some (.slice og ol oc) ∧ W.rangeAt w2.heap.size 0 [.int .i64 (n : Int), .slice og ol oc]) := SC; have HG : Hid (GoodS n ((flN n t (n * n)).map Int.ofNat) ∧ trN n (sq n ((flN n t (n * n)).map Int.ofNat)) = q ∧ icN n (sq n ((flN n t (n * n)).map Int.ofNat)) = p) := ⟨hG, ht1, ht2⟩; clear C1 SC hCj hW hG ht1 ht2 K)
          | (go_at_call 9; refine E1.mono ?_; rintro e w4 ⟨rfl, b4⟩; obtain ⟨u0, u1, _⟩ := SS.out _ (Below.next s3 b4); have d4 := Below.next d3 b4; clear E1)
          | (go_at_call 10; refine (C3 _ d4).mono ?_; rintro e w5 ⟨rfl, b5⟩; have c5 := Below.next b4 b5; obtain ⟨q0, q1, _⟩ := HSC.out _ c5; have E2 := HI.out t _ _ HG.out.2.2 HG.out.1 (hS3.below c5); have d5 := Below.next d4 b5; clear C3)
          | (go_at_call 10; refine E2.mono ?_; rintro e w6 ⟨rfl, b6⟩; have c6 := Below.next c5 b6; obtain ⟨r0, r1, _⟩ := SS.out _ (Below.next s3 c6); have d6 := Below.next d5 b6; clear E2)
          | (go_at_call 11; refine (C4 _ d6).mono ?_; rintro e w7 ⟨rfl, b7⟩; have c7 := Below.next c6 b7; obtain ⟨t0, t1, _⟩ := HSC.out _ c7; have E3 := HTR.out t _ _ HG.out.2.1 HG.out.1 (hS3.below c7); have d7 := Below.next d6 b7; clear C4)
          | (go_at_call 11; refine E3.mono ?_; rintro e w8 ⟨rfl, b8⟩; have d8 := Below.next d7 b8; clear E3))
        go_ret
        exact ⟨rfl, d8⟩
      · obtain rfl : n = 8 := by have := G.le; omega
        have C4 := fun W (b : Below w.heap.size w W) => Transversals_full L v W (hv.below b) G
        have HTR : Hid (∀ t y W, GoodS 8 ((flN 8 t (8 * 8)).map Int.ofNat) → Sl W y ((flN 8 t (8 * 8)).map Int.ofNat) → Calls Tryd.prog 11 #[.agg #[.int .i64 8, y]] W fun e w' => e = .returned (.tuple #[.int .i64 0, .int .i64 3]) ∧ Below W.heap.size W w') := fun t y W hG hS => Transversals_full _ y W hS hG
        generalize icN 8 (sq 8 L) = p at *
        have e2 := nbn p
        clear hv G h hk hO h7
        go_enter Tryd.func4, Tryd.ntmps4
        go_wp2_with (first
          | (go_at_call 5; refine C0.mono ?_; rintro e w1 ⟨rfl, b1⟩; obtain ⟨x0, x1, _⟩ := SS.out _ b1; have d1 := Below.next hb0 b1; clear C0)
          | (go_at_call 8; refine (C1 _ d1).mono ?_; rintro e w2 ⟨⟨y, t, rfl, hCj, hW⟩, b2⟩; obtain ⟨hG, ht1, ht2⟩ := K.out t hCj; have hS := HSL.out _ _ _ _ hW; obtain ⟨og, ol, oc, rfl⟩ := own_slice hW; have SC := one_box (8 : Int) (.slice og ol oc) w2; have b3 := Below.next b2 (balloc w2 (.cells #[.int .i64 8, .slice og ol oc] 27)); have d3 := Below.next d1 b3; have s3 := Below.next b1 b3; have hS3 := hS.alloc (.cells #[.int .i64 8, .slice og ol oc] 27); have E1 := HC.out t _ _ hG hS3; have HSC : Hid (∀ W, Below (w2.alloc (.cells #[.int .i64 8, .slice og ol oc] 27)).heap.size (w2.alloc (.cells #[.int .i64 8, .slice og ol oc] 27)) W → W.cell? ⟨w2.heap.size, 0, none⟩ = some (.int .i64 8) ∧ W.cell? ⟨w2.heap.size, 1, none⟩ = some (.slice og ol oc) ∧ W.rangeAt w2.heap.size 0 [.int .i64 8, .slice og ol oc]) := SC; have HG : Hid (GoodS 8 ((flN 8 t (8 * 8)).map Int.ofNat) ∧ icN 8 (sq 8 ((flN 8 t (8 * 8)).map Int.ofNat)) = p) := ⟨hG, ht2⟩; clear C1 SC hCj hW hG ht1 ht2 K)
          | (go_at_call 9; refine E1.mono ?_; rintro e w4 ⟨rfl, b4⟩; obtain ⟨u0, u1, _⟩ := SS.out _ (Below.next s3 b4); have d4 := Below.next d3 b4; clear E1)
          | (go_at_call 10; refine (C3 _ d4).mono ?_; rintro e w5 ⟨rfl, b5⟩; have c5 := Below.next b4 b5; obtain ⟨q0, q1, _⟩ := HSC.out _ c5; have E2 := HI.out t _ _ HG.out.2 HG.out.1 (hS3.below c5); have d5 := Below.next d4 b5; clear C3)
          | (go_at_call 10; refine E2.mono ?_; rintro e w6 ⟨rfl, b6⟩; have c6 := Below.next c5 b6; obtain ⟨r0, r1, _⟩ := SS.out _ (Below.next s3 c6); have d6 := Below.next d5 b6; clear E2)
          | (go_at_call 11; refine (C4 _ d6).mono ?_; rintro e w7 ⟨rfl, b7⟩; have c7 := Below.next c6 b7; obtain ⟨t0, t1, _⟩ := HSC.out _ c7; have E3 := HTR.out t _ _ HG.out.1 (hS3.below c7); have d7 := Below.next d6 b7; clear C4)
          | (go_at_call 11; refine E3.mono ?_; rintro e w8 ⟨rfl, b8⟩; have d8 := Below.next d7 b8; clear E3))
        go_ret
        exact ⟨rfl, d8⟩
  · have C1 := fun W (b : Below w.heap.size w W) => Conjugate_bad s k L v W (hv.below b) hL h
    have hz : ((lF s L : Int) != 0) = true := by simp; omega
    generalize lF s L = z at *
    clear hv h hO
    go_enter Tryd.func4, Tryd.ntmps4
    go_wp2_with (first
      | (go_at_call 5; refine C0.mono ?_; rintro e w1 ⟨rfl, b1⟩; obtain ⟨x0, x1, _⟩ := SS.out _ b1; have d1 := Below.next hb0 b1)
      | (go_at_call 8; refine (C1 _ d1).mono ?_; rintro e w2 ⟨rfl, b2⟩; have d2 := Below.next d1 b2))
    go_ret
    exact ⟨rfl, Below.next d2 (balloc _ _)⟩
end Go.Proofs.YtagpbkcnjogbgabDoor
