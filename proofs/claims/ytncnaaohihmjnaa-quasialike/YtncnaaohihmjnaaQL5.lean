/- The law QuasiAlike, walked. -/
import Derived.Test.YtncnaaohihmjnaaQ13
import Derived.Test.YtncnaaohihmjnaaQ15
import Derived.Test.YtncnaaohihmjnaaP14
namespace Go.Proofs.Ytncnaaohihmjnaa
open Go.RowKit

theorem ints_eq (l : List Int) (v u : Value) (w : World) (hl : Sl w v l) (hm : Sl w u l) (hll : l.length ≤ 100) :
    Calls Try.prog 24 #[v, u] w fun e w' => e = .returned (.bool true) ∧ Below w.heap.size w w' := by
  refine (ints_any l l v u w hl hm (by unfold maxLen; omega) (by unfold maxLen; omega)).mono ?_
  rintro e w' ⟨b, rfl, hb, k⟩
  rw [hb.2 rfl]
  exact ⟨rfl, k⟩
theorem iself (z : Int) : (z == z) = true := by simp
set_option maxRecDepth 100000 in
set_option maxHeartbeats 16000000 in
theorem QuasiAlike_law (s t : Int) (L M : List Int) (u v : Value) (w : World) (hu : Sl w u L) (hv : Sl w v M) (hL : L.length ≤ maxLen) (hM : M.length ≤ maxLen) :
    Calls Try.prog 5 #[.agg #[.int .i64 s, u], .agg #[.int .i64 t, v]] w fun e w' => e = .returned (.bool true) ∧ Below w.heap.size w w' := by
  obtain ⟨w0, Hw0⟩ : ∃ w0, Hid (w0 = (w.alloc (.cells #[.int .i64 s, u] 24)).alloc (.cells #[.int .i64 t, v] 24)) := ⟨_, rfl⟩
  have HB0 : Hid (Below w.heap.size w w0) := by rw [Hw0.out]; exact two_below w _ _
  have HC : Hid (∀ W, Below w0.heap.size w0 W → W.cell? ⟨w.heap.size, 0, none⟩ = some (.int .i64 s) ∧ W.cell? ⟨w.heap.size, 1, none⟩ = some u ∧ W.cell? ⟨w.heap.size + 1, 0, none⟩ = some (.int .i64 t) ∧ W.cell? ⟨w.heap.size + 1, 1, none⟩ = some v) := by rw [Hw0.out]; exact two_sqs s t u v w
  have C1 := fun W (b : Below w0.heap.size w0 W) => LatinFault_any s L u W (hu.below (Below.next HB0.out b)) hL
  have C2 := fun W (b : Below w0.heap.size w0 W) => LatinFault_any t M v W (hv.below (Below.next HB0.out b)) hM
  have C3 := fun W (b : Below w0.heap.size w0 W) => Alike_any s t L M u v W (hu.below (Below.next HB0.out b)) (hv.below (Below.next HB0.out b)) hL hM
  have HU : Hid (Sl w u L) := hu
  have HV : Hid (Sl w v M) := hv
  obtain ⟨ua, uc, rfl, _⟩ := id hu
  obtain ⟨va, vc, rfl, _⟩ := id hv
  have r0 : Below w0.heap.size w0 w0 := Below.refl _ _
  clear hu hv
  by_cases h : lF s L = 0
  · rw [h] at C1
    by_cases h' : lF t M = 0
    · rw [h'] at C2
      obtain ⟨n, rfl, G1⟩ := lF_ok h
      by_cases hst : (n : Int) = t
      · subst hst
        obtain ⟨n', en, G2⟩ := lF_ok h'
        obtain rfl : n = n' := by omega
        have hne : ((n : Int) != (n : Int)) = false := by simp
        by_cases h6 : n ≤ 6
        · have hd6 : decide ((6 : Int) < (n : Int)) = false := decide_eq_false (by omega)
          have HA : aF n n L M = 0 := by unfold aF; rw [if_neg (by omega), if_neg (by omega), if_neg (by simp), if_neg (by omega)]
          have C4 := fun W (b : Below w0.heap.size w0 W) => AlikeOf_any n L M _ _ W h6 (HU.out.below (Below.next HB0.out b)) (HV.out.below (Below.next HB0.out b)) G1 G2
          have hnn : ((n : Int)).toNat = n := by omega
          cases ho : alK n (sq n L) (sq n M) with
          | some k =>
            have D3 : ∀ W, Below w0.heap.size w0 W → Calls Try.prog 22 #[.agg #[.int .i64 (n : Int), .slice ua L.length uc], .agg #[.int .i64 (n : Int), .slice va M.length vc]] W fun e w' => (∃ xa xc, e = .returned (.tuple #[.slice xa n xc, .int .i64 0]) ∧ Sl w' (.slice xa n xc) (pl n (un n k))) ∧ Below W.heap.size W w' := fun W b => by
              refine (C3 W b).mono ?_
              rintro e w' ⟨⟨x, z, rfl, hA⟩, b'⟩
              refine ⟨?_, b'⟩
              unfold AlIs at hA
              rw [HA, hnn, ho] at hA
              rcases hA with ⟨h, _⟩ | ⟨_, ⟨k', e1, rfl, hS⟩ | ⟨e1, _⟩⟩
              · exact (h rfl).elim
              · obtain rfl := Option.some.inj e1
                obtain ⟨xa, xc, rfl⟩ := sl_len hS (pl_len n _)
                exact ⟨xa, xc, rfl, hS⟩
              · cases e1
            have D4 : ∀ W, Below w0.heap.size w0 W → Calls Try.prog 23 #[.agg #[.int .i64 (n : Int), .slice ua L.length uc], .agg #[.int .i64 (n : Int), .slice va M.length vc]] W fun e w' => (∃ xa xc, e = .returned (.tuple #[.slice xa n xc, .int .i64 0]) ∧ Sl w' (.slice xa n xc) (pl n (un n k))) ∧ Below W.heap.size W w' := fun W b => by
              refine (C4 W b).mono ?_
              rintro e w' ⟨⟨x, z, rfl, hA⟩, b'⟩
              refine ⟨?_, b'⟩
              rw [ho] at hA
              rcases hA with ⟨k', e1, rfl, hS⟩ | ⟨e1, _⟩
              · obtain rfl := Option.some.inj e1
                obtain ⟨xa, xc, rfl⟩ := sl_len hS (pl_len n _)
                exact ⟨xa, xc, rfl, hS⟩
              · cases e1
            have I := fun a b W (ha : Sl W a (pl n (un n k))) (hb : Sl W b (pl n (un n k))) => ints_eq _ a b W ha hb (by rw [pl_len]; omega)
            generalize L.length = ul at *
            generalize M.length = vl at *
            clear C3 C4 G1 G2 ho HA h h' HU HV en
            go_enter Try.func5, Try.ntmps5
            go_wp2_with (first
              | (go_at_call 8; rw [← Hw0.out]; refine (C1 _ r0).mono ?_; rintro e w1 ⟨rfl, b1⟩; obtain ⟨x0, x1, x2, x3⟩ := HC.out _ b1; clear C1)
              | (go_at_call 8; refine (C2 _ b1).mono ?_; rintro e w2 ⟨rfl, b2⟩; have d2 := Below.next b1 b2; obtain ⟨y0, y1, y2, y3⟩ := HC.out _ d2; clear C2)
              | (go_at_call 22; refine (D3 _ d2).mono ?_; rintro e w3 ⟨⟨pa, pc, rfl, hp⟩, b3⟩; have d3 := Below.next d2 b3; obtain ⟨z0, z1, z2, z3⟩ := HC.out _ d3; have HPP : Hid (Sl w3 (.slice pa n pc) (pl n (un n k))) := hp; clear D3 hp)
              | (go_at_call 23; refine (D4 _ d3).mono ?_; rintro e w4 ⟨⟨qa, qc, rfl, hq⟩, b4⟩; have d4 := Below.next d3 b4; have E := I _ _ w4 (HPP.out.below b4) hq; clear D4 hq)
              | (go_at_call 24; refine E.mono ?_; rintro e w5 ⟨rfl, b5⟩; have d5 := Below.next d4 b5; clear E))
            go_ret
            exact ⟨rfl, Below.next HB0.out d5⟩
          | none =>
            have D3 : ∀ W, Below w0.heap.size w0 W → Calls Try.prog 22 #[.agg #[.int .i64 (n : Int), .slice ua L.length uc], .agg #[.int .i64 (n : Int), .slice va M.length vc]] W fun e w' => e = .returned (.tuple #[.slice none 0 0, .int .i64 4]) ∧ Below W.heap.size W w' := fun W b => by
              refine (C3 W b).mono ?_
              rintro e w' ⟨⟨x, z, rfl, hA⟩, b'⟩
              refine ⟨?_, b'⟩
              unfold AlIs at hA
              rw [HA, hnn, ho] at hA
              rcases hA with ⟨h, _⟩ | ⟨_, ⟨k', e1, _⟩ | ⟨_, rfl, rfl⟩⟩
              · exact (h rfl).elim
              · cases e1
              · rfl
            have D4 : ∀ W, Below w0.heap.size w0 W → Calls Try.prog 23 #[.agg #[.int .i64 (n : Int), .slice ua L.length uc], .agg #[.int .i64 (n : Int), .slice va M.length vc]] W fun e w' => e = .returned (.tuple #[.slice none 0 0, .int .i64 4]) ∧ Below W.heap.size W w' := fun W b => by
              refine (C4 W b).mono ?_
              rintro e w' ⟨⟨x, z, rfl, hA⟩, b'⟩
              refine ⟨?_, b'⟩
              rw [ho] at hA
              rcases hA with ⟨k', e1, _⟩ | ⟨_, rfl, rfl⟩
              · cases e1
              · rfl
            have I := fun W => ints_eq [] (.slice none 0 0) (.slice none 0 0) W (Sl.nil W) (Sl.nil W) (by simp)
            generalize L.length = ul at *
            generalize M.length = vl at *
            clear C3 C4 G1 G2 ho HA h h' HU HV en
            go_enter Try.func5, Try.ntmps5
            go_wp2_with (first
              | (go_at_call 8; rw [← Hw0.out]; refine (C1 _ r0).mono ?_; rintro e w1 ⟨rfl, b1⟩; obtain ⟨x0, x1, x2, x3⟩ := HC.out _ b1; clear C1)
              | (go_at_call 8; refine (C2 _ b1).mono ?_; rintro e w2 ⟨rfl, b2⟩; have d2 := Below.next b1 b2; obtain ⟨y0, y1, y2, y3⟩ := HC.out _ d2; clear C2)
              | (go_at_call 22; refine (D3 _ d2).mono ?_; rintro e w3 ⟨rfl, b3⟩; have d3 := Below.next d2 b3; obtain ⟨z0, z1, z2, z3⟩ := HC.out _ d3; clear D3)
              | (go_at_call 23; refine (D4 _ d3).mono ?_; rintro e w4 ⟨rfl, b4⟩; have d4 := Below.next d3 b4; clear D4)
              | (go_at_call 24; refine (I _).mono ?_; rintro e w5 ⟨rfl, b5⟩; have d5 := Below.next d4 b5; clear I))
            go_ret
            exact ⟨rfl, Below.next HB0.out d5⟩
        · have hd6 : decide ((6 : Int) < (n : Int)) = true := decide_eq_true (by omega)
          have HA : aF n n L M = 3 := by unfold aF; rw [if_neg (by omega), if_neg (by omega), if_neg (by simp), if_pos (by omega)]
          have D3 : ∀ W, Below w0.heap.size w0 W → Calls Try.prog 22 #[.agg #[.int .i64 (n : Int), .slice ua L.length uc], .agg #[.int .i64 (n : Int), .slice va M.length vc]] W fun e w' => e = .returned (.tuple #[.slice none 0 0, .int .i64 3]) ∧ Below W.heap.size W w' := fun W b => by
            refine (C3 W b).mono ?_
            rintro e w' ⟨⟨x, z, rfl, hA⟩, b'⟩
            refine ⟨?_, b'⟩
            unfold AlIs at hA
            rw [HA] at hA
            rcases hA with ⟨_, rfl, rfl⟩ | ⟨h, _⟩
            · rfl
            · cases h
          generalize L.length = ul at *
          generalize M.length = vl at *
          clear C3 G1 G2 HA h h' HU HV en
          go_enter Try.func5, Try.ntmps5
          go_wp2_with (first
            | (go_at_call 8; rw [← Hw0.out]; refine (C1 _ r0).mono ?_; rintro e w1 ⟨rfl, b1⟩; obtain ⟨x0, x1, x2, x3⟩ := HC.out _ b1; clear C1)
            | (go_at_call 8; refine (C2 _ b1).mono ?_; rintro e w2 ⟨rfl, b2⟩; have d2 := Below.next b1 b2; obtain ⟨y0, y1, y2, y3⟩ := HC.out _ d2; clear C2)
            | (go_at_call 22; refine (D3 _ d2).mono ?_; rintro e w3 ⟨rfl, b3⟩; have d3 := Below.next d2 b3; clear D3))
          go_ret
          exact ⟨rfl, Below.next HB0.out d3⟩
      · have hne : ((n : Int) != t) = true := bne_iff_ne.2 hst
        have HA : aF n t L M = 2 := by unfold aF; rw [if_neg (by omega), if_neg (by omega), if_pos hst]
        have D3 : ∀ W, Below w0.heap.size w0 W → Calls Try.prog 22 #[.agg #[.int .i64 (n : Int), .slice ua L.length uc], .agg #[.int .i64 t, .slice va M.length vc]] W fun e w' => e = .returned (.tuple #[.slice none 0 0, .int .i64 2]) ∧ Below W.heap.size W w' := fun W b => by
          refine (C3 W b).mono ?_
          rintro e w' ⟨⟨x, z, rfl, hA⟩, b'⟩
          refine ⟨?_, b'⟩
          unfold AlIs at hA
          rw [HA] at hA
          rcases hA with ⟨_, rfl, rfl⟩ | ⟨h, _⟩
          · rfl
          · cases h
        generalize L.length = ul at *
        generalize M.length = vl at *
        clear C3 G1 HA h h' HU HV hst
        go_enter Try.func5, Try.ntmps5
        go_wp2_with (first
          | (go_at_call 8; rw [← Hw0.out]; refine (C1 _ r0).mono ?_; rintro e w1 ⟨rfl, b1⟩; obtain ⟨x0, x1, x2, x3⟩ := HC.out _ b1; clear C1)
          | (go_at_call 8; refine (C2 _ b1).mono ?_; rintro e w2 ⟨rfl, b2⟩; have d2 := Below.next b1 b2; obtain ⟨y0, y1, y2, y3⟩ := HC.out _ d2; clear C2)
          | (go_at_call 22; refine (D3 _ d2).mono ?_; rintro e w3 ⟨rfl, b3⟩; have d3 := Below.next d2 b3; clear D3))
        go_ret
        exact ⟨rfl, Below.next HB0.out d3⟩
    · have HA : aF s t L M = lF t M := by unfold aF; rw [if_neg (by omega), if_pos h']
      have D3 : ∀ W, Below w0.heap.size w0 W → Calls Try.prog 22 #[.agg #[.int .i64 s, .slice ua L.length uc], .agg #[.int .i64 t, .slice va M.length vc]] W fun e w' => e = .returned (.tuple #[.slice none 0 0, .int .i64 (lF t M : Int)]) ∧ Below W.heap.size W w' := fun W b => by
        refine (C3 W b).mono ?_
        rintro e w' ⟨⟨x, z, rfl, hA⟩, b'⟩
        refine ⟨?_, b'⟩
        unfold AlIs at hA
        rw [HA] at hA
        rcases hA with ⟨_, rfl, rfl⟩ | ⟨h, _⟩
        · rfl
        · exact (h' h).elim
      have hz0 : (lF t M : Int) ≠ 0 := by omega
      obtain ⟨z, hz⟩ : ∃ z : Int, z = (lF t M : Int) := ⟨_, rfl⟩
      rw [← hz] at C2 D3 hz0
      have e0 : (z == 0) = false := beq_eq_false_iff_ne.2 hz0
      have e1 : (z != 0) = true := bne_iff_ne.2 hz0
      have e3 := iself z
      generalize L.length = ul at *
      generalize M.length = vl at *
      clear C3 HA h h' HU HV hz hz0
      go_enter Try.func5, Try.ntmps5
      go_wp2_with (first
        | (go_at_call 8; rw [← Hw0.out]; refine (C1 _ r0).mono ?_; rintro e w1 ⟨rfl, b1⟩; obtain ⟨x0, x1, x2, x3⟩ := HC.out _ b1; clear C1)
        | (go_at_call 8; refine (C2 _ b1).mono ?_; rintro e w2 ⟨rfl, b2⟩; have d2 := Below.next b1 b2; obtain ⟨y0, y1, y2, y3⟩ := HC.out _ d2; clear C2)
        | (go_at_call 22; refine (D3 _ d2).mono ?_; rintro e w3 ⟨rfl, b3⟩; have d3 := Below.next d2 b3; clear D3))
      go_ret
      exact ⟨rfl, Below.next HB0.out d3⟩
  · have HA : aF s t L M = lF s L := by unfold aF; rw [if_pos h]
    have D3 : ∀ W, Below w0.heap.size w0 W → Calls Try.prog 22 #[.agg #[.int .i64 s, .slice ua L.length uc], .agg #[.int .i64 t, .slice va M.length vc]] W fun e w' => e = .returned (.tuple #[.slice none 0 0, .int .i64 (lF s L : Int)]) ∧ Below W.heap.size W w' := fun W b => by
      refine (C3 W b).mono ?_
      rintro e w' ⟨⟨x, z, rfl, hA⟩, b'⟩
      refine ⟨?_, b'⟩
      unfold AlIs at hA
      rw [HA] at hA
      rcases hA with ⟨_, rfl, rfl⟩ | ⟨h', _⟩
      · rfl
      · exact (h h').elim
    have hz0 : (lF s L : Int) ≠ 0 := by omega
    obtain ⟨z, hz⟩ : ∃ z : Int, z = (lF s L : Int) := ⟨_, rfl⟩
    rw [← hz] at C1 D3 hz0
    have e0 : (z == 0) = false := beq_eq_false_iff_ne.2 hz0
    have e1 : (z != 0) = true := bne_iff_ne.2 hz0
    have e3 := iself z
    generalize L.length = ul at *
    generalize M.length = vl at *
    clear C2 C3 HA h HU HV hz hz0
    go_enter Try.func5, Try.ntmps5
    go_wp2_with (first
      | (go_at_call 8; rw [← Hw0.out]; refine (C1 _ r0).mono ?_; rintro e w1 ⟨rfl, b1⟩; obtain ⟨x0, x1, x2, x3⟩ := HC.out _ b1; clear C1)
      | (go_at_call 22; refine (D3 _ b1).mono ?_; rintro e w3 ⟨rfl, b3⟩; have d3 := Below.next b1 b3; clear D3))
    go_ret
    exact ⟨rfl, Below.next HB0.out d3⟩
end Go.Proofs.Ytncnaaohihmjnaa
