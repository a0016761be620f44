/- The walk of the document's AlikeOf. -/
import Derived.Test.YtncnaaohihmjnaaQ14
namespace Go.Proofs.Ytncnaaohihmjnaa
open Go.RowKit

set_option maxRecDepth 100000 in
set_option maxHeartbeats 16000000 in
theorem AlikeOf_any (n : Nat) (L M : List Int) (u v : Value) (w : World) (hn : n ≤ 6) (hu : Sl w u L) (hv : Sl w v M) (G1 : GoodS n L) (G2 : GoodS n M) :
    Calls Try.prog 23 #[.agg #[.int .i64 (n : Int), u], .agg #[.int .i64 (n : Int), v]] w fun e w' => (∃ x z, e = .returned (.tuple #[x, .int .i64 z]) ∧ ((∃ k, alK n (sq n L) (sq n M) = some k ∧ z = 0 ∧ Sl w' x (pl n (un n k))) ∨ (alK n (sq n L) (sq n M) = none ∧ z = 4 ∧ x = .slice none 0 0))) ∧ Below w.heap.size w w' := by
  have h8 := G1.le
  have h1 := G1.pos
  obtain ⟨w0, Hw0⟩ : ∃ w0, Hid (w0 = (w.alloc (.cells #[.int .i64 (n : Int), u] 24)).alloc (.cells #[.int .i64 (n : Int), v] 24)) := ⟨_, rfl⟩
  have HB0 : Hid (Below w.heap.size w w0) := by rw [Hw0.out]; exact two_below w _ _
  have HC : Hid (∀ W, Below w0.heap.size w0 W → W.cell? ⟨w.heap.size, 0, none⟩ = some (.int .i64 (n : Int)) ∧ W.cell? ⟨w.heap.size, 1, none⟩ = some u ∧ W.cell? ⟨w.heap.size + 1, 0, none⟩ = some (.int .i64 (n : Int)) ∧ W.cell? ⟨w.heap.size + 1, 1, none⟩ = some v) := by rw [Hw0.out]; exact two_sqs n n u v w
  obtain ⟨Z, hZ⟩ : ∃ Z, Z = fac n := ⟨_, rfl⟩
  have HZ : Hid (Z = fac n) := hZ
  have hZ7 : Z ≤ 720 := by rw [hZ]; exact fac_six hn
  have F := fun W => Factorial_any n W (by omega)
  rw [← hZ] at F
  have U1 : Hid (∀ k W, k < Z → Calls Try.prog 44 #[.int .i64 (n : Int), .int .i64 (k : Int)] W fun e w' => ∃ x, e = .returned (.tuple #[x, .int .i64 0]) ∧ Sl w' x (pl n (un n k)) ∧ Below W.heap.size W w') := fun k W hk => by
    have := PermOfRank_ok n k W (by omega) (by rw [← HZ.out]; exact hk)
    rw [unr_pl] at this
    exact this
  have R : Hid (∀ k W x, k < Z → Below w0.heap.size w0 W → Sl W x (pl n (un n k)) → Calls Try.prog 28 #[.agg #[.int .i64 (n : Int), u], .agg #[.int .i64 (n : Int), v], x] W fun e w' => e = .returned (.bool (rnB n (sq n L) (sq n M) (un n k))) ∧ Below W.heap.size W w') := fun k W x hk b hx =>
    Renames_any n (un n k) L M u v x W _ (hu.below (Below.next HB0.out b)) (hv.below (Below.next HB0.out b)) hx G1 G2 (un_pm (by rw [← HZ.out]; exact hk)).lt rfl
  generalize sq n L = s at *
  generalize sq n M = t at *
  have HN : Hid (∀ r, r ≤ Z → (∀ k, k < r → rnB n s t (un n k) = false) → (r = Z → alK n s t = none) ∧ (r < Z → rnB n s t (un n r) = true → alK n s t = some r)) := fun r hr hk => ⟨fun e => by
    subst e
    unfold alK
    rw [← HZ.out]
    exact fst_none hk, fun hlt e => by
    unfold alK
    rw [← HZ.out]
    exact fst_at hlt e hk⟩
  obtain ⟨ua, uc, rfl, _⟩ := id hu
  obtain ⟨va, vc, rfl, _⟩ := id hv
  generalize L.length = ul at *
  generalize M.length = vl at *
  obtain ⟨x0, x1, x2, x3⟩ := HC.out _ (Below.refl _ _)
  rw [Hw0.out] at x0 x1 x2 x3
  clear hu hv G1 G2 hZ HZ
  go_enter Try.func23, Try.ntmps23
  go_wp2_with (go_at_call 43; refine (F _).mono ?_; rintro e wf ⟨rfl, hw⟩; replace hw := hw.symm; subst hw; clear F)
  go_loopw [7] (fun i wr => ∃ r : Nat, i = .int .i64 (r : Int) ∧ r ≤ Z ∧ Hid (∀ k, k < r → rnB n s t (un n k) = false) ∧ Below w0.heap.size w0 wr) (fun i _ => (Z - intOf i).toNat)
  case atStart => exact ⟨0, rfl, by omega, (show ∀ k, k < 0 → _ from fun k h => by omega), by rw [Hw0.out]; exact Below.refl _ _⟩
  case round =>
    clear x0 x1 x2 x3
    obtain ⟨r, rfl, hr, HR, hB⟩ := hrel
    obtain ⟨x0, x1, x2, x3⟩ := HC.out _ hB
    by_cases hlt : r < Z
    · have hdr : decide ((r : Int) < (Z : Int)) = true := by simp; omega
      have D1 := U1.out r wr hlt
      have hfix := (HN.out r hr HR.out).2 hlt
      cases hq : rnB n s t (un n r) with
      | true =>
        have HAL : Hid (alK n s t = some r) := hfix hq
        clear hfix
        go_wp2_with (first
          | (go_at_call 44; refine D1.mono ?_; rintro e w1 ⟨x, rfl, hx, b1⟩; have HX : Hid (Sl w1 x (pl n (un n r))) := hx; obtain ⟨xa, xc, rfl⟩ := sl_len hx (pl_len n _); clear hx; have hB1 := Below.next hB b1; obtain ⟨y0, y1, y2, y3⟩ := HC.out _ hB1; have E := R.out r w1 _ hlt hB1 HX.out; rw [hq] at E; clear D1)
          | (go_at_call 28; refine E.mono ?_; rintro e w2 ⟨rfl, b2⟩; have hB2 := Below.next hB1 b2; have HX2 : Hid (Sl w2 (.slice xa n xc) (pl n (un n r))) := HX.out.below b2; clear E))
        go_ret2
        exact ⟨⟨_, _, rfl, .inl ⟨r, HAL.out, rfl, HX2.out⟩⟩, Below.next HB0.out hB2⟩
      | false =>
        have HR2 : Hid (∀ k, k < r + 1 → rnB n s t (un n k) = false) := fun k hk => by
          by_cases e : k = r
          · subst e; exact hq
          · exact HR.out k (by omega)
        clear hfix
        go_wp2_with (first
          | (go_at_call 44; refine D1.mono ?_; rintro e w1 ⟨x, rfl, hx, b1⟩; have HX : Hid (Sl w1 x (pl n (un n r))) := hx; obtain ⟨xa, xc, rfl⟩ := sl_len hx (pl_len n _); clear hx; have hB1 := Below.next hB b1; obtain ⟨y0, y1, y2, y3⟩ := HC.out _ hB1; have E := R.out r w1 _ hlt hB1 HX.out; rw [hq] at E; clear D1)
          | (go_at_call 28; refine E.mono ?_; rintro e w2 ⟨rfl, b2⟩; have hB2 := Below.next hB1 b2; clear E))
        go_roundw
        case rel => exact ⟨r + 1, by go_num, by omega, HR2, hB2⟩
        case measure => simp [intOf]; omega
    · have hdr : decide ((r : Int) < (Z : Int)) = false := by simp; omega
      obtain rfl : r = Z := by omega
      have HAL : Hid (alK n s t = none) := (HN.out r hr HR.out).1 rfl
      go_wp2
      go_ret2
      exact ⟨⟨_, _, rfl, .inr ⟨HAL.out, rfl, rfl⟩⟩, Below.next HB0.out hB⟩
end Go.Proofs.Ytncnaaohihmjnaa
