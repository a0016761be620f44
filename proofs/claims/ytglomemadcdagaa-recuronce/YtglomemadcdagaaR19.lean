/- The walks of Full and FullOf, and the law RecurFull: the first taps of the longest period. -/
import Derived.Test.YtglomemadcdagaaR36
import Derived.Test.YtglomemadcdagaaR30
import Derived.Test.YtglomemadcdagaaR15
import Derived.Test.YtglomemadcdagaaR14
namespace Go.Proofs.Ytglomemadcdagaa
open Go.RowKit

/-- What Full tells ahead of looking. -/
def fullZ (p k : Int) : Int := if smB p = false ∨ k < 1 then 1 else if 8 < k ∨ 2000 < p.toNat ^ k.toNat then 3 else 0

set_option maxHeartbeats 2000000 in
theorem Full_bad (p k : Int) (w : World) (z : Int) (hz : fullZ p k = z) (hz0 : z ≠ 0) :
    Calls Try.prog 19 #[.int .i64 p, .int .i64 k] w fun e w' => e = .returned (.tuple #[.slice none 0 0, .int .i64 z]) ∧ w' = w := by
  by_cases h1 : smB p = false
  · have e : z = 1 := by rw [← hz]; unfold fullZ; rw [if_pos (.inl h1)]
    subst e
    go_enter Try.func19, Try.ntmps19
    go_wp2_with (first | (go_at_call 31; refine (isPrime_any p _).mono ?_; rw [h1]; rintro e w' ⟨rfl, hw⟩; replace hw := hw.symm; subst hw))
    go_ret2
    exact ⟨rfl, rfl⟩
  · have h1' : smB p = true := by simpa using h1
    by_cases h2 : k < 1
    · have e : z = 1 := by rw [← hz]; unfold fullZ; rw [if_pos (.inr h2)]
      subst e
      have hd : decide (k < 1) = true := by simpa using h2
      go_enter Try.func19, Try.ntmps19
      go_wp2_with (first | (go_at_call 31; refine (isPrime_any p _).mono ?_; rw [h1']; rintro e w' ⟨rfl, hw⟩; replace hw := hw.symm; subst hw))
      go_ret2
      exact ⟨rfl, rfl⟩
    · have hd : decide (k < 1) = false := by simpa using h2
      have h3 : 8 < k ∨ 2000 < p.toNat ^ k.toNat := by
        by_cases h3 : 8 < k ∨ 2000 < p.toNat ^ k.toNat
        · exact h3
        · exact absurd (hz.symm.trans (by unfold fullZ; rw [if_neg (by simp [h1', h2]), if_neg h3])) hz0
      have e : z = 3 := by rw [← hz]; unfold fullZ; rw [if_neg (by simp [h1', h2]), if_pos h3]
      subst e
      by_cases h8 : 8 < k
      · have hd8 : decide ((8 : Int) < k) = true := by simpa using h8
        clear h3
        go_enter Try.func19, Try.ntmps19
        go_wp2_with (first | (go_at_call 31; refine (isPrime_any p _).mono ?_; rw [h1']; rintro e w' ⟨rfl, hw⟩; replace hw := hw.symm; subst hw))
        go_ret2
        exact ⟨rfl, rfl⟩
      · have hd8 : decide ((8 : Int) < k) = false := by simpa using h8
        have hpb := smB_bd h1'
        obtain ⟨P, rfl⟩ := Int.eq_ofNat_of_zero_le (show 0 ≤ p by omega)
        obtain ⟨K, rfl⟩ := Int.eq_ofNat_of_zero_le (show 0 ≤ k by omega)
        rw [Int.toNat_natCast, Int.toNat_natCast] at h3
        obtain ⟨q, Hq⟩ : ∃ q : Nat, Hid (q = P ^ K) := ⟨_, rfl⟩
        have C := power_any P K w (by omega) (by omega) (by omega)
        rw [show (P : Int) ^ K = (q : Int) by rw [Hq.out, Int.natCast_pow]] at C
        rw [← Hq.out] at h3
        have hdq : decide ((2000 : Int) < (q : Int)) = true := by simp; omega
        clear h3 hz hpb
        go_enter Try.func19, Try.ntmps19
        go_wp2_with (first
          | (go_at_call 31; refine (isPrime_any _ _).mono ?_; rw [h1']; rintro e w' ⟨rfl, hw⟩; replace hw := hw.symm; subst hw)
          | (go_at_call 35; refine C.mono ?_; rintro e w' ⟨rfl, hw⟩; replace hw := hw.symm; subst hw))
        go_ret2
        exact ⟨rfl, rfl⟩

set_option maxHeartbeats 4000000 in
theorem Full_ok (P k Q : Nat) (w : World) (hs : smB (P : Int) = true) (hk1 : 1 ≤ k) (hk : k ≤ 8) (HQ : Hid (Q = P ^ k)) (hQ : Q ≤ 2000) :
    Calls Try.prog 19 #[.int .i64 (P : Int), .int .i64 (k : Int)] w fun e w' => ∃ (u : Value) (s : List Int) (z : Int), e = .returned (.tuple #[u, .int .i64 z]) ∧ Sl w' u s ∧ FullIs P k Q s z ∧ Below w.heap.size w w' := by
  have hpb := smB_bd hs
  have hp : 2 ≤ P := by omega
  have hp' : P ≤ 7 := by omega
  have hQ1 : 1 ≤ Q := by rw [HQ.out]; exact Nat.pow_pos (by omega)
  have C1 : ∀ A, Calls Try.prog 35 #[.int .i64 (P : Int), .int .i64 (k : Int)] A fun e B => e = .returned (.int .i64 (Q : Int)) ∧ B = A := by
    intro A
    have C := power_any P k A hp hp' hk
    rw [show (P : Int) ^ k = (Q : Int) by rw [HQ.out, Int.natCast_pow]] at C; exact C
  obtain ⟨f0, Hf0⟩ : ∃ f : Int, Hid (f = (P : Int) ^ (k - 1)) := ⟨_, rfl⟩
  obtain ⟨km, Hkm⟩ : ∃ x : Int, Hid (x = (k : Int) - 1) := ⟨_, rfl⟩
  have hkm : (k : Int) - 1 = km := Hkm.out.symm
  have hkmb : 0 ≤ km ∧ km ≤ 8 := by omega
  have C2 : ∀ A, Calls Try.prog 35 #[.int .i64 (P : Int), .int .i64 km] A fun e B => e = .returned (.int .i64 f0) ∧ B = A := by
    intro A
    have C := power_any P (k - 1) A hp hp' (by omega)
    rw [← Hf0.out, show ((k - 1 : Nat) : Int) = km by omega] at C; exact C
  have C3 : ∀ A n, n < Q → Calls Try.prog 36 #[.int .i64 (n : Int), .int .i64 (P : Int), .int .i64 (k : Int)] A fun e B => ∃ g : Nat, e = .returned (.slice (some ⟨g, 0, none⟩) k k) ∧ A.heap.size ≤ g ∧ Own B g k (dgF n P) ∧ Below A.heap.size A B :=
    fun A n hn => digits_any n P k A (by omega) hp (by omega) hk1 (by omega)
  have C4 : ∀ A n g, Sl A (.slice (some ⟨g, 0, none⟩) k k) (dgL n P k) → Calls Try.prog 30 #[.agg #[.int .i64 (P : Int), .slice (some ⟨g, 0, none⟩) k k], .int .i64 f0] A fun e B => ∃ x y : Nat, e = .returned (.tuple #[.int .i64 x, .int .i64 y]) ∧ PerIs (winN P (dgL n P k) (seedL k)) x y ∧ Below A.heap.size A B := by
    intro A n g hA
    have h := period_any P Q (dgL n P k) (seedL k) _ A hp hp' (by rw [dgL_len]; exact hk1) (by rw [dgL_len]; exact hk) (dgL_bel hp) (by rw [seedL_len, dgL_len]) (seedL_bel hp) hA (by rw [dgL_len]; exact HQ.out) (by omega)
    rw [win_seed _ _ hk1 (dgL_len n P k), ← Hf0.out] at h; exact h
  have hd : decide ((k : Int) < 1) = false := by simp; omega
  have hd8 : decide ((8 : Int) < (k : Int)) = false := by simp; omega
  have hdq : decide ((2000 : Int) < (Q : Int)) = false := by simp; omega
  clear hpb
  go_enter Try.func19, Try.ntmps19
  go_wp2_with (first
    | (go_at_call 31; refine (isPrime_any _ _).mono ?_; rw [hs]; rintro e w' ⟨rfl, hw⟩; replace hw := hw.symm; subst hw)
    | (go_at_call_of 35 (Value.int .i64 km); refine (C2 _).mono ?_; rintro e w' ⟨rfl, hw⟩; replace hw := hw.symm; subst hw)
    | (go_at_call 35; refine (C1 _).mono ?_; rintro e w' ⟨rfl, hw⟩; replace hw := hw.symm; subst hw))
  go_loopw [35] (fun i wr => ∃ n : Nat, i = .int .i64 n ∧ n ≤ Q ∧ Hid (∀ m, m < n → ¬ fullAt P k Q m) ∧ Below w.heap.size w wr) (fun i _ => (Q - intOf i).toNat)
  case atStart => exact ⟨0, rfl, by omega, (fun m h => by omega : ∀ m, m < 0 → _), Below.refl _ _⟩
  case round =>
    obtain ⟨n, rfl, hn, HN, hB⟩ := hrel
    by_cases hlt : n < Q
    · have hni : (n : Int) < Q := by omega
      go_wp2_with (first
        | (go_at_call 36; refine (C3 _ n hlt).mono ?_; rintro e w1 ⟨g, rfl, hg, hO1, hb1⟩
           have hN1 := RB.made w1 0 (.slice none 0 0)
           obtain ⟨w2, Hw2⟩ : ∃ w2, Hid (w2 = (w1.alloc (.cells #[.int .i64 0, .slice none 0 0] 47)).setRow w1.heap.size #[.int .i64 (P : Int), .slice (some ⟨g, 0, none⟩) k k]) := ⟨_, rfl⟩
           have hN2 : RB w2 w1.heap.size P (.slice (some ⟨g, 0, none⟩) k k) := by rw [Hw2.out]; exact hN1.whole _ _
           have hb2 : Below w1.heap.size w1 w2 := by rw [Hw2.out]; exact bsetRow (balloc w1 _) (Nat.le_refl _) _
           have hB1 := hB.trans (hb1.mono hB.size)
           have hB2 := hB1.trans (hb2.mono hB1.size)
           have hS2 : Sl w2 (.slice (some ⟨g, 0, none⟩) k k) (dgL n P k) := (hO1.sl k).below hb2
           have R2 := C4 w2 n g hS2)
        | (refine wpList_store_row rfl 47 _ _ rfl w1.heap.size #[.int .i64 P, .slice (some ⟨g, 0, none⟩) k k] rfl rfl 47 _ hN1 inf47 rfl (one2 _ _ rfl) ?_; rw [← Hw2.out])
        | (refine wpList_load_row rfl 47 _ rfl w1.heap.size rfl 47 _ (0, 0) _ hN2 und47.choose_spec rfl inf47 ?_))
      refine R2.mono ?_
      rintro e w3 ⟨x, y, rfl, hper, hb3⟩
      have HP : Hid (PerIs (winN P (dgL n P k) (seedL k)) x y) := hper
      clear hper
      have hN3 := hN2.below hb3
      have hc3 := hN3.cells.2
      have hB3 := hB2.trans (hb3.mono hB2.size)
      have hS3 := hS2.below hb3
      by_cases hx : x = 0
      · subst hx
        by_cases hy : y = Q - 1
        · have hyd : ((y : Int) == (Q : Int) - 1) = true := by simp; omega
          have HF : Hid (fullAt P k Q n) := by show PerIs _ 0 (Q - 1); rw [← hy]; exact HP.out
          clear hy
          go_wp2
          go_ret2
          exact ⟨_, _, 0, rfl, hS3, .inl ⟨n, hlt, HF.out, HN.out, rfl, rfl⟩, hB3⟩
        · have hyd : ((y : Int) == (Q : Int) - 1) = false := by simp; omega
          have HF : Hid (¬ fullAt P k Q n) := fun h => hy (HP.out.one h).2
          clear hy
          go_wp2
          go_roundw
          case rel =>
            refine ⟨n + 1, by go_num, by omega, (fun m hm => ?_ : ∀ m, m < n + 1 → _), hB3⟩
            by_cases e : m = n
            · subst e; exact HF.out
            · exact HN.out m (by omega)
          case measure => simp [intOf]; omega
      · have hxd : ((x : Int) == 0) = false := by simp; omega
        have HF : Hid (¬ fullAt P k Q n) := fun h => hx (HP.out.one h).1
        clear hx
        go_wp2
        go_roundw
        case rel =>
          refine ⟨n + 1, by go_num, by omega, (fun m hm => ?_ : ∀ m, m < n + 1 → _), hB3⟩
          by_cases e : m = n
          · subst e; exact HF.out
          · exact HN.out m (by omega)
        case measure => simp [intOf]; omega
    · go_wp2
      go_ret2
      obtain rfl : n = Q := by omega
      exact ⟨_, [], 4, rfl, Sl.nil _, .inr ⟨HN.out, rfl, rfl⟩, hB⟩

set_option maxHeartbeats 2000000 in
theorem FullOf_bad (p k : Int) (w : World) (z : Int) (hz : fullZ p k = z) (hz0 : z ≠ 0) (hk63 : k ≤ 9223372036854775807) :
    Calls Try.prog 20 #[.int .i64 p, .int .i64 k] w fun e w' => e = .returned (.tuple #[.slice none 0 0, .int .i64 z]) ∧ w' = w := by
  by_cases h1 : smB p = false
  · have e : z = 1 := by rw [← hz]; unfold fullZ; rw [if_pos (.inl h1)]
    subst e
    go_enter Try.func20, Try.ntmps20
    go_wp2_with (first | (go_at_call 24; refine (small_any p _).mono ?_; rw [h1]; rintro e w' ⟨rfl, hw⟩; replace hw := hw.symm; subst hw))
    go_ret2
    exact ⟨rfl, rfl⟩
  · have h1' : smB p = true := by simpa using h1
    by_cases h2 : k < 1
    · have e : z = 1 := by rw [← hz]; unfold fullZ; rw [if_pos (.inr h2)]
      subst e
      have hd : decide (k < 1) = true := by simpa using h2
      go_enter Try.func20, Try.ntmps20
      go_wp2_with (first | (go_at_call 24; refine (small_any p _).mono ?_; rw [h1']; rintro e w' ⟨rfl, hw⟩; replace hw := hw.symm; subst hw))
      go_ret2
      exact ⟨rfl, rfl⟩
    · have hd : decide (k < 1) = false := by simpa using h2
      have h3 : 8 < k ∨ 2000 < p.toNat ^ k.toNat := by
        by_cases h3 : 8 < k ∨ 2000 < p.toNat ^ k.toNat
        · exact h3
        · exact absurd (hz.symm.trans (by unfold fullZ; rw [if_neg (by simp [h1', h2]), if_neg h3])) hz0
      have e : z = 3 := by rw [← hz]; unfold fullZ; rw [if_neg (by simp [h1', h2]), if_pos h3]
      subst e
      have hpb := smB_bd h1'
      obtain ⟨P, rfl⟩ := Int.eq_ofNat_of_zero_le (show 0 ≤ p by omega)
      obtain ⟨K, rfl⟩ := Int.eq_ofNat_of_zero_le (show 0 ≤ k by omega)
      rw [Int.toNat_natCast, Int.toNat_natCast] at h3
      have C := states_ref P K 2000 w (by omega) (by omega) (by omega) (by omega) (by omega)
      obtain ⟨q, Hq⟩ : ∃ q : Nat, Hid (q = statZ P K 2000) := ⟨_, rfl⟩
      rw [← Hq.out] at C
      by_cases hq : q = 0
      · subst hq
        clear h3 hz hpb
        go_enter Try.func20, Try.ntmps20
        go_wp2_with (first
          | (go_at_call 24; refine (small_any _ _).mono ?_; rw [h1']; rintro e w' ⟨rfl, hw⟩; replace hw := hw.symm; subst hw)
          | (go_at_call 22; refine C.mono ?_; rintro e w' ⟨rfl, hw⟩; replace hw := hw.symm; subst hw))
        go_ret2
        exact ⟨rfl, rfl⟩
      · have hle : P ^ K ≤ 2000 := by
          by_cases h : P ^ K ≤ 2000
          · exact h
          · exact absurd (by rw [Hq.out]; unfold statZ; rw [if_neg h]) hq
        have h8 : decide ((8 : Int) < (K : Int)) = true := by simp; omega
        have hqd : ((q : Int) == 0) = false := by simp; omega
        clear h3 hz hpb hle
        go_enter Try.func20, Try.ntmps20
        go_wp2_with (first
          | (go_at_call 24; refine (small_any _ _).mono ?_; rw [h1']; rintro e w' ⟨rfl, hw⟩; replace hw := hw.symm; subst hw)
          | (go_at_call 22; refine C.mono ?_; rintro e w' ⟨rfl, hw⟩; replace hw := hw.symm; subst hw))
        go_ret2
        exact ⟨rfl, rfl⟩

set_option maxHeartbeats 4000000 in
theorem FullOf_ok (P k Q : Nat) (w : World) (hs : smB (P : Int) = true) (hk1 : 1 ≤ k) (hk : k ≤ 8) (HQ : Hid (Q = P ^ k)) (hQ : Q ≤ 2000) :
    Calls Try.prog 20 #[.int .i64 (P : Int), .int .i64 (k : Int)] w fun e w' => ∃ (u : Value) (s : List Int) (z : Int), e = .returned (.tuple #[u, .int .i64 z]) ∧ Sl w' u s ∧ FullIs P k Q s z ∧ Below w.heap.size w w' := by
  have hpb := smB_bd hs
  have hp : 2 ≤ P := by omega
  have hp' : P ≤ 7 := by omega
  have hQ1 : 1 ≤ Q := by rw [HQ.out]; exact Nat.pow_pos (by omega)
  obtain ⟨i3, hi, hz0, hz1, hz2⟩ := info3
  have C1 : ∀ A, Calls Try.prog 22 #[.int .i64 (P : Int), .int .i64 (k : Int), .int .i64 2000] A fun e B => e = .returned (.int .i64 (Q : Int)) ∧ B = A := by
    intro A
    have C := states_ref P k 2000 A hp hp' (by omega) (by omega) (by omega)
    rw [show statZ P k 2000 = Q by unfold statZ; rw [← HQ.out, if_pos hQ]] at C; exact C
  have C3 : ∀ A n, n < Q → Calls Try.prog 37 #[.int .i64 (n : Int), .int .i64 (P : Int), .int .i64 (k : Int)] A fun e B => ∃ v, e = .returned v ∧ B.ownsRow A.heap.size 3 1 v k ((dgL n P k).map (Value.int .i64)) ∧ Below A.heap.size A B :=
    fun A n hn => digitsRef_any n P k A (by omega) hp (by omega) (by omega)
  have C4 : ∀ A n v u, Sl A v (dgL n P k) → Sl A u (seedL k) → Calls Try.prog 16 #[.int .i64 (P : Int), v, u] A fun e B => ∃ x y : Nat, e = .returned (.tuple #[.int .i64 x, .int .i64 y, .int .i64 0]) ∧ PerIs (winN P (dgL n P k) (seedL k)) x y ∧ Below A.heap.size A B :=
    fun A n v u h1 h2 => periodOf_ok P Q (dgL n P k) (seedL k) v u A hp hp' (by rw [dgL_len]; exact hk1) (by rw [dgL_len]; exact hk) (dgL_bel hp) (by rw [seedL_len, dgL_len]) (seedL_bel hp) h1 h2 (by rw [dgL_len]; exact HQ.out) (by omega)
  have hd : decide ((k : Int) < 1) = false := by simp; omega
  have hd8 : decide ((8 : Int) < (k : Int)) = false := by simp; omega
  have hdq : ((Q : Int) == 0) = false := by simp; omega
  obtain ⟨km, Hkm⟩ : ∃ x : Nat, Hid (x = k - 1) := ⟨_, rfl⟩
  have hkm : (k : Int) - 1 = (km : Int) := by rw [Hkm.out]; omega
  have hkl : km < k := by rw [Hkm.out]; omega
  clear hpb
  go_enter Try.func20, Try.ntmps20
  go_wp2_with (first
    | (go_at_call 24; refine (small_any _ _).mono ?_; rw [hs]; rintro e w' ⟨rfl, hw⟩; replace hw := hw.symm; subst hw)
    | (go_at_call 22; refine (C1 _).mono ?_; rintro e w' ⟨rfl, hw⟩; replace hw := hw.symm; subst hw)
    | (at_make; refine wpList_make_full _ rfl _ _ 22 rfl w.heap.size 3 i3 (.int .i64 0) 1 und22 hi hz0 hz1 .i64 .i64 (k : Int) (k : Int) k rfl rfl rfl rfl ?c1 ?c2 (Nat.le_refl _) ?_))
  case c1 => rw [hz2]; omega
  case c2 => unfold maxLen; omega
  intro w1 how1 hgr1
  have hO1 := own_made' how1
  have hb1 : Below w.heap.size w w1 := ⟨hgr1.os, hgr1.tape, hgr1.output, hgr1.size, fun k hk => hgr1.block k hk (by simp)⟩
  clear how1 hgr1
  have hc1 := hO1.cell km hkl
  have hf1 := hO1.frozen km
  have hO2 := hO1.set km 1
  have hS2 : Sl (w1.setCell ⟨w.heap.size, km, none⟩ (.int .i64 1)) (.slice (some ⟨w.heap.size, 0, none⟩) k k) (seedL k) := by
    have h := (hO2.congr (f' := fun j => if j = k - 1 then 1 else 0) (fun j _ => by unfold upd; rw [Hkm.out])).sl k
    exact h
  have hB2 : Below w.heap.size w (w1.setCell ⟨w.heap.size, km, none⟩ (.int .i64 1)) := hb1.setCell (p := ⟨w.heap.size, km, none⟩) (Nat.le_refl _) _
  obtain ⟨w2, Hw2⟩ : ∃ w2, Hid (w2 = w1.setCell ⟨w.heap.size, km, none⟩ (.int .i64 1)) := ⟨_, rfl⟩
  go_wp2
  rw [← Hw2.out] at hS2 hB2 ⊢
  clear hO1 hO2 hc1 hf1 hb1 Hw2
  go_loopw [9] (fun i wr => ∃ n : Nat, i = .int .i64 n ∧ n ≤ Q ∧ Hid (∀ m, m < n → ¬ fullAt P k Q m) ∧ Sl wr (.slice (some ⟨w.heap.size, 0, none⟩) k k) (seedL k) ∧ Below w.heap.size w wr) (fun i _ => (Q - intOf i).toNat)
  case atStart => exact ⟨0, rfl, by omega, (fun m h => by omega : ∀ m, m < 0 → _), hS2, hB2⟩
  case round =>
    obtain ⟨n, rfl, hn, HN, hS, hB⟩ := hrel
    by_cases hlt : n < Q
    · have hni : (n : Int) < Q := by omega
      go_wp2_with (first
        | (go_at_call 37; refine (C3 _ n hlt).mono ?_; rintro e w3 ⟨v, rfl, ho3, hb3⟩))
      have hS3 : Sl w3 v (dgL n P k) := Sl.owned (base := wr.heap.size) (by rw [dgL_len]; exact ho3)
      have hB3 := hB.trans (hb3.mono hB.size)
      refine (C4 w3 n v _ hS3 (hS.below hb3)).mono ?_
      rintro e w4 ⟨x, y, rfl, hper, hb4⟩
      have HP : Hid (PerIs (winN P (dgL n P k) (seedL k)) x y) := hper
      clear hper
      have hB4 := hB3.trans (hb4.mono hB3.size)
      have hS4 := hS3.below hb4
      have hSs := (hS.below hb3).below hb4
      clear ho3 hS3 hS hb3 hb4
      by_cases hx : x = 0
      · subst hx
        by_cases hy : y = Q - 1
        · have hyd : ((y : Int) == (Q : Int) - 1) = true := by simp; omega
          have HF : Hid (fullAt P k Q n) := by show PerIs _ 0 (Q - 1); rw [← hy]; exact HP.out
          clear hy
          go_wp2
          go_ret2
          exact ⟨_, _, 0, rfl, hS4, .inl ⟨n, hlt, HF.out, HN.out, rfl, rfl⟩, hB4⟩
        · have hyd : ((y : Int) == (Q : Int) - 1) = false := by simp; omega
          have HF : Hid (¬ fullAt P k Q n) := fun h => hy (HP.out.one h).2
          clear hy
          go_wp2
          go_roundw
          case rel =>
            refine ⟨n + 1, by go_num, by omega, (fun m hm => ?_ : ∀ m, m < n + 1 → _), hSs, hB4⟩
            by_cases e : m = n
            · subst e; exact HF.out
            · exact HN.out m (by omega)
          case measure => simp [intOf]; omega
      · have hxd : ((x : Int) == 0) = false := by simp; omega
        have HF : Hid (¬ fullAt P k Q n) := fun h => hx (HP.out.one h).1
        clear hx
        go_wp2
        go_roundw
        case rel =>
          refine ⟨n + 1, by go_num, by omega, (fun m hm => ?_ : ∀ m, m < n + 1 → _), hSs, hB4⟩
          by_cases e : m = n
          · subst e; exact HF.out
          · exact HN.out m (by omega)
        case measure => simp [intOf]; omega
    · go_wp2
      go_ret2
      obtain rfl : n = Q := by omega
      exact ⟨_, [], 4, rfl, Sl.nil _, .inr ⟨HN.out, rfl, rfl⟩, hB⟩

end Go.Proofs.Ytglomemadcdagaa
