/- The walk of the document's CostasesOf. -/
import Derived.Test.YtmiinhbffiodmaaDoorRuF
import Derived.Test.YtmiinhbffiodmaaDoorR3
import Derived.Test.YtmiinhbffiodmaaDoorP25
namespace Go.Proofs.YtmiinhbffiodmaaDoor
open Go.RowKit

set_option maxHeartbeats 4000000 in
theorem CostasesOf_none (n : Int) (w : World) (h : n < 1 ∨ 7 < n) : Calls Tryd.prog 14 #[.int .i64 n] w fun e w' => e = .returned (.tuple #[.int .i64 0, .int .i64 1]) ∧ Below w.heap.size w w' := by
  by_cases h1 : n < 1
  · have d1 : decide (n < 1) = true := decide_eq_true h1
    clear h h1
    go_enter Tryd.func14, Tryd.ntmps14
    go_wp2
    go_ret2
    exact ⟨rfl, Below.refl _ _⟩
  · have d1 : decide (n < 1) = false := decide_eq_false h1
    have h2 : 7 < n := by omega
    have d2 : decide (7 < n) = true := decide_eq_true h2
    clear h h1 h2
    go_enter Tryd.func14, Tryd.ntmps14
    go_wp2
    go_ret2
    exact ⟨rfl, Below.refl _ _⟩
theorem fac_7 {n : Nat} (h : n ≤ 7) : fac n ≤ 5040 := by
  have : ∀ m : Fin 8, fac m.1 ≤ 5040 := by decide
  exact this ⟨n, by omega⟩
set_option maxRecDepth 100000 in
set_option maxHeartbeats 8000000 in
theorem CostasesOf_main (n : Nat) (w : World) (h1 : 1 ≤ n) (h7 : n ≤ 7) : Calls Tryd.prog 14 #[.int .i64 (n : Int)] w fun e w' => e = .returned (.tuple #[.int .i64 (cosN n : Int), .int .i64 0]) ∧ Below w.heap.size w w' := by
  have d1 : decide ((n : Int) < 1) = false := by simp; omega
  have d2 : decide (7 < (n : Int)) = false := by simp; omega
  have C := Factorial_any n w (by omega)
  have HP : Hid (∀ (k : Nat) (W : World), k < fac n → Calls Tryd.prog 30 #[.int .i64 (n : Int), .int .i64 (k : Int)] W fun e w' => ∃ x, e = .returned (.tuple #[x, .int .i64 0]) ∧ Sl w' x ((unrL n (List.range n) k).map Int.ofNat) ∧ Below W.heap.size W w') := fun k W hk => PermOfRank_ok n k W (by omega) hk
  have HC : Hid (∀ (k : Nat) (u : Value) (W : World), Sl W u ((unrL n (List.range n) k).map Int.ofNat) → Calls Tryd.prog 9 #[u] W fun e w' => e = .returned (.bool (cosQ (unrL n (List.range n) k))) ∧ Below W.heap.size W w') := fun k u W hu => CostasOf_any _ u W hu (by rw [unrL_len]; omega) (fun x hx => by have := unrL_le hx; omega)
  have HU : Hid (∀ k, cosK n (k + 1) = cosK n k + if cosQ (unrL n (List.range n) k) then 1 else 0) := cosK_up n
  have HLe : Hid (∀ k, cosK n k ≤ k) := cosK_le n
  have HN : Hid (cosK n (fac n) = cosN n) := rfl
  have H0 : Hid (cosK n 0 = 0) := rfl
  have hF := fac_7 h7
  obtain ⟨F, HF⟩ : ∃ F, Hid (fac n = F) := ⟨_, rfl⟩
  obtain ⟨K, HK⟩ : ∃ K : Nat → Nat, Hid (∀ k, cosK n k = K k) := ⟨_, fun _ => rfl⟩
  obtain ⟨U, HUn⟩ : ∃ U : Nat → List Nat, Hid (∀ k, unrL n (List.range n) k = U k) := ⟨_, fun _ => rfl⟩
  have HP2 : Hid (∀ (k : Nat) (W : World), k < F → Calls Tryd.prog 30 #[.int .i64 (n : Int), .int .i64 (k : Int)] W fun e w' => ∃ x, e = .returned (.tuple #[x, .int .i64 0]) ∧ Sl w' x ((U k).map Int.ofNat) ∧ Below W.heap.size W w') := fun k W hk => by rw [← HUn.out]; exact HP.out k W (by rw [HF.out]; exact hk)
  have HC2 : Hid (∀ (k : Nat) (u : Value) (W : World), Sl W u ((U k).map Int.ofNat) → Calls Tryd.prog 9 #[u] W fun e w' => e = .returned (.bool (cosQ (U k))) ∧ Below W.heap.size W w') := fun k u W hu => by rw [← HUn.out] at hu ⊢; exact HC.out k u W hu
  have HU2 : Hid (∀ k, K (k + 1) = K k + if cosQ (U k) then 1 else 0) := fun k => by rw [← HK.out, ← HK.out, ← HUn.out]; exact HU.out k
  have HLe2 : Hid (∀ k, K k ≤ k) := fun k => by rw [← HK.out]; exact HLe.out k
  have HN2 : Hid (K F = cosN n) := by rw [← HK.out, ← HF.out]; exact HN.out
  have H02 : Hid (K 0 = 0) := by rw [← HK.out]; exact H0.out
  rw [HF.out] at hF C
  rw [← HN2.out]
  obtain ⟨g, Hg⟩ : ∃ g, Hid (w.heap.size = g) := ⟨_, rfl⟩
  rw [Hg.out]
  have hgw : w.heap.size = g := Hg.out
  clear HP HC HU HLe HN H0 HK HUn HN2
  go_enter Tryd.func14, Tryd.ntmps14
  go_wp2_with (first
    | (go_at_call 29; refine C.mono ?_; rintro e w1 ⟨rfl, rfl⟩; clear C)
    | go_in)
  go_loopw [5, 6] (fun mv kv wr => ∃ k : Nat, kv = .int .i64 (k : Int) ∧ mv = .int .i64 (K k : Int) ∧ k ≤ F ∧ Below g w1 wr) (fun _ kv _ => (F - intOf kv).toNat)
  case atStart => exact ⟨0, rfl, by rw [H02.out]; rfl, by omega, by rw [← hgw]; exact Below.refl _ _⟩
  case round =>
    clear H02
    obtain ⟨k, rfl, rfl, hk, hB⟩ := hrel
    have hgs : g ≤ wr.heap.size := by rw [← hgw]; exact hB.size
    by_cases hlt : k < F
    · have hii : (k : Int) < F := by omega
      have hdec : decide ((k : Int) < F) = true := by simp; omega
      have C1 := HP2.out k wr hlt
      have HCC := HC2.out k
      have hU := HU2.out k
      have hLe := HLe2.out k
      obtain ⟨x, Hx⟩ : ∃ x, Hid (K k = x) := ⟨_, rfl⟩
      obtain ⟨y, Hy⟩ : ∃ y, Hid (K (k + 1) = y) := ⟨_, rfl⟩
      obtain ⟨L, HL⟩ : ∃ L, Hid (U k = L) := ⟨_, rfl⟩
      rw [Hx.out] at hU hLe ⊢
      rw [Hy.out] at hU
      rw [HL.out] at hU C1 HCC
      cases hq : cosQ L
      · rw [hq] at hU HCC
        have hyx : y = x := by simpa using hU
        clear HP2 HC2 HU2 HLe2 hU
        go_wp2_with (first
          | (go_at_call 30; refine C1.mono ?_; rintro e w2 ⟨v, rfl, hv, hb2⟩; clear C1; have C2 := HCC v w2 hv; clear HCC)
          | (go_at_call 9; refine C2.mono ?_; rintro e w3 ⟨rfl, hb3⟩; clear C2)
          | go_in)
        have hb4 : Below g w1 w3 := hB.trans ((hb2.trans (hb3.mono hb2.size)).mono hgs)
        clear hB hb2 hb3
        go_roundw
        case rel => exact ⟨k + 1, by go_num, by rw [Hy.out, hyx], by omega, hb4⟩
        case measure => simp [intOf]; omega
      · rw [hq] at hU HCC
        have hyx : y = x + 1 := by simpa using hU
        clear HP2 HC2 HU2 HLe2 hU
        go_wp2_with (first
          | (go_at_call 30; refine C1.mono ?_; rintro e w2 ⟨v, rfl, hv, hb2⟩; clear C1; have C2 := HCC v w2 hv; clear HCC)
          | (go_at_call 9; refine C2.mono ?_; rintro e w3 ⟨rfl, hb3⟩; clear C2)
          | go_in)
        have hb4 : Below g w1 w3 := hB.trans ((hb2.trans (hb3.mono hb2.size)).mono hgs)
        clear hB hb2 hb3
        go_roundw
        case rel => exact ⟨k + 1, by go_num, by rw [Hy.out, hyx]; go_num, by omega, hb4⟩
        case measure => simp [intOf]; omega
    · have hdec : decide ((k : Int) < F) = false := by simp; omega
      obtain rfl : k = F := by omega
      go_wp2
      go_ret2
      exact ⟨rfl, hB⟩

end Go.Proofs.YtmiinhbffiodmaaDoor
