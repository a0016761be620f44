/- The walk of the document's WelchOf. -/
import Derived.Test.YtmiinhbffiodmaaDoorR4
namespace Go.Proofs.YtmiinhbffiodmaaDoor
open Go.RowKit

/-- A row of numbers of one's own. -/
def ORo (w : World) (base : Nat) (u : Value) (l : List Nat) : Prop := w.ownsRow base 3 1 u l.length ((l.map Int.ofNat).map (Value.int .i64))
theorem ORo.sl {w : World} {base : Nat} {u : Value} {l : List Nat} (h : ORo w base u l) : Sl w u (l.map Int.ofNat) := Sl.owned (by rw [List.length_map]; exact h)
set_option maxHeartbeats 400000 in
theorem IsPrime_big (n : Int) (w : World) (hn : 100000 < n) : Calls Tryd.prog 26 #[.int .i64 n] w fun e w' => e = .returned (.bool false) ∧ w' = w := by
  have h2 : ¬ n < 2 := by omega
  have hd2 : decide (n < 2) = false := by simpa using h2
  have hd1 : decide (100000 < n) = true := by simpa using hn
  go_enter Tryd.func26, Tryd.ntmps26
  go_wp2
  go_ret
  exact ⟨rfl, rfl⟩
theorem IsPrime_some (n : Int) (w : World) : Calls Tryd.prog 26 #[.int .i64 n] w fun e w' => (∃ b : Bool, e = .returned (.bool b)) ∧ w' = w := by
  by_cases h : 100000 < n
  · exact (IsPrime_big n w h).mono fun e w' ⟨h1, h2⟩ => ⟨⟨_, h1⟩, h2⟩
  · exact (IsPrimeX_any n w (by omega)).mono fun e w' ⟨⟨b, h1, _⟩, h2⟩ => ⟨⟨b, h1⟩, h2⟩
set_option maxHeartbeats 4000000 in
theorem WelchOf_far (p r : Int) (w : World) (h : p < 3 ∨ 13 < p) : Calls Tryd.prog 11 #[.int .i64 p, .int .i64 r] w fun e w' => e = .returned (.tuple #[.slice none 0 0, .int .i64 1]) ∧ Below w.heap.size w w' := by
  have C := IsPrime_some p w
  by_cases h1 : p < 3
  · have d1 : decide (p < 3) = true := decide_eq_true h1
    clear h h1
    go_enter Tryd.func11, Tryd.ntmps11
    go_wp2_with (first
      | (go_at_call 26; refine C.mono ?_; rintro e w1 ⟨⟨b, rfl⟩, rfl⟩; clear C)
      | go_in)
    go_ret2
    exact ⟨rfl, Below.refl _ _⟩
  · have d1 : decide (p < 3) = false := decide_eq_false h1
    have h2 : 13 < p := by omega
    have d2 : decide (13 < p) = true := decide_eq_true h2
    clear h h1 h2
    go_enter Tryd.func11, Tryd.ntmps11
    go_wp2_with (first
      | (go_at_call 26; refine C.mono ?_; rintro e w1 ⟨⟨b, rfl⟩, rfl⟩; clear C)
      | go_in)
    go_ret2
    exact ⟨rfl, Below.refl _ _⟩
set_option maxHeartbeats 4000000 in
theorem WelchOf_none (p : Nat) (r : Int) (w : World) (h3 : 3 ≤ p) (h13 : p ≤ 13) (h : wP p = false ∨ r < 1 ∨ (p : Int) ≤ r) : Calls Tryd.prog 11 #[.int .i64 (p : Int), .int .i64 r] w fun e w' => e = .returned (.tuple #[.slice none 0 0, .int .i64 1]) ∧ Below w.heap.size w w' := by
  have C := IsPrimeW p w h3 h13
  have d1 : decide ((p : Int) < 3) = false := by simp; omega
  have d2 : decide (13 < (p : Int)) = false := by simp; omega
  cases hp : wP p
  · rw [hp] at C
    clear h hp
    go_enter Tryd.func11, Tryd.ntmps11
    go_wp2_with (first
      | (go_at_call 26; refine C.mono ?_; rintro e w1 ⟨rfl, rfl⟩; clear C)
      | go_in)
    go_ret2
    exact ⟨rfl, Below.refl _ _⟩
  · rw [hp] at C
    by_cases h1 : r < 1
    · have d3 : decide (r < 1) = true := decide_eq_true h1
      clear h hp h1
      go_enter Tryd.func11, Tryd.ntmps11
      go_wp2_with (first
        | (go_at_call 26; refine C.mono ?_; rintro e w1 ⟨rfl, rfl⟩; clear C)
        | go_in)
      go_ret2
      exact ⟨rfl, Below.refl _ _⟩
    · have d3 : decide (r < 1) = false := decide_eq_false h1
      have h2 : (p : Int) ≤ r := by
        rcases h with h | h | h
        · rw [hp] at h; cases h
        · omega
        · exact h
      have d4 : decide ((p : Int) ≤ r) = true := decide_eq_true h2
      clear h hp h1
      go_enter Tryd.func11, Tryd.ntmps11
      go_wp2_with (first
        | (go_at_call 26; refine C.mono ?_; rintro e w1 ⟨rfl, rfl⟩; clear C)
        | go_in)
      go_ret2
      exact ⟨rfl, Below.refl _ _⟩
set_option maxRecDepth 100000 in
set_option maxHeartbeats 8000000 in
theorem WelchOf_main (p r : Nat) (w : World) (h3 : 3 ≤ p) (h13 : p ≤ 13) (hp : wP p = true) (hr1 : 1 ≤ r) (hr : r < p) : Calls Tryd.prog 11 #[.int .i64 (p : Int), .int .i64 (r : Int)] w fun e w' => ((¬ (weL p r (p - 1)).Nodup ∧ e = .returned (.tuple #[.slice none 0 0, .int .i64 4])) ∨ ((weL p r (p - 1)).Nodup ∧ ∃ x, e = .returned (.tuple #[x, .int .i64 0]) ∧ ORo w' w.heap.size x (weL p r (p - 1)))) ∧ Below w.heap.size w w' := by
  have C : Hid (Calls Tryd.prog 26 #[.int .i64 (p : Int)] w fun e w' => e = .returned (.bool true) ∧ w' = w) := by
    have := IsPrimeW p w h3 h13
    rw [hp] at this
    exact this
  have d1 : decide ((p : Int) < 3) = false := by simp; omega
  have d2 : decide (13 < (p : Int)) = false := by simp; omega
  have d3 : decide ((r : Int) < 1) = false := by simp; omega
  have d4 : decide ((p : Int) ≤ (r : Int)) = false := by simp; omega
  have d5 : decide (p ≤ r) = false := by simp; omega
  have d6 : ¬ p ≤ r := by omega
  have HL : Hid (∀ (b : List Nat) (x : Nat) (q : Bool) (v : Value) (W : World), Sl W v (b.map Int.ofNat) → b.length ≤ 99 → b.contains x = q → Calls Tryd.prog 27 #[v, .int .i64 (x : Int)] W fun e w' => e = .returned (.bool q) ∧ w' = W) := fun b x q v W h1 h2 h3 => Lies_any b x q v W h1 h2 h3
  have HU : Hid (∀ k, weL p r (k + 1) = weL p r k ++ [wlF p r k]) := weL_up p r
  have HLn : Hid (∀ k, (weL p r k).length = k) := weL_len p r
  have HNo : Hid (∀ k, k < p - 1 → wlF p r k ∈ weL p r k → ¬ (weL p r (p - 1)).Nodup) := fun k hk h => weL_no hk h
  have HYe : Hid (∀ k, (weL p r k).Nodup → wlF p r k ∉ weL p r k → (weL p r (k + 1)).Nodup) := fun k h1 h2 => weL_yes h1 h2
  have HP : Hid (∀ k, k ≤ 12 → 1 ≤ r ^ k % p ∧ r ^ k % p < p) := fun k hk => ⟨welch_pos ⟨p, by omega⟩ ⟨r, by omega⟩ ⟨k, by omega⟩ hp hr1 hr, Nat.mod_lt _ (by omega)⟩
  have HS : Hid (∀ k, r ^ k % p * r % p = r ^ (k + 1) % p) := welch_step p r
  have H0 : Hid (r ^ 0 % p = 1) := by show _ = _; rw [Nat.pow_zero]; exact Nat.mod_eq_of_lt (by omega)
  have HW : Hid (∀ k, wlF p r k = r ^ k % p - 1) := fun _ => rfl
  obtain ⟨A, HA⟩ : ∃ A : Nat → Nat, Hid (∀ k, r ^ k % p = A k) := ⟨fun k => r ^ k % p, fun _ => rfl⟩
  obtain ⟨B, HB⟩ : ∃ B : Nat → Nat, Hid (∀ k, wlF p r k = B k) := ⟨fun k => wlF p r k, fun _ => rfl⟩
  obtain ⟨M, HM⟩ : ∃ M : Nat → List Nat, Hid (∀ k, weL p r k = M k) := ⟨fun k => weL p r k, fun _ => rfl⟩
  have HU2 : Hid (∀ k, M (k + 1) = M k ++ [B k]) := fun k => by rw [← HM.out, ← HM.out, ← HB.out]; exact HU.out k
  have HLn2 : Hid (∀ k, (M k).length = k) := fun k => by rw [← HM.out]; exact HLn.out k
  have HNo2 : Hid (∀ k, k < p - 1 → B k ∈ M k → ¬ (M (p - 1)).Nodup) := fun k => by rw [← HM.out, ← HM.out, ← HB.out]; exact HNo.out k
  have HYe2 : Hid (∀ k, (M k).Nodup → B k ∉ M k → (M (k + 1)).Nodup) := fun k => by rw [← HM.out, ← HM.out, ← HB.out]; exact HYe.out k
  have HP2 : Hid (∀ k, k ≤ 12 → 1 ≤ A k ∧ A k < p) := fun k => by rw [← HA.out]; exact HP.out k
  have HS2 : Hid (∀ k, A k * r % p = A (k + 1)) := fun k => by rw [← HA.out, ← HA.out]; exact HS.out k
  have H02 : Hid (A 0 = 1) := by show _ = _; rw [← HA.out]; exact H0.out
  have HW2 : Hid (∀ k, B k = A k - 1) := fun k => by rw [← HA.out, ← HB.out]; exact HW.out k
  have HM0 : Hid ((M 0).Nodup ∧ M 0 = []) := by rw [← HM.out]; exact ⟨by simp [weL], rfl⟩
  rw [HM.out]
  obtain ⟨n, Hn⟩ : ∃ n, Hid (p - 1 = n) := ⟨_, rfl⟩
  rw [Hn.out] at HNo2 ⊢
  have hni : (p : Int) - 1 = (n : Int) := by have := Hn.out; omega
  have hn12 : n ≤ 12 := by have := Hn.out; omega
  obtain ⟨i3, hi3, hz0, hz1, hz2⟩ := info3
  obtain ⟨g, Hg⟩ : ∃ g, Hid (w.heap.size = g) := ⟨_, rfl⟩
  rw [Hg.out]
  have hgw : w.heap.size = g := Hg.out
  have hv0 : (p : Int) ≠ 0 := by omega
  have hw4 : ¬ p = 0 := by omega
  clear hp HU HLn HNo HYe HP HS H0 HW HA HB HM
  go_enter Tryd.func11, Tryd.ntmps11
  go_wp2_with (first
    | (go_at_call 26; refine C.out.mono ?_; rintro e w1 ⟨rfl, rfl⟩; clear C)
    | go_in)
  go_loopw [7, 8, 9] (fun ov xv iv wr => ∃ i : Nat, iv = .int .i64 (i : Int) ∧ xv = .int .i64 (A i : Int) ∧ i ≤ n ∧ Hid ((M i).Nodup) ∧ ORo wr g ov (M i) ∧ Below g w1 wr) (fun _ _ iv _ => (n - intOf iv).toNat)
  case atStart => exact ⟨0, rfl, by rw [H02.out]; rfl, by omega, HM0.out.1, by rw [HM0.out.2]; exact World.ownsRow_nil _ _ _ _, by rw [← hgw]; exact Below.refl _ _⟩
  case round =>
    clear H02 HM0
    obtain ⟨i, rfl, rfl, hi, HD, hown, hB⟩ := hrel
    have hgs : g ≤ wr.heap.size := by rw [← hgw]; exact hB.size
    by_cases hlt : i < n
    · have hii : (i : Int) < n := by omega
      have hdec : decide ((i : Int) < n) = true := by simp; omega
      obtain ⟨q1, q2⟩ := HP2.out i (by omega)
      have hS := HS2.out i
      have hWi := HW2.out i
      have hU := HU2.out i
      have hLn := HLn2.out i
      have hno := HNo2.out i hlt
      have hye := HYe2.out i HD.out
      have hsl := hown.sl
      obtain ⟨x, Hx⟩ : ∃ x, Hid (A i = x) := ⟨_, rfl⟩
      obtain ⟨y, Hy⟩ : ∃ y, Hid (A (i + 1) = y) := ⟨_, rfl⟩
      obtain ⟨z, Hz⟩ : ∃ z, Hid (B i = z) := ⟨_, rfl⟩
      obtain ⟨ll, Hll⟩ : ∃ ll, Hid (M i = ll) := ⟨_, rfl⟩
      rw [Hx.out] at q1 q2 hS hWi ⊢
      rw [Hy.out] at hS
      rw [Hz.out] at hWi hU hno hye
      rw [Hll.out] at hU hLn hno hye hown hsl
      have hzi : (x : Int) - 1 = (z : Int) := by omega
      obtain ⟨m, hm⟩ : ∃ m, x * r = m := ⟨_, rfl⟩
      have hmi : (x : Int) * (r : Int) = (m : Int) := by rw [← hm]; simp
      have hmb : m ≤ 13 * 13 := by rw [← hm]; exact Nat.mul_le_mul (by omega) (by omega)
      rw [hm] at hS
      have m1 : (m : Int) % (p : Int) = (y : Int) := by rw [← hS]; simp
      have m2 : (m : Int).tmod (p : Int) = (y : Int) := by rw [Int.tmod_eq_emod_of_nonneg (by omega)]; exact m1
      unfold ORo at hown
      rw [hLn] at hown
      have HLL : Hid (ll.length = i) := hLn
      cases hc : ll.contains z
      · have C2 := HL.out ll z false _ wr hsl (by omega) hc
        have HND : Hid ((M (i + 1)).Nodup) := hye (fun h => by rw [List.contains_iff_mem.2 h] at hc; cases hc)
        have HUU : Hid (M (i + 1) = ll ++ [z]) := hU
        obtain ⟨oa, oc, rfl⟩ := own_form hown
        clear hU hLn hno hye hsl HL HU2 HLn2 HNo2 HYe2 HP2 HS2 HW2 HD hm hS hWi hc
        go_wp2_with (first
          | (go_at_call 27; refine C2.mono ?_; rintro e w2 ⟨rfl, rfl⟩; clear C2)
          | (at_builtin; refine wpList_append_own _ rfl _ _ 22 rfl g 3 i3 (.int .i64 0) 1 8 und22 hi3 hz0 hz1 hz2 rfl (by decide) _ _ _ rfl (hown.alloc _) ⟨w2.heap.size, 0, none⟩ 1 1 [.int .i64 (z : Int)] rfl rfl (fun j u hj => by (match j, hj with | 0, hj => simp at hj; subst hj; simp [Addr.add])) (fun u hu => by (simp at hu; subst hu; rfl)) (by (unfold maxLen; omega)) (by omega) (by (simp; omega)) ?_; intro v' w4 hown' hgrow _)
          | go_in)
        have hb4 : Below g w1 w4 := (hB.alloc (by omega) _).grown hgrow (by simp; omega) (fun k hk => (hown.lt k hk).1)
        have hown4 : w4.ownsRow g 3 1 v' (i + 1) (((ll ++ [z]).map Int.ofNat).map (Value.int .i64)) := by simpa using hown'
        have hown5 : ORo w4 g v' (M (i + 1)) := by
          rw [HUU.out]
          unfold ORo
          rw [List.length_append, HLL.out]
          exact hown4
        clear hown' hown4 hgrow hown hB
        go_roundw
        case rel => exact ⟨i + 1, by go_num, by rw [Hy.out], by omega, HND, hown5, hb4⟩
        case measure => simp [intOf]; omega
      · have C2 := HL.out ll z true _ wr hsl (by omega) hc
        have HNN : Hid (¬ (M n).Nodup) := hno (List.contains_iff_mem.1 hc)
        obtain ⟨oa, oc, rfl⟩ := own_form hown
        clear hU hLn hno hye hsl HL HU2 HLn2 HNo2 HYe2 HP2 HS2 HW2 HD hm hS hWi hc
        go_wp2_with (first
          | (go_at_call 27; refine C2.mono ?_; rintro e w2 ⟨rfl, rfl⟩; clear C2)
          | go_in)
        go_ret2
        exact ⟨.inl ⟨HNN.out, rfl⟩, hB⟩
    · have hdec : decide ((i : Int) < n) = false := by simp; omega
      obtain rfl : i = n := by omega
      go_wp2
      go_ret2
      exact ⟨.inr ⟨HD.out, _, rfl, hown⟩, hB⟩

end Go.Proofs.YtmiinhbffiodmaaDoor
