/- The law GroupBurnside, walked. -/
import Derived.Test.YtnbkabggmomhlaaGL6
import Derived.Test.YtnbkabggmomhlaaG49
import Derived.Test.YtnbkabggmomhlaaG19
namespace Go.Proofs.Ytnbkabggmomhlaa
open Go.RowKit Go.Maps

def sumTo (f : Nat → Nat) : Nat → Nat
  | 0 => 0
  | k + 1 => sumTo f k + f k
theorem sumTo_le {f : Nat → Nat} {b : Nat} (h : ∀ k, f k ≤ b) : ∀ k, sumTo f k ≤ k * b
  | 0 => by simp [sumTo]
  | k + 1 => by have := sumTo_le h k; have := h k; rw [sumTo, Nat.succ_mul]; omega
theorem sumTo_hit (f : Nat → Nat) (x : Nat) : ∀ k, sumTo (fun j => f j * if x = j then 1 else 0) k = if x < k then f x else 0
  | 0 => by simp [sumTo]
  | k + 1 => by
    rw [sumTo, sumTo_hit f x k]
    by_cases h1 : x < k
    · simp [h1, show x ≠ k by omega, show x < k + 1 by omega]
    · by_cases h2 : x = k
      · subst h2; simp
      · simp [h1, h2, show ¬ x < k + 1 by omega]
theorem sumTo_add (f g : Nat → Nat) : ∀ k, sumTo (fun j => f j + g j) k = sumTo f k + sumTo g k
  | 0 => rfl
  | k + 1 => by rw [sumTo, sumTo, sumTo, sumTo_add f g k]; omega
theorem sumTo_congr {f g : Nat → Nat} {k : Nat} (h : ∀ j, j < k → f j = g j) : sumTo f k = sumTo g k := by
  induction k with
  | zero => rfl
  | succ k ih => rw [sumTo, sumTo, ih (fun j hj => h j (by omega)), h k (by omega)]
/-- Sums over the values of a number of each member. -/
theorem sum_fix (n : Nat) (wt : Nat → Nat) : ∀ L : List (List Nat), sumTo (fun k => wt k * fixC n L k) (n + 1) = (L.map fun a => wt (fixN n a)).sum
  | [] => by
    have : ∀ k, sumTo (fun k => wt k * fixC n [] k) k = 0 := fun k => by
      induction k with
      | zero => rfl
      | succ k ih => rw [sumTo, ih]; simp [fixC]
    rw [this]; rfl
  | a :: L => by
    have e : ∀ k, fixC n (a :: L) k = fixC n L k + if fixN n a = k then 1 else 0 := fun k => by
      unfold fixC
      rw [List.countP_cons]
      by_cases h : fixN n a = k <;> simp [h]
    have e2 : sumTo (fun k => wt k * fixC n (a :: L) k) (n + 1) = sumTo (fun k => wt k * fixC n L k + wt k * if fixN n a = k then 1 else 0) (n + 1) := sumTo_congr fun j _ => by rw [e j, Nat.mul_add]
    rw [e2, sumTo_add, sum_fix n wt L, sumTo_hit, if_pos (by have := fixN_le n a; omega), List.map_cons, List.sum_cons, Nat.add_comm]
theorem sum_all (n : Nat) (ms : List (List Nat)) : sumTo (fun k => fixG n ms k) (n + 1) = ordG n ms := by
  have h := sum_fix n (fun _ => 1) (els n (Gen n ms))
  unfold ordG
  have e : ((els n (Gen n ms)).map fun _ => 1).sum = (els n (Gen n ms)).length := by rw [sum_const _ 1 _ (fun _ _ => rfl), Nat.mul_one]
  rw [← e, ← h]
  exact sumTo_congr fun j _ => by unfold fixG; rw [Nat.one_mul]
theorem sum_stay {n : Nat} {ms : List (List Nat)} (hm : ∀ m ∈ ms, IsP n m) : sumTo (fun k => k * fixG n ms k) (n + 1) = ordG n ms * (orbs n ms).length := by
  have h := sum_fix n (fun k => k) (els n (Gen n ms))
  have b := burnside (gen_grp hm)
  unfold ordG orbs
  rw [List.length_map, Nat.mul_comm, ← b]
  exact h
theorem fixG_le {n : Nat} {ms : List (List Nat)} (hm : ∀ m ∈ ms, IsP n m) (hn : n ≤ 7) (k : Nat) : fixG n ms k ≤ 5040 := by
  unfold fixG fixC
  have h1 := List.countP_le_length (p := fun x => decide (fixN n x = k)) (l := els n (Gen n ms))
  have h2 := (ord_le hm hn).2
  unfold ordG at h2
  omega

set_option maxRecDepth 100000 in
set_option maxHeartbeats 4000000 in
theorem law7_any (n : Int) (ls : List (List Int)) (v : Value) (w : World) (hv : Came ls v w) :
    Calls Try.prog 7 #[.int .i64 n, v] w fun e w' => e = .returned (.bool true) ∧ Below w.heap.size w w' := by
  have C0 := lmade_any w
  by_cases h0 : gF n ls = 0
  · obtain ⟨k, ms, rfl, hM, hlen⟩ := hv.mk' h0
    obtain ⟨a, cap, rfl, _⟩ := id hM.sl
    have C1 := fun W (h : Below w.heap.size w W) => Order_ok k ms _ W (hM.below h)
    have C2 := fun W (h : Below w.heap.size w W) => Fixed_ok k ms _ W (hM.below h)
    have C3 := fun W (h : Below w.heap.size w W) => Orbits_ok k ms _ W (hM.below h)
    have HS1 : Hid (sumTo (fun q => fixG k ms q) (k + 1) = ordG k ms) := sum_all k ms
    have HS2 : Hid (sumTo (fun q => q * fixG k ms q) (k + 1) = ordG k ms * (orbs k ms).length) := sum_stay hM.isP
    have hob := (ord_le hM.isP hM.n7).2
    have hrb : (orbs k ms).length ≤ k := by unfold orbs; rw [List.length_map]; exact reps_len _ _
    have HFX : Hid (∀ q, fixG k ms q ≤ 5040) := fixG_le hM.isP hM.n7
    have hk7 := hM.n7
    obtain ⟨r, Hr⟩ : ∃ r, Hid (ms.length = r) := ⟨_, rfl⟩
    rw [Hr.out] at C1 C2 C3 ⊢
    obtain ⟨o, Ho⟩ : ∃ o, Hid (ordG k ms = o) := ⟨_, rfl⟩
    obtain ⟨ob, Hob⟩ : ∃ ob, Hid ((orbs k ms).length = ob) := ⟨_, rfl⟩
    rw [Ho.out] at C1 HS1 HS2 hob
    rw [Hob.out] at HS2 hrb
    obtain ⟨F, HF⟩ : ∃ F : Nat → Nat, Hid ((fun q => fixG k ms q) = F) := ⟨_, rfl⟩
    have HFF : Hid (∀ q, fixG k ms q = F q) := fun q => by rw [← HF.out]
    have C2' := fun W (h : Below w.heap.size w W) => (C2 W h).mono (R' := fun e w' => (∃ b off c, e = .returned (.tuple #[.slice (some ⟨b, off, none⟩) (k + 1) c, .int .i64 0]) ∧ b < w'.heap.size ∧ Hid (∀ j, j < k + 1 → w'.cell? ⟨b, off + j, none⟩ = some (.int .i64 (F j : Int)))) ∧ Below W.heap.size W w') (fun e w' ⟨⟨y, h1, h2⟩, h3⟩ => by
      obtain ⟨b, off, c, e2, hb, hc⟩ := h2.form (n := k + 1) (by simp) (by omega)
      refine ⟨⟨b, off, c, by rw [h1, e2], hb, fun j hj => ?_⟩, h3⟩
      rw [hc j hj, ← HFF.out j]
      simp [hj])
    have C3' := fun W (h : Below w.heap.size w W) => (C3 W h).mono (R' := fun e w' => (∃ a c, e = .returned (.tuple #[.slice a ob c, .int .i64 0])) ∧ Below W.heap.size W w') (fun e w' ⟨⟨y, h1, h2⟩, h3⟩ => by
      obtain ⟨a, c, e2, _⟩ := h2
      exact ⟨⟨a, c, by rw [h1, e2, Hob.out]⟩, h3⟩)
    clear hv h0 hlen hM C2 C3
    have hk1 : ((k : Int) + 1 != (k : Int) + 1) = false := by simp
    go_enter Try.func7, Try.ntmps7
    go_wp2_with (first
      | (go_at_call 32; refine C0.mono ?_; rintro e w1 ⟨rfl, b1⟩)
      | (go_at_call 11; refine (C1 _ b1).mono ?_; rintro e w2 ⟨rfl, b2⟩; replace b2 := Below.next b1 b2)
      | (go_at_call 22; refine (C2' _ b2).mono ?_; rintro e w3 ⟨⟨b, off, c, rfl, hbl, HCELL⟩, b3⟩; replace b3 := Below.next b2 b3)
      | (go_at_call 19; refine (C3' _ b3).mono ?_; rintro e w4 ⟨⟨ya, yc, rfl⟩, b4⟩; have HC4 : Hid (∀ j, j < k + 1 → w4.cell? ⟨b, off + j, none⟩ = some (.int .i64 (F j : Int))) := (fun j hj => (b4.cell (p := ⟨b, off + j, none⟩) hbl).trans (HCELL.out j hj)); replace b4 := Below.next b3 b4))
    clear C0 C1 C2' C3' HCELL
    have HFb : Hid (∀ q, F q ≤ 5040) := fun q => by rw [← HFF.out q]; exact HFX.out q
    go_loopw [11, 12, 13] (fun al st i wr => ∃ j : Nat, i = .int .i64 j ∧ j ≤ k + 1 ∧ al = .int .i64 (sumTo F j : Nat) ∧ st = .int .i64 (sumTo (fun q => q * F q) j : Nat) ∧ Hid (∀ j, j < k + 1 → wr.cell? ⟨b, off + j, none⟩ = some (.int .i64 (F j : Int))) ∧ Below w.heap.size w wr) (fun _ _ i _ => (k + 1 - intOf i).toNat)
    case atStart => exact ⟨0, rfl, by omega, rfl, rfl, HC4, b4⟩
    case round =>
      clear HC4 b4
      obtain ⟨j, rfl, hj, rfl, rfl, HC, hB⟩ := hrel
      have hb1 := sumTo_le HFb.out j
      have hb2 : sumTo (fun q => q * F q) j ≤ j * 40320 := by
        have : ∀ j, j ≤ 8 → sumTo (fun q => q * F q) j ≤ j * 40320 := fun j => by
          induction j with
          | zero => intro _; simp [sumTo]
          | succ j ih =>
            intro hj
            have h1 := ih (by omega)
            have h2 := Nat.mul_le_mul (show j ≤ 8 by omega) (HFb.out j)
            rw [sumTo, Nat.succ_mul]; omega
        exact this j (by omega)
      by_cases hlt : j < k + 1
      · have hji : (j : Int) < (k : Int) + 1 := by omega
        have hdec : decide ((j : Int) < (k : Int) + 1) = true := by simp; omega
        have hcj := HC.out j hlt
        have hfj := HFb.out j
        have e1 : sumTo F (j + 1) = sumTo F j + F j := rfl
        have e2 : sumTo (fun q => q * F q) (j + 1) = sumTo (fun q => q * F q) j + j * F j := rfl
        have hmb := Nat.mul_le_mul (show j ≤ 8 by omega) hfj
        obtain ⟨x, Hx⟩ : ∃ x, Hid (F j = x) := ⟨_, rfl⟩
        obtain ⟨s1, Hs1⟩ : ∃ s, Hid (sumTo F j = s) := ⟨_, rfl⟩
        obtain ⟨s2, Hs2⟩ : ∃ s, Hid (sumTo (fun q => q * F q) j = s) := ⟨_, rfl⟩
        rw [Hx.out] at hcj hfj e1 e2 hmb
        rw [Hs1.out] at e1 hb1 ⊢
        rw [Hs2.out] at e2 hb2 ⊢
        obtain ⟨p, Hp⟩ : ∃ p, Hid (j * x = p) := ⟨_, rfl⟩
        have hp : (j : Int) * (x : Int) = (p : Int) := by rw [← Hp.out]; simp
        rw [Hp.out] at e2 hmb
        have HE1 : Hid (sumTo F (j + 1) = s1 + x) := e1
        have HE2 : Hid (sumTo (fun q => q * F q) (j + 1) = s2 + p) := e2
        clear e1 e2
        go_wp2
        go_roundw
        case rel => exact ⟨j + 1, by go_num, by omega, by rw [HE1.out]; go_num, by rw [HE2.out]; go_num, HC, hB⟩
        case measure => simp [intOf]; omega
      · obtain rfl : j = k + 1 := by omega
        have hkd : decide (((k + 1 : Nat) : Int) < (k : Int) + 1) = false := by simp
        have E1 : sumTo F (k + 1) = o := by rw [← HS1.out]; exact sumTo_congr fun q _ => (HFF.out q).symm
        have E2 : sumTo (fun q => q * F q) (k + 1) = o * ob := by rw [← HS2.out]; exact sumTo_congr fun q _ => by rw [HFF.out q]
        rw [E1, E2]
        have hmb : o * ob ≤ 5040 * 7 := Nat.mul_le_mul hob (by omega)
        obtain ⟨p, Hp⟩ : ∃ p, Hid (o * ob = p) := ⟨_, rfl⟩
        have hp : (o : Int) * (ob : Int) = (p : Int) := by rw [← Hp.out]; simp
        rw [Hp.out] at hmb ⊢
        clear E1 E2 hb1 hb2
        go_wp2
        go_ret
        exact ⟨rfl, hB⟩
  · obtain ⟨z, Hz⟩ : ∃ z, Hid (gF n ls = z) := ⟨_, rfl⟩
    have hz : z ≠ 0 := by rw [← Hz.out]; exact h0
    have C1 := fun W (h : Below w.heap.size w W) => Order_bad n ls v W (hv.below h).sls hv.each hv.len z Hz.out hz
    have hzd : (z != 0) = true := by simpa using hz
    obtain ⟨a, cap, rfl, _⟩ := hv.sls
    clear hv h0 hz
    go_enter Try.func7, Try.ntmps7
    go_wp2_with (first
      | (go_at_call 32; refine C0.mono ?_; rintro e w1 ⟨rfl, b1⟩)
      | (go_at_call 11; refine (C1 _ b1).mono ?_; rintro e w2 ⟨rfl, b2⟩; replace b2 := Below.next b1 b2))
    go_ret
    exact ⟨rfl, b2⟩

end Go.Proofs.Ytnbkabggmomhlaa
