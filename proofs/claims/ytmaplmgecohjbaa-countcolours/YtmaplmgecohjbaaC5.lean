/- The walks of rings, Beads, Bracelets, BeadsOf, BraceletsOf. -/
import Derived.Test.YtmaplmgecohjbaaC4
namespace Go.Proofs.Ytmaplmgecohjbaa
open Go.RowKit Go.Maps

theorem sum_tally (g : Nat → Nat) (n N : Nat) (hg : ∀ i, i < n → g i < N) (F : Nat → Int) : sumN (fun c => sumN (fun j => if g j = c then 1 else 0) n * F c) N = sumN (fun i => F (g i)) n := by
  have e : ∀ c, c < N → sumN (fun j => if g j = c then 1 else 0) n * F c = sumN (fun j => (if g j = c then 1 else 0) * F c) n := fun c _ => (sumN_mulr _ _ _).symm
  rw [sumN_congr e, ← sumN_swap]
  refine sumN_congr fun i hi => ?_
  rw [sumN_one (q := g i) (hg i hi) fun c hc => by rw [if_neg (fun h => hc h.symm), Int.zero_mul]]
  rw [if_pos rfl, Int.one_mul]
theorem sum_tally1 (g : Nat → Nat) (n N : Nat) (hg : ∀ i, i < n → g i < N) : sumN (fun c => sumN (fun j => if g j = c then 1 else 0) n) N = n := by
  have h := sum_tally g n N hg (fun _ => 1)
  rw [sumN_const, Int.mul_one] at h
  rw [← h]
  exact sumN_congr fun c _ => (Int.mul_one _).symm
theorem gcd_lt {n i : Nat} (h : 1 ≤ n) : Nat.gcd n i < n + 2 := by
  have := Nat.gcd_le_left (n := i) (m := n) (by omega)
  omega
theorem turnT_sum {n : Nat} (k : Nat) (h : 1 ≤ n) : sumN (fun c => turnT n n c * ((k ^ c : Nat) : Int)) (n + 2) = turnS n k := sum_tally _ n (n + 2) (fun _ _ => gcd_lt h) fun c => ((k ^ c : Nat) : Int)
theorem turnT_all {n : Nat} (h : 1 ≤ n) : sumN (turnT n n) (n + 2) = n := sum_tally1 _ n (n + 2) (fun _ _ => gcd_lt h)
theorem overT_sum {n : Nat} (k : Nat) (h : 1 ≤ n) : sumN (fun c => overT n n c * ((k ^ c : Nat) : Int)) (n + 2) = turnS n k + reflS n k := by
  have e : ∀ c, c < n + 2 → overT n n c * ((k ^ c : Nat) : Int) = turnT n n c * ((k ^ c : Nat) : Int) + sumN (fun j => if reflE n j = c then 1 else 0) n * ((k ^ c : Nat) : Int) := fun c _ => by unfold overT; rw [Int.add_mul]
  rw [sumN_congr e, sumN_add, turnT_sum k h, sum_tally (reflE n) n (n + 2) (fun i _ => by have := reflE_le (n := n) i; omega) fun c => ((k ^ c : Nat) : Int)]
  rfl
theorem overT_all {n : Nat} (h : 1 ≤ n) : sumN (overT n n) (n + 2) = 2 * n := by
  have e : ∀ c, c < n + 2 → overT n n c = turnT n n c + sumN (fun j => if reflE n j = c then 1 else 0) n := fun c _ => rfl
  rw [sumN_congr e, sumN_add, turnT_all h, sum_tally1 (reflE n) n (n + 2) (fun i _ => by have := reflE_le (n := n) i; omega)]
  omega

set_option maxHeartbeats 400000 in
theorem rings_one (n : Int) (g : Value) (w : World) : Calls Try.prog 28 #[.int .i64 n, .int .i64 1, g] w fun e w' => e = .returned (.int .i64 1) ∧ w' = w := by
  go_enter Try.func28, Try.ntmps28
  go_wp2
  go_ret
  exact ⟨rfl, rfl⟩

set_option maxHeartbeats 400000 in
theorem rings_turns (n k : Nat) (w : World) (h1 : 1 ≤ n) (hk : 2 ≤ k) (h : k ^ n ≤ 1000000000000000000) :
    Calls Try.prog 28 #[.int .i64 (n : Int), .int .i64 (k : Int), .func (.func 29) #[] #[]] w fun e w' => e = .returned (.int .i64 (docB n k)) ∧ Below w.heap.size w w' := by
  have hn := few_beads hk h
  have hkk : k < 9223372036854775808 := by
    have := Nat.pow_le_pow_right (show 0 < k by omega) h1
    rw [Nat.pow_one] at this; omega
  have hU := fun B D W (ho : World.ownsMap W Try.prog 3 (plainElem Try.prog 3) B n D) (ht : TallyIs D (turnT n n) (n + 2)) => unlike_any B n k (n + 2) D (turnT n n) W ho ht (fun c => (ind_sum_bd (fun j => Nat.gcd n j = c) n).1) (by omega) hkk (by omega) (by rw [turnT_sum k h1]; have := turnS_small hk h1 h; omega) (by rw [turnT_all h1]; omega)
  rw [turnT_sum k h1, turnT_all h1, ring_div h1 hn] at hU
  have hk1 : ((k : Int) == 1) = false := by simp; omega
  have hTu := turns_any n w h1 (by omega)
  clear h
  go_enter Try.func28, Try.ntmps28
  go_wp2_with (first
    | (go_at_call 29; refine hTu.mono ?_; rintro e w1 ⟨B, D, rfl, hwB, hown, hT, hB⟩)
    | (go_at_call 46; refine (hU B D _ hown hT).mono ?_; rintro e w2 ⟨rfl, hB2⟩))
  go_ret
  exact ⟨rfl, Below.next hB hB2⟩

set_option maxHeartbeats 400000 in
theorem rings_over (n k : Nat) (w : World) (h1 : 1 ≤ n) (hk : 2 ≤ k) (h : k ^ n ≤ 1000000000000000000) :
    Calls Try.prog 28 #[.int .i64 (n : Int), .int .i64 (k : Int), .func (.func 30) #[] #[]] w fun e w' => e = .returned (.int .i64 (docBr n k)) ∧ Below w.heap.size w w' := by
  have hn := few_beads hk h
  have hkk : k < 9223372036854775808 := by
    have := Nat.pow_le_pow_right (show 0 < k by omega) h1
    rw [Nat.pow_one] at this; omega
  have hU := fun B D W (ho : World.ownsMap W Try.prog 3 (plainElem Try.prog 3) B (n + n) D) (ht : TallyIs D (overT n n) (n + 2)) => unlike_any B (n + n) k (n + 2) D (overT n n) W ho ht (fun c => (overT_bd n n c).1) (by omega) hkk (by omega) (by rw [overT_sum k h1]; have := turnS_small hk h1 h; have := reflS_small hk h1 h; omega) (by rw [overT_all h1]; omega)
  rw [overT_sum k h1, overT_all h1, brac_eq h1 hn] at hU
  have hk1 : ((k : Int) == 1) = false := by simp; omega
  have hTu := turnsOver_any n w h1 (by omega)
  clear h
  go_enter Try.func28, Try.ntmps28
  go_wp2_with (first
    | (go_at_call 30; refine hTu.mono ?_; rintro e w1 ⟨B, D, rfl, hwB, hown, hT, hB⟩)
    | (go_at_call 46; refine (hU B D _ hown hT).mono ?_; rintro e w2 ⟨rfl, hB2⟩))
  go_ret
  exact ⟨rfl, Below.next hB hB2⟩

/-- The rings and the bracelets that are answered. -/
def beadsV (n k : Int) : Int := if ringF n k = 0 then (if k = 1 then 1 else docB n.toNat k.toNat) else 0
def bracV (n k : Int) : Int := if ringF n k = 0 then (if k = 1 then 1 else docBr n.toNat k.toNat) else 0

set_option maxHeartbeats 400000 in
theorem Beads_any (n k : Int) (w : World) (hn : n < 9223372036854775808) (hk : k < 9223372036854775808) :
    Calls Try.prog 10 #[.int .i64 n, .int .i64 k] w fun e w' => e = .returned (.tuple #[.int .i64 (beadsV n k), .int .i64 (ringF n k)]) ∧ Below w.heap.size w w' := by
  have hC := fun W => checkRing_any n k W hn hk
  unfold beadsV
  rcases ringF_cases n k with ⟨e, _⟩ | ⟨N, rfl, h1, rfl, e⟩ | ⟨N, K, rfl, rfl, h1, h2, ⟨hp, e⟩ | ⟨hp, e⟩⟩
  · rw [e] at hC ⊢
    rw [if_neg (by omega)]
    go_enter Try.func10, Try.ntmps10
    go_wp2_with (go_at_call 27; refine (hC _).mono ?_; rintro e w1 ⟨rfl, rfl⟩)
    go_ret2
    exact ⟨rfl, Below.refl _ _⟩
  · rw [e] at hC ⊢
    rw [if_pos rfl, if_pos rfl]
    have hR := rings_one N (.func (.func 29) #[] #[])
    go_enter Try.func10, Try.ntmps10
    go_wp2_with (first
      | (go_at_call 27; refine (hC _).mono ?_; rintro e w1 ⟨rfl, rfl⟩)
      | (go_at_call 28; refine (hR _).mono ?_; rintro e w2 ⟨rfl, rfl⟩))
    go_ret2
    exact ⟨rfl, Below.refl _ _⟩
  · rw [e] at hC ⊢
    rw [if_pos rfl, if_neg (by omega), Int.toNat_natCast, Int.toNat_natCast]
    have hR := fun W => rings_turns N K W h1 h2 hp
    clear hp
    go_enter Try.func10, Try.ntmps10
    go_wp2_with (first
      | (go_at_call 27; refine (hC _).mono ?_; rintro e w1 ⟨rfl, rfl⟩)
      | (go_at_call 28; refine (hR _).mono ?_; rintro e w2 ⟨rfl, hB⟩))
    go_ret2
    exact ⟨rfl, hB⟩
  · rw [e] at hC ⊢
    rw [if_neg (by omega)]
    clear hp
    go_enter Try.func10, Try.ntmps10
    go_wp2_with (go_at_call 27; refine (hC _).mono ?_; rintro e w1 ⟨rfl, rfl⟩)
    go_ret2
    exact ⟨rfl, Below.refl _ _⟩

set_option maxHeartbeats 400000 in
theorem Bracelets_any (n k : Int) (w : World) (hn : n < 9223372036854775808) (hk : k < 9223372036854775808) :
    Calls Try.prog 11 #[.int .i64 n, .int .i64 k] w fun e w' => e = .returned (.tuple #[.int .i64 (bracV n k), .int .i64 (ringF n k)]) ∧ Below w.heap.size w w' := by
  have hC := fun W => checkRing_any n k W hn hk
  unfold bracV
  rcases ringF_cases n k with ⟨e, _⟩ | ⟨N, rfl, h1, rfl, e⟩ | ⟨N, K, rfl, rfl, h1, h2, ⟨hp, e⟩ | ⟨hp, e⟩⟩
  · rw [e] at hC ⊢
    rw [if_neg (by omega)]
    go_enter Try.func11, Try.ntmps11
    go_wp2_with (go_at_call 27; refine (hC _).mono ?_; rintro e w1 ⟨rfl, rfl⟩)
    go_ret2
    exact ⟨rfl, Below.refl _ _⟩
  · rw [e] at hC ⊢
    rw [if_pos rfl, if_pos rfl]
    have hR := rings_one N (.func (.func 30) #[] #[])
    go_enter Try.func11, Try.ntmps11
    go_wp2_with (first
      | (go_at_call 27; refine (hC _).mono ?_; rintro e w1 ⟨rfl, rfl⟩)
      | (go_at_call 28; refine (hR _).mono ?_; rintro e w2 ⟨rfl, rfl⟩))
    go_ret2
    exact ⟨rfl, Below.refl _ _⟩
  · rw [e] at hC ⊢
    rw [if_pos rfl, if_neg (by omega), Int.toNat_natCast, Int.toNat_natCast]
    have hR := fun W => rings_over N K W h1 h2 hp
    clear hp
    go_enter Try.func11, Try.ntmps11
    go_wp2_with (first
      | (go_at_call 27; refine (hC _).mono ?_; rintro e w1 ⟨rfl, rfl⟩)
      | (go_at_call 28; refine (hR _).mono ?_; rintro e w2 ⟨rfl, hB⟩))
    go_ret2
    exact ⟨rfl, hB⟩
  · rw [e] at hC ⊢
    rw [if_neg (by omega)]
    clear hp
    go_enter Try.func11, Try.ntmps11
    go_wp2_with (go_at_call 27; refine (hC _).mono ?_; rintro e w1 ⟨rfl, rfl⟩)
    go_ret2
    exact ⟨rfl, Below.refl _ _⟩

end Go.Proofs.Ytmaplmgecohjbaa
