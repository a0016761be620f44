/- The walks of checkTwo, join and Join. -/
import Derived.Test.YtgpkhfpejopacaaDoorK3
import Derived.Test.YtgpkhfpejopacaaDoorPA2
namespace Go.Proofs.YtgpkhfpejopacaaDoor
open Go.RowKit

/-- What is wrong with two of n. -/
def c2F (n a b : Int) : Nat := if a < 0 ∨ n ≤ a ∨ b < 0 ∨ n ≤ b then 1 else if a = b then 6 else 0
set_option maxHeartbeats 4000000 in
theorem checkTwo_any (n a b : Int) (w : World) : Calls Tryd.prog 42 #[.int .i64 n, .int .i64 a, .int .i64 b] w fun e w' => e = .returned (.int .i64 (c2F n a b : Int)) ∧ w' = w := by
  by_cases h1 : a < 0
  · have hz : c2F n a b = 1 := by unfold c2F; rw [if_pos (.inl h1)]
    rw [hz]
    have d1 : decide (a < 0) = true := decide_eq_true h1
    go_enter Tryd.func42, Tryd.ntmps42
    go_wp2
    go_ret
    exact ⟨rfl, rfl⟩
  · have d1 : decide (a < 0) = false := decide_eq_false h1
    by_cases h2 : n ≤ a
    · have hz : c2F n a b = 1 := by unfold c2F; rw [if_pos (.inr (.inl h2))]
      rw [hz]
      have d2 : decide (n ≤ a) = true := decide_eq_true h2
      go_enter Tryd.func42, Tryd.ntmps42
      go_wp2
      go_ret
      exact ⟨rfl, rfl⟩
    · have d2 : decide (n ≤ a) = false := decide_eq_false h2
      by_cases h3 : b < 0
      · have hz : c2F n a b = 1 := by unfold c2F; rw [if_pos (.inr (.inr (.inl h3)))]
        rw [hz]
        have d3 : decide (b < 0) = true := decide_eq_true h3
        go_enter Tryd.func42, Tryd.ntmps42
        go_wp2
        go_ret
        exact ⟨rfl, rfl⟩
      · have d3 : decide (b < 0) = false := decide_eq_false h3
        by_cases h4 : n ≤ b
        · have hz : c2F n a b = 1 := by unfold c2F; rw [if_pos (.inr (.inr (.inr h4)))]
          rw [hz]
          have d4 : decide (n ≤ b) = true := decide_eq_true h4
          go_enter Tryd.func42, Tryd.ntmps42
          go_wp2
          go_ret
          exact ⟨rfl, rfl⟩
        · have d4 : decide (n ≤ b) = false := decide_eq_false h4
          by_cases h5 : a = b
          · have hz : c2F n a b = 6 := by unfold c2F; rw [if_neg (by omega), if_pos h5]
            rw [hz]
            subst h5
            have d5 : (a == a) = true := by simp
            go_enter Tryd.func42, Tryd.ntmps42
            go_wp2
            go_ret
            exact ⟨rfl, rfl⟩
          · have hz : c2F n a b = 0 := by unfold c2F; rw [if_neg (by omega), if_neg h5]
            rw [hz]
            have d5 : (a == b) = false := by simpa using h5
            go_enter Tryd.func42, Tryd.ntmps42
            go_wp2
            go_ret
            exact ⟨rfl, rfl⟩
theorem c2F_nat {n : Nat} {a b : Int} (h : c2F n a b = 0) : ∃ x y : Nat, a = x ∧ b = y ∧ x < n ∧ y < n ∧ x ≠ y := by
  unfold c2F at h
  by_cases h1 : a < 0 ∨ (n : Int) ≤ a ∨ b < 0 ∨ (n : Int) ≤ b
  · rw [if_pos h1] at h; cases h
  · rw [if_neg h1] at h
    by_cases h2 : a = b
    · rw [if_pos h2] at h; cases h
    · exact ⟨a.toNat, b.toNat, by omega, by omega, by omega, by omega, by omega⟩
set_option maxHeartbeats 4000000 in
theorem join1_any (b : List Nat) (p q b1 b2 : Nat) (u : Value) (W : World) (hu : Sl W u (b.map Int.ofNat)) (hb : b.length ≤ 100) (h1 : W.cell? ⟨b1, 0, none⟩ = some (.int .i64 (p : Int))) (h2 : W.cell? ⟨b2, 0, none⟩ = some (.int .i64 (q : Int))) :
    Calls Tryd.prog 69 #[u, .pointer (some ⟨b1, 0, none⟩), .pointer (some ⟨b2, 0, none⟩)] W fun e w' => e = .returned (.bool (b.contains p && b.contains q)) ∧ Below W.heap.size W w' := by
  have C1 := Contains_any b p u W hu hb
  have C2 := Contains_any b q u W hu hb
  generalize b.contains p = tp at *
  generalize b.contains q = tq at *
  obtain ⟨a, n, c, rfl⟩ : ∃ a n c, u = .slice a n c := by obtain ⟨a, c, e, _⟩ := hu; exact ⟨a, _, c, e⟩
  clear hu
  cases tp
  · go_enter Tryd.func69, Tryd.ntmps69
    go_wp2_with (go_at_call 70; refine C1.mono ?_; rintro e w1 ⟨rfl, hw⟩; replace hw := hw.symm; subst hw; clear C1)
    go_ret
    exact ⟨rfl, Below.refl _ _⟩
  · go_enter Tryd.func69, Tryd.ntmps69
    go_wp2_with (first
      | (go_at_call 70; refine C1.mono ?_; rintro e w1 ⟨rfl, hw⟩; replace hw := hw.symm; subst hw; clear C1)
      | (go_at_call 70; refine C2.mono ?_; rintro e w1 ⟨rfl, hw⟩; replace hw := hw.symm; subst hw; clear C2))
    go_ret
    exact ⟨by cases tq <;> rfl, Below.refl _ _⟩
theorem e69 : ∀ args w, (callFunc 69 args).run Tryd.prog w = .ok (.enter 69 args) w := enters_of Tryd.func69 (by kernel_rfl) rfl
set_option maxRecDepth 100000 in
set_option maxHeartbeats 4000000 in
theorem IndexFunc_any (B : List (List Nat)) (p : List Nat → Bool) (k : Nat) (lb : Array Value) (v : Value) (w : World) (hv : Rw w v (toZ B)) (hl : B.length ≤ 200)
    (hp : ∀ W : World, Below w.heap.size w W → ∀ u b, b ∈ B → Sl W u (b.map Int.ofNat) → Calls Tryd.prog 69 (#[u] ++ lb) W fun e w' => e = .returned (.bool (p b)) ∧ Below W.heap.size W w')
    (hk : k < B.length) (hyes : ∀ b, B[k]? = some b → p b = true) (hno : ∀ (j : Nat) (b : List Nat), j < k → B[j]? = some b → p b = false) :
    Calls Tryd.prog 68 #[v, .func (.func 69) #[] lb] w fun e w' => e = .returned (.int .i64 (k : Int)) ∧ Below w.heap.size w w' := by
  have eg := e69
  obtain ⟨a, cap, rfl, hD⟩ := drow_of hv
  have HD : Hid (DRow w a B) := hD
  have HP : Hid (∀ W : World, Below w.heap.size w W → ∀ u b, b ∈ B → Sl W u (b.map Int.ofNat) → Calls Tryd.prog 69 (#[u] ++ lb) W fun e w' => e = .returned (.bool (p b)) ∧ Below W.heap.size W w') := hp
  have HY : Hid (∀ b, B[k]? = some b → p b = true) := hyes
  have HNO : Hid (∀ (j : Nat) (b : List Nat), j < k → B[j]? = some b → p b = false) := hno
  have HAT : Hid (∀ i, i < B.length → ∃ b, B[i]? = some b) := fun i hi => ⟨_, List.getElem?_eq_getElem hi⟩
  generalize B.length = n at *
  clear hv hp hD hyes hno
  go_enter Tryd.func68, Tryd.ntmps68
  go_wp2
  go_loopw [8] (fun i wr => ∃ j : Nat, i = .int .i64 (j : Int) ∧ j ≤ k ∧ Below w.heap.size w wr) (fun i _ => (n - intOf i).toNat)
  case atStart => exact ⟨0, rfl, by omega, Below.refl _ _⟩
  case round =>
    obtain ⟨j, rfl, hj, hB⟩ := hrel
    have hlt : j < n := by omega
    have hdj : decide ((j : Int) < (n : Int)) = true := by simp; omega
    have hji : (j : Int) < n := by omega
    have hj0 : (0 : Int) ≤ (j : Int) := by omega
    obtain ⟨b, hb⟩ := HAT.out j hlt
    obtain ⟨bb, off, ua, uc, rfl, hrow⟩ := HD.out j b hb
    obtain ⟨hr0, hr1⟩ := hrow _ hB
    have D := HP.out _ hB _ b (List.mem_of_getElem? hb) hr1
    by_cases hjk : j = k
    · rw [HY.out b (by rw [← hjk]; exact hb)] at D
      subst hjk
      generalize b.length = bl at *
      clear hrow hr1 hb
      go_wp2_with (go_at_fn 69; refine D.mono ?_; rintro e w1 ⟨rfl, b1⟩; clear D)
      go_ret
      exact ⟨rfl, Below.next hB b1⟩
    · rw [HNO.out j b (by omega) hb] at D
      generalize b.length = bl at *
      clear hrow hr1 hb
      go_wp2_with (go_at_fn 69; refine D.mono ?_; rintro e w1 ⟨rfl, b1⟩; clear D)
      go_roundw
      case rel => exact ⟨j + 1, by go_num, by omega, Below.next hB b1⟩
      case measure => simp [intOf]; omega

end Go.Proofs.YtgpkhfpejopacaaDoor
