/- The walks of what unit, commutes, associates, Idempotent, Left and Right ask. -/
import Derived.Test.YtncnaaohihmjnaaDoorQ2
namespace Go.Proofs.YtncnaaohihmjnaaDoor
open Go.RowKit

theorem Teller.form {v : Value} {m n : Nat} {t : Nat → Nat → Nat} {w : World} (h : Teller v m n t w) : ∃ g lb, v = .func (.func g) #[] lb := by
  obtain ⟨g, lb, rfl, _⟩ := h
  exact ⟨g, lb, rfl⟩
theorem nat_beq (a b : Nat) : ((a : Int) == (b : Int)) = (a == b) := by
  by_cases h : a = b
  · subst h; simp
  · have h1 : ((a : Int) == (b : Int)) = false := beq_eq_false_iff_ne.2 (by omega)
    have h2 : (a == b) = false := beq_eq_false_iff_ne.2 h
    rw [h1, h2]
theorem e40 : ∀ args w, (callFunc 15 args).run Tryd.prog w = .ok (.enter 15 args) w := enters_of Tryd.func15 (by kernel_rfl) rfl
set_option maxHeartbeats 4000000 in
theorem left1_any (n i j k a b x : Nat) (t : Nat → Nat → Nat) (v : Value) (w W : World) (hT : Teller v n n t w) (hB : Below w.heap.size w W) (hi : Bx W i v) (hj : Bx W j (.int .i64 (a : Int))) (hk : Bx W k (.int .i64 (b : Int))) (ha : a < n) (hx : x < n) :
    Calls Tryd.prog 15 #[.int .i64 (x : Int), .pointer (some ⟨i, 0, none⟩), .pointer (some ⟨j, 0, none⟩), .pointer (some ⟨k, 0, none⟩)] W fun e w' => e = .returned (.bool (t a x == b)) ∧ Below W.heap.size W w' := by
  obtain ⟨g, lb, rfl, eg, hT⟩ := hT
  have C : ∀ W', Below W.heap.size W W' → Calls Tryd.prog g (#[.int .i64 (a : Int), .int .i64 (x : Int)] ++ lb) W' fun e w' => e = .returned (.int .i64 (t a x : Int)) ∧ Below W'.heap.size W' w' := fun W' b' => hT W' (Below.next hB b') a x (by assumption) (by assumption)
  have HS : Hid (∀ w', Below W.heap.size W w' → w'.cell? ⟨i, 0, none⟩ = some (.func (.func g) #[] lb) ∧ w'.cell? ⟨j, 0, none⟩ = some (.int .i64 (a : Int)) ∧ w'.cell? ⟨k, 0, none⟩ = some (.int .i64 (b : Int))) := fun w' b' => ⟨(hi.below b').2, (hj.below b').2, (hk.below b').2⟩
  rw [← nat_beq]
  obtain ⟨X, hX⟩ : ∃ X : Int, X = ((t a x : Nat) : Int) := ⟨_, rfl⟩
  rw [← hX] at C ⊢
  obtain ⟨B, hBB⟩ : ∃ B : Int, B = (b : Int) := ⟨_, rfl⟩
  rw [← hBB] at HS ⊢
  obtain ⟨q, hq⟩ : ∃ q, (X == B) = q := ⟨_, rfl⟩
  rw [hq]
  clear hT hi hj hk hX hBB
  go_enter Tryd.func15, Tryd.ntmps15
  go_wp2_with fail
  refine wp_region_noPanic ?_
  refine wp_region_held_drew (S := fun w' => w'.cell? ⟨i, 0, none⟩ = some (.func (.func g) #[] lb) ∧ w'.cell? ⟨j, 0, none⟩ = some (.int .i64 (a : Int)) ∧ w'.cell? ⟨k, 0, none⟩ = some (.int .i64 B)) (by kernel_rfl) (HS.out _ (Below.refl _ W).drew) (fun hSx => ?_)
  have d0 : Below W.heap.size W W.drew := (Below.refl _ W).drew
  refine wpAnyH_take (i := 0) (v := .func (.func g) #[] lb) rfl (by kernel_rfl) (by kernel_rfl) (by kernel_rfl) (fun _ _ _ h => h) (Or.inl ⟨by rfl, fun w' hSw => by (try dsimp only at hSw); obtain ⟨hs0, hs1, hs2⟩ := hSw; go_simp⟩) hSx ?_
  try simp only [Act.put, List.setIfInBounds_toArray]
  refine wpAnyH_take (i := 1) (v := .int .i64 (a : Int)) rfl (by kernel_rfl) (by kernel_rfl) (by kernel_rfl) (fun _ _ _ h => h) (Or.inl ⟨by rfl, fun w' hSw => by (try dsimp only at hSw); obtain ⟨hs0, hs1, hs2⟩ := hSw; go_simp⟩) hSx ?_
  try simp only [Act.put]
  refine wpAnyH_take (i := 2) (v := .int .i64 (x : Int)) rfl (by kernel_rfl) (by kernel_rfl) (by kernel_rfl) (fun _ _ _ h => h) (Or.inl ⟨by rfl, fun w' hSw => by (try dsimp only at hSw); obtain ⟨hs0, hs1, hs2⟩ := hSw; go_simp⟩) hSx ?_
  try simp only [Act.put]
  refine wpAnyH_take (i := 4) (v := .int .i64 B) rfl (by kernel_rfl) (by kernel_rfl) (by kernel_rfl) (fun _ _ _ h => h) (Or.inl ⟨by rfl, fun w' hSw => by (try dsimp only at hSw); obtain ⟨hs0, hs1, hs2⟩ := hSw; go_simp⟩) hSx ?_
  try simp only [Act.put]
  refine wpAnyH_ready (rs := [3]) (by kernel_rfl) (by simp) ?_
  refine AllReadyH.cons rfl (fun J hJ => ?_) AllReadyH.nil
  go_simp
  go_at_fn g
  refine (C _ d0).mono ?_
  rintro e w1 ⟨rfl, b1⟩
  have d1 := Below.next d0 b1
  go_wp2_with fail
  refine hJ.out _ _ (HS.out _ d1) (fun hSx => ?_)
  clear hJ J
  try simp only [Act.put, List.setIfInBounds_toArray, List.set_cons_zero, List.set_cons_succ]
  refine wpAnyH_take (i := 5) (v := .bool q) rfl (by kernel_rfl) (by kernel_rfl) (by kernel_rfl) (fun _ _ _ h => h) (Or.inl ⟨by rfl, fun w' hSw => by (try dsimp only at hSw); obtain ⟨hs0, hs1, hs2⟩ := hSw; go_simp⟩) hSx ?_
  try simp only [Act.put, List.setIfInBounds_toArray]
  refine wpAnyH_take (i := 6) (v := .bool q) rfl (by kernel_rfl) (by kernel_rfl) (by kernel_rfl) (fun _ _ _ h => h) (Or.inl ⟨by rfl, fun w' hSw => by (try dsimp only at hSw); obtain ⟨hs0, hs1, hs2⟩ := hSw; go_simp⟩) hSx ?_
  try simp only [Act.put]
  refine wpAnyH_done (by kernel_rfl) ?_ _
  refine NoPanic.normal ?_
  go_simp
  go_wp2
  go_ret
  exact ⟨rfl, d1⟩
theorem e41 : ∀ args w, (callFunc 16 args).run Tryd.prog w = .ok (.enter 16 args) w := enters_of Tryd.func16 (by kernel_rfl) rfl
set_option maxHeartbeats 4000000 in
theorem right1_any (n i j k a b x : Nat) (t : Nat → Nat → Nat) (v : Value) (w W : World) (hT : Teller v n n t w) (hB : Below w.heap.size w W) (hi : Bx W i v) (hj : Bx W j (.int .i64 (a : Int))) (hk : Bx W k (.int .i64 (b : Int))) (ha : a < n) (hx : x < n) :
    Calls Tryd.prog 16 #[.int .i64 (x : Int), .pointer (some ⟨i, 0, none⟩), .pointer (some ⟨j, 0, none⟩), .pointer (some ⟨k, 0, none⟩)] W fun e w' => e = .returned (.bool (t x a == b)) ∧ Below W.heap.size W w' := by
  obtain ⟨g, lb, rfl, eg, hT⟩ := hT
  have C : ∀ W', Below W.heap.size W W' → Calls Tryd.prog g (#[.int .i64 (x : Int), .int .i64 (a : Int)] ++ lb) W' fun e w' => e = .returned (.int .i64 (t x a : Int)) ∧ Below W'.heap.size W' w' := fun W' b' => hT W' (Below.next hB b') x a (by assumption) (by assumption)
  have HS : Hid (∀ w', Below W.heap.size W w' → w'.cell? ⟨i, 0, none⟩ = some (.func (.func g) #[] lb) ∧ w'.cell? ⟨j, 0, none⟩ = some (.int .i64 (a : Int)) ∧ w'.cell? ⟨k, 0, none⟩ = some (.int .i64 (b : Int))) := fun w' b' => ⟨(hi.below b').2, (hj.below b').2, (hk.below b').2⟩
  rw [← nat_beq]
  obtain ⟨X, hX⟩ : ∃ X : Int, X = ((t x a : Nat) : Int) := ⟨_, rfl⟩
  rw [← hX] at C ⊢
  obtain ⟨B, hBB⟩ : ∃ B : Int, B = (b : Int) := ⟨_, rfl⟩
  rw [← hBB] at HS ⊢
  obtain ⟨q, hq⟩ : ∃ q, (X == B) = q := ⟨_, rfl⟩
  rw [hq]
  clear hT hi hj hk hX hBB
  go_enter Tryd.func16, Tryd.ntmps16
  go_wp2_with fail
  refine wp_region_noPanic ?_
  refine wp_region_held_drew (S := fun w' => w'.cell? ⟨i, 0, none⟩ = some (.func (.func g) #[] lb) ∧ w'.cell? ⟨j, 0, none⟩ = some (.int .i64 (a : Int)) ∧ w'.cell? ⟨k, 0, none⟩ = some (.int .i64 B)) (by kernel_rfl) (HS.out _ (Below.refl _ W).drew) (fun hSx => ?_)
  have d0 : Below W.heap.size W W.drew := (Below.refl _ W).drew
  refine wpAnyH_take (i := 0) (v := .func (.func g) #[] lb) rfl (by kernel_rfl) (by kernel_rfl) (by kernel_rfl) (fun _ _ _ h => h) (Or.inl ⟨by rfl, fun w' hSw => by (try dsimp only at hSw); obtain ⟨hs0, hs1, hs2⟩ := hSw; go_simp⟩) hSx ?_
  try simp only [Act.put, List.setIfInBounds_toArray]
  refine wpAnyH_take (i := 1) (v := .int .i64 (x : Int)) rfl (by kernel_rfl) (by kernel_rfl) (by kernel_rfl) (fun _ _ _ h => h) (Or.inl ⟨by rfl, fun w' hSw => by (try dsimp only at hSw); obtain ⟨hs0, hs1, hs2⟩ := hSw; go_simp⟩) hSx ?_
  try simp only [Act.put]
  refine wpAnyH_take (i := 2) (v := .int .i64 (a : Int)) rfl (by kernel_rfl) (by kernel_rfl) (by kernel_rfl) (fun _ _ _ h => h) (Or.inl ⟨by rfl, fun w' hSw => by (try dsimp only at hSw); obtain ⟨hs0, hs1, hs2⟩ := hSw; go_simp⟩) hSx ?_
  try simp only [Act.put]
  refine wpAnyH_take (i := 4) (v := .int .i64 B) rfl (by kernel_rfl) (by kernel_rfl) (by kernel_rfl) (fun _ _ _ h => h) (Or.inl ⟨by rfl, fun w' hSw => by (try dsimp only at hSw); obtain ⟨hs0, hs1, hs2⟩ := hSw; go_simp⟩) hSx ?_
  try simp only [Act.put]
  refine wpAnyH_ready (rs := [3]) (by kernel_rfl) (by simp) ?_
  refine AllReadyH.cons rfl (fun J hJ => ?_) AllReadyH.nil
  go_simp
  go_at_fn g
  refine (C _ d0).mono ?_
  rintro e w1 ⟨rfl, b1⟩
  have d1 := Below.next d0 b1
  go_wp2_with fail
  refine hJ.out _ _ (HS.out _ d1) (fun hSx => ?_)
  clear hJ J
  try simp only [Act.put, List.setIfInBounds_toArray, List.set_cons_zero, List.set_cons_succ]
  refine wpAnyH_take (i := 5) (v := .bool q) rfl (by kernel_rfl) (by kernel_rfl) (by kernel_rfl) (fun _ _ _ h => h) (Or.inl ⟨by rfl, fun w' hSw => by (try dsimp only at hSw); obtain ⟨hs0, hs1, hs2⟩ := hSw; go_simp⟩) hSx ?_
  try simp only [Act.put, List.setIfInBounds_toArray]
  refine wpAnyH_take (i := 6) (v := .bool q) rfl (by kernel_rfl) (by kernel_rfl) (by kernel_rfl) (fun _ _ _ h => h) (Or.inl ⟨by rfl, fun w' hSw => by (try dsimp only at hSw); obtain ⟨hs0, hs1, hs2⟩ := hSw; go_simp⟩) hSx ?_
  try simp only [Act.put]
  refine wpAnyH_done (by kernel_rfl) ?_ _
  refine NoPanic.normal ?_
  go_simp
  go_wp2
  go_ret
  exact ⟨rfl, d1⟩
theorem e56 : ∀ args w, (callFunc 35 args).run Tryd.prog w = .ok (.enter 35 args) w := enters_of Tryd.func35 (by kernel_rfl) rfl
set_option maxHeartbeats 8000000 in
theorem associates2_any (n i j k x y z : Nat) (t : Nat → Nat → Nat) (v : Value) (w W : World) (ht : ∀ a b, a < n → b < n → t a b < n) (hT : Teller v n n t w) (hB : Below w.heap.size w W) (hi : Bx W i v) (hj : Bx W j (.int .i64 (x : Int))) (hk : Bx W k (.int .i64 (y : Int))) (hx : x < n) (hy : y < n) (hz : z < n) :
    Calls Tryd.prog 35 #[.int .i64 (z : Int), .pointer (some ⟨i, 0, none⟩), .pointer (some ⟨j, 0, none⟩), .pointer (some ⟨k, 0, none⟩)] W fun e w' => e = .returned (.bool (t (t x y) z == t x (t y z))) ∧ Below W.heap.size W w' := by
  obtain ⟨g, lb, rfl, eg, hT⟩ := hT
  have C1 : ∀ W', Below W.heap.size W W' → Calls Tryd.prog g (#[.int .i64 (x : Int), .int .i64 (y : Int)] ++ lb) W' fun e w' => e = .returned (.int .i64 (t x y : Int)) ∧ Below W'.heap.size W' w' := fun W' b' => hT W' (Below.next hB b') x y hx hy
  have C2 : ∀ W', Below W.heap.size W W' → Calls Tryd.prog g (#[.int .i64 (t x y : Int), .int .i64 (z : Int)] ++ lb) W' fun e w' => e = .returned (.int .i64 (t (t x y) z : Int)) ∧ Below W'.heap.size W' w' := fun W' b' => hT W' (Below.next hB b') (t x y) z (ht x y hx hy) hz
  have C3 : ∀ W', Below W.heap.size W W' → Calls Tryd.prog g (#[.int .i64 (y : Int), .int .i64 (z : Int)] ++ lb) W' fun e w' => e = .returned (.int .i64 (t y z : Int)) ∧ Below W'.heap.size W' w' := fun W' b' => hT W' (Below.next hB b') y z hy hz
  have C4 : ∀ W', Below W.heap.size W W' → Calls Tryd.prog g (#[.int .i64 (x : Int), .int .i64 (t y z : Int)] ++ lb) W' fun e w' => e = .returned (.int .i64 (t x (t y z) : Int)) ∧ Below W'.heap.size W' w' := fun W' b' => hT W' (Below.next hB b') x (t y z) hx (ht y z hy hz)
  have HS : Hid (∀ w', Below W.heap.size W w' → w'.cell? ⟨i, 0, none⟩ = some (.func (.func g) #[] lb) ∧ w'.cell? ⟨j, 0, none⟩ = some (.int .i64 (x : Int)) ∧ w'.cell? ⟨k, 0, none⟩ = some (.int .i64 (y : Int))) := fun w' b' => ⟨(hi.below b').2, (hj.below b').2, (hk.below b').2⟩
  rw [← nat_beq]
  obtain ⟨M, hM⟩ : ∃ X : Int, X = ((t (t x y) z : Nat) : Int) := ⟨_, rfl⟩
  rw [← hM] at C2 ⊢
  obtain ⟨N, hN⟩ : ∃ X : Int, X = ((t x (t y z) : Nat) : Int) := ⟨_, rfl⟩
  rw [← hN] at C4 ⊢
  obtain ⟨X, hX⟩ : ∃ X : Int, X = ((t x y : Nat) : Int) := ⟨_, rfl⟩
  rw [← hX] at C1 C2
  obtain ⟨Y, hY⟩ : ∃ Y : Int, Y = ((t y z : Nat) : Int) := ⟨_, rfl⟩
  rw [← hY] at C3 C4
  obtain ⟨q, hq⟩ : ∃ q, (M == N) = q := ⟨_, rfl⟩
  rw [hq]
  clear hT hi hj hk hX hY hM hN
  go_enter Tryd.func35, Tryd.ntmps35
  go_wp2_with fail
  refine wp_region_noPanic ?_
  refine wp_region_held_drew (S := fun w' => w'.cell? ⟨i, 0, none⟩ = some (.func (.func g) #[] lb) ∧ w'.cell? ⟨j, 0, none⟩ = some (.int .i64 (x : Int)) ∧ w'.cell? ⟨k, 0, none⟩ = some (.int .i64 (y : Int))) (by kernel_rfl) (HS.out _ (Below.refl _ W).drew) (fun hSx => ?_)
  have d0 : Below W.heap.size W W.drew := (Below.refl _ W).drew
  refine wpAnyH_take (i := 0) (v := .func (.func g) #[] lb) rfl (by kernel_rfl) (by kernel_rfl) (by kernel_rfl) (fun _ _ _ h => h) (Or.inl ⟨by rfl, fun w' hSw => by (try dsimp only at hSw); obtain ⟨hs0, hs1, hs2⟩ := hSw; go_simp⟩) hSx ?_
  try simp only [Act.put, List.setIfInBounds_toArray]
  refine wpAnyH_take (i := 1) (v := .func (.func g) #[] lb) rfl (by kernel_rfl) (by kernel_rfl) (by kernel_rfl) (fun _ _ _ h => h) (Or.inl ⟨by rfl, fun w' hSw => by (try dsimp only at hSw); obtain ⟨hs0, hs1, hs2⟩ := hSw; go_simp⟩) hSx ?_
  try simp only [Act.put]
  refine wpAnyH_take (i := 2) (v := .int .i64 (x : Int)) rfl (by kernel_rfl) (by kernel_rfl) (by kernel_rfl) (fun _ _ _ h => h) (Or.inl ⟨by rfl, fun w' hSw => by (try dsimp only at hSw); obtain ⟨hs0, hs1, hs2⟩ := hSw; go_simp⟩) hSx ?_
  try simp only [Act.put]
  refine wpAnyH_take (i := 3) (v := .int .i64 (y : Int)) rfl (by kernel_rfl) (by kernel_rfl) (by kernel_rfl) (fun _ _ _ h => h) (Or.inl ⟨by rfl, fun w' hSw => by (try dsimp only at hSw); obtain ⟨hs0, hs1, hs2⟩ := hSw; go_simp⟩) hSx ?_
  try simp only [Act.put]
  refine wpAnyH_take (i := 5) (v := .int .i64 (z : Int)) rfl (by kernel_rfl) (by kernel_rfl) (by kernel_rfl) (fun _ _ _ h => h) (Or.inl ⟨by rfl, fun w' hSw => by (try dsimp only at hSw); obtain ⟨hs0, hs1, hs2⟩ := hSw; go_simp⟩) hSx ?_
  try simp only [Act.put]
  refine wpAnyH_take (i := 7) (v := .func (.func g) #[] lb) rfl (by kernel_rfl) (by kernel_rfl) (by kernel_rfl) (fun _ _ _ h => h) (Or.inl ⟨by rfl, fun w' hSw => by (try dsimp only at hSw); obtain ⟨hs0, hs1, hs2⟩ := hSw; go_simp⟩) hSx ?_
  try simp only [Act.put]
  refine wpAnyH_take (i := 8) (v := .int .i64 (x : Int)) rfl (by kernel_rfl) (by kernel_rfl) (by kernel_rfl) (fun _ _ _ h => h) (Or.inl ⟨by rfl, fun w' hSw => by (try dsimp only at hSw); obtain ⟨hs0, hs1, hs2⟩ := hSw; go_simp⟩) hSx ?_
  try simp only [Act.put]
  refine wpAnyH_take (i := 9) (v := .func (.func g) #[] lb) rfl (by kernel_rfl) (by kernel_rfl) (by kernel_rfl) (fun _ _ _ h => h) (Or.inl ⟨by rfl, fun w' hSw => by (try dsimp only at hSw); obtain ⟨hs0, hs1, hs2⟩ := hSw; go_simp⟩) hSx ?_
  try simp only [Act.put]
  refine wpAnyH_take (i := 10) (v := .int .i64 (y : Int)) rfl (by kernel_rfl) (by kernel_rfl) (by kernel_rfl) (fun _ _ _ h => h) (Or.inl ⟨by rfl, fun w' hSw => by (try dsimp only at hSw); obtain ⟨hs0, hs1, hs2⟩ := hSw; go_simp⟩) hSx ?_
  try simp only [Act.put]
  refine wpAnyH_take (i := 11) (v := .int .i64 (z : Int)) rfl (by kernel_rfl) (by kernel_rfl) (by kernel_rfl) (fun _ _ _ h => h) (Or.inl ⟨by rfl, fun w' hSw => by (try dsimp only at hSw); obtain ⟨hs0, hs1, hs2⟩ := hSw; go_simp⟩) hSx ?_
  try simp only [Act.put]
  refine wpAnyH_ready (rs := [4]) (by kernel_rfl) (by simp) ?_
  refine AllReadyH.cons rfl (fun J hJ => ?_) AllReadyH.nil
  go_simp
  go_at_fn g
  refine (C1 _ d0).mono ?_
  rintro e w1 ⟨rfl, b1⟩
  have d1 := Below.next d0 b1
  go_wp2_with fail
  refine hJ.out _ _ (HS.out _ d1) (fun hSx => ?_)
  clear hJ J
  try simp only [Act.put, List.setIfInBounds_toArray, List.set_cons_zero, List.set_cons_succ]
  refine wpAnyH_ready (rs := [6]) (by kernel_rfl) (by simp) ?_
  refine AllReadyH.cons rfl (fun J hJ => ?_) AllReadyH.nil
  go_simp
  go_at_fn g
  refine (C2 _ d1).mono ?_
  rintro e w2 ⟨rfl, b2⟩
  have d2 := Below.next d1 b2
  go_wp2_with fail
  refine hJ.out _ _ (HS.out _ d2) (fun hSx => ?_)
  clear hJ J
  try simp only [Act.put, List.setIfInBounds_toArray, List.set_cons_zero, List.set_cons_succ]
  refine wpAnyH_ready (rs := [12]) (by kernel_rfl) (by simp) ?_
  refine AllReadyH.cons rfl (fun J hJ => ?_) AllReadyH.nil
  go_simp
  go_at_fn g
  refine (C3 _ d2).mono ?_
  rintro e w3 ⟨rfl, b3⟩
  have d3 := Below.next d2 b3
  go_wp2_with fail
  refine hJ.out _ _ (HS.out _ d3) (fun hSx => ?_)
  clear hJ J
  try simp only [Act.put, List.setIfInBounds_toArray, List.set_cons_zero, List.set_cons_succ]
  refine wpAnyH_ready (rs := [13]) (by kernel_rfl) (by simp) ?_
  refine AllReadyH.cons rfl (fun J hJ => ?_) AllReadyH.nil
  go_simp
  go_at_fn g
  refine (C4 _ d3).mono ?_
  rintro e w4 ⟨rfl, b4⟩
  have d4 := Below.next d3 b4
  go_wp2_with fail
  refine hJ.out _ _ (HS.out _ d4) (fun hSx => ?_)
  clear hJ J
  try simp only [Act.put, List.setIfInBounds_toArray, List.set_cons_zero, List.set_cons_succ]
  refine wpAnyH_take (i := 14) (v := .bool q) rfl (by kernel_rfl) (by kernel_rfl) (by kernel_rfl) (fun _ _ _ h => h) (Or.inl ⟨by rfl, fun w' hSw => by (try dsimp only at hSw); obtain ⟨hs0, hs1, hs2⟩ := hSw; go_simp⟩) hSx ?_
  try simp only [Act.put, List.setIfInBounds_toArray]
  refine wpAnyH_take (i := 15) (v := .bool q) rfl (by kernel_rfl) (by kernel_rfl) (by kernel_rfl) (fun _ _ _ h => h) (Or.inl ⟨by rfl, fun w' hSw => by (try dsimp only at hSw); obtain ⟨hs0, hs1, hs2⟩ := hSw; go_simp⟩) hSx ?_
  try simp only [Act.put]
  refine wpAnyH_done (by kernel_rfl) ?_ _
  refine NoPanic.normal ?_
  go_simp
  go_wp2
  go_ret
  exact ⟨rfl, d4⟩
end Go.Proofs.YtncnaaohihmjnaaDoor
