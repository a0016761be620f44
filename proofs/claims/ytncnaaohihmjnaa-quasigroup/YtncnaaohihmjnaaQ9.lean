/- The walks of holding, closed, parts. -/
import Derived.Test.YtncnaaohihmjnaaQ5
namespace Go.Proofs.Ytncnaaohihmjnaa
open Go.RowKit

theorem and_u : ∀ a : Fin 256, bits BinOp.and IntKind.u64 ((a.val : Nat) : Int) 1 = ((a.val % 2 : Nat) : Int) := by decide +kernel
theorem and_i : ∀ a : Fin 256, bits BinOp.and IntKind.i64 ((a.val : Nat) : Int) 1 = ((a.val % 2 : Nat) : Int) := by decide +kernel
theorem shr_cast (set x : Nat) : (set : Int) / 2 ^ x = ((set / 2 ^ x : Nat) : Int) := by simp
theorem shr_lt {set x : Nat} (h : set < 256) : set / 2 ^ x < 256 := Nat.lt_of_le_of_lt (Nat.div_le_self _ _) h
theorem bit_u {set : Nat} (x : Nat) (hs : set < 256) : (bits BinOp.and IntKind.u64 ((set : Int) / 2 ^ x) 1 == 1) = set.testBit x := by
  rw [shr_cast, and_u ⟨_, shr_lt hs⟩, Nat.testBit_eq_decide_div_mod_eq]
  show ((((set / 2 ^ x) % 2 : Nat) : Int) == ((1 : Nat) : Int)) = _
  by_cases h : set / 2 ^ x % 2 = 1
  · rw [h]; rfl
  · rw [decide_eq_false h]
    exact beq_eq_false_iff_ne.2 (by omega)
theorem e70 : ∀ args w, (callFunc 70 args).run Try.prog w = .ok (.enter 70 args) w := enters_of Try.func70 (by kernel_rfl) rfl
set_option maxHeartbeats 1000000 in
theorem holding1_any (b set x : Nat) (W : World) (hs : set < 256) (hx : x < 8) (hb : W.cell? ⟨b, 0, none⟩ = some (.int .u64 (set : Int))) :
    Calls Try.prog 70 #[.int .i64 (x : Int), .pointer (some ⟨b, 0, none⟩)] W fun e w' => e = .returned (.bool (set.testBit x)) ∧ Below W.heap.size W w' := by
  have hr := bit_u x hs
  obtain ⟨q, hq⟩ : ∃ q, set.testBit x = q := ⟨_, rfl⟩
  rw [hq] at hr ⊢
  clear hq
  go_enter Try.func70, Try.ntmps70
  go_wp2
  go_ret
  exact ⟨rfl, Below.refl _ _⟩
set_option maxHeartbeats 1000000 in
theorem holding_any (n set : Nat) (w : World) (hn : n ≤ 8) (hs : set < 256) :
    Calls Try.prog 59 #[.int .u64 (set : Int)] w fun e w' => (∃ y, e = .returned y ∧ Asker y n set.testBit w') ∧ Below w.heap.size w w' := by
  go_enter Try.func59, Try.ntmps59
  go_wp2
  go_ret
  exact ⟨⟨_, rfl, 70, _, rfl, e70, fun W b x hx => holding1_any w.heap.size set x W hs (by omega) ((bx_new w _ _).below b).2⟩, balloc w _⟩
theorem e69 : ∀ args w, (callFunc 69 args).run Try.prog w = .ok (.enter 69 args) w := enters_of Try.func69 (by kernel_rfl) rfl
set_option maxHeartbeats 8000000 in
theorem closed1_any (n i j x y : Nat) (t : Nat → Nat → Nat) (H : Nat → Bool) (u v : Value) (w W : World) (ht : ∀ a b, a < n → b < n → t a b < n) (hT : Teller v n n t w) (hA : Asker u n H w) (hB : Below w.heap.size w W) (hi : Bx W i u) (hj : Bx W j v) (hx : x < n) (hy : y < n) :
    Calls Try.prog 69 #[.int .i64 (x : Int), .int .i64 (y : Int), .pointer (some ⟨i, 0, none⟩), .pointer (some ⟨j, 0, none⟩)] W fun e w' => e = .returned (.bool (!H x || !H y || H (t x y))) ∧ Below W.heap.size W w' := by
  obtain ⟨g, lb, rfl, eg, hT⟩ := hT
  obtain ⟨h, lc, rfl, eh, hA⟩ := hA
  have C1 : ∀ W', Below W.heap.size W W' → Calls Try.prog h (#[.int .i64 (x : Int)] ++ lc) W' fun e w' => e = .returned (.bool (H x)) ∧ Below W'.heap.size W' w' := fun W' b' => hA W' (Below.next hB b') x hx
  have C2 : ∀ W', Below W.heap.size W W' → Calls Try.prog h (#[.int .i64 (y : Int)] ++ lc) W' fun e w' => e = .returned (.bool (H y)) ∧ Below W'.heap.size W' w' := fun W' b' => hA W' (Below.next hB b') y hy
  have C3 : ∀ W', Below W.heap.size W W' → Calls Try.prog g (#[.int .i64 (x : Int), .int .i64 (y : Int)] ++ lb) W' fun e w' => e = .returned (.int .i64 (t x y : Int)) ∧ Below W'.heap.size W' w' := fun W' b' => hT W' (Below.next hB b') x y hx hy
  have C4 : ∀ W', Below W.heap.size W W' → Calls Try.prog h (#[.int .i64 (t x y : Int)] ++ lc) W' fun e w' => e = .returned (.bool (H (t x y))) ∧ Below W'.heap.size W' w' := fun W' b' => hA W' (Below.next hB b') (t x y) (ht x y hx hy)
  have HS : Hid (∀ w', Below W.heap.size W w' → w'.cell? ⟨i, 0, none⟩ = some (.func (.func h) #[] lc) ∧ w'.cell? ⟨j, 0, none⟩ = some (.func (.func g) #[] lb)) := fun w' b' => ⟨(hi.below b').2, (hj.below b').2⟩
  obtain ⟨r, hr⟩ : ∃ r, H (t x y) = r := ⟨_, rfl⟩
  rw [hr] at C4 ⊢
  obtain ⟨X, hX⟩ : ∃ X : Int, X = ((t x y : Nat) : Int) := ⟨_, rfl⟩
  rw [← hX] at C3 C4
  obtain ⟨p, hp⟩ : ∃ r, H x = r := ⟨_, rfl⟩
  rw [hp] at C1 ⊢
  obtain ⟨q, hq⟩ : ∃ r, H y = r := ⟨_, rfl⟩
  rw [hq] at C2 ⊢
  clear hT hA hi hj hX hp hq hr ht
  cases p with
  | false =>
    go_enter Try.func69, Try.ntmps69
    go_wp2_with fail
    refine wp_region_noPanic ?_
    refine wp_region_held_drew (S := fun w' => w'.cell? ⟨i, 0, none⟩ = some (.func (.func h) #[] lc) ∧ w'.cell? ⟨j, 0, none⟩ = some (.func (.func g) #[] lb)) (by kernel_rfl) (HS.out _ (Below.refl _ W).drew) (fun hSx => ?_)
    have d0 : Below W.heap.size W W.drew := (Below.refl _ W).drew
    refine wpAnyH_take (i := 0) (v := .func (.func h) #[] lc) rfl (by kernel_rfl) (by kernel_rfl) (by kernel_rfl) (fun _ _ _ h => h) (Or.inl ⟨by rfl, fun w' hSw => by (try dsimp only at hSw); obtain ⟨hs0, hs1⟩ := hSw; go_simp⟩) hSx ?_
    try simp only [Act.put, List.setIfInBounds_toArray]
    refine wpAnyH_take (i := 1) (v := .int .i64 (x : Int)) rfl (by kernel_rfl) (by kernel_rfl) (by kernel_rfl) (fun _ _ _ h => h) (Or.inl ⟨by rfl, fun w' hSw => by (try dsimp only at hSw); obtain ⟨hs0, hs1⟩ := hSw; go_simp⟩) hSx ?_
    try simp only [Act.put]
    refine wpAnyH_ready (rs := [2]) (by kernel_rfl) (by simp) ?_
    refine AllReadyH.cons rfl (fun J hJ => ?_) AllReadyH.nil
    go_simp
    go_at_fn h
    refine (C1 _ d0).mono ?_
    rintro e w1 ⟨rfl, b1⟩
    have d1 := Below.next d0 b1
    go_wp2_with fail
    refine hJ.out _ _ (HS.out _ d1) (fun hSx => ?_)
    clear hJ J
    try simp only [Act.put, List.setIfInBounds_toArray, List.set_cons_zero, List.set_cons_succ]
    refine wpAnyH_take (i := 3) (v := .bool true) rfl (by kernel_rfl) (by kernel_rfl) (by kernel_rfl) (fun _ _ _ h => h) (Or.inl ⟨by rfl, fun w' hSw => by (try dsimp only at hSw); obtain ⟨hs0, hs1⟩ := hSw; go_simp⟩) hSx ?_
    try simp only [Act.put, List.setIfInBounds_toArray]
    refine wpAnyH_take (i := 4) (v := .bool true) rfl (by kernel_rfl) (by kernel_rfl) (by kernel_rfl) (fun _ _ _ h => h) (Or.inl ⟨by rfl, fun w' hSw => by (try dsimp only at hSw); obtain ⟨hs0, hs1⟩ := hSw; go_simp⟩) hSx ?_
    try simp only [Act.put]
    refine wpAnyH_take (i := 5) (v := undef) rfl (by kernel_rfl) (by kernel_rfl) (by kernel_rfl) (fun _ _ _ h => h) (Or.inr ⟨by kernel_rfl, rfl⟩) hSx ?_
    try simp only [Act.put]
    refine wpAnyH_take (i := 6) (v := undef) rfl (by kernel_rfl) (by kernel_rfl) (by kernel_rfl) (fun _ _ _ h => h) (Or.inr ⟨by kernel_rfl, rfl⟩) hSx ?_
    try simp only [Act.put]
    refine wpAnyH_take (i := 7) (v := undef) rfl (by kernel_rfl) (by kernel_rfl) (by kernel_rfl) (fun _ _ _ h => h) (Or.inr ⟨by kernel_rfl, rfl⟩) hSx ?_
    try simp only [Act.put]
    refine wpAnyH_take (i := 8) (v := undef) rfl (by kernel_rfl) (by kernel_rfl) (by kernel_rfl) (fun _ _ _ h => h) (Or.inr ⟨by kernel_rfl, rfl⟩) hSx ?_
    try simp only [Act.put]
    refine wpAnyH_take (i := 9) (v := .bool true) rfl (by kernel_rfl) (by kernel_rfl) (by kernel_rfl) (fun _ _ _ h => h) (Or.inl ⟨by rfl, fun w' hSw => by (try dsimp only at hSw); obtain ⟨hs0, hs1⟩ := hSw; go_simp⟩) hSx ?_
    try simp only [Act.put]
    refine wpAnyH_take (i := 10) (v := .bool true) rfl (by kernel_rfl) (by kernel_rfl) (by kernel_rfl) (fun _ _ _ h => h) (Or.inl ⟨by rfl, fun w' hSw => by (try dsimp only at hSw); obtain ⟨hs0, hs1⟩ := hSw; go_simp⟩) hSx ?_
    try simp only [Act.put]
    refine wpAnyH_take (i := 11) (v := undef) rfl (by kernel_rfl) (by kernel_rfl) (by kernel_rfl) (fun _ _ _ h => h) (Or.inr ⟨by kernel_rfl, rfl⟩) hSx ?_
    try simp only [Act.put]
    refine wpAnyH_take (i := 12) (v := undef) rfl (by kernel_rfl) (by kernel_rfl) (by kernel_rfl) (fun _ _ _ h => h) (Or.inr ⟨by kernel_rfl, rfl⟩) hSx ?_
    try simp only [Act.put]
    refine wpAnyH_take (i := 13) (v := undef) rfl (by kernel_rfl) (by kernel_rfl) (by kernel_rfl) (fun _ _ _ h => h) (Or.inr ⟨by kernel_rfl, rfl⟩) hSx ?_
    try simp only [Act.put]
    refine wpAnyH_take (i := 14) (v := undef) rfl (by kernel_rfl) (by kernel_rfl) (by kernel_rfl) (fun _ _ _ h => h) (Or.inr ⟨by kernel_rfl, rfl⟩) hSx ?_
    try simp only [Act.put]
    refine wpAnyH_take (i := 15) (v := undef) rfl (by kernel_rfl) (by kernel_rfl) (by kernel_rfl) (fun _ _ _ h => h) (Or.inr ⟨by kernel_rfl, rfl⟩) hSx ?_
    try simp only [Act.put]
    refine wpAnyH_take (i := 16) (v := undef) rfl (by kernel_rfl) (by kernel_rfl) (by kernel_rfl) (fun _ _ _ h => h) (Or.inr ⟨by kernel_rfl, rfl⟩) hSx ?_
    try simp only [Act.put]
    refine wpAnyH_take (i := 17) (v := .bool true) rfl (by kernel_rfl) (by kernel_rfl) (by kernel_rfl) (fun _ _ _ h => h) (Or.inl ⟨by rfl, fun w' hSw => by (try dsimp only at hSw); obtain ⟨hs0, hs1⟩ := hSw; go_simp⟩) hSx ?_
    try simp only [Act.put]
    refine wpAnyH_take (i := 18) (v := .bool true) rfl (by kernel_rfl) (by kernel_rfl) (by kernel_rfl) (fun _ _ _ h => h) (Or.inl ⟨by rfl, fun w' hSw => by (try dsimp only at hSw); obtain ⟨hs0, hs1⟩ := hSw; go_simp⟩) hSx ?_
    try simp only [Act.put]
    refine wpAnyH_done (by kernel_rfl) ?_ _
    refine NoPanic.normal ?_
    go_simp
    go_wp2
    go_ret
    exact ⟨rfl, d1⟩
  | true =>
    cases q with
    | false =>
      go_enter Try.func69, Try.ntmps69
      go_wp2_with fail
      refine wp_region_noPanic ?_
      refine wp_region_held_drew (S := fun w' => w'.cell? ⟨i, 0, none⟩ = some (.func (.func h) #[] lc) ∧ w'.cell? ⟨j, 0, none⟩ = some (.func (.func g) #[] lb)) (by kernel_rfl) (HS.out _ (Below.refl _ W).drew) (fun hSx => ?_)
      have d0 : Below W.heap.size W W.drew := (Below.refl _ W).drew
      refine wpAnyH_take (i := 0) (v := .func (.func h) #[] lc) rfl (by kernel_rfl) (by kernel_rfl) (by kernel_rfl) (fun _ _ _ h => h) (Or.inl ⟨by rfl, fun w' hSw => by (try dsimp only at hSw); obtain ⟨hs0, hs1⟩ := hSw; go_simp⟩) hSx ?_
      try simp only [Act.put, List.setIfInBounds_toArray]
      refine wpAnyH_take (i := 1) (v := .int .i64 (x : Int)) rfl (by kernel_rfl) (by kernel_rfl) (by kernel_rfl) (fun _ _ _ h => h) (Or.inl ⟨by rfl, fun w' hSw => by (try dsimp only at hSw); obtain ⟨hs0, hs1⟩ := hSw; go_simp⟩) hSx ?_
      try simp only [Act.put]
      refine wpAnyH_ready (rs := [2]) (by kernel_rfl) (by simp) ?_
      refine AllReadyH.cons rfl (fun J hJ => ?_) AllReadyH.nil
      go_simp
      go_at_fn h
      refine (C1 _ d0).mono ?_
      rintro e w1 ⟨rfl, b1⟩
      have d1 := Below.next d0 b1
      go_wp2_with fail
      refine hJ.out _ _ (HS.out _ d1) (fun hSx => ?_)
      clear hJ J
      try simp only [Act.put, List.setIfInBounds_toArray, List.set_cons_zero, List.set_cons_succ]
      refine wpAnyH_take (i := 3) (v := .bool false) rfl (by kernel_rfl) (by kernel_rfl) (by kernel_rfl) (fun _ _ _ h => h) (Or.inl ⟨by rfl, fun w' hSw => by (try dsimp only at hSw); obtain ⟨hs0, hs1⟩ := hSw; go_simp⟩) hSx ?_
      try simp only [Act.put, List.setIfInBounds_toArray]
      refine wpAnyH_take (i := 4) (v := .bool false) rfl (by kernel_rfl) (by kernel_rfl) (by kernel_rfl) (fun _ _ _ h => h) (Or.inl ⟨by rfl, fun w' hSw => by (try dsimp only at hSw); obtain ⟨hs0, hs1⟩ := hSw; go_simp⟩) hSx ?_
      try simp only [Act.put]
      refine wpAnyH_take (i := 5) (v := .func (.func h) #[] lc) rfl (by kernel_rfl) (by kernel_rfl) (by kernel_rfl) (fun _ _ _ h => h) (Or.inl ⟨by kernel_rfl, fun w' hSw => by (try dsimp only at hSw); obtain ⟨hs0, hs1⟩ := hSw; go_simp⟩) hSx ?_
      try simp only [Act.put]
      refine wpAnyH_take (i := 6) (v := .int .i64 (y : Int)) rfl (by kernel_rfl) (by kernel_rfl) (by kernel_rfl) (fun _ _ _ h => h) (Or.inl ⟨by kernel_rfl, fun w' hSw => by (try dsimp only at hSw); obtain ⟨hs0, hs1⟩ := hSw; go_simp⟩) hSx ?_
      try simp only [Act.put]
      refine wpAnyH_ready (rs := [7]) (by kernel_rfl) (by simp) ?_
      refine AllReadyH.cons rfl (fun J hJ => ?_) AllReadyH.nil
      rw [if_pos (by kernel_rfl)]
      go_simp
      go_at_fn h
      refine (C2 _ d1).mono ?_
      rintro e w2 ⟨rfl, b2⟩
      have d2 := Below.next d1 b2
      go_wp2_with fail
      refine hJ.out _ _ (HS.out _ d2) (fun hSx => ?_)
      clear hJ J
      try simp only [Act.put, List.setIfInBounds_toArray, List.set_cons_zero, List.set_cons_succ]
      refine wpAnyH_take (i := 8) (v := .bool true) rfl (by kernel_rfl) (by kernel_rfl) (by kernel_rfl) (fun _ _ _ h => h) (Or.inl ⟨by kernel_rfl, fun w' hSw => by (try dsimp only at hSw); obtain ⟨hs0, hs1⟩ := hSw; go_simp⟩) hSx ?_
      try simp only [Act.put, List.setIfInBounds_toArray]
      refine wpAnyH_take (i := 9) (v := .bool true) rfl (by kernel_rfl) (by kernel_rfl) (by kernel_rfl) (fun _ _ _ h => h) (Or.inl ⟨by rfl, fun w' hSw => by (try dsimp only at hSw); obtain ⟨hs0, hs1⟩ := hSw; go_simp⟩) hSx ?_
      try simp only [Act.put]
      refine wpAnyH_take (i := 10) (v := .bool true) rfl (by kernel_rfl) (by kernel_rfl) (by kernel_rfl) (fun _ _ _ h => h) (Or.inl ⟨by rfl, fun w' hSw => by (try dsimp only at hSw); obtain ⟨hs0, hs1⟩ := hSw; go_simp⟩) hSx ?_
      try simp only [Act.put]
      refine wpAnyH_take (i := 11) (v := undef) rfl (by kernel_rfl) (by kernel_rfl) (by kernel_rfl) (fun _ _ _ h => h) (Or.inr ⟨by kernel_rfl, rfl⟩) hSx ?_
      try simp only [Act.put]
      refine wpAnyH_take (i := 12) (v := undef) rfl (by kernel_rfl) (by kernel_rfl) (by kernel_rfl) (fun _ _ _ h => h) (Or.inr ⟨by kernel_rfl, rfl⟩) hSx ?_
      try simp only [Act.put]
      refine wpAnyH_take (i := 13) (v := undef) rfl (by kernel_rfl) (by kernel_rfl) (by kernel_rfl) (fun _ _ _ h => h) (Or.inr ⟨by kernel_rfl, rfl⟩) hSx ?_
      try simp only [Act.put]
      refine wpAnyH_take (i := 14) (v := undef) rfl (by kernel_rfl) (by kernel_rfl) (by kernel_rfl) (fun _ _ _ h => h) (Or.inr ⟨by kernel_rfl, rfl⟩) hSx ?_
      try simp only [Act.put]
      refine wpAnyH_take (i := 15) (v := undef) rfl (by kernel_rfl) (by kernel_rfl) (by kernel_rfl) (fun _ _ _ h => h) (Or.inr ⟨by kernel_rfl, rfl⟩) hSx ?_
      try simp only [Act.put]
      refine wpAnyH_take (i := 16) (v := undef) rfl (by kernel_rfl) (by kernel_rfl) (by kernel_rfl) (fun _ _ _ h => h) (Or.inr ⟨by kernel_rfl, rfl⟩) hSx ?_
      try simp only [Act.put]
      refine wpAnyH_take (i := 17) (v := .bool true) rfl (by kernel_rfl) (by kernel_rfl) (by kernel_rfl) (fun _ _ _ h => h) (Or.inl ⟨by rfl, fun w' hSw => by (try dsimp only at hSw); obtain ⟨hs0, hs1⟩ := hSw; go_simp⟩) hSx ?_
      try simp only [Act.put]
      refine wpAnyH_take (i := 18) (v := .bool true) rfl (by kernel_rfl) (by kernel_rfl) (by kernel_rfl) (fun _ _ _ h => h) (Or.inl ⟨by rfl, fun w' hSw => by (try dsimp only at hSw); obtain ⟨hs0, hs1⟩ := hSw; go_simp⟩) hSx ?_
      try simp only [Act.put]
      refine wpAnyH_done (by kernel_rfl) ?_ _
      refine NoPanic.normal ?_
      go_simp
      go_wp2
      go_ret
      exact ⟨rfl, d2⟩
    | true =>
      go_enter Try.func69, Try.ntmps69
      go_wp2_with fail
      refine wp_region_noPanic ?_
      refine wp_region_held_drew (S := fun w' => w'.cell? ⟨i, 0, none⟩ = some (.func (.func h) #[] lc) ∧ w'.cell? ⟨j, 0, none⟩ = some (.func (.func g) #[] lb)) (by kernel_rfl) (HS.out _ (Below.refl _ W).drew) (fun hSx => ?_)
      have d0 : Below W.heap.size W W.drew := (Below.refl _ W).drew
      refine wpAnyH_take (i := 0) (v := .func (.func h) #[] lc) rfl (by kernel_rfl) (by kernel_rfl) (by kernel_rfl) (fun _ _ _ h => h) (Or.inl ⟨by rfl, fun w' hSw => by (try dsimp only at hSw); obtain ⟨hs0, hs1⟩ := hSw; go_simp⟩) hSx ?_
      try simp only [Act.put, List.setIfInBounds_toArray]
      refine wpAnyH_take (i := 1) (v := .int .i64 (x : Int)) rfl (by kernel_rfl) (by kernel_rfl) (by kernel_rfl) (fun _ _ _ h => h) (Or.inl ⟨by rfl, fun w' hSw => by (try dsimp only at hSw); obtain ⟨hs0, hs1⟩ := hSw; go_simp⟩) hSx ?_
      try simp only [Act.put]
      refine wpAnyH_ready (rs := [2]) (by kernel_rfl) (by simp) ?_
      refine AllReadyH.cons rfl (fun J hJ => ?_) AllReadyH.nil
      go_simp
      go_at_fn h
      refine (C1 _ d0).mono ?_
      rintro e w1 ⟨rfl, b1⟩
      have d1 := Below.next d0 b1
      go_wp2_with fail
      refine hJ.out _ _ (HS.out _ d1) (fun hSx => ?_)
      clear hJ J
      try simp only [Act.put, List.setIfInBounds_toArray, List.set_cons_zero, List.set_cons_succ]
      refine wpAnyH_take (i := 3) (v := .bool false) rfl (by kernel_rfl) (by kernel_rfl) (by kernel_rfl) (fun _ _ _ h => h) (Or.inl ⟨by rfl, fun w' hSw => by (try dsimp only at hSw); obtain ⟨hs0, hs1⟩ := hSw; go_simp⟩) hSx ?_
      try simp only [Act.put, List.setIfInBounds_toArray]
      refine wpAnyH_take (i := 4) (v := .bool false) rfl (by kernel_rfl) (by kernel_rfl) (by kernel_rfl) (fun _ _ _ h => h) (Or.inl ⟨by rfl, fun w' hSw => by (try dsimp only at hSw); obtain ⟨hs0, hs1⟩ := hSw; go_simp⟩) hSx ?_
      try simp only [Act.put]
      refine wpAnyH_take (i := 5) (v := .func (.func h) #[] lc) rfl (by kernel_rfl) (by kernel_rfl) (by kernel_rfl) (fun _ _ _ h => h) (Or.inl ⟨by kernel_rfl, fun w' hSw => by (try dsimp only at hSw); obtain ⟨hs0, hs1⟩ := hSw; go_simp⟩) hSx ?_
      try simp only [Act.put]
      refine wpAnyH_take (i := 6) (v := .int .i64 (y : Int)) rfl (by kernel_rfl) (by kernel_rfl) (by kernel_rfl) (fun _ _ _ h => h) (Or.inl ⟨by kernel_rfl, fun w' hSw => by (try dsimp only at hSw); obtain ⟨hs0, hs1⟩ := hSw; go_simp⟩) hSx ?_
      try simp only [Act.put]
      refine wpAnyH_ready (rs := [7]) (by kernel_rfl) (by simp) ?_
      refine AllReadyH.cons rfl (fun J hJ => ?_) AllReadyH.nil
      rw [if_pos (by kernel_rfl)]
      go_simp
      go_at_fn h
      refine (C2 _ d1).mono ?_
      rintro e w2 ⟨rfl, b2⟩
      have d2 := Below.next d1 b2
      go_wp2_with fail
      refine hJ.out _ _ (HS.out _ d2) (fun hSx => ?_)
      clear hJ J
      try simp only [Act.put, List.setIfInBounds_toArray, List.set_cons_zero, List.set_cons_succ]
      refine wpAnyH_take (i := 8) (v := .bool false) rfl (by kernel_rfl) (by kernel_rfl) (by kernel_rfl) (fun _ _ _ h => h) (Or.inl ⟨by kernel_rfl, fun w' hSw => by (try dsimp only at hSw); obtain ⟨hs0, hs1⟩ := hSw; go_simp⟩) hSx ?_
      try simp only [Act.put, List.setIfInBounds_toArray]
      refine wpAnyH_take (i := 9) (v := .bool false) rfl (by kernel_rfl) (by kernel_rfl) (by kernel_rfl) (fun _ _ _ h => h) (Or.inl ⟨by rfl, fun w' hSw => by (try dsimp only at hSw); obtain ⟨hs0, hs1⟩ := hSw; go_simp⟩) hSx ?_
      try simp only [Act.put]
      refine wpAnyH_take (i := 10) (v := .bool false) rfl (by kernel_rfl) (by kernel_rfl) (by kernel_rfl) (fun _ _ _ h => h) (Or.inl ⟨by rfl, fun w' hSw => by (try dsimp only at hSw); obtain ⟨hs0, hs1⟩ := hSw; go_simp⟩) hSx ?_
      try simp only [Act.put]
      refine wpAnyH_take (i := 11) (v := .func (.func h) #[] lc) rfl (by kernel_rfl) (by kernel_rfl) (by kernel_rfl) (fun _ _ _ h => h) (Or.inl ⟨by kernel_rfl, fun w' hSw => by (try dsimp only at hSw); obtain ⟨hs0, hs1⟩ := hSw; go_simp⟩) hSx ?_
      try simp only [Act.put]
      refine wpAnyH_take (i := 12) (v := .func (.func g) #[] lb) rfl (by kernel_rfl) (by kernel_rfl) (by kernel_rfl) (fun _ _ _ h => h) (Or.inl ⟨by kernel_rfl, fun w' hSw => by (try dsimp only at hSw); obtain ⟨hs0, hs1⟩ := hSw; go_simp⟩) hSx ?_
      try simp only [Act.put]
      refine wpAnyH_take (i := 13) (v := .int .i64 (x : Int)) rfl (by kernel_rfl) (by kernel_rfl) (by kernel_rfl) (fun _ _ _ h => h) (Or.inl ⟨by kernel_rfl, fun w' hSw => by (try dsimp only at hSw); obtain ⟨hs0, hs1⟩ := hSw; go_simp⟩) hSx ?_
      try simp only [Act.put]
      refine wpAnyH_take (i := 14) (v := .int .i64 (y : Int)) rfl (by kernel_rfl) (by kernel_rfl) (by kernel_rfl) (fun _ _ _ h => h) (Or.inl ⟨by kernel_rfl, fun w' hSw => by (try dsimp only at hSw); obtain ⟨hs0, hs1⟩ := hSw; go_simp⟩) hSx ?_
      try simp only [Act.put]
      refine wpAnyH_ready (rs := [15]) (by kernel_rfl) (by simp) ?_
      refine AllReadyH.cons rfl (fun J hJ => ?_) AllReadyH.nil
      rw [if_pos (by kernel_rfl)]
      go_simp
      go_at_fn g
      refine (C3 _ d2).mono ?_
      rintro e w3 ⟨rfl, b3⟩
      have d3 := Below.next d2 b3
      go_wp2_with fail
      refine hJ.out _ _ (HS.out _ d3) (fun hSx => ?_)
      clear hJ J
      try simp only [Act.put, List.setIfInBounds_toArray, List.set_cons_zero, List.set_cons_succ]
      refine wpAnyH_ready (rs := [16]) (by kernel_rfl) (by simp) ?_
      refine AllReadyH.cons rfl (fun J hJ => ?_) AllReadyH.nil
      rw [if_pos (by kernel_rfl)]
      go_simp
      go_at_fn h
      refine (C4 _ d3).mono ?_
      rintro e w4 ⟨rfl, b4⟩
      have d4 := Below.next d3 b4
      go_wp2_with fail
      refine hJ.out _ _ (HS.out _ d4) (fun hSx => ?_)
      clear hJ J
      try simp only [Act.put, List.setIfInBounds_toArray, List.set_cons_zero, List.set_cons_succ]
      refine wpAnyH_take (i := 17) (v := .bool r) rfl (by kernel_rfl) (by kernel_rfl) (by kernel_rfl) (fun _ _ _ h => h) (Or.inl ⟨by rfl, fun w' hSw => by (try dsimp only at hSw); obtain ⟨hs0, hs1⟩ := hSw; go_simp⟩) hSx ?_
      try simp only [Act.put, List.setIfInBounds_toArray]
      refine wpAnyH_take (i := 18) (v := .bool r) rfl (by kernel_rfl) (by kernel_rfl) (by kernel_rfl) (fun _ _ _ h => h) (Or.inl ⟨by rfl, fun w' hSw => by (try dsimp only at hSw); obtain ⟨hs0, hs1⟩ := hSw; go_simp⟩) hSx ?_
      try simp only [Act.put]
      refine wpAnyH_done (by kernel_rfl) ?_ _
      refine NoPanic.normal ?_
      go_simp
      go_wp2
      go_ret
      exact ⟨rfl, d4⟩
set_option maxHeartbeats 4000000 in
theorem closed_any (n : Nat) (t : Nat → Nat → Nat) (H : Nat → Bool) (q : Bool) (u v : Value) (w : World) (hn : n ≤ 8) (ht : ∀ a b, a < n → b < n → t a b < n) (hT : Teller v n n t w) (hA : Asker u n H w) (hq : cloB n t H = q) :
    Calls Try.prog 58 #[.int .i64 (n : Int), v, u] w fun e w' => e = .returned (.bool q) ∧ Below w.heap.size w w' := by
  have C : ∀ a b, Calls Try.prog 53 #[.int .i64 (n : Int), .func (.func 69) #[] #[.pointer (some ⟨w.heap.size + 1, 0, none⟩), .pointer (some ⟨w.heap.size, 0, none⟩)]] ((w.alloc (.cells #[v] a)).alloc (.cells #[u] b)) fun e w' => e = .returned (.bool q) ∧ Below ((w.alloc (.cells #[v] a)).alloc (.cells #[u] b)).heap.size ((w.alloc (.cells #[v] a)).alloc (.cells #[u] b)) w' := fun a b =>
    alwaysOfTwo_any n (fun x y => !H x || !H y || H (t x y)) q _ _ hn ⟨69, _, rfl, e69, fun W hB x y hx hy => closed1_any n (w.heap.size + 1) w.heap.size x y t H u v _ W ht (hT.below (two_below w _ _)) (hA.below (two_below w _ _)) hB ((bx_two w v u a b).2.below hB) ((bx_two w v u a b).1.below hB) hx hy⟩ hq
  obtain ⟨g, lb, rfl⟩ := hT.form
  obtain ⟨h, lc, rfl⟩ := hA.form
  clear hT hq ht hA
  go_enter Try.func58, Try.ntmps58
  go_wp2_with (go_at_call 53; refine (C _ _).mono ?_; rintro e w3 ⟨rfl, b3⟩)
  go_ret
  exact ⟨rfl, Below.next (two_below w _ _) b3⟩
theorem pow_le {n : Nat} (h : n ≤ 8) : 2 ^ n ≤ 256 := Nat.le_trans (Nat.pow_le_pow_right (by decide) h) (by decide)
end Go.Proofs.Ytncnaaohihmjnaa
