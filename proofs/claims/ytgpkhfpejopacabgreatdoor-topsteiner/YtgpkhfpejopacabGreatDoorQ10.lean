/- The walks of parts, Parts and of the document's Closed, PartsOf. -/
import Derived.Test.YtgpkhfpejopacabGreatDoorQ5
/- The walks of holding, closed, parts. -/
namespace Go.Proofs.YtgpkhfpejopacabGreatDoor.Ql
open Go.RowKit

theorem and_u : ∀ a : Fin 256, bits BinOp.and IntKind.u64 ((a.val : Nat) : Int) 1 = ((a.val % 2 : Nat) : Int) := by decide +kernel
theorem and_i : ∀ a : Fin 256, bits BinOp.and IntKind.i64 ((a.val : Nat) : Int) 1 = ((a.val % 2 : Nat) : Int) := by decide +kernel
theorem shr_cast (set x : Nat) : (set : Int) / 2 ^ x = ((set / 2 ^ x : Nat) : Int) := by simp
theorem shr_lt {set x : Nat} (h : set < 256) : set / 2 ^ x < 256 := Nat.lt_of_le_of_lt (Nat.div_le_self _ _) h
theorem bit_u {set : Nat} (x : Nat) (hs : set < 256) : (bits BinOp.and IntKind.u64 ((set : Int) / 2 ^ x) 1 == 1) = set.testBit x := by
  rw [shr_cast, and_u ⟨_, shr_lt hs⟩, Nat.testBit_eq_decide_div_mod_eq]
  show ((((set / 2 ^ x) % 2 : Nat) : Int) == ((1 : Nat) : Int)) = _
  by_cases h : set / 2 ^ x % 2 = 1
  · rw [h]; rfl
  · rw [decide_eq_false h]
    exact beq_eq_false_iff_ne.2 (by omega)
set_option maxRecDepth 100000 in
theorem e70 : ∀ args w, (callFunc 126 args).run Tryz.prog w = .ok (.enter 126 args) w := enters_of Tryz.func126 (by kernel_rfl) rfl
set_option maxRecDepth 100000 in
set_option maxHeartbeats 1000000 in
theorem holding1_any (b set x : Nat) (W : World) (hs : set < 256) (hx : x < 8) (hb : W.cell? ⟨b, 0, none⟩ = some (.int .u64 (set : Int))) :
    Calls Tryz.prog 126 #[.int .i64 (x : Int), .pointer (some ⟨b, 0, none⟩)] W fun e w' => e = .returned (.bool (set.testBit x)) ∧ Below W.heap.size W w' := by
  have hr := bit_u x hs
  obtain ⟨q, hq⟩ : ∃ q, set.testBit x = q := ⟨_, rfl⟩
  rw [hq] at hr ⊢
  clear hq
  go_enter Tryz.func126, Tryz.ntmps126
  go_wp2
  go_ret
  exact ⟨rfl, Below.refl _ _⟩
set_option maxRecDepth 100000 in
set_option maxHeartbeats 1000000 in
theorem holding_any (n set : Nat) (w : World) (hn : n ≤ 8) (hs : set < 256) :
    Calls Tryz.prog 85 #[.int .u64 (set : Int)] w fun e w' => (∃ y, e = .returned y ∧ Asker y n set.testBit w') ∧ Below w.heap.size w w' := by
  go_enter Tryz.func85, Tryz.ntmps85
  go_wp2
  go_ret
  exact ⟨⟨_, rfl, _, _, rfl, e70, fun W b x hx => holding1_any w.heap.size set x W hs (by omega) ((bx_new w _ _).below b).2⟩, balloc w _⟩
set_option maxRecDepth 100000 in
theorem e69 : ∀ args w, (callFunc 125 args).run Tryz.prog w = .ok (.enter 125 args) w := enters_of Tryz.func125 (by kernel_rfl) rfl
set_option maxRecDepth 100000 in
set_option maxHeartbeats 8000000 in
theorem closed1_any (n i j x y : Nat) (t : Nat → Nat → Nat) (H : Nat → Bool) (u v : Value) (w W : World) (ht : ∀ a b, a < n → b < n → t a b < n) (hT : Teller v n n t w) (hA : Asker u n H w) (hB : Below w.heap.size w W) (hi : Bx W i u) (hj : Bx W j v) (hx : x < n) (hy : y < n) :
    Calls Tryz.prog 125 #[.int .i64 (x : Int), .int .i64 (y : Int), .pointer (some ⟨i, 0, none⟩), .pointer (some ⟨j, 0, none⟩)] W fun e w' => e = .returned (.bool (!H x || !H y || H (t x y))) ∧ Below W.heap.size W w' := by
  obtain ⟨g, lb, rfl, eg, hT⟩ := hT
  obtain ⟨h, lc, rfl, eh, hA⟩ := hA
  have C1 : ∀ W', Below W.heap.size W W' → Calls Tryz.prog h (#[.int .i64 (x : Int)] ++ lc) W' fun e w' => e = .returned (.bool (H x)) ∧ Below W'.heap.size W' w' := fun W' b' => hA W' (Below.next hB b') x hx
  have C2 : ∀ W', Below W.heap.size W W' → Calls Tryz.prog h (#[.int .i64 (y : Int)] ++ lc) W' fun e w' => e = .returned (.bool (H y)) ∧ Below W'.heap.size W' w' := fun W' b' => hA W' (Below.next hB b') y hy
  have C3 : ∀ W', Below W.heap.size W W' → Calls Tryz.prog g (#[.int .i64 (x : Int), .int .i64 (y : Int)] ++ lb) W' fun e w' => e = .returned (.int .i64 (t x y : Int)) ∧ Below W'.heap.size W' w' := fun W' b' => hT W' (Below.next hB b') x y hx hy
  have C4 : ∀ W', Below W.heap.size W W' → Calls Tryz.prog h (#[.int .i64 (t x y : Int)] ++ lc) W' fun e w' => e = .returned (.bool (H (t x y))) ∧ Below W'.heap.size W' w' := fun W' b' => hA W' (Below.next hB b') (t x y) (ht x y hx hy)
  have HS : Hid (∀ w', Below W.heap.size W w' → w'.cell? ⟨i, 0, none⟩ = some (.func (.func h) #[] lc) ∧ w'.cell? ⟨j, 0, none⟩ = some (.func (.func g) #[] lb)) := fun w' b' => ⟨(hi.below b').2, (hj.below b').2⟩
  obtain ⟨r, hr⟩ : ∃ r, H (t x y) = r := ⟨_, rfl⟩
  rw [hr] at C4 ⊢
  obtain ⟨X, hX⟩ : ∃ X : Int, X = ((t x y : Nat) : Int) := ⟨_, rfl⟩
  rw [← hX] at C3 C4
  obtain ⟨p, hp⟩ : ∃ r, H x = r := ⟨_, rfl⟩
  rw [hp] at C1 ⊢
  obtain ⟨q, hq⟩ : ∃ r, H y = r := ⟨_, rfl⟩
  rw [hq] at C2 ⊢
  clear hT hA hi hj hX hp hq hr ht
  cases p with
  | false =>
    go_enter Tryz.func125, Tryz.ntmps125
    go_wp2_with fail
    refine wp_region_noPanic ?_
    refine wp_region_held_drew (S := fun w' => w'.cell? ⟨i, 0, none⟩ = some (.func (.func h) #[] lc) ∧ w'.cell? ⟨j, 0, none⟩ = some (.func (.func g) #[] lb)) (by kernel_rfl) (HS.out _ (Below.refl _ W).drew) (fun hSx => ?_)
    have d0 : Below W.heap.size W W.drew := (Below.refl _ W).drew
    refine wpAnyH_take (i := 0) (v := .func (.func h) #[] lc) rfl (by kernel_rfl) (by kernel_rfl) (by kernel_rfl) (fun _ _ _ h => h) (Or.inl ⟨by rfl, fun w' hSw => by (try dsimp only at hSw); obtain ⟨hs0, hs1⟩ := hSw; go_simp⟩) hSx ?_
    try simp only [Act.put, List.setIfInBounds_toArray]
    refine wpAnyH_take (i := 1) (v := .int .i64 (x : Int)) rfl (by kernel_rfl) (by kernel_rfl) (by kernel_rfl) (fun _ _ _ h => h) (Or.inl ⟨by rfl, fun w' hSw => by (try dsimp only at hSw); obtain ⟨hs0, hs1⟩ := hSw; go_simp⟩) hSx ?_
    try simp only [Act.put]
    refine wpAnyH_ready (rs := [2]) (by kernel_rfl) (by simp) ?_
    refine AllReadyH.cons rfl (fun J hJ => ?_) AllReadyH.nil
    go_simp
    go_at_fn h
    refine (C1 _ d0).mono ?_
    rintro e w1 ⟨rfl, b1⟩
    have d1 := Below.next d0 b1
    go_wp2_with fail
    refine hJ.out _ _ (HS.out _ d1) (fun hSx => ?_)
    clear hJ J
    try simp only [Act.put, List.setIfInBounds_toArray, List.set_cons_zero, List.set_cons_succ]
    refine wpAnyH_take (i := 3) (v := .bool true) rfl (by kernel_rfl) (by kernel_rfl) (by kernel_rfl) (fun _ _ _ h => h) (Or.inl ⟨by rfl, fun w' hSw => by (try dsimp only at hSw); obtain ⟨hs0, hs1⟩ := hSw; go_simp⟩) hSx ?_
    try simp only [Act.put, List.setIfInBounds_toArray]
    refine wpAnyH_take (i := 4) (v := .bool true) rfl (by kernel_rfl) (by kernel_rfl) (by kernel_rfl) (fun _ _ _ h => h) (Or.inl ⟨by rfl, fun w' hSw => by (try dsimp only at hSw); obtain ⟨hs0, hs1⟩ := hSw; go_simp⟩) hSx ?_
    try simp only [Act.put]
    refine wpAnyH_take (i := 5) (v := undef) rfl (by kernel_rfl) (by kernel_rfl) (by kernel_rfl) (fun _ _ _ h => h) (Or.inr ⟨by kernel_rfl, rfl⟩) hSx ?_
    try simp only [Act.put]
    refine wpAnyH_take (i := 6) (v := undef) rfl (by kernel_rfl) (by kernel_rfl) (by kernel_rfl) (fun _ _ _ h => h) (Or.inr ⟨by kernel_rfl, rfl⟩) hSx ?_
    try simp only [Act.put]
    refine wpAnyH_take (i := 7) (v := undef) rfl (by kernel_rfl) (by kernel_rfl) (by kernel_rfl) (fun _ _ _ h => h) (Or.inr ⟨by kernel_rfl, rfl⟩) hSx ?_
    try simp only [Act.put]
    refine wpAnyH_take (i := 8) (v := undef) rfl (by kernel_rfl) (by kernel_rfl) (by kernel_rfl) (fun _ _ _ h => h) (Or.inr ⟨by kernel_rfl, rfl⟩) hSx ?_
    try simp only [Act.put]
    refine wpAnyH_take (i := 9) (v := .bool true) rfl (by kernel_rfl) (by kernel_rfl) (by kernel_rfl) (fun _ _ _ h => h) (Or.inl ⟨by rfl, fun w' hSw => by (try dsimp only at hSw); obtain ⟨hs0, hs1⟩ := hSw; go_simp⟩) hSx ?_
    try simp only [Act.put]
    refine wpAnyH_take (i := 10) (v := .bool true) rfl (by kernel_rfl) (by kernel_rfl) (by kernel_rfl) (fun _ _ _ h => h) (Or.inl ⟨by rfl, fun w' hSw => by (try dsimp only at hSw); obtain ⟨hs0, hs1⟩ := hSw; go_simp⟩) hSx ?_
    try simp only [Act.put]
    refine wpAnyH_take (i := 11) (v := undef) rfl (by kernel_rfl) (by kernel_rfl) (by kernel_rfl) (fun _ _ _ h => h) (Or.inr ⟨by kernel_rfl, rfl⟩) hSx ?_
    try simp only [Act.put]
    refine wpAnyH_take (i := 12) (v := undef) rfl (by kernel_rfl) (by kernel_rfl) (by kernel_rfl) (fun _ _ _ h => h) (Or.inr ⟨by kernel_rfl, rfl⟩) hSx ?_
    try simp only [Act.put]
    refine wpAnyH_take (i := 13) (v := undef) rfl (by kernel_rfl) (by kernel_rfl) (by kernel_rfl) (fun _ _ _ h => h) (Or.inr ⟨by kernel_rfl, rfl⟩) hSx ?_
    try simp only [Act.put]
    refine wpAnyH_take (i := 14) (v := undef) rfl (by kernel_rfl) (by kernel_rfl) (by kernel_rfl) (fun _ _ _ h => h) (Or.inr ⟨by kernel_rfl, rfl⟩) hSx ?_
    try simp only [Act.put]
    refine wpAnyH_take (i := 15) (v := undef) rfl (by kernel_rfl) (by kernel_rfl) (by kernel_rfl) (fun _ _ _ h => h) (Or.inr ⟨by kernel_rfl, rfl⟩) hSx ?_
    try simp only [Act.put]
    refine wpAnyH_take (i := 16) (v := undef) rfl (by kernel_rfl) (by kernel_rfl) (by kernel_rfl) (fun _ _ _ h => h) (Or.inr ⟨by kernel_rfl, rfl⟩) hSx ?_
    try simp only [Act.put]
    refine wpAnyH_take (i := 17) (v := .bool true) rfl (by kernel_rfl) (by kernel_rfl) (by kernel_rfl) (fun _ _ _ h => h) (Or.inl ⟨by rfl, fun w' hSw => by (try dsimp only at hSw); obtain ⟨hs0, hs1⟩ := hSw; go_simp⟩) hSx ?_
    try simp only [Act.put]
    refine wpAnyH_take (i := 18) (v := .bool true) rfl (by kernel_rfl) (by kernel_rfl) (by kernel_rfl) (fun _ _ _ h => h) (Or.inl ⟨by rfl, fun w' hSw => by (try dsimp only at hSw); obtain ⟨hs0, hs1⟩ := hSw; go_simp⟩) hSx ?_
    try simp only [Act.put]
    refine wpAnyH_done (by kernel_rfl) ?_ _
    refine NoPanic.normal ?_
    go_simp
    go_wp2
    go_ret
    exact ⟨rfl, d1⟩
  | true =>
    cases q with
    | false =>
      go_enter Tryz.func125, Tryz.ntmps125
      go_wp2_with fail
      refine wp_region_noPanic ?_
      refine wp_region_held_drew (S := fun w' => w'.cell? ⟨i, 0, none⟩ = some (.func (.func h) #[] lc) ∧ w'.cell? ⟨j, 0, none⟩ = some (.func (.func g) #[] lb)) (by kernel_rfl) (HS.out _ (Below.refl _ W).drew) (fun hSx => ?_)
      have d0 : Below W.heap.size W W.drew := (Below.refl _ W).drew
      refine wpAnyH_take (i := 0) (v := .func (.func h) #[] lc) rfl (by kernel_rfl) (by kernel_rfl) (by kernel_rfl) (fun _ _ _ h => h) (Or.inl ⟨by rfl, fun w' hSw => by (try dsimp only at hSw); obtain ⟨hs0, hs1⟩ := hSw; go_simp⟩) hSx ?_
      try simp only [Act.put, List.setIfInBounds_toArray]
      refine wpAnyH_take (i := 1) (v := .int .i64 (x : Int)) rfl (by kernel_rfl) (by kernel_rfl) (by kernel_rfl) (fun _ _ _ h => h) (Or.inl ⟨by rfl, fun w' hSw => by (try dsimp only at hSw); obtain ⟨hs0, hs1⟩ := hSw; go_simp⟩) hSx ?_
      try simp only [Act.put]
      refine wpAnyH_ready (rs := [2]) (by kernel_rfl) (by simp) ?_
      refine AllReadyH.cons rfl (fun J hJ => ?_) AllReadyH.nil
      go_simp
      go_at_fn h
      refine (C1 _ d0).mono ?_
      rintro e w1 ⟨rfl, b1⟩
      have d1 := Below.next d0 b1
      go_wp2_with fail
      refine hJ.out _ _ (HS.out _ d1) (fun hSx => ?_)
      clear hJ J
      try simp only [Act.put, List.setIfInBounds_toArray, List.set_cons_zero, List.set_cons_succ]
      refine wpAnyH_take (i := 3) (v := .bool false) rfl (by kernel_rfl) (by kernel_rfl) (by kernel_rfl) (fun _ _ _ h => h) (Or.inl ⟨by rfl, fun w' hSw => by (try dsimp only at hSw); obtain ⟨hs0, hs1⟩ := hSw; go_simp⟩) hSx ?_
      try simp only [Act.put, List.setIfInBounds_toArray]
      refine wpAnyH_take (i := 4) (v := .bool false) rfl (by kernel_rfl) (by kernel_rfl) (by kernel_rfl) (fun _ _ _ h => h) (Or.inl ⟨by rfl, fun w' hSw => by (try dsimp only at hSw); obtain ⟨hs0, hs1⟩ := hSw; go_simp⟩) hSx ?_
      try simp only [Act.put]
      refine wpAnyH_take (i := 5) (v := .func (.func h) #[] lc) rfl (by kernel_rfl) (by kernel_rfl) (by kernel_rfl) (fun _ _ _ h => h) (Or.inl ⟨by kernel_rfl, fun w' hSw => by (try dsimp only at hSw); obtain ⟨hs0, hs1⟩ := hSw; go_simp⟩) hSx ?_
      try simp only [Act.put]
      refine wpAnyH_take (i := 6) (v := .int .i64 (y : Int)) rfl (by kernel_rfl) (by kernel_rfl) (by kernel_rfl) (fun _ _ _ h => h) (Or.inl ⟨by kernel_rfl, fun w' hSw => by (try dsimp only at hSw); obtain ⟨hs0, hs1⟩ := hSw; go_simp⟩) hSx ?_
      try simp only [Act.put]
      refine wpAnyH_ready (rs := [7]) (by kernel_rfl) (by simp) ?_
      refine AllReadyH.cons rfl (fun J hJ => ?_) AllReadyH.nil
      rw [if_pos (by kernel_rfl)]
      go_simp
      go_at_fn h
      refine (C2 _ d1).mono ?_
      rintro e w2 ⟨rfl, b2⟩
      have d2 := Below.next d1 b2
      go_wp2_with fail
      refine hJ.out _ _ (HS.out _ d2) (fun hSx => ?_)
      clear hJ J
      try simp only [Act.put, List.setIfInBounds_toArray, List.set_cons_zero, List.set_cons_succ]
      refine wpAnyH_take (i := 8) (v := .bool true) rfl (by kernel_rfl) (by kernel_rfl) (by kernel_rfl) (fun _ _ _ h => h) (Or.inl ⟨by kernel_rfl, fun w' hSw => by (try dsimp only at hSw); obtain ⟨hs0, hs1⟩ := hSw; go_simp⟩) hSx ?_
      try simp only [Act.put, List.setIfInBounds_toArray]
      refine wpAnyH_take (i := 9) (v := .bool true) rfl (by kernel_rfl) (by kernel_rfl) (by kernel_rfl) (fun _ _ _ h => h) (Or.inl ⟨by rfl, fun w' hSw => by (try dsimp only at hSw); obtain ⟨hs0, hs1⟩ := hSw; go_simp⟩) hSx ?_
      try simp only [Act.put]
      refine wpAnyH_take (i := 10) (v := .bool true) rfl (by kernel_rfl) (by kernel_rfl) (by kernel_rfl) (fun _ _ _ h => h) (Or.inl ⟨by rfl, fun w' hSw => by (try dsimp only at hSw); obtain ⟨hs0, hs1⟩ := hSw; go_simp⟩) hSx ?_
      try simp only [Act.put]
      refine wpAnyH_take (i := 11) (v := undef) rfl (by kernel_rfl) (by kernel_rfl) (by kernel_rfl) (fun _ _ _ h => h) (Or.inr ⟨by kernel_rfl, rfl⟩) hSx ?_
      try simp only [Act.put]
      refine wpAnyH_take (i := 12) (v := undef) rfl (by kernel_rfl) (by kernel_rfl) (by kernel_rfl) (fun _ _ _ h => h) (Or.inr ⟨by kernel_rfl, rfl⟩) hSx ?_
      try simp only [Act.put]
      refine wpAnyH_take (i := 13) (v := undef) rfl (by kernel_rfl) (by kernel_rfl) (by kernel_rfl) (fun _ _ _ h => h) (Or.inr ⟨by kernel_rfl, rfl⟩) hSx ?_
      try simp only [Act.put]
      refine wpAnyH_take (i := 14) (v := undef) rfl (by kernel_rfl) (by kernel_rfl) (by kernel_rfl) (fun _ _ _ h => h) (Or.inr ⟨by kernel_rfl, rfl⟩) hSx ?_
      try simp only [Act.put]
      refine wpAnyH_take (i := 15) (v := undef) rfl (by kernel_rfl) (by kernel_rfl) (by kernel_rfl) (fun _ _ _ h => h) (Or.inr ⟨by kernel_rfl, rfl⟩) hSx ?_
      try simp only [Act.put]
      refine wpAnyH_take (i := 16) (v := undef) rfl (by kernel_rfl) (by kernel_rfl) (by kernel_rfl) (fun _ _ _ h => h) (Or.inr ⟨by kernel_rfl, rfl⟩) hSx ?_
      try simp only [Act.put]
      refine wpAnyH_take (i := 17) (v := .bool true) rfl (by kernel_rfl) (by kernel_rfl) (by kernel_rfl) (fun _ _ _ h => h) (Or.inl ⟨by rfl, fun w' hSw => by (try dsimp only at hSw); obtain ⟨hs0, hs1⟩ := hSw; go_simp⟩) hSx ?_
      try simp only [Act.put]
      refine wpAnyH_take (i := 18) (v := .bool true) rfl (by kernel_rfl) (by kernel_rfl) (by kernel_rfl) (fun _ _ _ h => h) (Or.inl ⟨by rfl, fun w' hSw => by (try dsimp only at hSw); obtain ⟨hs0, hs1⟩ := hSw; go_simp⟩) hSx ?_
      try simp only [Act.put]
      refine wpAnyH_done (by kernel_rfl) ?_ _
      refine NoPanic.normal ?_
      go_simp
      go_wp2
      go_ret
      exact ⟨rfl, d2⟩
    | true =>
      go_enter Tryz.func125, Tryz.ntmps125
      go_wp2_with fail
      refine wp_region_noPanic ?_
      refine wp_region_held_drew (S := fun w' => w'.cell? ⟨i, 0, none⟩ = some (.func (.func h) #[] lc) ∧ w'.cell? ⟨j, 0, none⟩ = some (.func (.func g) #[] lb)) (by kernel_rfl) (HS.out _ (Below.refl _ W).drew) (fun hSx => ?_)
      have d0 : Below W.heap.size W W.drew := (Below.refl _ W).drew
      refine wpAnyH_take (i := 0) (v := .func (.func h) #[] lc) rfl (by kernel_rfl) (by kernel_rfl) (by kernel_rfl) (fun _ _ _ h => h) (Or.inl ⟨by rfl, fun w' hSw => by (try dsimp only at hSw); obtain ⟨hs0, hs1⟩ := hSw; go_simp⟩) hSx ?_
      try simp only [Act.put, List.setIfInBounds_toArray]
      refine wpAnyH_take (i := 1) (v := .int .i64 (x : Int)) rfl (by kernel_rfl) (by kernel_rfl) (by kernel_rfl) (fun _ _ _ h => h) (Or.inl ⟨by rfl, fun w' hSw => by (try dsimp only at hSw); obtain ⟨hs0, hs1⟩ := hSw; go_simp⟩) hSx ?_
      try simp only [Act.put]
      refine wpAnyH_ready (rs := [2]) (by kernel_rfl) (by simp) ?_
      refine AllReadyH.cons rfl (fun J hJ => ?_) AllReadyH.nil
      go_simp
      go_at_fn h
      refine (C1 _ d0).mono ?_
      rintro e w1 ⟨rfl, b1⟩
      have d1 := Below.next d0 b1
      go_wp2_with fail
      refine hJ.out _ _ (HS.out _ d1) (fun hSx => ?_)
      clear hJ J
      try simp only [Act.put, List.setIfInBounds_toArray, List.set_cons_zero, List.set_cons_succ]
      refine wpAnyH_take (i := 3) (v := .bool false) rfl (by kernel_rfl) (by kernel_rfl) (by kernel_rfl) (fun _ _ _ h => h) (Or.inl ⟨by rfl, fun w' hSw => by (try dsimp only at hSw); obtain ⟨hs0, hs1⟩ := hSw; go_simp⟩) hSx ?_
      try simp only [Act.put, List.setIfInBounds_toArray]
      refine wpAnyH_take (i := 4) (v := .bool false) rfl (by kernel_rfl) (by kernel_rfl) (by kernel_rfl) (fun _ _ _ h => h) (Or.inl ⟨by rfl, fun w' hSw => by (try dsimp only at hSw); obtain ⟨hs0, hs1⟩ := hSw; go_simp⟩) hSx ?_
      try simp only [Act.put]
      refine wpAnyH_take (i := 5) (v := .func (.func h) #[] lc) rfl (by kernel_rfl) (by kernel_rfl) (by kernel_rfl) (fun _ _ _ h => h) (Or.inl ⟨by kernel_rfl, fun w' hSw => by (try dsimp only at hSw); obtain ⟨hs0, hs1⟩ := hSw; go_simp⟩) hSx ?_
      try simp only [Act.put]
      refine wpAnyH_take (i := 6) (v := .int .i64 (y : Int)) rfl (by kernel_rfl) (by kernel_rfl) (by kernel_rfl) (fun _ _ _ h => h) (Or.inl ⟨by kernel_rfl, fun w' hSw => by (try dsimp only at hSw); obtain ⟨hs0, hs1⟩ := hSw; go_simp⟩) hSx ?_
      try simp only [Act.put]
      refine wpAnyH_ready (rs := [7]) (by kernel_rfl) (by simp) ?_
      refine AllReadyH.cons rfl (fun J hJ => ?_) AllReadyH.nil
      rw [if_pos (by kernel_rfl)]
      go_simp
      go_at_fn h
      refine (C2 _ d1).mono ?_
      rintro e w2 ⟨rfl, b2⟩
      have d2 := Below.next d1 b2
      go_wp2_with fail
      refine hJ.out _ _ (HS.out _ d2) (fun hSx => ?_)
      clear hJ J
      try simp only [Act.put, List.setIfInBounds_toArray, List.set_cons_zero, List.set_cons_succ]
      refine wpAnyH_take (i := 8) (v := .bool false) rfl (by kernel_rfl) (by kernel_rfl) (by kernel_rfl) (fun _ _ _ h => h) (Or.inl ⟨by kernel_rfl, fun w' hSw => by (try dsimp only at hSw); obtain ⟨hs0, hs1⟩ := hSw; go_simp⟩) hSx ?_
      try simp only [Act.put, List.setIfInBounds_toArray]
      refine wpAnyH_take (i := 9) (v := .bool false) rfl (by kernel_rfl) (by kernel_rfl) (by kernel_rfl) (fun _ _ _ h => h) (Or.inl ⟨by rfl, fun w' hSw => by (try dsimp only at hSw); obtain ⟨hs0, hs1⟩ := hSw; go_simp⟩) hSx ?_
      try simp only [Act.put]
      refine wpAnyH_take (i := 10) (v := .bool false) rfl (by kernel_rfl) (by kernel_rfl) (by kernel_rfl) (fun _ _ _ h => h) (Or.inl ⟨by rfl, fun w' hSw => by (try dsimp only at hSw); obtain ⟨hs0, hs1⟩ := hSw; go_simp⟩) hSx ?_
      try simp only [Act.put]
      refine wpAnyH_take (i := 11) (v := .func (.func h) #[] lc) rfl (by kernel_rfl) (by kernel_rfl) (by kernel_rfl) (fun _ _ _ h => h) (Or.inl ⟨by kernel_rfl, fun w' hSw => by (try dsimp only at hSw); obtain ⟨hs0, hs1⟩ := hSw; go_simp⟩) hSx ?_
      try simp only [Act.put]
      refine wpAnyH_take (i := 12) (v := .func (.func g) #[] lb) rfl (by kernel_rfl) (by kernel_rfl) (by kernel_rfl) (fun _ _ _ h => h) (Or.inl ⟨by kernel_rfl, fun w' hSw => by (try dsimp only at hSw); obtain ⟨hs0, hs1⟩ := hSw; go_simp⟩) hSx ?_
      try simp only [Act.put]
      refine wpAnyH_take (i := 13) (v := .int .i64 (x : Int)) rfl (by kernel_rfl) (by kernel_rfl) (by kernel_rfl) (fun _ _ _ h => h) (Or.inl ⟨by kernel_rfl, fun w' hSw => by (try dsimp only at hSw); obtain ⟨hs0, hs1⟩ := hSw; go_simp⟩) hSx ?_
      try simp only [Act.put]
      refine wpAnyH_take (i := 14) (v := .int .i64 (y : Int)) rfl (by kernel_rfl) (by kernel_rfl) (by kernel_rfl) (fun _ _ _ h => h) (Or.inl ⟨by kernel_rfl, fun w' hSw => by (try dsimp only at hSw); obtain ⟨hs0, hs1⟩ := hSw; go_simp⟩) hSx ?_
      try simp only [Act.put]
      refine wpAnyH_ready (rs := [15]) (by kernel_rfl) (by simp) ?_
      refine AllReadyH.cons rfl (fun J hJ => ?_) AllReadyH.nil
      rw [if_pos (by kernel_rfl)]
      go_simp
      go_at_fn g
      refine (C3 _ d2).mono ?_
      rintro e w3 ⟨rfl, b3⟩
      have d3 := Below.next d2 b3
      go_wp2_with fail
      refine hJ.out _ _ (HS.out _ d3) (fun hSx => ?_)
      clear hJ J
      try simp only [Act.put, List.setIfInBounds_toArray, List.set_cons_zero, List.set_cons_succ]
      refine wpAnyH_ready (rs := [16]) (by kernel_rfl) (by simp) ?_
      refine AllReadyH.cons rfl (fun J hJ => ?_) AllReadyH.nil
      rw [if_pos (by kernel_rfl)]
      go_simp
      go_at_fn h
      refine (C4 _ d3).mono ?_
      rintro e w4 ⟨rfl, b4⟩
      have d4 := Below.next d3 b4
      go_wp2_with fail
      refine hJ.out _ _ (HS.out _ d4) (fun hSx => ?_)
      clear hJ J
      try simp only [Act.put, List.setIfInBounds_toArray, List.set_cons_zero, List.set_cons_succ]
      refine wpAnyH_take (i := 17) (v := .bool r) rfl (by kernel_rfl) (by kernel_rfl) (by kernel_rfl) (fun _ _ _ h => h) (Or.inl ⟨by rfl, fun w' hSw => by (try dsimp only at hSw); obtain ⟨hs0, hs1⟩ := hSw; go_simp⟩) hSx ?_
      try simp only [Act.put, List.setIfInBounds_toArray]
      refine wpAnyH_take (i := 18) (v := .bool r) rfl (by kernel_rfl) (by kernel_rfl) (by kernel_rfl) (fun _ _ _ h => h) (Or.inl ⟨by rfl, fun w' hSw => by (try dsimp only at hSw); obtain ⟨hs0, hs1⟩ := hSw; go_simp⟩) hSx ?_
      try simp only [Act.put]
      refine wpAnyH_done (by kernel_rfl) ?_ _
      refine NoPanic.normal ?_
      go_simp
      go_wp2
      go_ret
      exact ⟨rfl, d4⟩
set_option maxRecDepth 100000 in
set_option maxHeartbeats 4000000 in
theorem closed_any (n : Nat) (t : Nat → Nat → Nat) (H : Nat → Bool) (q : Bool) (u v : Value) (w : World) (hn : n ≤ 8) (ht : ∀ a b, a < n → b < n → t a b < n) (hT : Teller v n n t w) (hA : Asker u n H w) (hq : cloB n t H = q) :
    Calls Tryz.prog 84 #[.int .i64 (n : Int), v, u] w fun e w' => e = .returned (.bool q) ∧ Below w.heap.size w w' := by
  have C : ∀ a b, Calls Tryz.prog 79 #[.int .i64 (n : Int), .func (.func 125) #[] #[.pointer (some ⟨w.heap.size + 1, 0, none⟩), .pointer (some ⟨w.heap.size, 0, none⟩)]] ((w.alloc (.cells #[v] a)).alloc (.cells #[u] b)) fun e w' => e = .returned (.bool q) ∧ Below ((w.alloc (.cells #[v] a)).alloc (.cells #[u] b)).heap.size ((w.alloc (.cells #[v] a)).alloc (.cells #[u] b)) w' := fun a b =>
    alwaysOfTwo_any n (fun x y => !H x || !H y || H (t x y)) q _ _ hn ⟨_, _, rfl, e69, fun W hB x y hx hy => closed1_any n (w.heap.size + 1) w.heap.size x y t H u v _ W ht (hT.below (two_below w _ _)) (hA.below (two_below w _ _)) hB ((bx_two w v u a b).2.below hB) ((bx_two w v u a b).1.below hB) hx hy⟩ hq
  obtain ⟨g, lb, rfl⟩ := hT.form
  obtain ⟨h, lc, rfl⟩ := hA.form
  clear hT hq ht hA
  go_enter Tryz.func84, Tryz.ntmps84
  go_wp2_with (go_at_call 79; refine (C _ _).mono ?_; rintro e w3 ⟨rfl, b3⟩)
  go_ret
  exact ⟨rfl, Below.next (two_below w _ _) b3⟩
theorem pow_le {n : Nat} (h : n ≤ 8) : 2 ^ n ≤ 256 := Nat.le_trans (Nat.pow_le_pow_right (by decide) h) (by decide)
end Go.Proofs.YtgpkhfpejopacabGreatDoor.Ql

namespace Go.Proofs.YtgpkhfpejopacabGreatDoor.Ql
open Go.RowKit

set_option maxRecDepth 100000 in
set_option maxHeartbeats 4000000 in
theorem parts_any (n : Nat) (t : Nat → Nat → Nat) (v : Value) (w : World) (m : Nat) (hn : n ≤ 8) (ht : ∀ a b, a < n → b < n → t a b < n) (hT : Teller v n n t w) (hm : parB n t (2 ^ n) = m) :
    Calls Tryz.prog 39 #[.int .i64 (n : Int), v] w fun e w' => e = .returned (.int .i64 (m : Int)) ∧ Below w.heap.size w w' := by
  have HT : Hid (Teller v n n t w) := hT
  have HLT : Hid (∀ a b, a < n → b < n → t a b < n) := ht
  have HM : Hid (parB n t (2 ^ n) = m) := hm
  obtain ⟨g, lb, rfl⟩ := hT.form
  obtain ⟨N, hN⟩ : ∃ N, N = 2 ^ n := ⟨_, rfl⟩
  have HN : Hid (N = 2 ^ n) := hN
  have hN8 : N ≤ 256 := by rw [hN]; exact pow_le hn
  have hpw : (2 : Int) ^ n = (N : Int) := by rw [hN]; simp
  have hN1 : 1 ≤ N := by rw [hN]; exact Nat.pos_of_ne_zero (by simp)
  clear hT ht hm hN
  go_enter Tryz.func39, Tryz.ntmps39
  go_wp2
  go_loopw [5, 6] (fun ov sv wr => ∃ (k : Nat) (c : Nat), sv = .int .u64 (k : Int) ∧ ov = .int .i64 (c : Int) ∧ 1 ≤ k ∧ k ≤ N ∧ c ≤ k ∧ Hid (parB n t k = c) ∧ Below w.heap.size w wr) (fun _ sv _ => (N - intOf sv).toNat)
  case atStart => exact ⟨1, 0, rfl, rfl, by omega, by omega, by omega, parB_one n t, Below.refl _ _⟩
  case round =>
    obtain ⟨k, c, rfl, rfl, hk1, hkN, hck, HC, hB⟩ := hrel
    by_cases hlt : k < N
    · have hdk : decide ((k : Int) < (N : Int)) = true := by simp; omega
      have C1 := holding_any n k wr hn (by omega)
      have C2 := fun W y (b : Below w.heap.size w W) (hA : Asker y n k.testBit W) => closed_any n t k.testBit _ y _ W hn HLT.out (HT.out.below b) hA rfl
      have HP : Hid (parB n t (k + 1) = c + if cloB n t k.testBit = true then 1 else 0) := by show _ = _; rw [parB_succ hk1, HC.out]
      generalize cloB n t k.testBit = q at *
      cases q with
      | true =>
        go_wp2_with (first
          | (go_at_call 85; refine C1.mono ?_; rintro e w1 ⟨⟨y, rfl, hA⟩, b1⟩; have hB1 := Below.next hB b1; clear C1)
          | (go_at_call 84; refine (C2 _ _ hB1 hA).mono ?_; rintro e w2 ⟨rfl, b2⟩; have hB2 := Below.next hB1 b2; clear C2))
        go_roundw
        case rel => exact ⟨k + 1, c + 1, by go_num, by go_num, by omega, by omega, by omega, HP.out, hB2⟩
        case measure => simp [intOf]; omega
      | false =>
        go_wp2_with (first
          | (go_at_call 85; refine C1.mono ?_; rintro e w1 ⟨⟨y, rfl, hA⟩, b1⟩; have hB1 := Below.next hB b1; clear C1)
          | (go_at_call 84; refine (C2 _ _ hB1 hA).mono ?_; rintro e w2 ⟨rfl, b2⟩; have hB2 := Below.next hB1 b2; clear C2))
        go_roundw
        case rel => exact ⟨k + 1, c, by go_num, rfl, by omega, by omega, by omega, HP.out, hB2⟩
        case measure => simp [intOf]; omega
    · have hdk : decide ((k : Int) < (N : Int)) = false := by simp; omega
      obtain rfl : k = N := by omega
      obtain rfl : c = m := by rw [← HC.out, ← HM.out, HN.out]
      go_wp2
      go_ret
      exact ⟨rfl, hB⟩
set_option maxRecDepth 100000 in
set_option maxHeartbeats 4000000 in
theorem Parts_bad (s : Int) (L : List Int) (v : Value) (w : World) (hv : Sl w v L) (hl : L.length ≤ maxLen) (h : lF s L ≠ 0) :
    Calls Tryz.prog 11 #[.agg #[.int .i64 s, v]] w fun e w' => e = .returned (.tuple #[.int .i64 0, .int .i64 (lF s L : Int)]) ∧ Below w.heap.size w w' := by
  have C := fun W (b : Below w.heap.size w W) => Check_any s L v W (hv.below b) hl
  have hz : ((lF s L : Int) != 0) = true := by simp; omega
  generalize lF s L = z at *
  clear hv
  go_enter Tryz.func11, Tryz.ntmps11
  go_wp2_with (go_at_call 8; refine (C _ (balloc w _)).mono ?_; rintro e w0 ⟨rfl, b0⟩)
  go_ret2
  exact ⟨rfl, Below.next (balloc w _) b0⟩
set_option maxRecDepth 100000 in
set_option maxHeartbeats 8000000 in
theorem Parts_ok (n : Nat) (L : List Int) (v : Value) (w : World) (hv : Sl w v L) (G : GoodS n L) :
    Calls Tryz.prog 11 #[.agg #[.int .i64 (n : Int), v]] w fun e w' => e = .returned (.tuple #[.int .i64 (parB n (sq n L) (2 ^ n) : Int), .int .i64 0]) ∧ Below w.heap.size w w' := by
  have h8 := G.le
  have C := fun W (b : Below w.heap.size w W) => Check_any n L v W (hv.below b) (good_len G)
  rw [lF_good G] at C
  have A1 := fun W (b : Below w.heap.size w W) => productOf_any n L v W (hv.below b) G
  have A2 := fun y W (hT : Teller y n n (sq n L) W) => parts_any n (sq n L) y W _ h8 G.lat.lt hT rfl
  have SS : Hid (∀ W, Below (w.alloc (.cells #[.int .i64 (n : Int), v] 31)).heap.size (w.alloc (.cells #[.int .i64 (n : Int), v] 31)) W → W.cell? ⟨w.heap.size, 0, none⟩ = some (.int .i64 (n : Int)) ∧ W.cell? ⟨w.heap.size, 1, none⟩ = some v ∧ W.rangeAt w.heap.size 0 [.int .i64 (n : Int), v]) := one_box n v w
  generalize parB n (sq n L) (2 ^ n) = m at *
  clear hv G
  go_enter Tryz.func11, Tryz.ntmps11
  go_wp2_with (go_at_call 8; refine (C _ (balloc w _)).mono ?_; rintro e w0 ⟨rfl, b0⟩; obtain ⟨x0, x1, x2⟩ := SS.out _ b0)
  have hB := Below.next (balloc w _) b0
  have HS : Hid (∀ w', Below w0.heap.size w0 w' → w'.cell? ⟨w.heap.size, 0, none⟩ = some (.int .i64 (n : Int)) ∧ w'.cell? ⟨w.heap.size, 1, none⟩ = some v ∧ w'.rangeAt w.heap.size 0 [.int .i64 (n : Int), v]) := fun w' b' => SS.out _ (Below.next b0 b')
  clear C SS x0 x1 x2
  refine wp_region_noPanic ?_
  refine wp_region_held_drew (S := fun w' => w'.cell? ⟨w.heap.size, 0, none⟩ = some (.int .i64 (n : Int)) ∧ w'.cell? ⟨w.heap.size, 1, none⟩ = some v ∧ w'.rangeAt w.heap.size 0 [.int .i64 (n : Int), v]) (by kernel_rfl) (HS.out _ (Below.refl _ w0).drew) (fun hSx => ?_)
  have d0 : Below w0.heap.size w0 w0.drew := (Below.refl _ w0).drew
  refine wpAnyH_take (i := 0) (v := .pointer (some ⟨w.heap.size, 0, none⟩)) rfl (by kernel_rfl) (by kernel_rfl) (by kernel_rfl) (fun _ _ _ h => h) (Or.inl ⟨by rfl, fun w' hSw => by (try dsimp only at hSw); obtain ⟨hs0, hs1, hs2⟩ := hSw; go_simp⟩) hSx ?_
  try simp only [Act.put, List.setIfInBounds_toArray]
  refine wpAnyH_take (i := 1) (v := .int .i64 (n : Int)) rfl (by kernel_rfl) (by kernel_rfl) (by kernel_rfl) (fun _ _ _ h => h) (Or.inl ⟨by rfl, fun w' hSw => by (try dsimp only at hSw); obtain ⟨hs0, hs1, hs2⟩ := hSw; go_simp⟩) hSx ?_
  try simp only [Act.put]
  refine wpAnyH_take (i := 2) (v := .agg #[.int .i64 (n : Int), v]) rfl (by kernel_rfl) (by kernel_rfl) (by kernel_rfl) (fun _ _ _ h => h) (yieldsIf_load_mid (by rfl) 31 _ rfl w.heap.size 0 rfl [.int .i64 (n : Int), v] _ (fun _ h => h.2.2) Tryz.underlying31 rfl inf24) hSx ?_
  try simp only [Act.put]
  refine wpAnyH_ready (rs := [3]) (by kernel_rfl) (by simp) ?_
  refine AllReadyH.cons rfl (fun J hJ => ?_) AllReadyH.nil
  go_simp
  refine (A1 _ (Below.next hB d0)).mono ?_
  rintro e w1 ⟨⟨y, rfl, hT⟩, b1⟩
  have d1 := Below.next d0 b1
  go_wp2_with fail
  refine hJ.out _ _ (HS.out _ d1) (fun hSx => ?_)
  clear hJ J
  try simp only [Act.put, List.setIfInBounds_toArray, List.set_cons_zero, List.set_cons_succ]
  refine wpAnyH_ready (rs := [4]) (by kernel_rfl) (by simp) ?_
  refine AllReadyH.cons rfl (fun J hJ => ?_) AllReadyH.nil
  go_simp
  refine (A2 y _ hT).mono ?_
  rintro e w2 ⟨rfl, b2⟩
  have d2 := Below.next d1 b2
  go_wp2_with fail
  refine hJ.out _ _ (HS.out _ d2) (fun hSx => ?_)
  clear hJ J
  try simp only [Act.put, List.setIfInBounds_toArray, List.set_cons_zero, List.set_cons_succ]
  refine wpAnyH_take (i := 5) (v := .int .i64 (m : Int)) rfl (by kernel_rfl) (by kernel_rfl) (by kernel_rfl) (fun _ _ _ h => h) (Or.inl ⟨by rfl, fun w' hSw => by (try dsimp only at hSw); obtain ⟨hs0, hs1, hs2⟩ := hSw; go_simp⟩) hSx ?_
  try simp only [Act.put, List.setIfInBounds_toArray]
  refine wpAnyH_take (i := 6) (v := .int .i64 0) rfl (by kernel_rfl) (by kernel_rfl) (by kernel_rfl) (fun _ _ _ h => h) (Or.inl ⟨by rfl, fun w' hSw => by (try dsimp only at hSw); obtain ⟨hs0, hs1, hs2⟩ := hSw; go_simp⟩) hSx ?_
  try simp only [Act.put]
  refine wpAnyH_done (by kernel_rfl) ?_ _
  refine NoPanic.normal ?_
  go_simp
  go_wp2
  go_ret2
  exact ⟨rfl, Below.next hB d2⟩
theorem bit_i {set : Nat} (x : Nat) (hs : set < 256) : bits BinOp.and IntKind.i64 ((set : Int) / 2 ^ x) 1 = if set.testBit x then 1 else 0 := by
  rw [shr_cast, and_i ⟨_, shr_lt hs⟩, Nat.testBit_eq_decide_div_mod_eq]
  have := Nat.mod_lt (set / 2 ^ x) (show 0 < 2 by decide)
  by_cases h : set / 2 ^ x % 2 = 1
  · rw [decide_eq_true h, if_pos rfl]; show ((set / 2 ^ x % 2 : Nat) : Int) = 1; omega
  · rw [decide_eq_false h, if_neg (by decide)]; show ((set / 2 ^ x % 2 : Nat) : Int) = 0; omega
end Go.Proofs.YtgpkhfpejopacabGreatDoor.Ql
