/- The walks of even, Even. -/
import Derived.Test.YtamdpcajfgbagaaH5
import Derived.Laws.EntriesVeiled
namespace Go.Proofs.Ytamdpcajfgbagaa
open Go.RowKit

theorem e30 : ∀ args w, (callFunc 30 args).run Try.prog w = .ok (.enter 30 args) w := enters_of Try.func30 (by kernel_rfl) rfl
theorem e31 : ∀ args w, (callFunc 31 args).run Try.prog w = .ok (.enter 31 args) w := enters_of Try.func31 (by kernel_rfl) rfl
/-- Rows made even. -/
def evr (t : Nat → Nat → Int) (i j : Nat) : Int := t i j * t i 0
theorem evr_evn (t : Nat → Nat → Int) (i j : Nat) : evr t i j * evr t 0 j = evn t i j := rfl
theorem wrapS {z : Int} (h1 : -1 ≤ z) (h2 : z ≤ 1) : IntKind.i64.wrap z = z := by
  rcases (show z = -1 ∨ z = 0 ∨ z = 1 by omega) with rfl | rfl | rfl <;> decide
theorem sg_two {a b : Int} (ha : Sg a) (hb : Sg b) : -1 ≤ a * b ∧ a * b ≤ 1 := by rcases ha with rfl | rfl <;> rcases hb with rfl | rfl <;> decide
set_option maxHeartbeats 4000000 in
theorem even1_any (n r c b : Nat) (t : Nat → Nat → Int) (g : Nat) (lb : Array Value) (W : World) (hr : r < n) (hc : c < n) (hs : ∀ i j, i < n → j < n → Sg (t i j)) (eg : ∀ args w, (callFunc g args).run Try.prog w = .ok (.enter g args) w)
    (hT : TellAt g lb n n t W) (hb : W.cell? ⟨b, 0, none⟩ = some (.func (.func g) #[] lb)) :
    Calls Try.prog 30 #[.int .i64 (r : Int), .int .i64 (c : Int), .pointer (some ⟨b, 0, none⟩)] W fun e w' => e = .returned (.int .i64 (evr t r c)) ∧ Below W.heap.size W w' := by
  have hbl := block_lt_of_cell hb
  have hp := sg_two (hs r c hr hc) (hs r 0 hr (by omega))
  have C1 := hT W.drew (Below.refl _ W).drew r c hr hc
  have HT : Hid (∀ X, Below W.heap.size W X → Calls Try.prog g (#[.int .i64 (r : Int), .int .i64 0] ++ lb) X fun e w' => e = .returned (.int .i64 (t r 0)) ∧ Below X.heap.size X w') := fun X bX => hT X bX r 0 hr (by omega)
  have HP : Hid (∀ X, Below W.heap.size W X → X.cell? ⟨b, 0, none⟩ = some (.func (.func g) #[] lb)) := fun X bX => (bX.cell (p := ⟨b, 0, none⟩) hbl).trans hb
  show Calls _ _ _ _ fun e w' => e = .returned (.int .i64 (t r c * t r 0)) ∧ _
  obtain ⟨x, Hx⟩ : ∃ x, Hid (t r c = x) := ⟨_, rfl⟩
  obtain ⟨y, Hy⟩ : ∃ y, Hid (t r 0 = y) := ⟨_, rfl⟩
  rw [Hx.out] at C1 hp ⊢
  rw [Hy.out] at HT hp ⊢
  obtain ⟨z, hz⟩ : ∃ z, x * y = z := ⟨_, rfl⟩
  rw [hz] at hp ⊢
  obtain ⟨hp1, hp2⟩ := hp
  have hwz := wrapS hp1 hp2
  clear hT hs
  go_enter Try.func30, Try.ntmps30
  go_wp2_with fail
  refine wp_region_noPanic ?_
  refine wp_region_held_drew (S := fun w' => w'.cell? ⟨b, 0, none⟩ = some (.func (.func g) #[] lb)) (by kernel_rfl) hb (fun hSx => ?_)
  refine wpAnyH_take (i := 0) (v := .func (.func g) #[] lb) rfl (by kernel_rfl) (by kernel_rfl) (by kernel_rfl) (fun _ _ _ h => h) (Or.inl ⟨by rfl, fun w' hSw => by (try dsimp only at hSw); go_simp⟩) hSx ?_
  try simp only [Act.put, List.setIfInBounds_toArray]
  refine wpAnyH_take (i := 1) (v := .int .i64 (r : Int)) rfl (by kernel_rfl) (by kernel_rfl) (by kernel_rfl) (fun _ _ _ h => h) (Or.inl ⟨by rfl, fun w' hSw => by (try dsimp only at hSw); go_simp⟩) hSx ?_
  try simp only [Act.put]
  refine wpAnyH_take (i := 2) (v := .int .i64 (c : Int)) rfl (by kernel_rfl) (by kernel_rfl) (by kernel_rfl) (fun _ _ _ h => h) (Or.inl ⟨by rfl, fun w' hSw => by (try dsimp only at hSw); go_simp⟩) hSx ?_
  try simp only [Act.put]
  refine wpAnyH_take (i := 4) (v := .func (.func g) #[] lb) rfl (by kernel_rfl) (by kernel_rfl) (by kernel_rfl) (fun _ _ _ h => h) (Or.inl ⟨by rfl, fun w' hSw => by (try dsimp only at hSw); go_simp⟩) hSx ?_
  try simp only [Act.put]
  refine wpAnyH_take (i := 5) (v := .int .i64 (r : Int)) rfl (by kernel_rfl) (by kernel_rfl) (by kernel_rfl) (fun _ _ _ h => h) (Or.inl ⟨by rfl, fun w' hSw => by (try dsimp only at hSw); go_simp⟩) hSx ?_
  try simp only [Act.put]
  refine wpAnyH_ready (rs := [3]) (by kernel_rfl) (by simp) ?_
  refine AllReadyH.cons rfl (fun J hJ => ?_) AllReadyH.nil
  go_simp
  go_at_fn g
  refine C1.mono ?_
  rintro e w1 ⟨rfl, b1⟩
  have b1' := Below.next (Below.refl _ W).drew b1
  have D := HT.out _ b1'
  go_wp2_with fail
  refine hJ.out _ _ (HP.out _ b1') (fun hSy => ?_)
  clear hJ J C1
  try simp only [Act.put, List.setIfInBounds_toArray, List.set_cons_zero, List.set_cons_succ]
  refine wpAnyH_ready (rs := [6]) (by kernel_rfl) (by simp) ?_
  refine AllReadyH.cons rfl (fun J hJ => ?_) AllReadyH.nil
  go_simp
  go_at_fn g
  refine D.mono ?_
  rintro e w2 ⟨rfl, b2⟩
  have b2' := Below.next b1' b2
  clear D
  go_wp2_with fail
  refine hJ.out _ _ (HP.out _ b2') (fun hSz => ?_)
  clear hJ J
  try simp only [Act.put, List.setIfInBounds_toArray, List.set_cons_zero, List.set_cons_succ]
  refine wpAnyH_take (i := 7) (v := .int .i64 z) rfl (by kernel_rfl) (by kernel_rfl) (by kernel_rfl) (fun _ _ _ h => h) (Or.inl ⟨by rfl, fun w' hSw => by (try dsimp only at hSw); go_simp⟩) hSz ?_
  try simp only [Act.put]
  refine wpAnyH_ready (rs := [8]) (by kernel_rfl) (by simp) ?_
  refine AllReadyH.cons rfl (fun J hJ => ?_) AllReadyH.nil
  go_simp
  refine hJ.out _ _ hSz (fun _ => ?_)
  clear hJ J
  try simp only [Act.put, List.setIfInBounds_toArray, List.set_cons_zero, List.set_cons_succ]
  refine wpAnyH_done (by kernel_rfl) ?_ _
  refine NoPanic.normal ?_
  clear hSx hSy hSz
  go_wp2
  go_ret
  exact ⟨rfl, b2'⟩
set_option maxHeartbeats 4000000 in
theorem even2_any (n r c b : Nat) (t : Nat → Nat → Int) (g : Nat) (lb : Array Value) (W : World) (hr : r < n) (hc : c < n) (hs : ∀ i j, i < n → j < n → Sg (t i j)) (eg : ∀ args w, (callFunc g args).run Try.prog w = .ok (.enter g args) w)
    (hT : TellAt g lb n n t W) (hb : W.cell? ⟨b, 0, none⟩ = some (.func (.func g) #[] lb)) :
    Calls Try.prog 31 #[.int .i64 (r : Int), .int .i64 (c : Int), .pointer (some ⟨b, 0, none⟩)] W fun e w' => e = .returned (.int .i64 (t r c * t 0 c)) ∧ Below W.heap.size W w' := by
  have hbl := block_lt_of_cell hb
  have hp := sg_two (hs r c hr hc) (hs 0 c (by omega) hc)
  have C1 := hT W.drew (Below.refl _ W).drew r c hr hc
  have HT : Hid (∀ X, Below W.heap.size W X → Calls Try.prog g (#[.int .i64 0, .int .i64 (c : Int)] ++ lb) X fun e w' => e = .returned (.int .i64 (t 0 c)) ∧ Below X.heap.size X w') := fun X bX => hT X bX 0 c (by omega) hc
  have HP : Hid (∀ X, Below W.heap.size W X → X.cell? ⟨b, 0, none⟩ = some (.func (.func g) #[] lb)) := fun X bX => (bX.cell (p := ⟨b, 0, none⟩) hbl).trans hb
  show Calls _ _ _ _ fun e w' => e = .returned (.int .i64 (t r c * t 0 c)) ∧ _
  obtain ⟨x, Hx⟩ : ∃ x, Hid (t r c = x) := ⟨_, rfl⟩
  obtain ⟨y, Hy⟩ : ∃ y, Hid (t 0 c = y) := ⟨_, rfl⟩
  rw [Hx.out] at C1 hp ⊢
  rw [Hy.out] at HT hp ⊢
  obtain ⟨z, hz⟩ : ∃ z, x * y = z := ⟨_, rfl⟩
  rw [hz] at hp ⊢
  obtain ⟨hp1, hp2⟩ := hp
  have hwz := wrapS hp1 hp2
  clear hT hs
  go_enter Try.func31, Try.ntmps31
  go_wp2_with fail
  refine wp_region_noPanic ?_
  refine wp_region_held_drew (S := fun w' => w'.cell? ⟨b, 0, none⟩ = some (.func (.func g) #[] lb)) (by kernel_rfl) hb (fun hSx => ?_)
  refine wpAnyH_take (i := 0) (v := .func (.func g) #[] lb) rfl (by kernel_rfl) (by kernel_rfl) (by kernel_rfl) (fun _ _ _ h => h) (Or.inl ⟨by rfl, fun w' hSw => by (try dsimp only at hSw); go_simp⟩) hSx ?_
  try simp only [Act.put, List.setIfInBounds_toArray]
  refine wpAnyH_take (i := 1) (v := .int .i64 (r : Int)) rfl (by kernel_rfl) (by kernel_rfl) (by kernel_rfl) (fun _ _ _ h => h) (Or.inl ⟨by rfl, fun w' hSw => by (try dsimp only at hSw); go_simp⟩) hSx ?_
  try simp only [Act.put]
  refine wpAnyH_take (i := 2) (v := .int .i64 (c : Int)) rfl (by kernel_rfl) (by kernel_rfl) (by kernel_rfl) (fun _ _ _ h => h) (Or.inl ⟨by rfl, fun w' hSw => by (try dsimp only at hSw); go_simp⟩) hSx ?_
  try simp only [Act.put]
  refine wpAnyH_take (i := 4) (v := .func (.func g) #[] lb) rfl (by kernel_rfl) (by kernel_rfl) (by kernel_rfl) (fun _ _ _ h => h) (Or.inl ⟨by rfl, fun w' hSw => by (try dsimp only at hSw); go_simp⟩) hSx ?_
  try simp only [Act.put]
  refine wpAnyH_take (i := 5) (v := .int .i64 (c : Int)) rfl (by kernel_rfl) (by kernel_rfl) (by kernel_rfl) (fun _ _ _ h => h) (Or.inl ⟨by rfl, fun w' hSw => by (try dsimp only at hSw); go_simp⟩) hSx ?_
  try simp only [Act.put]
  refine wpAnyH_ready (rs := [3]) (by kernel_rfl) (by simp) ?_
  refine AllReadyH.cons rfl (fun J hJ => ?_) AllReadyH.nil
  go_simp
  go_at_fn g
  refine C1.mono ?_
  rintro e w1 ⟨rfl, b1⟩
  have b1' := Below.next (Below.refl _ W).drew b1
  have D := HT.out _ b1'
  go_wp2_with fail
  refine hJ.out _ _ (HP.out _ b1') (fun hSy => ?_)
  clear hJ J C1
  try simp only [Act.put, List.setIfInBounds_toArray, List.set_cons_zero, List.set_cons_succ]
  refine wpAnyH_ready (rs := [6]) (by kernel_rfl) (by simp) ?_
  refine AllReadyH.cons rfl (fun J hJ => ?_) AllReadyH.nil
  go_simp
  go_at_fn g
  refine D.mono ?_
  rintro e w2 ⟨rfl, b2⟩
  have b2' := Below.next b1' b2
  clear D
  go_wp2_with fail
  refine hJ.out _ _ (HP.out _ b2') (fun hSz => ?_)
  clear hJ J
  try simp only [Act.put, List.setIfInBounds_toArray, List.set_cons_zero, List.set_cons_succ]
  refine wpAnyH_take (i := 7) (v := .int .i64 z) rfl (by kernel_rfl) (by kernel_rfl) (by kernel_rfl) (fun _ _ _ h => h) (Or.inl ⟨by rfl, fun w' hSw => by (try dsimp only at hSw); go_simp⟩) hSz ?_
  try simp only [Act.put]
  refine wpAnyH_ready (rs := [8]) (by kernel_rfl) (by simp) ?_
  refine AllReadyH.cons rfl (fun J hJ => ?_) AllReadyH.nil
  go_simp
  refine hJ.out _ _ hSz (fun _ => ?_)
  clear hJ J
  try simp only [Act.put, List.setIfInBounds_toArray, List.set_cons_zero, List.set_cons_succ]
  refine wpAnyH_done (by kernel_rfl) ?_ _
  refine NoPanic.normal ?_
  clear hSx hSy hSz
  go_wp2
  go_ret
  exact ⟨rfl, b2'⟩
theorem evr_sg {n : Nat} {t : Nat → Nat → Int} (hs : ∀ i j, i < n → j < n → Sg (t i j)) : ∀ i j, i < n → j < n → Sg (evr t i j) := fun i j hi hj => (hs i j hi hj).mul (hs i 0 hi (by omega))
set_option maxHeartbeats 4000000 in
theorem even_any (n : Nat) (t : Nat → Nat → Int) (v : Value) (w : World) (hs : ∀ i j, i < n → j < n → Sg (t i j)) (hT : Teller v n n t w) :
    Calls Try.prog 21 #[v] w fun e w' => (∃ y, e = .returned y ∧ Teller y n n (evn t) w') ∧ Below w.heap.size w w' := by
  obtain ⟨g, lb, rfl, eg, hT⟩ := hT
  have HT : Hid (TellAt g lb n n t w) := hT
  have HG : Hid (∀ args w, (callFunc g args).run Try.prog w = .ok (.enter g args) w) := eg
  have HS : Hid (∀ i j, i < n → j < n → Sg (t i j)) := hs
  clear hT eg hs
  go_enter Try.func21, Try.ntmps21
  go_wp2
  go_ret
  have hb := Below.next (balloc w (.cells #[.func (.func g) #[] lb] 45)) (balloc _ (.cells #[.func (.func 30) #[] #[.pointer (some ⟨w.heap.size, 0, none⟩)]] 44))
  have k0 : ((w.alloc (.cells #[.func (.func g) #[] lb] 45)).alloc (.cells #[.func (.func 30) #[] #[.pointer (some ⟨w.heap.size, 0, none⟩)]] 44)).heap[w.heap.size]? = some (.cells #[.func (.func g) #[] lb] 45 (0, 0)) := (Below.heap_alloc _ _ _ (by simp)).trans (heap_alloc_new w _)
  have k1 : ((w.alloc (.cells #[.func (.func g) #[] lb] 45)).alloc (.cells #[.func (.func 30) #[] #[.pointer (some ⟨w.heap.size, 0, none⟩)]] 44)).heap[w.heap.size + 1]? = some (.cells #[.func (.func 30) #[] #[.pointer (some ⟨w.heap.size, 0, none⟩)]] 44 (0, 0)) := by
    have := heap_alloc_new (w.alloc (.cells #[.func (.func g) #[] lb] 45)) (.cells #[.func (.func 30) #[] #[.pointer (some ⟨w.heap.size, 0, none⟩)]] 44)
    simpa using this
  refine ⟨⟨_, rfl, 31, _, rfl, e31, fun W bW r c hr hc => ?_⟩, hb⟩
  have q0 : ∀ X, Below W.heap.size W X → X.cell? ⟨w.heap.size, 0, none⟩ = some (.func (.func g) #[] lb) := fun X bX => by
    rw [cell_of_row _ _ _ _ _ _ (((Below.next bW bX).block _ (by simp; omega)).trans k0)]; rfl
  have q1 : W.cell? ⟨w.heap.size + 1, 0, none⟩ = some (.func (.func 30) #[] #[.pointer (some ⟨w.heap.size, 0, none⟩)]) := by
    rw [cell_of_row _ _ _ _ _ _ ((bW.block _ (by simp)).trans k1)]; rfl
  have h30 : TellAt 30 #[.pointer (some ⟨w.heap.size, 0, none⟩)] n n (evr t) W := fun X bX r c hr hc =>
    even1_any n r c w.heap.size t g lb X hr hc HS.out HG.out (fun Y bY r c hr hc => HT.out Y (Below.next hb (Below.next bW (Below.next bX bY))) r c hr hc) (q0 X bX)
  exact even2_any n r c (w.heap.size + 1) (evr t) 30 _ W hr hc (evr_sg HS.out) e30 h30 q1
end Go.Proofs.Ytamdpcajfgbagaa
