/- The walk of Product. -/
import Derived.Test.YtamdpcajfgbagaaDoorH5
import Derived.Test.YtamdpcajfgbagaaDoorF1
/- The walk of product. -/
namespace Go.Proofs.YtamdpcajfgbagaaDoor
open Go.RowKit

theorem e31p : ∀ args w, (callFunc 31 args).run Tryd.prog w = .ok (.enter 31 args) w := enters_of Tryd.func31 (by kernel_rfl) rfl
theorem wrapS {z : Int} (h1 : -1 ≤ z) (h2 : z ≤ 1) : IntKind.i64.wrap z = z := by
  rcases (show z = -1 ∨ z = 0 ∨ z = 1 by omega) with rfl | rfl | rfl <;> decide
theorem sg_two {a b : Int} (ha : Sg a) (hb : Sg b) : -1 ≤ a * b ∧ a * b ≤ 1 := by rcases ha with rfl | rfl <;> rcases hb with rfl | rfl <;> decide
theorem div_lt' {r n m : Nat} (h : r < n * m) : r / m < n := Nat.div_lt_of_lt_mul (by rw [Nat.mul_comm]; exact h)
set_option maxRecDepth 100000 in
set_option maxHeartbeats 4000000 in
theorem product1_any (n m r c g1 g2 g3 : Nat) (A B : Nat → Nat → Int) (ga gb : Nat) (la lb : Array Value) (W : World) (hm : 0 < m) (hnm : n * m ≤ 99) (hr : r < n * m) (hc : c < n * m)
    (hA : ∀ i j, i < n → j < n → Sg (A i j)) (hB : ∀ i j, i < m → j < m → Sg (B i j))
    (ea : ∀ args w, (callFunc ga args).run Tryd.prog w = .ok (.enter ga args) w) (eb : ∀ args w, (callFunc gb args).run Tryd.prog w = .ok (.enter gb args) w)
    (hTA : TellAt ga la n n A W) (hTB : TellAt gb lb m m B W) (h1 : W.cell? ⟨g1, 0, none⟩ = some (.func (.func ga) #[] la)) (h2 : W.cell? ⟨g2, 0, none⟩ = some (.int .i64 (m : Int))) (h3 : W.cell? ⟨g3, 0, none⟩ = some (.func (.func gb) #[] lb)) :
    Calls Tryd.prog 31 #[.int .i64 (r : Int), .int .i64 (c : Int), .pointer (some ⟨g1, 0, none⟩), .pointer (some ⟨g2, 0, none⟩), .pointer (some ⟨g3, 0, none⟩)] W fun e w' => e = .returned (.int .i64 (prd m A B r c)) ∧ Below W.heap.size W w' := by
  have l1 := block_lt_of_cell h1
  have l2 := block_lt_of_cell h2
  have l3 := block_lt_of_cell h3
  have i1 := div_lt' hr
  have i2 := div_lt' hc
  have i3 := Nat.mod_lt r hm
  have i4 := Nat.mod_lt c hm
  have hp := sg_two (hA _ _ i1 i2) (hB _ _ i3 i4)
  have C1 := hTA W.drew (Below.refl _ W).drew _ _ i1 i2
  have HTB : Hid (∀ X, Below W.heap.size W X → Calls Tryd.prog gb (#[.int .i64 ((r % m : Nat) : Int), .int .i64 ((c % m : Nat) : Int)] ++ lb) X fun e w' => e = .returned (.int .i64 (B (r % m) (c % m))) ∧ Below X.heap.size X w') := fun X bX => hTB X bX _ _ i3 i4
  have HP : Hid (∀ X, Below W.heap.size W X → (X.cell? ⟨g1, 0, none⟩ = some (.func (.func ga) #[] la) ∧ X.cell? ⟨g2, 0, none⟩ = some (.int .i64 (m : Int)) ∧ X.cell? ⟨g3, 0, none⟩ = some (.func (.func gb) #[] lb))) := fun X bX => ⟨(bX.cell (p := ⟨g1, 0, none⟩) l1).trans h1, (bX.cell (p := ⟨g2, 0, none⟩) l2).trans h2, (bX.cell (p := ⟨g3, 0, none⟩) l3).trans h3⟩
  show Calls _ _ _ _ fun e w' => e = .returned (.int .i64 (A (r / m) (c / m) * B (r % m) (c % m))) ∧ _
  have q1 : (r : Int) / (m : Int) = ((r / m : Nat) : Int) := by simp
  have q2 : (c : Int) / (m : Int) = ((c / m : Nat) : Int) := by simp
  have q3 : (r : Int) % (m : Int) = ((r % m : Nat) : Int) := by simp
  have q4 : (c : Int) % (m : Int) = ((c % m : Nat) : Int) := by simp
  have t1 : (r : Int).tdiv (m : Int) = ((r / m : Nat) : Int) := by rw [Int.tdiv_eq_ediv_of_nonneg (by omega)]; exact q1
  have t2 : (c : Int).tdiv (m : Int) = ((c / m : Nat) : Int) := by rw [Int.tdiv_eq_ediv_of_nonneg (by omega)]; exact q2
  have t3 : (r : Int).tmod (m : Int) = ((r % m : Nat) : Int) := by rw [Int.tmod_eq_emod_of_nonneg (by omega)]; exact q3
  have t4 : (c : Int).tmod (m : Int) = ((c % m : Nat) : Int) := by rw [Int.tmod_eq_emod_of_nonneg (by omega)]; exact q4
  have b1 : r / m ≤ r := Nat.div_le_self _ _
  have b2 : c / m ≤ c := Nat.div_le_self _ _
  have b3 : r % m ≤ r := Nat.mod_le _ _
  have b4 : c % m ≤ c := Nat.mod_le _ _
  generalize r / m = ra at *
  generalize c / m = ca at *
  generalize r % m = rb at *
  generalize c % m = cb at *
  have w1' := wrapN9 (q := ra) (by omega)
  have w2' := wrapN9 (q := ca) (by omega)
  have w3' := wrapN9 (q := rb) (by omega)
  have w4' := wrapN9 (q := cb) (by omega)
  obtain ⟨x, Hx⟩ : ∃ x, Hid (A ra ca = x) := ⟨_, rfl⟩
  obtain ⟨y, Hy⟩ : ∃ y, Hid (B rb cb = y) := ⟨_, rfl⟩
  rw [Hx.out] at C1 hp ⊢
  rw [Hy.out] at HTB hp ⊢
  obtain ⟨z, hz⟩ : ∃ z, x * y = z := ⟨_, rfl⟩
  rw [hz] at hp ⊢
  have hwz := wrapS hp.1 hp.2
  have hmz : ¬ (m : Int) = 0 := by omega
  have hmn : ¬ m = 0 := by omega
  clear hTA hTB hA hB h1 h2 h3 hp hr hc i1 i2 i3 i4 hnm
  go_enter Tryd.func31, Tryd.ntmps31
  go_wp2_with fail
  refine wp_region_noPanic ?_
  refine wp_region_held_drew (S := fun w' => w'.cell? ⟨g1, 0, none⟩ = some (.func (.func ga) #[] la) ∧ w'.cell? ⟨g2, 0, none⟩ = some (.int .i64 (m : Int)) ∧ w'.cell? ⟨g3, 0, none⟩ = some (.func (.func gb) #[] lb)) (by kernel_rfl) (HP.out _ (Below.refl _ W).drew) (fun hSx => ?_)
  refine wpAnyH_take (i := 0) (v := .func (.func ga) #[] la) rfl (by kernel_rfl) (by kernel_rfl) (by kernel_rfl) (fun _ _ _ h => h) (Or.inl ⟨by rfl, fun w' hSw => by (try dsimp only at hSw); obtain ⟨hs0, hs1, hs2⟩ := hSw; go_simp⟩) hSx ?_
  try simp only [Act.put, List.setIfInBounds_toArray]
  refine wpAnyH_take (i := 1) (v := .int .i64 (r : Int)) rfl (by kernel_rfl) (by kernel_rfl) (by kernel_rfl) (fun _ _ _ h => h) (Or.inl ⟨by rfl, fun w' hSw => by (try dsimp only at hSw); obtain ⟨hs0, hs1, hs2⟩ := hSw; go_simp⟩) hSx ?_
  try simp only [Act.put]
  refine wpAnyH_take (i := 2) (v := .int .i64 (m : Int)) rfl (by kernel_rfl) (by kernel_rfl) (by kernel_rfl) (fun _ _ _ h => h) (Or.inl ⟨by rfl, fun w' hSw => by (try dsimp only at hSw); obtain ⟨hs0, hs1, hs2⟩ := hSw; go_simp⟩) hSx ?_
  try simp only [Act.put]
  refine wpAnyH_take (i := 3) (v := .int .i64 (ra : Int)) rfl (by kernel_rfl) (by kernel_rfl) (by kernel_rfl) (fun _ _ _ h => h) (Or.inl ⟨by rfl, fun w' hSw => by (try dsimp only at hSw); obtain ⟨hs0, hs1, hs2⟩ := hSw; go_simp⟩) hSx ?_
  try simp only [Act.put]
  refine wpAnyH_take (i := 4) (v := .int .i64 (c : Int)) rfl (by kernel_rfl) (by kernel_rfl) (by kernel_rfl) (fun _ _ _ h => h) (Or.inl ⟨by rfl, fun w' hSw => by (try dsimp only at hSw); obtain ⟨hs0, hs1, hs2⟩ := hSw; go_simp⟩) hSx ?_
  try simp only [Act.put]
  refine wpAnyH_take (i := 5) (v := .int .i64 (m : Int)) rfl (by kernel_rfl) (by kernel_rfl) (by kernel_rfl) (fun _ _ _ h => h) (Or.inl ⟨by rfl, fun w' hSw => by (try dsimp only at hSw); obtain ⟨hs0, hs1, hs2⟩ := hSw; go_simp⟩) hSx ?_
  try simp only [Act.put]
  refine wpAnyH_take (i := 6) (v := .int .i64 (ca : Int)) rfl (by kernel_rfl) (by kernel_rfl) (by kernel_rfl) (fun _ _ _ h => h) (Or.inl ⟨by rfl, fun w' hSw => by (try dsimp only at hSw); obtain ⟨hs0, hs1, hs2⟩ := hSw; go_simp⟩) hSx ?_
  try simp only [Act.put]
  refine wpAnyH_take (i := 8) (v := .func (.func gb) #[] lb) rfl (by kernel_rfl) (by kernel_rfl) (by kernel_rfl) (fun _ _ _ h => h) (Or.inl ⟨by rfl, fun w' hSw => by (try dsimp only at hSw); obtain ⟨hs0, hs1, hs2⟩ := hSw; go_simp⟩) hSx ?_
  try simp only [Act.put]
  refine wpAnyH_take (i := 9) (v := .int .i64 (r : Int)) rfl (by kernel_rfl) (by kernel_rfl) (by kernel_rfl) (fun _ _ _ h => h) (Or.inl ⟨by rfl, fun w' hSw => by (try dsimp only at hSw); obtain ⟨hs0, hs1, hs2⟩ := hSw; go_simp⟩) hSx ?_
  try simp only [Act.put]
  refine wpAnyH_take (i := 10) (v := .int .i64 (m : Int)) rfl (by kernel_rfl) (by kernel_rfl) (by kernel_rfl) (fun _ _ _ h => h) (Or.inl ⟨by rfl, fun w' hSw => by (try dsimp only at hSw); obtain ⟨hs0, hs1, hs2⟩ := hSw; go_simp⟩) hSx ?_
  try simp only [Act.put]
  refine wpAnyH_take (i := 11) (v := .int .i64 (rb : Int)) rfl (by kernel_rfl) (by kernel_rfl) (by kernel_rfl) (fun _ _ _ h => h) (Or.inl ⟨by rfl, fun w' hSw => by (try dsimp only at hSw); obtain ⟨hs0, hs1, hs2⟩ := hSw; go_simp⟩) hSx ?_
  try simp only [Act.put]
  refine wpAnyH_take (i := 12) (v := .int .i64 (c : Int)) rfl (by kernel_rfl) (by kernel_rfl) (by kernel_rfl) (fun _ _ _ h => h) (Or.inl ⟨by rfl, fun w' hSw => by (try dsimp only at hSw); obtain ⟨hs0, hs1, hs2⟩ := hSw; go_simp⟩) hSx ?_
  try simp only [Act.put]
  refine wpAnyH_take (i := 13) (v := .int .i64 (m : Int)) rfl (by kernel_rfl) (by kernel_rfl) (by kernel_rfl) (fun _ _ _ h => h) (Or.inl ⟨by rfl, fun w' hSw => by (try dsimp only at hSw); obtain ⟨hs0, hs1, hs2⟩ := hSw; go_simp⟩) hSx ?_
  try simp only [Act.put]
  refine wpAnyH_take (i := 14) (v := .int .i64 (cb : Int)) rfl (by kernel_rfl) (by kernel_rfl) (by kernel_rfl) (fun _ _ _ h => h) (Or.inl ⟨by rfl, fun w' hSw => by (try dsimp only at hSw); obtain ⟨hs0, hs1, hs2⟩ := hSw; go_simp⟩) hSx ?_
  try simp only [Act.put]
  refine wpAnyH_ready (rs := [7]) (by kernel_rfl) (by simp) ?_
  refine AllReadyH.cons rfl (fun J hJ => ?_) AllReadyH.nil
  go_simp
  go_at_fn ga
  refine C1.mono ?_
  rintro e w1 ⟨rfl, k1⟩
  have k1' := Below.next (Below.refl _ W).drew k1
  have D := HTB.out _ k1'
  go_wp2_with fail
  refine hJ.out _ _ (HP.out _ k1') (fun hSx => ?_)
  clear hJ J
  try simp only [Act.put, List.setIfInBounds_toArray, List.set_cons_zero, List.set_cons_succ]
  refine wpAnyH_ready (rs := [15]) (by kernel_rfl) (by simp) ?_
  refine AllReadyH.cons rfl (fun J hJ => ?_) AllReadyH.nil
  go_simp
  go_at_fn gb
  refine D.mono ?_
  rintro e w2 ⟨rfl, k2⟩
  have k2' := Below.next k1' k2
  go_wp2_with fail
  refine hJ.out _ _ (HP.out _ k2') (fun hSx => ?_)
  clear hJ J
  try simp only [Act.put, List.setIfInBounds_toArray, List.set_cons_zero, List.set_cons_succ]
  refine wpAnyH_take (i := 16) (v := .int .i64 z) rfl (by kernel_rfl) (by kernel_rfl) (by kernel_rfl) (fun _ _ _ h => h) (Or.inl ⟨by rfl, fun w' hSw => by (try dsimp only at hSw); obtain ⟨hs0, hs1, hs2⟩ := hSw; go_simp⟩) hSx ?_
  try simp only [Act.put, List.setIfInBounds_toArray]
  refine wpAnyH_ready (rs := [17]) (by kernel_rfl) (by simp) ?_
  refine AllReadyH.cons rfl (fun J hJ => ?_) AllReadyH.nil
  go_simp
  refine hJ.out _ _ hSx (fun hSx => ?_)
  clear hJ J
  try simp only [Act.put, List.setIfInBounds_toArray, List.set_cons_zero, List.set_cons_succ]
  refine wpAnyH_done (by kernel_rfl) ?_ _
  refine NoPanic.normal ?_
  clear hSx C1 D
  go_wp2
  go_ret
  exact ⟨rfl, k2'⟩
set_option maxHeartbeats 4000000 in
theorem product_any (n m : Nat) (A B : Nat → Nat → Int) (u v : Value) (w : World) (hm : 0 < m) (hnm : n * m ≤ 99) (hA : ∀ i j, i < n → j < n → Sg (A i j)) (hB : ∀ i j, i < m → j < m → Sg (B i j)) (hu : Teller u n n A w) (hv : Teller v m m B w) :
    Calls Tryd.prog 22 #[u, v, .int .i64 (m : Int)] w fun e w' => (∃ y, e = .returned y ∧ Teller y (n * m) (n * m) (prd m A B) w') ∧ Below w.heap.size w w' := by
  obtain ⟨ga, la, rfl, ea, hTA⟩ := hu
  obtain ⟨gb, lb, rfl, eb, hTB⟩ := hv
  have HTA : Hid (TellAt ga la n n A w) := hTA
  have HTB : Hid (TellAt gb lb m m B w) := hTB
  have HEA : Hid (∀ args w, (callFunc ga args).run Tryd.prog w = .ok (.enter ga args) w) := ea
  have HEB : Hid (∀ args w, (callFunc gb args).run Tryd.prog w = .ok (.enter gb args) w) := eb
  have HA : Hid (∀ i j, i < n → j < n → Sg (A i j)) := hA
  have HB : Hid (∀ i j, i < m → j < m → Sg (B i j)) := hB
  clear hTA hTB ea eb hA hB
  go_enter Tryd.func22, Tryd.ntmps22
  go_wp2
  go_ret
  have hb := Below.next (Below.next (balloc w (.cells #[.func (.func ga) #[] la] 40)) (balloc _ (.cells #[.func (.func gb) #[] lb] 40))) (balloc _ (.cells #[.int .i64 (m : Int)] 3))
  have k0 : (((w.alloc (.cells #[.func (.func ga) #[] la] 40)).alloc (.cells #[.func (.func gb) #[] lb] 40)).alloc (.cells #[.int .i64 (m : Int)] 3)).heap[w.heap.size]? = some (.cells #[.func (.func ga) #[] la] 40 (0, 0)) := (Below.heap_alloc _ _ _ (by simp; omega)).trans ((Below.heap_alloc _ _ _ (by simp)).trans (heap_alloc_new w _))
  have k1 : (((w.alloc (.cells #[.func (.func ga) #[] la] 40)).alloc (.cells #[.func (.func gb) #[] lb] 40)).alloc (.cells #[.int .i64 (m : Int)] 3)).heap[w.heap.size + 1]? = some (.cells #[.func (.func gb) #[] lb] 40 (0, 0)) := by
    refine (Below.heap_alloc _ _ _ (by simp)).trans ?_
    have := heap_alloc_new (w.alloc (.cells #[.func (.func ga) #[] la] 40)) (.cells #[.func (.func gb) #[] lb] 40)
    simpa using this
  have k2 : (((w.alloc (.cells #[.func (.func ga) #[] la] 40)).alloc (.cells #[.func (.func gb) #[] lb] 40)).alloc (.cells #[.int .i64 (m : Int)] 3)).heap[w.heap.size + 1 + 1]? = some (.cells #[.int .i64 (m : Int)] 3 (0, 0)) := by
    have := heap_alloc_new ((w.alloc (.cells #[.func (.func ga) #[] la] 40)).alloc (.cells #[.func (.func gb) #[] lb] 40)) (.cells #[.int .i64 (m : Int)] 3)
    simpa using this
  refine ⟨⟨_, rfl, 31, _, rfl, e31p, fun W bW r c hr hc => ?_⟩, hb⟩
  refine product1_any n m r c w.heap.size (w.heap.size + 1 + 1) (w.heap.size + 1) A B ga gb la lb W hm hnm hr hc HA.out HB.out HEA.out HEB.out (fun X bX r c hr hc => HTA.out X (Below.next hb (Below.next bW bX)) r c hr hc) (fun X bX r c hr hc => HTB.out X (Below.next hb (Below.next bW bX)) r c hr hc) ?_ ?_ ?_
  · rw [cell_of_row _ _ _ _ _ _ ((bW.block _ (by simp; omega)).trans k0)]; rfl
  · rw [cell_of_row _ _ _ _ _ _ ((bW.block _ (by simp)).trans k2)]; rfl
  · rw [cell_of_row _ _ _ _ _ _ ((bW.block _ (by simp)).trans k1)]; rfl
end Go.Proofs.YtamdpcajfgbagaaDoor

namespace Go.Proofs.YtamdpcajfgbagaaDoor
open Go.RowKit

/-- What is wrong with two matrices that are multiplied. -/
def mF (s t : Int) (L M : List Int) : Nat := if hF s L ≠ 0 then hF s L else if hF t M ≠ 0 then hF t M else if 8 * 3 < s * t then 3 else 0
theorem four_boxes (w : World) (s t : Int) (u v : Value) : ∀ W3 W4 : World, W3 = ((w.alloc (.cells #[.int .i64 s, u] 24)).alloc (.cells #[.int .i64 t, v] 24)).alloc (.cells #[.int .i64 0, .slice none 0 0] 24) → W4 = W3.alloc (.cells #[.int .i64 s, u, .int .i64 t, v] 24) →
    W4.heap[w.heap.size]? = some (.cells #[.int .i64 s, u] 24 (0, 0)) ∧ W4.heap[w.heap.size + 1]? = some (.cells #[.int .i64 t, v] 24 (0, 0)) ∧ W4.heap[w.heap.size + 1 + 1]? = some (.cells #[.int .i64 0, .slice none 0 0] 24 (0, 0)) ∧ W4.heap[w.heap.size + 1 + 1 + 1]? = some (.cells #[.int .i64 s, u, .int .i64 t, v] 24 (0, 0)) ∧ Below w.heap.size w W4 := by
  rintro W3 W4 rfl rfl
  refine ⟨?_, ?_, ?_, ?_, Below.next (Below.next (Below.next (balloc _ _) (balloc _ _)) (balloc _ _)) (balloc _ _)⟩
  · exact (Below.heap_alloc _ _ _ (by simp; omega)).trans ((Below.heap_alloc _ _ _ (by simp; omega)).trans ((Below.heap_alloc _ _ _ (by simp)).trans (heap_alloc_new w _)))
  · refine (Below.heap_alloc _ _ _ (by simp)).trans ((Below.heap_alloc _ _ _ (by simp)).trans ?_)
    have := heap_alloc_new (w.alloc (.cells #[.int .i64 s, u] 24)) (.cells #[.int .i64 t, v] 24)
    simpa using this
  · refine (Below.heap_alloc _ _ _ (by simp)).trans ?_
    have := heap_alloc_new ((w.alloc (.cells #[.int .i64 s, u] 24)).alloc (.cells #[.int .i64 t, v] 24)) (.cells #[.int .i64 0, .slice none 0 0] 24)
    simpa using this
  · have := heap_alloc_new (((w.alloc (.cells #[.int .i64 s, u] 24)).alloc (.cells #[.int .i64 t, v] 24)).alloc (.cells #[.int .i64 0, .slice none 0 0] 24)) (.cells #[.int .i64 s, u, .int .i64 t, v] 24)
    simpa using this
set_option maxRecDepth 100000 in
set_option maxHeartbeats 8000000 in
theorem Product_bad (s t : Int) (L M : List Int) (u v : Value) (w : World) (hu : Sl w u L) (hv : Sl w v M) (hL : L.length ≤ maxLen) (hM : M.length ≤ maxLen) (hne : mF s t L M ≠ 0) :
    Calls Tryd.prog 10 #[.agg #[.int .i64 s, u], .agg #[.int .i64 t, v]] w fun e w' => e = .returned (.tuple #[.agg #[.int .i64 0, .slice none 0 0], .int .i64 (mF s t L M : Int)]) ∧ Below w.heap.size w w' := by
  obtain ⟨ua, ul, uc, rfl⟩ : ∃ a l c, u = .slice a l c := by obtain ⟨a, c, e, _⟩ := hu; exact ⟨a, _, c, e⟩
  obtain ⟨va, vn, vc, rfl⟩ : ∃ a l c, v = .slice a l c := by obtain ⟨a, c, e, _⟩ := hv; exact ⟨a, _, c, e⟩
  obtain ⟨z, hz⟩ : ∃ z, z = mF s t L M := ⟨_, rfl⟩
  have HZ : Hid (z = mF s t L M) := hz
  have C1 : Hid (∀ W, Below w.heap.size w W → Calls Tryd.prog 14 #[.agg #[.int .i64 s, .slice ua ul uc]] W fun e w' => e = .returned (.int .i64 (hF s L : Int)) ∧ Below W.heap.size W w') := fun W bW => Check_any s L _ W (hu.below bW) hL
  have C2 : Hid (∀ W, Below w.heap.size w W → Calls Tryd.prog 14 #[.agg #[.int .i64 t, .slice va vn vc]] W fun e w' => e = .returned (.int .i64 (hF t M : Int)) ∧ Below W.heap.size W w') := fun W bW => Check_any t M _ W (hv.below bW) hM
  rw [← hz] at hne ⊢
  clear hz hu hv
  go_enter Tryd.func10, Tryd.ntmps10
  go_wp2
  go_loopw [13] (fun i wr => ∃ k : Nat, i = .int .i64 (k : Int) ∧ k ≤ 2 ∧ Hid ((1 ≤ k → hF s L = 0) ∧ (2 ≤ k → hF t M = 0)) ∧ wr.heap[w.heap.size]? = some (.cells #[.int .i64 s, .slice ua ul uc] 24 (0, 0)) ∧ wr.heap[w.heap.size + 1]? = some (.cells #[.int .i64 t, .slice va vn vc] 24 (0, 0)) ∧ wr.heap[w.heap.size + 1 + 1]? = some (.cells #[.int .i64 0, .slice none 0 0] 24 (0, 0)) ∧ wr.heap[w.heap.size + 1 + 1 + 1]? = some (.cells #[.int .i64 s, .slice ua ul uc, .int .i64 t, .slice va vn vc] 24 (0, 0)) ∧ Below w.heap.size w wr) (fun i _ => (2 - intOf i).toNat)
  case atStart =>
    exact ⟨0, rfl, by omega, ⟨fun h => by omega, fun h => by omega⟩, four_boxes w s t _ _ _ _ rfl rfl⟩
  case round =>
    obtain ⟨k, rfl, hk, HK, hx, hy, hr, hs, hB⟩ := hrel
    have a0 : wr.cell? ⟨w.heap.size + 1 + 1 + 1, 0, none⟩ = some (.int .i64 s) := by rw [cell_of_row _ _ _ _ _ _ hs]; rfl
    have a1 : wr.cell? ⟨w.heap.size + 1 + 1 + 1, 1, none⟩ = some (.slice ua ul uc) := by rw [cell_of_row _ _ _ _ _ _ hs]; rfl
    have a2 : wr.cell? ⟨w.heap.size + 1 + 1 + 1, 2, none⟩ = some (.int .i64 t) := by rw [cell_of_row _ _ _ _ _ _ hs]; rfl
    have a3 : wr.cell? ⟨w.heap.size + 1 + 1 + 1, 3, none⟩ = some (.slice va vn vc) := by rw [cell_of_row _ _ _ _ _ _ hs]; rfl
    have hl3 : w.heap.size + 1 + 1 + 1 < wr.heap.size := (Array.getElem?_eq_some_iff.1 hs).1
    rcases (show k = 0 ∨ k = 1 ∨ k = 2 by omega) with rfl | rfl | rfl
    · clear HK hk
      by_cases h0 : hF s L = 0
      · rw [h0] at C1
        have HK2 : Hid ((1 ≤ 0 + 1 → hF s L = 0) ∧ (2 ≤ 0 + 1 → hF t M = 0)) := ⟨fun _ => h0, fun h => by omega⟩
        clear h0
        go_wp2_with (go_at_call 14; refine (C1.out _ (Below.next hB (balloc wr _))).mono ?_; rintro e w1 ⟨rfl, b1⟩)
        have bb := Below.next (balloc wr (.cells #[.int .i64 s, .slice ua ul uc] 24)) b1
        go_roundw
        case rel => exact ⟨0 + 1, by go_num, by omega, HK2, (bb.block _ (by omega)).trans hx, (bb.block _ (by omega)).trans hy, (bb.block _ (by omega)).trans hr, (bb.block _ hl3).trans hs, Below.next hB bb⟩
        case measure => simp [intOf]
      · have h0' := h0
        have hz : z = hF s L := by rw [HZ.out]; unfold mF; rw [if_pos h0]
        have hzn : ((z : Int) != 0) = true := by simp; omega
        rw [← hz] at C1
        clear hz
        go_wp2_with (go_at_call 14; refine (C1.out _ (Below.next hB (balloc wr _))).mono ?_; rintro e w1 ⟨rfl, b1⟩; have bb := Below.next (balloc wr (.cells #[.int .i64 s, .slice ua ul uc] 24)) b1; have hr1 := (bb.block (w.heap.size + 1 + 1) (by omega)).trans hr; have c0 : w1.cell? ⟨w.heap.size + 1 + 1, 0, none⟩ = some (.int .i64 0) := (by rw [cell_of_row _ _ _ _ _ _ hr1]; rfl); have c1 : w1.cell? ⟨w.heap.size + 1 + 1, 1, none⟩ = some (.slice none 0 0) := (by rw [cell_of_row _ _ _ _ _ _ hr1]; rfl); have f0 := frozen_of_row w1 (w.heap.size + 1 + 1) 0 _ _ hr1; have f1 := frozen_of_row w1 (w.heap.size + 1 + 1) 1 _ _ hr1)
        have hn1 := heap_setCell_same w1 (w.heap.size + 1 + 1) 0 _ _ (.int .i64 0) hr1
        have hn2 := heap_setCell_same _ (w.heap.size + 1 + 1) 1 _ _ (.slice none 0 0) hn1
        exact post_sq2 4 5 Tryd.results10 rfl hn2 rfl rfl ⟨rfl, ((Below.next hB bb).setCell (by show w.heap.size ≤ w.heap.size + 1 + 1; omega) _).setCell (by show w.heap.size ≤ w.heap.size + 1 + 1; omega) _⟩
    · have h00 := HK.out.1 (by omega)
      clear HK hk
      by_cases h0 : hF t M = 0
      · rw [h0] at C2
        have HK2 : Hid ((1 ≤ 1 + 1 → hF s L = 0) ∧ (2 ≤ 1 + 1 → hF t M = 0)) := ⟨fun _ => h00, fun h => h0⟩
        clear h0 h00
        go_wp2_with (go_at_call 14; refine (C2.out _ (Below.next hB (balloc wr _))).mono ?_; rintro e w1 ⟨rfl, b1⟩)
        have bb := Below.next (balloc wr (.cells #[.int .i64 t, .slice va vn vc] 24)) b1
        go_roundw
        case rel => exact ⟨1 + 1, by go_num, by omega, HK2, (bb.block _ (by omega)).trans hx, (bb.block _ (by omega)).trans hy, (bb.block _ (by omega)).trans hr, (bb.block _ hl3).trans hs, Below.next hB bb⟩
        case measure => simp [intOf]
      · have h0' := h0
        have hz : z = hF t M := by rw [HZ.out]; unfold mF; rw [if_neg (by omega), if_pos h0]
        have hzn : ((z : Int) != 0) = true := by simp; omega
        rw [← hz] at C2
        clear hz
        go_wp2_with (go_at_call 14; refine (C2.out _ (Below.next hB (balloc wr _))).mono ?_; rintro e w1 ⟨rfl, b1⟩; have bb := Below.next (balloc wr (.cells #[.int .i64 t, .slice va vn vc] 24)) b1; have hr1 := (bb.block (w.heap.size + 1 + 1) (by omega)).trans hr; have c0 : w1.cell? ⟨w.heap.size + 1 + 1, 0, none⟩ = some (.int .i64 0) := (by rw [cell_of_row _ _ _ _ _ _ hr1]; rfl); have c1 : w1.cell? ⟨w.heap.size + 1 + 1, 1, none⟩ = some (.slice none 0 0) := (by rw [cell_of_row _ _ _ _ _ _ hr1]; rfl); have f0 := frozen_of_row w1 (w.heap.size + 1 + 1) 0 _ _ hr1; have f1 := frozen_of_row w1 (w.heap.size + 1 + 1) 1 _ _ hr1)
        have hn1 := heap_setCell_same w1 (w.heap.size + 1 + 1) 0 _ _ (.int .i64 0) hr1
        have hn2 := heap_setCell_same _ (w.heap.size + 1 + 1) 1 _ _ (.slice none 0 0) hn1
        exact post_sq2 4 5 Tryd.results10 rfl hn2 rfl rfl ⟨rfl, ((Below.next hB bb).setCell (by show w.heap.size ≤ w.heap.size + 1 + 1; omega) _).setCell (by show w.heap.size ≤ w.heap.size + 1 + 1; omega) _⟩
    · have h1 := HK.out.1 (by omega)
      have h2 := HK.out.2 (by omega)
      have hz := HZ.out
      unfold mF at hz
      rw [if_neg (by omega), if_neg (by omega)] at hz
      by_cases hst : 8 * 3 < s * t
      · rw [if_pos hst] at hz
        subst hz
        obtain ⟨n, rfl, G1⟩ := hF_ok h1
        obtain ⟨m, rfl, G2⟩ := hF_ok h2
        have p99 : n * m ≤ 999 := Nat.le_trans (Nat.mul_le_mul G1.le G2.le) (by decide)
        obtain ⟨p, Hp⟩ : ∃ p, Hid (n * m = p) := ⟨_, rfl⟩
        have hp : (n : Int) * (m : Int) = (p : Int) := by rw [← Hp.out]; simp
        rw [Hp.out] at p99
        have d24 : decide (24 < (p : Int)) = true := by rw [← hp]; simpa using hst
        have x0 : wr.cell? ⟨w.heap.size, 0, none⟩ = some (.int .i64 (n : Int)) := by rw [cell_of_row _ _ _ _ _ _ hx]; rfl
        have y0 : wr.cell? ⟨w.heap.size + 1, 0, none⟩ = some (.int .i64 (m : Int)) := by rw [cell_of_row _ _ _ _ _ _ hy]; rfl
        have c0 : wr.cell? ⟨w.heap.size + 1 + 1, 0, none⟩ = some (.int .i64 0) := (by rw [cell_of_row _ _ _ _ _ _ hr]; rfl)
        have c1 : wr.cell? ⟨w.heap.size + 1 + 1, 1, none⟩ = some (.slice none 0 0) := (by rw [cell_of_row _ _ _ _ _ _ hr]; rfl)
        have f0 := frozen_of_row wr (w.heap.size + 1 + 1) 0 _ _ hr
        have f1 := frozen_of_row wr (w.heap.size + 1 + 1) 1 _ _ hr
        clear HK hk C1 C2 a0 a1 a2 a3 hs HZ hst h1 h2 G1 G2
        go_wp2
        have hn1 := heap_setCell_same wr (w.heap.size + 1 + 1) 0 _ _ (.int .i64 0) hr
        have hn2 := heap_setCell_same _ (w.heap.size + 1 + 1) 1 _ _ (.slice none 0 0) hn1
        exact post_sq2 4 5 Tryd.results10 rfl hn2 rfl rfl ⟨rfl, ((hB).setCell (by show w.heap.size ≤ w.heap.size + 1 + 1; omega) _).setCell (by show w.heap.size ≤ w.heap.size + 1 + 1; omega) _⟩
      · rw [if_neg hst] at hz
        exact (hne hz).elim
set_option maxRecDepth 100000 in
set_option maxHeartbeats 8000000 in
theorem Product_ok (n m : Nat) (L M : List Int) (u v : Value) (w : World) (hu : Sl w u L) (hv : Sl w v M) (G1 : GoodH n L) (G2 : GoodH m M) (hnm : n * m ≤ 8 * 3) :
    Calls Tryd.prog 10 #[.agg #[.int .i64 (n : Int), u], .agg #[.int .i64 (m : Int), v]] w fun e w' => (∃ y, e = .returned (.tuple #[.agg #[.int .i64 ((n * m : Nat) : Int), y], .int .i64 0]) ∧ w'.ownsRow w.heap.size 3 1 y ((n * m) * (n * m)) (vi (flI (n * m) (prd m (mx n L) (mx m M)) ((n * m) * (n * m))))) ∧ Below w.heap.size w w' := by
  obtain ⟨ua, ul, uc, rfl⟩ : ∃ a l c, u = .slice a l c := by obtain ⟨a, c, e, _⟩ := hu; exact ⟨a, _, c, e⟩
  obtain ⟨va, vn, vc, rfl⟩ : ∃ a l c, v = .slice a l c := by obtain ⟨a, c, e, _⟩ := hv; exact ⟨a, _, c, e⟩
  have hL : L.length ≤ maxLen := by rw [G1.len]; have := Nat.mul_le_mul G1.le G1.le; unfold maxLen; omega
  have hM : M.length ≤ maxLen := by rw [G2.len]; have := Nat.mul_le_mul G2.le G2.le; unfold maxLen; omega
  have C1 : Hid (∀ W, Below w.heap.size w W → Calls Tryd.prog 14 #[.agg #[.int .i64 (n : Int), .slice ua ul uc]] W fun e w' => e = .returned (.int .i64 0) ∧ Below W.heap.size W w') := fun W bW => by
    have h := Check_any n L _ W (hu.below bW) hL
    rw [hF_good G1] at h
    exact h
  have C2 : Hid (∀ W, Below w.heap.size w W → Calls Tryd.prog 14 #[.agg #[.int .i64 (m : Int), .slice va vn vc]] W fun e w' => e = .returned (.int .i64 0) ∧ Below W.heap.size W w') := fun W bW => by
    have h := Check_any m M _ W (hv.below bW) hM
    rw [hF_good G2] at h
    exact h
  have A1 : Hid (∀ W, Below w.heap.size w W → Calls Tryd.prog 23 #[.agg #[.int .i64 (n : Int), .slice ua ul uc]] W fun e w' => (∃ y, e = .returned y ∧ Teller y n n (mx n L) w') ∧ Below W.heap.size W w') := fun W b => asked_any n L _ W (hu.below b) G1.len G1.le
  have A2 : Hid (∀ W, Below w.heap.size w W → Calls Tryd.prog 23 #[.agg #[.int .i64 (m : Int), .slice va vn vc]] W fun e w' => (∃ y, e = .returned y ∧ Teller y m m (mx m M) w') ∧ Below W.heap.size W w') := fun W b => asked_any m M _ W (hv.below b) G2.len G2.le
  have A3 : Hid (∀ x y W, Teller x n n (mx n L) W → Teller y m m (mx m M) W → Calls Tryd.prog 22 #[x, y, .int .i64 (m : Int)] W fun e w' => (∃ y, e = .returned y ∧ Teller y (n * m) (n * m) (prd m (mx n L) (mx m M)) w') ∧ Below W.heap.size W w') := fun x y W hx hy => product_any n m (mx n L) (mx m M) x y W G2.pos (by omega) G1.had.one G2.had.one hx hy
  have A4 : Hid (∀ y W, Teller y (n * m) (n * m) (prd m (mx n L) (mx m M)) W → Calls Tryd.prog 16 #[.int .i64 ((n * m : Nat) : Int), y] W fun e w' => (∃ y, e = .returned (.agg #[.int .i64 ((n * m : Nat) : Int), y]) ∧ w'.ownsRow W.heap.size 3 1 y ((n * m) * (n * m)) (vi (flI (n * m) (prd m (mx n L) (mx m M)) ((n * m) * (n * m))))) ∧ Below W.heap.size W w') := fun y W hT => filled_any (n * m) _ y W (Nat.mul_pos G1.pos G2.pos) hnm hT
  obtain ⟨F, HF⟩ : ∃ F, Hid (vi (flI (n * m) (prd m (mx n L) (mx m M)) ((n * m) * (n * m))) = F) := ⟨_, rfl⟩
  rw [HF.out] at A4 ⊢
  obtain ⟨p, Hp⟩ : ∃ p, Hid (n * m = p) := ⟨_, rfl⟩
  have hp : (n : Int) * (m : Int) = (p : Int) := by rw [← Hp.out]; simp
  rw [Hp.out] at A3 A4 hnm ⊢
  have d24 : decide (24 < (p : Int)) = false := by simp; omega
  have hp' := wrapN9 (q := p) (by omega)
  clear hu hv G1 G2 hL hM
  go_enter Tryd.func10, Tryd.ntmps10
  go_wp2
  go_loopw [13] (fun i wr => ∃ k : Nat, i = .int .i64 (k : Int) ∧ k ≤ 2 ∧ wr.heap[w.heap.size]? = some (.cells #[.int .i64 (n : Int), .slice ua ul uc] 24 (0, 0)) ∧ wr.heap[w.heap.size + 1]? = some (.cells #[.int .i64 (m : Int), .slice va vn vc] 24 (0, 0)) ∧ wr.heap[w.heap.size + 1 + 1]? = some (.cells #[.int .i64 0, .slice none 0 0] 24 (0, 0)) ∧ wr.heap[w.heap.size + 1 + 1 + 1]? = some (.cells #[.int .i64 (n : Int), .slice ua ul uc, .int .i64 (m : Int), .slice va vn vc] 24 (0, 0)) ∧ Below w.heap.size w wr) (fun i _ => (2 - intOf i).toNat)
  case atStart =>
    exact ⟨0, rfl, by omega, four_boxes w (n : Int) (m : Int) _ _ _ _ rfl rfl⟩
  case round =>
    obtain ⟨k, rfl, hk, hx, hy, hr, hs, hB⟩ := hrel
    have a0 : wr.cell? ⟨w.heap.size + 1 + 1 + 1, 0, none⟩ = some (.int .i64 (n : Int)) := by rw [cell_of_row _ _ _ _ _ _ hs]; rfl
    have a1 : wr.cell? ⟨w.heap.size + 1 + 1 + 1, 1, none⟩ = some (.slice ua ul uc) := by rw [cell_of_row _ _ _ _ _ _ hs]; rfl
    have a2 : wr.cell? ⟨w.heap.size + 1 + 1 + 1, 2, none⟩ = some (.int .i64 (m : Int)) := by rw [cell_of_row _ _ _ _ _ _ hs]; rfl
    have a3 : wr.cell? ⟨w.heap.size + 1 + 1 + 1, 3, none⟩ = some (.slice va vn vc) := by rw [cell_of_row _ _ _ _ _ _ hs]; rfl
    have hl3 : w.heap.size + 1 + 1 + 1 < wr.heap.size := (Array.getElem?_eq_some_iff.1 hs).1
    rcases (show k = 0 ∨ k = 1 ∨ k = 2 by omega) with rfl | rfl | rfl
    · clear hk
      go_wp2_with (go_at_call 14; refine (C1.out _ (Below.next hB (balloc wr _))).mono ?_; rintro e w1 ⟨rfl, b1⟩)
      have bb := Below.next (balloc wr (.cells #[.int .i64 (n : Int), .slice ua ul uc] 24)) b1
      go_roundw
      case rel => exact ⟨0 + 1, by go_num, by omega, (bb.block _ (by omega)).trans hx, (bb.block _ (by omega)).trans hy, (bb.block _ (by omega)).trans hr, (bb.block _ hl3).trans hs, Below.next hB bb⟩
      case measure => simp [intOf]
    · clear hk
      go_wp2_with (go_at_call 14; refine (C2.out _ (Below.next hB (balloc wr _))).mono ?_; rintro e w1 ⟨rfl, b1⟩)
      have bb := Below.next (balloc wr (.cells #[.int .i64 (m : Int), .slice va vn vc] 24)) b1
      go_roundw
      case rel => exact ⟨1 + 1, by go_num, by omega, (bb.block _ (by omega)).trans hx, (bb.block _ (by omega)).trans hy, (bb.block _ (by omega)).trans hr, (bb.block _ hl3).trans hs, Below.next hB bb⟩
      case measure => simp [intOf]
    · clear hk a0 a1 a2 a3 C1 C2
      have HS0 : Hid (∀ X : World, X.heap[w.heap.size]? = wr.heap[w.heap.size]? → X.heap[w.heap.size + 1]? = wr.heap[w.heap.size + 1]? → (X.cell? ⟨w.heap.size, 0, none⟩ = some (.int .i64 (n : Int)) ∧ X.cell? ⟨w.heap.size + 1, 0, none⟩ = some (.int .i64 (m : Int)) ∧ X.rangeAt w.heap.size 0 [.int .i64 (n : Int), .slice ua ul uc] ∧ X.rangeAt (w.heap.size + 1) 0 [.int .i64 (m : Int), .slice va vn vc])) := fun X e1 e2 => by
        have k1 := e1.trans hx
        have k2 := e2.trans hy
        have x0 : X.cell? ⟨w.heap.size, 0, none⟩ = some (.int .i64 (n : Int)) := by rw [cell_of_row _ _ _ _ _ _ k1]; rfl
        have x1 : X.cell? ⟨w.heap.size, 1, none⟩ = some (.slice ua ul uc) := by rw [cell_of_row _ _ _ _ _ _ k1]; rfl
        have y0 : X.cell? ⟨w.heap.size + 1, 0, none⟩ = some (.int .i64 (m : Int)) := by rw [cell_of_row _ _ _ _ _ _ k2]; rfl
        have y1 : X.cell? ⟨w.heap.size + 1, 1, none⟩ = some (.slice va vn vc) := by rw [cell_of_row _ _ _ _ _ _ k2]; rfl
        exact ⟨x0, y0, range_two _ _ _ _ x0 x1, range_two _ _ _ _ y0 y1⟩
      have HS : Hid (∀ X : World, Below wr.heap.size wr X → (X.cell? ⟨w.heap.size, 0, none⟩ = some (.int .i64 (n : Int)) ∧ X.cell? ⟨w.heap.size + 1, 0, none⟩ = some (.int .i64 (m : Int)) ∧ X.rangeAt w.heap.size 0 [.int .i64 (n : Int), .slice ua ul uc] ∧ X.rangeAt (w.heap.size + 1) 0 [.int .i64 (m : Int), .slice va vn vc])) := fun X bX => HS0.out X (bX.block _ (by omega)) (bX.block _ (by omega))
      have x0 : wr.cell? ⟨w.heap.size, 0, none⟩ = some (.int .i64 (n : Int)) := by rw [cell_of_row _ _ _ _ _ _ hx]; rfl
      have y0 : wr.cell? ⟨w.heap.size + 1, 0, none⟩ = some (.int .i64 (m : Int)) := by rw [cell_of_row _ _ _ _ _ _ hy]; rfl
      go_wp2_with fail
      refine wp_region_noPanic ?_
      refine wp_region_held_drew (S := fun w' => w'.cell? ⟨w.heap.size, 0, none⟩ = some (.int .i64 (n : Int)) ∧ w'.cell? ⟨w.heap.size + 1, 0, none⟩ = some (.int .i64 (m : Int)) ∧ w'.rangeAt w.heap.size 0 [.int .i64 (n : Int), .slice ua ul uc] ∧ w'.rangeAt (w.heap.size + 1) 0 [.int .i64 (m : Int), .slice va vn vc]) (by kernel_rfl) (HS.out _ (Below.refl _ wr).drew) (fun hSx => ?_)
      refine wpAnyH_take (i := 0) (v := .pointer (some ⟨w.heap.size, 0, none⟩)) rfl (by kernel_rfl) (by kernel_rfl) (by kernel_rfl) (fun _ _ _ h => h) (Or.inl ⟨by rfl, fun w' hSw => by (try dsimp only at hSw); obtain ⟨hs0, hs1, hs2, hs3⟩ := hSw; go_simp⟩) hSx ?_
      try simp only [Act.put, List.setIfInBounds_toArray]
      refine wpAnyH_take (i := 1) (v := .int .i64 (n : Int)) rfl (by kernel_rfl) (by kernel_rfl) (by kernel_rfl) (fun _ _ _ h => h) (Or.inl ⟨by rfl, fun w' hSw => by (try dsimp only at hSw); obtain ⟨hs0, hs1, hs2, hs3⟩ := hSw; go_simp⟩) hSx ?_
      try simp only [Act.put]
      refine wpAnyH_take (i := 2) (v := .pointer (some ⟨w.heap.size + 1, 0, none⟩)) rfl (by kernel_rfl) (by kernel_rfl) (by kernel_rfl) (fun _ _ _ h => h) (Or.inl ⟨by rfl, fun w' hSw => by (try dsimp only at hSw); obtain ⟨hs0, hs1, hs2, hs3⟩ := hSw; go_simp⟩) hSx ?_
      try simp only [Act.put]
      refine wpAnyH_take (i := 3) (v := .int .i64 (m : Int)) rfl (by kernel_rfl) (by kernel_rfl) (by kernel_rfl) (fun _ _ _ h => h) (Or.inl ⟨by rfl, fun w' hSw => by (try dsimp only at hSw); obtain ⟨hs0, hs1, hs2, hs3⟩ := hSw; go_simp⟩) hSx ?_
      try simp only [Act.put]
      refine wpAnyH_take (i := 4) (v := .int .i64 (p : Int)) rfl (by kernel_rfl) (by kernel_rfl) (by kernel_rfl) (fun _ _ _ h => h) (Or.inl ⟨by rfl, fun w' hSw => by (try dsimp only at hSw); obtain ⟨hs0, hs1, hs2, hs3⟩ := hSw; go_simp⟩) hSx ?_
      try simp only [Act.put]
      refine wpAnyH_take (i := 5) (v := .agg #[.int .i64 (n : Int), .slice ua ul uc]) rfl (by kernel_rfl) (by kernel_rfl) (by kernel_rfl) (fun _ _ _ h => h) (yieldsIf_load_mid (by rfl) 24 _ rfl (w.heap.size) 0 rfl [.int .i64 (n : Int), .slice ua ul uc] _ (fun _ h => h.2.2.1) Tryd.underlying24 rfl inf24) hSx ?_
      try simp only [Act.put]
      refine wpAnyH_take (i := 7) (v := .agg #[.int .i64 (m : Int), .slice va vn vc]) rfl (by kernel_rfl) (by kernel_rfl) (by kernel_rfl) (fun _ _ _ h => h) (yieldsIf_load_mid (by rfl) 24 _ rfl (w.heap.size + 1) 0 rfl [.int .i64 (m : Int), .slice va vn vc] _ (fun _ h => h.2.2.2) Tryd.underlying24 rfl inf24) hSx ?_
      try simp only [Act.put]
      refine wpAnyH_take (i := 9) (v := .pointer (some ⟨w.heap.size + 1, 0, none⟩)) rfl (by kernel_rfl) (by kernel_rfl) (by kernel_rfl) (fun _ _ _ h => h) (Or.inl ⟨by rfl, fun w' hSw => by (try dsimp only at hSw); obtain ⟨hs0, hs1, hs2, hs3⟩ := hSw; go_simp⟩) hSx ?_
      try simp only [Act.put]
      refine wpAnyH_take (i := 10) (v := .int .i64 (m : Int)) rfl (by kernel_rfl) (by kernel_rfl) (by kernel_rfl) (fun _ _ _ h => h) (Or.inl ⟨by rfl, fun w' hSw => by (try dsimp only at hSw); obtain ⟨hs0, hs1, hs2, hs3⟩ := hSw; go_simp⟩) hSx ?_
      try simp only [Act.put]
      refine wpAnyH_ready (rs := [6]) (by kernel_rfl) (by simp) ?_
      refine AllReadyH.cons rfl (fun J hJ => ?_) AllReadyH.nil
      go_simp
      refine (A1.out _ hB.drew).mono ?_
      rintro e w5 ⟨⟨x, rfl, hT⟩, b5⟩
      have b15 := Below.next (Below.refl _ wr).drew b5
      go_wp2_with fail
      refine hJ.out _ _ (HS.out _ b15) (fun hSx => ?_)
      clear hJ J
      try simp only [Act.put, List.setIfInBounds_toArray, List.set_cons_zero, List.set_cons_succ]
      refine wpAnyH_ready (rs := [8]) (by kernel_rfl) (by simp) ?_
      refine AllReadyH.cons rfl (fun J hJ => ?_) AllReadyH.nil
      go_simp
      refine (A2.out _ (Below.next hB b15)).mono ?_
      rintro e w6 ⟨⟨y, rfl, hT6⟩, b6⟩
      have b16 := Below.next b15 b6
      go_wp2_with fail
      refine hJ.out _ _ (HS.out _ b16) (fun hSx => ?_)
      clear hJ J
      try simp only [Act.put, List.setIfInBounds_toArray, List.set_cons_zero, List.set_cons_succ]
      refine wpAnyH_ready (rs := [11]) (by kernel_rfl) (by simp) ?_
      refine AllReadyH.cons rfl (fun J hJ => ?_) AllReadyH.nil
      go_simp
      refine (A3.out x y w6 (hT.below b6) hT6).mono ?_
      rintro e w7 ⟨⟨y7, rfl, hT7⟩, b7⟩
      have b17 := Below.next b16 b7
      go_wp2_with fail
      refine hJ.out _ _ (HS.out _ b17) (fun hSx => ?_)
      clear hJ J
      try simp only [Act.put, List.setIfInBounds_toArray, List.set_cons_zero, List.set_cons_succ]
      refine wpAnyH_ready (rs := [12]) (by kernel_rfl) (by simp) ?_
      refine AllReadyH.cons rfl (fun J hJ => ?_) AllReadyH.nil
      go_simp
      refine (A4.out y7 w7 hT7).mono ?_
      rintro e w8 ⟨⟨y8, rfl, hW⟩, b8⟩
      have b18 := Below.next b17 b8
      have hs7 := b17.size
      have hR2 := (b18.block (w.heap.size + 1 + 1) (by omega)).trans hr
      obtain ⟨og, ol, oc, rfl⟩ := own_slice hW
      have c0 : w8.cell? ⟨w.heap.size + 1 + 1, 0, none⟩ = some (.int .i64 0) := (by rw [cell_of_row _ _ _ _ _ _ hR2]; rfl)
      have c1 : w8.cell? ⟨w.heap.size + 1 + 1, 1, none⟩ = some (.slice none 0 0) := (by rw [cell_of_row _ _ _ _ _ _ hR2]; rfl)
      have f0 := frozen_of_row w8 (w.heap.size + 1 + 1) 0 _ _ hR2
      have f1 := frozen_of_row w8 (w.heap.size + 1 + 1) 1 _ _ hR2
      go_wp2_with fail
      refine hJ.out _ _ (HS.out _ b18) (fun hSx => ?_)
      clear hJ J
      try simp only [Act.put, List.setIfInBounds_toArray, List.set_cons_zero, List.set_cons_succ]
      have oth : ∀ b, b < w.heap.size + 1 + 1 → ((w8.setCell ⟨w.heap.size + 1 + 1, 0, none⟩ (.int .i64 (p : Int))).setCell ⟨w.heap.size + 1 + 1, 1, none⟩ (.slice og ol oc)).heap[b]? = wr.heap[b]? := fun b hb => (heap_setCell_other _ ⟨w.heap.size + 1 + 1, 1, none⟩ b (.slice og ol oc) (by show b ≠ w.heap.size + 1 + 1; omega)).trans ((heap_setCell_other w8 ⟨w.heap.size + 1 + 1, 0, none⟩ b (.int .i64 (p : Int)) (by show b ≠ w.heap.size + 1 + 1; omega)).trans (b18.block b (by omega)))
      have hS9 := HS0.out _ (oth w.heap.size (by omega)) (oth (w.heap.size + 1) (by omega))
      refine wpAnyH_ready (rs := [13]) (by kernel_rfl) (by simp) ?_
      refine AllReadyH.cons rfl (fun J hJ => ?_) AllReadyH.nil
      go_simp
      refine hJ.out _ _ hS9 (fun hSx => ?_)
      clear hJ J
      try simp only [Act.put, List.setIfInBounds_toArray, List.set_cons_zero, List.set_cons_succ]
      refine wpAnyH_ready (rs := [14]) (by kernel_rfl) (by simp) ?_
      refine AllReadyH.cons rfl (fun J hJ => ?_) AllReadyH.nil
      go_simp
      refine hJ.out _ _ hSx (fun hSx => ?_)
      clear hJ J
      try simp only [Act.put, List.setIfInBounds_toArray, List.set_cons_zero, List.set_cons_succ]
      refine wpAnyH_done (by kernel_rfl) ?_ _
      refine NoPanic.normal ?_
      have hn1 := heap_setCell_same w8 (w.heap.size + 1 + 1) 0 _ _ (.int .i64 (p : Int)) hR2
      have hn2 := heap_setCell_same _ (w.heap.size + 1 + 1) 1 _ _ (.slice og ol oc) hn1
      have hW2 := orow_other (orow_other hW ⟨w.heap.size + 1 + 1, 0, none⟩ (.int .i64 (p : Int)) (own_diff hW hR2)) ⟨w.heap.size + 1 + 1, 1, none⟩ (.slice og ol oc) (own_diff hW hR2)
      have hB9 := ((Below.next hB b18).setCell (p := ⟨w.heap.size + 1 + 1, 0, none⟩) (by show w.heap.size ≤ w.heap.size + 1 + 1; omega) (.int .i64 (p : Int))).setCell (p := ⟨w.heap.size + 1 + 1, 1, none⟩) (by show w.heap.size ≤ w.heap.size + 1 + 1; omega) (.slice og ol oc)
      have HR9 : Hid _ := hn2
      have HW9 : Hid _ := orow_base (base' := w.heap.size) hW2 (by omega)
      clear hSx hS9 c0 c1 f0 f1 hn1 hW2 oth x0 y0 A1 A2 A3 A4
      go_wp2
      exact post_sq2 4 5 Tryd.results10 rfl HR9.out rfl rfl ⟨⟨_, rfl, HW9.out⟩, hB9⟩
end Go.Proofs.YtamdpcajfgbagaaDoor
