/- The walk of product. -/
import Derived.Test.YtamdpcajfgbagaaDoorH5
import Derived.Test.YtamdpcajfgbagaaDoorF1
namespace Go.Proofs.YtamdpcajfgbagaaDoor
open Go.RowKit

theorem e31p : ∀ args w, (callFunc 31 args).run Tryd.prog w = .ok (.enter 31 args) w := enters_of Tryd.func31 (by kernel_rfl) rfl
theorem wrapS {z : Int} (h1 : -1 ≤ z) (h2 : z ≤ 1) : IntKind.i64.wrap z = z := by
  rcases (show z = -1 ∨ z = 0 ∨ z = 1 by omega) with rfl | rfl | rfl <;> decide
theorem sg_two {a b : Int} (ha : Sg a) (hb : Sg b) : -1 ≤ a * b ∧ a * b ≤ 1 := by rcases ha with rfl | rfl <;> rcases hb with rfl | rfl <;> decide
theorem div_lt' {r n m : Nat} (h : r < n * m) : r / m < n := Nat.div_lt_of_lt_mul (by rw [Nat.mul_comm]; exact h)
set_option maxRecDepth 100000 in
set_option maxHeartbeats 4000000 in
theorem product1_any (n m r c g1 g2 g3 : Nat) (A B : Nat → Nat → Int) (ga gb : Nat) (la lb : Array Value) (W : World) (hm : 0 < m) (hnm : n * m ≤ 99) (hr : r < n * m) (hc : c < n * m)
    (hA : ∀ i j, i < n → j < n → Sg (A i j)) (hB : ∀ i j, i < m → j < m → Sg (B i j))
    (ea : ∀ args w, (callFunc ga args).run Tryd.prog w = .ok (.enter ga args) w) (eb : ∀ args w, (callFunc gb args).run Tryd.prog w = .ok (.enter gb args) w)
    (hTA : TellAt ga la n n A W) (hTB : TellAt gb lb m m B W) (h1 : W.cell? ⟨g1, 0, none⟩ = some (.func (.func ga) #[] la)) (h2 : W.cell? ⟨g2, 0, none⟩ = some (.int .i64 (m : Int))) (h3 : W.cell? ⟨g3, 0, none⟩ = some (.func (.func gb) #[] lb)) :
    Calls Tryd.prog 31 #[.int .i64 (r : Int), .int .i64 (c : Int), .pointer (some ⟨g1, 0, none⟩), .pointer (some ⟨g2, 0, none⟩), .pointer (some ⟨g3, 0, none⟩)] W fun e w' => e = .returned (.int .i64 (prd m A B r c)) ∧ Below W.heap.size W w' := by
  have l1 := block_lt_of_cell h1
  have l2 := block_lt_of_cell h2
  have l3 := block_lt_of_cell h3
  have i1 := div_lt' hr
  have i2 := div_lt' hc
  have i3 := Nat.mod_lt r hm
  have i4 := Nat.mod_lt c hm
  have hp := sg_two (hA _ _ i1 i2) (hB _ _ i3 i4)
  have C1 := hTA W.drew (Below.refl _ W).drew _ _ i1 i2
  have HTB : Hid (∀ X, Below W.heap.size W X → Calls Tryd.prog gb (#[.int .i64 ((r % m : Nat) : Int), .int .i64 ((c % m : Nat) : Int)] ++ lb) X fun e w' => e = .returned (.int .i64 (B (r % m) (c % m))) ∧ Below X.heap.size X w') := fun X bX => hTB X bX _ _ i3 i4
  have HP : Hid (∀ X, Below W.heap.size W X → (X.cell? ⟨g1, 0, none⟩ = some (.func (.func ga) #[] la) ∧ X.cell? ⟨g2, 0, none⟩ = some (.int .i64 (m : Int)) ∧ X.cell? ⟨g3, 0, none⟩ = some (.func (.func gb) #[] lb))) := fun X bX => ⟨(bX.cell (p := ⟨g1, 0, none⟩) l1).trans h1, (bX.cell (p := ⟨g2, 0, none⟩) l2).trans h2, (bX.cell (p := ⟨g3, 0, none⟩) l3).trans h3⟩
  show Calls _ _ _ _ fun e w' => e = .returned (.int .i64 (A (r / m) (c / m) * B (r % m) (c % m))) ∧ _
  have q1 : (r : Int) / (m : Int) = ((r / m : Nat) : Int) := by simp
  have q2 : (c : Int) / (m : Int) = ((c / m : Nat) : Int) := by simp
  have q3 : (r : Int) % (m : Int) = ((r % m : Nat) : Int) := by simp
  have q4 : (c : Int) % (m : Int) = ((c % m : Nat) : Int) := by simp
  have t1 : (r : Int).tdiv (m : Int) = ((r / m : Nat) : Int) := by rw [Int.tdiv_eq_ediv_of_nonneg (by omega)]; exact q1
  have t2 : (c : Int).tdiv (m : Int) = ((c / m : Nat) : Int) := by rw [Int.tdiv_eq_ediv_of_nonneg (by omega)]; exact q2
  have t3 : (r : Int).tmod (m : Int) = ((r % m : Nat) : Int) := by rw [Int.tmod_eq_emod_of_nonneg (by omega)]; exact q3
  have t4 : (c : Int).tmod (m : Int) = ((c % m : Nat) : Int) := by rw [Int.tmod_eq_emod_of_nonneg (by omega)]; exact q4
  have b1 : r / m ≤ r := Nat.div_le_self _ _
  have b2 : c / m ≤ c := Nat.div_le_self _ _
  have b3 : r % m ≤ r := Nat.mod_le _ _
  have b4 : c % m ≤ c := Nat.mod_le _ _
  generalize r / m = ra at *
  generalize c / m = ca at *
  generalize r % m = rb at *
  generalize c % m = cb at *
  have w1' := wrapN9 (q := ra) (by omega)
  have w2' := wrapN9 (q := ca) (by omega)
  have w3' := wrapN9 (q := rb) (by omega)
  have w4' := wrapN9 (q := cb) (by omega)
  obtain ⟨x, Hx⟩ : ∃ x, Hid (A ra ca = x) := ⟨_, rfl⟩
  obtain ⟨y, Hy⟩ : ∃ y, Hid (B rb cb = y) := ⟨_, rfl⟩
  rw [Hx.out] at C1 hp ⊢
  rw [Hy.out] at HTB hp ⊢
  obtain ⟨z, hz⟩ : ∃ z, x * y = z := ⟨_, rfl⟩
  rw [hz] at hp ⊢
  have hwz := wrapS hp.1 hp.2
  have hmz : ¬ (m : Int) = 0 := by omega
  have hmn : ¬ m = 0 := by omega
  clear hTA hTB hA hB h1 h2 h3 hp hr hc i1 i2 i3 i4 hnm
  go_enter Tryd.func31, Tryd.ntmps31
  go_wp2_with fail
  refine wp_region_noPanic ?_
  refine wp_region_held_drew (S := fun w' => w'.cell? ⟨g1, 0, none⟩ = some (.func (.func ga) #[] la) ∧ w'.cell? ⟨g2, 0, none⟩ = some (.int .i64 (m : Int)) ∧ w'.cell? ⟨g3, 0, none⟩ = some (.func (.func gb) #[] lb)) (by kernel_rfl) (HP.out _ (Below.refl _ W).drew) (fun hSx => ?_)
  refine wpAnyH_take (i := 0) (v := .func (.func ga) #[] la) rfl (by kernel_rfl) (by kernel_rfl) (by kernel_rfl) (fun _ _ _ h => h) (Or.inl ⟨by rfl, fun w' hSw => by (try dsimp only at hSw); obtain ⟨hs0, hs1, hs2⟩ := hSw; go_simp⟩) hSx ?_
  try simp only [Act.put, List.setIfInBounds_toArray]
  refine wpAnyH_take (i := 1) (v := .int .i64 (r : Int)) rfl (by kernel_rfl) (by kernel_rfl) (by kernel_rfl) (fun _ _ _ h => h) (Or.inl ⟨by rfl, fun w' hSw => by (try dsimp only at hSw); obtain ⟨hs0, hs1, hs2⟩ := hSw; go_simp⟩) hSx ?_
  try simp only [Act.put]
  refine wpAnyH_take (i := 2) (v := .int .i64 (m : Int)) rfl (by kernel_rfl) (by kernel_rfl) (by kernel_rfl) (fun _ _ _ h => h) (Or.inl ⟨by rfl, fun w' hSw => by (try dsimp only at hSw); obtain ⟨hs0, hs1, hs2⟩ := hSw; go_simp⟩) hSx ?_
  try simp only [Act.put]
  refine wpAnyH_take (i := 3) (v := .int .i64 (ra : Int)) rfl (by kernel_rfl) (by kernel_rfl) (by kernel_rfl) (fun _ _ _ h => h) (Or.inl ⟨by rfl, fun w' hSw => by (try dsimp only at hSw); obtain ⟨hs0, hs1, hs2⟩ := hSw; go_simp⟩) hSx ?_
  try simp only [Act.put]
  refine wpAnyH_take (i := 4) (v := .int .i64 (c : Int)) rfl (by kernel_rfl) (by kernel_rfl) (by kernel_rfl) (fun _ _ _ h => h) (Or.inl ⟨by rfl, fun w' hSw => by (try dsimp only at hSw); obtain ⟨hs0, hs1, hs2⟩ := hSw; go_simp⟩) hSx ?_
  try simp only [Act.put]
  refine wpAnyH_take (i := 5) (v := .int .i64 (m : Int)) rfl (by kernel_rfl) (by kernel_rfl) (by kernel_rfl) (fun _ _ _ h => h) (Or.inl ⟨by rfl, fun w' hSw => by (try dsimp only at hSw); obtain ⟨hs0, hs1, hs2⟩ := hSw; go_simp⟩) hSx ?_
  try simp only [Act.put]
  refine wpAnyH_take (i := 6) (v := .int .i64 (ca : Int)) rfl (by kernel_rfl) (by kernel_rfl) (by kernel_rfl) (fun _ _ _ h => h) (Or.inl ⟨by rfl, fun w' hSw => by (try dsimp only at hSw); obtain ⟨hs0, hs1, hs2⟩ := hSw; go_simp⟩) hSx ?_
  try simp only [Act.put]
  refine wpAnyH_take (i := 8) (v := .func (.func gb) #[] lb) rfl (by kernel_rfl) (by kernel_rfl) (by kernel_rfl) (fun _ _ _ h => h) (Or.inl ⟨by rfl, fun w' hSw => by (try dsimp only at hSw); obtain ⟨hs0, hs1, hs2⟩ := hSw; go_simp⟩) hSx ?_
  try simp only [Act.put]
  refine wpAnyH_take (i := 9) (v := .int .i64 (r : Int)) rfl (by kernel_rfl) (by kernel_rfl) (by kernel_rfl) (fun _ _ _ h => h) (Or.inl ⟨by rfl, fun w' hSw => by (try dsimp only at hSw); obtain ⟨hs0, hs1, hs2⟩ := hSw; go_simp⟩) hSx ?_
  try simp only [Act.put]
  refine wpAnyH_take (i := 10) (v := .int .i64 (m : Int)) rfl (by kernel_rfl) (by kernel_rfl) (by kernel_rfl) (fun _ _ _ h => h) (Or.inl ⟨by rfl, fun w' hSw => by (try dsimp only at hSw); obtain ⟨hs0, hs1, hs2⟩ := hSw; go_simp⟩) hSx ?_
  try simp only [Act.put]
  refine wpAnyH_take (i := 11) (v := .int .i64 (rb : Int)) rfl (by kernel_rfl) (by kernel_rfl) (by kernel_rfl) (fun _ _ _ h => h) (Or.inl ⟨by rfl, fun w' hSw => by (try dsimp only at hSw); obtain ⟨hs0, hs1, hs2⟩ := hSw; go_simp⟩) hSx ?_
  try simp only [Act.put]
  refine wpAnyH_take (i := 12) (v := .int .i64 (c : Int)) rfl (by kernel_rfl) (by kernel_rfl) (by kernel_rfl) (fun _ _ _ h => h) (Or.inl ⟨by rfl, fun w' hSw => by (try dsimp only at hSw); obtain ⟨hs0, hs1, hs2⟩ := hSw; go_simp⟩) hSx ?_
  try simp only [Act.put]
  refine wpAnyH_take (i := 13) (v := .int .i64 (m : Int)) rfl (by kernel_rfl) (by kernel_rfl) (by kernel_rfl) (fun _ _ _ h => h) (Or.inl ⟨by rfl, fun w' hSw => by (try dsimp only at hSw); obtain ⟨hs0, hs1, hs2⟩ := hSw; go_simp⟩) hSx ?_
  try simp only [Act.put]
  refine wpAnyH_take (i := 14) (v := .int .i64 (cb : Int)) rfl (by kernel_rfl) (by kernel_rfl) (by kernel_rfl) (fun _ _ _ h => h) (Or.inl ⟨by rfl, fun w' hSw => by (try dsimp only at hSw); obtain ⟨hs0, hs1, hs2⟩ := hSw; go_simp⟩) hSx ?_
  try simp only [Act.put]
  refine wpAnyH_ready (rs := [7]) (by kernel_rfl) (by simp) ?_
  refine AllReadyH.cons rfl (fun J hJ => ?_) AllReadyH.nil
  go_simp
  go_at_fn ga
  refine C1.mono ?_
  rintro e w1 ⟨rfl, k1⟩
  have k1' := Below.next (Below.refl _ W).drew k1
  have D := HTB.out _ k1'
  go_wp2_with fail
  refine hJ.out _ _ (HP.out _ k1') (fun hSx => ?_)
  clear hJ J
  try simp only [Act.put, List.setIfInBounds_toArray, List.set_cons_zero, List.set_cons_succ]
  refine wpAnyH_ready (rs := [15]) (by kernel_rfl) (by simp) ?_
  refine AllReadyH.cons rfl (fun J hJ => ?_) AllReadyH.nil
  go_simp
  go_at_fn gb
  refine D.mono ?_
  rintro e w2 ⟨rfl, k2⟩
  have k2' := Below.next k1' k2
  go_wp2_with fail
  refine hJ.out _ _ (HP.out _ k2') (fun hSx => ?_)
  clear hJ J
  try simp only [Act.put, List.setIfInBounds_toArray, List.set_cons_zero, List.set_cons_succ]
  refine wpAnyH_take (i := 16) (v := .int .i64 z) rfl (by kernel_rfl) (by kernel_rfl) (by kernel_rfl) (fun _ _ _ h => h) (Or.inl ⟨by rfl, fun w' hSw => by (try dsimp only at hSw); obtain ⟨hs0, hs1, hs2⟩ := hSw; go_simp⟩) hSx ?_
  try simp only [Act.put, List.setIfInBounds_toArray]
  refine wpAnyH_ready (rs := [17]) (by kernel_rfl) (by simp) ?_
  refine AllReadyH.cons rfl (fun J hJ => ?_) AllReadyH.nil
  go_simp
  refine hJ.out _ _ hSx (fun hSx => ?_)
  clear hJ J
  try simp only [Act.put, List.setIfInBounds_toArray, List.set_cons_zero, List.set_cons_succ]
  refine wpAnyH_done (by kernel_rfl) ?_ _
  refine NoPanic.normal ?_
  clear hSx C1 D
  go_wp2
  go_ret
  exact ⟨rfl, k2'⟩
set_option maxHeartbeats 4000000 in
theorem product_any (n m : Nat) (A B : Nat → Nat → Int) (u v : Value) (w : World) (hm : 0 < m) (hnm : n * m ≤ 99) (hA : ∀ i j, i < n → j < n → Sg (A i j)) (hB : ∀ i j, i < m → j < m → Sg (B i j)) (hu : Teller u n n A w) (hv : Teller v m m B w) :
    Calls Tryd.prog 22 #[u, v, .int .i64 (m : Int)] w fun e w' => (∃ y, e = .returned y ∧ Teller y (n * m) (n * m) (prd m A B) w') ∧ Below w.heap.size w w' := by
  obtain ⟨ga, la, rfl, ea, hTA⟩ := hu
  obtain ⟨gb, lb, rfl, eb, hTB⟩ := hv
  have HTA : Hid (TellAt ga la n n A w) := hTA
  have HTB : Hid (TellAt gb lb m m B w) := hTB
  have HEA : Hid (∀ args w, (callFunc ga args).run Tryd.prog w = .ok (.enter ga args) w) := ea
  have HEB : Hid (∀ args w, (callFunc gb args).run Tryd.prog w = .ok (.enter gb args) w) := eb
  have HA : Hid (∀ i j, i < n → j < n → Sg (A i j)) := hA
  have HB : Hid (∀ i j, i < m → j < m → Sg (B i j)) := hB
  clear hTA hTB ea eb hA hB
  go_enter Tryd.func22, Tryd.ntmps22
  go_wp2
  go_ret
  have hb := Below.next (Below.next (balloc w (.cells #[.func (.func ga) #[] la] 40)) (balloc _ (.cells #[.func (.func gb) #[] lb] 40))) (balloc _ (.cells #[.int .i64 (m : Int)] 3))
  have k0 : (((w.alloc (.cells #[.func (.func ga) #[] la] 40)).alloc (.cells #[.func (.func gb) #[] lb] 40)).alloc (.cells #[.int .i64 (m : Int)] 3)).heap[w.heap.size]? = some (.cells #[.func (.func ga) #[] la] 40 (0, 0)) := (Below.heap_alloc _ _ _ (by simp; omega)).trans ((Below.heap_alloc _ _ _ (by simp)).trans (heap_alloc_new w _))
  have k1 : (((w.alloc (.cells #[.func (.func ga) #[] la] 40)).alloc (.cells #[.func (.func gb) #[] lb] 40)).alloc (.cells #[.int .i64 (m : Int)] 3)).heap[w.heap.size + 1]? = some (.cells #[.func (.func gb) #[] lb] 40 (0, 0)) := by
    refine (Below.heap_alloc _ _ _ (by simp)).trans ?_
    have := heap_alloc_new (w.alloc (.cells #[.func (.func ga) #[] la] 40)) (.cells #[.func (.func gb) #[] lb] 40)
    simpa using this
  have k2 : (((w.alloc (.cells #[.func (.func ga) #[] la] 40)).alloc (.cells #[.func (.func gb) #[] lb] 40)).alloc (.cells #[.int .i64 (m : Int)] 3)).heap[w.heap.size + 1 + 1]? = some (.cells #[.int .i64 (m : Int)] 3 (0, 0)) := by
    have := heap_alloc_new ((w.alloc (.cells #[.func (.func ga) #[] la] 40)).alloc (.cells #[.func (.func gb) #[] lb] 40)) (.cells #[.int .i64 (m : Int)] 3)
    simpa using this
  refine ⟨⟨_, rfl, 31, _, rfl, e31p, fun W bW r c hr hc => ?_⟩, hb⟩
  refine product1_any n m r c w.heap.size (w.heap.size + 1 + 1) (w.heap.size + 1) A B ga gb la lb W hm hnm hr hc HA.out HB.out HEA.out HEB.out (fun X bX r c hr hc => HTA.out X (Below.next hb (Below.next bW bX)) r c hr hc) (fun X bX r c hr hc => HTB.out X (Below.next hb (Below.next bW bX)) r c hr hc) ?_ ?_ ?_
  · rw [cell_of_row _ _ _ _ _ _ ((bW.block _ (by simp; omega)).trans k0)]; rfl
  · rw [cell_of_row _ _ _ _ _ _ ((bW.block _ (by simp)).trans k2)]; rfl
  · rw [cell_of_row _ _ _ _ _ _ ((bW.block _ (by simp)).trans k1)]; rfl
end Go.Proofs.YtamdpcajfgbagaaDoor
