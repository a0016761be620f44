/- The walks of cross and inLine. -/
import Derived.Test.YtgpkhfpejopacaaDoorK6
import Derived.Deep.RegionHeld3
import Derived.Deep.MidRow
/- The walk of Meet. -/
namespace Go.Proofs.YtgpkhfpejopacaaDoor
open Go.RowKit

theorem mtO_cm {B : List (List Nat)} {p q x : Nat} {b c : List Nat} (hb : B[p]? = some b) (hc : B[q]? = some c) (h : mtO B p q = some x) : ∃ l, cmL b c b.length = x :: l := by
  unfold mtO at h
  rw [getD_some hb, getD_some hc] at h
  rw [cmL_full]
  have e : (b.filter fun y => c.contains y).head? = some x := by rw [List.head?_filter]; exact h
  cases hl : b.filter fun y => c.contains y with
  | nil => rw [hl] at e; cases e
  | cons y l => rw [hl] at e; exact ⟨l, by rw [Option.some.inj e]⟩
theorem Pln.mt {v : Nat} {B : List (List Nat)} (H : Pln v B.length (inc B)) {p q : Nat} (hp : p < B.length) (hq : q < B.length) (hn : p ≠ q) : ∃ x, mtO B p q = some x := by
  obtain ⟨x, _, h1, h2⟩ := H.meet p q hp hq hn
  cases h : mtO B p q with
  | some k => exact ⟨k, rfl⟩
  | none =>
    unfold mtO at h
    rw [List.find?_eq_none] at h
    unfold inc at h1 h2
    exact absurd h2 (h x (List.contains_iff_mem.1 h1))
theorem mtO_some {B : List (List Nat)} {p q x : Nat} (h : mtO B p q = some x) : inc B x p = true ∧ inc B x q = true := by
  unfold mtO at h
  have h1 := List.mem_of_find?_eq_some h
  have h2 := List.find?_some h
  exact ⟨List.contains_iff_mem.2 h1, h2⟩
set_option maxRecDepth 100000 in
set_option maxHeartbeats 4000000 in
theorem Meet_bad (p : Int) (ls : List (List Int)) (z : Nat) (x y : Int) (u : Value) (w : World) (hT : Tab w) (hu : Rw w u ls) (hl : ls.length ≤ maxLen) (hll : ∀ l ∈ ls, l.length ≤ maxLen) (h : PCz p ls z) :
    Calls Tryd.prog 19 #[.agg #[.int .i64 p, u], .int .i64 x, .int .i64 y] w fun e w' => e = .returned (.tuple #[.int .i64 0, .int .i64 (z : Int)]) ∧ Below w.heap.size w w' := by
  have b0 := balloc w (.cells #[.int .i64 p, u] 29)
  have C := PCheck_z p ls z u _ (hT.next b0) (hu.below b0) hl hll h
  have hz := h.ne
  have hz2 : ¬ (z : Int) = 0 := by omega
  have hz1 : ((z : Int) != 0) = true := by simpa using hz2
  obtain ⟨x0, x1⟩ := des_box p u w _ (Below.refl _ _)
  obtain ⟨a, n, c, rfl⟩ : ∃ a n c, u = .slice a n c := by obtain ⟨a, c, e, _⟩ := hu; exact ⟨a, _, c, e⟩
  clear hu hl hll h
  go_enter Tryd.func19, Tryd.ntmps19
  go_wp2_with (go_at_call 17; refine C.mono ?_; rintro e w1 ⟨rfl, b1⟩; clear C)
  exact bodyPost_ret (v := .tuple #[.int .i64 0, .int .i64 (z : Int)]) (by simp [results, Tryd.results19, go_sem]) rfl ⟨rfl, Below.next b0 b1⟩
set_option maxRecDepth 100000 in
set_option maxHeartbeats 4000000 in
theorem Meet_wrong (v k : Nat) (B : List (List Nat)) (x y : Int) (u : Value) (w : World) (hT : Tab w) (G : GoodD v B) (hd : dF (v : Int) (toZ B) = 0) (hu : Rw w u (toZ B)) (hk : PrP v B k) (hz : c2F B.length x y ≠ 0) :
    Calls Tryd.prog 19 #[.agg #[.int .i64 (v : Int), u], .int .i64 x, .int .i64 y] w fun e w' => e = .returned (.tuple #[.int .i64 0, .int .i64 (c2F B.length x y : Int)]) ∧ Below w.heap.size w w' := by
  have b0 := balloc w (.cells #[.int .i64 (v : Int), u] 29)
  have C := PCheck_yes v k B u _ (hT.next b0) G hd (hu.below b0) hk
  obtain ⟨a, n, c, rfl, Hn⟩ : ∃ a n c, u = .slice a n c ∧ Hid (B.length = n) := by obtain ⟨a, c, e, _⟩ := drow_of hu; exact ⟨a, _, c, e, rfl⟩
  have C2 : Hid (∀ W, Calls Tryd.prog 42 #[.int .i64 (n : Int), .int .i64 x, .int .i64 y] W fun e w' => e = .returned (.int .i64 (c2F n x y : Int)) ∧ w' = W) := fun W => checkTwo_any n x y W
  have HC : Hid (∀ W, Below (w.alloc (.cells #[.int .i64 (v : Int), .slice a n c] 29)).heap.size (w.alloc (.cells #[.int .i64 (v : Int), .slice a n c] 29)) W → W.cell? ⟨w.heap.size, 0, none⟩ = some (.int .i64 (v : Int)) ∧ W.cell? ⟨w.heap.size, 1, none⟩ = some (.slice a n c)) := des_box (v : Int) _ w
  obtain ⟨x0, x1⟩ := HC.out _ (Below.refl _ _)
  obtain ⟨r, Hr⟩ : ∃ r, Hid ((k : Int) - 1 = r) := ⟨_, rfl⟩
  rw [Hr.out] at C
  rw [Hn.out] at hz ⊢
  obtain ⟨z, Hz⟩ : ∃ z, Hid (c2F n x y = z) := ⟨_, rfl⟩
  rw [Hz.out] at C2 hz ⊢
  have hz2 : ¬ (z : Int) = 0 := by omega
  have hz1 : ((z : Int) != 0) = true := by simpa using hz2
  clear hu hd G hk
  go_enter Tryd.func19, Tryd.ntmps19
  go_wp2_with (first
    | (go_at_call 17; refine C.mono ?_; rintro e w1 ⟨rfl, b1⟩; clear C; obtain ⟨y0, y1⟩ := HC.out _ b1; replace b1 := Below.next b0 b1)
    | (go_at_call 42; refine (C2.out _).mono ?_; rintro e w2 ⟨rfl, hw⟩; replace hw := hw.symm; subst hw; clear C2))
  exact bodyPost_ret (v := .tuple #[.int .i64 0, .int .i64 (z : Int)]) (by simp [results, Tryd.results19, go_sem]) rfl ⟨rfl, b1⟩
set_option maxRecDepth 100000 in
set_option maxHeartbeats 8000000 in
theorem Meet_ok (v k p q x : Nat) (B : List (List Nat)) (u : Value) (w : World) (hT : Tab w) (G : GoodD v B) (hd : dF (v : Int) (toZ B) = 0) (hu : Rw w u (toZ B)) (hk : PrP v B k) (hz : c2F B.length p q = 0) (hi : mtO B p q = some x) :
    Calls Tryd.prog 19 #[.agg #[.int .i64 (v : Int), u], .int .i64 (p : Int), .int .i64 (q : Int)] w fun e w' => e = .returned (.tuple #[.int .i64 (x : Int), .int .i64 0]) ∧ Below w.heap.size w w' := by
  have b0 := balloc w (.cells #[.int .i64 (v : Int), u] 29)
  have C := PCheck_yes v k B u _ (hT.next b0) G hd (hu.below b0) hk
  obtain ⟨p', q', e1, e2, hp, hq, _⟩ := c2F_nat hz
  obtain rfl : p = p' := by omega
  obtain rfl : q = q' := by omega
  obtain ⟨a, cap, rfl, hD⟩ := drow_of hu
  obtain ⟨b, hb⟩ : ∃ b, B[p]? = some b := ⟨_, List.getElem?_eq_getElem hp⟩
  obtain ⟨c, hc⟩ : ∃ c, B[q]? = some c := ⟨_, List.getElem?_eq_getElem hq⟩
  obtain ⟨cl, hcl⟩ := mtO_cm hb hc hi
  obtain ⟨bb, off, ua, uc, rfl, hrow⟩ := hD p b hb
  obtain ⟨bb2, off2, va, vc, e2', hrow2⟩ := hD q c hc
  obtain ⟨rfl, rfl⟩ : bb = bb2 ∧ off = off2 := by
    simp only [Option.some.injEq, Addr.mk.injEq] at e2'
    exact ⟨e2'.1, e2'.2.1⟩
  have hbl : b.length ≤ 40 := G.len (List.mem_of_getElem? hb)
  have hcl2 : c.length ≤ 40 := G.len (List.mem_of_getElem? hc)
  have HCM : Hid (∀ W, Below w.heap.size w W → Calls Tryd.prog 44 #[.slice ua b.length uc, .slice va c.length vc] W fun e w' => ∃ g o xn xc, e = .returned (.slice (some ⟨g, o, none⟩) xn xc) ∧ (0 : Int) < (xn : Int) ∧ w'.cell? ⟨g, o, none⟩ = some (.int .i64 (x : Int)) ∧ Below W.heap.size W w') := fun W hW => by
    refine (common_any b c _ _ W (hrow W hW).2 (hrow2 W hW).2 (by omega) (by omega)).mono ?_
    rintro e w' ⟨xa, xn, xc, rfl, hxn, hO, bW⟩
    rw [hcl] at hxn hO
    obtain ⟨a', c', e', h'⟩ := hO.sl
    obtain ⟨g, o, e1, h1⟩ := h' 0 (by simp)
    simp only [Value.slice.injEq] at e'
    refine ⟨g, o, xn, xc, by rw [e'.1, e1], by rw [hxn]; simp, h1, bW⟩
  have C2 : Hid (∀ W, Calls Tryd.prog 42 #[.int .i64 (B.length : Int), .int .i64 (p : Int), .int .i64 (q : Int)] W fun e w' => e = .returned (.int .i64 0) ∧ w' = W) := fun W => by
    have h := checkTwo_any B.length p q W
    rw [hz] at h
    exact h
  have HR1 : Hid (∀ W, Below w.heap.size w W → W.cell? ⟨bb, off + p, none⟩ = some (.slice ua b.length uc)) := fun W hW => (hrow W hW).1
  have HR2 : Hid (∀ W, Below w.heap.size w W → W.cell? ⟨bb, off + q, none⟩ = some (.slice va c.length vc)) := fun W hW => (hrow2 W hW).1
  have HC : Hid (∀ W, Below (w.alloc (.cells #[.int .i64 (v : Int), .slice (some ⟨bb, off, none⟩) B.length cap] 29)).heap.size (w.alloc (.cells #[.int .i64 (v : Int), .slice (some ⟨bb, off, none⟩) B.length cap] 29)) W → W.cell? ⟨w.heap.size, 0, none⟩ = some (.int .i64 (v : Int)) ∧ W.cell? ⟨w.heap.size, 1, none⟩ = some (.slice (some ⟨bb, off, none⟩) B.length cap)) := des_box (v : Int) _ w
  obtain ⟨x0, x1⟩ := HC.out _ (Below.refl _ _)
  obtain ⟨r, Hr⟩ : ∃ r, Hid ((k : Int) - 1 = r) := ⟨_, rfl⟩
  rw [Hr.out] at C
  generalize B.length = n at *
  generalize b.length = bn at *
  generalize c.length = cn at *
  have d6 : (p : Int) < (n : Int) := by omega
  have d7 : (q : Int) < (n : Int) := by omega
  clear hu hd G hk hz hi hD hrow hrow2 e2' hb hc e1 e2 hcl
  go_enter Tryd.func19, Tryd.ntmps19
  go_wp2_with (first
    | (go_at_call 17; refine C.mono ?_; rintro e w1 ⟨rfl, b1⟩; clear C; obtain ⟨y0, y1⟩ := HC.out _ b1; have b1a := b1; replace b1 := Below.next b0 b1)
    | (go_at_call 42; refine (C2.out _).mono ?_; rintro e w2 ⟨rfl, hw⟩; replace hw := hw.symm; subst hw; clear C2))
  have r1 := HR1.out _ b1
  have r2 := HR2.out _ b1
  have hS : Hid (∀ W, Below w1.heap.size w1 W → (fun W => W.cell? ⟨w.heap.size, 1, none⟩ = some (.slice (some ⟨bb, off, none⟩) n cap) ∧ W.cell? ⟨bb, off + p, none⟩ = some (.slice ua bn uc) ∧ W.cell? ⟨bb, off + q, none⟩ = some (.slice va cn vc)) W) := fun W hW => ⟨(hW.cell (World.block_lt_of_cell? _ _ y1)).trans y1, (hW.cell (World.block_lt_of_cell? _ _ r1)).trans r1, (hW.cell (World.block_lt_of_cell? _ _ r2)).trans r2⟩
  have p1 : Below w1.heap.size w1 w1 := Below.refl _ _
  clear y0 y1 r1 r2 x0 x1
  refine wp_region_noPanic ?_
  refine wp_region_held_drew (S := fun W => W.cell? ⟨w.heap.size, 1, none⟩ = some (.slice (some ⟨bb, off, none⟩) n cap) ∧ W.cell? ⟨bb, off + p, none⟩ = some (.slice ua bn uc) ∧ W.cell? ⟨bb, off + q, none⟩ = some (.slice va cn vc)) (by kernel_rfl) (hS.out _ p1.drew) (fun hSx => ?_)
  refine wpAnyH_take (i := 0) (v := .pointer (some ⟨w.heap.size, 1, none⟩)) rfl (by kernel_rfl) (by kernel_rfl) (by kernel_rfl) (fun _ _ _ h => h) (Or.inl ⟨by rfl, fun w' hSw => by (try dsimp only at hSw); obtain ⟨hs0, hs1, hs2⟩ := hSw; go_simp⟩) hSx ?_
  try simp only [Act.put, List.setIfInBounds_toArray]
  refine wpAnyH_take (i := 1) (v := .slice (some ⟨bb, off, none⟩) n cap) rfl (by kernel_rfl) (by kernel_rfl) (by kernel_rfl) (fun _ _ _ h => h) (Or.inl ⟨by rfl, fun w' hSw => by (try dsimp only at hSw); obtain ⟨hs0, hs1, hs2⟩ := hSw; go_simp⟩) hSx ?_
  try simp only [Act.put]
  refine wpAnyH_take (i := 2) (v := .int .i64 (p : Int)) rfl (by kernel_rfl) (by kernel_rfl) (by kernel_rfl) (fun _ _ _ h => h) (Or.inl ⟨by rfl, fun w' hSw => by (try dsimp only at hSw); obtain ⟨hs0, hs1, hs2⟩ := hSw; go_simp⟩) hSx ?_
  try simp only [Act.put]
  refine wpAnyH_take (i := 3) (v := .pointer (some ⟨bb, off + p, none⟩)) rfl (by kernel_rfl) (by kernel_rfl) (by kernel_rfl) (fun _ _ _ h => h) (Or.inl ⟨by rfl, fun w' hSw => by (try dsimp only at hSw); obtain ⟨hs0, hs1, hs2⟩ := hSw; go_simp⟩) hSx ?_
  try simp only [Act.put]
  refine wpAnyH_take (i := 4) (v := .slice ua bn uc) rfl (by kernel_rfl) (by kernel_rfl) (by kernel_rfl) (fun _ _ _ h => h) (Or.inl ⟨by rfl, fun w' hSw => by (try dsimp only at hSw); obtain ⟨hs0, hs1, hs2⟩ := hSw; go_simp⟩) hSx ?_
  try simp only [Act.put]
  refine wpAnyH_take (i := 5) (v := .pointer (some ⟨w.heap.size, 1, none⟩)) rfl (by kernel_rfl) (by kernel_rfl) (by kernel_rfl) (fun _ _ _ h => h) (Or.inl ⟨by rfl, fun w' hSw => by (try dsimp only at hSw); obtain ⟨hs0, hs1, hs2⟩ := hSw; go_simp⟩) hSx ?_
  try simp only [Act.put]
  refine wpAnyH_take (i := 6) (v := .slice (some ⟨bb, off, none⟩) n cap) rfl (by kernel_rfl) (by kernel_rfl) (by kernel_rfl) (fun _ _ _ h => h) (Or.inl ⟨by rfl, fun w' hSw => by (try dsimp only at hSw); obtain ⟨hs0, hs1, hs2⟩ := hSw; go_simp⟩) hSx ?_
  try simp only [Act.put]
  refine wpAnyH_take (i := 7) (v := .int .i64 (q : Int)) rfl (by kernel_rfl) (by kernel_rfl) (by kernel_rfl) (fun _ _ _ h => h) (Or.inl ⟨by rfl, fun w' hSw => by (try dsimp only at hSw); obtain ⟨hs0, hs1, hs2⟩ := hSw; go_simp⟩) hSx ?_
  try simp only [Act.put]
  refine wpAnyH_take (i := 8) (v := .pointer (some ⟨bb, off + q, none⟩)) rfl (by kernel_rfl) (by kernel_rfl) (by kernel_rfl) (fun _ _ _ h => h) (Or.inl ⟨by rfl, fun w' hSw => by (try dsimp only at hSw); obtain ⟨hs0, hs1, hs2⟩ := hSw; go_simp⟩) hSx ?_
  try simp only [Act.put]
  refine wpAnyH_take (i := 9) (v := .slice va cn vc) rfl (by kernel_rfl) (by kernel_rfl) (by kernel_rfl) (fun _ _ _ h => h) (Or.inl ⟨by rfl, fun w' hSw => by (try dsimp only at hSw); obtain ⟨hs0, hs1, hs2⟩ := hSw; go_simp⟩) hSx ?_
  try simp only [Act.put]
  refine wpAnyH_ready (rs := [10]) (by kernel_rfl) (by simp) ?_
  refine (AllReadyH.cons rfl (fun J hJ => ?_) AllReadyH.nil)
  go_simp
  refine (HCM.out _ (Below.next b1 p1.drew)).mono ?_
  rintro e v1 ⟨g, o, xn, xc, rfl, hxn, hxc, bv1⟩
  have hxn2 : ¬ xn = 0 := by omega
  have hxn3 : 0 < xn := by omega
  have p2 : Below w1.heap.size w1 v1 := Below.next p1.drew bv1
  go_wp2_with fail
  refine hJ.out _ _ (hS.out _ p2) (fun hSx => ?_)
  clear hJ J
  try simp only [Act.put, List.setIfInBounds_toArray, List.set_cons_zero, List.set_cons_succ]
  refine wpAnyH_take (i := 11) (v := .pointer (some ⟨g, o, none⟩)) rfl (by kernel_rfl) (by kernel_rfl) (by kernel_rfl) (fun _ _ _ h => h) (Or.inl ⟨by rfl, fun w' hSw => by (try dsimp only at hSw); obtain ⟨hs0, hs1, hs2⟩ := hSw; go_simp⟩) hSx ?_
  try simp only [Act.put, List.setIfInBounds_toArray]
  refine wpAnyH_ready (rs := [12]) (by kernel_rfl) (by simp) ?_
  refine (AllReadyH.cons rfl (fun J hJ => ?_) AllReadyH.nil)
  go_simp
  refine hJ.out _ _ (hS.out _ p2) (fun hSx => ?_)
  clear hJ J
  try simp only [Act.put, List.setIfInBounds_toArray, List.set_cons_zero, List.set_cons_succ]
  refine wpAnyH_ready (rs := [13]) (by kernel_rfl) (by simp) ?_
  refine (AllReadyH.cons rfl (fun J hJ => ?_) AllReadyH.nil)
  go_simp
  refine hJ.out _ _ (hS.out _ p2) (fun hSx => ?_)
  clear hJ J
  try simp only [Act.put, List.setIfInBounds_toArray, List.set_cons_zero, List.set_cons_succ]
  refine wpAnyH_ready (rs := [14]) (by kernel_rfl) (by simp) ?_
  refine (AllReadyH.cons rfl (fun J hJ => ?_) AllReadyH.nil)
  go_simp
  refine hJ.out _ _ (hS.out _ p2) (fun hSx => ?_)
  clear hJ J
  try simp only [Act.put, List.setIfInBounds_toArray, List.set_cons_zero, List.set_cons_succ]
  refine wpAnyH_done (by kernel_rfl) ?_ _
  refine NoPanic.normal ?_
  clear hSx hS
  go_wp2
  exact bodyPost_ret (v := .tuple #[.int .i64 (x : Int), .int .i64 0]) (by simp [results, Tryd.results19, go_sem]) rfl ⟨rfl, Below.next b1 p2⟩

end Go.Proofs.YtgpkhfpejopacaaDoor

namespace Go.Proofs.YtgpkhfpejopacaaDoor
open Go.RowKit

/-- Do three points lie in a block? -/
def il3 (B : List (List Nat)) (a b c : Nat) : Bool := B.any fun l => l.contains a && l.contains b && l.contains c
set_option maxRecDepth 100000 in
set_option maxHeartbeats 8000000 in
theorem inLine_any (v a b c : Nat) (B : List (List Nat)) (u : Value) (w : World) (G : GoodD v B) (hu : Rw w u (toZ B)) :
    Calls Tryd.prog 29 #[.agg #[.int .i64 (v : Int), u], .int .i64 (a : Int), .int .i64 (b : Int), .int .i64 (c : Int)] w fun e w' => e = .returned (.bool (il3 B a b c)) ∧ Below w.heap.size w w' := by
  obtain ⟨ad, cap, rfl, hD⟩ := drow_of hu
  have h200 := G.few
  have HD : Hid (DRow w ad B) := hD
  have HAT : Hid (∀ i, i < B.length → ∃ b, B[i]? = some b) := fun i hi => ⟨_, List.getElem?_eq_getElem hi⟩
  have HBL : Hid (∀ b ∈ B, b.length ≤ 40) := fun b hb => G.len hb
  have HY : Hid (∀ (i : Nat) (l : List Nat), B[i]? = some l → (l.contains a && l.contains b && l.contains c) = true → il3 B a b c = true) := fun i l h h2 => List.any_eq_true.2 ⟨l, List.mem_of_getElem? h, h2⟩
  have HN : Hid ((∀ (i : Nat) (l : List Nat), i < B.length → B[i]? = some l → (l.contains a && l.contains b && l.contains c) = false) → il3 B a b c = false) := fun h => List.any_eq_false.2 fun l hl => by
    obtain ⟨i, hi⟩ := List.getElem?_of_mem hl
    rw [h i l (List.getElem?_eq_some_iff.1 hi).1 hi]; simp
  have HL : Hid (∀ (W : World) (l : List Nat) (lv : Value) (x : Nat), l.length ≤ 40 → Sl W lv (l.map Int.ofNat) → Calls Tryd.prog 27 #[lv, .int .i64 (x : Int)] W fun e w' => e = .returned (.bool (l.contains x)) ∧ w' = W) := fun W l lv x hl hs => Lies_any l x _ lv W hs (by omega) rfl
  have HC : Hid (∀ W, Below (w.alloc (.cells #[.int .i64 (v : Int), .slice ad B.length cap] 29)).heap.size (w.alloc (.cells #[.int .i64 (v : Int), .slice ad B.length cap] 29)) W → W.cell? ⟨w.heap.size, 0, none⟩ = some (.int .i64 (v : Int)) ∧ W.cell? ⟨w.heap.size, 1, none⟩ = some (.slice ad B.length cap)) := des_box (v : Int) _ w
  obtain ⟨w0, Hw0⟩ : ∃ w0, Hid (w0 = w.alloc (.cells #[.int .i64 (v : Int), .slice ad B.length cap] 29)) := ⟨_, rfl⟩
  rw [← Hw0.out] at HC
  have HB0 : Hid (Below w.heap.size w w0) := by rw [Hw0.out]; exact balloc _ _
  obtain ⟨z, Hz⟩ : ∃ z, Hid (il3 B a b c = z) := ⟨_, rfl⟩
  rw [Hz.out] at HY HN ⊢
  obtain ⟨x0, x1⟩ := HC.out _ (Below.refl _ _)
  rw [Hw0.out] at x0 x1
  generalize B.length = n at *
  clear hD hu G
  go_enter Tryd.func29, Tryd.ntmps29
  go_wp2
  go_loopw [9] (fun iv wr => ∃ i : Nat, iv = .int .i64 (i : Int) ∧ i ≤ n ∧ Hid (∀ (j : Nat) (l : List Nat), j < i → B[j]? = some l → (l.contains a && l.contains b && l.contains c) = false) ∧ Below w0.heap.size w0 wr) (fun iv _ => (n - intOf iv).toNat)
  case atStart => exact ⟨0, rfl, by omega, (show ∀ (j : Nat) (l : List Nat), j < 0 → _ from fun j l h => by omega), by rw [Hw0.out]; exact Below.refl _ _⟩
  case round =>
    clear x0 x1
    obtain ⟨i, rfl, hi, HI, hB⟩ := hrel
    obtain ⟨x0, x1⟩ := HC.out _ hB
    have hBw := Below.next HB0.out hB
    by_cases hlt : i < n
    · have hdi : decide ((i : Int) < (n : Int)) = true := by simp; omega
      have hii : (i : Int) < (n : Int) := by omega
      obtain ⟨l, hl⟩ := HAT.out i hlt
      obtain ⟨bb, off, ua, uc, rfl, hrow⟩ := HD.out i l hl
      obtain ⟨hr0, hr1⟩ := hrow _ hBw
      have hbl := HBL.out l (List.mem_of_getElem? hl)
      have C1 := HL.out wr l _ a hbl hr1
      have C2 := HL.out wr l _ b hbl hr1
      have C3 := HL.out wr l _ c hbl hr1
      have hy := HY.out i l hl
      have HI2 : Hid ((l.contains a && l.contains b && l.contains c) = false → ∀ (j : Nat) (m : List Nat), j < i + 1 → B[j]? = some m → (m.contains a && m.contains b && m.contains c) = false) := fun h j m hj hm => by
        by_cases e : j = i
        · subst e
          rw [hl] at hm
          cases hm
          exact h
        · exact HI.out j m (by omega) hm
      obtain ⟨ta, Hta⟩ : ∃ t, Hid (l.contains a = t) := ⟨_, rfl⟩
      obtain ⟨tb, Htb⟩ : ∃ t, Hid (l.contains b = t) := ⟨_, rfl⟩
      obtain ⟨tc, Htc⟩ : ∃ t, Hid (l.contains c = t) := ⟨_, rfl⟩
      rw [Hta.out] at C1
      rw [Htb.out] at C2
      rw [Htc.out] at C3
      rw [Hta.out, Htb.out, Htc.out] at hy HI2
      generalize l.length = bl at *
      clear hl hr1 hrow HI
      by_cases hall : (ta && tb && tc) = true
      · obtain rfl := hy hall
        rw [Bool.and_eq_true, Bool.and_eq_true] at hall
        obtain ⟨⟨rfl, rfl⟩, rfl⟩ := hall
        clear hy HI2
        go_wp2_with (first
          | (go_at_call 27; refine C1.mono ?_; rintro e w1 ⟨rfl, hw⟩; replace hw := hw.symm; subst hw; clear C1)
          | (go_at_call 27; refine C2.mono ?_; rintro e w1 ⟨rfl, hw⟩; replace hw := hw.symm; subst hw; clear C2)
          | (go_at_call 27; refine C3.mono ?_; rintro e w1 ⟨rfl, hw⟩; replace hw := hw.symm; subst hw; clear C3))
        go_ret
        exact ⟨rfl, hBw⟩
      · have hall2 : (ta && tb && tc) = false := Bool.eq_false_iff.2 hall
        have HI3 := HI2.out hall2
        have HI4 : Hid (∀ (j : Nat) (m : List Nat), j < i + 1 → B[j]? = some m → (m.contains a && m.contains b && m.contains c) = false) := HI3
        clear hy HI2 hall HI3
        cases ta <;> cases tb <;> cases tc
        all_goals first
          | (exact absurd hall2 (by decide))
          | (clear hall2
             go_wp2_with (first
               | (go_at_call 27; refine C1.mono ?_; rintro e w1 ⟨rfl, hw⟩; replace hw := hw.symm; subst hw; clear C1)
               | (go_at_call 27; refine C2.mono ?_; rintro e w1 ⟨rfl, hw⟩; replace hw := hw.symm; subst hw; clear C2)
               | (go_at_call 27; refine C3.mono ?_; rintro e w1 ⟨rfl, hw⟩; replace hw := hw.symm; subst hw; clear C3))
             go_roundw
             case rel => exact ⟨i + 1, by go_num, by omega, HI4, hB⟩
             case measure => simp [intOf]; omega)
    · have hdi : decide ((i : Int) < (n : Int)) = false := by simp; omega
      obtain rfl := HN.out fun j l hj hl => HI.out j l (by omega) hl
      go_wp2
      go_ret
      exact ⟨rfl, hBw⟩
set_option maxRecDepth 100000 in
set_option maxHeartbeats 8000000 in
theorem cross_any (v k a b x y l m p : Nat) (B : List (List Nat)) (u : Value) (w : World) (hT : Tab w) (G : GoodD v B) (hd : dF (v : Int) (toZ B) = 0) (hu : Rw w u (toZ B)) (hk : PrP v B k)
    (z1 : c2F v a b = 0) (j1 : jnO B a b = some l) (z2 : c2F v x y = 0) (j2 : jnO B x y = some m) (z3 : c2F B.length l m = 0) (j3 : mtO B l m = some p) :
    Calls Tryd.prog 28 #[.agg #[.int .i64 (v : Int), u], .int .i64 (a : Int), .int .i64 (b : Int), .int .i64 (x : Int), .int .i64 (y : Int)] w fun e w' => e = .returned (.int .i64 (p : Int)) ∧ Below w.heap.size w w' := by
  have b0 := balloc w (.cells #[.int .i64 (v : Int), u] 29)
  have C1 := Join_ok v k a b l B u _ (hT.next b0) G hd (hu.below b0) hk z1 j1
  have H2 : Hid (∀ W, Below w.heap.size w W → Calls Tryd.prog 18 #[.agg #[.int .i64 (v : Int), u], .int .i64 (x : Int), .int .i64 (y : Int)] W fun e w' => e = .returned (.tuple #[.int .i64 (m : Int), .int .i64 0]) ∧ Below W.heap.size W w') := fun W hW => Join_ok v k x y m B u W (hT.next hW) G hd (hu.below hW) hk z2 j2
  have H3 : Hid (∀ W, Below w.heap.size w W → Calls Tryd.prog 19 #[.agg #[.int .i64 (v : Int), u], .int .i64 (l : Int), .int .i64 (m : Int)] W fun e w' => e = .returned (.tuple #[.int .i64 (p : Int), .int .i64 0]) ∧ Below W.heap.size W w') := fun W hW => Meet_ok v k l m p B u W (hT.next hW) G hd (hu.below hW) hk z3 j3
  have HC : Hid (∀ W, Below (w.alloc (.cells #[.int .i64 (v : Int), u] 29)).heap.size (w.alloc (.cells #[.int .i64 (v : Int), u] 29)) W → W.cell? ⟨w.heap.size, 0, none⟩ = some (.int .i64 (v : Int)) ∧ W.cell? ⟨w.heap.size, 1, none⟩ = some u) := des_box (v : Int) u w
  obtain ⟨x0, x1⟩ := HC.out _ (Below.refl _ _)
  obtain ⟨ua, un, uc, rfl⟩ : ∃ a n c, u = .slice a n c := by obtain ⟨a, c, e, _⟩ := hu; exact ⟨a, _, c, e⟩
  clear hu hd G hk z1 z2 z3 j1 j2 j3
  go_enter Tryd.func28, Tryd.ntmps28
  go_wp2_with (first
    | (go_at_call 18; refine C1.mono ?_; rintro e w1 ⟨rfl, b1⟩; clear C1; obtain ⟨y0, y1⟩ := HC.out _ b1; have b1a := b1; replace b1 := Below.next b0 b1; have C2 := H2.out _ b1)
    | (go_at_call 18; refine C2.mono ?_; rintro e w2 ⟨rfl, b2⟩; clear C2; have b2a := Below.next b1a b2; obtain ⟨t0, t1⟩ := HC.out _ b2a; replace b2 := Below.next b1 b2; have C3 := H3.out _ b2)
    | (go_at_call 19; refine C3.mono ?_; rintro e w3 ⟨rfl, b3⟩; clear C3; replace b3 := Below.next b2 b3))
  go_ret
  exact ⟨rfl, b3⟩

end Go.Proofs.YtgpkhfpejopacaaDoor
