/- The walk of the room's clear. -/
import Derived.Test.YtgdkfbgehbdkjaaDoorB1
import Derived.Deep.RegionHeld3
namespace Go.Proofs.YtgdkfbgehbdkjaaDoor
open Go.RowKit

/-- All blocks stay but some. -/
structure KpX (X : Nat → Prop) (w w' : World) : Prop where
  os : w'.os = w.os
  tape : w'.tape = w.tape
  output : w'.output = w.output
  size : w.heap.size ≤ w'.heap.size
  block : ∀ k, k < w.heap.size → ¬ X k → w'.heap[k]? = w.heap[k]?
theorem KpX.refl (X : Nat → Prop) (w : World) : KpX X w w := ⟨rfl, rfl, rfl, Nat.le_refl _, fun _ _ _ => rfl⟩
theorem KpX.trans {X : Nat → Prop} {a b c : World} (h : KpX X a b) (k : KpX X b c) : KpX X a c :=
  ⟨k.os.trans h.os, k.tape.trans h.tape, k.output.trans h.output, Nat.le_trans h.size k.size, fun i hi hx => (k.block i (Nat.lt_of_lt_of_le hi h.size) hx).trans (h.block i hi hx)⟩
theorem KpX.of {X : Nat → Prop} {w w' : World} (h : Below w.heap.size w w') : KpX X w w' := ⟨h.os, h.tape, h.output, h.size, fun k hk _ => h.block k hk⟩
theorem KpX.set {X : Nat → Prop} {a w : World} (h : KpX X a w) {p : Addr} (hp : X p.block) (u : Value) : KpX X a (w.setCell p u) :=
  h.trans ⟨rfl, rfl, rfl, by simp [World.setCell], fun k _ hx => Below.heap_setCell _ _ _ _ (fun e => hx (by rw [e]; exact hp))⟩
theorem KpX.drew {X : Nat → Prop} {a w : World} (h : KpX X a w) : KpX X a w.drew := ⟨h.os, h.tape, h.output, h.size, h.block⟩
theorem KpX.below {X : Nat → Prop} {base : Nat} {a b c : World} (h : Below base a b) (k : KpX X b c) (hX : ∀ i, X i → base ≤ i) (hb : base ≤ b.heap.size) : Below base a c :=
  ⟨k.os.trans h.os, k.tape.trans h.tape, k.output.trans h.output, Nat.le_trans h.size k.size, fun i hi => (k.block i (by omega) (fun hx => by have := hX i hx; omega)).trans (h.block i hi)⟩
theorem KpX.rm {X : Nat → Prop} {w w' : World} (h : KpX X w w') {g : Nat} {p k n : Int} {v : Value} (hr : RmB w g p k v n) (hx : ¬ X g) : RmB w' g p k v n := (h.block g hr.lt hx).trans hr
theorem KpX.mono {X Y : Nat → Prop} {w w' : World} (h : KpX X w w') (k : ∀ i, X i → Y i) : KpX Y w w' := ⟨h.os, h.tape, h.output, h.size, fun i hi hy => h.block i hi fun hx => hy (k i hx)⟩
/-- The rows' own blocks. -/
def RwX (R : Nat) (B : Nat → Nat) (k : Nat) : Prop := ∃ i, i < R ∧ k = B i
def cst (M : Nat → Nat → Nat) : Nat → Nat → Int := fun i j => (M i j : Int)
theorem Mat.below {w w' : World} {base g R n : Nat} {B cp : Nat → Nat} {A : Nat → Nat → Int} (h : Mat w base g R n B cp A) (hb : Below w.heap.size w w') : Mat w' base g R n B cp A :=
  h.kept fun k hk => hb.block k (by
    rcases hk with rfl | ⟨i, hi, rfl⟩
    · exact h.glt
    · exact (h.row i hi).lt)
/-- Row t, its first j elements multiplied. -/
def sclTo (mu : Nat → Nat → Nat) (M : Nat → Nat → Nat) (t e j : Nat) : Nat → Nat → Nat := fun r x => if r = t ∧ x < j then mu e (M t x) else M r x
theorem sclTo_zero (mu : Nat → Nat → Nat) (M : Nat → Nat → Nat) (t e r x : Nat) : cst M r x = cst (sclTo mu M t e 0) r x := by unfold cst sclTo; rw [if_neg (by omega)]
theorem sclTo_at (mu : Nat → Nat → Nat) (M : Nat → Nat → Nat) (t e j : Nat) : cst (sclTo mu M t e j) t j = (M t j : Int) := by unfold cst sclTo; rw [if_neg (by omega)]
theorem sclTo_succ {mu : Nat → Nat → Nat} {M : Nat → Nat → Nat} {t e j s : Nat} (hs : mu e (M t j) = s) (r y : Nat) : (if r = t then upd (cst (sclTo mu M t e j) r) j (s : Int) else cst (sclTo mu M t e j) r) y = cst (sclTo mu M t e (j + 1)) r y := by
  by_cases er : r = t
  · subst er
    rw [if_pos rfl]
    unfold upd cst sclTo
    by_cases ey : y = j
    · subst ey; rw [if_pos rfl, if_pos ⟨rfl, by omega⟩, hs]
    · rw [if_neg ey]
      by_cases hy : y < j
      · rw [if_pos ⟨rfl, hy⟩, if_pos ⟨rfl, by omega⟩]
      · rw [if_neg (by omega), if_neg (by omega)]
  · rw [if_neg er]
    unfold cst sclTo
    rw [if_neg (fun h => er h.1), if_neg (fun h => er h.1)]
theorem sclTo_full {mu : Nat → Nat → Nat} {M : Nat → Nat → Nat} {t e n : Nat} (r x : Nat) (hx : x < n) : cst (sclTo mu M t e n) r x = cst (sclF mu M t e) r x := by
  unfold cst sclTo sclF
  by_cases ei : r = t
  · rw [if_pos ⟨ei, hx⟩, if_pos ei]
  · rw [if_neg (fun h => ei h.1), if_neg ei]
/-- The rows ahead of i, and of row i the first j elements, cleared. -/
def clrTo (ad mu : Nat → Nat → Nat) (ng : Nat → Nat) (M : Nat → Nat → Nat) (t c i j : Nat) : Nat → Nat → Nat := fun r x => if r < i ∨ (r = i ∧ x < j) then clrF ad mu ng M t c r x else M r x
section
variable {ad mu : Nat → Nat → Nat} {ng : Nat → Nat} {M : Nat → Nat → Nat} {t c : Nat}
theorem clrTo_zero (ad mu : Nat → Nat → Nat) (ng : Nat → Nat) (M : Nat → Nat → Nat) (t c r x : Nat) : cst M r x = cst (clrTo ad mu ng M t c 0 0) r x := by unfold cst clrTo; rw [if_neg (by omega)]
theorem clrTo_at (ad mu : Nat → Nat → Nat) (ng : Nat → Nat) (M : Nat → Nat → Nat) (t c i j x : Nat) (hx : j ≤ x) : cst (clrTo ad mu ng M t c i j) i x = (M i x : Int) := by unfold cst clrTo; rw [if_neg (by omega)]
theorem clrTo_lead (ad mu : Nat → Nat → Nat) (ng : Nat → Nat) (M : Nat → Nat → Nat) (t c i j x : Nat) : cst (clrTo ad mu ng M t c i j) t x = (M t x : Int) := by
  unfold cst clrTo
  split
  · unfold clrF; rw [if_pos rfl]
  · rfl
theorem clrTo_succ {i j s : Nat} (hit : i ≠ t) (hs : ad (M i j) (mu (ng (M i c)) (M t j)) = s) (r z : Nat) :
    (if r = i then upd (cst (clrTo ad mu ng M t c i j) r) j (s : Int) else cst (clrTo ad mu ng M t c i j) r) z = cst (clrTo ad mu ng M t c i (j + 1)) r z := by
  by_cases er : r = i
  · subst er
    rw [if_pos rfl]
    unfold upd cst clrTo
    by_cases ey : z = j
    · subst ey
      rw [if_pos rfl, if_pos (by omega)]
      unfold clrF
      rw [if_neg hit, hs]
    · rw [if_neg ey]
      by_cases hz : z < j
      · rw [if_pos (by omega), if_pos (by omega)]
      · rw [if_neg (by omega), if_neg (by omega)]
  · rw [if_neg er]
    unfold cst clrTo
    by_cases hr : r < i
    · rw [if_pos (by omega), if_pos (by omega)]
    · rw [if_neg (by omega), if_neg (by omega)]
theorem clrTo_row {i n : Nat} (r x : Nat) (hx : x < n) : cst (clrTo ad mu ng M t c i n) r x = cst (clrTo ad mu ng M t c (i + 1) 0) r x := by
  unfold cst clrTo
  by_cases hr : r < i + 1
  · rw [if_pos (by omega), if_pos (by omega)]
  · rw [if_neg (by omega), if_neg (by omega)]
theorem clrTo_skip {i : Nat} (r x : Nat) (h : i = t) : cst (clrTo ad mu ng M t c i 0) r x = cst (clrTo ad mu ng M t c (i + 1) 0) r x := by
  unfold cst clrTo
  by_cases hr : r < i
  · rw [if_pos (by omega), if_pos (by omega)]
  · rw [if_neg (by omega)]
    by_cases e : r = i
    · rw [if_pos (by omega), e]
      unfold clrF
      rw [if_pos h, h]
    · rw [if_neg (by omega)]
theorem clrTo_full {R : Nat} (r x : Nat) (hr : r < R) : cst (clrTo ad mu ng M t c R 0) r x = cst (clrF ad mu ng M t c) r x := by unfold cst clrTo; rw [if_pos (by omega)]
end
set_option maxRecDepth 100000 in
set_option maxHeartbeats 16000000 in
theorem clear_any (P K n R t c g co : Nat) (l : List Int) (v : Value) (M : Nat → Nat → Nat) (B cp : Nat → Nat) (w0 w : World) (hF : Fld P K l v w0) (hB0 : Below w0.heap.size w0 w) (hM : Mat w w0.heap.size g R n B cp (cst M)) (_hg : w0.heap.size ≤ g)
    (hlt : ∀ i j, i < R → j < n → M i j < P ^ K) (ht : t < R) (hc : c < n) (hn : n ≤ 6) (hR : R ≤ 24) (hz : M t c ≠ 0) :
    Calls Tryd.prog 51 #[rmV P K v n, .slice (some ⟨g, 0, none⟩) R co, .int .i64 (t : Int), .int .i64 (c : Int)] w fun e w' => e = .returned (.tuple #[]) ∧
      (∃ e1, e1 < P ^ K ∧ muF P K l e1 (M t c) = 1 ∧ Mat w' w0.heap.size g R n B cp (cst (clrF (adF P K) (muF P K l) (ngF P K) (sclF (muF P K l) M t e1) t c))) ∧ KpX (RwX R B) w w' := by
  have hfq := hF.fqr
  have hwb : w0.heap.size ≤ w.heap.size := hB0.size
  obtain ⟨e1, He1⟩ : ∃ e1, Hid (Fd.powQ P K (Fd.monL l) (M t c) (P ^ K - 2) = e1) := ⟨_, rfl⟩
  have he1 : e1 < P ^ K := by rw [← He1.out]; exact Fd.powQ_lt hF.good.field.toRing1 _ _
  have hi1 : muF P K l e1 (M t c) = 1 := by
    have h := Fd.inv_ok hF.good.field (a := M t c) (by omega) (hlt t c ht hc)
    rw [← He1.out, hfq.mu_comm _ _ (Fd.powQ_lt hF.good.field.toRing1 _ _) (hlt t c ht hc)]
    exact h
  have HI1 : Hid (muF P K l e1 (M t c) = 1) := hi1
  have HInv : Hid (∀ W, Below w0.heap.size w0 W → Calls Tryd.prog 65 #[.agg #[.int .i64 (P : Int), .int .i64 (K : Int), v], .int .i64 ((M t c : Nat) : Int)] W fun e w' => e = .returned (.tuple #[.int .i64 (e1 : Int), .int .i64 0]) ∧ Below W.heap.size W w') := fun W b =>
    Fd.InvG P K (M t c) l v W (hF.tab.below b) (hF.sl.below b) hF.len hF.good (hlt t c ht hc) (by omega) e1 He1.out.symm
  have HTim : Hid (∀ W, Below w0.heap.size w0 W → ∀ a b, a < P ^ K → b < P ^ K → ∀ s, Hid (muF P K l a b = s) → Calls Tryd.prog 66 #[rmV P K v n, .int .i64 (a : Int), .int .i64 (b : Int)] W fun e w' => e = .returned (.int .i64 (s : Int)) ∧ Below W.heap.size W w') := fun W b x y hx hy s hs => rtimes_any P K n x y l v W (hF.below b) hx hy s hs
  have HPlu : Hid (∀ W, Below w0.heap.size w0 W → ∀ a b, a < P ^ K → b < P ^ K → ∀ s, Hid (adF P K a b = s) → Calls Tryd.prog 68 #[rmV P K v n, .int .i64 (a : Int), .int .i64 (b : Int)] W fun e w' => e = .returned (.int .i64 (s : Int)) ∧ Below W.heap.size W w') := fun W b x y hx hy s hs => rplus_any P K n x y l v W (hF.below b) hx hy s hs
  have HLes : Hid (∀ W, Below w0.heap.size w0 W → ∀ a, a < P ^ K → ∀ s, Hid (ngF P K a = s) → Calls Tryd.prog 67 #[rmV P K v n, .int .i64 (a : Int)] W fun e w' => e = .returned (.int .i64 (s : Int)) ∧ Below W.heap.size W w') := fun W b x hx s hs => rless_any P K n x l v W (hF.below b) hx s hs
  have HQm : Hid (∀ a b, a < P ^ K → b < P ^ K → muF P K l a b < P ^ K) := hfq.mu_lt
  have HQa : Hid (∀ a b, a < P ^ K → b < P ^ K → adF P K a b < P ^ K) := hfq.ad_lt
  have HQn : Hid (∀ a, a < P ^ K → ngF P K a < P ^ K) := hfq.ng_lt
  have HLT : Hid (∀ i j, i < R → j < n → M i j < P ^ K) := hlt
  obtain ⟨mu, Hmu⟩ : ∃ mu, Hid (muF P K l = mu) := ⟨_, rfl⟩
  obtain ⟨ad, Had⟩ : ∃ ad, Hid (adF P K = ad) := ⟨_, rfl⟩
  obtain ⟨ng, Hng⟩ : ∃ ng, Hid (ngF P K = ng) := ⟨_, rfl⟩
  obtain ⟨q, Hq⟩ : ∃ q, Hid (P ^ K = q) := ⟨_, rfl⟩
  rw [Hmu.out] at HTim HQm HI1 ⊢
  rw [Had.out] at HPlu HQa ⊢
  rw [Hng.out] at HLes HQn ⊢
  rw [Hq.out] at HTim HPlu HLes HQm HQa HQn HLT he1 ⊢
  obtain ⟨d, Hd⟩ : ∃ d, Hid (M t c = d) := ⟨_, rfl⟩
  rw [Hd.out] at HInv
  obtain ⟨fa, fn, fc, rfl⟩ : ∃ fa fn fc, v = .slice fa fn fc := by obtain ⟨a, c, e, _⟩ := hF.sl; exact ⟨a, _, c, e⟩
  have hbx := balloc w (.cells #[.int .i64 (P : Int), .int .i64 (K : Int), .slice fa fn fc, .int .i64 (n : Int)] 50)
  have hr0 : RmB (w.alloc (.cells #[.int .i64 (P : Int), .int .i64 (K : Int), .slice fa fn fc, .int .i64 (n : Int)] 50)) w.heap.size (P : Int) (K : Int) (.slice fa fn fc) (n : Int) := heap_alloc_new w _
  have hM0 := hM.below hbx
  have hk0 : KpX (RwX R B) w (w.alloc (.cells #[.int .i64 (P : Int), .int .i64 (K : Int), .slice fa fn fc, .int .i64 (n : Int)] 50)) := KpX.of hbx
  have HBl : Hid (∀ i, i < R → B i < w.heap.size) := fun i hi => (hM.row i hi).lt
  have HBg : Hid (∀ i, i < R → w0.heap.size ≤ B i) := fun i hi => (hM.lo i hi).1
  have hnX : ¬ RwX R B w.heap.size := fun ⟨i, hi, e⟩ => by have := HBl.out i hi; omega
  have HNX : Hid (¬ RwX R B w.heap.size) := hnX
  have HWB : Hid (∀ W, KpX (RwX R B) w W → Below w0.heap.size w0 W) := fun W k => KpX.below hB0 k (fun i ⟨j, hj, e⟩ => by have := HBg.out j hj; omega) hwb
  obtain ⟨w1, Hw1⟩ : ∃ w1, Hid (w.alloc (.cells #[.int .i64 (P : Int), .int .i64 (K : Int), .slice fa fn fc, .int .i64 (n : Int)] 50) = w1) := ⟨_, rfl⟩
  have hti : (t : Int) < (R : Int) := by omega
  have hci : (c : Int) < (n : Int) := by omega
  have c1 := hM0.hd ht
  have c2 := hM0.cell ht hc
  have e2 : cst M t c = (d : Int) := by unfold cst; rw [Hd.out]
  rw [e2] at c2
  have hS : Hid (∀ W, Below w1.heap.size w1 W → (W.cell? ⟨w.heap.size, 0, none⟩ = some (.int .i64 (P : Int)) ∧ W.cell? ⟨w.heap.size, 1, none⟩ = some (.int .i64 (K : Int)) ∧ W.cell? ⟨w.heap.size, 2, none⟩ = some (.slice fa fn fc) ∧ W.cell? ⟨w.heap.size, 3, none⟩ = some (.int .i64 (n : Int)) ∧ W.cell? ⟨B t, c, none⟩ = some (.int .i64 (d : Int)))) := fun W hW => by
    rw [Hw1.out] at c2 hr0
    obtain ⟨y0, y1, y2, y3⟩ := (hr0.below hW).cells
    exact ⟨y0, y1, y2, y3, (hW.cell (World.block_lt_of_cell? _ _ c2)).trans c2⟩
  have HM0 : Hid (Mat w1 w0.heap.size g R n B cp (cst M)) := by rw [← Hw1.out]; exact hM0
  have HK0 : Hid (KpX (RwX R B) w w1) := by rw [← Hw1.out]; exact hk0
  have HR0 : Hid (RmB w1 w.heap.size (P : Int) (K : Int) (.slice fa fn fc) (n : Int)) := by rw [← Hw1.out]; exact hr0
  have CI := fun W (hW : Below w1.heap.size w1 W) => HInv.out W (Below.trans (HWB.out w1 HK0.out) (hW.mono (by have := (HWB.out w1 HK0.out).size; exact this)))
  have p1 : Below w1.heap.size w1 w1 := Below.refl _ _
  clear hfq hF hM hlt hM0 hk0 hr0 hbx hi1 He1 hB0 hnX hz e2
  go_enter Tryd.func51, Tryd.ntmps51
  go_wp2
  rw [Hw1.out]
  refine wp_region_noPanic ?_
  refine wp_region_held_drew (S := fun W => W.cell? ⟨w.heap.size, 0, none⟩ = some (.int .i64 (P : Int)) ∧ W.cell? ⟨w.heap.size, 1, none⟩ = some (.int .i64 (K : Int)) ∧ W.cell? ⟨w.heap.size, 2, none⟩ = some (.slice fa fn fc) ∧ W.cell? ⟨w.heap.size, 3, none⟩ = some (.int .i64 (n : Int)) ∧ W.cell? ⟨B t, c, none⟩ = some (.int .i64 (d : Int))) (by kernel_rfl) (hS.out _ p1.drew) (fun hSx => ?_)
  refine wpAnyH_take (i := 0) (v := .pointer (some ⟨w.heap.size, 0, none⟩)) rfl (by kernel_rfl) (by kernel_rfl) (by kernel_rfl) (fun _ _ _ h => h) (Or.inl ⟨by rfl, fun w' hSw => by (try dsimp only at hSw); obtain ⟨hs0, hs1, hs2, hs3, hs4⟩ := hSw; go_simp⟩) hSx ?_
  try simp only [Act.put, List.setIfInBounds_toArray]
  refine wpAnyH_take (i := 1) (v := .agg #[.int .i64 (P : Int), .int .i64 (K : Int), .slice fa fn fc]) rfl (by kernel_rfl) (by kernel_rfl) (by kernel_rfl) (fun _ _ _ h => h) (Or.inl ⟨by rfl, fun w' hSw => by (try dsimp only at hSw); obtain ⟨hs0, hs1, hs2, hs3, hs4⟩ := hSw; go_simp⟩) hSx ?_
  try simp only [Act.put]
  refine wpAnyH_take (i := 2) (v := .slice (some ⟨B t, 0, none⟩) n (cp t)) rfl (by kernel_rfl) (by kernel_rfl) (by kernel_rfl) (fun _ _ _ h => h) (Or.inl ⟨by rfl, fun w' hSw => by (try dsimp only at hSw); obtain ⟨hs0, hs1, hs2, hs3, hs4⟩ := hSw; go_simp⟩) hSx ?_
  try simp only [Act.put]
  refine wpAnyH_take (i := 3) (v := .int .i64 (c : Int)) rfl (by kernel_rfl) (by kernel_rfl) (by kernel_rfl) (fun _ _ _ h => h) (Or.inl ⟨by rfl, fun w' hSw => by (try dsimp only at hSw); obtain ⟨hs0, hs1, hs2, hs3, hs4⟩ := hSw; go_simp⟩) hSx ?_
  try simp only [Act.put]
  refine wpAnyH_take (i := 4) (v := .pointer (some ⟨B t, c, none⟩)) rfl (by kernel_rfl) (by kernel_rfl) (by kernel_rfl) (fun _ _ _ h => h) (Or.inl ⟨by rfl, fun w' hSw => by (try dsimp only at hSw); obtain ⟨hs0, hs1, hs2, hs3, hs4⟩ := hSw; go_simp⟩) hSx ?_
  try simp only [Act.put]
  refine wpAnyH_take (i := 5) (v := .int .i64 (d : Int)) rfl (by kernel_rfl) (by kernel_rfl) (by kernel_rfl) (fun _ _ _ h => h) (Or.inl ⟨by rfl, fun w' hSw => by (try dsimp only at hSw); obtain ⟨hs0, hs1, hs2, hs3, hs4⟩ := hSw; go_simp⟩) hSx ?_
  try simp only [Act.put]
  refine wpAnyH_ready (rs := [6]) (by kernel_rfl) (by simp) ?_
  refine (AllReadyH.cons rfl (fun J hJ => ?_) AllReadyH.nil)
  go_simp
  refine (CI _ p1.drew).mono ?_
  rintro e w2 ⟨rfl, bv1⟩
  have p2 : Below w1.heap.size w1 w2 := Below.next p1.drew bv1
  go_wp2_with fail
  refine hJ.out _ _ (hS.out _ p2) (fun hSx => ?_)
  clear hJ J
  try simp only [Act.put, List.setIfInBounds_toArray, List.set_cons_zero, List.set_cons_succ]
  refine wpAnyH_take (i := 7) (v := .tuple #[.int .i64 (e1 : Int), .int .i64 0]) rfl (by kernel_rfl) (by kernel_rfl) (by kernel_rfl) (fun _ _ _ h => h) (Or.inl ⟨by rfl, fun w' hSw => by (try dsimp only at hSw); obtain ⟨hs0, hs1, hs2, hs3, hs4⟩ := hSw; go_simp⟩) hSx ?_
  try simp only [Act.put, List.setIfInBounds_toArray]
  refine wpAnyH_take (i := 8) (v := .int .i64 (e1 : Int)) rfl (by kernel_rfl) (by kernel_rfl) (by kernel_rfl) (fun _ _ _ h => h) (Or.inl ⟨by rfl, fun w' hSw => by (try dsimp only at hSw); obtain ⟨hs0, hs1, hs2, hs3, hs4⟩ := hSw; go_simp⟩) hSx ?_
  try simp only [Act.put]
  refine wpAnyH_take (i := 9) (v := .int .i64 0) rfl (by kernel_rfl) (by kernel_rfl) (by kernel_rfl) (fun _ _ _ h => h) (Or.inl ⟨by rfl, fun w' hSw => by (try dsimp only at hSw); obtain ⟨hs0, hs1, hs2, hs3, hs4⟩ := hSw; go_simp⟩) hSx ?_
  try simp only [Act.put]
  refine wpAnyH_ready (rs := [10]) (by kernel_rfl) (by simp) ?_
  refine (AllReadyH.cons rfl (fun J hJ => ?_) AllReadyH.nil)
  go_simp
  refine hJ.out _ _ (hS.out _ p2) (fun hSx => ?_)
  clear hJ J
  try simp only [Act.put, List.setIfInBounds_toArray, List.set_cons_zero, List.set_cons_succ]
  refine wpAnyH_ready (rs := [11]) (by kernel_rfl) (by simp) ?_
  refine (AllReadyH.cons rfl (fun J hJ => ?_) AllReadyH.nil)
  go_simp
  refine hJ.out _ _ (hS.out _ p2) (fun hSx => ?_)
  clear hJ J
  try simp only [Act.put, List.setIfInBounds_toArray, List.set_cons_zero, List.set_cons_succ]
  refine wpAnyH_done (by kernel_rfl) ?_ _
  refine NoPanic.normal ?_
  have hM2 := HM0.out.below p2
  have hK2 : KpX (RwX R B) w w2 := HK0.out.trans (KpX.of p2)
  have hR2 := HR0.out.below p2
  clear hSx hS CI HInv p1 p2 bv1 HM0 HK0 HR0 c1 c2 Hd
  go_wp2
  go_loopw [11, 12, 34] (fun _ _ jv wr => ∃ j : Nat, jv = .int .i64 (j : Int) ∧ j ≤ n ∧ Mat wr w0.heap.size g R n B cp (cst (sclTo mu M t e1 j)) ∧ KpX (RwX R B) w wr ∧ RmB wr w.heap.size (P : Int) (K : Int) (.slice fa fn fc) (n : Int)) (fun _ _ jv _ => (n - intOf jv).toNat)
  case atStart => exact ⟨0, rfl, by omega, hM2.congr (fun i j _ _ => sclTo_zero mu M t e1 i j), hK2, hR2⟩
  case round =>
    clear hM2 hK2 hR2
    obtain ⟨j, rfl, hj, hM3, hK3, hR3⟩ := hrel
    by_cases hjn : j < n
    · have hji : (j : Int) < n := by omega
      have hdj : decide ((j : Int) < (n : Int)) = true := by simp; omega
      have hcx := hM3.cell ht hjn
      rw [sclTo_at] at hcx
      have hml := HLT.out t j ht hjn
      obtain ⟨x, Hx⟩ : ∃ x, Hid (M t j = x) := ⟨_, rfl⟩
      rw [Hx.out] at hcx hml
      obtain ⟨s, Hs⟩ : ∃ s, Hid (mu e1 x = s) := ⟨_, rfl⟩
      have C := HTim.out wr (HWB.out wr hK3) e1 x he1 hml s Hs
      obtain ⟨y0, y1, y2, y3⟩ := hR3.cells
      have HNext : Hid (∀ W, Below wr.heap.size wr W → W.cell? ⟨B t, j, none⟩ = some (.int .i64 (x : Int)) ∧ W.frozen? ⟨B t, j, none⟩ = false ∧ Mat (W.setCell ⟨B t, j, none⟩ (.int .i64 (s : Int))) w0.heap.size g R n B cp (cst (sclTo mu M t e1 (j + 1))) ∧ KpX (RwX R B) w (W.setCell ⟨B t, j, none⟩ (.int .i64 (s : Int))) ∧ RmB (W.setCell ⟨B t, j, none⟩ (.int .i64 (s : Int))) w.heap.size (P : Int) (K : Int) (.slice fa fn fc) (n : Int)) := fun W b => by
        have h4 := hM3.below b
        have k4 : KpX (RwX R B) w W := hK3.trans (KpX.of b)
        refine ⟨?_, h4.frozen ht j, (h4.set ht j (s : Int)).congr (fun r y _ _ => sclTo_succ (by rw [Hx.out]; exact Hs.out) r y), k4.set (show RwX R B (B t) from ⟨t, ht, rfl⟩) _, (heap_setCell_other W _ _ _ (fun e => HNX.out ⟨t, ht, e⟩)).trans (hR3.below b)⟩
        have := h4.cell ht hjn
        rw [sclTo_at, Hx.out] at this
        exact this
      clear hM3 hK3 hR3
      go_wp2_with (go_at_call 66; refine C.mono ?_; rintro e w3 ⟨rfl, b3⟩; obtain ⟨n1, n2, n3, n4, n5⟩ := HNext.out w3 b3; clear C)
      go_roundw
      case rel => exact ⟨j + 1, by go_num, by omega, n3, n4, n5⟩
      case measure => simp [intOf]; omega
    · have hdj : decide ((j : Int) < (n : Int)) = false := by simp; omega
      have HJn : Hid (j = n) := (by omega : j = n)
      obtain ⟨N, HN⟩ : ∃ N, Hid (sclF mu M t e1 = N) := ⟨_, rfl⟩
      have hM4 : Mat wr w0.heap.size g R n B cp (cst N) := hM3.congr (fun i x _ hx => by rw [HJn.out, ← HN.out]; exact sclTo_full i x hx)
      have HLN : Hid (∀ i j, i < R → j < n → N i j < q) := fun i j hi hj => by
        rw [← HN.out]
        unfold sclF
        split
        · exact HQm.out _ _ he1 (HLT.out t j ht hj)
        · exact HLT.out i j hi hj
      clear hM3
      go_wp2
      go_loopw [13, 14, 15, 16, 17, 49, 65] (fun _ _ _ _ _ iv _ wr => ∃ i : Nat, iv = .int .i64 (i : Int) ∧ i ≤ R ∧ Mat wr w0.heap.size g R n B cp (cst (clrTo ad mu ng N t c i 0)) ∧ KpX (RwX R B) w wr ∧ RmB wr w.heap.size (P : Int) (K : Int) (.slice fa fn fc) (n : Int)) (fun _ _ _ _ _ iv _ _ => (R - intOf iv).toNat)
      case atStart => exact ⟨0, rfl, by omega, hM4.congr (fun i j _ _ => clrTo_zero ad mu ng N t c i j), hK3, hR3⟩
      case round =>
        clear hM4 hK3 hR3
        obtain ⟨i, rfl, hi, hM5, hK5, hR5⟩ := hrel
        by_cases hiR : i < R
        · have hii : (i : Int) < R := by omega
          have hdi : decide ((i : Int) < (R : Int)) = true := by simp; omega
          have hci5 := hM5.hd hiR
          by_cases hit : i = t
          · have hie : ((i : Int) == (t : Int)) = true := by simp; omega
            have hM6 := hM5.congr (fun r x _ _ => clrTo_skip r x hit)
            clear hit hM5
            go_wp2
            go_roundw
            case rel => exact ⟨i + 1, by go_num, by omega, hM6, hK5, hR5⟩
            case measure => simp [intOf]; omega
          · have hie : ((i : Int) == (t : Int)) = false := by simp; omega
            have hcf := hM5.cell hiR hc
            rw [clrTo_at _ _ _ _ _ _ _ _ _ (Nat.zero_le _)] at hcf
            have hlf := HLN.out i c hiR hc
            obtain ⟨f, Hf⟩ : ∃ f, Hid (N i c = f) := ⟨_, rfl⟩
            rw [Hf.out] at hcf hlf
            obtain ⟨u, Hu⟩ : ∃ u, Hid (ng f = u) := ⟨_, rfl⟩
            have hlu : u < q := by rw [← Hu.out]; exact HQn.out f hlf
            have CL := fun W (hW : Below wr.heap.size wr W) => HLes.out W (HWB.out W (hK5.trans (KpX.of hW))) f hlf u Hu
            have hS : Hid (∀ W, Below wr.heap.size wr W → (W.cell? ⟨w.heap.size, 0, none⟩ = some (.int .i64 (P : Int)) ∧ W.cell? ⟨w.heap.size, 1, none⟩ = some (.int .i64 (K : Int)) ∧ W.cell? ⟨w.heap.size, 2, none⟩ = some (.slice fa fn fc) ∧ W.cell? ⟨w.heap.size, 3, none⟩ = some (.int .i64 (n : Int)) ∧ W.cell? ⟨B i, c, none⟩ = some (.int .i64 (f : Int)))) := fun W hW => by
              obtain ⟨y0, y1, y2, y3⟩ := (hR5.below hW).cells
              exact ⟨y0, y1, y2, y3, (hW.cell (World.block_lt_of_cell? _ _ hcf)).trans hcf⟩
            have HM5 : Hid (Mat wr w0.heap.size g R n B cp (cst (clrTo ad mu ng N t c i 0))) := hM5
            have HK5 : Hid (KpX (RwX R B) w wr) := hK5
            have HR5 : Hid (RmB wr w.heap.size (P : Int) (K : Int) (.slice fa fn fc) (n : Int)) := hR5
            have p1 : Below wr.heap.size wr wr := Below.refl _ _
            clear hM5 hK5 hR5 hcf
            go_wp2
            refine wp_region_noPanic ?_
            refine wp_region_held_drew (S := fun W => W.cell? ⟨w.heap.size, 0, none⟩ = some (.int .i64 (P : Int)) ∧ W.cell? ⟨w.heap.size, 1, none⟩ = some (.int .i64 (K : Int)) ∧ W.cell? ⟨w.heap.size, 2, none⟩ = some (.slice fa fn fc) ∧ W.cell? ⟨w.heap.size, 3, none⟩ = some (.int .i64 (n : Int)) ∧ W.cell? ⟨B i, c, none⟩ = some (.int .i64 (f : Int))) (by kernel_rfl) (hS.out _ p1.drew) (fun hSx => ?_)
            refine wpAnyH_take (i := 0) (v := .agg #[.int .i64 (P : Int), .int .i64 (K : Int), .slice fa fn fc, .int .i64 (n : Int)]) rfl (by kernel_rfl) (by kernel_rfl) (by kernel_rfl) (fun _ _ _ h => h) (Or.inl ⟨by rfl, fun w' hSw => by (try dsimp only at hSw); obtain ⟨hs0, hs1, hs2, hs3, hs4⟩ := hSw; go_simp⟩) hSx ?_
            try simp only [Act.put, List.setIfInBounds_toArray]
            refine wpAnyH_take (i := 1) (v := .slice (some ⟨B i, 0, none⟩) n (cp i)) rfl (by kernel_rfl) (by kernel_rfl) (by kernel_rfl) (fun _ _ _ h => h) (Or.inl ⟨by rfl, fun w' hSw => by (try dsimp only at hSw); obtain ⟨hs0, hs1, hs2, hs3, hs4⟩ := hSw; go_simp⟩) hSx ?_
            try simp only [Act.put]
            refine wpAnyH_take (i := 2) (v := .int .i64 (c : Int)) rfl (by kernel_rfl) (by kernel_rfl) (by kernel_rfl) (fun _ _ _ h => h) (Or.inl ⟨by rfl, fun w' hSw => by (try dsimp only at hSw); obtain ⟨hs0, hs1, hs2, hs3, hs4⟩ := hSw; go_simp⟩) hSx ?_
            try simp only [Act.put]
            refine wpAnyH_take (i := 3) (v := .pointer (some ⟨B i, c, none⟩)) rfl (by kernel_rfl) (by kernel_rfl) (by kernel_rfl) (fun _ _ _ h => h) (Or.inl ⟨by rfl, fun w' hSw => by (try dsimp only at hSw); obtain ⟨hs0, hs1, hs2, hs3, hs4⟩ := hSw; go_simp⟩) hSx ?_
            try simp only [Act.put]
            refine wpAnyH_take (i := 4) (v := .int .i64 (f : Int)) rfl (by kernel_rfl) (by kernel_rfl) (by kernel_rfl) (fun _ _ _ h => h) (Or.inl ⟨by rfl, fun w' hSw => by (try dsimp only at hSw); obtain ⟨hs0, hs1, hs2, hs3, hs4⟩ := hSw; go_simp⟩) hSx ?_
            try simp only [Act.put]
            refine wpAnyH_ready (rs := [5]) (by kernel_rfl) (by simp) ?_
            refine (AllReadyH.cons rfl (fun J hJ => ?_) AllReadyH.nil)
            go_simp
            refine (CL _ p1.drew).mono ?_
            rintro e w3 ⟨rfl, bv1⟩
            have p2 : Below wr.heap.size wr w3 := Below.next p1.drew bv1
            go_wp2_with fail
            refine hJ.out _ _ (hS.out _ p2) (fun hSx => ?_)
            clear hJ J
            try simp only [Act.put, List.setIfInBounds_toArray, List.set_cons_zero, List.set_cons_succ]
            refine wpAnyH_ready (rs := [6]) (by kernel_rfl) (by simp) ?_
            refine (AllReadyH.cons rfl (fun J hJ => ?_) AllReadyH.nil)
            go_simp
            refine hJ.out _ _ (hS.out _ p2) (fun hSx => ?_)
            clear hJ J
            try simp only [Act.put, List.setIfInBounds_toArray, List.set_cons_zero, List.set_cons_succ]
            refine wpAnyH_done (by kernel_rfl) ?_ _
            refine NoPanic.normal ?_
            have hM6 := HM5.out.below p2
            have hK6 : KpX (RwX R B) w w3 := HK5.out.trans (KpX.of p2)
            have hR6 := HR5.out.below p2
            clear hSx hS CL p1 p2 bv1 HM5 HK5 HR5
            go_wp2
            go_loopw [16, 17, 65] (fun _ _ jv wr => ∃ j : Nat, jv = .int .i64 (j : Int) ∧ j ≤ n ∧ Mat wr w0.heap.size g R n B cp (cst (clrTo ad mu ng N t c i j)) ∧ KpX (RwX R B) w wr ∧ RmB wr w.heap.size (P : Int) (K : Int) (.slice fa fn fc) (n : Int)) (fun _ _ jv _ => (n - intOf jv).toNat)
            case atStart => exact ⟨0, rfl, by omega, hM6, hK6, hR6⟩
            case round =>
              clear hM6 hK6 hR6
              obtain ⟨x, rfl, hx, hM7, hK7, hR7⟩ := hrel
              by_cases hxn : x < n
              · have hxi : (x : Int) < n := by omega
                have hdx : decide ((x : Int) < (n : Int)) = true := by simp; omega
                have k1 := hM7.cell hiR hxn
                rw [clrTo_at _ _ _ _ _ _ _ _ _ (Nat.le_refl _)] at k1
                have k2 := hM7.cell ht hxn
                rw [clrTo_lead] at k2
                have l1 := HLN.out i x hiR hxn
                have l2 := HLN.out t x ht hxn
                obtain ⟨y, Hy⟩ : ∃ y, Hid (N i x = y) := ⟨_, rfl⟩
                obtain ⟨z, Hz⟩ : ∃ z, Hid (N t x = z) := ⟨_, rfl⟩
                rw [Hy.out] at k1 l1
                rw [Hz.out] at k2 l2
                obtain ⟨s1, Hs1⟩ : ∃ s, Hid (mu u z = s) := ⟨_, rfl⟩
                have ls1 : s1 < q := by rw [← Hs1.out]; exact HQm.out _ _ hlu l2
                obtain ⟨s2, Hs2⟩ : ∃ s, Hid (ad y s1 = s) := ⟨_, rfl⟩
                have CT := fun W (hW : Below wr.heap.size wr W) => HTim.out W (HWB.out W (hK7.trans (KpX.of hW))) u z hlu l2 s1 Hs1
                have CA := fun W (hW : Below wr.heap.size wr W) => HPlu.out W (HWB.out W (hK7.trans (KpX.of hW))) y s1 l1 ls1 s2 Hs2
                have hS : Hid (∀ W, Below wr.heap.size wr W → (W.cell? ⟨w.heap.size, 0, none⟩ = some (.int .i64 (P : Int)) ∧ W.cell? ⟨w.heap.size, 1, none⟩ = some (.int .i64 (K : Int)) ∧ W.cell? ⟨w.heap.size, 2, none⟩ = some (.slice fa fn fc) ∧ W.cell? ⟨w.heap.size, 3, none⟩ = some (.int .i64 (n : Int)))) := fun W hW => (hR7.below hW).cells
                have HNext : Hid (∀ W, Below wr.heap.size wr W → W.cell? ⟨B i, x, none⟩ = some (.int .i64 (y : Int)) ∧ W.frozen? ⟨B i, x, none⟩ = false ∧ Mat (W.setCell ⟨B i, x, none⟩ (.int .i64 (s2 : Int))) w0.heap.size g R n B cp (cst (clrTo ad mu ng N t c i (x + 1))) ∧ KpX (RwX R B) w (W.setCell ⟨B i, x, none⟩ (.int .i64 (s2 : Int))) ∧ RmB (W.setCell ⟨B i, x, none⟩ (.int .i64 (s2 : Int))) w.heap.size (P : Int) (K : Int) (.slice fa fn fc) (n : Int)) := fun W b => by
                  have h4 := hM7.below b
                  have k4 : KpX (RwX R B) w W := hK7.trans (KpX.of b)
                  refine ⟨(b.cell (World.block_lt_of_cell? _ _ k1)).trans k1, h4.frozen hiR x, (h4.set hiR x (s2 : Int)).congr (fun r y' _ _ => clrTo_succ hit (by rw [Hy.out, Hf.out, Hu.out, Hz.out, Hs1.out]; exact Hs2.out) r y'), k4.set (show RwX R B (B i) from ⟨i, hiR, rfl⟩) _, (heap_setCell_other W _ _ _ (fun e => HNX.out ⟨i, hiR, e⟩)).trans (hR7.below b)⟩
                have p1 : Below wr.heap.size wr wr := Below.refl _ _
                clear hM7 hK7 hR7
                go_wp2
                refine wp_region_noPanic ?_
                refine wp_region_held_drew (S := fun W => W.cell? ⟨w.heap.size, 0, none⟩ = some (.int .i64 (P : Int)) ∧ W.cell? ⟨w.heap.size, 1, none⟩ = some (.int .i64 (K : Int)) ∧ W.cell? ⟨w.heap.size, 2, none⟩ = some (.slice fa fn fc) ∧ W.cell? ⟨w.heap.size, 3, none⟩ = some (.int .i64 (n : Int))) (by kernel_rfl) (hS.out _ p1.drew) (fun hSx => ?_)
                refine wpAnyH_take (i := 0) (v := .slice (some ⟨B i, 0, none⟩) n (cp i)) rfl (by kernel_rfl) (by kernel_rfl) (by kernel_rfl) (fun _ _ _ h => h) (Or.inl ⟨by rfl, fun w' hSw => by (try dsimp only at hSw); obtain ⟨hs0, hs1, hs2, hs3⟩ := hSw; go_simp⟩) hSx ?_
                try simp only [Act.put, List.setIfInBounds_toArray]
                refine wpAnyH_take (i := 1) (v := .int .i64 (x : Int)) rfl (by kernel_rfl) (by kernel_rfl) (by kernel_rfl) (fun _ _ _ h => h) (Or.inl ⟨by rfl, fun w' hSw => by (try dsimp only at hSw); obtain ⟨hs0, hs1, hs2, hs3⟩ := hSw; go_simp⟩) hSx ?_
                try simp only [Act.put]
                refine wpAnyH_take (i := 2) (v := .agg #[.int .i64 (P : Int), .int .i64 (K : Int), .slice fa fn fc, .int .i64 (n : Int)]) rfl (by kernel_rfl) (by kernel_rfl) (by kernel_rfl) (fun _ _ _ h => h) (Or.inl ⟨by rfl, fun w' hSw => by (try dsimp only at hSw); obtain ⟨hs0, hs1, hs2, hs3⟩ := hSw; go_simp⟩) hSx ?_
                try simp only [Act.put]
                refine wpAnyH_take (i := 3) (v := .slice (some ⟨B i, 0, none⟩) n (cp i)) rfl (by kernel_rfl) (by kernel_rfl) (by kernel_rfl) (fun _ _ _ h => h) (Or.inl ⟨by rfl, fun w' hSw => by (try dsimp only at hSw); obtain ⟨hs0, hs1, hs2, hs3⟩ := hSw; go_simp⟩) hSx ?_
                try simp only [Act.put]
                refine wpAnyH_take (i := 4) (v := .int .i64 (x : Int)) rfl (by kernel_rfl) (by kernel_rfl) (by kernel_rfl) (fun _ _ _ h => h) (Or.inl ⟨by rfl, fun w' hSw => by (try dsimp only at hSw); obtain ⟨hs0, hs1, hs2, hs3⟩ := hSw; go_simp⟩) hSx ?_
                try simp only [Act.put]
                refine wpAnyH_take (i := 5) (v := .pointer (some ⟨B i, x, none⟩)) rfl (by kernel_rfl) (by kernel_rfl) (by kernel_rfl) (fun _ _ _ h => h) (Or.inl ⟨by rfl, fun w' hSw => by (try dsimp only at hSw); obtain ⟨hs0, hs1, hs2, hs3⟩ := hSw; go_simp⟩) hSx ?_
                try simp only [Act.put]
                refine wpAnyH_take (i := 7) (v := .agg #[.int .i64 (P : Int), .int .i64 (K : Int), .slice fa fn fc, .int .i64 (n : Int)]) rfl (by kernel_rfl) (by kernel_rfl) (by kernel_rfl) (fun _ _ _ h => h) (Or.inl ⟨by rfl, fun w' hSw => by (try dsimp only at hSw); obtain ⟨hs0, hs1, hs2, hs3⟩ := hSw; go_simp⟩) hSx ?_
                try simp only [Act.put]
                refine wpAnyH_take (i := 8) (v := .int .i64 (u : Int)) rfl (by kernel_rfl) (by kernel_rfl) (by kernel_rfl) (fun _ _ _ h => h) (Or.inl ⟨by rfl, fun w' hSw => by (try dsimp only at hSw); obtain ⟨hs0, hs1, hs2, hs3⟩ := hSw; go_simp⟩) hSx ?_
                try simp only [Act.put]
                refine wpAnyH_take (i := 9) (v := .int .i64 (z : Int)) rfl (by kernel_rfl) (by kernel_rfl) (by kernel_rfl) (fun _ _ _ h => h) (Or.inl ⟨by rfl, fun w' hSw => by (try dsimp only at hSw); obtain ⟨hs0, hs1, hs2, hs3⟩ := hSw; go_simp⟩) hSx ?_
                try simp only [Act.put]
                refine wpAnyH_ready (rs := [6, 10]) (by kernel_rfl) (by simp) ?_
                refine (AllReadyH.cons rfl (fun J hJ => ?_) (AllReadyH.cons rfl (fun J hJ => ?_) AllReadyH.nil))
                · have m1 := (HNext.out _ p1.drew).1
                  go_simp
                  refine hJ.out _ _ (hS.out _ p1.drew) (fun hSx => ?_)
                  clear hJ J
                  try simp only [Act.put, List.setIfInBounds_toArray, List.set_cons_zero, List.set_cons_succ]
                  refine wpAnyH_ready (rs := [10]) (by kernel_rfl) (by simp) ?_
                  refine (AllReadyH.cons rfl (fun J hJ => ?_) AllReadyH.nil)
                  go_simp
                  refine (CT _ p1.drew).mono ?_
                  rintro e v1 ⟨rfl, b1⟩
                  have pb1 : Below wr.heap.size wr v1 := Below.next p1.drew b1
                  go_wp2_with fail
                  refine hJ.out _ _ (hS.out _ pb1) (fun hSx => ?_)
                  clear hJ J
                  try simp only [Act.put, List.setIfInBounds_toArray, List.set_cons_zero, List.set_cons_succ]
                  refine wpAnyH_ready (rs := [11]) (by kernel_rfl) (by simp) ?_
                  refine (AllReadyH.cons rfl (fun J hJ => ?_) AllReadyH.nil)
                  go_simp
                  refine (CA _ pb1).mono ?_
                  rintro e v2 ⟨rfl, b2⟩
                  have pb2 : Below wr.heap.size wr v2 := Below.next pb1 b2
                  go_wp2_with fail
                  refine hJ.out _ _ (hS.out _ pb2) (fun hSx => ?_)
                  clear hJ J
                  try simp only [Act.put, List.setIfInBounds_toArray, List.set_cons_zero, List.set_cons_succ]
                  refine wpAnyH_take (i := 12) (v := .pointer (some ⟨B i, x, none⟩)) rfl (by kernel_rfl) (by kernel_rfl) (by kernel_rfl) (fun _ _ _ h => h) (Or.inl ⟨by rfl, fun w' hSw => by (try dsimp only at hSw); obtain ⟨hs0, hs1, hs2, hs3⟩ := hSw; go_simp⟩) hSx ?_
                  try simp only [Act.put, List.setIfInBounds_toArray]
                  obtain ⟨n1, n2, n3, n4, n5⟩ := HNext.out _ pb2
                  refine wpAnyH_ready (rs := [13]) (by kernel_rfl) (by simp) ?_
                  refine (AllReadyH.cons rfl (fun J hJ => ?_) AllReadyH.nil)
                  go_simp
                  refine hJ.out _ _ (n5.cells) (fun hSx => ?_)
                  clear hJ J
                  try simp only [Act.put, List.setIfInBounds_toArray, List.set_cons_zero, List.set_cons_succ]
                  refine wpAnyH_done (by kernel_rfl) ?_ _
                  refine NoPanic.normal ?_
                  clear hSx hS CT CA
                  go_wp2
                  go_roundw
                  case rel => exact ⟨x + 1, by go_num, by omega, n3, n4, n5⟩
                  case measure => simp [intOf]; omega
                · go_simp
                  refine (CT _ p1.drew).mono ?_
                  rintro e v1 ⟨rfl, b1⟩
                  have pb1 : Below wr.heap.size wr v1 := Below.next p1.drew b1
                  go_wp2_with fail
                  refine hJ.out _ _ (hS.out _ pb1) (fun hSx => ?_)
                  clear hJ J
                  try simp only [Act.put, List.setIfInBounds_toArray, List.set_cons_zero, List.set_cons_succ]
                  refine wpAnyH_ready (rs := [6]) (by kernel_rfl) (by simp) ?_
                  refine (AllReadyH.cons rfl (fun J hJ => ?_) AllReadyH.nil)
                  have m1 := (HNext.out _ pb1).1
                  go_simp
                  refine hJ.out _ _ (hS.out _ pb1) (fun hSx => ?_)
                  clear hJ J
                  try simp only [Act.put, List.setIfInBounds_toArray, List.set_cons_zero, List.set_cons_succ]
                  refine wpAnyH_ready (rs := [11]) (by kernel_rfl) (by simp) ?_
                  refine (AllReadyH.cons rfl (fun J hJ => ?_) AllReadyH.nil)
                  go_simp
                  refine (CA _ pb1).mono ?_
                  rintro e v2 ⟨rfl, b2⟩
                  have pb2 : Below wr.heap.size wr v2 := Below.next pb1 b2
                  go_wp2_with fail
                  refine hJ.out _ _ (hS.out _ pb2) (fun hSx => ?_)
                  clear hJ J
                  try simp only [Act.put, List.setIfInBounds_toArray, List.set_cons_zero, List.set_cons_succ]
                  refine wpAnyH_take (i := 12) (v := .pointer (some ⟨B i, x, none⟩)) rfl (by kernel_rfl) (by kernel_rfl) (by kernel_rfl) (fun _ _ _ h => h) (Or.inl ⟨by rfl, fun w' hSw => by (try dsimp only at hSw); obtain ⟨hs0, hs1, hs2, hs3⟩ := hSw; go_simp⟩) hSx ?_
                  try simp only [Act.put, List.setIfInBounds_toArray]
                  obtain ⟨n1, n2, n3, n4, n5⟩ := HNext.out _ pb2
                  refine wpAnyH_ready (rs := [13]) (by kernel_rfl) (by simp) ?_
                  refine (AllReadyH.cons rfl (fun J hJ => ?_) AllReadyH.nil)
                  go_simp
                  refine hJ.out _ _ (n5.cells) (fun hSx => ?_)
                  clear hJ J
                  try simp only [Act.put, List.setIfInBounds_toArray, List.set_cons_zero, List.set_cons_succ]
                  refine wpAnyH_done (by kernel_rfl) ?_ _
                  refine NoPanic.normal ?_
                  clear hSx hS CT CA
                  go_wp2
                  go_roundw
                  case rel => exact ⟨x + 1, by go_num, by omega, n3, n4, n5⟩
                  case measure => simp [intOf]; omega
              · have hdx : decide ((x : Int) < (n : Int)) = false := by simp; omega
                have HXn : Hid (x = n) := (by omega : x = n)
                have hM8 : Mat wr w0.heap.size g R n B cp (cst (clrTo ad mu ng N t c (i + 1) 0)) := hM7.congr (fun r y _ hy => by rw [HXn.out]; exact clrTo_row r y hy)
                clear hM7
                go_wp2
                go_roundw
                case rel => exact ⟨i + 1, by go_num, by omega, hM8, hK7, hR7⟩
                case measure => simp [intOf]; omega
        · have hdi : decide ((i : Int) < (R : Int)) = false := by simp; omega
          have HIR : Hid (i = R) := (by omega : i = R)
          have hM9 : Mat wr w0.heap.size g R n B cp (cst (clrF ad mu ng N t c)) := hM5.congr (fun r y hr _ => by rw [HIR.out]; exact clrTo_full r y hr)
          rw [← HN.out] at hM9
          clear hM5
          go_wp2
          go_end0
          exact ⟨rfl, ⟨e1, he1, HI1.out, hM9⟩, hK5⟩
end Go.Proofs.YtgdkfbgehbdkjaaDoor
