/- The walks of Basis, Normal, Join, Meet and Has. -/
import Derived.Test.YtjfjdidibglhaabDoorYB1
import Derived.Deep.RegionHeld3
import Derived.WalkMore
import Derived.Shelf.Spec.SlicesGrow
import Derived.Maps.AppendAt
import Derived.Deep.AppendLies
import Derived.Deep.MidRow
import Derived.Test.YtjfjdidibglhaabDoorSpX
/- The walk of the room's normal. -/
/- The walk of the room's normalRow. -/
/- The walk of the room's clear. -/
namespace Go.Proofs.YtjfjdidibglhaabDoor
open Go.RowKit

/-- All blocks stay but some. -/
structure KpX (X : Nat → Prop) (w w' : World) : Prop where
  os : w'.os = w.os
  tape : w'.tape = w.tape
  output : w'.output = w.output
  size : w.heap.size ≤ w'.heap.size
  block : ∀ k, k < w.heap.size → ¬ X k → w'.heap[k]? = w.heap[k]?
theorem KpX.refl (X : Nat → Prop) (w : World) : KpX X w w := ⟨rfl, rfl, rfl, Nat.le_refl _, fun _ _ _ => rfl⟩
theorem KpX.trans {X : Nat → Prop} {a b c : World} (h : KpX X a b) (k : KpX X b c) : KpX X a c :=
  ⟨k.os.trans h.os, k.tape.trans h.tape, k.output.trans h.output, Nat.le_trans h.size k.size, fun i hi hx => (k.block i (Nat.lt_of_lt_of_le hi h.size) hx).trans (h.block i hi hx)⟩
theorem KpX.of {X : Nat → Prop} {w w' : World} (h : Below w.heap.size w w') : KpX X w w' := ⟨h.os, h.tape, h.output, h.size, fun k hk _ => h.block k hk⟩
theorem KpX.set {X : Nat → Prop} {a w : World} (h : KpX X a w) {p : Addr} (hp : X p.block) (u : Value) : KpX X a (w.setCell p u) :=
  h.trans ⟨rfl, rfl, rfl, by simp [World.setCell], fun k _ hx => Below.heap_setCell _ _ _ _ (fun e => hx (by rw [e]; exact hp))⟩
theorem KpX.drew {X : Nat → Prop} {a w : World} (h : KpX X a w) : KpX X a w.drew := ⟨h.os, h.tape, h.output, h.size, h.block⟩
theorem KpX.below {X : Nat → Prop} {base : Nat} {a b c : World} (h : Below base a b) (k : KpX X b c) (hX : ∀ i, X i → base ≤ i) (hb : base ≤ b.heap.size) : Below base a c :=
  ⟨k.os.trans h.os, k.tape.trans h.tape, k.output.trans h.output, Nat.le_trans h.size k.size, fun i hi => (k.block i (by omega) (fun hx => by have := hX i hx; omega)).trans (h.block i hi)⟩
theorem KpX.rm {X : Nat → Prop} {w w' : World} (h : KpX X w w') {g : Nat} {p k n : Int} {v : Value} (hr : RmB w g p k v n) (hx : ¬ X g) : RmB w' g p k v n := (h.block g hr.lt hx).trans hr
theorem KpX.mono {X Y : Nat → Prop} {w w' : World} (h : KpX X w w') (k : ∀ i, X i → Y i) : KpX Y w w' := ⟨h.os, h.tape, h.output, h.size, fun i hi hy => h.block i hi fun hx => hy (k i hx)⟩
/-- The rows' own blocks. -/
def RwX (R : Nat) (B : Nat → Nat) (k : Nat) : Prop := ∃ i, i < R ∧ k = B i
def cst (M : Nat → Nat → Nat) : Nat → Nat → Int := fun i j => (M i j : Int)
theorem Mat.below {w w' : World} {base g R n : Nat} {B cp : Nat → Nat} {A : Nat → Nat → Int} (h : Mat w base g R n B cp A) (hb : Below w.heap.size w w') : Mat w' base g R n B cp A :=
  h.kept fun k hk => hb.block k (by
    rcases hk with rfl | ⟨i, hi, rfl⟩
    · exact h.glt
    · exact (h.row i hi).lt)
/-- Row t, its first j elements multiplied. -/
def sclTo (mu : Nat → Nat → Nat) (M : Nat → Nat → Nat) (t e j : Nat) : Nat → Nat → Nat := fun r x => if r = t ∧ x < j then mu e (M t x) else M r x
theorem sclTo_zero (mu : Nat → Nat → Nat) (M : Nat → Nat → Nat) (t e r x : Nat) : cst M r x = cst (sclTo mu M t e 0) r x := by unfold cst sclTo; rw [if_neg (by omega)]
theorem sclTo_at (mu : Nat → Nat → Nat) (M : Nat → Nat → Nat) (t e j : Nat) : cst (sclTo mu M t e j) t j = (M t j : Int) := by unfold cst sclTo; rw [if_neg (by omega)]
theorem sclTo_succ {mu : Nat → Nat → Nat} {M : Nat → Nat → Nat} {t e j s : Nat} (hs : mu e (M t j) = s) (r y : Nat) : (if r = t then upd (cst (sclTo mu M t e j) r) j (s : Int) else cst (sclTo mu M t e j) r) y = cst (sclTo mu M t e (j + 1)) r y := by
  by_cases er : r = t
  · subst er
    rw [if_pos rfl]
    unfold upd cst sclTo
    by_cases ey : y = j
    · subst ey; rw [if_pos rfl, if_pos ⟨rfl, by omega⟩, hs]
    · rw [if_neg ey]
      by_cases hy : y < j
      · rw [if_pos ⟨rfl, hy⟩, if_pos ⟨rfl, by omega⟩]
      · rw [if_neg (by omega), if_neg (by omega)]
  · rw [if_neg er]
    unfold cst sclTo
    rw [if_neg (fun h => er h.1), if_neg (fun h => er h.1)]
theorem sclTo_full {mu : Nat → Nat → Nat} {M : Nat → Nat → Nat} {t e n : Nat} (r x : Nat) (hx : x < n) : cst (sclTo mu M t e n) r x = cst (sclF mu M t e) r x := by
  unfold cst sclTo sclF
  by_cases ei : r = t
  · rw [if_pos ⟨ei, hx⟩, if_pos ei]
  · rw [if_neg (fun h => ei h.1), if_neg ei]
/-- The rows ahead of i, and of row i the first j elements, cleared. -/
def clrTo (ad mu : Nat → Nat → Nat) (ng : Nat → Nat) (M : Nat → Nat → Nat) (t c i j : Nat) : Nat → Nat → Nat := fun r x => if r < i ∨ (r = i ∧ x < j) then clrF ad mu ng M t c r x else M r x
section
variable {ad mu : Nat → Nat → Nat} {ng : Nat → Nat} {M : Nat → Nat → Nat} {t c : Nat}
theorem clrTo_zero (ad mu : Nat → Nat → Nat) (ng : Nat → Nat) (M : Nat → Nat → Nat) (t c r x : Nat) : cst M r x = cst (clrTo ad mu ng M t c 0 0) r x := by unfold cst clrTo; rw [if_neg (by omega)]
theorem clrTo_at (ad mu : Nat → Nat → Nat) (ng : Nat → Nat) (M : Nat → Nat → Nat) (t c i j x : Nat) (hx : j ≤ x) : cst (clrTo ad mu ng M t c i j) i x = (M i x : Int) := by unfold cst clrTo; rw [if_neg (by omega)]
theorem clrTo_lead (ad mu : Nat → Nat → Nat) (ng : Nat → Nat) (M : Nat → Nat → Nat) (t c i j x : Nat) : cst (clrTo ad mu ng M t c i j) t x = (M t x : Int) := by
  unfold cst clrTo
  split
  · unfold clrF; rw [if_pos rfl]
  · rfl
theorem clrTo_succ {i j s : Nat} (hit : i ≠ t) (hs : ad (M i j) (mu (ng (M i c)) (M t j)) = s) (r z : Nat) :
    (if r = i then upd (cst (clrTo ad mu ng M t c i j) r) j (s : Int) else cst (clrTo ad mu ng M t c i j) r) z = cst (clrTo ad mu ng M t c i (j + 1)) r z := by
  by_cases er : r = i
  · subst er
    rw [if_pos rfl]
    unfold upd cst clrTo
    by_cases ey : z = j
    · subst ey
      rw [if_pos rfl, if_pos (by omega)]
      unfold clrF
      rw [if_neg hit, hs]
    · rw [if_neg ey]
      by_cases hz : z < j
      · rw [if_pos (by omega), if_pos (by omega)]
      · rw [if_neg (by omega), if_neg (by omega)]
  · rw [if_neg er]
    unfold cst clrTo
    by_cases hr : r < i
    · rw [if_pos (by omega), if_pos (by omega)]
    · rw [if_neg (by omega), if_neg (by omega)]
theorem clrTo_row {i n : Nat} (r x : Nat) (hx : x < n) : cst (clrTo ad mu ng M t c i n) r x = cst (clrTo ad mu ng M t c (i + 1) 0) r x := by
  unfold cst clrTo
  by_cases hr : r < i + 1
  · rw [if_pos (by omega), if_pos (by omega)]
  · rw [if_neg (by omega), if_neg (by omega)]
theorem clrTo_skip {i : Nat} (r x : Nat) (h : i = t) : cst (clrTo ad mu ng M t c i 0) r x = cst (clrTo ad mu ng M t c (i + 1) 0) r x := by
  unfold cst clrTo
  by_cases hr : r < i
  · rw [if_pos (by omega), if_pos (by omega)]
  · rw [if_neg (by omega)]
    by_cases e : r = i
    · rw [if_pos (by omega), e]
      unfold clrF
      rw [if_pos h, h]
    · rw [if_neg (by omega)]
theorem clrTo_full {R : Nat} (r x : Nat) (hr : r < R) : cst (clrTo ad mu ng M t c R 0) r x = cst (clrF ad mu ng M t c) r x := by unfold cst clrTo; rw [if_pos (by omega)]
end
set_option maxRecDepth 100000 in
set_option maxHeartbeats 16000000 in
theorem clear_any (P K n R t c g co : Nat) (l : List Int) (v : Value) (M : Nat → Nat → Nat) (B cp : Nat → Nat) (w0 w : World) (hF : Fld P K l v w0) (hB0 : Below w0.heap.size w0 w) (hM : Mat w w0.heap.size g R n B cp (cst M)) (_hg : w0.heap.size ≤ g)
    (hlt : ∀ i j, i < R → j < n → M i j < P ^ K) (ht : t < R) (hc : c < n) (hn : n ≤ 6) (hR : R ≤ 24) (hz : M t c ≠ 0) :
    Calls Tryd.prog 83 #[rmV P K v n, .slice (some ⟨g, 0, none⟩) R co, .int .i64 (t : Int), .int .i64 (c : Int)] w fun e w' => e = .returned (.tuple #[]) ∧
      (∃ e1, e1 < P ^ K ∧ muF P K l e1 (M t c) = 1 ∧ Mat w' w0.heap.size g R n B cp (cst (clrF (adF P K) (muF P K l) (ngF P K) (sclF (muF P K l) M t e1) t c))) ∧ KpX (RwX R B) w w' := by
  have hfq := hF.fqr
  have hwb : w0.heap.size ≤ w.heap.size := hB0.size
  obtain ⟨e1, He1⟩ : ∃ e1, Hid (Fd.powQ P K (Fd.monL l) (M t c) (P ^ K - 2) = e1) := ⟨_, rfl⟩
  have he1 : e1 < P ^ K := by rw [← He1.out]; exact Fd.powQ_lt hF.good.field.toRing1 _ _
  have hi1 : muF P K l e1 (M t c) = 1 := by
    have h := Fd.inv_ok hF.good.field (a := M t c) (by omega) (hlt t c ht hc)
    rw [← He1.out, hfq.mu_comm _ _ (Fd.powQ_lt hF.good.field.toRing1 _ _) (hlt t c ht hc)]
    exact h
  have HI1 : Hid (muF P K l e1 (M t c) = 1) := hi1
  have HInv : Hid (∀ W, Below w0.heap.size w0 W → Calls Tryd.prog 112 #[.agg #[.int .i64 (P : Int), .int .i64 (K : Int), v], .int .i64 ((M t c : Nat) : Int)] W fun e w' => e = .returned (.tuple #[.int .i64 (e1 : Int), .int .i64 0]) ∧ Below W.heap.size W w') := fun W b =>
    Fd.InvG P K (M t c) l v W (hF.tab.below b) (hF.sl.below b) hF.len hF.good (hlt t c ht hc) (by omega) e1 He1.out.symm
  have HTim : Hid (∀ W, Below w0.heap.size w0 W → ∀ a b, a < P ^ K → b < P ^ K → ∀ s, Hid (muF P K l a b = s) → Calls Tryd.prog 113 #[rmV P K v n, .int .i64 (a : Int), .int .i64 (b : Int)] W fun e w' => e = .returned (.int .i64 (s : Int)) ∧ Below W.heap.size W w') := fun W b x y hx hy s hs => rtimes_any P K n x y l v W (hF.below b) hx hy s hs
  have HPlu : Hid (∀ W, Below w0.heap.size w0 W → ∀ a b, a < P ^ K → b < P ^ K → ∀ s, Hid (adF P K a b = s) → Calls Tryd.prog 114 #[rmV P K v n, .int .i64 (a : Int), .int .i64 (b : Int)] W fun e w' => e = .returned (.int .i64 (s : Int)) ∧ Below W.heap.size W w') := fun W b x y hx hy s hs => rplus_any P K n x y l v W (hF.below b) hx hy s hs
  have HLes : Hid (∀ W, Below w0.heap.size w0 W → ∀ a, a < P ^ K → ∀ s, Hid (ngF P K a = s) → Calls Tryd.prog 91 #[rmV P K v n, .int .i64 (a : Int)] W fun e w' => e = .returned (.int .i64 (s : Int)) ∧ Below W.heap.size W w') := fun W b x hx s hs => rless_any P K n x l v W (hF.below b) hx s hs
  have HQm : Hid (∀ a b, a < P ^ K → b < P ^ K → muF P K l a b < P ^ K) := hfq.mu_lt
  have HQa : Hid (∀ a b, a < P ^ K → b < P ^ K → adF P K a b < P ^ K) := hfq.ad_lt
  have HQn : Hid (∀ a, a < P ^ K → ngF P K a < P ^ K) := hfq.ng_lt
  have HLT : Hid (∀ i j, i < R → j < n → M i j < P ^ K) := hlt
  obtain ⟨mu, Hmu⟩ : ∃ mu, Hid (muF P K l = mu) := ⟨_, rfl⟩
  obtain ⟨ad, Had⟩ : ∃ ad, Hid (adF P K = ad) := ⟨_, rfl⟩
  obtain ⟨ng, Hng⟩ : ∃ ng, Hid (ngF P K = ng) := ⟨_, rfl⟩
  obtain ⟨q, Hq⟩ : ∃ q, Hid (P ^ K = q) := ⟨_, rfl⟩
  rw [Hmu.out] at HTim HQm HI1 ⊢
  rw [Had.out] at HPlu HQa ⊢
  rw [Hng.out] at HLes HQn ⊢
  rw [Hq.out] at HTim HPlu HLes HQm HQa HQn HLT he1 ⊢
  obtain ⟨d, Hd⟩ : ∃ d, Hid (M t c = d) := ⟨_, rfl⟩
  rw [Hd.out] at HInv
  obtain ⟨fa, fn, fc, rfl⟩ : ∃ fa fn fc, v = .slice fa fn fc := by obtain ⟨a, c, e, _⟩ := hF.sl; exact ⟨a, _, c, e⟩
  have hbx := balloc w (.cells #[.int .i64 (P : Int), .int .i64 (K : Int), .slice fa fn fc, .int .i64 (n : Int)] 53)
  have hr0 : RmB (w.alloc (.cells #[.int .i64 (P : Int), .int .i64 (K : Int), .slice fa fn fc, .int .i64 (n : Int)] 53)) w.heap.size (P : Int) (K : Int) (.slice fa fn fc) (n : Int) := heap_alloc_new w _
  have hM0 := hM.below hbx
  have hk0 : KpX (RwX R B) w (w.alloc (.cells #[.int .i64 (P : Int), .int .i64 (K : Int), .slice fa fn fc, .int .i64 (n : Int)] 53)) := KpX.of hbx
  have HBl : Hid (∀ i, i < R → B i < w.heap.size) := fun i hi => (hM.row i hi).lt
  have HBg : Hid (∀ i, i < R → w0.heap.size ≤ B i) := fun i hi => (hM.lo i hi).1
  have hnX : ¬ RwX R B w.heap.size := fun ⟨i, hi, e⟩ => by have := HBl.out i hi; omega
  have HNX : Hid (¬ RwX R B w.heap.size) := hnX
  have HWB : Hid (∀ W, KpX (RwX R B) w W → Below w0.heap.size w0 W) := fun W k => KpX.below hB0 k (fun i ⟨j, hj, e⟩ => by have := HBg.out j hj; omega) hwb
  obtain ⟨w1, Hw1⟩ : ∃ w1, Hid (w.alloc (.cells #[.int .i64 (P : Int), .int .i64 (K : Int), .slice fa fn fc, .int .i64 (n : Int)] 53) = w1) := ⟨_, rfl⟩
  have hti : (t : Int) < (R : Int) := by omega
  have hci : (c : Int) < (n : Int) := by omega
  have c1 := hM0.hd ht
  have c2 := hM0.cell ht hc
  have e2 : cst M t c = (d : Int) := by unfold cst; rw [Hd.out]
  rw [e2] at c2
  have hS : Hid (∀ W, Below w1.heap.size w1 W → (W.cell? ⟨w.heap.size, 0, none⟩ = some (.int .i64 (P : Int)) ∧ W.cell? ⟨w.heap.size, 1, none⟩ = some (.int .i64 (K : Int)) ∧ W.cell? ⟨w.heap.size, 2, none⟩ = some (.slice fa fn fc) ∧ W.cell? ⟨w.heap.size, 3, none⟩ = some (.int .i64 (n : Int)) ∧ W.cell? ⟨B t, c, none⟩ = some (.int .i64 (d : Int)))) := fun W hW => by
    rw [Hw1.out] at c2 hr0
    obtain ⟨y0, y1, y2, y3⟩ := (hr0.below hW).cells
    exact ⟨y0, y1, y2, y3, (hW.cell (World.block_lt_of_cell? _ _ c2)).trans c2⟩
  have HM0 : Hid (Mat w1 w0.heap.size g R n B cp (cst M)) := by rw [← Hw1.out]; exact hM0
  have HK0 : Hid (KpX (RwX R B) w w1) := by rw [← Hw1.out]; exact hk0
  have HR0 : Hid (RmB w1 w.heap.size (P : Int) (K : Int) (.slice fa fn fc) (n : Int)) := by rw [← Hw1.out]; exact hr0
  have CI := fun W (hW : Below w1.heap.size w1 W) => HInv.out W (Below.trans (HWB.out w1 HK0.out) (hW.mono (by have := (HWB.out w1 HK0.out).size; exact this)))
  have p1 : Below w1.heap.size w1 w1 := Below.refl _ _
  clear hfq hF hM hlt hM0 hk0 hr0 hbx hi1 He1 hB0 hnX hz e2
  go_enter Tryd.func83, Tryd.ntmps83
  go_wp2
  rw [Hw1.out]
  refine wp_region_noPanic ?_
  refine wp_region_held_drew (S := fun W => W.cell? ⟨w.heap.size, 0, none⟩ = some (.int .i64 (P : Int)) ∧ W.cell? ⟨w.heap.size, 1, none⟩ = some (.int .i64 (K : Int)) ∧ W.cell? ⟨w.heap.size, 2, none⟩ = some (.slice fa fn fc) ∧ W.cell? ⟨w.heap.size, 3, none⟩ = some (.int .i64 (n : Int)) ∧ W.cell? ⟨B t, c, none⟩ = some (.int .i64 (d : Int))) (by kernel_rfl) (hS.out _ p1.drew) (fun hSx => ?_)
  refine wpAnyH_take (i := 0) (v := .pointer (some ⟨w.heap.size, 0, none⟩)) rfl (by kernel_rfl) (by kernel_rfl) (by kernel_rfl) (fun _ _ _ h => h) (Or.inl ⟨by rfl, fun w' hSw => by (try dsimp only at hSw); obtain ⟨hs0, hs1, hs2, hs3, hs4⟩ := hSw; go_simp⟩) hSx ?_
  try simp only [Act.put, List.setIfInBounds_toArray]
  refine wpAnyH_take (i := 1) (v := .agg #[.int .i64 (P : Int), .int .i64 (K : Int), .slice fa fn fc]) rfl (by kernel_rfl) (by kernel_rfl) (by kernel_rfl) (fun _ _ _ h => h) (Or.inl ⟨by rfl, fun w' hSw => by (try dsimp only at hSw); obtain ⟨hs0, hs1, hs2, hs3, hs4⟩ := hSw; go_simp⟩) hSx ?_
  try simp only [Act.put]
  refine wpAnyH_take (i := 2) (v := .slice (some ⟨B t, 0, none⟩) n (cp t)) rfl (by kernel_rfl) (by kernel_rfl) (by kernel_rfl) (fun _ _ _ h => h) (Or.inl ⟨by rfl, fun w' hSw => by (try dsimp only at hSw); obtain ⟨hs0, hs1, hs2, hs3, hs4⟩ := hSw; go_simp⟩) hSx ?_
  try simp only [Act.put]
  refine wpAnyH_take (i := 3) (v := .int .i64 (c : Int)) rfl (by kernel_rfl) (by kernel_rfl) (by kernel_rfl) (fun _ _ _ h => h) (Or.inl ⟨by rfl, fun w' hSw => by (try dsimp only at hSw); obtain ⟨hs0, hs1, hs2, hs3, hs4⟩ := hSw; go_simp⟩) hSx ?_
  try simp only [Act.put]
  refine wpAnyH_take (i := 4) (v := .pointer (some ⟨B t, c, none⟩)) rfl (by kernel_rfl) (by kernel_rfl) (by kernel_rfl) (fun _ _ _ h => h) (Or.inl ⟨by rfl, fun w' hSw => by (try dsimp only at hSw); obtain ⟨hs0, hs1, hs2, hs3, hs4⟩ := hSw; go_simp⟩) hSx ?_
  try simp only [Act.put]
  refine wpAnyH_take (i := 5) (v := .int .i64 (d : Int)) rfl (by kernel_rfl) (by kernel_rfl) (by kernel_rfl) (fun _ _ _ h => h) (Or.inl ⟨by rfl, fun w' hSw => by (try dsimp only at hSw); obtain ⟨hs0, hs1, hs2, hs3, hs4⟩ := hSw; go_simp⟩) hSx ?_
  try simp only [Act.put]
  refine wpAnyH_ready (rs := [6]) (by kernel_rfl) (by simp) ?_
  refine (AllReadyH.cons rfl (fun J hJ => ?_) AllReadyH.nil)
  go_simp
  refine (CI _ p1.drew).mono ?_
  rintro e w2 ⟨rfl, bv1⟩
  have p2 : Below w1.heap.size w1 w2 := Below.next p1.drew bv1
  go_wp2_with fail
  refine hJ.out _ _ (hS.out _ p2) (fun hSx => ?_)
  clear hJ J
  try simp only [Act.put, List.setIfInBounds_toArray, List.set_cons_zero, List.set_cons_succ]
  refine wpAnyH_take (i := 7) (v := .tuple #[.int .i64 (e1 : Int), .int .i64 0]) rfl (by kernel_rfl) (by kernel_rfl) (by kernel_rfl) (fun _ _ _ h => h) (Or.inl ⟨by rfl, fun w' hSw => by (try dsimp only at hSw); obtain ⟨hs0, hs1, hs2, hs3, hs4⟩ := hSw; go_simp⟩) hSx ?_
  try simp only [Act.put, List.setIfInBounds_toArray]
  refine wpAnyH_take (i := 8) (v := .int .i64 (e1 : Int)) rfl (by kernel_rfl) (by kernel_rfl) (by kernel_rfl) (fun _ _ _ h => h) (Or.inl ⟨by rfl, fun w' hSw => by (try dsimp only at hSw); obtain ⟨hs0, hs1, hs2, hs3, hs4⟩ := hSw; go_simp⟩) hSx ?_
  try simp only [Act.put]
  refine wpAnyH_take (i := 9) (v := .int .i64 0) rfl (by kernel_rfl) (by kernel_rfl) (by kernel_rfl) (fun _ _ _ h => h) (Or.inl ⟨by rfl, fun w' hSw => by (try dsimp only at hSw); obtain ⟨hs0, hs1, hs2, hs3, hs4⟩ := hSw; go_simp⟩) hSx ?_
  try simp only [Act.put]
  refine wpAnyH_ready (rs := [10]) (by kernel_rfl) (by simp) ?_
  refine (AllReadyH.cons rfl (fun J hJ => ?_) AllReadyH.nil)
  go_simp
  refine hJ.out _ _ (hS.out _ p2) (fun hSx => ?_)
  clear hJ J
  try simp only [Act.put, List.setIfInBounds_toArray, List.set_cons_zero, List.set_cons_succ]
  refine wpAnyH_ready (rs := [11]) (by kernel_rfl) (by simp) ?_
  refine (AllReadyH.cons rfl (fun J hJ => ?_) AllReadyH.nil)
  go_simp
  refine hJ.out _ _ (hS.out _ p2) (fun hSx => ?_)
  clear hJ J
  try simp only [Act.put, List.setIfInBounds_toArray, List.set_cons_zero, List.set_cons_succ]
  refine wpAnyH_done (by kernel_rfl) ?_ _
  refine NoPanic.normal ?_
  have hM2 := HM0.out.below p2
  have hK2 : KpX (RwX R B) w w2 := HK0.out.trans (KpX.of p2)
  have hR2 := HR0.out.below p2
  clear hSx hS CI HInv p1 p2 bv1 HM0 HK0 HR0 c1 c2 Hd
  go_wp2
  go_loopw [11, 12, 34] (fun _ _ jv wr => ∃ j : Nat, jv = .int .i64 (j : Int) ∧ j ≤ n ∧ Mat wr w0.heap.size g R n B cp (cst (sclTo mu M t e1 j)) ∧ KpX (RwX R B) w wr ∧ RmB wr w.heap.size (P : Int) (K : Int) (.slice fa fn fc) (n : Int)) (fun _ _ jv _ => (n - intOf jv).toNat)
  case atStart => exact ⟨0, rfl, by omega, hM2.congr (fun i j _ _ => sclTo_zero mu M t e1 i j), hK2, hR2⟩
  case round =>
    clear hM2 hK2 hR2
    obtain ⟨j, rfl, hj, hM3, hK3, hR3⟩ := hrel
    by_cases hjn : j < n
    · have hji : (j : Int) < n := by omega
      have hdj : decide ((j : Int) < (n : Int)) = true := by simp; omega
      have hcx := hM3.cell ht hjn
      rw [sclTo_at] at hcx
      have hml := HLT.out t j ht hjn
      obtain ⟨x, Hx⟩ : ∃ x, Hid (M t j = x) := ⟨_, rfl⟩
      rw [Hx.out] at hcx hml
      obtain ⟨s, Hs⟩ : ∃ s, Hid (mu e1 x = s) := ⟨_, rfl⟩
      have C := HTim.out wr (HWB.out wr hK3) e1 x he1 hml s Hs
      obtain ⟨y0, y1, y2, y3⟩ := hR3.cells
      have HNext : Hid (∀ W, Below wr.heap.size wr W → W.cell? ⟨B t, j, none⟩ = some (.int .i64 (x : Int)) ∧ W.frozen? ⟨B t, j, none⟩ = false ∧ Mat (W.setCell ⟨B t, j, none⟩ (.int .i64 (s : Int))) w0.heap.size g R n B cp (cst (sclTo mu M t e1 (j + 1))) ∧ KpX (RwX R B) w (W.setCell ⟨B t, j, none⟩ (.int .i64 (s : Int))) ∧ RmB (W.setCell ⟨B t, j, none⟩ (.int .i64 (s : Int))) w.heap.size (P : Int) (K : Int) (.slice fa fn fc) (n : Int)) := fun W b => by
        have h4 := hM3.below b
        have k4 : KpX (RwX R B) w W := hK3.trans (KpX.of b)
        refine ⟨?_, h4.frozen ht j, (h4.set ht j (s : Int)).congr (fun r y _ _ => sclTo_succ (by rw [Hx.out]; exact Hs.out) r y), k4.set (show RwX R B (B t) from ⟨t, ht, rfl⟩) _, (heap_setCell_other W _ _ _ (fun e => HNX.out ⟨t, ht, e⟩)).trans (hR3.below b)⟩
        have := h4.cell ht hjn
        rw [sclTo_at, Hx.out] at this
        exact this
      clear hM3 hK3 hR3
      go_wp2_with (go_at_call 113; refine C.mono ?_; rintro e w3 ⟨rfl, b3⟩; obtain ⟨n1, n2, n3, n4, n5⟩ := HNext.out w3 b3; clear C)
      go_roundw
      case rel => exact ⟨j + 1, by go_num, by omega, n3, n4, n5⟩
      case measure => simp [intOf]; omega
    · have hdj : decide ((j : Int) < (n : Int)) = false := by simp; omega
      have HJn : Hid (j = n) := (by omega : j = n)
      obtain ⟨N, HN⟩ : ∃ N, Hid (sclF mu M t e1 = N) := ⟨_, rfl⟩
      have hM4 : Mat wr w0.heap.size g R n B cp (cst N) := hM3.congr (fun i x _ hx => by rw [HJn.out, ← HN.out]; exact sclTo_full i x hx)
      have HLN : Hid (∀ i j, i < R → j < n → N i j < q) := fun i j hi hj => by
        rw [← HN.out]
        unfold sclF
        split
        · exact HQm.out _ _ he1 (HLT.out t j ht hj)
        · exact HLT.out i j hi hj
      clear hM3
      go_wp2
      go_loopw [13, 14, 15, 16, 17, 49, 65] (fun _ _ _ _ _ iv _ wr => ∃ i : Nat, iv = .int .i64 (i : Int) ∧ i ≤ R ∧ Mat wr w0.heap.size g R n B cp (cst (clrTo ad mu ng N t c i 0)) ∧ KpX (RwX R B) w wr ∧ RmB wr w.heap.size (P : Int) (K : Int) (.slice fa fn fc) (n : Int)) (fun _ _ _ _ _ iv _ _ => (R - intOf iv).toNat)
      case atStart => exact ⟨0, rfl, by omega, hM4.congr (fun i j _ _ => clrTo_zero ad mu ng N t c i j), hK3, hR3⟩
      case round =>
        clear hM4 hK3 hR3
        obtain ⟨i, rfl, hi, hM5, hK5, hR5⟩ := hrel
        by_cases hiR : i < R
        · have hii : (i : Int) < R := by omega
          have hdi : decide ((i : Int) < (R : Int)) = true := by simp; omega
          have hci5 := hM5.hd hiR
          by_cases hit : i = t
          · have hie : ((i : Int) == (t : Int)) = true := by simp; omega
            have hM6 := hM5.congr (fun r x _ _ => clrTo_skip r x hit)
            clear hit hM5
            go_wp2
            go_roundw
            case rel => exact ⟨i + 1, by go_num, by omega, hM6, hK5, hR5⟩
            case measure => simp [intOf]; omega
          · have hie : ((i : Int) == (t : Int)) = false := by simp; omega
            have hcf := hM5.cell hiR hc
            rw [clrTo_at _ _ _ _ _ _ _ _ _ (Nat.zero_le _)] at hcf
            have hlf := HLN.out i c hiR hc
            obtain ⟨f, Hf⟩ : ∃ f, Hid (N i c = f) := ⟨_, rfl⟩
            rw [Hf.out] at hcf hlf
            obtain ⟨u, Hu⟩ : ∃ u, Hid (ng f = u) := ⟨_, rfl⟩
            have hlu : u < q := by rw [← Hu.out]; exact HQn.out f hlf
            have CL := fun W (hW : Below wr.heap.size wr W) => HLes.out W (HWB.out W (hK5.trans (KpX.of hW))) f hlf u Hu
            have hS : Hid (∀ W, Below wr.heap.size wr W → (W.cell? ⟨w.heap.size, 0, none⟩ = some (.int .i64 (P : Int)) ∧ W.cell? ⟨w.heap.size, 1, none⟩ = some (.int .i64 (K : Int)) ∧ W.cell? ⟨w.heap.size, 2, none⟩ = some (.slice fa fn fc) ∧ W.cell? ⟨w.heap.size, 3, none⟩ = some (.int .i64 (n : Int)) ∧ W.cell? ⟨B i, c, none⟩ = some (.int .i64 (f : Int)))) := fun W hW => by
              obtain ⟨y0, y1, y2, y3⟩ := (hR5.below hW).cells
              exact ⟨y0, y1, y2, y3, (hW.cell (World.block_lt_of_cell? _ _ hcf)).trans hcf⟩
            have HM5 : Hid (Mat wr w0.heap.size g R n B cp (cst (clrTo ad mu ng N t c i 0))) := hM5
            have HK5 : Hid (KpX (RwX R B) w wr) := hK5
            have HR5 : Hid (RmB wr w.heap.size (P : Int) (K : Int) (.slice fa fn fc) (n : Int)) := hR5
            have p1 : Below wr.heap.size wr wr := Below.refl _ _
            clear hM5 hK5 hR5 hcf
            go_wp2
            refine wp_region_noPanic ?_
            refine wp_region_held_drew (S := fun W => W.cell? ⟨w.heap.size, 0, none⟩ = some (.int .i64 (P : Int)) ∧ W.cell? ⟨w.heap.size, 1, none⟩ = some (.int .i64 (K : Int)) ∧ W.cell? ⟨w.heap.size, 2, none⟩ = some (.slice fa fn fc) ∧ W.cell? ⟨w.heap.size, 3, none⟩ = some (.int .i64 (n : Int)) ∧ W.cell? ⟨B i, c, none⟩ = some (.int .i64 (f : Int))) (by kernel_rfl) (hS.out _ p1.drew) (fun hSx => ?_)
            refine wpAnyH_take (i := 0) (v := .agg #[.int .i64 (P : Int), .int .i64 (K : Int), .slice fa fn fc, .int .i64 (n : Int)]) rfl (by kernel_rfl) (by kernel_rfl) (by kernel_rfl) (fun _ _ _ h => h) (Or.inl ⟨by rfl, fun w' hSw => by (try dsimp only at hSw); obtain ⟨hs0, hs1, hs2, hs3, hs4⟩ := hSw; go_simp⟩) hSx ?_
            try simp only [Act.put, List.setIfInBounds_toArray]
            refine wpAnyH_take (i := 1) (v := .slice (some ⟨B i, 0, none⟩) n (cp i)) rfl (by kernel_rfl) (by kernel_rfl) (by kernel_rfl) (fun _ _ _ h => h) (Or.inl ⟨by rfl, fun w' hSw => by (try dsimp only at hSw); obtain ⟨hs0, hs1, hs2, hs3, hs4⟩ := hSw; go_simp⟩) hSx ?_
            try simp only [Act.put]
            refine wpAnyH_take (i := 2) (v := .int .i64 (c : Int)) rfl (by kernel_rfl) (by kernel_rfl) (by kernel_rfl) (fun _ _ _ h => h) (Or.inl ⟨by rfl, fun w' hSw => by (try dsimp only at hSw); obtain ⟨hs0, hs1, hs2, hs3, hs4⟩ := hSw; go_simp⟩) hSx ?_
            try simp only [Act.put]
            refine wpAnyH_take (i := 3) (v := .pointer (some ⟨B i, c, none⟩)) rfl (by kernel_rfl) (by kernel_rfl) (by kernel_rfl) (fun _ _ _ h => h) (Or.inl ⟨by rfl, fun w' hSw => by (try dsimp only at hSw); obtain ⟨hs0, hs1, hs2, hs3, hs4⟩ := hSw; go_simp⟩) hSx ?_
            try simp only [Act.put]
            refine wpAnyH_take (i := 4) (v := .int .i64 (f : Int)) rfl (by kernel_rfl) (by kernel_rfl) (by kernel_rfl) (fun _ _ _ h => h) (Or.inl ⟨by rfl, fun w' hSw => by (try dsimp only at hSw); obtain ⟨hs0, hs1, hs2, hs3, hs4⟩ := hSw; go_simp⟩) hSx ?_
            try simp only [Act.put]
            refine wpAnyH_ready (rs := [5]) (by kernel_rfl) (by simp) ?_
            refine (AllReadyH.cons rfl (fun J hJ => ?_) AllReadyH.nil)
            go_simp
            refine (CL _ p1.drew).mono ?_
            rintro e w3 ⟨rfl, bv1⟩
            have p2 : Below wr.heap.size wr w3 := Below.next p1.drew bv1
            go_wp2_with fail
            refine hJ.out _ _ (hS.out _ p2) (fun hSx => ?_)
            clear hJ J
            try simp only [Act.put, List.setIfInBounds_toArray, List.set_cons_zero, List.set_cons_succ]
            refine wpAnyH_ready (rs := [6]) (by kernel_rfl) (by simp) ?_
            refine (AllReadyH.cons rfl (fun J hJ => ?_) AllReadyH.nil)
            go_simp
            refine hJ.out _ _ (hS.out _ p2) (fun hSx => ?_)
            clear hJ J
            try simp only [Act.put, List.setIfInBounds_toArray, List.set_cons_zero, List.set_cons_succ]
            refine wpAnyH_done (by kernel_rfl) ?_ _
            refine NoPanic.normal ?_
            have hM6 := HM5.out.below p2
            have hK6 : KpX (RwX R B) w w3 := HK5.out.trans (KpX.of p2)
            have hR6 := HR5.out.below p2
            clear hSx hS CL p1 p2 bv1 HM5 HK5 HR5
            go_wp2
            go_loopw [16, 17, 65] (fun _ _ jv wr => ∃ j : Nat, jv = .int .i64 (j : Int) ∧ j ≤ n ∧ Mat wr w0.heap.size g R n B cp (cst (clrTo ad mu ng N t c i j)) ∧ KpX (RwX R B) w wr ∧ RmB wr w.heap.size (P : Int) (K : Int) (.slice fa fn fc) (n : Int)) (fun _ _ jv _ => (n - intOf jv).toNat)
            case atStart => exact ⟨0, rfl, by omega, hM6, hK6, hR6⟩
            case round =>
              clear hM6 hK6 hR6
              obtain ⟨x, rfl, hx, hM7, hK7, hR7⟩ := hrel
              by_cases hxn : x < n
              · have hxi : (x : Int) < n := by omega
                have hdx : decide ((x : Int) < (n : Int)) = true := by simp; omega
                have k1 := hM7.cell hiR hxn
                rw [clrTo_at _ _ _ _ _ _ _ _ _ (Nat.le_refl _)] at k1
                have k2 := hM7.cell ht hxn
                rw [clrTo_lead] at k2
                have l1 := HLN.out i x hiR hxn
                have l2 := HLN.out t x ht hxn
                obtain ⟨y, Hy⟩ : ∃ y, Hid (N i x = y) := ⟨_, rfl⟩
                obtain ⟨z, Hz⟩ : ∃ z, Hid (N t x = z) := ⟨_, rfl⟩
                rw [Hy.out] at k1 l1
                rw [Hz.out] at k2 l2
                obtain ⟨s1, Hs1⟩ : ∃ s, Hid (mu u z = s) := ⟨_, rfl⟩
                have ls1 : s1 < q := by rw [← Hs1.out]; exact HQm.out _ _ hlu l2
                obtain ⟨s2, Hs2⟩ : ∃ s, Hid (ad y s1 = s) := ⟨_, rfl⟩
                have CT := fun W (hW : Below wr.heap.size wr W) => HTim.out W (HWB.out W (hK7.trans (KpX.of hW))) u z hlu l2 s1 Hs1
                have CA := fun W (hW : Below wr.heap.size wr W) => HPlu.out W (HWB.out W (hK7.trans (KpX.of hW))) y s1 l1 ls1 s2 Hs2
                have hS : Hid (∀ W, Below wr.heap.size wr W → (W.cell? ⟨w.heap.size, 0, none⟩ = some (.int .i64 (P : Int)) ∧ W.cell? ⟨w.heap.size, 1, none⟩ = some (.int .i64 (K : Int)) ∧ W.cell? ⟨w.heap.size, 2, none⟩ = some (.slice fa fn fc) ∧ W.cell? ⟨w.heap.size, 3, none⟩ = some (.int .i64 (n : Int)))) := fun W hW => (hR7.below hW).cells
                have HNext : Hid (∀ W, Below wr.heap.size wr W → W.cell? ⟨B i, x, none⟩ = some (.int .i64 (y : Int)) ∧ W.frozen? ⟨B i, x, none⟩ = false ∧ Mat (W.setCell ⟨B i, x, none⟩ (.int .i64 (s2 : Int))) w0.heap.size g R n B cp (cst (clrTo ad mu ng N t c i (x + 1))) ∧ KpX (RwX R B) w (W.setCell ⟨B i, x, none⟩ (.int .i64 (s2 : Int))) ∧ RmB (W.setCell ⟨B i, x, none⟩ (.int .i64 (s2 : Int))) w.heap.size (P : Int) (K : Int) (.slice fa fn fc) (n : Int)) := fun W b => by
                  have h4 := hM7.below b
                  have k4 : KpX (RwX R B) w W := hK7.trans (KpX.of b)
                  refine ⟨(b.cell (World.block_lt_of_cell? _ _ k1)).trans k1, h4.frozen hiR x, (h4.set hiR x (s2 : Int)).congr (fun r y' _ _ => clrTo_succ hit (by rw [Hy.out, Hf.out, Hu.out, Hz.out, Hs1.out]; exact Hs2.out) r y'), k4.set (show RwX R B (B i) from ⟨i, hiR, rfl⟩) _, (heap_setCell_other W _ _ _ (fun e => HNX.out ⟨i, hiR, e⟩)).trans (hR7.below b)⟩
                have p1 : Below wr.heap.size wr wr := Below.refl _ _
                clear hM7 hK7 hR7
                go_wp2
                refine wp_region_noPanic ?_
                refine wp_region_held_drew (S := fun W => W.cell? ⟨w.heap.size, 0, none⟩ = some (.int .i64 (P : Int)) ∧ W.cell? ⟨w.heap.size, 1, none⟩ = some (.int .i64 (K : Int)) ∧ W.cell? ⟨w.heap.size, 2, none⟩ = some (.slice fa fn fc) ∧ W.cell? ⟨w.heap.size, 3, none⟩ = some (.int .i64 (n : Int))) (by kernel_rfl) (hS.out _ p1.drew) (fun hSx => ?_)
                refine wpAnyH_take (i := 0) (v := .slice (some ⟨B i, 0, none⟩) n (cp i)) rfl (by kernel_rfl) (by kernel_rfl) (by kernel_rfl) (fun _ _ _ h => h) (Or.inl ⟨by rfl, fun w' hSw => by (try dsimp only at hSw); obtain ⟨hs0, hs1, hs2, hs3⟩ := hSw; go_simp⟩) hSx ?_
                try simp only [Act.put, List.setIfInBounds_toArray]
                refine wpAnyH_take (i := 1) (v := .int .i64 (x : Int)) rfl (by kernel_rfl) (by kernel_rfl) (by kernel_rfl) (fun _ _ _ h => h) (Or.inl ⟨by rfl, fun w' hSw => by (try dsimp only at hSw); obtain ⟨hs0, hs1, hs2, hs3⟩ := hSw; go_simp⟩) hSx ?_
                try simp only [Act.put]
                refine wpAnyH_take (i := 2) (v := .agg #[.int .i64 (P : Int), .int .i64 (K : Int), .slice fa fn fc, .int .i64 (n : Int)]) rfl (by kernel_rfl) (by kernel_rfl) (by kernel_rfl) (fun _ _ _ h => h) (Or.inl ⟨by rfl, fun w' hSw => by (try dsimp only at hSw); obtain ⟨hs0, hs1, hs2, hs3⟩ := hSw; go_simp⟩) hSx ?_
                try simp only [Act.put]
                refine wpAnyH_take (i := 3) (v := .slice (some ⟨B i, 0, none⟩) n (cp i)) rfl (by kernel_rfl) (by kernel_rfl) (by kernel_rfl) (fun _ _ _ h => h) (Or.inl ⟨by rfl, fun w' hSw => by (try dsimp only at hSw); obtain ⟨hs0, hs1, hs2, hs3⟩ := hSw; go_simp⟩) hSx ?_
                try simp only [Act.put]
                refine wpAnyH_take (i := 4) (v := .int .i64 (x : Int)) rfl (by kernel_rfl) (by kernel_rfl) (by kernel_rfl) (fun _ _ _ h => h) (Or.inl ⟨by rfl, fun w' hSw => by (try dsimp only at hSw); obtain ⟨hs0, hs1, hs2, hs3⟩ := hSw; go_simp⟩) hSx ?_
                try simp only [Act.put]
                refine wpAnyH_take (i := 5) (v := .pointer (some ⟨B i, x, none⟩)) rfl (by kernel_rfl) (by kernel_rfl) (by kernel_rfl) (fun _ _ _ h => h) (Or.inl ⟨by rfl, fun w' hSw => by (try dsimp only at hSw); obtain ⟨hs0, hs1, hs2, hs3⟩ := hSw; go_simp⟩) hSx ?_
                try simp only [Act.put]
                refine wpAnyH_take (i := 7) (v := .agg #[.int .i64 (P : Int), .int .i64 (K : Int), .slice fa fn fc, .int .i64 (n : Int)]) rfl (by kernel_rfl) (by kernel_rfl) (by kernel_rfl) (fun _ _ _ h => h) (Or.inl ⟨by rfl, fun w' hSw => by (try dsimp only at hSw); obtain ⟨hs0, hs1, hs2, hs3⟩ := hSw; go_simp⟩) hSx ?_
                try simp only [Act.put]
                refine wpAnyH_take (i := 8) (v := .int .i64 (u : Int)) rfl (by kernel_rfl) (by kernel_rfl) (by kernel_rfl) (fun _ _ _ h => h) (Or.inl ⟨by rfl, fun w' hSw => by (try dsimp only at hSw); obtain ⟨hs0, hs1, hs2, hs3⟩ := hSw; go_simp⟩) hSx ?_
                try simp only [Act.put]
                refine wpAnyH_take (i := 9) (v := .int .i64 (z : Int)) rfl (by kernel_rfl) (by kernel_rfl) (by kernel_rfl) (fun _ _ _ h => h) (Or.inl ⟨by rfl, fun w' hSw => by (try dsimp only at hSw); obtain ⟨hs0, hs1, hs2, hs3⟩ := hSw; go_simp⟩) hSx ?_
                try simp only [Act.put]
                refine wpAnyH_ready (rs := [6, 10]) (by kernel_rfl) (by simp) ?_
                refine (AllReadyH.cons rfl (fun J hJ => ?_) (AllReadyH.cons rfl (fun J hJ => ?_) AllReadyH.nil))
                · have m1 := (HNext.out _ p1.drew).1
                  go_simp
                  refine hJ.out _ _ (hS.out _ p1.drew) (fun hSx => ?_)
                  clear hJ J
                  try simp only [Act.put, List.setIfInBounds_toArray, List.set_cons_zero, List.set_cons_succ]
                  refine wpAnyH_ready (rs := [10]) (by kernel_rfl) (by simp) ?_
                  refine (AllReadyH.cons rfl (fun J hJ => ?_) AllReadyH.nil)
                  go_simp
                  refine (CT _ p1.drew).mono ?_
                  rintro e v1 ⟨rfl, b1⟩
                  have pb1 : Below wr.heap.size wr v1 := Below.next p1.drew b1
                  go_wp2_with fail
                  refine hJ.out _ _ (hS.out _ pb1) (fun hSx => ?_)
                  clear hJ J
                  try simp only [Act.put, List.setIfInBounds_toArray, List.set_cons_zero, List.set_cons_succ]
                  refine wpAnyH_ready (rs := [11]) (by kernel_rfl) (by simp) ?_
                  refine (AllReadyH.cons rfl (fun J hJ => ?_) AllReadyH.nil)
                  go_simp
                  refine (CA _ pb1).mono ?_
                  rintro e v2 ⟨rfl, b2⟩
                  have pb2 : Below wr.heap.size wr v2 := Below.next pb1 b2
                  go_wp2_with fail
                  refine hJ.out _ _ (hS.out _ pb2) (fun hSx => ?_)
                  clear hJ J
                  try simp only [Act.put, List.setIfInBounds_toArray, List.set_cons_zero, List.set_cons_succ]
                  refine wpAnyH_take (i := 12) (v := .pointer (some ⟨B i, x, none⟩)) rfl (by kernel_rfl) (by kernel_rfl) (by kernel_rfl) (fun _ _ _ h => h) (Or.inl ⟨by rfl, fun w' hSw => by (try dsimp only at hSw); obtain ⟨hs0, hs1, hs2, hs3⟩ := hSw; go_simp⟩) hSx ?_
                  try simp only [Act.put, List.setIfInBounds_toArray]
                  obtain ⟨n1, n2, n3, n4, n5⟩ := HNext.out _ pb2
                  refine wpAnyH_ready (rs := [13]) (by kernel_rfl) (by simp) ?_
                  refine (AllReadyH.cons rfl (fun J hJ => ?_) AllReadyH.nil)
                  go_simp
                  refine hJ.out _ _ (n5.cells) (fun hSx => ?_)
                  clear hJ J
                  try simp only [Act.put, List.setIfInBounds_toArray, List.set_cons_zero, List.set_cons_succ]
                  refine wpAnyH_done (by kernel_rfl) ?_ _
                  refine NoPanic.normal ?_
                  clear hSx hS CT CA
                  go_wp2
                  go_roundw
                  case rel => exact ⟨x + 1, by go_num, by omega, n3, n4, n5⟩
                  case measure => simp [intOf]; omega
                · go_simp
                  refine (CT _ p1.drew).mono ?_
                  rintro e v1 ⟨rfl, b1⟩
                  have pb1 : Below wr.heap.size wr v1 := Below.next p1.drew b1
                  go_wp2_with fail
                  refine hJ.out _ _ (hS.out _ pb1) (fun hSx => ?_)
                  clear hJ J
                  try simp only [Act.put, List.setIfInBounds_toArray, List.set_cons_zero, List.set_cons_succ]
                  refine wpAnyH_ready (rs := [6]) (by kernel_rfl) (by simp) ?_
                  refine (AllReadyH.cons rfl (fun J hJ => ?_) AllReadyH.nil)
                  have m1 := (HNext.out _ pb1).1
                  go_simp
                  refine hJ.out _ _ (hS.out _ pb1) (fun hSx => ?_)
                  clear hJ J
                  try simp only [Act.put, List.setIfInBounds_toArray, List.set_cons_zero, List.set_cons_succ]
                  refine wpAnyH_ready (rs := [11]) (by kernel_rfl) (by simp) ?_
                  refine (AllReadyH.cons rfl (fun J hJ => ?_) AllReadyH.nil)
                  go_simp
                  refine (CA _ pb1).mono ?_
                  rintro e v2 ⟨rfl, b2⟩
                  have pb2 : Below wr.heap.size wr v2 := Below.next pb1 b2
                  go_wp2_with fail
                  refine hJ.out _ _ (hS.out _ pb2) (fun hSx => ?_)
                  clear hJ J
                  try simp only [Act.put, List.setIfInBounds_toArray, List.set_cons_zero, List.set_cons_succ]
                  refine wpAnyH_take (i := 12) (v := .pointer (some ⟨B i, x, none⟩)) rfl (by kernel_rfl) (by kernel_rfl) (by kernel_rfl) (fun _ _ _ h => h) (Or.inl ⟨by rfl, fun w' hSw => by (try dsimp only at hSw); obtain ⟨hs0, hs1, hs2, hs3⟩ := hSw; go_simp⟩) hSx ?_
                  try simp only [Act.put, List.setIfInBounds_toArray]
                  obtain ⟨n1, n2, n3, n4, n5⟩ := HNext.out _ pb2
                  refine wpAnyH_ready (rs := [13]) (by kernel_rfl) (by simp) ?_
                  refine (AllReadyH.cons rfl (fun J hJ => ?_) AllReadyH.nil)
                  go_simp
                  refine hJ.out _ _ (n5.cells) (fun hSx => ?_)
                  clear hJ J
                  try simp only [Act.put, List.setIfInBounds_toArray, List.set_cons_zero, List.set_cons_succ]
                  refine wpAnyH_done (by kernel_rfl) ?_ _
                  refine NoPanic.normal ?_
                  clear hSx hS CT CA
                  go_wp2
                  go_roundw
                  case rel => exact ⟨x + 1, by go_num, by omega, n3, n4, n5⟩
                  case measure => simp [intOf]; omega
              · have hdx : decide ((x : Int) < (n : Int)) = false := by simp; omega
                have HXn : Hid (x = n) := (by omega : x = n)
                have hM8 : Mat wr w0.heap.size g R n B cp (cst (clrTo ad mu ng N t c (i + 1) 0)) := hM7.congr (fun r y _ hy => by rw [HXn.out]; exact clrTo_row r y hy)
                clear hM7
                go_wp2
                go_roundw
                case rel => exact ⟨i + 1, by go_num, by omega, hM8, hK7, hR7⟩
                case measure => simp [intOf]; omega
        · have hdi : decide ((i : Int) < (R : Int)) = false := by simp; omega
          have HIR : Hid (i = R) := (by omega : i = R)
          have hM9 : Mat wr w0.heap.size g R n B cp (cst (clrF ad mu ng N t c)) := hM5.congr (fun r y hr _ => by rw [HIR.out]; exact clrTo_full r y hr)
          rw [← HN.out] at hM9
          clear hM5
          go_wp2
          go_end0
          exact ⟨rfl, ⟨e1, he1, HI1.out, hM9⟩, hK5⟩
end Go.Proofs.YtjfjdidibglhaabDoor

/- The walk of the room's basis. -/
namespace Go.Proofs.YtjfjdidibglhaabDoor
open Go.RowKit

theorem run_makeR (n : Nat) (hn : n ≤ 100000) (w : World) : (Instr.makeSlice 25 (.int .i64 (n : Int)) (.int .i64 (n : Int))).run Tryd.prog w = .ok (.slice (some ⟨w.heap.size, 0, none⟩) n n) (w.alloc (.cells (madeCells #[.slice none 0 0] n) 22)) := by
  obtain ⟨i4, hi, hz0, hz1, hz2⟩ := info36
  have h := run_make (P := Tryd.prog) w 25 22 i4 (.slice none 0 0) undR hi hz0 .i64 .i64 n n (by omega) (by omega) (by rw [hz2]; omega) (by omega)
  simpa [hz1, Value.cells] using h
/-- A block of R slices, of which some are rows of one's own. -/
def Rm (w : World) (g R : Nat) : Prop := ∃ cur, w.heap[g]? = some (.cells cur 22 (0, 0)) ∧ cur.size = R
theorem Rm.lt {w : World} {g R : Nat} (h : Rm w g R) : g < w.heap.size := by obtain ⟨c, h, _⟩ := h; exact (Array.getElem?_eq_some_iff.1 h).1
theorem Rm.below {w w' : World} {g R : Nat} (h : Rm w g R) (b : Below w.heap.size w w') : Rm w' g R := by
  have := h.lt
  obtain ⟨c, h, e⟩ := h
  exact ⟨c, (b.block g this).trans h, e⟩
theorem Rm.set {w : World} {g R : Nat} (h : Rm w g R) (i : Nat) (u : Value) : Rm (w.setCell ⟨g, i, none⟩ u) g R := by
  obtain ⟨c, h, e⟩ := h
  exact ⟨_, heap_setCell_same w g i _ _ _ h, by simpa using e⟩
theorem Rm.cell {w : World} {g R : Nat} (h : Rm w g R) {i : Nat} (hi : i < R) : ∃ u, w.cell? ⟨g, i, none⟩ = some u := by
  obtain ⟨c, h, e⟩ := h
  refine ⟨c[i]'(by omega), ?_⟩
  rw [cell_of_row w g i _ _ _ h]
  simp [show i < c.size by omega]
theorem Rm.frozen {w : World} {g R : Nat} (h : Rm w g R) (i : Nat) : w.frozen? ⟨g, i, none⟩ = false := by
  obtain ⟨c, h, e⟩ := h
  exact frozen_of_row w g i _ _ h
theorem rm_new (w : World) (R : Nat) : Rm (w.alloc (.cells (madeCells #[.slice none 0 0] R) 22)) w.heap.size R := ⟨_, heap_alloc_new w _, by rw [size_madeCells]⟩
theorem Mat.zer {w : World} {base g R n : Nat} {A : Nat → Nat → Int} (h : Rm w g R) : Mat w base g 0 n (fun _ => 0) (fun _ => 0) A := by
  obtain ⟨c, h, e⟩ := h
  exact ⟨⟨c, h, fun i hi => by omega⟩, fun i hi => by omega, fun i j hi => by omega, fun i hi => by omega⟩
/-- One row more. -/
theorem Mat.more {w : World} {base g R n i b cap : Nat} {B cp : Nat → Nat} {A : Nat → Nat → Int} (h : Mat w base g i n B cp A) (hr : Rm w g R) (hi : i < R) (ho : Own w b n (A i)) (hb : base ≤ b) (hg : b ≠ g) (hn : ∀ j, j < i → B j ≠ b) :
    Mat (w.setCell ⟨g, i, none⟩ (.slice (some ⟨b, 0, none⟩) n cap)) base g (i + 1) n (fun k => if k = i then b else B k) (fun k => if k = i then cap else cp k) A := by
  obtain ⟨cur, h1, h2⟩ := h.out
  obtain ⟨cur', h1', hs⟩ := hr
  rw [h1] at h1'
  obtain rfl : cur = cur' := by simpa using h1'
  refine ⟨⟨_, heap_setCell_same _ _ _ _ _ _ h1, fun k hk => ?_⟩, fun k hk => ?_, fun k m hk hm e => ?_, fun k hk => ?_⟩
  · rw [Array.getElem?_setIfInBounds]
    by_cases e : i = k
    · subst e
      rw [if_pos rfl, if_pos (by omega)]
      simp
    · rw [if_neg e, h2 k (by omega)]
      simp [Ne.symm e]
  · show Own _ (if k = i then b else B k) n (A k)
    by_cases e : k = i
    · rw [if_pos e, e]
      exact ho.other _ _ hg
    · rw [if_neg e]
      exact (h.row k (by omega)).other _ _ (h.lo k (by omega)).2
  · have e' : (if k = i then b else B k) = (if m = i then b else B m) := e
    by_cases e1 : k = i
    · by_cases e2 : m = i
      · omega
      · rw [if_pos e1, if_neg e2] at e'
        exact absurd e'.symm (hn m (by omega))
    · by_cases e2 : m = i
      · rw [if_neg e1, if_pos e2] at e'
        exact absurd e' (hn k (by omega))
      · rw [if_neg e1, if_neg e2] at e'
        exact h.sep k m (by omega) (by omega) e'
  · show base ≤ (if k = i then b else B k) ∧ (if k = i then b else B k) ≠ g
    by_cases e : k = i
    · rw [if_pos e]; exact ⟨hb, hg⟩
    · rw [if_neg e]; exact h.lo k (by omega)
/-- The rows from t on, as they are read. -/
def rwZ (m n t : Nat) (M : Nat → Nat → Nat) : List (List Int) := (List.range m).map fun i => (List.range n).map (cst M (t + i))
theorem rwZ_len (m n t : Nat) (M : Nat → Nat → Nat) : (rwZ m n t M).length = m := by simp [rwZ]
theorem rwZ_at {m n t i : Nat} {M : Nat → Nat → Nat} {l : List Int} (h : (rwZ m n t M)[i]? = some l) : i < m ∧ l = (List.range n).map (cst M (t + i)) := by
  have hi : i < m := by have := (List.getElem?_eq_some_iff.1 h).1; simpa [rwZ] using this
  refine ⟨hi, ?_⟩
  have : (rwZ m n t M)[i]? = some ((List.range n).map (cst M (t + i))) := by simp [rwZ, hi]
  rw [this] at h
  exact (Option.some.inj h).symm
theorem Mat.rwAt {w : World} {base g R n t m : Nat} {B cp : Nat → Nat} {M : Nat → Nat → Nat} (h : Mat w base g R n B cp (cst M)) (hm : t + m ≤ R) (cc : Nat) : Rw w (.slice (some ⟨g, t, none⟩) m cc) (rwZ m n t M) := by
  refine ⟨_, cc, by rw [rwZ_len], fun i l hl => ?_⟩
  obtain ⟨hi, rfl⟩ := rwZ_at hl
  refine ⟨g, t, _, rfl, h.hd (show t + i < R by omega), ?_⟩
  exact (h.row (t + i) (by omega)).sl _
theorem rwZ_zero (m n : Nat) (M : Nat → Nat → Nat) : rwZ m n 0 M = toZ (rwF m n M) := by
  unfold rwZ toZ rwF ofF cst
  rw [List.map_map]
  refine List.map_congr_left fun i _ => ?_
  rw [Function.comp, List.map_map]
  refine List.map_congr_left fun j _ => ?_
  simp
theorem rwZ_col {m n t i c : Nat} {M : Nat → Nat → Nat} {l : List Int} (h : (rwZ m n t M)[i]? = some l) (hc : c < n) : l.getD c 0 = (M (t + i) c : Int) := by
  obtain ⟨hi, rfl⟩ := rwZ_at h
  simp [hc, cst]
theorem swp_cst (M : Nat → Nat → Nat) (a k i j : Nat) : swpI (cst M) a k i j = cst (swpF M a k) i j := by
  unfold swpI cst swpF
  split
  · rfl
  · split <;> rfl
/-- The rows of a list, as a table. -/
def tbl (S : List (List Nat)) : Nat → Nat → Nat := fun i j => (S.getD i []).getD j 0
theorem tbl_rows {q n : Nat} {S : List (List Nat)} (h : Rws q n S) : rwF S.length n (tbl S) = S := by
  refine List.ext_getElem (by simp [rwF]) fun i h1 h2 => ?_
  have : (rwF S.length n (tbl S))[i] = ofF n (tbl S i) := by simp [rwF]
  rw [this]
  unfold tbl
  have e : S.getD i [] = S[i] := by simp [List.getD_eq_getElem?_getD, h2]
  rw [e]
  exact ofF_getD _ (h _ (List.getElem_mem h2)).len
theorem tbl_lt {q n : Nat} {S : List (List Nat)} (h : Rws q n S) (hq : 0 < q) : ∀ i j, i < S.length → j < n → tbl S i j < q := fun i j hi _ => by
  unfold tbl
  have e : S.getD i [] = S[i] := by simp [List.getD_eq_getElem?_getD, hi]
  rw [e]
  exact (h _ (List.getElem_mem hi)).at hq j
/-- The row's block is none of a room's. -/
theorem Mat.apart {w : World} {base g R n b : Nat} {B cp : Nat → Nat} {A : Nat → Nat → Int} {p k m : Int} {v : Value} (h : Mat w base g R n B cp A) (hr : RmB w b p k v m) : ¬ RwX R B b := fun ⟨i, hi, e⟩ => by
  obtain ⟨cur, h1, _⟩ := h.row i hi
  rw [← e, hr] at h1
  simp at h1
/-- What basis answers. -/
def BaA (q : Nat) (ad mu : Nat → Nat → Nat) (n : Nat) (S : List (List Nat)) (e : Ending) (w' : World) : Prop := ∃ x ls, e = .returned x ∧ BasIs q ad mu n (Spn q ad mu n S) ls ∧ Rw w' x (toZ ls)
set_option maxRecDepth 100000 in
set_option maxHeartbeats 16000000 in
theorem basis_any (P K n : Nat) (l : List Int) (v u : Value) (S : List (List Nat)) (w : World) (hF : Fld P K l v w) (hu : Rw w u (toZ S)) (hS : Rws (P ^ K) n S) (h1 : 1 ≤ n) (hn : n ≤ 6) (hR : S.length ≤ 24) :
    Calls Tryd.prog 39 #[rmV P K v n, u] w fun e w' => BaA (P ^ K) (adF P K) (muF P K l) n S e w' ∧ Below w.heap.size w w' := by
  have hfq := hF.fqr
  obtain ⟨R, HR⟩ : ∃ R, Hid (S.length = R) := ⟨_, rfl⟩
  have hzl : (toZ S).length = R := by rw [← HR.out]; simp [toZ]
  rw [HR.out] at hR
  have hmk := run_makeR R (by omega)
  have HU : Hid (∀ W, Below w.heap.size w W → Rw W u (toZ S)) := fun W b => hu.below b
  have HAt : Hid (∀ i, i < R → ∃ s, (toZ S)[i]? = some (s.map Int.ofNat) ∧ Vc (P ^ K) n s ∧ ∀ j, j < n → (s.map Int.ofNat).getD j 0 = cst (tbl S) i j) := fun i hi => by
    have hi' : i < S.length := by rw [HR.out]; exact hi
    have hv := hS _ (List.getElem_mem hi')
    refine ⟨S[i], by simp [toZ, hi'], hv, fun j hj => ?_⟩
    have hj' : j < S[i].length := by rw [hv.len]; exact hj
    simp [cst, tbl, List.getD_eq_getElem?_getD, hi', hj']
  have HG0 : Hid (Gz (P ^ K) n (adF P K) (muF P K l) R S (tbl S) 0 0 (fun _ => 0)) := by
    have h := Gz.start (q := P ^ K) n (adF P K) (muF P K l) (tbl_lt hS hfq.pos)
    rw [tbl_rows hS, HR.out] at h
    exact h
  have HCl : Hid (∀ (W : World) (g t c co : Nat) (M : Nat → Nat → Nat) (B cp : Nat → Nat), Below w.heap.size w W → Mat W w.heap.size g R n B cp (cst M) → w.heap.size ≤ g → (∀ i j, i < R → j < n → M i j < P ^ K) → t < R → c < n → M t c ≠ 0 → Calls Tryd.prog 83 #[rmV P K v n, .slice (some ⟨g, 0, none⟩) R co, .int .i64 (t : Int), .int .i64 (c : Int)] W fun e w' => e = .returned (.tuple #[]) ∧
      (∃ e1, e1 < P ^ K ∧ muF P K l e1 (M t c) = 1 ∧ Mat w' w.heap.size g R n B cp (cst (clrF (adF P K) (muF P K l) (ngF P K) (sclF (muF P K l) M t e1) t c))) ∧ KpX (RwX R B) W w') := fun W g t c co M B cp b hM hg hlt ht hc hz => clear_any P K n R t c g co l v M B cp w W hF b hM hg hlt ht hc hn hR hz
  have HFQ : Hid (FqR (P ^ K) (adF P K) (muF P K l) (ngF P K)) := hfq
  obtain ⟨mu, Hmu⟩ : ∃ mu, Hid (muF P K l = mu) := ⟨_, rfl⟩
  obtain ⟨ad, Had⟩ : ∃ ad, Hid (adF P K = ad) := ⟨_, rfl⟩
  obtain ⟨ng, Hng⟩ : ∃ ng, Hid (ngF P K = ng) := ⟨_, rfl⟩
  obtain ⟨q, Hq⟩ : ∃ q, Hid (P ^ K = q) := ⟨_, rfl⟩
  rw [Hmu.out, Had.out, Hq.out] at HG0 ⊢
  rw [Hmu.out, Had.out, Hng.out, Hq.out] at HCl HFQ
  rw [Hq.out] at HAt
  obtain ⟨fa, fn, fc, rfl⟩ : ∃ fa fn fc, v = .slice fa fn fc := by obtain ⟨a, c, e, _⟩ := hF.sl; exact ⟨a, _, c, e⟩
  obtain ⟨a, ac, rfl, _⟩ := id hu
  rw [hzl] at HU ⊢
  have b1 := balloc w (.cells #[.int .i64 (P : Int), .int .i64 (K : Int), .slice fa fn fc, .int .i64 (n : Int)] 53)
  have b2 := balloc (w.alloc (.cells #[.int .i64 (P : Int), .int .i64 (K : Int), .slice fa fn fc, .int .i64 (n : Int)] 53)) (.cells (madeCells #[.slice none 0 0] R) 22)
  have hr0 : RmB (w.alloc (.cells #[.int .i64 (P : Int), .int .i64 (K : Int), .slice fa fn fc, .int .i64 (n : Int)] 53)) w.heap.size (P : Int) (K : Int) (.slice fa fn fc) (n : Int) := heap_alloc_new w _
  have hs1 : (w.alloc (.cells #[.int .i64 (P : Int), .int .i64 (K : Int), .slice fa fn fc, .int .i64 (n : Int)] 53)).heap.size = w.heap.size + 1 := by simp
  have hm0 := rm_new (w.alloc (.cells #[.int .i64 (P : Int), .int .i64 (K : Int), .slice fa fn fc, .int .i64 (n : Int)] 53)) R
  rw [hs1] at hm0
  have hr1 := hr0.below b2
  obtain ⟨w1, Hw1⟩ : ∃ w1, Hid ((w.alloc (.cells #[.int .i64 (P : Int), .int .i64 (K : Int), .slice fa fn fc, .int .i64 (n : Int)] 53)).alloc (.cells (madeCells #[.slice none 0 0] R) 22) = w1) := ⟨_, rfl⟩
  have b3 : Below w.heap.size w w1 := by rw [← Hw1.out]; exact Below.next b1 b2
  rw [Hw1.out] at hm0 hr1
  have HM0 : Hid (∃ B cp, Mat w1 w.heap.size (w.heap.size + 1) 0 n B cp (cst (tbl S))) := ⟨_, _, Mat.zer hm0⟩
  have HRm0 : Hid (Rm w1 (w.heap.size + 1) R) := hm0
  have HRr1 : Hid (RmB w1 w.heap.size (P : Int) (K : Int) (.slice fa fn fc) (n : Int)) := hr1
  have HB3 : Hid (Below w.heap.size w w1) := b3
  clear hF hu hS hfq b1 b2 hr0 hm0 hr1 b3
  go_enter Tryd.func39, Tryd.ntmps39
  go_wp2
  rw [Hw1.out]
  go_loopw [6, 7, 16] (fun _ _ iv wr => ∃ i : Nat, iv = .int .i64 (i : Int) ∧ i ≤ R ∧ Hid (∃ B cp, Mat wr w.heap.size (w.heap.size + 1) i n B cp (cst (tbl S))) ∧ Rm wr (w.heap.size + 1) R ∧ RmB wr w.heap.size (P : Int) (K : Int) (.slice fa fn fc) (n : Int) ∧ Below w.heap.size w wr) (fun _ _ iv _ => (R - intOf iv).toNat)
  case atStart => exact ⟨0, rfl, by omega, HM0, HRm0.out, HRr1.out, HB3.out⟩
  case round =>
    clear HM0 HRm0 HRr1 HB3 hmk
    obtain ⟨i, rfl, hi, HM1, hrm, hrr, hB⟩ := hrel
    by_cases hlt : i < R
    · have hii : (i : Int) < (R : Int) := by omega
      have hdi : decide ((i : Int) < (R : Int)) = true := by simp; omega
      obtain ⟨s, hsi, hsv, hsc⟩ := HAt.out i hlt
      obtain ⟨a', ac', e', hr'⟩ := HU.out wr hB
      obtain ⟨rfl, rfl⟩ : a = a' ∧ ac = ac' := by
        simp only [Value.slice.injEq] at e'
        exact ⟨e'.1, e'.2.2⟩
      obtain ⟨b, off, x, rfl, hcj, hs⟩ := hr' i _ hsi
      have hsl : (s.map Int.ofNat).length = n := by rw [List.length_map, hsv.len]
      have C := CloneI_any (s.map Int.ofNat) x wr hs (by omega) (by omega)
      rw [hsl] at C
      obtain ⟨xa, xc, rfl, _⟩ := id hs
      rw [hsl] at C hcj
      have HNext : Hid (∀ W y, Below wr.heap.size wr W → W.ownsRow wr.heap.size 3 1 y n ((s.map Int.ofNat).map (Value.int .i64)) → ∃ bb cap, y = .slice (some ⟨bb, 0, none⟩) n cap ∧ (∃ u, W.cell? ⟨w.heap.size + 1, i, none⟩ = some u) ∧ W.frozen? ⟨w.heap.size + 1, i, none⟩ = false ∧
          Hid (∃ B cp, Mat (W.setCell ⟨w.heap.size + 1, i, none⟩ y) w.heap.size (w.heap.size + 1) (i + 1) n B cp (cst (tbl S))) ∧ Rm (W.setCell ⟨w.heap.size + 1, i, none⟩ y) (w.heap.size + 1) R ∧ RmB (W.setCell ⟨w.heap.size + 1, i, none⟩ y) w.heap.size (P : Int) (K : Int) (.slice fa fn fc) (n : Int) ∧ Below w.heap.size w (W.setCell ⟨w.heap.size + 1, i, none⟩ y)) := fun W y bW ho => by
        obtain ⟨bb, cap, rfl, hbb, hown⟩ := Own.of ho (by omega)
        have hrm' := hrm.below bW
        have hws := hB.size
        have hgl := hrm.lt
        obtain ⟨B, cp, hM⟩ := HM1.out
        refine ⟨bb, cap, rfl, hrm'.cell hlt, hrm'.frozen i, ⟨_, _, (hM.below bW).more hrm' hlt (hown.congr fun j hj => hsc j hj) (by omega) (by omega) (fun j hj e => ?_)⟩, hrm'.set _ _, (heap_setCell_other W _ _ _ (by simp)).trans (hrr.below bW), (Below.next hB bW).setCell (p := ⟨w.heap.size + 1, i, none⟩) (by simp) _⟩
        have := (hM.row j hj).lt
        omega
      clear hr' hs hsi hsc hrm HM1 e'
      obtain ⟨y0, y1, y2, y3⟩ := hrr.cells
      clear hrr
      go_wp2_with (go_at_call 80; refine C.mono ?_; rintro e w2 ⟨y, rfl, ho, b4⟩; obtain ⟨bb, cap, rfl, ⟨uu, n1⟩, n2, n3, n4, n5, n6⟩ := HNext.out w2 y b4 ho; clear C)
      go_roundw
      case rel => exact ⟨i + 1, by go_num, by omega, n3, n4, n5, n6⟩
      case measure => simp [intOf]; omega
    · have hdi : decide ((i : Int) < (R : Int)) = false := by simp; omega
      obtain rfl : R = i := by omega
      obtain ⟨B0, cp0, hM⟩ := HM1.out
      obtain ⟨y0, y1, y2, y3⟩ := hrr.cells
      clear HM1 HU HAt
      go_wp2
      go_loopw [8, 9, 10, 29] (fun fv _ _ cv wr => ∃ (c t : Nat) (B cp : Nat → Nat) (M : Nat → Nat → Nat) (ld : Nat → Nat), cv = .int .i64 (c : Int) ∧ fv = .int .i64 (t : Int) ∧ c ≤ n ∧ t ≤ R ∧ Mat wr w.heap.size (w.heap.size + 1) R n B cp (cst M) ∧ Hid (Gz q n ad mu R S M c t ld) ∧ RmB wr w.heap.size (P : Int) (K : Int) (.slice fa fn fc) (n : Int) ∧ Below w.heap.size w wr) (fun _ _ _ cv _ => (n - intOf cv).toNat)
      case atStart => exact ⟨0, 0, B0, cp0, tbl S, fun _ => 0, rfl, rfl, by omega, by omega, hM, HG0, hrr, hB⟩
      case round =>
        clear hM hrr hB HG0 hrm y0 y1 y2 y3
        obtain ⟨c, t, B, cp, M, ld, rfl, rfl, hc, ht, hM, HG, hrr, hB⟩ := hrel
        by_cases hlt2 : c < n
        · have hci : (c : Int) < (n : Int) := by omega
          have hdc : decide ((c : Int) < (n : Int)) = true := by simp; omega
          have hti : (t : Int) ≤ (R : Int) := by omega
          have HW : Hid (∀ W, W = wr.alloc (.cells #[.int .i64 (c : Int)] 3) → Mat W w.heap.size (w.heap.size + 1) R n B cp (cst M) ∧ RmB W w.heap.size (P : Int) (K : Int) (.slice fa fn fc) (n : Int) ∧ Below w.heap.size w W ∧ W.cell? ⟨wr.heap.size, 0, none⟩ = some (.int .i64 (c : Int))) := fun W e => by
            have b := balloc wr (.cells #[.int .i64 (c : Int)] 3)
            subst e
            exact ⟨hM.below b, hrr.below b, Below.next hB b, by rw [cell_of_row _ _ _ _ _ _ (heap_alloc_new wr _)]; rfl⟩
          have HMr : Hid (∀ W, W = wr.alloc (.cells #[.int .i64 (c : Int)] 3) → ∀ m cc, t + m ≤ R → Calls Tryd.prog 81 #[.slice (some ⟨w.heap.size + 1, t, none⟩) m cc, .func (.func 82) #[] #[.pointer (some ⟨wr.heap.size, 0, none⟩)]] W fun e w' => (∃ z : Int, e = .returned (.int .i64 z) ∧ IfIs (rwZ m n t M) (fun r => r.getD c 0 != 0) z) ∧ w' = W) := fun W e m cc hm => by
            obtain ⟨h1, h2, h3, h4⟩ := HW.out W e
            refine IndexR_any c wr.heap.size (rwZ m n t M) _ W h4 (h1.rwAt hm cc) (by rw [rwZ_len]; omega) fun r hr => ?_
            obtain ⟨i, hi, e⟩ := List.mem_map.1 hr
            rw [← e]
            simp
            omega
          obtain ⟨y0, y1, y2, y3⟩ := hrr.cells
          have HGlt : Hid (∀ i j, i < R → j < n → M i j < q) := HG.out.lt
          have hgl := hM.glt
          clear hM hrr
          by_cases htR : t < R
          · have htiR : (t : Int) < (R : Int) := by omega
            have C := HMr.out _ rfl (R - t) (R - t) (by omega)
            clear HMr
            go_wp2_with (go_at_call 81; refine C.mono ?_; rintro e w2 ⟨⟨z, rfl, hz⟩, hw2⟩; obtain ⟨hM2, hrr2, hB2, cb2⟩ := HW.out w2 hw2; clear C HW hw2 y0 y1 y2 y3; rcases hz with ⟨rfl, hz⟩ | ⟨j, lj, rfl, hz1, hz2, hz3⟩)
            · have HG2 : Hid (Gz q n ad mu R S M (c + 1) t ld) := HG.out.skip fun r h3 h4 => by
                have h5 := hz (r - t) ((List.range n).map (cst M (t + (r - t)))) (by simp [rwZ, show r - t < R - t by omega])
                have h6 : ((List.range n).map (cst M (t + (r - t)))).getD c 0 = (M r c : Int) := by
                  rw [show t + (r - t) = r by omega]
                  simp [hlt2, cst]
                rw [h6] at h5
                simpa using h5
              refine ⟨⟨c + 1, t, B, cp, M, ld, by go_num, rfl, by omega, ht, hM2, HG2, hrr2, hB2⟩, ?_⟩
              simp [intOf]; omega
            · obtain ⟨k, Hk⟩ : ∃ k, Hid (t + j = k) := ⟨_, rfl⟩
              obtain ⟨hjm, _⟩ := rwZ_at hz1
              have hkR : k < R := by have := Hk.out; omega
              have htk : t ≤ k := by have := Hk.out; omega
              have hMk : M k c ≠ 0 := by
                have h := rwZ_col hz1 hlt2
                rw [Hk.out] at h
                rw [h] at hz2
                simpa using hz2
              have HMk : Hid (M k c ≠ 0) := hMk
              have hkj : (t : Int) + (j : Int) = (k : Int) := by have := Hk.out; omega
              have hwk : IntKind.i64.wrap (k : Int) = (k : Int) := by rw [IntKind.wrap_i64]; omega
              have hkRi : (k : Int) < (R : Int) := by omega
              have c1 := hM2.hd htR
              have c2 := hM2.hd hkR
              have f1 := hM2.hdf t
              have f2 := hM2.hdf k
              have c3 : ∃ u, (w2.setCell ⟨w.heap.size + 1, t, none⟩ (.slice (some ⟨B k, 0, none⟩) n (cp k))).cell? ⟨w.heap.size + 1, k, none⟩ = some u := cell?_setCell_some (by exact c2)
              have f3 : (w2.setCell ⟨w.heap.size + 1, t, none⟩ (.slice (some ⟨B k, 0, none⟩) n (cp k))).frozen? ⟨w.heap.size + 1, k, none⟩ = false := by
                obtain ⟨cur, h7, _⟩ := hM2.out
                exact frozen_of_row _ _ _ _ _ (heap_setCell_same _ _ _ _ _ _ h7)
              have HSw : Hid (Mat (((w2.setCell ⟨w.heap.size + 1, t, none⟩ (.slice (some ⟨B k, 0, none⟩) n (cp k))).setCell ⟨w.heap.size + 1, k, none⟩ (.slice (some ⟨B t, 0, none⟩) n (cp t))).drew) w.heap.size (w.heap.size + 1) R n (fun i => if i = t then B k else if i = k then B t else B i) (fun i => if i = t then cp k else if i = k then cp t else cp i) (cst (swpF M t k)) ∧ RmB (((w2.setCell ⟨w.heap.size + 1, t, none⟩ (.slice (some ⟨B k, 0, none⟩) n (cp k))).setCell ⟨w.heap.size + 1, k, none⟩ (.slice (some ⟨B t, 0, none⟩) n (cp t))).drew) w.heap.size (P : Int) (K : Int) (.slice fa fn fc) (n : Int) ∧ Below w.heap.size w (((w2.setCell ⟨w.heap.size + 1, t, none⟩ (.slice (some ⟨B k, 0, none⟩) n (cp k))).setCell ⟨w.heap.size + 1, k, none⟩ (.slice (some ⟨B t, 0, none⟩) n (cp t))).drew) ∧ World.cell? (((w2.setCell ⟨w.heap.size + 1, t, none⟩ (.slice (some ⟨B k, 0, none⟩) n (cp k))).setCell ⟨w.heap.size + 1, k, none⟩ (.slice (some ⟨B t, 0, none⟩) n (cp t))).drew) ⟨wr.heap.size, 0, none⟩ = some (.int .i64 (c : Int))) :=
                ⟨((hM2.swap htR hkR).congr fun i j _ _ => swp_cst M t k i j).drew, (heap_setCell_other _ _ _ _ (by simp)).trans ((heap_setCell_other _ _ _ _ (by simp)).trans hrr2), ((hB2.setCell (p := ⟨w.heap.size + 1, t, none⟩) (by simp) _).setCell (p := ⟨w.heap.size + 1, k, none⟩) (by simp) _).drew,
                  (World.cell?_setCell_far _ _ _ _ (by simp; omega)).trans ((World.cell?_setCell_far _ _ _ _ (by simp; omega)).trans cb2)⟩
              have HGs : Hid (Gz q n ad mu R S (swpF M t k) c t ld) := HG.out.swap htk hkR
              have HMt : Hid (swpF M t k t c ≠ 0) := by
                show swpF M t k t c ≠ 0
                unfold swpF
                rw [if_pos rfl]
                exact HMk.out
              obtain ⟨uu, c3⟩ := c3
              clear hz1 hz2 hz3 hMk hjm
              refine wp_region_noPanic ?_
              refine wp_region_held_drew (S := fun _ => True) (by kernel_rfl) trivial (fun hSx => ?_)
              refine wpAnyH_take (i := 0) (v := .slice (some ⟨w.heap.size + 1, 0, none⟩) R R) rfl (by kernel_rfl) (by kernel_rfl) (by kernel_rfl) (fun _ _ _ h => h) (Or.inl ⟨by rfl, fun w' hSw => by (try dsimp only at hSw); skip; go_simp⟩) hSx ?_
              try simp only [Act.put, List.setIfInBounds_toArray]
              refine wpAnyH_take (i := 1) (v := .int .i64 (t : Int)) rfl (by kernel_rfl) (by kernel_rfl) (by kernel_rfl) (fun _ _ _ h => h) (Or.inl ⟨by rfl, fun w' hSw => by (try dsimp only at hSw); skip; go_simp⟩) hSx ?_
              try simp only [Act.put]
              refine wpAnyH_take (i := 2) (v := .slice (some ⟨w.heap.size + 1, 0, none⟩) R R) rfl (by kernel_rfl) (by kernel_rfl) (by kernel_rfl) (fun _ _ _ h => h) (Or.inl ⟨by rfl, fun w' hSw => by (try dsimp only at hSw); skip; go_simp⟩) hSx ?_
              try simp only [Act.put]
              refine wpAnyH_take (i := 3) (v := .int .i64 (t : Int)) rfl (by kernel_rfl) (by kernel_rfl) (by kernel_rfl) (fun _ _ _ h => h) (Or.inl ⟨by rfl, fun w' hSw => by (try dsimp only at hSw); skip; go_simp⟩) hSx ?_
              try simp only [Act.put]
              refine wpAnyH_take (i := 4) (v := .int .i64 (j : Int)) rfl (by kernel_rfl) (by kernel_rfl) (by kernel_rfl) (fun _ _ _ h => h) (Or.inl ⟨by rfl, fun w' hSw => by (try dsimp only at hSw); skip; go_simp⟩) hSx ?_
              try simp only [Act.put]
              refine wpAnyH_take (i := 5) (v := .int .i64 (k : Int)) rfl (by kernel_rfl) (by kernel_rfl) (by kernel_rfl) (fun _ _ _ h => h) (Or.inl ⟨by rfl, fun w' hSw => by (try dsimp only at hSw); skip; go_simp⟩) hSx ?_
              try simp only [Act.put]
              refine wpAnyH_take (i := 6) (v := .slice (some ⟨w.heap.size + 1, 0, none⟩) R R) rfl (by kernel_rfl) (by kernel_rfl) (by kernel_rfl) (fun _ _ _ h => h) (Or.inl ⟨by rfl, fun w' hSw => by (try dsimp only at hSw); skip; go_simp⟩) hSx ?_
              try simp only [Act.put]
              refine wpAnyH_take (i := 7) (v := .int .i64 (t : Int)) rfl (by kernel_rfl) (by kernel_rfl) (by kernel_rfl) (fun _ _ _ h => h) (Or.inl ⟨by rfl, fun w' hSw => by (try dsimp only at hSw); skip; go_simp⟩) hSx ?_
              try simp only [Act.put]
              refine wpAnyH_take (i := 8) (v := .int .i64 (j : Int)) rfl (by kernel_rfl) (by kernel_rfl) (by kernel_rfl) (fun _ _ _ h => h) (Or.inl ⟨by rfl, fun w' hSw => by (try dsimp only at hSw); skip; go_simp⟩) hSx ?_
              try simp only [Act.put]
              refine wpAnyH_take (i := 9) (v := .int .i64 (k : Int)) rfl (by kernel_rfl) (by kernel_rfl) (by kernel_rfl) (fun _ _ _ h => h) (Or.inl ⟨by rfl, fun w' hSw => by (try dsimp only at hSw); skip; go_simp⟩) hSx ?_
              try simp only [Act.put]
              refine wpAnyH_take (i := 10) (v := .pointer (some ⟨w.heap.size + 1, k, none⟩)) rfl (by kernel_rfl) (by kernel_rfl) (by kernel_rfl) (fun _ _ _ h => h) (Or.inl ⟨by rfl, fun w' hSw => by (try dsimp only at hSw); skip; go_simp⟩) hSx ?_
              try simp only [Act.put]
              refine wpAnyH_take (i := 12) (v := .slice (some ⟨w.heap.size + 1, 0, none⟩) R R) rfl (by kernel_rfl) (by kernel_rfl) (by kernel_rfl) (fun _ _ _ h => h) (Or.inl ⟨by rfl, fun w' hSw => by (try dsimp only at hSw); skip; go_simp⟩) hSx ?_
              try simp only [Act.put]
              refine wpAnyH_take (i := 13) (v := .int .i64 (t : Int)) rfl (by kernel_rfl) (by kernel_rfl) (by kernel_rfl) (fun _ _ _ h => h) (Or.inl ⟨by rfl, fun w' hSw => by (try dsimp only at hSw); skip; go_simp⟩) hSx ?_
              try simp only [Act.put]
              refine wpAnyH_take (i := 14) (v := .pointer (some ⟨w.heap.size + 1, t, none⟩)) rfl (by kernel_rfl) (by kernel_rfl) (by kernel_rfl) (fun _ _ _ h => h) (Or.inl ⟨by rfl, fun w' hSw => by (try dsimp only at hSw); skip; go_simp⟩) hSx ?_
              try simp only [Act.put]
              refine wpAnyH_ready (rs := [11, 15]) (by kernel_rfl) (by simp) ?_
              refine (AllReadyH.cons rfl (fun J hJ => ?_) (AllReadyH.cons rfl (fun J hJ => ?_) AllReadyH.nil))
              · go_simp
                refine hJ.out _ _ (trivial) (fun hSx => ?_)
                clear hJ J
                try simp only [Act.put, List.setIfInBounds_toArray, List.set_cons_zero, List.set_cons_succ]
                refine wpAnyH_ready (rs := [15]) (by kernel_rfl) (by simp) ?_
                refine (AllReadyH.cons rfl (fun J hJ => ?_) AllReadyH.nil)
                go_simp
                refine hJ.out _ _ (trivial) (fun hSx => ?_)
                clear hJ J
                try simp only [Act.put, List.setIfInBounds_toArray, List.set_cons_zero, List.set_cons_succ]
                refine wpAnyH_take (i := 16) (v := .pointer (some ⟨w.heap.size + 1, t, none⟩)) rfl (by kernel_rfl) (by kernel_rfl) (by kernel_rfl) (fun _ _ _ h => h) (Or.inl ⟨by rfl, fun w' hSw => by (try dsimp only at hSw); skip; go_simp⟩) hSx ?_
                try simp only [Act.put, List.setIfInBounds_toArray]
                refine wpAnyH_ready (rs := [17]) (by kernel_rfl) (by simp) ?_
                refine (AllReadyH.cons rfl (fun J hJ => ?_) AllReadyH.nil)
                go_simp
                refine hJ.out _ _ (trivial) (fun hSx => ?_)
                clear hJ J
                try simp only [Act.put, List.setIfInBounds_toArray, List.set_cons_zero, List.set_cons_succ]
                refine wpAnyH_take (i := 18) (v := .pointer (some ⟨w.heap.size + 1, k, none⟩)) rfl (by kernel_rfl) (by kernel_rfl) (by kernel_rfl) (fun _ _ _ h => h) (Or.inl ⟨by rfl, fun w' hSw => by (try dsimp only at hSw); skip; go_simp⟩) hSx ?_
                try simp only [Act.put, List.setIfInBounds_toArray]
                refine wpAnyH_ready (rs := [19]) (by kernel_rfl) (by simp) ?_
                refine (AllReadyH.cons rfl (fun J hJ => ?_) AllReadyH.nil)
                go_simp
                refine hJ.out _ _ (trivial) (fun hSx => ?_)
                clear hJ J
                try simp only [Act.put, List.setIfInBounds_toArray, List.set_cons_zero, List.set_cons_succ]
                refine wpAnyH_done (by kernel_rfl) ?_ _
                refine NoPanic.normal ?_
                obtain ⟨hM3, hrr3, hB3, cb3⟩ := HSw.out
                have CC := HCl.out _ _ t c R (swpF M t k) _ _ hB3 hM3 (by omega) HGs.out.lt htR hlt2 HMt.out
                have hnX := hM3.apart hrr3
                clear HSw c1 c2 c3 f1 f2 f3 hM2 hrr2 hB2 cb2 hSx HG HGlt
                revert hM3 hrr3 hB3 cb3 CC hnX
                generalize (((w2.setCell ⟨w.heap.size + 1, t, none⟩ (.slice (some ⟨B k, 0, none⟩) n (cp k))).setCell ⟨w.heap.size + 1, k, none⟩ (.slice (some ⟨B t, 0, none⟩) n (cp t))).drew) = w3
                generalize (fun i => if i = t then B k else if i = k then B t else B i) = B3
                generalize (fun i => if i = t then cp k else if i = k then cp t else cp i) = cp3
                intro hM3 hrr3 hB3 cb3 CC hnX
                obtain ⟨z0, z1, z2, z3⟩ := hrr3.cells
                go_wp2_with (go_at_call 83; refine CC.mono ?_; rintro e w4 ⟨rfl, ⟨e1, he1, hi1, hM4⟩, hK4⟩; clear CC)
                refine ⟨⟨c + 1, t + 1, B3, cp3, _, fun i => if i = t then c else ld i, by go_num, by go_num, by omega, by omega, hM4, HGs.out.clear HFQ.out hlt2 htR he1 hi1, hK4.rm hrr3 hnX, KpX.below hB3 hK4 (fun i ⟨j, hj, e⟩ => by rw [e]; exact (hM3.lo j hj).1) hB3.size⟩, ?_⟩
                simp [intOf]; omega
              · go_simp
                refine hJ.out _ _ (trivial) (fun hSx => ?_)
                clear hJ J
                try simp only [Act.put, List.setIfInBounds_toArray, List.set_cons_zero, List.set_cons_succ]
                refine wpAnyH_ready (rs := [11]) (by kernel_rfl) (by simp) ?_
                refine (AllReadyH.cons rfl (fun J hJ => ?_) AllReadyH.nil)
                go_simp
                refine hJ.out _ _ (trivial) (fun hSx => ?_)
                clear hJ J
                try simp only [Act.put, List.setIfInBounds_toArray, List.set_cons_zero, List.set_cons_succ]
                refine wpAnyH_take (i := 16) (v := .pointer (some ⟨w.heap.size + 1, t, none⟩)) rfl (by kernel_rfl) (by kernel_rfl) (by kernel_rfl) (fun _ _ _ h => h) (Or.inl ⟨by rfl, fun w' hSw => by (try dsimp only at hSw); skip; go_simp⟩) hSx ?_
                try simp only [Act.put, List.setIfInBounds_toArray]
                refine wpAnyH_ready (rs := [17]) (by kernel_rfl) (by simp) ?_
                refine (AllReadyH.cons rfl (fun J hJ => ?_) AllReadyH.nil)
                go_simp
                refine hJ.out _ _ (trivial) (fun hSx => ?_)
                clear hJ J
                try simp only [Act.put, List.setIfInBounds_toArray, List.set_cons_zero, List.set_cons_succ]
                refine wpAnyH_take (i := 18) (v := .pointer (some ⟨w.heap.size + 1, k, none⟩)) rfl (by kernel_rfl) (by kernel_rfl) (by kernel_rfl) (fun _ _ _ h => h) (Or.inl ⟨by rfl, fun w' hSw => by (try dsimp only at hSw); skip; go_simp⟩) hSx ?_
                try simp only [Act.put, List.setIfInBounds_toArray]
                refine wpAnyH_ready (rs := [19]) (by kernel_rfl) (by simp) ?_
                refine (AllReadyH.cons rfl (fun J hJ => ?_) AllReadyH.nil)
                go_simp
                refine hJ.out _ _ (trivial) (fun hSx => ?_)
                clear hJ J
                try simp only [Act.put, List.setIfInBounds_toArray, List.set_cons_zero, List.set_cons_succ]
                refine wpAnyH_done (by kernel_rfl) ?_ _
                refine NoPanic.normal ?_
                obtain ⟨hM3, hrr3, hB3, cb3⟩ := HSw.out
                have CC := HCl.out _ _ t c R (swpF M t k) _ _ hB3 hM3 (by omega) HGs.out.lt htR hlt2 HMt.out
                have hnX := hM3.apart hrr3
                clear HSw c1 c2 c3 f1 f2 f3 hM2 hrr2 hB2 cb2 hSx HG HGlt
                revert hM3 hrr3 hB3 cb3 CC hnX
                generalize (((w2.setCell ⟨w.heap.size + 1, t, none⟩ (.slice (some ⟨B k, 0, none⟩) n (cp k))).setCell ⟨w.heap.size + 1, k, none⟩ (.slice (some ⟨B t, 0, none⟩) n (cp t))).drew) = w3
                generalize (fun i => if i = t then B k else if i = k then B t else B i) = B3
                generalize (fun i => if i = t then cp k else if i = k then cp t else cp i) = cp3
                intro hM3 hrr3 hB3 cb3 CC hnX
                obtain ⟨z0, z1, z2, z3⟩ := hrr3.cells
                go_wp2_with (go_at_call 83; refine CC.mono ?_; rintro e w4 ⟨rfl, ⟨e1, he1, hi1, hM4⟩, hK4⟩; clear CC)
                refine ⟨⟨c + 1, t + 1, B3, cp3, _, fun i => if i = t then c else ld i, by go_num, by go_num, by omega, by omega, hM4, HGs.out.clear HFQ.out hlt2 htR he1 hi1, hK4.rm hrr3 hnX, KpX.below hB3 hK4 (fun i ⟨j, hj, e⟩ => by rw [e]; exact (hM3.lo j hj).1) hB3.size⟩, ?_⟩
                simp [intOf]; omega
          · obtain rfl : R = t := by omega
            have C : Calls Tryd.prog 81 #[.slice (some ⟨w.heap.size + 1, 0, none⟩) 0 0, .func (.func 82) #[] #[.pointer (some ⟨wr.heap.size, 0, none⟩)]] (wr.alloc (.cells #[.int .i64 (c : Int)] 3)) fun e w' => (∃ z : Int, e = .returned (.int .i64 z) ∧ IfIs [] (fun r => r.getD c 0 != 0) z) ∧ w' = wr.alloc (.cells #[.int .i64 (c : Int)] 3) :=
              IndexR_any c wr.heap.size [] _ _ (HW.out _ rfl).2.2.2 ⟨_, 0, rfl, fun i l h => by simp at h⟩ (by simp) (fun l h => by simp at h)
            have HG2 : Hid (Gz q n ad mu R S M (c + 1) R ld) := HG.out.skip fun r h3 h4 => by omega
            clear HMr
            go_wp2_with (go_at_call 81; refine C.mono ?_; rintro e w2 ⟨⟨z, rfl, hz⟩, hw2⟩; obtain ⟨hM2, hrr2, hB2, cb2⟩ := HW.out w2 hw2; clear C HW hw2 y0 y1 y2 y3; obtain rfl : z = -1 := (hz.elim (fun h => h.1) (fun ⟨_, _, _, h, _⟩ => by simp at h)))
            go_roundw
            case rel => exact ⟨c + 1, R, B, cp, M, ld, by go_num, rfl, by omega, ht, hM2, HG2, hrr2, hB2⟩
            case measure => simp [intOf]; omega
        · have hdc : decide ((c : Int) < (n : Int)) = false := by simp; omega
          obtain rfl : n = c := by omega
          have HD : Hid (BasIs q ad mu n (Spn q ad mu n S) (rwF t n M)) := HG.out.done HFQ.out
          have hti : (t : Int) ≤ (R : Int) := by omega
          have HRW : Hid (Rw wr (.slice (some ⟨w.heap.size + 1, 0, none⟩) t R) (toZ (rwF t n M))) := by
            rw [← rwZ_zero]
            exact hM.rwAt (by omega) R
          clear hM HG
          go_wp2
          go_ret
          exact ⟨⟨_, _, rfl, HD.out, HRW.out⟩, hB⟩
end Go.Proofs.YtjfjdidibglhaabDoor

namespace Go.Proofs.YtjfjdidibglhaabDoor
open Go.RowKit

/-- A row of one's own, whole. -/
def OwnN (w : World) (g n : Nat) (f : Nat → Nat) : Prop := ∃ cur, w.heap[g]? = some (.cells cur 3 (0, 0)) ∧ cur.size = n ∧ ∀ j, j < n → cur[j]? = some (.int .i64 (f j : Int))
theorem OwnN.lt {w : World} {g n : Nat} {f : Nat → Nat} (h : OwnN w g n f) : g < w.heap.size := by obtain ⟨c, h, _⟩ := h; exact (Array.getElem?_eq_some_iff.1 h).1
theorem OwnN.below {w w' : World} {g n : Nat} {f : Nat → Nat} (h : OwnN w g n f) (b : Below w.heap.size w w') : OwnN w' g n f := by
  have := h.lt
  obtain ⟨c, h, e⟩ := h
  exact ⟨c, (b.block g this).trans h, e⟩
theorem OwnN.cell {w : World} {g n : Nat} {f : Nat → Nat} (h : OwnN w g n f) {j : Nat} (hj : j < n) : w.cell? ⟨g, j, none⟩ = some (.int .i64 (f j : Int)) := by
  obtain ⟨c, h, _, e⟩ := h
  rw [cell_of_row w g j _ _ _ h, e j hj]
theorem OwnN.frozen {w : World} {g n : Nat} {f : Nat → Nat} (h : OwnN w g n f) (j : Nat) : w.frozen? ⟨g, j, none⟩ = false := by
  obtain ⟨c, h, _⟩ := h
  exact frozen_of_row w g j _ _ h
theorem OwnN.set {w : World} {g n : Nat} {f f' : Nat → Nat} (h : OwnN w g n f) (i v : Nat) (e : ∀ j, j < n → (if j = i then v else f j) = f' j) : OwnN (w.setCell ⟨g, i, none⟩ (.int .i64 (v : Int))) g n f' := by
  obtain ⟨c, h, hs, hc⟩ := h
  refine ⟨_, heap_setCell_same w g i _ _ _ h, by simpa using hs, fun j hj => ?_⟩
  rw [Array.getElem?_setIfInBounds, ← e j hj]
  by_cases e1 : i = j
  · subst e1; rw [if_pos rfl, if_pos (by omega), if_pos rfl]
  · rw [if_neg e1, if_neg (fun h => e1 h.symm), hc j hj]
theorem OwnN.drew {w : World} {g n : Nat} {f : Nat → Nat} (h : OwnN w g n f) : OwnN w.drew g n f := h
theorem own_new (w : World) (n : Nat) : OwnN (w.alloc (.cells (madeCells #[.int .i64 0] n) 3)) w.heap.size n (fun _ => 0) := by
  refine ⟨_, heap_alloc_new w _, by rw [size_madeCells], fun j hj => ?_⟩
  have hs : j < (madeCells #[Value.int .i64 0] n).size := by rw [size_madeCells]; exact hj
  rw [Array.getElem?_eq_getElem hs]
  simp [madeCells, Nat.mod_one]
theorem OwnN.orow {w : World} {g n base : Nat} {f : Nat → Nat} (h : OwnN w g n f) (hb : base ≤ g) (hn : n ≤ 99) : ORow w base (.slice (some ⟨g, 0, none⟩) n n) (ofF n f) := by
  obtain ⟨c, h, hs, hc⟩ := h
  have hl : (ofF n f).length = n := by simp [ofF]
  unfold ORow
  rw [hl]
  refine ⟨by simp [ofF], .inr ⟨g, n, c, rfl, hb, h, Nat.le_refl _, by unfold maxLen; omega, by omega, ?_⟩⟩
  refine List.ext_getElem? fun j => ?_
  by_cases hj : j < n
  · rw [List.getElem?_take, if_pos (by omega), Array.getElem?_toList, hc j hj]
    simp [ofF, hj]
  · rw [List.getElem?_take, if_neg (by omega), List.getElem?_eq_none (by simp [ofF]; omega)]
theorem run_makeN (n : Nat) (hn : n ≤ 100000) (w : World) : (Instr.makeSlice 22 (.int .i64 (n : Int)) (.int .i64 (n : Int))).run Tryd.prog w = .ok (.slice (some ⟨w.heap.size, 0, none⟩) n n) (w.alloc (.cells (madeCells #[.int .i64 0] n) 3)) := by
  obtain ⟨i4, hi, hz0, hz1, hz2⟩ := info3
  have h := run_make (P := Tryd.prog) w 22 3 i4 (.int .i64 0) und22 hi hz0 .i64 .i64 n n (by omega) (by omega) (by rw [hz2]; omega) (by omega)
  simpa [hz1, Value.cells] using h
/-- The row on its way. -/
def nrT (ng : Nat → Nat) (c : Nat) (X : List (List Nat)) (i : Nat) : Nat → Nat := (X.take i).foldl (nrUp ng c) fun j => if j = c then 1 else 0
theorem nrT_next {ng : Nat → Nat} {c : Nat} {X : List (List Nat)} {i : Nat} {r : List Nat} (h : X[i]? = some r) : nrT ng c X (i + 1) = nrUp ng c (nrT ng c X i) r := by
  unfold nrT
  rw [List.take_add_one, h, Option.toList_some, List.foldl_append]
  rfl
theorem nrT_all (ng : Nat → Nat) (c : Nat) (X : List (List Nat)) : nrT ng c X X.length = nrF ng c X := by unfold nrT nrF; rw [List.take_length]
set_option maxRecDepth 100000 in
set_option maxHeartbeats 16000000 in
theorem normalRow_any (P K n c : Nat) (l : List Int) (v u : Value) (X : List (List Nat)) (w : World) (hF : Fld P K l v w) (hu : Rw w u (toZ X)) (hX : Rref (P ^ K) n X) (hc : c < n) (hn : n ≤ 6) (hR : X.length ≤ 99) :
    Calls Tryd.prog 52 #[rmV P K v n, u, .int .i64 (c : Int)] w fun e w' => ∃ x, e = .returned x ∧ ORow w' w.heap.size x (ofF n (nrF (ngF P K) c X)) ∧ Below w.heap.size w w' := by
  have hfq := hF.fqr
  obtain ⟨R, HR⟩ : ∃ R, Hid (X.length = R) := ⟨_, rfl⟩
  have hzl : (toZ X).length = R := by rw [← HR.out]; simp [toZ]
  have HE : Hid (nrT (ngF P K) c X R = nrF (ngF P K) c X) := by show _ = _; rw [← HR.out]; exact nrT_all _ c X
  rw [HR.out] at hR
  have hmk := run_makeN n (by omega)
  have HU : Hid (∀ W, Below w.heap.size w W → Rw W u (toZ X)) := fun W b => hu.below b
  have HAt : Hid (∀ i, i < R → ∃ s, X[i]? = some s ∧ (toZ X)[i]? = some (s.map Int.ofNat) ∧ Vc (P ^ K) n s ∧ ldV s < n) := fun i hi => by
    have hi' : i < X.length := by rw [HR.out]; exact hi
    have hm := List.getElem_mem hi'
    exact ⟨X[i], by simp, by simp [toZ, hi'], hX.rws _ hm, (hX.one _ hm).1⟩
  have HLes : Hid (∀ W, Below w.heap.size w W → ∀ a, a < P ^ K → ∀ s, Hid (ngF P K a = s) → Calls Tryd.prog 91 #[rmV P K v n, .int .i64 (a : Int)] W fun e w' => e = .returned (.int .i64 (s : Int)) ∧ Below W.heap.size W w') := fun W b x hx s hs => rless_any P K n x l v W (hF.below b) hx s hs
  obtain ⟨ng, Hng⟩ : ∃ ng, Hid (ngF P K = ng) := ⟨_, rfl⟩
  obtain ⟨q, Hq⟩ : ∃ q, Hid (P ^ K = q) := ⟨_, rfl⟩
  have hq0 : 0 < q := by rw [← Hq.out]; exact hfq.pos
  rw [Hng.out] at HLes HE ⊢
  rw [Hq.out] at HLes HAt
  obtain ⟨fa, fn, fc, rfl⟩ : ∃ fa fn fc, v = .slice fa fn fc := by obtain ⟨a, c, e, _⟩ := hF.sl; exact ⟨a, _, c, e⟩
  obtain ⟨a, ac, rfl, _⟩ := id hu
  rw [hzl] at HU ⊢
  have b1 := balloc w (.cells #[.int .i64 (P : Int), .int .i64 (K : Int), .slice fa fn fc, .int .i64 (n : Int)] 53)
  have b2 := balloc (w.alloc (.cells #[.int .i64 (P : Int), .int .i64 (K : Int), .slice fa fn fc, .int .i64 (n : Int)] 53)) (.cells (madeCells #[.int .i64 0] n) 3)
  have hr0 : RmB (w.alloc (.cells #[.int .i64 (P : Int), .int .i64 (K : Int), .slice fa fn fc, .int .i64 (n : Int)] 53)) w.heap.size (P : Int) (K : Int) (.slice fa fn fc) (n : Int) := heap_alloc_new w _
  have hs1 : (w.alloc (.cells #[.int .i64 (P : Int), .int .i64 (K : Int), .slice fa fn fc, .int .i64 (n : Int)] 53)).heap.size = w.heap.size + 1 := by simp
  have hm0 := own_new (w.alloc (.cells #[.int .i64 (P : Int), .int .i64 (K : Int), .slice fa fn fc, .int .i64 (n : Int)] 53)) n
  rw [hs1] at hm0
  have hr1 := hr0.below b2
  have hcc := hm0.cell hc
  have hcf := hm0.frozen c
  have hm1 := hm0.set (f' := nrT ng c X 0) c 1 (fun j _ => by unfold nrT; rfl)
  have hr2 := (heap_setCell_other _ (⟨w.heap.size + 1, c, none⟩ : Addr) _ (.int .i64 (1 : Int)) (by simp)).trans hr1
  have b3 := (Below.next b1 b2).setCell (p := ⟨w.heap.size + 1, c, none⟩) (by simp) (.int .i64 (1 : Int))
  rw [World.setCell_alloc_at _ _ _ _ _ hs1.symm] at hm1 hr2 b3
  obtain ⟨w1, Hw1⟩ : ∃ w1, Hid ((w.alloc (.cells #[.int .i64 (P : Int), .int .i64 (K : Int), .slice fa fn fc, .int .i64 (n : Int)] 53)).alloc (.cells ((madeCells #[.int .i64 0] n).setIfInBounds c (.int .i64 1)) 3) = w1) := ⟨_, rfl⟩
  have HM1 : Hid (OwnN w1 (w.heap.size + 1) n (nrT ng c X 0)) := by rw [← Hw1.out]; exact hm1
  have HR1 : Hid (RmB w1 w.heap.size (P : Int) (K : Int) (.slice fa fn fc) (n : Int)) := by rw [← Hw1.out]; exact hr2
  have HB1 : Hid (Below w.heap.size w w1) := by rw [← Hw1.out]; exact b3
  have hci : (c : Int) < (n : Int) := by omega
  obtain ⟨x0, x1, x2, x3⟩ := hr0.cells
  clear hF hu hX hfq b1 b2 b3 hr0 hm0 hr1 hm1 hr2
  go_enter Tryd.func52, Tryd.ntmps52
  go_wp2
  rw [Hw1.out]
  go_loopw [9, 18] (fun _ iv wr => ∃ i : Nat, iv = .int .i64 (i : Int) ∧ i ≤ R ∧ OwnN wr (w.heap.size + 1) n (nrT ng c X i) ∧ RmB wr w.heap.size (P : Int) (K : Int) (.slice fa fn fc) (n : Int) ∧ Below w.heap.size w wr) (fun _ iv _ => (R - intOf iv).toNat)
  case atStart => exact ⟨0, rfl, by omega, HM1.out, HR1.out, HB1.out⟩
  case round =>
    clear HM1 HR1 HB1 hmk x0 x1 x2 x3 hcc hcf
    obtain ⟨i, rfl, hi, hm, hrr, hB⟩ := hrel
    by_cases hlt : i < R
    · have hii : (i : Int) < (R : Int) := by omega
      have hdi : decide ((i : Int) < (R : Int)) = true := by simp; omega
      obtain ⟨s, hXi, hsi, hsv, hsl⟩ := HAt.out i hlt
      obtain ⟨a', ac', e', hr'⟩ := HU.out w (Below.refl _ _)
      obtain ⟨rfl, rfl⟩ : a = a' ∧ ac = ac' := by
        simp only [Value.slice.injEq] at e'
        exact ⟨e'.1, e'.2.2⟩
      obtain ⟨b, off, x, rfl, hcj0, hs0⟩ := hr' i _ hsi
      have hcj := (hB.cell (World.block_lt_of_cell? _ _ hcj0)).trans hcj0
      have hs := hs0.below hB
      have hll : (s.map Int.ofNat).length = n := by rw [List.length_map, hsv.len]
      obtain ⟨xb, xo, xc, rfl, hxb1, hxc⟩ := hs0.form hll (by omega)
      have hcs0 := hxc c hc
      have hcs := (hB.cell (p := ⟨xb, xo + c, none⟩) hxb1).trans hcs0
      have e3 : (s.map Int.ofNat).getD c 0 = ((s.getD c 0 : Nat) : Int) := by
        have : c < s.length := by rw [hsv.len]; exact hc
        simp [List.getD_eq_getElem?_getD, this]
      rw [e3] at hcs
      have hlf := hsv.at hq0 c
      obtain ⟨f, Hf⟩ : ∃ f, Hid (s.getD c 0 = f) := ⟨_, rfl⟩
      rw [Hf.out] at hcs hlf
      obtain ⟨d, Hd⟩ : ∃ d, Hid (ldV s = d) := ⟨_, rfl⟩
      have hdn : d < n := by rw [← Hd.out]; exact hsl
      have hdi2 : (d : Int) < (n : Int) := by omega
      obtain ⟨z, Hz⟩ : ∃ z, Hid (ng f = z) := ⟨_, rfl⟩
      have CL := fun W (hW : Below wr.heap.size wr W) => HLes.out W (Below.next hB hW) f hlf z Hz
      have CD : ∀ W, Below wr.heap.size wr W → Calls Tryd.prog 51 #[.slice (some ⟨xb, xo, none⟩) n xc] W fun e w' => e = .returned (.int .i64 (d : Int)) ∧ w' = W := fun W hW => by
        have h := lead_any s _ W (hs.below hW) (by rw [hsv.len]; exact hsl) (by rw [hsv.len]; omega)
        rw [Hd.out] at h
        exact h
      have HNext : Hid (∀ W, Below wr.heap.size wr W → (∃ u, W.cell? ⟨w.heap.size + 1, d, none⟩ = some u) ∧ W.frozen? ⟨w.heap.size + 1, d, none⟩ = false ∧ OwnN (W.setCell ⟨w.heap.size + 1, d, none⟩ (.int .i64 (z : Int))) (w.heap.size + 1) n (nrT ng c X (i + 1)) ∧ RmB (W.setCell ⟨w.heap.size + 1, d, none⟩ (.int .i64 (z : Int))) w.heap.size (P : Int) (K : Int) (.slice fa fn fc) (n : Int) ∧ Below w.heap.size w (W.setCell ⟨w.heap.size + 1, d, none⟩ (.int .i64 (z : Int))) ∧ (W.setCell ⟨w.heap.size + 1, d, none⟩ (.int .i64 (z : Int))).cell? ⟨xb, xo + c, none⟩ = some (.int .i64 (f : Int))) := fun W hW => by
        have h4 := hm.below hW
        refine ⟨⟨_, h4.cell hdn⟩, h4.frozen d, h4.set d z (fun j _ => ?_), (heap_setCell_other _ _ _ _ (by simp)).trans (hrr.below hW), (Below.next hB hW).setCell (p := ⟨w.heap.size + 1, d, none⟩) (by simp) _, (World.cell?_setCell_far _ _ _ _ (by simp; omega)).trans ((hW.cell (World.block_lt_of_cell? _ _ hcs)).trans hcs)⟩
        rw [nrT_next hXi]
        unfold nrUp
        rw [Hd.out, Hf.out, Hz.out]
      have hS : Hid (∀ W, Below wr.heap.size wr W → (W.cell? ⟨w.heap.size, 0, none⟩ = some (.int .i64 (P : Int)) ∧ W.cell? ⟨w.heap.size, 1, none⟩ = some (.int .i64 (K : Int)) ∧ W.cell? ⟨w.heap.size, 2, none⟩ = some (.slice fa fn fc) ∧ W.cell? ⟨w.heap.size, 3, none⟩ = some (.int .i64 (n : Int)) ∧ W.cell? ⟨xb, xo + c, none⟩ = some (.int .i64 (f : Int)))) := fun W hW => by
        obtain ⟨y0, y1, y2, y3⟩ := (hrr.below hW).cells
        exact ⟨y0, y1, y2, y3, (hW.cell (World.block_lt_of_cell? _ _ hcs)).trans hcs⟩
      have p1 : Below wr.heap.size wr wr := Below.refl _ _
      clear hm hrr hB hr' hs hxc e' hsi hXi e3 hcs hs0 hcj0 hcs0
      go_wp2
      refine wp_region_noPanic ?_
      refine wp_region_held_drew (S := fun W => W.cell? ⟨w.heap.size, 0, none⟩ = some (.int .i64 (P : Int)) ∧ W.cell? ⟨w.heap.size, 1, none⟩ = some (.int .i64 (K : Int)) ∧ W.cell? ⟨w.heap.size, 2, none⟩ = some (.slice fa fn fc) ∧ W.cell? ⟨w.heap.size, 3, none⟩ = some (.int .i64 (n : Int)) ∧ W.cell? ⟨xb, xo + c, none⟩ = some (.int .i64 (f : Int))) (by kernel_rfl) (hS.out _ p1.drew) (fun hSx => ?_)
      refine wpAnyH_take (i := 0) (v := .slice (some ⟨w.heap.size + 1, 0, none⟩) n n) rfl (by kernel_rfl) (by kernel_rfl) (by kernel_rfl) (fun _ _ _ h => h) (Or.inl ⟨by rfl, fun w' hSw => by (try dsimp only at hSw); obtain ⟨hs0, hs1, hs2, hs3, hs4⟩ := hSw; go_simp⟩) hSx ?_
      try simp only [Act.put, List.setIfInBounds_toArray]
      refine wpAnyH_take (i := 1) (v := .slice (some ⟨xb, xo, none⟩) n xc) rfl (by kernel_rfl) (by kernel_rfl) (by kernel_rfl) (fun _ _ _ h => h) (Or.inl ⟨by rfl, fun w' hSw => by (try dsimp only at hSw); obtain ⟨hs0, hs1, hs2, hs3, hs4⟩ := hSw; go_simp⟩) hSx ?_
      try simp only [Act.put]
      refine wpAnyH_take (i := 3) (v := .agg #[.int .i64 (P : Int), .int .i64 (K : Int), .slice fa fn fc, .int .i64 (n : Int)]) rfl (by kernel_rfl) (by kernel_rfl) (by kernel_rfl) (fun _ _ _ h => h) (Or.inl ⟨by rfl, fun w' hSw => by (try dsimp only at hSw); obtain ⟨hs0, hs1, hs2, hs3, hs4⟩ := hSw; go_simp⟩) hSx ?_
      try simp only [Act.put]
      refine wpAnyH_take (i := 4) (v := .slice (some ⟨xb, xo, none⟩) n xc) rfl (by kernel_rfl) (by kernel_rfl) (by kernel_rfl) (fun _ _ _ h => h) (Or.inl ⟨by rfl, fun w' hSw => by (try dsimp only at hSw); obtain ⟨hs0, hs1, hs2, hs3, hs4⟩ := hSw; go_simp⟩) hSx ?_
      try simp only [Act.put]
      refine wpAnyH_take (i := 5) (v := .int .i64 (c : Int)) rfl (by kernel_rfl) (by kernel_rfl) (by kernel_rfl) (fun _ _ _ h => h) (Or.inl ⟨by rfl, fun w' hSw => by (try dsimp only at hSw); obtain ⟨hs0, hs1, hs2, hs3, hs4⟩ := hSw; go_simp⟩) hSx ?_
      try simp only [Act.put]
      refine wpAnyH_take (i := 6) (v := .pointer (some ⟨xb, xo + c, none⟩)) rfl (by kernel_rfl) (by kernel_rfl) (by kernel_rfl) (fun _ _ _ h => h) (Or.inl ⟨by rfl, fun w' hSw => by (try dsimp only at hSw); obtain ⟨hs0, hs1, hs2, hs3, hs4⟩ := hSw; go_simp⟩) hSx ?_
      try simp only [Act.put]
      refine wpAnyH_take (i := 7) (v := .int .i64 (f : Int)) rfl (by kernel_rfl) (by kernel_rfl) (by kernel_rfl) (fun _ _ _ h => h) (Or.inl ⟨by rfl, fun w' hSw => by (try dsimp only at hSw); obtain ⟨hs0, hs1, hs2, hs3, hs4⟩ := hSw; go_simp⟩) hSx ?_
      try simp only [Act.put]
      refine wpAnyH_ready (rs := [2]) (by kernel_rfl) (by simp) ?_
      refine (AllReadyH.cons rfl (fun J hJ => ?_) AllReadyH.nil)
      go_simp
      refine (CD _ p1.drew).mono ?_
      rintro e w2 ⟨rfl, h2⟩
      replace h2 := h2.symm
      subst h2
      go_wp2_with fail
      refine hJ.out _ _ (hS.out _ p1.drew) (fun hSx => ?_)
      clear hJ J
      try simp only [Act.put, List.setIfInBounds_toArray, List.set_cons_zero, List.set_cons_succ]
      refine wpAnyH_ready (rs := [8]) (by kernel_rfl) (by simp) ?_
      refine (AllReadyH.cons rfl (fun J hJ => ?_) AllReadyH.nil)
      go_simp
      refine (CL _ p1.drew).mono ?_
      rintro e w3 ⟨rfl, bv1⟩
      have p2 : Below wr.heap.size wr w3 := Below.next p1.drew bv1
      go_wp2_with fail
      refine hJ.out _ _ (hS.out _ p2) (fun hSx => ?_)
      clear hJ J
      try simp only [Act.put, List.setIfInBounds_toArray, List.set_cons_zero, List.set_cons_succ]
      refine wpAnyH_take (i := 9) (v := .pointer (some ⟨w.heap.size + 1, d, none⟩)) rfl (by kernel_rfl) (by kernel_rfl) (by kernel_rfl) (fun _ _ _ h => h) (Or.inl ⟨by rfl, fun w' hSw => by (try dsimp only at hSw); obtain ⟨hs0, hs1, hs2, hs3, hs4⟩ := hSw; go_simp⟩) hSx ?_
      try simp only [Act.put, List.setIfInBounds_toArray]
      obtain ⟨⟨uu, n1⟩, n2, n3, n4, n5, n6⟩ := HNext.out _ p2
      refine wpAnyH_ready (rs := [10]) (by kernel_rfl) (by simp) ?_
      refine (AllReadyH.cons rfl (fun J hJ => ?_) AllReadyH.nil)
      go_simp
      obtain ⟨y0, y1, y2, y3⟩ := n4.cells
      refine hJ.out _ _ (⟨y0, y1, y2, y3, n6⟩) (fun hSx => ?_)
      clear hJ J
      try simp only [Act.put, List.setIfInBounds_toArray, List.set_cons_zero, List.set_cons_succ]
      refine wpAnyH_done (by kernel_rfl) ?_ _
      refine NoPanic.normal ?_
      clear hSx hS CL CD
      go_wp2
      go_roundw
      case rel => exact ⟨i + 1, by go_num, by omega, n3, n4, n5⟩
      case measure => simp [intOf]; omega
    · have hdi : decide ((i : Int) < (R : Int)) = false := by simp; omega
      obtain rfl : R = i := by omega
      rw [HE.out] at hm
      go_wp2
      go_ret
      exact ⟨_, rfl, hm.orow (by omega) (by omega), hB⟩
end Go.Proofs.YtjfjdidibglhaabDoor

namespace Go.Proofs.YtjfjdidibglhaabDoor
open Go.RowKit

/-- The normal rows of the columns ahead of c. -/
def nrP (ng : Nat → Nat) (n : Nat) (X : List (List Nat)) (c : Nat) : List (List Nat) := ((List.range c).filter (freB X)).map fun c => ofF n (nrF ng c X)
theorem nrP_all (ng : Nat → Nat) (n : Nat) (X : List (List Nat)) : nrP ng n X n = nrms ng n X := rfl
theorem nrP_yes {ng : Nat → Nat} {n : Nat} {X : List (List Nat)} {c : Nat} (h : freB X c = true) : nrP ng n X (c + 1) = nrP ng n X c ++ [ofF n (nrF ng c X)] := by
  unfold nrP
  rw [List.range_succ, List.filter_append, List.map_append]
  simp [h]
theorem nrP_no {ng : Nat → Nat} {n : Nat} {X : List (List Nat)} {c : Nat} (h : freB X c = false) : nrP ng n X (c + 1) = nrP ng n X c := by
  unfold nrP
  rw [List.range_succ, List.filter_append, List.map_append]
  simp [h]
/-- What normal answers. -/
def NoA (q : Nat) (ad mu : Nat → Nat → Nat) (n : Nat) (S : List (List Nat)) (e : Ending) (w' : World) : Prop := ∃ x ls, e = .returned x ∧ BasIs q ad mu n (Nrm q ad mu n S) ls ∧ Rw w' x (toZ ls)
theorem orow_form {w : World} {base : Nat} {x : Value} {l : List Nat} (h : ORow w base x l) : ∃ a n c, x = .slice a n c := by
  obtain ⟨_, ⟨rfl, _⟩ | ⟨g, cap, cur, rfl, _⟩⟩ := h
  · exact ⟨_, _, _, rfl⟩
  · exact ⟨_, _, _, rfl⟩
theorem inc_len : ∀ (l : List Nat) (k n : Nat), l.Pairwise (· < ·) → (∀ x ∈ l, k ≤ x ∧ x < n) → k ≤ n → l.length + k ≤ n
  | [], k, n, _, _, h => by simpa using h
  | x :: l, k, n, hp, hb, h => by
    have h1 := List.pairwise_cons.1 hp
    have h2 := hb x (by simp)
    have := inc_len l (x + 1) n h1.2 (fun y hy => ⟨h1.1 y hy, (hb y (by simp [hy])).2⟩) (by omega)
    simp only [List.length_cons]
    omega
theorem rref_le {q n : Nat} {X : List (List Nat)} (h : Rref q n X) : X.length ≤ n := by
  have := inc_len (X.map ldV) 0 n (List.pairwise_map.2 h.inc) (fun x hx => by obtain ⟨r, hr, rfl⟩ := List.mem_map.1 hx; exact ⟨Nat.zero_le _, (h.one r hr).1⟩) (Nat.zero_le _)
  rw [List.length_map] at this
  omega
set_option maxRecDepth 100000 in
set_option maxHeartbeats 16000000 in
theorem normal_any (P K n : Nat) (l : List Int) (v u : Value) (S : List (List Nat)) (w : World) (hF : Fld P K l v w) (hu : Rw w u (toZ S)) (hS : Rws (P ^ K) n S) (h1 : 1 ≤ n) (hn : n ≤ 6) (hR : S.length ≤ 24) :
    Calls Tryd.prog 24 #[rmV P K v n, u] w fun e w' => NoA (P ^ K) (adF P K) (muF P K l) n S e w' ∧ Below w.heap.size w w' := by
  have hfq := hF.fqr
  obtain ⟨i22, ti, tz0, tz1, tz2⟩ := info36
  have b1 := balloc w (.cells #[.int .i64 (P : Int), .int .i64 (K : Int), v, .int .i64 (n : Int)] 53)
  have hr0 : RmB (w.alloc (.cells #[.int .i64 (P : Int), .int .i64 (K : Int), v, .int .i64 (n : Int)] 53)) w.heap.size (P : Int) (K : Int) v (n : Int) := heap_alloc_new w _
  have C1 := basis_any P K n l v u S _ (hF.below b1) (hu.below b1) hS h1 hn hR
  have HBas : Hid (∀ (W : World) (y : Value) (Y : List (List Nat)), Below w.heap.size w W → Rw W y (toZ Y) → Rws (P ^ K) n Y → Y.length ≤ 24 → Calls Tryd.prog 39 #[rmV P K v n, y] W fun e w' => BaA (P ^ K) (adF P K) (muF P K l) n Y e w' ∧ Below W.heap.size W w') := fun W y Y b hy hY hl => basis_any P K n l v y Y W (hF.below b) hy hY h1 hn hl
  have HRow : Hid (∀ (W : World) (y : Value) (Y : List (List Nat)) (c : Nat), Below w.heap.size w W → Rw W y (toZ Y) → Rref (P ^ K) n Y → c < n → Calls Tryd.prog 52 #[rmV P K v n, y, .int .i64 (c : Int)] W fun e w' => ∃ x, e = .returned x ∧ ORow w' W.heap.size x (ofF n (nrF (ngF P K) c Y)) ∧ Below W.heap.size W w') := fun W y Y c b hy hY hc => normalRow_any P K n c l v y Y W (hF.below b) hy hY hc hn (by have := rref_le hY; omega)
  have HFin : Hid (∀ X U, BasIs (P ^ K) (adF P K) (muF P K l) n (Spn (P ^ K) (adF P K) (muF P K l) n S) X → BasIs (P ^ K) (adF P K) (muF P K l) n (Spn (P ^ K) (adF P K) (muF P K l) n (nrms (ngF P K) n X)) U → BasIs (P ^ K) (adF P K) (muF P K l) n (Nrm (P ^ K) (adF P K) (muF P K l) n S) U) := fun X U hX hU => nrm_basis hfq hS hX hU
  have HNr : Hid (∀ X, Rref (P ^ K) n X → Rws (P ^ K) n (nrms (ngF P K) n X)) := fun X hX => nrms_rws hfq hX.rws
  have b1s := b1.size
  obtain ⟨mu, Hmu⟩ : ∃ mu, Hid (muF P K l = mu) := ⟨_, rfl⟩
  obtain ⟨ad, Had⟩ : ∃ ad, Hid (adF P K = ad) := ⟨_, rfl⟩
  obtain ⟨ng, Hng⟩ : ∃ ng, Hid (ngF P K = ng) := ⟨_, rfl⟩
  obtain ⟨q, Hq⟩ : ∃ q, Hid (P ^ K = q) := ⟨_, rfl⟩
  rw [Hmu.out, Had.out, Hq.out] at C1 HBas HFin ⊢
  rw [Hng.out] at HRow HFin HNr
  rw [Hq.out] at HRow HNr
  obtain ⟨fa, fn, fc, rfl⟩ : ∃ fa fn fc, v = .slice fa fn fc := by obtain ⟨a, c, e, _⟩ := hF.sl; exact ⟨a, _, c, e⟩
  obtain ⟨w1, Hw1⟩ : ∃ w1, Hid (w.alloc (.cells #[.int .i64 (P : Int), .int .i64 (K : Int), .slice fa fn fc, .int .i64 (n : Int)] 53) = w1) := ⟨_, rfl⟩
  obtain ⟨x0, x1, x2, x3⟩ := hr0.cells
  have HR1 : Hid (RmB w1 w.heap.size (P : Int) (K : Int) (.slice fa fn fc) (n : Int)) := by rw [← Hw1.out]; exact hr0
  have HB1 : Hid (Below w.heap.size w w1) := by rw [← Hw1.out]; exact b1
  obtain ⟨a, ac, rfl, _⟩ := id hu
  clear hF hu hS hfq b1 hr0
  go_enter Tryd.func24, Tryd.ntmps24
  go_wp2_with fail
  go_step3
  go_wp2_with (go_at_call 39; refine C1.mono ?_; rintro e w2 ⟨⟨bv, X, rfl, hXb, hbv⟩, b2⟩; rw [Hw1.out] at b2; obtain ⟨y0, y1, y2, y3⟩ := (HR1.out.below b2).cells; clear C1 x0 x1 x2 x3)
  go_step3
  go_wp2_with fail
  have hB2 := Below.next HB1.out b2
  have HXb : Hid (BasIs q ad mu n (Spn q ad mu n S) X) := hXb
  have HXr : Hid (Rref q n X) := hXb.rref
  have hXl := rref_le hXb.rref
  have HR2 : Hid (∀ W, Below w2.heap.size w2 W → RmB W w.heap.size (P : Int) (K : Int) (.slice fa fn fc) (n : Int)) := fun W b => HR1.out.below (Below.next b2 b)
  have HBV : Hid (∀ W, Below w2.heap.size w2 W → Rw W bv (toZ X)) := fun W b => hbv.below b
  have HB2 : Hid (∀ W, Below w2.heap.size w2 W → Below w.heap.size w W) := fun W b => Below.next hB2 b
  obtain ⟨ba, bc, rfl, _⟩ := id hbv
  obtain ⟨t, Ht⟩ : ∃ t, Hid (X.length = t) := ⟨_, rfl⟩
  have hzl : (toZ X).length = t := by rw [← Ht.out]; simp [toZ]
  rw [hzl] at HBV ⊢
  rw [Ht.out] at hXl
  have HAt : Hid (∀ i, i < t → ∃ s, X[i]? = some s ∧ (toZ X)[i]? = some (s.map Int.ofNat) ∧ Vc q n s ∧ ldV s < n) := fun i hi => by
    have hi' : i < X.length := by rw [Ht.out]; exact hi
    have hm := List.getElem_mem hi'
    exact ⟨X[i], by simp, by simp [toZ, hi'], HXr.out.rws _ hm, (HXr.out.one _ hm).1⟩
  clear hXb hbv hB2 b2 HR1 HB1 y0 y1 y2 hzl
  go_loopw [6, 7, 9, 15, 20] (fun ov _ _ cv _ wr => ∃ c m oa oc : Nat, ∃ og : Option Addr, cv = .int .i64 (c : Int) ∧ c ≤ n ∧ ov = .slice og m oc ∧ Hid ((nrP ng n X c).length = m) ∧ m ≤ c ∧ oa = 0 ∧ OR wr w2.heap.size (.slice og m oc) (nrP ng n X c) ∧ Below w2.heap.size w2 wr) (fun _ _ _ cv _ _ => (n - intOf cv).toNat)
  case atStart => exact ⟨0, 0, 0, 0, none, rfl, by omega, rfl, rfl, by omega, rfl, OR.nil _ _, Below.refl _ _⟩
  case round =>
    clear y3
    obtain ⟨c, m, oa, oc, og, rfl, hc, rfl, Hm, hmc, hoa, hO, hB⟩ := hrel
    have hwb : w2.heap.size ≤ wr.heap.size := hB.size
    by_cases hlt : c < n
    · have hci : (c : Int) < (n : Int) := by omega
      have hdc : decide ((c : Int) < (n : Int)) = true := by simp; omega
      go_wp2
      go_loopw [9, 20] (fun _ iv wr' => ∃ i : Nat, iv = .int .i64 (i : Int) ∧ i ≤ t ∧ Hid (∀ j r, j < i → X[j]? = some r → ldV r ≠ c) ∧ wr' = wr) (fun _ iv _ => (t - intOf iv).toNat)
      case atStart => exact ⟨0, rfl, by omega, (fun j r h => by omega : ∀ j r, j < 0 → _), rfl⟩
      case round =>
        obtain ⟨i, rfl, hi, HI, hw⟩ := hrel
        replace hw := hw.symm
        subst hw
        by_cases hit : i < t
        · have hii : (i : Int) < (t : Int) := by omega
          have hdi : decide ((i : Int) < (t : Int)) = true := by simp; omega
          obtain ⟨s, hXi, hsi, hsv, hsl⟩ := HAt.out i hit
          obtain ⟨a', ac', e', hr'⟩ := HBV.out wr hB
          obtain ⟨rfl, rfl⟩ : ba = a' ∧ bc = ac' := by
            simp only [Value.slice.injEq] at e'
            exact ⟨e'.1, e'.2.2⟩
          obtain ⟨b, off, x, rfl, hcj, hs⟩ := hr' i _ hsi
          have CD := lead_any s x wr hs (by rw [hsv.len]; exact hsl) (by rw [hsv.len]; omega)
          obtain ⟨d, Hd⟩ : ∃ d, Hid (ldV s = d) := ⟨_, rfl⟩
          rw [Hd.out] at CD
          have hdn : d < n := by rw [← Hd.out]; exact hsl
          obtain ⟨xa, xc, rfl, _⟩ := id hs
          obtain ⟨xl, Hxl⟩ : ∃ xl, Hid ((s.map Int.ofNat).length = xl) := ⟨_, rfl⟩
          rw [Hxl.out] at CD hcj
          have HXi : Hid (X[i]? = some s) := hXi
          clear hr' hs hsi hXi e' hsv hsl
          by_cases hdc2 : d = c
          · have hde : ((d : Int) == (c : Int)) = true := by simp; omega
            have HF : Hid (freB X c = false) := by
              show _ = _
              rw [Bool.eq_false_iff]
              intro h
              exact freB_iff.1 h s (List.mem_of_getElem? HXi.out) (by rw [Hd.out, hdc2])
            have hO2 : OR wr w2.heap.size (.slice og m oc) (nrP ng n X (c + 1)) := by rw [nrP_no HF.out]; exact hO
            have Hm2 : Hid ((nrP ng n X (c + 1)).length = m) := by rw [nrP_no HF.out]; exact Hm
            clear hO Hm HF
            go_wp2_with (go_at_call 51; refine CD.mono ?_; rintro e w3 ⟨rfl, h3⟩; replace h3 := h3.symm; subst h3; clear CD)
            go_roundw
            case rel => exact ⟨c + 1, m, 0, oc, og, by go_num, by omega, rfl, Hm2, by omega, rfl, hO2, hB⟩
            case measure => simp [intOf]; omega
          · have hde : ((d : Int) == (c : Int)) = false := by simp; omega
            have HI2 : Hid (∀ j r, j < i + 1 → X[j]? = some r → ldV r ≠ c) := fun j r hj hr => by
              by_cases e : j = i
              · subst e
                have := HXi.out.symm.trans hr
                cases this
                rw [Hd.out]; exact hdc2
              · exact HI.out j r (by omega) hr
            clear HI
            go_wp2_with (go_at_call 51; refine CD.mono ?_; rintro e w3 ⟨rfl, h3⟩; replace h3 := h3.symm; subst h3; clear CD)
            go_roundw
            case rel => exact ⟨i + 1, by go_num, by omega, HI2, by first | rfl | trivial⟩
            case measure => simp [intOf]; omega
        · have hdi : decide ((i : Int) < (t : Int)) = false := by simp; omega
          obtain rfl : t = i := by omega
          have HF : Hid (freB X c = true) := freB_iff.2 fun r hr => by
            obtain ⟨j, hj, e⟩ := List.getElem_of_mem hr
            exact HI.out j r (by rw [← Ht.out]; exact hj) (by rw [List.getElem?_eq_getElem hj, e])
          have C := HRow.out wr _ X c (HB2.out wr hB) (HBV.out wr hB) HXr.out hlt
          obtain ⟨y0, y1, y2, y3⟩ := (HR2.out wr hB).cells
          obtain ⟨vals, ho1, ho2⟩ := hO
          have HO1 : Hid (wr.ownsRow w2.heap.size 22 1 (.slice og m oc) (nrP ng n X c).length vals) := ho1
          have HO2 : Hid (∀ (i : Nat) (u : Value) (l : List Nat), vals[i]? = some u → (nrP ng n X c)[i]? = some l → ORow wr w2.heap.size u l) := ho2
          have HLow : Hid (∀ (i : Nat) (u : Value), Below wr.heap.size wr wr → True) := fun _ _ _ => trivial
          rw [Hm.out] at ho1
          have HFin2 : Hid (∀ (w3 : World) (x v' : Value) (w5 : World), Below wr.heap.size wr w3 → ORow w3 wr.heap.size x (ofF n (nrF ng c X)) → w5.ownsRow w2.heap.size 22 1 v' (m + 1) (vals ++ [x]) → (w3.alloc (.cells #[x] 22)).grownBy w5 (Value.slice og m oc).ownBlock → (∃ og' oc', v' = .slice og' (m + 1) oc') ∧ OR w5 w2.heap.size v' (nrP ng n X (c + 1)) ∧ Hid ((nrP ng n X (c + 1)).length = m + 1) ∧ Below w2.heap.size w2 w5) := fun w3 x v' w5 b3 hx h5 hg => by
            have bal := balloc w3 (.cells #[x] 22)
            have b34 := Below.next b3 bal
            have hx' : ORow (w3.alloc (.cells #[x] 22)) w2.heap.size x (ofF n (nrF ng c X)) := (show ORow w3 w2.heap.size x _ from ⟨hx.1, hx.2.imp id fun ⟨g', c', cur, e, hb, r⟩ => ⟨g', c', cur, e, Nat.le_trans hwb hb, r⟩⟩).below bal
            have hm5 : OR w5 w2.heap.size v' (nrP ng n X c ++ [ofF n (nrF ng c X)]) := OR.more (own_keep HO1.out fun b _ hb => b34.block b hb) (fun i u l e1 e2 => (HO2.out i u l e1 e2).below b34) hx' (by rw [Hm.out]; exact h5) hg
            refine ⟨?_, by rw [nrP_yes HF.out]; exact hm5, by show _ = _; rw [nrP_yes HF.out, List.length_append, Hm.out]; rfl, (Below.next hB b34).grown hg (by rw [World.size_alloc]; have := b3.size; omega) (fun k hk => (HO1.out.lt k hk).1)⟩
            obtain ⟨_, ⟨rfl, h6⟩ | ⟨g', cap, cur, rfl, _⟩⟩ := h5
            · omega
            · exact ⟨_, _, rfl⟩
          clear ho2 HI HLow
          go_wp2_with (first
            | (go_at_call 52; refine C.mono ?_; rintro e w3 ⟨x, rfl, hx, b3⟩; obtain ⟨xa, xn, xc, rfl⟩ := orow_form hx; clear C)
            | (at_builtin; refine wpList_append_own _ rfl _ _ 25 rfl w2.heap.size 22 i22 (.slice none 0 0) 1 24 undR ti tz0 tz1 tz2 rfl (by decide) _ _ _ rfl ((own_keep ho1 fun b _ hb => b3.block b hb).alloc _) ⟨w3.heap.size, 0, none⟩ 1 1 [.slice xa xn xc] rfl rfl (fun j u hj => by (match j, hj with | 0, hj => simp at hj; subst hj; simp [Addr.add])) (fun u hu => by (simp at hu; subst hu; rfl)) (by (unfold maxLen; omega)) (by omega) (by (simp; have := b3.size; omega)) ?_; intro v' w5 h5 hg _; obtain ⟨⟨og', oc', rfl⟩, n1, n2, n3⟩ := HFin2.out w3 _ v' w5 b3 hx h5 hg; clear HFin2 ho1 h5 hg)
            | go_in)
          go_roundw
          case rel => exact ⟨c + 1, m + 1, 0, oc', og', by go_num, by omega, rfl, n2, by omega, rfl, n1, n3⟩
          case measure => simp [intOf]; omega
    · have hdc : decide ((c : Int) < (n : Int)) = false := by simp; omega
      obtain rfl : n = c := by omega
      rw [nrP_all] at hO
      have C := HBas.out wr _ (nrms ng n X) (HB2.out wr hB) hO.rw (HNr.out X HXr.out) (by rw [← nrP_all, Hm.out]; omega)
      obtain ⟨y0, y1, y2, y3⟩ := (HR2.out wr hB).cells
      have hBw := HB2.out wr hB
      clear hO
      go_wp2_with (go_at_call 39; refine C.mono ?_; rintro e w3 ⟨⟨xv, U, rfl, hU, hxv⟩, b3⟩; clear C)
      first
        | (go_ret; exact ⟨⟨_, _, rfl, HFin.out X U HXb.out hU, hxv⟩, Below.next hBw b3⟩)
        | (rw [Exit.noGoto_ret]; go_ret; exact ⟨⟨_, _, rfl, HFin.out X U HXb.out hU, hxv⟩, Below.next hBw b3⟩)
end Go.Proofs.YtjfjdidibglhaabDoor

/- The walks of has, Basis, Normal, Join, Meet and Has. -/
/- The library's Grow by its contract, and the walk of its Concat, at rows. -/
namespace Go.Proofs.YtjfjdidibglhaabDoor
open Go.Shelf Go.RowKit Go.Maps

/-- Headers of rows. -/
def HdR (w : World) (us : List Value) (ls : List (List Int)) : Prop := us.length = ls.length ∧ ∀ (i : Nat) l, ls[i]? = some l → ∃ u, us[i]? = some u ∧ Sl w u l
theorem HdR.append {w : World} {us vs : List Value} {ls ms : List (List Int)} (h : HdR w us ls) (k : HdR w vs ms) : HdR w (us ++ vs) (ls ++ ms) := by
  refine ⟨by rw [List.length_append, List.length_append, h.1, k.1], fun i l hl => ?_⟩
  by_cases hi : i < ls.length
  · rw [List.getElem?_append_left hi] at hl
    rw [List.getElem?_append_left (by rw [h.1]; exact hi)]
    exact h.2 i l hl
  · rw [List.getElem?_append_right (by omega)] at hl
    rw [List.getElem?_append_right (by rw [h.1]; omega), h.1]
    exact k.2 _ l hl
theorem HdR.one {w : World} {us : List Value} {ls : List (List Int)} (h : HdR w us ls) : ∀ u ∈ us, u.oneCell' = true := fun u hu => by
  obtain ⟨i, hi, rfl⟩ := List.getElem_of_mem hu
  have hi' : i < ls.length := by rw [← h.1]; exact hi
  obtain ⟨u', h1, a, c, e, _⟩ := h.2 i ls[i] (List.getElem?_eq_getElem hi')
  rw [List.getElem?_eq_getElem hi] at h1
  rw [Option.some.inj h1, e]
  rfl
end Go.Proofs.YtjfjdidibglhaabDoor

namespace Go.Proofs.YtjfjdidibglhaabDoor
open Go.RowKit

theorem ls_one {w : World} {x : Value} {rs : List (List Int)} (h : Rw w x rs) (h1 : rs.length ≤ maxLen) (h2 : ∀ r ∈ rs, r.length ≤ maxLen) : LsR (w.alloc (.cells #[x] 25)) (.slice (some ⟨w.heap.size, 0, none⟩) 1 1) [x] [rs] := by
  refine ⟨w.heap.size, 1, rfl, rfl, fun i y ss hy hs => ?_⟩
  have hi : i = 0 := by have := (List.getElem?_eq_some_iff.1 hy).1; simpa using this
  subst hi
  simp only [List.getElem?_cons_zero, Option.some.injEq] at hy hs
  subst hy hs
  exact ⟨by rw [cell_of_row _ _ _ _ _ _ (heap_alloc_new w _)]; rfl, h.below (balloc w _), h1, h2⟩
theorem toZ_lenY (A : List (List Nat)) : (toZ A).length = A.length := by simp [toZ]
theorem toZ_max {q n : Nat} {A : List (List Nat)} (h : Rws q n A) (hn : n ≤ 6) : ∀ r ∈ toZ A, r.length ≤ maxLen := fun r hr => by
  obtain ⟨s, hs, rfl⟩ := List.mem_map.1 hr
  rw [List.length_map, (h s hs).len]
  unfold maxLen; omega
theorem len_max {m : Nat} (h : m ≤ 99) : m ≤ maxLen := by unfold maxLen; omega
theorem sl_rw {w : World} {x : Value} {r : List Int} (h : Sl w x r) : Rw (w.alloc (.cells #[x] 22)) (.slice (some ⟨w.heap.size, 0, none⟩) 1 1) [r] := by
  refine ⟨_, 1, rfl, fun i l hl => ?_⟩
  have hi : i = 0 := by have := (List.getElem?_eq_some_iff.1 hl).1; simpa using this
  subst hi
  simp only [List.getElem?_cons_zero, Option.some.injEq] at hl
  subst hl
  exact ⟨w.heap.size, 0, x, rfl, by rw [cell_of_row _ _ _ _ _ _ (heap_alloc_new w _)]; rfl, h.below (balloc w _)⟩
theorem rw_formY {w : World} {x : Value} {A : List (List Nat)} (h : Rw w x (toZ A)) : ∃ a c, x = .slice a A.length c := by
  obtain ⟨a, c, e, _⟩ := h
  rw [toZ_lenY] at e
  exact ⟨a, c, e⟩
theorem rw_formH {w : World} {x : Value} {A : List (List Nat)} (h : Rw w x (toZ A)) : ∃ a m c, x = .slice a m c ∧ Hid (A.length = m) := by
  obtain ⟨a, c, e⟩ := rw_formY h
  exact ⟨a, _, c, e, rfl⟩
end Go.Proofs.YtjfjdidibglhaabDoor

namespace Go.Proofs.YtjfjdidibglhaabDoor
open Go.RowKit

/-- What open answers in each later world. -/
def OpC (p k n : Int) (v : Value) (vs : List Value) (rss : List (List (List Int))) (w : World) (z : Int) (rv : Value) : Prop := ∀ W u, Below w.heap.size w W → LsR W u vs rss → Calls Tryd.prog 23 #[.agg #[.int .i64 p, .int .i64 k, v], .int .i64 n, u] W fun e w' => OpA z rv e ∧ Below W.heap.size W w'
theorem opc_fault {p k n z : Int} {l : List Int} {v : Value} {w : World} (hT : Fd.Tab w) (hl : Fd.Sl w v l) (hll : l.length ≤ maxLen) (hz : Fd.FaultIs p k l z) (h0 : z ≠ 0) (vs : List Value) (rss : List (List (List Int))) (rv : Value) : OpC p k n v vs rss w z rv :=
  fun W u b _ => open_fault p k n z l v u rv W (hT.below b) (hl.below b) hll hz h0
theorem opc_far {P K : Nat} {n : Int} {l : List Int} {v : Value} {w : World} (hF : Fld P K l v w) (hn : ¬ (1 ≤ n ∧ n ≤ 6)) (vs : List Value) (rss : List (List (List Int))) (rv : Value) : OpC P K n v vs rss w 1 rv :=
  fun W u b _ => open_farY P K n l v u rv W (hF.below b) hn
theorem opc_full {P K n : Nat} {l : List Int} {v : Value} {w : World} (hF : Fld P K l v w) (h1 : 1 ≤ n) (h6 : n ≤ 6) (hf : 4096 < (P ^ K) ^ n) (vs : List Value) (rss : List (List (List Int))) (rv : Value) : OpC P K n v vs rss w 3 rv :=
  fun W u b _ => open_full P K n l v u rv W (hF.below b) h1 h6 hf
theorem opc_rows {P K n : Nat} {l : List Int} {v : Value} {w : World} (hF : Fld P K l v w) (h1 : 1 ≤ n) (h6 : n ≤ 6) (hf : (P ^ K) ^ n ≤ 4096) (vs : List Value) (rss : List (List (List Int))) (hm : rss.length ≤ 2) {z : Nat} (hz : lsE (P ^ K) n rss = z) : OpC P K n v vs rss w z (rmV P K v n) :=
  fun W u b hu => open_rows P K n l v u vs rss W (hF.below b) h1 h6 hf hu hm z hz
/-- Rows as they come. -/
structure RwC (w : World) (u : Value) (rs : List (List Int)) : Prop where
  rw : Rw w u rs
  len : rs.length ≤ maxLen
  all : ∀ r ∈ rs, r.length ≤ maxLen
theorem RwC.below {w w' : World} {u : Value} {rs : List (List Int)} (h : RwC w u rs) (b : Below w.heap.size w w') : RwC w' u rs := ⟨h.rw.below b, h.len, h.all⟩
theorem RwC.form {w : World} {u : Value} {rs : List (List Int)} (h : RwC w u rs) : ∃ a m c, u = .slice a m c ∧ Hid (rs.length = m) := by
  obtain ⟨a, c, e, _⟩ := h.rw
  exact ⟨a, _, c, e, rfl⟩
set_option maxRecDepth 100000 in
set_option maxHeartbeats 4000000 in
theorem Basis_err (p k n z : Int) (v u : Value) (rs : List (List Int)) (rv : Value) (w : World) (hv : ∃ a m c, v = .slice a m c) (hu : RwC w u rs) (hO : OpC p k n v [u] [rs] w z rv) (h0 : z ≠ 0) :
    Calls Tryd.prog 17 #[.agg #[.int .i64 p, .int .i64 k, v], .int .i64 n, u] w fun e w' => e = .returned (.tuple #[.slice none 0 0, .int .i64 z]) ∧ Below w.heap.size w w' := by
  obtain ⟨fa, fn, fc, rfl⟩ := hv
  have b1 := balloc w (.cells #[.int .i64 p, .int .i64 k, .slice fa fn fc] 24)
  obtain ⟨x0, x1, x2⟩ := fl_box p k (.slice fa fn fc) w _ (Below.refl _ _)
  have hL := ls_one (hu.rw.below b1) hu.len hu.all
  have b2 := Below.next b1 (balloc (w.alloc (.cells #[.int .i64 p, .int .i64 k, .slice fa fn fc] 24)) (.cells #[u] 25))
  have hs1 : (w.alloc (.cells #[.int .i64 p, .int .i64 k, .slice fa fn fc] 24)).heap.size = w.heap.size + 1 := by simp
  rw [hs1] at hL
  have C := hO _ _ b2 hL
  obtain ⟨ua, um, uc, rfl, Hum⟩ := hu.form
  have hne : (z != 0) = true := by simpa using h0
  obtain ⟨W1, HW1⟩ : ∃ W1, Hid ((w.alloc (.cells #[.int .i64 p, .int .i64 k, .slice fa fn fc] 24)).alloc (.cells #[.slice ua um uc] 25) = W1) := ⟨_, rfl⟩
  rw [HW1.out] at b2 C
  clear hL hO hu
  go_enter Tryd.func17, Tryd.ntmps17
  go_wp2_with (first
    | (go_at_call 23; rw [HW1.out]; refine C.mono ?_; rintro e w1 ⟨⟨rp, rk, rn, ra, rm, rc, rfl, _⟩, b3⟩; clear C)
    | (refine wpList_store_row rfl 53 _ _ rfl w1.heap.size (rmC rp rk (.slice ra rm rc) rn) rfl rfl 53 _ (rm_made w1) (inf50 _ _ _ _) rfl (rmC_one _ _ _ _ _ _) ?_; have b5 : Below w.heap.size w ((w1.alloc (.cells #[.int .i64 0, .int .i64 0, .slice none 0 0, .int .i64 0] 53)).setRow w1.heap.size (rmC rp rk (.slice ra rm rc) rn)) := Fd.bsetRow ((Below.next b2 b3).alloc (Below.next b2 b3).size _) (Below.next b2 b3).size _; revert b5; generalize ((w1.alloc (.cells #[.int .i64 0, .int .i64 0, .slice none 0 0, .int .i64 0] 53)).setRow w1.heap.size (rmC rp rk (.slice ra rm rc) rn)) = W2; intro b5))
  go_ret2
  exact ⟨rfl, b5⟩
theorem rm_inj {rp rk rn p k n : Int} {ra fa : Option Addr} {rm rc fn fc : Nat} (h : Value.agg #[.int .i64 rp, .int .i64 rk, .slice ra rm rc, .int .i64 rn] = Value.agg #[.int .i64 p, .int .i64 k, .slice fa fn fc, .int .i64 n]) : rp = p ∧ rk = k ∧ (ra = fa ∧ rm = fn ∧ rc = fc) ∧ rn = n := by
  simpa using h
/-- A basis, and no error. -/
def BaR (q : Nat) (ad mu : Nat → Nat → Nat) (n : Nat) (V : List Nat → Prop) (e : Ending) (w' : World) : Prop := ∃ x ls, e = .returned (.tuple #[x, .int .i64 0]) ∧ BasIs q ad mu n V ls ∧ Rw w' x (toZ ls)
set_option maxRecDepth 100000 in
set_option maxHeartbeats 16000000 in
theorem Basis_ok (P K n : Nat) (l : List Int) (v u : Value) (A : List (List Nat)) (w : World) (hF : Fld P K l v w) (hu : Rw w u (toZ A)) (hA : Rws (P ^ K) n A) (hAl : A.length ≤ 12) (h1 : 1 ≤ n) (hn : n ≤ 6) (hO : OpC P K n v [u] [toZ A] w 0 (rmV P K v n)) :
    Calls Tryd.prog 17 #[.agg #[.int .i64 (P : Int), .int .i64 (K : Int), v], .int .i64 (n : Int), u] w fun e w' => BaR (P ^ K) (adF P K) (muF P K l) n (Spn (P ^ K) (adF P K) (muF P K l) n A) e w' ∧ Below w.heap.size w w' := by
  have hfq := hF.fqr
  have HBas : Hid (∀ (W : World) (y : Value) (Y : List (List Nat)), Below w.heap.size w W → Rw W y (toZ Y) → Rws (P ^ K) n Y → Y.length ≤ 24 → Calls Tryd.prog 39 #[rmV P K v n, y] W fun e w' => BaA (P ^ K) (adF P K) (muF P K l) n Y e w' ∧ Below W.heap.size W w') := fun W y Y b hy hY hl => basis_any P K n l v y Y W (hF.below b) hy hY h1 hn hl
  have HA : Hid (Rws (P ^ K) n A) := hA
  obtain ⟨fa, fn, fc, rfl⟩ : ∃ fa fn fc, v = .slice fa fn fc := by obtain ⟨a, c, e, _⟩ := hF.sl; exact ⟨a, _, c, e⟩
  have b1 := balloc w (.cells #[.int .i64 (P : Int), .int .i64 (K : Int), .slice fa fn fc] 24)
  obtain ⟨x0, x1, x2⟩ := fl_box (P : Int) (K : Int) (.slice fa fn fc) w _ (Below.refl _ _)
  have hL := ls_one (hu.below b1) (by rw [toZ_lenY]; exact len_max (by omega)) (toZ_max hA hn)
  have b2 := Below.next b1 (balloc (w.alloc (.cells #[.int .i64 (P : Int), .int .i64 (K : Int), .slice fa fn fc] 24)) (.cells #[u] 25))
  have hs1 : (w.alloc (.cells #[.int .i64 (P : Int), .int .i64 (K : Int), .slice fa fn fc] 24)).heap.size = w.heap.size + 1 := by simp
  rw [hs1] at hL
  have C := hO _ _ b2 hL
  have Hu : Hid (∀ W, Below w.heap.size w W → Rw W u (toZ A)) := fun W b => hu.below b
  obtain ⟨ua, um, uc, rfl, Hum⟩ := rw_formH hu
  obtain ⟨W1, HW1⟩ : ∃ W1, Hid ((w.alloc (.cells #[.int .i64 (P : Int), .int .i64 (K : Int), .slice fa fn fc] 24)).alloc (.cells #[.slice ua um uc] 25) = W1) := ⟨_, rfl⟩
  rw [HW1.out] at b2 C
  clear hL hO hfq hF hu
  go_enter Tryd.func17, Tryd.ntmps17
  go_wp2_with (first
    | (go_at_call 23; rw [HW1.out]; refine C.mono ?_; rintro e w1 ⟨⟨rp, rk, rn, ra, rm, rc, rfl, hrv⟩, b3⟩; obtain ⟨rfl, rfl, ⟨rfl, rfl, rfl⟩, rfl⟩ : rp = (P : Int) ∧ rk = (K : Int) ∧ (ra = fa ∧ rm = fn ∧ rc = fc) ∧ rn = (n : Int) := rm_inj (hrv rfl); have r2 : RmB (w1.alloc (.cells #[.int .i64 (P : Int), .int .i64 (K : Int), .slice ra rm rc, .int .i64 (n : Int)] 53)) w1.heap.size (P : Int) (K : Int) (.slice ra rm rc) (n : Int) := heap_alloc_new w1 _; have b5 : Below w.heap.size w (w1.alloc (.cells #[.int .i64 (P : Int), .int .i64 (K : Int), .slice ra rm rc, .int .i64 (n : Int)] 53)) := Below.next (Below.next b2 b3) (balloc w1 _); obtain ⟨c0, c1, c2, c3⟩ := r2.cells; clear C hrv)
    | (go_at_call 39; refine (HBas.out _ _ A b5 (Hu.out _ b5) HA.out (by omega)).mono ?_; rintro e w3 ⟨⟨y, Y, rfl, hY, hy⟩, b6⟩))
  go_ret2
  exact ⟨⟨_, _, rfl, hY, hy⟩, Below.next b5 b6⟩
set_option maxRecDepth 100000 in
set_option maxHeartbeats 16000000 in
theorem Normal_ok (P K n : Nat) (l : List Int) (v u : Value) (A : List (List Nat)) (w : World) (hF : Fld P K l v w) (hu : Rw w u (toZ A)) (hA : Rws (P ^ K) n A) (hAl : A.length ≤ 12) (h1 : 1 ≤ n) (hn : n ≤ 6) (hO : OpC P K n v [u] [toZ A] w 0 (rmV P K v n)) :
    Calls Tryd.prog 10 #[.agg #[.int .i64 (P : Int), .int .i64 (K : Int), v], .int .i64 (n : Int), u] w fun e w' => BaR (P ^ K) (adF P K) (muF P K l) n (Nrm (P ^ K) (adF P K) (muF P K l) n A) e w' ∧ Below w.heap.size w w' := by
  have hfq := hF.fqr
  have HNor : Hid (∀ (W : World) (y : Value) (Y : List (List Nat)), Below w.heap.size w W → Rw W y (toZ Y) → Rws (P ^ K) n Y → Y.length ≤ 24 → Calls Tryd.prog 24 #[rmV P K v n, y] W fun e w' => NoA (P ^ K) (adF P K) (muF P K l) n Y e w' ∧ Below W.heap.size W w') := fun W y Y b hy hY hl => normal_any P K n l v y Y W (hF.below b) hy hY h1 hn hl
  have HA : Hid (Rws (P ^ K) n A) := hA
  obtain ⟨fa, fn, fc, rfl⟩ : ∃ fa fn fc, v = .slice fa fn fc := by obtain ⟨a, c, e, _⟩ := hF.sl; exact ⟨a, _, c, e⟩
  have b1 := balloc w (.cells #[.int .i64 (P : Int), .int .i64 (K : Int), .slice fa fn fc] 24)
  obtain ⟨x0, x1, x2⟩ := fl_box (P : Int) (K : Int) (.slice fa fn fc) w _ (Below.refl _ _)
  have hL := ls_one (hu.below b1) (by rw [toZ_lenY]; exact len_max (by omega)) (toZ_max hA hn)
  have b2 := Below.next b1 (balloc (w.alloc (.cells #[.int .i64 (P : Int), .int .i64 (K : Int), .slice fa fn fc] 24)) (.cells #[u] 25))
  have hs1 : (w.alloc (.cells #[.int .i64 (P : Int), .int .i64 (K : Int), .slice fa fn fc] 24)).heap.size = w.heap.size + 1 := by simp
  rw [hs1] at hL
  have C := hO _ _ b2 hL
  have Hu : Hid (∀ W, Below w.heap.size w W → Rw W u (toZ A)) := fun W b => hu.below b
  obtain ⟨ua, um, uc, rfl, Hum⟩ := rw_formH hu
  obtain ⟨W1, HW1⟩ : ∃ W1, Hid ((w.alloc (.cells #[.int .i64 (P : Int), .int .i64 (K : Int), .slice fa fn fc] 24)).alloc (.cells #[.slice ua um uc] 25) = W1) := ⟨_, rfl⟩
  rw [HW1.out] at b2 C
  clear hL hO hfq hF hu
  go_enter Tryd.func10, Tryd.ntmps10
  go_wp2_with (first
    | (go_at_call 23; rw [HW1.out]; refine C.mono ?_; rintro e w1 ⟨⟨rp, rk, rn, ra, rm, rc, rfl, hrv⟩, b3⟩; obtain ⟨rfl, rfl, ⟨rfl, rfl, rfl⟩, rfl⟩ : rp = (P : Int) ∧ rk = (K : Int) ∧ (ra = fa ∧ rm = fn ∧ rc = fc) ∧ rn = (n : Int) := rm_inj (hrv rfl); have r2 : RmB (w1.alloc (.cells #[.int .i64 (P : Int), .int .i64 (K : Int), .slice ra rm rc, .int .i64 (n : Int)] 53)) w1.heap.size (P : Int) (K : Int) (.slice ra rm rc) (n : Int) := heap_alloc_new w1 _; have b5 : Below w.heap.size w (w1.alloc (.cells #[.int .i64 (P : Int), .int .i64 (K : Int), .slice ra rm rc, .int .i64 (n : Int)] 53)) := Below.next (Below.next b2 b3) (balloc w1 _); obtain ⟨c0, c1, c2, c3⟩ := r2.cells; clear C hrv)
    | (go_at_call 24; refine (HNor.out _ _ A b5 (Hu.out _ b5) HA.out (by omega)).mono ?_; rintro e w3 ⟨⟨y, Y, rfl, hY, hy⟩, b6⟩))
  go_ret2
  exact ⟨⟨_, _, rfl, hY, hy⟩, Below.next b5 b6⟩
end Go.Proofs.YtjfjdidibglhaabDoor
