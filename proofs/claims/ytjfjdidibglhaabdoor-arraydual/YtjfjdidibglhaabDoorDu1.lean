/- The least weight of what is normal to a space, found by looking at all; the runs of a space as a list of rows. -/
import Derived.Test.YtjfjdidibglhaabDoorA3
import Derived.Test.YtjfjdidibglhaabDoorM3
import Derived.Test.YtjfjdidibglhaabDoorArV
import Derived.Test.YtjfjdidibglhaabDoorArF
/- array.Linear, walked. -/
namespace Go.Proofs.YtjfjdidibglhaabDoor
open Go.RowKit

open Classical in
/-- All of a space, one after another. -/
noncomputable def lnL (q : Nat) (ad mu : Nat → Nat → Nat) (n : Nat) (S : List (List Nat)) : List (List Nat) := liL q n fun v => decide (Spn q ad mu n S v)
/-- What is wrong with it, and what is told. -/
noncomputable def lnZ (q : Nat) (ad mu : Nat → Nat → Nat) (n : Nat) (S : List (List Nat)) : Nat := if 128 < (lnL q ad mu n S).length then 3 else 0
noncomputable def lnR (q : Nat) (ad mu : Nat → Nat → Nat) (n : Nat) (S : List (List Nat)) : List (List Nat) := if 128 < (lnL q ad mu n S).length then [] else lnL q ad mu n S
theorem lnL_bas {q n : Nat} {ad mu : Nat → Nat → Nat} {ng : Nat → Nat} (h : FqR q ad mu ng) {S R : List (List Nat)} (hR : BasIs q ad mu n (Spn q ad mu n S) R) : spL q ad mu n R = lnL q ad mu n S := spL_doc h (hR.congr fun v => by simp)
theorem rw_nil (w : World) : Rw w (.slice none 0 0) (toZ []) := ⟨none, 0, rfl, fun i l h => by simp [toZ] at h⟩

set_option maxRecDepth 100000 in
set_option maxHeartbeats 8000000 in
theorem Linear_err (p k n z : Int) (v u : Value) (w : World) (hv : ∃ a m c, v = .slice a m c) (hu : ∃ a m c, u = .slice a m c) (h0 : z ≠ 0)
    (hC : ∀ W, Below w.heap.size w W → Calls Tryd.prog 17 #[.agg #[.int .i64 p, .int .i64 k, v], .int .i64 n, u] W fun e w' => (∃ a m c, e = .returned (.tuple #[.slice a m c, .int .i64 z])) ∧ Below W.heap.size W w') :
    Calls Tryd.prog 7 #[.agg #[.int .i64 p, .int .i64 k, v], .int .i64 n, u] w fun e w' => e = .returned (.tuple #[.slice none 0 0, .int .i64 z]) ∧ Below w.heap.size w w' := by
  obtain ⟨fa, fn, fc, rfl⟩ := hv
  obtain ⟨ua, um, uc, rfl⟩ := hu
  have b1 := balloc w (.cells #[.int .i64 p, .int .i64 k, .slice fa fn fc] 24)
  obtain ⟨x0, x1, x2⟩ := fl_box p k (.slice fa fn fc) w _ (Below.refl _ _)
  have C := hC _ b1
  have hne : (z != 0) = true := by simpa using h0
  clear hC
  go_enter Tryd.func7, Tryd.ntmps7
  go_wp2_with (go_at_call 17; refine C.mono ?_; rintro e w1 ⟨⟨ra, rm, rc, rfl⟩, b2⟩; clear C)
  go_ret2
  exact ⟨rfl, Below.next b1 b2⟩
set_option maxRecDepth 100000 in
set_option maxHeartbeats 8000000 in
theorem Linear_ok (P K n : Nat) (l : List Int) (v u : Value) (S : List (List Nat)) (w : World) (hF : Fld P K l v w) (h1 : 1 ≤ n) (hn : n ≤ 6) (hf : (P ^ K) ^ n ≤ 4096) (hu : ∃ a m c, u = .slice a m c)
    (hC : ∀ W, Below w.heap.size w W → Calls Tryd.prog 17 #[.agg #[.int .i64 (P : Int), .int .i64 (K : Int), v], .int .i64 (n : Int), u] W fun e w' => AnsB (P ^ K) (adF P K) (muF P K l) n (Spn (P ^ K) (adF P K) (muF P K l) n S) 0 e w' ∧ Below W.heap.size W w') :
    Calls Tryd.prog 7 #[.agg #[.int .i64 (P : Int), .int .i64 (K : Int), v], .int .i64 (n : Int), u] w fun e w' => ∃ x, e = .returned (.tuple #[x, .int .i64 (lnZ (P ^ K) (adF P K) (muF P K l) n S : Int)]) ∧ Rw w' x (toZ (lnR (P ^ K) (adF P K) (muF P K l) n S)) ∧ Below w.heap.size w w' := by
  have hfq := hF.fqr
  have HF : Hid (∀ W, Below w.heap.size w W → Fld P K l v W) := fun W b => hF.below b
  have HL : Hid (∀ R, BasIs (P ^ K) (adF P K) (muF P K l) n (Spn (P ^ K) (adF P K) (muF P K l) n S) R → (P ^ K) ^ R.length ≤ 4096 ∧ (lnL (P ^ K) (adF P K) (muF P K l) n S).length = (P ^ K) ^ R.length ∧ R.length ≤ 6 ∧ Rws (P ^ K) n R ∧ spL (P ^ K) (adF P K) (muF P K l) n R = lnL (P ^ K) (adF P K) (muF P K l) n S) := fun R hR => by
    have h2 := rref_le hR.rref
    have h3 := lnL_bas hfq hR
    exact ⟨Nat.le_trans (Nat.pow_le_pow_right hfq.pos h2) hf, by rw [← h3]; exact spL_len _ R rfl, by omega, hR.rref.rws, h3⟩
  have hP1 : 1 ≤ P := by have := hF.good.field.two; omega
  have hP61 := hF.good.le61
  have hK6 := hF.good.le6
  have h64 := hF.good.le64
  have hpos := hfq.pos
  obtain ⟨q, Hq⟩ : ∃ q, Hid (P ^ K = q) := ⟨_, rfl⟩
  have CP := fun W => apow_small P K W hP1 (by omega) (by omega) q Hq
  have HSpn : Hid (∀ W (x : Value) (R : List (List Nat)), Below w.heap.size w W → Rw W x (toZ R) → Rws (P ^ K) n R → R.length ≤ 6 → (P ^ K) ^ R.length ≤ 128 → Calls Tryd.prog 19 #[.agg #[.int .i64 (P : Int), .int .i64 (K : Int), v], .int .i64 (q : Int), .int .i64 (n : Int), x] W fun e w' => ∃ x, e = .returned x ∧ Rw w' x (toZ (spL (P ^ K) (adF P K) (muF P K l) n R)) ∧ Below W.heap.size W w') := fun W x R b hx hR h6 hk =>
    spanned_any P K n q l R v x W (hF.below b) Hq hx hR h1 hn h6 hk
  obtain ⟨ad, Had⟩ : ∃ ad, Hid (adF P K = ad) := ⟨_, rfl⟩
  obtain ⟨mu, Hmu⟩ : ∃ mu, Hid (muF P K l = mu) := ⟨_, rfl⟩
  rw [Had.out, Hmu.out] at hC HL HSpn ⊢
  rw [Hq.out] at hC HL HSpn h64 hpos ⊢
  obtain ⟨ua, um, uc, rfl⟩ := hu
  obtain ⟨fa, fn, fc, rfl⟩ : ∃ fa fn fc, v = .slice fa fn fc := by obtain ⟨a, c, e, _⟩ := hF.sl; exact ⟨a, _, c, e⟩
  have b1 := balloc w (.cells #[.int .i64 (P : Int), .int .i64 (K : Int), .slice fa fn fc] 24)
  have HX := fl_box (P : Int) (K : Int) (.slice fa fn fc) w
  obtain ⟨w0, Hw0⟩ : ∃ w0, Hid (w.alloc (.cells #[.int .i64 (P : Int), .int .i64 (K : Int), .slice fa fn fc] 24) = w0) := ⟨_, rfl⟩
  rw [Hw0.out] at b1 HX
  have HX2 : Hid (∀ W, Below w0.heap.size w0 W → (W.cell? ⟨w.heap.size, 0, none⟩ = some (.int .i64 (P : Int)) ∧ W.cell? ⟨w.heap.size, 1, none⟩ = some (.int .i64 (K : Int)) ∧ W.cell? ⟨w.heap.size, 2, none⟩ = some (.slice fa fn fc))) := HX
  have C := hC _ b1
  obtain ⟨x0, x1, x2⟩ := HX2.out w0 (Below.refl _ _)
  rw [← Hw0.out] at x0 x1 x2
  clear hC hF hfq HX Hq Had Hmu
  go_enter Tryd.func7, Tryd.ntmps7
  go_wp2_with (first
    | (go_at_call 17; rw [Hw0.out]; refine C.mono ?_; rintro e w1 ⟨⟨ba, bm, bc, rfl, hbm, hls⟩, b2⟩; clear C x0 x1 x2; obtain ⟨x0, x1, x2⟩ := HX2.out w1 b2)
    | (go_at_call 18; fail))
  obtain ⟨R, hR, Hbm, hRw⟩ := hls (by trivial)
  obtain ⟨k1, k2, k3, k4, k5⟩ := HL.out R hR
  rw [Hbm.out] at k1 k2 k3
  have hB := Below.next b1 b2
  have CP1 := CP w1
  obtain ⟨t, Ht⟩ : ∃ t, Hid (q ^ bm = t) := ⟨_, rfl⟩
  have CP2 := fun W => apow_small q bm W hpos h64 (by omega) t Ht
  rw [Ht.out] at k1 k2
  have HRR : Hid (R.length ≤ 6 ∧ Rws q n R ∧ q ^ R.length = t) := ⟨by rw [Hbm.out]; exact k3, k4, by rw [Hbm.out, Ht.out]⟩
  have HR1 : Hid (Rw w1 (.slice ba bm bc) (toZ R)) := hRw
  have Hk2 : Hid ((lnL q ad mu n S).length = t) := k2
  have Hk5 : Hid (spL q ad mu n R = lnL q ad mu n S) := k5
  clear CP HL hls hR hRw k4 k5 k2
  by_cases hbig : 128 < t
  · have hd : decide ((128 : Int) < (t : Int)) = true := by simp; omega
    have HZ : Hid (lnZ q ad mu n S = 3 ∧ lnR q ad mu n S = []) := by unfold lnZ lnR; rw [Hk2.out]; exact ⟨if_pos hbig, if_pos hbig⟩
    go_wp2_with (go_at_call 18; refine CP1.mono ?_; rintro e w2 ⟨rfl, rfl⟩; clear CP1)
    have C2 := CP2 w2
    go_wp2_with (go_at_call 18; refine C2.mono ?_; rintro e w3 ⟨rfl, rfl⟩; clear C2)
    go_ret2
    exact ⟨_, by rw [HZ.out.1]; rfl, by rw [HZ.out.2]; exact rw_nil _, hB⟩
  · have hd : decide ((128 : Int) < (t : Int)) = false := by simp; omega
    have HZ : Hid (lnZ q ad mu n S = 0 ∧ lnR q ad mu n S = lnL q ad mu n S) := by unfold lnZ lnR; rw [Hk2.out]; exact ⟨if_neg hbig, if_neg hbig⟩
    have C3 := HSpn.out w1 _ R hB HR1.out HRR.out.2.1 HRR.out.1 (by rw [HRR.out.2.2]; omega)
    rw [Hk5.out] at C3
    go_wp2_with (go_at_call 18; refine CP1.mono ?_; rintro e w2 ⟨rfl, rfl⟩; clear CP1)
    have C2 := CP2 w2
    go_wp2_with (first
      | (go_at_call 18; refine C2.mono ?_; rintro e w3 ⟨rfl, rfl⟩; clear C2)
      | (go_at_call 19; refine C3.mono ?_; rintro e w4 ⟨x, rfl, hx, b4⟩; clear C3; obtain ⟨xa, xm, xc, rfl, _⟩ := rw_formH hx))
    go_ret2
    exact ⟨_, by rw [HZ.out.1]; rfl, by rw [HZ.out.2]; exact hx, Below.next hB b4⟩
end Go.Proofs.YtjfjdidibglhaabDoor

namespace Go.Proofs.YtjfjdidibglhaabDoor
open Go.RowKit

theorem fnA_nat (l : List Nat) (c : Nat) : fnA (l.map Int.ofNat) c = l.getD c 0 := by
  unfold fnA
  rw [List.getD_eq_getElem?_getD, List.getD_eq_getElem?_getD, List.getElem?_map]
  cases l[c]? <;> rfl
theorem rnA_toZ (L : List (List Nat)) : rnA (toZ L) = L.map fun l c => l.getD c 0 := by
  unfold rnA toZ
  rw [List.map_map]
  refine List.map_congr_left fun l _ => ?_
  funext c
  exact fnA_nat l c
theorem rn_tie (q : Nat) (ad mu : Nat → Nat → Nat) (n : Nat) (S : List (List Nat)) : rnA (toZ (lnL q ad mu n S)) = rnL q ad mu n S := by
  rw [rnA_toZ]
  rfl
theorem lnL_row {q n : Nat} {ad mu : Nat → Nat → Nat} {S : List (List Nat)} {r : List Nat} (h : 0 < q) (hr : r ∈ lnL q ad mu n S) : Vc q n r := by
  unfold lnL liL at hr
  obtain ⟨c, _, rfl⟩ := List.mem_map.1 hr
  exact opn_vc h n c
theorem lnL_mem {q n : Nat} {ad mu : Nat → Nat → Nat} {ng : Nat → Nat} (h : FqR q ad mu ng) {S : List (List Nat)} (hS : Rws q n S) {r : List Nat} : r ∈ lnL q ad mu n S ↔ Spn q ad mu n S r := by
  unfold lnL liL
  simp only [List.mem_map, List.mem_filter, List.mem_range, decide_eq_true_eq]
  constructor
  · rintro ⟨c, ⟨_, hc⟩, rfl⟩
    exact hc
  · intro hv
    have hm := (mem_allV h.pos).2 (hv.vc h hS)
    unfold allV at hm
    obtain ⟨c, hc, rfl⟩ := List.mem_map.1 hm
    exact ⟨c, ⟨List.mem_range.1 hc, hv⟩, rfl⟩
theorem good_ln {q n : Nat} {ad mu : Nat → Nat → Nat} {ng : Nat → Nat} (h : FqR q ad mu ng) {S : List (List Nat)} (hS : Rws q n S) (h64 : q ≤ 64) (h1 : 1 ≤ n) (h6 : n ≤ 6) (hl : (lnL q ad mu n S).length ≤ 128) : GoodA q n (toZ (lnL q ad mu n S)) where
  s2 := h.one
  s64 := h64
  n1 := by
    rw [toZ_len]
    exact List.length_pos_of_mem ((lnL_mem h hS).2 (.zero))
  n128 := by rw [toZ_len]; exact hl
  k1 := h1
  k8 := by omega
  len := fun l hl => by
    obtain ⟨r, hr, rfl⟩ := List.mem_map.1 hl
    rw [List.length_map]
    exact (lnL_row h.pos hr).len
  bel := fun l hl j hj => by
    obtain ⟨r, hr, rfl⟩ := List.mem_map.1 hl
    have hv := (lnL_row h.pos hr).at h.pos j
    have e : (r.map Int.ofNat).getD j 0 = ((r.getD j 0 : Nat) : Int) := by
      rw [List.getD_eq_getElem?_getD, List.getD_eq_getElem?_getD, List.getElem?_map]
      cases r[j]? <;> rfl
    rw [e]
    omega
theorem wt_step (i : Nat) (v : List Nat) : wtV (i + 1) v = wtV i v + if v.getD i 0 = 0 then 0 else 1 := by
  unfold wtV
  rw [List.range_succ, List.filter_append, List.length_append]
  by_cases h : v.getD i 0 = 0
  · rw [if_pos h]
    simp [-List.getD_eq_getElem?_getD, h]
  · rw [if_neg h]
    simp [-List.getD_eq_getElem?_getD, h]
/-- The least weight of those marked below c; n + 1 where there are none. -/
def LeW (q n : Nat) (V : Nat → Bool) (c m : Nat) : Prop := (∀ d, 1 ≤ d → d < c → V d = true → m ≤ wtV n (opn q n d)) ∧ (m = n + 1 ∨ ∃ d, 1 ≤ d ∧ d < c ∧ V d = true ∧ wtV n (opn q n d) = m)
theorem leW_start (q n : Nat) (V : Nat → Bool) : LeW q n V 1 (n + 1) := ⟨fun d h1 h2 => by omega, .inl rfl⟩
theorem LeW.skip {q n : Nat} {V : Nat → Bool} {c m : Nat} (h : LeW q n V c m) (hc : V c = false) : LeW q n V (c + 1) m := by
  refine ⟨fun d h1 h2 h3 => ?_, h.2.imp id fun ⟨d, h1, h2, h3⟩ => ⟨d, h1, by omega, h3⟩⟩
  by_cases e : d = c
  · rw [e, hc] at h3; cases h3
  · exact h.1 d h1 (by omega) h3
theorem LeW.less {q n : Nat} {V : Nat → Bool} {c m : Nat} (h : LeW q n V c m) (h0 : 1 ≤ c) (hc : V c = true) (hw : wtV n (opn q n c) < m) : LeW q n V (c + 1) (wtV n (opn q n c)) := by
  refine ⟨fun d h1 h2 h3 => ?_, .inr ⟨c, h0, by omega, hc, rfl⟩⟩
  by_cases e : d = c
  · rw [e]; exact Nat.le_refl _
  · have := h.1 d h1 (by omega) h3
    omega
theorem LeW.more {q n : Nat} {V : Nat → Bool} {c m : Nat} (h : LeW q n V c m) (hw : ¬ wtV n (opn q n c) < m) : LeW q n V (c + 1) m := by
  refine ⟨fun d h1 h2 h3 => ?_, h.2.imp id fun ⟨d, h1, h2, h3⟩ => ⟨d, h1, by omega, h3⟩⟩
  by_cases e : d = c
  · rw [e]; omega
  · exact h.1 d h1 (by omega) h3
theorem LeW.dual {q n : Nat} {ad mu : Nat → Nat → Nat} {ng : Nat → Nat} (h : FqR q ad mu ng) {S M : List (List Nat)} (hS : Rws q n S) (hM : BasIs q ad mu n (Nrm q ad mu n S) M) {V : Nat → Bool} (hV : ∀ c, c < q ^ n → (V c = true ↔ Spn q ad mu n M (opn q n c))) {t m : Nat}
    (hs : StrIs q n (rnL q ad mu n S) t) (hw : LeW q n V (q ^ n) m) : t = m - 1 ∧ 1 ≤ m ∧ m ≤ n + 1 := by
  have hne : ∀ d, 1 ≤ d → d < q ^ n → opn q n d ≠ zV n := fun d h1 h2 e => by
    have k := shu_opn (q := q) n d h2
    have k0 := shu_opn (q := q) n 0 (by omega)
    rw [e] at k
    rw [opn_null] at k0
    omega
  have hpos : ∀ v, Vc q n v → v ≠ zV n → 1 ≤ wtV n v := fun v hv hz => by
    refine Classical.byContradiction fun h0 => hz (zV_of hv.len fun j hj => Classical.byContradiction fun e => ?_)
    have hm : j ∈ (List.range n).filter fun j => v.getD j 0 != 0 := List.mem_filter.2 ⟨List.mem_range.2 hj, by simpa using e⟩
    have := List.length_pos_of_mem hm
    unfold wtV at h0
    omega
  have h1 : 1 ≤ m := by
    rcases hw.2 with e | ⟨d, k1, k2, _, e⟩
    · omega
    · rw [← e]; exact hpos _ (opn_vc h.pos n d) (hne d k1 k2)
  have hle : m ≤ n + 1 := by
    rcases hw.2 with e | ⟨d, k1, k2, _, e⟩
    · omega
    · have := wt_le n (opn q n d); omega
  refine ⟨dual_least h hS hs (fun v hv hz => ?_) (hw.2.imp id fun ⟨d, k1, k2, k3, e⟩ => ⟨opn q n d, (hM.same _).1 ((hV d k2).1 k3), hne d k1 k2, e⟩) h1, h1, hle⟩
  have hlt := shu_lt h.pos n v hv.1
  have ho := opn_shu h.pos n v hv.1
  have h0 : shu q v ≠ 0 := fun e => hz (by rw [← ho, e, opn_null])
  have k := hw.1 (shu q v) (by omega) hlt ((hV _ hlt).2 (by rw [ho]; exact (hM.same v).2 hv))
  rwa [ho] at k
end Go.Proofs.YtjfjdidibglhaabDoor
