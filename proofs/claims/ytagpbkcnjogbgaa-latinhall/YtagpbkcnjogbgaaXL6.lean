/- Each rectangle can go on. -/
import Derived.Test.YtagpbkcnjogbgaaX11
import Derived.Test.YtagpbkcnjogbgaaP14
import Derived.Test.YtagpbkcnjogbgaaRRB
namespace Go.Proofs.Ytagpbkcnjogbgaa
open Go.RowKit Go.Maps

theorem part_good {n : Nat} {F : List Nat} (h1 : 1 ≤ n) (h8 : n ≤ 8) (hl : F.length = n * n) (hP : Part n F) : GoodS n (F.map Int.ofNat) := by
  have hg : ∀ k, k < F.length → (F.map Int.ofNat).getD k 0 = (F.getD k 0 : Int) := fun k hk => by simp [hk]
  have hm : ∀ k, k < F.length → F.getD k 0 < n := fun k hk => hP.lt _ (by rw [List.getD_eq_getElem?_getD, List.getElem?_eq_getElem hk]; exact List.getElem_mem hk)
  have hon : onB n (F.map Int.ofNat) = true := by
    rw [onB_iff]
    intro i k hki hi e
    rw [List.length_map] at hi
    rw [hg i hi, hg k (by omega)] at e
    have := hP.once i k hki hi (by omega)
    exact ⟨fun e => this.1 e.symm, fun e => this.2 e.symm⟩
  have hlen : (F.map Int.ofNat).length = n * n := by rw [List.length_map]; exact hl
  refine ⟨h1, h8, hlen, fun k hk => ?_, ?_⟩
  · rw [hg k (by omega)]
    have := hm k (by omega)
    omega
  · refine ap_lat ((onB_ap hlen fun j hj => ?_).1 hon) fun i j hi hj => ?_
    · rw [List.length_map] at hj
      rw [hg j hj]; omega
    · unfold sq
      have hk := cell_lt hi hj
      rw [hg _ (by omega)]
      have := hm _ (show i * n + j < F.length by omega)
      omega
theorem orow_room {w : World} {base n : Nat} {v : Value} {xs : List Value} (h : w.ownsRow base 3 1 v n xs) (hn : 0 < n) : ∃ g cap, v = .slice (some ⟨g, 0, none⟩) n cap ∧ n ≤ cap ∧ cap ≤ maxLen ∧ g < w.heap.size := by
  obtain ⟨_, ⟨_, h0⟩ | ⟨g, cap, cur, rfl, _, h7, h8, h9, _⟩⟩ := h
  · omega
  · exact ⟨g, cap, rfl, h8, h9, (Array.getElem?_eq_some_iff.1 h7).1⟩
theorem sl_part {w : World} {g n z cap : Nat} {F : List Int} {l : List Int} {p cap' : Nat} (h : Sl w (.slice (some ⟨g, 0, none⟩) z cap) F) (hl : l.length = n) (hz : p + n ≤ z) (hx : ∀ j, j < n → F.getD (p + j) 0 = l.getD j 0) : Sl w (.slice (some ⟨g, p, none⟩) n cap') l := by
  obtain ⟨a, c, e, hc⟩ := h
  simp only [Value.slice.injEq] at e
  obtain ⟨rfl, e2, -⟩ := e
  subst hl
  refine ⟨_, cap', rfl, fun j hj => ⟨g, p, rfl, ?_⟩⟩
  obtain ⟨b, o, e3, h4⟩ := hc (p + j) (by omega)
  simp only [Option.some.injEq, Addr.mk.injEq, and_true] at e3
  obtain ⟨rfl, rfl⟩ := e3
  rw [Nat.zero_add] at h4
  rw [h4, hx j hj]

set_option maxHeartbeats 4000000 in
theorem Hall_bad (n : Int) (ls : List (List Int)) (v : Value) (w : World) (hv : CameR ls v w) (h : eF n ls ≠ 0) :
    Calls Try.prog 6 #[.int .i64 n, v] w fun e w' => e = .returned (.bool true) ∧ Below w.heap.size w w' := by
  obtain ⟨hr, hnil, hll, hle⟩ := id hv
  have C1 := latinFact_any w
  have C2 : Hid (∀ W, Below w.heap.size w W → Calls Try.prog 15 #[.int .i64 n, v] W fun e w' => e = .returned (.tuple #[.agg #[.int .i64 0, .slice none 0 0], .int .i64 (eF n ls : Int)]) ∧ Below W.heap.size W w') := fun W bW => Extend_bad n ls v W (hr.below bW) hll hle h
  have C3 : Hid (∀ W, Below w.heap.size w W → Calls Try.prog 14 #[.int .i64 n, v] W fun e w' => e = .returned (.int .i64 (eF n ls : Int)) ∧ Below W.heap.size W w') := fun W bW => ExtendFault_any n ls v W (hr.below bW) hll hle
  have hz : ((eF n ls : Int) != 0) = true := by simp; omega
  have hz3 : ((eF n ls : Int) == (eF n ls : Int)) = true := by simp
  obtain ⟨va, vc, rfl, _⟩ := hr
  generalize eF n ls = z at *
  clear hnil hll hle h hv
  go_enter Try.func6, Try.ntmps6
  go_wp2_with (first
    | (go_at_call 18; refine C1.mono ?_; rintro e w1 ⟨rfl, b1⟩; clear C1)
    | (go_at_call 15; refine (C2.out _ b1).mono ?_; rintro e w2 ⟨rfl, b2⟩; have d2 := Below.next b1 b2; have d3 := Below.next d2 (balloc w2 (.cells #[.int .i64 0, .slice none 0 0] 24)); clear C2)
    | (go_at_call 14; refine (C3.out _ d3).mono ?_; rintro e w4 ⟨rfl, b4⟩; clear C3))
  go_ret
  exact ⟨rfl, Below.next d3 b4⟩
set_option maxRecDepth 100000 in
set_option maxHeartbeats 8000000 in
theorem Hall_ok (n : Nat) (all : List (List Nat)) (v : Value) (w : World) (h1 : 1 ≤ n) (hn : n ≤ 8) (hv : CameR (toI all) v w) (h : eF n (toI all) = 0) (ha : all.length ≤ n) (hr : ∀ r ∈ all, r.length = n) (hP : Part n all.flatten) :
    Calls Try.prog 6 #[.int .i64 (n : Int), v] w fun e w' => e = .returned (.bool true) ∧ Below w.heap.size w w' := by
  obtain ⟨hR, hnil, hll, hle⟩ := id hv
  have C1 := latinFact_any w
  have hgo := goOn_fill (m := n - all.length) hr hP (by omega)
  obtain ⟨F, hF⟩ : ∃ F, (goOn n (n - all.length) all).flatten = F := ⟨_, rfl⟩
  obtain ⟨z, Hz⟩ : ∃ z, Hid (z = n * n) := ⟨_, (rfl : n * n = n * n)⟩
  have hlen : Hid (F.length = z) := by
    show _ = _
    rw [← hF, flat_len hgo.2.2.1, hgo.2.1, Hz.out]
  have hz1 : 1 ≤ z := by rw [Hz.out]; exact Nat.mul_pos h1 h1
  have hz99 : z ≤ 99 := by rw [Hz.out]; exact Nat.le_trans (Nat.mul_le_mul hn hn) (by decide)
  have HG : Hid (GoodS n (F.map Int.ofNat)) := part_good h1 hn (by rw [hlen.out, Hz.out]) (by rw [← hF]; exact hgo.2.2.2.1)
  obtain ⟨m, Hm⟩ : ∃ m, Hid (all.length = m) := ⟨_, rfl⟩
  have hmn : m ≤ n := by rw [← Hm.out]; exact ha
  have HAT : Hid (∀ i j, i < m → j < n → (F.map Int.ofNat).getD (i * n + j) 0 = ((all.getD i []).map Int.ofNat).getD j 0) := fun i j hi hj => by
    obtain ⟨more, hmo⟩ := hgo.2.2.2.2
    have hi' : i < all.length := by rw [Hm.out]; exact hi
    have e := flat_at hgo.2.2.1 (i := i) (j := j) (by rw [hgo.2.1]; omega) hj
    have e2 : (goOn n (n - all.length) all).getD i [] = all.getD i [] := by
      rw [hmo, List.getD_eq_getElem?_getD, List.getElem?_append_left hi', ← List.getD_eq_getElem?_getD]
    rw [hF, e2] at e
    have hrow : (all.getD i []).length = n := hr _ (by rw [List.getD_eq_getElem?_getD, List.getElem?_eq_getElem hi']; exact List.getElem_mem hi')
    have hk : i * n + j < F.length := by rw [hlen.out, Hz.out]; exact cell_lt (by omega) hj
    have j2 : j < (all.getD i []).length := by rw [hrow]; exact hj
    generalize all.getD i [] = q at *
    rw [List.getD_eq_getElem?_getD, List.getElem?_eq_getElem hk] at e
    simp only [Option.getD_some] at e
    simp [hk, j2, e]
  have C2 : Hid (∀ W, Below w.heap.size w W → Calls Try.prog 15 #[.int .i64 (n : Int), v] W fun e w' => (∃ g cap, e = .returned (.tuple #[.agg #[.int .i64 (n : Int), .slice (some ⟨g, 0, none⟩) z cap], .int .i64 0]) ∧ Hid (z ≤ cap ∧ cap ≤ maxLen) ∧ Hid (Sl w' (.slice (some ⟨g, 0, none⟩) z cap) (F.map Int.ofNat))) ∧ Below W.heap.size W w') := fun W bW => (Extend_ok n all v W h1 hn (hR.below bW) hnil h ha hr hP).mono fun e w' ⟨⟨y, h1, h2⟩, h3⟩ => by
    rw [hF, ← Hz.out] at h2
    obtain ⟨g, cap, rfl, h4, h5, _⟩ := orow_room h2 (by omega)
    exact ⟨⟨g, cap, h1, ⟨h4, h5⟩, vn_sl (by rw [hlen.out]; exact h2)⟩, h3⟩
  have C3 : Hid (∀ W y, Sl W y (F.map Int.ofNat) → Calls Try.prog 19 #[.agg #[.int .i64 (n : Int), y]] W fun e w' => e = .returned (.int .i64 0) ∧ Below W.heap.size W w') := fun W y hy => by
    have := Check_any n (F.map Int.ofNat) y W hy (by rw [List.length_map, hlen.out]; unfold maxLen; omega)
    rw [lF_good HG.out] at this
    exact this
  have HV : Hid (Rw w v (toI all)) := hR
  have HL : Hid (∀ r ∈ all, r.length = n) := hr
  obtain ⟨va, vc, ev, _⟩ := hR
  rw [toI_len, Hm.out] at ev
  subst ev
  rename_i hjunk
  clear hjunk hnil hll hle h hv hP hgo hF ha hr HG
  go_enter Try.func6, Try.ntmps6
  go_wp2_with (first
    | (go_at_call 18; refine C1.mono ?_; rintro e w1 ⟨rfl, b1⟩; clear C1)
    | (go_at_call 15; refine (C2.out _ b1).mono ?_; rintro e w2 ⟨⟨g, cap, rfl, hcap, sy⟩, b2⟩; have d2 := Below.next b1 b2; have d3 := Below.next d2 (balloc w2 (.cells #[.int .i64 (n : Int), .slice (some ⟨g, 0, none⟩) z cap] 24)); clear C2)
    | (go_at_call 19; refine (C3.out _ _ (sy.out.below (balloc w2 _))).mono ?_; rintro e w4 ⟨rfl, b4⟩; have k4 := (b4.block w2.heap.size (by simp)).trans (heap_alloc_new w2 (.cells #[.int .i64 (n : Int), .slice (some ⟨g, 0, none⟩) z cap] 24)); have x0 : w4.cell? ⟨w2.heap.size, 0, none⟩ = some (.int .i64 (n : Int)) := (by rw [cell_of_row _ _ _ _ _ _ k4]; rfl); have x1 : w4.cell? ⟨w2.heap.size, 1, none⟩ = some (.slice (some ⟨g, 0, none⟩) z cap) := (by rw [cell_of_row _ _ _ _ _ _ k4]; rfl); have hlt4 : w2.heap.size < w4.heap.size := (Array.getElem?_eq_some_iff.1 k4).1; have hsy : Hid (Sl w4 (.slice (some ⟨g, 0, none⟩) z cap) (F.map Int.ofNat)) := (sy.out.below (balloc w2 _)).below b4; have d4 := Below.next d3 b4; clear C3))
  obtain ⟨B, HB⟩ : ∃ B, Hid (w2.heap.size = B) := ⟨_, rfl⟩
  rw [HB.out] at x1 hlt4 ⊢
  have K4 : Hid (w4.cell? ⟨B, 1, none⟩ = some (.slice (some ⟨g, 0, none⟩) z cap)) := x1
  have D4 : Hid (Below w.heap.size w w4) := d4
  clear x1 x0 k4 d4 sy d2 d3
  go_loopw [10] (fun i_ wr => ∃ i : Nat, i_ = .int .i64 (i : Int) ∧ i ≤ m ∧ Below w4.heap.size w4 wr) (fun i _ => (m - intOf i).toNat)
  case atStart => exact ⟨0, rfl, by omega, Below.refl _ _⟩
  case round =>
    obtain ⟨i, rfl, hi, hB⟩ := hrel
    by_cases hlt : i < m
    · have hdi : decide ((i : Int) < (m : Int)) = true := by simp; omega
      obtain ⟨p, Hp⟩ : ∃ p, Hid (i * n = p) := ⟨_, rfl⟩
      have hpz : p + n ≤ z := by rw [← Hp.out, Hz.out, ← Nat.succ_mul]; exact Nat.mul_le_mul_right n (by omega)
      have hp99 : p ≤ 99 := by omega
      have hmi : (i : Int) * (n : Int) = (p : Int) := by rw [← Hp.out]; simp
      have hii : (i : Int) < (m : Int) := by omega
      have hrl : i < all.length := by rw [Hm.out]; exact hlt
      have hrow : (all.getD i []).length = n := HL.out _ (by rw [List.getD_eq_getElem?_getD, List.getElem?_eq_getElem hrl]; exact List.getElem_mem hrl)
      have hBw := Below.next D4.out hB
      obtain ⟨a', c', e', hcs⟩ := HV.out.below hBw
      simp only [Value.slice.injEq] at e'
      obtain ⟨rfl, -, rfl⟩ := e'
      obtain ⟨b1', o1, u, rfl, q1, hs⟩ := hcs i ((all.getD i []).map Int.ofNat) (by unfold toI; rw [List.getElem?_map, List.getElem?_eq_getElem hrl, List.getD_eq_getElem?_getD, List.getElem?_eq_getElem hrl]; rfl)
      obtain ⟨b2', o2, c2, rfl, q2, q3⟩ := hs.form (n := n) (by rw [List.length_map]; exact hrow) (by omega)
      have x1 := (hB.cell (p := ⟨B, 1, none⟩) hlt4).trans K4.out
      have hs2 : Sl wr (.slice (some ⟨g, p, none⟩) n (cap - p)) ((all.getD i []).map Int.ofNat) := sl_part (hsy.out.below hB) (by rw [List.length_map]; exact hrow) hpz fun j hj => by
        rw [← Hp.out]; exact HAT.out i j hlt hj
      have C5 := ints_any _ _ _ _ wr.drew hs hs2 (by rw [List.length_map, hrow]; unfold maxLen; omega) (by rw [List.length_map, hrow]; unfold maxLen; omega)
      have HC5 : Hid (Calls Try.prog 20 #[.slice (some ⟨b2', o2, none⟩) n c2, .slice (some ⟨g, p, none⟩) n (cap - p)] wr.drew fun e w' => e = .returned (.bool true) ∧ Below wr.heap.size wr w') := C5.mono fun e w' ⟨b, e1, e2, e3⟩ => ⟨by rw [e1, e2.2 rfl], Below.next (Below.refl _ wr).drew e3⟩
      have hcapz := hcap.out.1
      have hcapm := hcap.out.2
      unfold maxLen at hcapm
      have hwp : IntKind.i64.wrap (p : Int) = (p : Int) := by rw [IntKind.wrap_i64]; omega
      obtain ⟨r, Hr⟩ : ∃ r, Hid (r = p + n) := ⟨_, (rfl : p + n = p + n)⟩
      have hpn : (p : Int) + (n : Int) = (r : Int) := by rw [Hr.out]; simp
      have hwr : IntKind.i64.wrap (r : Int) = (r : Int) := by rw [IntKind.wrap_i64]; have := Hr.out; omega
      have hrc : (r : Int) ≤ (cap : Int) := by have := Hr.out; omega
      have hrcn : r ≤ cap := by have := Hr.out; omega
      have hpr : p ≤ r := by have := Hr.out; omega
      have hrp : r - p = n := by have := Hr.out; omega
      have hcp : ¬ cap = p := by omega
      clear hcs hs hs2 q3 q2 C5 hrow
      go_wp2_with fail
      refine wp_region_noPanic ?_
      refine wp_region_held_drew (S := fun w' => w'.cell? ⟨b1', o1 + i, none⟩ = some (.slice (some ⟨b2', o2, none⟩) n c2) ∧ w'.cell? ⟨B, 1, none⟩ = some (.slice (some ⟨g, 0, none⟩) z cap)) (by kernel_rfl) (⟨q1, x1⟩) (fun hSx => ?_)
      refine wpAnyH_take (i := 0) (v := .slice (some ⟨b1', o1, none⟩) m vc) rfl (by kernel_rfl) (by kernel_rfl) (by kernel_rfl) (fun _ _ _ h => h) (Or.inl ⟨by rfl, fun w' hSw => by (try dsimp only at hSw); go_simp⟩) hSx ?_
      try simp only [Act.put, List.setIfInBounds_toArray]
      refine wpAnyH_take (i := 1) (v := .int .i64 (i : Int)) rfl (by kernel_rfl) (by kernel_rfl) (by kernel_rfl) (fun _ _ _ h => h) (Or.inl ⟨by rfl, fun w' hSw => by (try dsimp only at hSw); go_simp⟩) hSx ?_
      try simp only [Act.put]
      refine wpAnyH_take (i := 2) (v := .pointer (some ⟨b1', o1 + i, none⟩)) rfl (by kernel_rfl) (by kernel_rfl) (by kernel_rfl) (fun _ _ _ h => h) (Or.inl ⟨by rfl, fun w' hSw => by (try dsimp only at hSw); go_simp⟩) hSx ?_
      try simp only [Act.put]
      refine wpAnyH_take (i := 3) (v := .slice (some ⟨b2', o2, none⟩) n c2) rfl (by kernel_rfl) (by kernel_rfl) (by kernel_rfl) (fun _ _ _ h => h) (Or.inl ⟨by rfl, fun w' hSw => by (try dsimp only at hSw); go_simp⟩) hSx ?_
      try simp only [Act.put]
      refine wpAnyH_take (i := 4) (v := .pointer (some ⟨B, 1, none⟩)) rfl (by kernel_rfl) (by kernel_rfl) (by kernel_rfl) (fun _ _ _ h => h) (Or.inl ⟨by rfl, fun w' hSw => by (try dsimp only at hSw); go_simp⟩) hSx ?_
      try simp only [Act.put]
      refine wpAnyH_take (i := 5) (v := .slice (some ⟨g, 0, none⟩) z cap) rfl (by kernel_rfl) (by kernel_rfl) (by kernel_rfl) (fun _ _ _ h => h) (Or.inl ⟨by rfl, fun w' hSw => by (try dsimp only at hSw); go_simp⟩) hSx ?_
      try simp only [Act.put]
      refine wpAnyH_take (i := 6) (v := .int .i64 (i : Int)) rfl (by kernel_rfl) (by kernel_rfl) (by kernel_rfl) (fun _ _ _ h => h) (Or.inl ⟨by rfl, fun w' hSw => by (try dsimp only at hSw); go_simp⟩) hSx ?_
      try simp only [Act.put]
      refine wpAnyH_take (i := 7) (v := .int .i64 (n : Int)) rfl (by kernel_rfl) (by kernel_rfl) (by kernel_rfl) (fun _ _ _ h => h) (Or.inl ⟨by rfl, fun w' hSw => by (try dsimp only at hSw); go_simp⟩) hSx ?_
      try simp only [Act.put]
      refine wpAnyH_take (i := 8) (v := .int .i64 (p : Int)) rfl (by kernel_rfl) (by kernel_rfl) (by kernel_rfl) (fun _ _ _ h => h) (Or.inl ⟨by rfl, fun w' hSw => by (try dsimp only at hSw); go_simp⟩) hSx ?_
      try simp only [Act.put]
      refine wpAnyH_take (i := 9) (v := .int .i64 (i : Int)) rfl (by kernel_rfl) (by kernel_rfl) (by kernel_rfl) (fun _ _ _ h => h) (Or.inl ⟨by rfl, fun w' hSw => by (try dsimp only at hSw); go_simp⟩) hSx ?_
      try simp only [Act.put]
      refine wpAnyH_take (i := 10) (v := .int .i64 (n : Int)) rfl (by kernel_rfl) (by kernel_rfl) (by kernel_rfl) (fun _ _ _ h => h) (Or.inl ⟨by rfl, fun w' hSw => by (try dsimp only at hSw); go_simp⟩) hSx ?_
      try simp only [Act.put]
      refine wpAnyH_take (i := 11) (v := .int .i64 (p : Int)) rfl (by kernel_rfl) (by kernel_rfl) (by kernel_rfl) (fun _ _ _ h => h) (Or.inl ⟨by rfl, fun w' hSw => by (try dsimp only at hSw); go_simp⟩) hSx ?_
      try simp only [Act.put]
      refine wpAnyH_take (i := 12) (v := .int .i64 (n : Int)) rfl (by kernel_rfl) (by kernel_rfl) (by kernel_rfl) (fun _ _ _ h => h) (Or.inl ⟨by rfl, fun w' hSw => by (try dsimp only at hSw); go_simp⟩) hSx ?_
      try simp only [Act.put]
      refine wpAnyH_take (i := 13) (v := .int .i64 (r : Int)) rfl (by kernel_rfl) (by kernel_rfl) (by kernel_rfl) (fun _ _ _ h => h) (Or.inl ⟨by rfl, fun w' hSw => by (try dsimp only at hSw); go_simp⟩) hSx ?_
      try simp only [Act.put]
      refine wpAnyH_take (i := 14) (v := .slice (some ⟨g, p, none⟩) n (cap - p)) rfl (by kernel_rfl) (by kernel_rfl) (by kernel_rfl) (fun _ _ _ h => h) (Or.inl ⟨by rfl, fun w' hSw => by (try dsimp only at hSw); go_simp⟩) hSx ?_
      try simp only [Act.put]
      refine wpAnyH_ready (rs := [15]) (by kernel_rfl) (by simp) ?_
      refine AllReadyH.cons rfl (fun J hJ => ?_) AllReadyH.nil
      go_simp
      refine (HC5.out).mono ?_
      rintro e w5 ⟨rfl, b5⟩
      have hS5 : w5.cell? ⟨b1', o1 + i, none⟩ = some (.slice (some ⟨b2', o2, none⟩) n c2) ∧ w5.cell? ⟨B, 1, none⟩ = some (.slice (some ⟨g, 0, none⟩) z cap) := ⟨(b5.cell (p := ⟨b1', o1 + i, none⟩) (block_lt_of_cell q1)).trans q1, (b5.cell (p := ⟨B, 1, none⟩) (block_lt_of_cell x1)).trans x1⟩
      go_wp2_with fail
      refine hJ.out _ _ hS5 (fun _ => ?_)
      clear hJ J
      try simp only [Act.put, List.setIfInBounds_toArray, List.set_cons_zero, List.set_cons_succ]
      refine wpAnyH_ready (rs := [16]) (by kernel_rfl) (by simp) ?_
      refine AllReadyH.cons rfl (fun J hJ => ?_) AllReadyH.nil
      go_simp
      refine hJ.out _ _ hS5 (fun _ => ?_)
      clear hJ J
      try simp only [Act.put, List.setIfInBounds_toArray, List.set_cons_zero, List.set_cons_succ]
      refine wpAnyH_done (by kernel_rfl) ?_ _
      refine NoPanic.normal ?_
      have hB5 := Below.next hB b5
      clear HC5
      go_wp2
      go_roundw
      case rel => exact ⟨i + 1, by go_num, by omega, hB5⟩
      case measure => simp [intOf]; omega
    · have hdi : decide ((i : Int) < (m : Int)) = false := by simp; omega
      go_wp2
      go_ret
      exact ⟨rfl, Below.next D4.out hB⟩
theorem Hall_any (n : Int) (ls : List (List Int)) (v : Value) (w : World) (_ : (Lit.int .i64 n).wf = true) (hv : CameR ls v w) : Calls Try.prog 6 #[.int .i64 n, v] w fun e w' => e = .returned (.bool true) ∧ Below w.heap.size w w' := by
  by_cases h : eF n ls = 0
  · obtain ⟨k, all, rfl, h1, h8, rfl, ha, hr, hP⟩ := eF_ok h
    exact Hall_ok k all v w h1 h8 hv h ha hr hP
  · exact Hall_bad n ls v w hv h
end Go.Proofs.Ytagpbkcnjogbgaa
