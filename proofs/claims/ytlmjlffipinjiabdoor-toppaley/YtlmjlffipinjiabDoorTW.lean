/- The law TopPaley. -/
import Derived.Test.YtlmjlffipinjiabDoorK3
import Derived.Test.YtlmjlffipinjiabDoorV2
import Derived.Test.YtlmjlffipinjiabDoorH9
import Derived.Test.YtlmjlffipinjiabDoorSrV
import Derived.Test.YtlmjlffipinjiabDoorTO2
import Derived.Test.YtlmjlffipinjiabDoorDP1
/- What TopPaley asks, in numbers: the matrix of signs and the set of squares; the neighbours' design. -/
/- The walk of Paley. -/
/- The walks of paley, Paley. -/
namespace Go.Proofs.YtlmjlffipinjiabDoor.Hd
open Go.RowKit

theorem wrapN9 {q : Nat} (h : q ≤ 99999) : IntKind.i64.wrap (q : Int) = (q : Int) := by rw [IntKind.wrap_i64]; omega
theorem wrapZ {z : Int} (h1 : -99999 ≤ z) (h2 : z ≤ 99999) : IntKind.i64.wrap z = z := by rw [IntKind.wrap_i64]; omega

theorem pas_pal (p : Nat) : paS p = paL p := rfl
theorem paF_one {p i j : Nat} (h : i = 0 ∨ i = j) : paF p i j = 1 := by unfold paF; rw [if_pos h]
theorem paF_col {p i : Nat} (h : ¬ i = 0) : paF p i 0 = -1 := by unfold paF; rw [if_neg (by omega), if_neg (by omega)]
theorem paF_at {p i j : Nat} (h : ¬ (i = 0 ∨ i = j)) (hj : 0 < j) : paF p i j = sgn ((paL p).contains ((j + p - i) % p)) := by
  unfold paF sgn
  rw [if_neg h, pas_pal]
  by_cases e : (j + p - i) % p ∈ paL p
  · rw [if_pos ⟨hj, e⟩, if_pos (List.contains_iff_mem.2 e)]
  · rw [if_neg (fun k => e k.2), if_neg (fun k => e (List.contains_iff_mem.1 k))]
set_option maxRecDepth 100000 in
theorem e29p : ∀ args w, (callFunc 49 args).run Tryd.prog w = .ok (.enter 49 args) w := enters_of Tryd.func49 (by kernel_rfl) rfl
theorem pal_len (p : Nat) : (paL p).length ≤ p := by
  have := List.length_filter_le (fun x => decide (1 ≤ x) && (List.range p).any fun y => decide (1 ≤ y) && (y * y % p == x)) (List.range p)
  rw [List.length_range] at this
  exact this
set_option maxRecDepth 100000 in
set_option maxHeartbeats 4000000 in
theorem paley1_any (p r c g1 g2 : Nat) (v : Value) (W : World) (hp : p ≤ 23) (hp1 : 1 ≤ p) (hr : r ≤ p) (hc : c ≤ p) (hv : Sl W v ((paL p).map Int.ofNat)) (h1 : W.cell? ⟨g1, 0, none⟩ = some v) (h2 : W.cell? ⟨g2, 0, none⟩ = some (.int .i64 (p : Int))) :
    Calls Tryd.prog 49 #[.int .i64 (r : Int), .int .i64 (c : Int), .pointer (some ⟨g1, 0, none⟩), .pointer (some ⟨g2, 0, none⟩)] W fun e w' => e = .returned (.int .i64 (paF p r c)) ∧ Below W.heap.size W w' := by
  by_cases r0 : r = 0
  · rw [paF_one (.inl r0)]
    have q0 : ((r : Int) == 0) = true := by simp [r0]
    clear r0
    go_enter Tryd.func49, Tryd.ntmps49
    go_wp2
    go_ret
    exact ⟨rfl, Below.refl _ _⟩
  · have q0 : ((r : Int) == 0) = false := by simp [r0]
    by_cases rc : r = c
    · rw [paF_one (.inr rc)]
      have q1 : ((r : Int) == (c : Int)) = true := by simp [rc]
      clear rc r0
      go_enter Tryd.func49, Tryd.ntmps49
      go_wp2
      go_ret
      exact ⟨rfl, Below.refl _ _⟩
    · have q1 : ((r : Int) == (c : Int)) = false := by simp; omega
      by_cases c0 : c = 0
      · have C2 := sign_any false W.drew
        have e : paF p r c = sgn false := by rw [c0, paF_col r0]; rfl
        rw [e]
        have q2 : decide (0 < (c : Int)) = false := by simp; omega
        have q3 : decide (0 < c) = false := by simp; omega
        have hS : W.cell? ⟨g1, 0, none⟩ = some v ∧ W.cell? ⟨g2, 0, none⟩ = some (.int .i64 (p : Int)) := ⟨h1, h2⟩
        clear r0 rc c0 e h1 h2 hv
        go_enter Tryd.func49, Tryd.ntmps49
        go_wp2_with fail
        refine wp_region_noPanic ?_
        refine wp_region_held_drew (S := fun w' => w'.cell? ⟨g1, 0, none⟩ = some v ∧ w'.cell? ⟨g2, 0, none⟩ = some (.int .i64 (p : Int))) (by kernel_rfl) hS (fun hSx => ?_)
        refine wpAnyH_take (i := 0) (v := .int .i64 (c : Int)) rfl (by kernel_rfl) (by kernel_rfl) (by kernel_rfl) (fun _ _ _ h => h) (Or.inl ⟨by kernel_rfl, fun w' hSw => by (try dsimp only at hSw); obtain ⟨hs0, hs1⟩ := hSw; go_simp⟩) hSx ?_
        try simp only [Act.put, List.setIfInBounds_toArray]
        refine wpAnyH_take (i := 1) (v := .bool false) rfl (by kernel_rfl) (by kernel_rfl) (by kernel_rfl) (fun _ _ _ h => h) (Or.inl ⟨by kernel_rfl, fun w' hSw => by (try dsimp only at hSw); obtain ⟨hs0, hs1⟩ := hSw; go_simp⟩) hSx ?_
        try simp only [Act.put]
        refine wpAnyH_take (i := 2) (v := .bool false) rfl (by kernel_rfl) (by kernel_rfl) (by kernel_rfl) (fun _ _ _ h => h) (Or.inl ⟨by kernel_rfl, fun w' hSw => by (try dsimp only at hSw); obtain ⟨hs0, hs1⟩ := hSw; go_simp⟩) hSx ?_
        try simp only [Act.put]
        refine wpAnyH_take (i := 3) (v := undef) rfl (by kernel_rfl) (by kernel_rfl) (by kernel_rfl) (fun _ _ _ h => h) (Or.inr ⟨by kernel_rfl, rfl⟩) hSx ?_
        try simp only [Act.put]
        refine wpAnyH_take (i := 4) (v := undef) rfl (by kernel_rfl) (by kernel_rfl) (by kernel_rfl) (fun _ _ _ h => h) (Or.inr ⟨by kernel_rfl, rfl⟩) hSx ?_
        try simp only [Act.put]
        refine wpAnyH_take (i := 5) (v := undef) rfl (by kernel_rfl) (by kernel_rfl) (by kernel_rfl) (fun _ _ _ h => h) (Or.inr ⟨by kernel_rfl, rfl⟩) hSx ?_
        try simp only [Act.put]
        refine wpAnyH_take (i := 6) (v := undef) rfl (by kernel_rfl) (by kernel_rfl) (by kernel_rfl) (fun _ _ _ h => h) (Or.inr ⟨by kernel_rfl, rfl⟩) hSx ?_
        try simp only [Act.put]
        refine wpAnyH_take (i := 7) (v := undef) rfl (by kernel_rfl) (by kernel_rfl) (by kernel_rfl) (fun _ _ _ h => h) (Or.inr ⟨by kernel_rfl, rfl⟩) hSx ?_
        try simp only [Act.put]
        refine wpAnyH_take (i := 8) (v := undef) rfl (by kernel_rfl) (by kernel_rfl) (by kernel_rfl) (fun _ _ _ h => h) (Or.inr ⟨by kernel_rfl, rfl⟩) hSx ?_
        try simp only [Act.put]
        refine wpAnyH_take (i := 9) (v := undef) rfl (by kernel_rfl) (by kernel_rfl) (by kernel_rfl) (fun _ _ _ h => h) (Or.inr ⟨by kernel_rfl, rfl⟩) hSx ?_
        try simp only [Act.put]
        refine wpAnyH_take (i := 10) (v := undef) rfl (by kernel_rfl) (by kernel_rfl) (by kernel_rfl) (fun _ _ _ h => h) (Or.inr ⟨by kernel_rfl, rfl⟩) hSx ?_
        try simp only [Act.put]
        refine wpAnyH_take (i := 11) (v := undef) rfl (by kernel_rfl) (by kernel_rfl) (by kernel_rfl) (fun _ _ _ h => h) (Or.inr ⟨by kernel_rfl, rfl⟩) hSx ?_
        try simp only [Act.put]
        refine wpAnyH_take (i := 12) (v := .bool false) rfl (by kernel_rfl) (by kernel_rfl) (by kernel_rfl) (fun _ _ _ h => h) (Or.inl ⟨by kernel_rfl, fun w' hSw => by (try dsimp only at hSw); obtain ⟨hs0, hs1⟩ := hSw; go_simp⟩) hSx ?_
        try simp only [Act.put]
        refine wpAnyH_ready (rs := [13]) (by kernel_rfl) (by simp) ?_
        refine AllReadyH.cons rfl (fun J hJ => ?_) AllReadyH.nil
        go_simp
        refine C2.mono ?_
        rintro e w1 ⟨rfl, hw⟩
        replace hw := hw.symm
        subst hw
        go_wp2_with fail
        refine hJ.out _ _ hSx (fun hSx => ?_)
        clear hJ J
        try simp only [Act.put, List.setIfInBounds_toArray, List.set_cons_zero, List.set_cons_succ]
        refine wpAnyH_ready (rs := [14]) (by kernel_rfl) (by simp) ?_
        refine AllReadyH.cons rfl (fun J hJ => ?_) AllReadyH.nil
        go_simp
        refine hJ.out _ _ hSx (fun hSx => ?_)
        clear hJ J
        try simp only [Act.put, List.setIfInBounds_toArray, List.set_cons_zero, List.set_cons_succ]
        refine wpAnyH_done (by kernel_rfl) ?_ _
        refine NoPanic.normal ?_
        clear hSx hS C2
        go_wp2
        go_ret
        exact ⟨rfl, (Below.refl _ W).drew⟩
      · have hcp : 0 < c := by omega
        have hm : ((c + p - r : Nat) : Int) = (c : Int) - (r : Int) + (p : Int) := by omega
        rw [paF_at (by omega) hcp]
        obtain ⟨q, Hq⟩ : ∃ q, Hid (c + p - r = q) := ⟨_, rfl⟩
        rw [Hq.out] at hm ⊢
        have hq99 : q ≤ 99 := by rw [← Hq.out]; omega
        obtain ⟨d, hd⟩ : ∃ d, (c : Int) - (r : Int) = d := ⟨_, rfl⟩
        rw [hd] at hm
        have hdq : d + (p : Int) = (q : Int) := hm.symm
        obtain ⟨m, Hm⟩ : ∃ m, Hid (q % p = m) := ⟨_, rfl⟩
        rw [Hm.out]
        have hmm : (q : Int).tmod (p : Int) = (m : Int) := by rw [Int.tmod_eq_emod_of_nonneg (by omega), ← Hm.out]; simp
        have hmm2 : (q : Int) % (p : Int) = (m : Int) := by rw [← Hm.out]; simp
        have hm99 : m ≤ 99 := by rw [← Hm.out]; exact Nat.le_trans (Nat.mod_le _ _) hq99
        have wd := wrapZ (z := d) (by omega) (by omega)
        have wq := wrapN9 (q := q) (by omega)
        have wm := wrapN9 (q := m) (by omega)
        have hpz : ¬ (p : Int) = 0 := by omega
        have hpn : ¬ p = 0 := by omega
        have hl := pal_len p
        have C1 : Hid (∀ X, Below W.heap.size W X → Calls Tryd.prog 51 #[v, .int .i64 (m : Int)] X fun e w' => e = .returned (.bool ((paL p).contains m)) ∧ w' = X) := fun X bX => Contains_any (paL p) m v X (hv.below bX) (by omega)
        generalize (paL p).contains m = b at *
        have C2 := fun X => sign_any b X
        have q2 : decide (0 < (c : Int)) = true := by simp; omega
        have hS : W.cell? ⟨g1, 0, none⟩ = some v ∧ W.cell? ⟨g2, 0, none⟩ = some (.int .i64 (p : Int)) := ⟨h1, h2⟩
        obtain ⟨sa, sn, sc, rfl⟩ : ∃ a n c, v = .slice a n c := by obtain ⟨a, c, rfl, _⟩ := hv; exact ⟨_, _, _, rfl⟩
        clear r0 rc c0 h1 h2 hv hl hm
        go_enter Tryd.func49, Tryd.ntmps49
        go_wp2_with fail
        refine wp_region_noPanic ?_
        refine wp_region_held_drew (S := fun w' => w'.cell? ⟨g1, 0, none⟩ = some (.slice sa sn sc) ∧ w'.cell? ⟨g2, 0, none⟩ = some (.int .i64 (p : Int))) (by kernel_rfl) hS (fun hSx => ?_)
        refine wpAnyH_take (i := 0) (v := .int .i64 (c : Int)) rfl (by kernel_rfl) (by kernel_rfl) (by kernel_rfl) (fun _ _ _ h => h) (Or.inl ⟨by kernel_rfl, fun w' hSw => by (try dsimp only at hSw); obtain ⟨hs0, hs1⟩ := hSw; go_simp⟩) hSx ?_
        try simp only [Act.put, List.setIfInBounds_toArray]
        refine wpAnyH_take (i := 1) (v := .bool true) rfl (by kernel_rfl) (by kernel_rfl) (by kernel_rfl) (fun _ _ _ h => h) (Or.inl ⟨by kernel_rfl, fun w' hSw => by (try dsimp only at hSw); obtain ⟨hs0, hs1⟩ := hSw; go_simp⟩) hSx ?_
        try simp only [Act.put]
        refine wpAnyH_take (i := 2) (v := .bool true) rfl (by kernel_rfl) (by kernel_rfl) (by kernel_rfl) (fun _ _ _ h => h) (Or.inl ⟨by kernel_rfl, fun w' hSw => by (try dsimp only at hSw); obtain ⟨hs0, hs1⟩ := hSw; go_simp⟩) hSx ?_
        try simp only [Act.put]
        refine wpAnyH_take (i := 3) (v := .slice sa sn sc) rfl (by kernel_rfl) (by kernel_rfl) (by kernel_rfl) (fun _ _ _ h => h) (Or.inl ⟨by kernel_rfl, fun w' hSw => by (try dsimp only at hSw); obtain ⟨hs0, hs1⟩ := hSw; go_simp⟩) hSx ?_
        try simp only [Act.put]
        refine wpAnyH_take (i := 4) (v := .int .i64 (c : Int)) rfl (by kernel_rfl) (by kernel_rfl) (by kernel_rfl) (fun _ _ _ h => h) (Or.inl ⟨by kernel_rfl, fun w' hSw => by (try dsimp only at hSw); obtain ⟨hs0, hs1⟩ := hSw; go_simp⟩) hSx ?_
        try simp only [Act.put]
        refine wpAnyH_take (i := 5) (v := .int .i64 (r : Int)) rfl (by kernel_rfl) (by kernel_rfl) (by kernel_rfl) (fun _ _ _ h => h) (Or.inl ⟨by kernel_rfl, fun w' hSw => by (try dsimp only at hSw); obtain ⟨hs0, hs1⟩ := hSw; go_simp⟩) hSx ?_
        try simp only [Act.put]
        refine wpAnyH_take (i := 6) (v := .int .i64 d) rfl (by kernel_rfl) (by kernel_rfl) (by kernel_rfl) (fun _ _ _ h => h) (Or.inl ⟨by kernel_rfl, fun w' hSw => by (try dsimp only at hSw); obtain ⟨hs0, hs1⟩ := hSw; go_simp⟩) hSx ?_
        try simp only [Act.put]
        refine wpAnyH_take (i := 7) (v := .int .i64 (p : Int)) rfl (by kernel_rfl) (by kernel_rfl) (by kernel_rfl) (fun _ _ _ h => h) (Or.inl ⟨by kernel_rfl, fun w' hSw => by (try dsimp only at hSw); obtain ⟨hs0, hs1⟩ := hSw; go_simp⟩) hSx ?_
        try simp only [Act.put]
        refine wpAnyH_take (i := 8) (v := .int .i64 (q : Int)) rfl (by kernel_rfl) (by kernel_rfl) (by kernel_rfl) (fun _ _ _ h => h) (Or.inl ⟨by kernel_rfl, fun w' hSw => by (try dsimp only at hSw); obtain ⟨hs0, hs1⟩ := hSw; go_simp⟩) hSx ?_
        try simp only [Act.put]
        refine wpAnyH_take (i := 9) (v := .int .i64 (p : Int)) rfl (by kernel_rfl) (by kernel_rfl) (by kernel_rfl) (fun _ _ _ h => h) (Or.inl ⟨by kernel_rfl, fun w' hSw => by (try dsimp only at hSw); obtain ⟨hs0, hs1⟩ := hSw; go_simp⟩) hSx ?_
        try simp only [Act.put]
        refine wpAnyH_take (i := 10) (v := .int .i64 (m : Int)) rfl (by kernel_rfl) (by kernel_rfl) (by kernel_rfl) (fun _ _ _ h => h) (Or.inl ⟨by kernel_rfl, fun w' hSw => by (try dsimp only at hSw); obtain ⟨hs0, hs1⟩ := hSw; go_simp⟩) hSx ?_
        try simp only [Act.put]
        refine wpAnyH_ready (rs := [11]) (by kernel_rfl) (by simp) ?_
        refine AllReadyH.cons rfl (fun J hJ => ?_) AllReadyH.nil
        rw [if_pos (by kernel_rfl)]
        go_simp
        refine (C1.out _ (Below.refl _ W).drew).mono ?_
        rintro e w1 ⟨rfl, hw⟩
        replace hw := hw.symm
        subst hw
        go_wp2_with fail
        refine hJ.out _ _ hSx (fun hSx => ?_)
        clear hJ J
        try simp only [Act.put, List.setIfInBounds_toArray, List.set_cons_zero, List.set_cons_succ]
        refine wpAnyH_take (i := 12) (v := .bool b) rfl (by kernel_rfl) (by kernel_rfl) (by kernel_rfl) (fun _ _ _ h => h) (Or.inl ⟨by kernel_rfl, fun w' hSw => by (try dsimp only at hSw); obtain ⟨hs0, hs1⟩ := hSw; go_simp⟩) hSx ?_
        try simp only [Act.put, List.setIfInBounds_toArray]
        refine wpAnyH_ready (rs := [13]) (by kernel_rfl) (by simp) ?_
        refine AllReadyH.cons rfl (fun J hJ => ?_) AllReadyH.nil
        go_simp
        refine (C2 _).mono ?_
        rintro e w1 ⟨rfl, hw⟩
        replace hw := hw.symm
        subst hw
        go_wp2_with fail
        refine hJ.out _ _ hSx (fun hSx => ?_)
        clear hJ J
        try simp only [Act.put, List.setIfInBounds_toArray, List.set_cons_zero, List.set_cons_succ]
        refine wpAnyH_ready (rs := [14]) (by kernel_rfl) (by simp) ?_
        refine AllReadyH.cons rfl (fun J hJ => ?_) AllReadyH.nil
        go_simp
        refine hJ.out _ _ hSx (fun hSx => ?_)
        clear hJ J
        try simp only [Act.put, List.setIfInBounds_toArray, List.set_cons_zero, List.set_cons_succ]
        refine wpAnyH_done (by kernel_rfl) ?_ _
        refine NoPanic.normal ?_
        clear hSx hS C1 C2
        go_wp2
        go_ret
        exact ⟨rfl, (Below.refl _ W).drew⟩
set_option maxRecDepth 100000 in
set_option maxHeartbeats 4000000 in
theorem paley_any (p : Nat) (v : Value) (w : World) (hp : p ≤ 23) (hp1 : 1 ≤ p) (hv : Sl w v ((paL p).map Int.ofNat)) :
    Calls Tryd.prog 19 #[.int .i64 (p : Int), v] w fun e w' => (∃ y, e = .returned y ∧ Teller y (p + 1) (p + 1) (paF p) w') ∧ Below w.heap.size w w' := by
  obtain ⟨sa, sn, sc, rfl⟩ : ∃ a n c, v = .slice a n c := by obtain ⟨a, c, rfl, _⟩ := hv; exact ⟨_, _, _, rfl⟩
  have HV : Hid (Sl w (.slice sa sn sc) ((paL p).map Int.ofNat)) := hv
  clear hv
  go_enter Tryd.func19, Tryd.ntmps19
  go_wp2
  go_ret
  have hb := Below.next (balloc w (.cells #[.int .i64 (p : Int)] 3)) (balloc _ (.cells #[.slice sa sn sc] 22))
  have k0 : ((w.alloc (.cells #[.int .i64 (p : Int)] 3)).alloc (.cells #[.slice sa sn sc] 22)).heap[w.heap.size]? = some (.cells #[.int .i64 (p : Int)] 3 (0, 0)) := (Below.heap_alloc _ _ _ (by simp)).trans (heap_alloc_new w _)
  have k1 : ((w.alloc (.cells #[.int .i64 (p : Int)] 3)).alloc (.cells #[.slice sa sn sc] 22)).heap[w.heap.size + 1]? = some (.cells #[.slice sa sn sc] 22 (0, 0)) := by
    have := heap_alloc_new (w.alloc (.cells #[.int .i64 (p : Int)] 3)) (.cells #[.slice sa sn sc] 22)
    simpa using this
  refine ⟨⟨_, rfl, _, _, rfl, e29p, fun W bW r c hr hc => ?_⟩, hb⟩
  refine paley1_any p r c (w.heap.size + 1) w.heap.size (.slice sa sn sc) W hp hp1 (by omega) (by omega) (HV.out.below (Below.next hb bW)) ?_ ?_
  · rw [cell_of_row _ _ _ _ _ _ ((bW.block _ (by simp)).trans k1)]; rfl
  · rw [cell_of_row _ _ _ _ _ _ ((bW.block _ (by simp; omega)).trans k0)]; rfl
end Go.Proofs.YtlmjlffipinjiabDoor.Hd

namespace Go.Proofs.YtlmjlffipinjiabDoor.Hd
open Go.RowKit

/-- A prime that is 3 modulo 4. -/
def p43 (P : Nat) : Bool := Fd.isPrimeB (P : Int) && P % 4 == 3
theorem p43_q : ∀ P : Fin 24, p43 P.val = paQ P.val := by decide +kernel
set_option maxRecDepth 100000 in
set_option maxHeartbeats 4000000 in
theorem Pal_far (p : Int) (w : World) (h : p < 1 ∨ 23 < p) : Calls Tryd.prog 5 #[.int .i64 p] w fun e w' => e = .returned (.tuple #[.agg #[.int .i64 0, .slice none 0 0], .int .i64 1]) ∧ Below w.heap.size w w' := by
  have HH : Hid ((w.alloc (.cells #[.int .i64 0, .slice none 0 0] 27)).heap[w.heap.size]? = some (.cells #[.int .i64 0, .slice none 0 0] 27 (0, 0))) := heap_alloc_new w _
  by_cases h1 : p < 1
  · have d1 : decide (p < 1) = true := decide_eq_true h1
    clear h h1
    go_enter Tryd.func5, Tryd.ntmps5
    go_wp2
    exact post_sq2 2 3 Tryd.results5 rfl HH.out rfl rfl ⟨rfl, balloc _ _⟩
  · have d1 : decide (p < 1) = false := decide_eq_false h1
    have h2 : 23 < p := by omega
    have d2 : decide (23 < p) = true := decide_eq_true h2
    clear h h1 h2
    go_enter Tryd.func5, Tryd.ntmps5
    go_wp2
    exact post_sq2 2 3 Tryd.results5 rfl HH.out rfl rfl ⟨rfl, balloc _ _⟩
set_option maxRecDepth 100000 in
set_option maxHeartbeats 4000000 in
theorem Pal_none (P : Nat) (w : World) (hT : Fd.Tab w) (h1 : 1 ≤ P) (h23 : P ≤ 23) (h : p43 P = false) : Calls Tryd.prog 5 #[.int .i64 (P : Int)] w fun e w' => e = .returned (.tuple #[.agg #[.int .i64 0, .slice none 0 0], .int .i64 4]) ∧ Below w.heap.size w w' := by
  have d1 : decide ((P : Int) < 1) = false := by simp; omega
  have d2 : decide (23 < (P : Int)) = false := by simp; omega
  have h' : Fd.isPrimeB (P : Int) = false ∨ P % 4 ≠ 3 := by
    unfold p43 at h
    rcases Bool.and_eq_false_iff.1 h with e | e
    · exact .inl e
    · exact .inr (by simpa using e)
  have hR0 : (w.alloc (.cells #[.int .i64 0, .slice none 0 0] 27)).heap[w.heap.size]? = some (.cells #[.int .i64 0, .slice none 0 0] 27 (0, 0)) := heap_alloc_new w _
  have hb0 := balloc w (.cells #[.int .i64 0, .slice none 0 0] 27)
  have C := Paley_none P (w.alloc (.cells #[.int .i64 0, .slice none 0 0] 27)) (hT.alloc _) h1 (by omega) h'
  have HSZ : Hid ((w.alloc (.cells #[.int .i64 0, .slice none 0 0] 27)).heap.size = w.heap.size + 1) := by show _ = _; simp
  clear h h' hT
  go_enter Tryd.func5, Tryd.ntmps5
  go_wp2_with (go_at_call 6; refine C.mono ?_; rintro e w2 ⟨rfl, b2⟩; clear C; have hR2 := (b2.block w.heap.size (by rw [HSZ.out]; omega)).trans hR0; have a2 : w2.cell? ⟨w.heap.size, 0, none⟩ = some (.int .i64 0) := (by rw [cell_of_row _ _ _ _ _ _ hR2]; rfl); have a3 : w2.cell? ⟨w.heap.size, 1, none⟩ = some (.slice none 0 0) := (by rw [cell_of_row _ _ _ _ _ _ hR2]; rfl); have f0 := frozen_of_row w2 w.heap.size 0 _ _ hR2; have f1 := frozen_of_row w2 w.heap.size 1 _ _ hR2)
  have hn1 := heap_setCell_same w2 w.heap.size 0 _ _ (.int .i64 0) hR2
  have hn2 := heap_setCell_same _ w.heap.size 1 _ _ (.slice none 0 0) hn1
  exact post_sq2 2 3 Tryd.results5 rfl hn2 rfl rfl ⟨rfl, ((Below.next hb0 b2).setCell (by show w.heap.size ≤ w.heap.size; omega) _).setCell (by show w.heap.size ≤ w.heap.size; omega) _⟩
set_option maxRecDepth 100000 in
set_option maxHeartbeats 4000000 in
theorem Pal_ok (P : Nat) (w : World) (hT : Fd.Tab w) (h1 : 1 ≤ P) (h23 : P ≤ 23) (h : p43 P = true) : Calls Tryd.prog 5 #[.int .i64 (P : Int)] w fun e w' => (∃ y, e = .returned (.tuple #[.agg #[.int .i64 ((P + 1 : Nat) : Int), y], .int .i64 0]) ∧ w'.ownsRow w.heap.size 3 1 y ((P + 1) * (P + 1)) (vi (flI (P + 1) (paF P) ((P + 1) * (P + 1))))) ∧ Below w.heap.size w w' := by
  have d1 : decide ((P : Int) < 1) = false := by simp; omega
  have d2 : decide (23 < (P : Int)) = false := by simp; omega
  obtain ⟨hp, h4⟩ : Fd.isPrimeB (P : Int) = true ∧ P % 4 = 3 := by
    unfold p43 at h
    rw [Bool.and_eq_true] at h
    exact ⟨h.1, by simpa using h.2⟩
  have hR0 : (w.alloc (.cells #[.int .i64 0, .slice none 0 0] 27)).heap[w.heap.size]? = some (.cells #[.int .i64 0, .slice none 0 0] 27 (0, 0)) := heap_alloc_new w _
  have hb0 := balloc w (.cells #[.int .i64 0, .slice none 0 0] 27)
  have C := Paley_ok P (w.alloc (.cells #[.int .i64 0, .slice none 0 0] 27)) (hT.alloc _) h1 (by omega) hp h4
  have C2 : Hid (∀ x W, Sl W x ((paL P).map Int.ofNat) → Calls Tryd.prog 19 #[.int .i64 (P : Int), x] W fun e w' => (∃ y, e = .returned y ∧ Teller y (P + 1) (P + 1) (paF P) w') ∧ Below W.heap.size W w') := fun x W hx => paley_any P x W h23 h1 hx
  have C3 : Hid (∀ y W, Teller y (P + 1) (P + 1) (paF P) W → Calls Tryd.prog 18 #[.int .i64 ((P + 1 : Nat) : Int), y] W fun e w' => (∃ y, e = .returned (.agg #[.int .i64 ((P + 1 : Nat) : Int), y]) ∧ w'.ownsRow W.heap.size 3 1 y ((P + 1) * (P + 1)) (vi (flI (P + 1) (paF P) ((P + 1) * (P + 1))))) ∧ Below W.heap.size W w') := fun y W hT => filled_any (P + 1) (paF P) y W (by omega) (by omega) hT
  have HSZ : Hid ((w.alloc (.cells #[.int .i64 0, .slice none 0 0] 27)).heap.size = w.heap.size + 1) := by show _ = _; simp
  generalize (paL P).map Int.ofNat = Q at *
  obtain ⟨L, HL⟩ : ∃ L, Hid (vi (flI (P + 1) (paF P) ((P + 1) * (P + 1))) = L) := ⟨_, rfl⟩
  rw [HL.out] at C3 ⊢
  obtain ⟨n, Hn⟩ : ∃ n, Hid (P + 1 = n) := ⟨_, rfl⟩
  have hn : (P : Int) + 1 = (n : Int) := by rw [← Hn.out]; simp
  rw [Hn.out] at C2 C3 ⊢
  clear h hp h4 hT
  go_enter Tryd.func5, Tryd.ntmps5
  go_wp2_with (first
    | (go_at_call 6; refine C.mono ?_; rintro e w1 ⟨x, rfl, hx, b1⟩; clear C; obtain ⟨xa, xn, xc, rfl⟩ : ∃ a n c, x = .slice a n c := (by obtain ⟨a, c, rfl, _⟩ := hx; exact ⟨_, _, _, rfl⟩); have D2 := C2.out _ _ hx; clear C2 hx)
    | (go_at_call 19; refine D2.mono ?_; rintro e w2 ⟨⟨y, rfl, hy⟩, b2⟩; clear D2; have D3 := C3.out _ _ hy; clear C3 hy)
    | (go_at_call 18; refine D3.mono ?_; rintro e w3 ⟨⟨y3, rfl, hW⟩, b3⟩; clear D3; have b13 := Below.next (Below.next b1 b2) b3; have hR2 := (b13.block w.heap.size (by rw [HSZ.out]; omega)).trans hR0; obtain ⟨og, ol, oc, rfl⟩ := own_slice hW; have a2 : w3.cell? ⟨w.heap.size, 0, none⟩ = some (.int .i64 0) := (by rw [cell_of_row _ _ _ _ _ _ hR2]; rfl); have a3 : w3.cell? ⟨w.heap.size, 1, none⟩ = some (.slice none 0 0) := (by rw [cell_of_row _ _ _ _ _ _ hR2]; rfl); have f0 := frozen_of_row w3 w.heap.size 0 _ _ hR2; have f1 := frozen_of_row w3 w.heap.size 1 _ _ hR2))
  have hs2 := (Below.next b1 b2).size
  rw [HSZ.out] at hs2
  have hn1 := heap_setCell_same w3 w.heap.size 0 _ _ (.int .i64 (n : Int)) hR2
  have hn2 := heap_setCell_same _ w.heap.size 1 _ _ (.slice og ol oc) hn1
  have hW2 := orow_other (orow_other hW ⟨w.heap.size, 0, none⟩ (.int .i64 (n : Int)) (own_diff hW hR2)) ⟨w.heap.size, 1, none⟩ (.slice og ol oc) (own_diff hW hR2)
  exact post_sq2 2 3 Tryd.results5 rfl hn2 rfl rfl ⟨⟨_, rfl, orow_base hW2 (by omega)⟩, ((Below.next hb0 b13).setCell (by show w.heap.size ≤ w.heap.size; omega) _).setCell (by show w.heap.size ≤ w.heap.size; omega) _⟩
end Go.Proofs.YtlmjlffipinjiabDoor.Hd

namespace Go.Proofs.YtlmjlffipinjiabDoor
open Go.RowKit

/-! ### The first half -/
theorem hb_goodT {v : Nat} (E : Nat → Nat → Int) (h1 : 1 ≤ v) (h2 : v ≤ 23) : GoodD v (Hd.hbL v E) := by
  refine ⟨h1, by omega, by simp [Hd.hbL]; omega, fun b hb => ?_⟩
  obtain ⟨i, _, rfl⟩ := List.mem_map.1 hb
  exact rs_iff.2 ⟨List.pairwise_lt_range.sublist List.filter_sublist, fun x hx => ⟨by omega, List.mem_range.1 (List.mem_filter.1 hx).1⟩⟩
theorem hb_okT {n t : Nat} {L : List Int} (G : Hd.GoodH n L) (h4 : 4 ≤ n) (ht : n = 4 * t) : LvOk (n - 1) (Hd.hbL (n - 1) (Hd.evn (Hd.mx n L))) 2 (2 * t - 1) (t - 1) := by
  obtain ⟨v, rfl⟩ : ∃ v, n = v + 1 := ⟨n - 1, by omega⟩
  rw [Nat.add_sub_cancel]
  have hE := G.had.even G.pos
  have r0 : ∀ j, j < v + 1 → Hd.evn (Hd.mx (v + 1) L) 0 j = 1 := fun j hj => G.had.rim_c G.pos hj
  have c0 : ∀ i, i < v + 1 → Hd.evn (Hd.mx (v + 1) L) i 0 = 1 := fun i hi => G.had.rim_r G.pos hi
  refine ⟨?_, fun b hb => ?_, Hd.hb_lev hE r0 c0 ht⟩
  · intro e
    have := congrArg List.length e
    simp [Hd.hbL] at this
    omega
  · obtain ⟨i, hi, rfl⟩ := List.mem_map.1 hb
    exact Hd.hb_size hE r0 c0 ht (List.mem_range.1 hi)
theorem tp_p {P : Nat} (h23 : P ≤ 23) (h : Hd.p43 P = true) : Hd.paQ P = true ∧ Fd.isPrimeB (P : Int) = true ∧ P % 4 = 3 := by
  have e := Hd.p43_q ⟨P, by omega⟩
  simp only at e
  rw [h] at e
  unfold Hd.p43 at h
  simp only [Bool.and_eq_true, beq_iff_eq] at h
  exact ⟨e.symm, h.1, h.2⟩
theorem tp_set {P : Nat} (h23 : P ≤ 23) (h : Hd.p43 P = true) : lvL P (paL P) = (P - 3) / 4 ∧ lvE P (paL P) = 0 ∧ (paL P).length = (P - 1) / 2 := by
  obtain ⟨_, h1, h2⟩ := tp_p h23 h
  obtain ⟨q1, q2, q3⟩ := pal_lev ⟨P, by omega⟩ (by simp only [Bool.and_eq_true, beq_iff_eq]; exact ⟨h1, h2⟩)
  simp only at q1 q2 q3
  unfold lvL lvE
  rw [if_pos q1, if_pos q1]
  exact ⟨q2, rfl, q3⟩
theorem tp_good {P : Nat} (h23 : P ≤ 23) (h : Hd.p43 P = true) : Hd.GoodH (P + 1) (Hd.flI (P + 1) (Hd.paF P) ((P + 1) * (P + 1))) :=
  Hd.flI_good (by omega) (by omega) (Hd.pa_had (tp_p h23 h).1 h23)

/-! ### The second half -/
theorem nb_good {q : Nat} {L : List Int} (h1 : 1 ≤ q) (h24 : q ≤ 24) : GoodD q (Sg.nbB q L) := by
  refine ⟨h1, by omega, by simp [Sg.nbB]; omega, fun b hb => ?_⟩
  obtain ⟨i, _, rfl⟩ := List.mem_map.1 hb
  exact rs_iff.2 ⟨List.pairwise_lt_range.sublist List.filter_sublist, fun x hx => ⟨by omega, List.mem_range.1 (List.mem_filter.1 hx).1⟩⟩
theorem nb_mt (b c : List Nat) : mt b c = Sg.nbM b c := by unfold mt Sg.nbM; rw [List.countP_eq_length_filter]
theorem nb_at {q : Nat} {L : List Int} {i : Nat} (hi : i < q) : (Sg.nbB q L).getD i [] = Sg.nbR q L i := by simp [Sg.nbB, hi]
theorem nb_len (q : Nat) (L : List Int) : (Sg.nbB q L).length = q := by simp [Sg.nbB]
theorem nb_mtL {q : Nat} {L : List Int} (h : Sg.nbOk q L = true) : mtL q (Sg.nbB q L) = [(q - 5) / 4, (q - 1) / 4] := by
  unfold Sg.nbOk at h
  simp only [Bool.and_eq_true, beq_iff_eq] at h
  rw [← h.2]
  unfold mtL
  apply List.filter_congr
  intro m _
  unfold metB
  rw [nb_len, Bool.eq_iff_iff, List.any_eq_true, List.any_eq_true]
  constructor
  · rintro ⟨i, hi, h2⟩
    have hi' := List.mem_range.1 hi
    rw [List.any_eq_true] at h2
    obtain ⟨j, hj, h3⟩ := h2
    have hj' := List.mem_range.1 hj
    rw [nb_at hi', nb_at (by omega), nb_mt] at h3
    exact ⟨i, hi, List.any_eq_true.2 ⟨j, hj, h3⟩⟩
  · rintro ⟨i, hi, h2⟩
    have hi' := List.mem_range.1 hi
    rw [List.any_eq_true] at h2
    obtain ⟨j, hj, h3⟩ := h2
    have hj' := List.mem_range.1 hj
    refine ⟨i, hi, List.any_eq_true.2 ⟨j, hj, ?_⟩⟩
    rw [nb_at hi', nb_at (by omega), nb_mt]
    exact h3
theorem nb_ok {q : Nat} {L : List Int} (hq : 1 ≤ q) (h : Sg.nbOk q L = true) : LvOk q (Sg.nbB q L) 1 (q / 2) (q / 2) := by
  unfold Sg.nbOk at h
  simp only [Bool.and_eq_true, beq_iff_eq, List.all_eq_true] at h
  obtain ⟨⟨h1, h2⟩, _⟩ := h
  refine ⟨fun e => ?_, h1, fun s hs hl => ?_⟩
  · have := congrArg List.length e
    rw [nb_len] at this
    simp at this
    omega
  · match s, hl with
    | [x], _ =>
      have hx : x < q := hs.lt x (by simp)
      have := h2 x (List.mem_range.2 hx)
      unfold nb
      rw [← this, List.countP_eq_length_filter]
      simp
end Go.Proofs.YtlmjlffipinjiabDoor

namespace Go.Proofs.YtlmjlffipinjiabDoor
open Go.RowKit

theorem pa_way (p k : Int) (l : List Int) : (∀ n M z, Sg.PaR p k l n M z → z ≠ 0) ∨ ∃ (q : Nat) (M0 : List Int), 5 ≤ q ∧ q ≤ 24 ∧ Sg.PaN q M0 ∧ Sg.Six q M0 ∧ ∀ n M z, Sg.PaR p k l n M z → z = 0 ∧ n = (q : Int) ∧ M = M0 := by
  by_cases h : ∃ n M, Sg.PaR p k l n M 0
  · right
    obtain ⟨n0, M0, h⟩ := h
    rcases h with ⟨_, h, _⟩ | ⟨P, K, rfl, rfl, hG, h0, h | ⟨_, rfl, rfl⟩⟩
    · exact absurd rfl h
    · exact absurd rfl h.1
    · have h0' : Sg.paE (P ^ K) = 0 := by omega
      have hN := Sg.paley_num hG h0'
      have hG2 := hN.1
      refine ⟨P ^ K, _, ?_, hG2.le, hN, Sg.paley_six hG h0', fun n M z hz => ?_⟩
      · obtain ⟨_, d, n, f, _, h2, _⟩ := hN
        omega
      · rcases hz with ⟨hf, hne, _⟩ | ⟨P', K', e1, e2, _, hz0, hz⟩
        · exact absurd (hf.one hG.fault) hne
        · obtain rfl : P = P' := by omega
          obtain rfl : K = K' := by omega
          rcases hz with ⟨h1, _⟩ | ⟨h1, h2, h3⟩
          · omega
          · exact ⟨h1, h2, h3⟩
  · left
    intro n M z hz e
    subst e
    exact h ⟨n, M, hz⟩
/-- The rows of neighbours as they grow. -/
def nbK (q : Nat) (L : List Int) (x i : Nat) : List Nat := (List.range i).filter fun c => L.getD (x * q + c) 0 == 1
def nbT (q : Nat) (L : List Int) (x : Nat) : List (List Nat) := (List.range x).map (Sg.nbR q L)
theorem nbK_full (q : Nat) (L : List Int) (x : Nat) : nbK q L x q = Sg.nbR q L x := rfl
theorem nbT_full (q : Nat) (L : List Int) : nbT q L q = Sg.nbB q L := rfl
theorem nbK_succ (q : Nat) (L : List Int) (x i : Nat) : nbK q L x (i + 1) = nbK q L x i ++ if L.getD (x * q + i) 0 == 1 then [i] else [] := by
  unfold nbK
  rw [List.range_succ, List.filter_append]
  congr 1
  simp only [List.filter_cons, List.filter_nil]
theorem nbT_succ (q : Nat) (L : List Int) (x : Nat) : nbT q L (x + 1) = nbT q L x ++ [Sg.nbR q L x] := by
  unfold nbT
  rw [List.range_succ, List.map_append]
  rfl
theorem nbK_len (q : Nat) (L : List Int) (x i : Nat) : (nbK q L x i).length ≤ i := by
  unfold nbK
  have := List.length_filter_le (fun c => L.getD (x * q + c) 0 == 1) (List.range i)
  simpa using this
theorem nbT_len (q : Nat) (L : List Int) (x : Nat) : (nbT q L x).length = x := by simp [nbT]
theorem row4T {w : World} {g : Nat} {x0 x1 x2 x3 : Value} {t : TypeId} (h : w.heap[g]? = some (.cells #[x0, x1, x2, x3] t (0, 0))) : w.cell? ⟨g, 0, none⟩ = some x0 ∧ w.cell? ⟨g, 1, none⟩ = some x1 ∧ w.cell? ⟨g, 2, none⟩ = some x2 ∧ w.cell? ⟨g, 3, none⟩ = some x3 :=
  ⟨cell_of_row w g 0 _ _ _ h, cell_of_row w g 1 _ _ _ h, cell_of_row w g 2 _ _ _ h, cell_of_row w g 3 _ _ _ h⟩

set_option maxRecDepth 100000 in
set_option maxHeartbeats 32000000 in
theorem tp_none (p pp kk : Int) (l : List Int) (u : Value) (w : World) (hTB : Tab w) (hTA : Fd.Tab w) (hu : Sl w u l) (hl : l.length ≤ maxLen) (hok : ¬ ∃ P : Nat, p = P ∧ 1 ≤ P ∧ P ≤ 23 ∧ Hd.p43 P = true) :
    Calls Tryd.prog 3 #[.int .i64 p, .agg #[.int .i64 pp, .int .i64 kk, u]] w fun e w' => e = .returned (.bool true) ∧ Below w.heap.size w w' := by
  obtain ⟨i3, hi3, hz0, hz1, hz2⟩ := info3
  obtain ⟨i36, ji3, jz0, jz1, jz2⟩ := info36
  obtain ⟨ua, uc, rfl⟩ := Sg.sl_len hu
  have hbox := heap_alloc_new w (.cells #[.int .i64 pp, .int .i64 kk, .slice ua l.length uc] 24)
  have b0 := balloc w (.cells #[.int .i64 pp, .int .i64 kk, .slice ua l.length uc] 24)
  obtain ⟨x0, x1, x2⟩ := Sg.row3p hbox
  have HB0 : Hid (Below w.heap.size w (w.alloc (.cells #[.int .i64 pp, .int .i64 kk, .slice ua l.length uc] 24))) := b0
  have HTX : Hid (∀ W, Below (w.alloc (.cells #[.int .i64 pp, .int .i64 kk, .slice ua l.length uc] 24)).heap.size (w.alloc (.cells #[.int .i64 pp, .int .i64 kk, .slice ua l.length uc] 24)) W → Tab W ∧ Fd.Tab W ∧ Sl W (.slice ua l.length uc) l ∧ (W.cell? ⟨w.heap.size, 0, none⟩ = some (.int .i64 pp) ∧ W.cell? ⟨w.heap.size, 1, none⟩ = some (.int .i64 kk) ∧ W.cell? ⟨w.heap.size, 2, none⟩ = some (.slice ua l.length uc))) := fun W h => by
    have h1 := Below.next b0 h
    exact ⟨hTB.below h1 hTB.pos, hTA.below h1, hu.below h1, Sg.row3p ((h.block w.heap.size (by simp)).trans hbox)⟩
  have C1 := one_any _ (HTX.out _ (Below.refl _ _)).1 (HTX.out _ (Below.refl _ _)).2.1
  have HWAY := pa_way pp kk l
  have HCP : Hid (∀ W, Below (w.alloc (.cells #[.int .i64 pp, .int .i64 kk, .slice ua l.length uc] 24)).heap.size (w.alloc (.cells #[.int .i64 pp, .int .i64 kk, .slice ua l.length uc] 24)) W → Calls Tryd.prog 10 #[.agg #[.int .i64 pp, .int .i64 kk, .slice ua l.length uc]] W fun e w' => (∃ (n : Int) (y : Value) (M : List Int) (z : Int), e = .returned (.tuple #[.agg #[.int .i64 n, y], .int .i64 z]) ∧ Sg.PaR pp kk l n M z ∧ Sg.OwnS w' y M) ∧ Below W.heap.size W w') := fun W h => Sg.fpal pp kk l _ W (HTX.out W h).2.1 (HTX.out W h).2.2.1 hl
  clear hbox b0
  have HC5 : Hid (∀ W, Fd.Tab W → Calls Tryd.prog 5 #[.int .i64 p] W fun e w' => (∃ z : Int, e = .returned (.tuple #[.agg #[.int .i64 0, .slice none 0 0], .int .i64 z]) ∧ (z == 0) = false) ∧ Below W.heap.size W w') := fun W hW => by
    by_cases hf : p < 1 ∨ 23 < p
    · exact (Hd.Pal_far p W hf).mono fun e w' ⟨h, hb⟩ => ⟨⟨1, h, rfl⟩, hb⟩
    · obtain ⟨P, rfl⟩ : ∃ P : Nat, p = P := ⟨p.toNat, by omega⟩
      have h4 : Hd.p43 P = false := by
        cases h : Hd.p43 P
        · rfl
        · exact absurd ⟨P, rfl, by omega, by omega, h⟩ hok
      exact (Hd.Pal_none P W hW (by omega) (by omega) h4).mono fun e w' ⟨h, hb⟩ => ⟨⟨4, h, rfl⟩, hb⟩
  clear hok
  rcases HWAY with HWAY | ⟨q, M0, hq5, hq24, hN, h6, HWAY⟩
  · have HW : Hid (∀ n M z, Sg.PaR pp kk l n M z → z ≠ 0) := HWAY
    go_enter Tryd.func3, Tryd.ntmps3
    go_wp2_with (first
      | (go_at_call 4; refine C1.mono ?_; rintro e w1 ⟨rfl, hb1⟩; clear C1)
      | (go_at_call 5; refine (HC5.out _ (HTX.out _ hb1).2.1).mono ?_; rintro e w2 ⟨⟨z5, rfl, hz5⟩, hb2⟩; have hb3 : Below (w.alloc (.cells #[.int .i64 pp, .int .i64 kk, .slice ua l.length uc] 24)).heap.size (w.alloc (.cells #[.int .i64 pp, .int .i64 kk, .slice ua l.length uc] 24)) (w2.alloc (.cells #[.int .i64 0, .slice none 0 0] 27)) := Below.next (Below.next hb1 hb2) (balloc w2 _); obtain ⟨c0, c1, c2⟩ := (HTX.out _ hb3).2.2.2; have C10 := HCP.out _ hb3)
      | (go_at_call 10; refine C10.mono ?_; rintro e w4 ⟨⟨n, y, M, z, rfl, hPR, hy⟩, hb4⟩; clear C10; obtain ⟨ya, yc, rfl⟩ := hy.len; have hz : (z != 0) = true := (by simpa using HW.out n M z hPR)))
    go_ret
    exact ⟨rfl, Below.next HB0.out (Below.next hb3 (Below.next hb4 (balloc _ _)))⟩
  · have HW : Hid (∀ n M z, Sg.PaR pp kk l n M z → z = 0 ∧ n = (q : Int) ∧ M = M0) := HWAY
    have HLN : Hid (M0.length = q * q) := hN.1.len
    have HNB := h6.nb
    have HGD : Hid (GoodD q (Sg.nbB q M0)) := nb_good (by omega) hq24
    have HLV : Hid (LvOk q (Sg.nbB q M0) 1 (q / 2) (q / 2)) := nb_ok (by omega) HNB
    have HMT : Hid (mtL q (Sg.nbB q M0) = [(q - 5) / 4, (q - 1) / 4]) := nb_mtL HNB
    obtain ⟨hGG, d, nn, ff, hd, hnn, hff, hst⟩ := hN
    have HNU : Hid (Sg.NuR q M0 (q : Int) d nn ff 0) := .inr ⟨q, rfl, hGG, .inl ⟨rfl, rfl, hst⟩⟩
    obtain ⟨zz, Hzz⟩ : ∃ z, Hid (q * q = z) := ⟨_, rfl⟩
    have HLT : Hid (∀ i j, i < q → j < q → i * q + j < zz) := fun i j hi hj => by rw [← Hzz.out]; exact Sg.cell_ltG hi hj
    have hzp : 0 < zz := by have := HLT.out 0 0 (by omega) (by omega); omega
    have hz99 : zz ≤ 999 := by rw [← Hzz.out]; exact Nat.le_trans (Nat.mul_le_mul hq24 hq24) (by decide)
    rw [Hzz.out] at HLN
    clear HNB h6 hGG hst
    go_enter Tryd.func3, Tryd.ntmps3
    go_wp2_with (first
      | (go_at_call 4; refine C1.mono ?_; rintro e w1 ⟨rfl, hb1⟩; clear C1)
      | (go_at_call 5; refine (HC5.out _ (HTX.out _ hb1).2.1).mono ?_; rintro e w2 ⟨⟨z5, rfl, hz5⟩, hb2⟩; have hb3 : Below (w.alloc (.cells #[.int .i64 pp, .int .i64 kk, .slice ua l.length uc] 24)).heap.size (w.alloc (.cells #[.int .i64 pp, .int .i64 kk, .slice ua l.length uc] 24)) (w2.alloc (.cells #[.int .i64 0, .slice none 0 0] 27)) := Below.next (Below.next hb1 hb2) (balloc w2 _); obtain ⟨c0, c1, c2⟩ := (HTX.out _ hb3).2.2.2; have C10 := HCP.out _ hb3)
      | (go_at_call 10; refine C10.mono ?_; rintro e w4 ⟨⟨n, y, M, z, rfl, hPR, hy⟩, hb4⟩; clear C10; obtain ⟨e1, e2, e3⟩ := HW.out n M z hPR; subst e1 e2 e3; obtain ⟨ta, to_, tc, rfl, hta, htc⟩ := hy.sl.form HLN.out hzp; obtain ⟨s, Hs⟩ : ∃ s, Hid (w4.heap.size = s) := ⟨_, rfl⟩; have hs : w4.heap.size = s := Hs.out))
    have HTC : Hid (∀ j, j < zz → w4.cell? ⟨ta, to_ + j, none⟩ = some (.int .i64 (M.getD j 0))) := htc
    have HB4 : Hid (Below (w.alloc (.cells #[.int .i64 pp, .int .i64 kk, .slice ua l.length uc] 24)).heap.size (w.alloc (.cells #[.int .i64 pp, .int .i64 kk, .slice ua l.length uc] 24)) w4) := Below.next hb3 hb4
    have hta2 : ta < s := by omega
    obtain ⟨Q, HQ⟩ : ∃ Q : World, Hid (Q = (w4.alloc (.cells #[.int .i64 (q : Int), .slice (some ⟨ta, to_, none⟩) zz tc] 27)).alloc (.cells #[.int .i64 (q : Int), .slice none 0 0] 37)) := ⟨_, rfl⟩
    have g0 : Q.heap[s]? = some (.cells #[.int .i64 (q : Int), .slice (some ⟨ta, to_, none⟩) zz tc] 27 (0, 0)) := by
      rw [HQ.out, ← hs]; exact (Below.heap_alloc _ _ _ (by simp)).trans (heap_alloc_new w4 _)
    have g1 : Q.heap[s + 1]? = some (.cells #[.int .i64 (q : Int), .slice none 0 0] 37 (0, 0)) := by
      rw [HQ.out, ← hs]
      have := heap_alloc_new (w4.alloc (.cells #[.int .i64 (q : Int), .slice (some ⟨ta, to_, none⟩) zz tc] 27)) (.cells #[.int .i64 (q : Int), .slice none 0 0] 37)
      rwa [World.size_alloc] at this
    have g2 : Below s w4 Q := by rw [HQ.out, ← hs]; exact Below.next (balloc _ _) (balloc _ _)
    have g3 : s + 2 ≤ Q.heap.size := by rw [HQ.out]; simp; omega
    rw [← HQ.out]
    clear HQ htc
    go_loopw [17] (fun xv wr => ∃ (x : Nat) (ov : Value), xv = .int .i64 (x : Int) ∧ x ≤ q ∧ wr.heap[s]? = some (.cells #[.int .i64 (q : Int), .slice (some ⟨ta, to_, none⟩) zz tc] 27 (0, 0)) ∧ wr.heap[s + 1]? = some (.cells #[.int .i64 (q : Int), ov] 37 (0, 0)) ∧ OR wr (s + 2) ov (nbT q M x) ∧ s + 2 ≤ wr.heap.size ∧ Below s w4 wr) (fun xv _ => (q - intOf xv).toNat)
    case atStart => exact ⟨0, _, rfl, by omega, g0, g1, OR.nil _ _, g3, g2⟩
    case round =>
      clear g0 g1 g2 g3
      obtain ⟨x, ov, rfl, hx, hT0, hT1, hOR, hsz, hB⟩ := hrel
      obtain ⟨y0, y1, _, _⟩ := Sg.row2 hT0
      by_cases hlt : x < q
      · have hdi : decide ((x : Int) < (q : Int)) = true := by simp; omega
        obtain ⟨w5, Hw5⟩ : ∃ w5 : World, Hid (w5 = wr) := ⟨_, rfl⟩
        have HOR : Hid (OR w5 (s + 2) ov (nbT q M x)) := by rw [Hw5.out]; exact hOR
        have HB5 : Hid (Below s w4 w5) := by rw [Hw5.out]; exact hB
        have HSZ : Hid (s + 2 ≤ w5.heap.size) := by rw [Hw5.out]; exact hsz
        have HT0 : Hid (w5.heap[s]? = some (.cells #[.int .i64 (q : Int), .slice (some ⟨ta, to_, none⟩) zz tc] 27 (0, 0))) := by rw [Hw5.out]; exact hT0
        have HT1 : Hid (w5.heap[s + 1]? = some (.cells #[.int .i64 (q : Int), ov] 37 (0, 0))) := by rw [Hw5.out]; exact hT1
        clear hOR hB hsz hT0 hT1
        go_wp2
        go_loopw [18, 19] (fun bv iv wr' => ∃ (i : Nat) (ls : List Nat), iv = .int .i64 (i : Int) ∧ i ≤ q ∧ Hid (nbK q M x i = ls) ∧ wr'.ownsRow w5.heap.size 3 1 bv ls.length ((ls.map Int.ofNat).map (Value.int .i64)) ∧ Below w5.heap.size w5 wr') (fun _ iv _ => (q - intOf iv).toNat)
        case atStart => exact ⟨0, [], rfl, by omega, (rfl : nbK q M x 0 = []), World.ownsRow_nil _ _ _ _, by rw [Hw5.out]; exact Below.refl _ _⟩
        case round =>
          clear y0 y1
          obtain ⟨i, ls, rfl, hi, HL, hown, hB⟩ := hrel
          have hbz := hB.size
          have hBs : Below s w4 wr := (HB5.out).trans (hB.mono (by have := HSZ.out; omega))
          have hT0 := ((hB.block s (by have := HSZ.out; omega))).trans HT0.out
          have hT1 := ((hB.block (s + 1) (by have := HSZ.out; omega))).trans HT1.out
          obtain ⟨y0, y1, _, _⟩ := Sg.row2 hT0
          obtain ⟨y2, y3, _, _⟩ := Sg.row2 hT1
          have hll : ls.length ≤ i := by rw [← HL.out]; exact nbK_len q M x i
          by_cases hli : i < q
          · have hdx : decide ((i : Int) < (q : Int)) = true := by simp; omega
            have k1 := HLT.out x i hlt hli
            have ct := (hBs.cell (p := ⟨ta, to_ + (x * q + i), none⟩) hta2).trans (HTC.out _ k1)
            have hsu := nbK_succ q M x i
            rw [HL.out] at hsu
            obtain ⟨m, Hm⟩ : ∃ m, Hid (x * q = m) := ⟨_, rfl⟩
            have hm : (x : Int) * (q : Int) = (m : Int) := by rw [← Hm.out]; simp
            rw [Hm.out] at k1 ct hsu
            obtain ⟨k9, Hk9⟩ : ∃ k, Hid (m + i = k) := ⟨_, rfl⟩
            have hk9 : (m : Int) + (i : Int) = (k9 : Int) := by rw [← Hk9.out]; simp
            rw [Hk9.out] at k1 ct hsu
            have hkz : (k9 : Int) < (zz : Int) := by omega
            have hm' := Hd.wrapN9 (q := m) (by have := Hk9.out; omega)
            have hk' := Hd.wrapN9 (q := k9) (by omega)
            obtain ⟨z, Hz⟩ : ∃ z, Hid (M.getD k9 0 = z) := ⟨_, rfl⟩
            rw [Hz.out] at ct hsu
            cases hc : z == 1 with
            | false =>
              rw [hc] at hsu
              have HL2 : Hid (nbK q M x (i + 1) = ls) := by show _ = _; rw [hsu]; simp
              clear hsu HL
              go_wp2
              go_roundw
              case rel => exact ⟨i + 1, ls, by go_num, by omega, HL2, hown, hB⟩
              case measure => simp [intOf]; omega
            | true =>
              rw [hc] at hsu
              have HL2 : Hid (nbK q M x (i + 1) = ls ++ [i]) := by show _ = _; rw [hsu]; simp
              clear hsu HL
              obtain ⟨k, Hk⟩ : ∃ k, Hid (ls.length = k) := ⟨_, rfl⟩
              rw [Hk.out] at hown hll
              go_wp2_with (first
                | (at_builtin; refine wpList_append_own _ rfl _ _ 22 rfl w5.heap.size 3 i3 (.int .i64 0) 1 8 und22 hi3 hz0 hz1 hz2 rfl (by decide) _ _ _ rfl (hown.alloc _) ⟨wr.heap.size, 0, none⟩ 1 1 [.int .i64 (i : Int)] rfl rfl ?c1 ?c2 ?c3 ?c4 ?c5 ?_)
                | go_in)
              case c1 =>
                intro j u hj
                match j, hj with
                | 0, hj => simp at hj; subst hj; simp [Addr.add]
              case c2 => intro u hu; simp at hu; subst hu; rfl
              case c3 => unfold maxLen; omega
              case c4 => omega
              case c5 => simp; omega
              · intro v' w6 hown' hgrow _
                have hb6 : Below w5.heap.size w5 w6 := (hB.alloc hbz _).grown hgrow (by simp; omega) (fun k hk => (hown.lt k hk).1)
                go_wp2
                go_roundw
                case rel => exact ⟨i + 1, ls ++ [i], by go_num, by omega, HL2, by simpa [Hk.out] using hown', hb6⟩
                case measure => simp [intOf]; omega
          · have hdx : decide ((i : Int) < (q : Int)) = false := by simp; omega
            obtain rfl : i = q := by omega
            have HTS2 : Hid (nbT i M (x + 1) = nbT i M x ++ [ls]) := by show _ = _; rw [nbT_succ, ← HL.out, nbK_full]
            have hs3 : s + 2 ≤ wr.heap.size := Nat.le_trans HSZ.out hbz
            have hrow := Hd.orow_base hown HSZ.out
            replace hrow : ORow wr (s + 2) _ ls := hrow
            obtain ⟨vals, h1, h2⟩ := HOR.out.below hB
            have hln := nbT_len i M x
            have HH2 : Hid (∀ (i_1 : Nat) (u : Value) (l : List Nat), vals[i_1]? = some u → (nbT i M x)[i_1]? = some l → ORow wr (s + 2) u l) := h2
            have HH1 : Hid (wr.ownsRow (s + 2) 22 1 ov (nbT i M x).length vals) := h1
            rw [hln] at h1
            obtain ⟨oa, oc, rfl⟩ := own_form h1
            obtain ⟨ra, rc, rfl⟩ := own_form hown
            have hx99 : x ≤ 99 := by omega
            generalize ls.length = ll at *
            clear h2 hln hown
            go_wp2_with (first
              | (at_builtin; refine wpList_append_own _ rfl _ _ 35 rfl (s + 2) 22 i36 (.slice none 0 0) 1 24 undR ji3 jz0 jz1 jz2 rfl (by decide) _ _ _ rfl (h1.alloc _) ⟨wr.heap.size, 0, none⟩ 1 1 [.slice ra ll rc] rfl rfl ?c1 ?c2 ?c3 ?c4 ?c5 ?_)
              | go_in)
            case c1 =>
              intro j u hj
              match j, hj with
              | 0, hj => simp at hj; subst hj; simp [Addr.add]
            case c2 => intro u hu; simp at hu; subst hu; rfl
            case c3 => unfold maxLen; omega
            case c4 => omega
            case c5 => simp; omega
            · intro v' w6 hown' hgrow _
              have hal := balloc wr (.cells #[.slice ra ll rc] 22)
              have hB2 : Below (s + 2) wr w6 := ((Below.refl _ wr).alloc hs3 _).grown hgrow (by simp; omega) (fun k hk => (h1.lt k hk).1)
              have hO2 : OR w6 (s + 2) v' (nbT i M x ++ [ls]) := OR.more (own_keep HH1.out fun b _ hb => hal.block b hb) (fun i_1 u l' e1 e2 => (HH2.out i_1 u l' e1 e2).below hal) (hrow.below hal) (by rw [nbT_len]; exact hown') hgrow
              rw [← HTS2.out] at hO2
              obtain ⟨va, vc, rfl⟩ := own_form hown'
              have hO3 := hO2.keep (w' := w6.setCell ⟨s + 1, 1, none⟩ (.slice va (x + 1) vc)) (fun b hb _ => heap_setCell_other w6 ⟨s + 1, 1, none⟩ b _ (by show b ≠ s + 1; omega))
              have hq0 := (hB2.block s (by omega)).trans hT0
              have hq1 := (hB2.block (s + 1) (by omega)).trans hT1
              have hB3 := (hBs.trans (hB2.mono (by omega))).setCell (p := ⟨s + 1, 1, none⟩) (by show s ≤ s + 1; omega) (.slice va (x + 1) vc)
              have hsz2 : s + 2 ≤ (w6.setCell ⟨s + 1, 1, none⟩ (.slice va (x + 1) vc)).heap.size := by have := hB2.size; simp; omega
              have hn0 := (heap_setCell_other w6 ⟨s + 1, 1, none⟩ s (.slice va (x + 1) vc) (by show s ≠ s + 1; omega)).trans hq0
              have hn1 := heap_setCell_same w6 (s + 1) 1 _ _ (.slice va (x + 1) vc) hq1
              obtain ⟨z2, z3, z4, z5f⟩ := Sg.row2 hq1
              clear hO2 hB2 hal hgrow hown' h1 y0 y1 y2 y3 hrow hT0 hT1
              go_wp2
              go_roundw
              case rel => exact ⟨x + 1, _, by go_num, by omega, hn0, hn1, hO3, hsz2, hB3⟩
              case measure => simp [intOf]; omega
      · have hdi : decide ((x : Int) < (q : Int)) = false := by simp; omega
        obtain rfl : x = q := by omega
        rw [nbT_full] at hOR
        have hnl : (Sg.nbB x M).length = x := by rw [← nbT_full]; exact nbT_len _ _ _
        obtain ⟨oa, oc, rfl⟩ := hOR.cap
        rw [hnl] at hT1 hOR
        have hxd : x / 2 = d := by omega
        have hxn : (x - 5) / 4 = nn := by omega
        have hxf : (x - 1) / 4 = ff := by omega
        rw [hxd] at HLV
        rw [hxn, hxf] at HMT
        have HWR : Hid (Below (w.alloc (.cells #[.int .i64 pp, .int .i64 kk, .slice ua l.length uc] 24)).heap.size (w.alloc (.cells #[.int .i64 pp, .int .i64 kk, .slice ua l.length uc] 24)) wr) := Below.next HB4.out (by rw [hs]; exact hB)
        have HSL : Hid (∀ W, Below wr.heap.size wr W → Sl W (.slice (some ⟨ta, to_, none⟩) zz tc) M) := fun W h => hy.sl.below (Below.next (by rw [hs]; exact hB) h)
        have HBX : Hid (∀ W, Below wr.heap.size wr W → (W.cell? ⟨s, 0, none⟩ = some (.int .i64 (x : Int)) ∧ W.cell? ⟨s, 1, none⟩ = some (.slice (some ⟨ta, to_, none⟩) zz tc)) ∧ W.cell? ⟨s + 1, 0, none⟩ = some (.int .i64 (x : Int)) ∧ W.cell? ⟨s + 1, 1, none⟩ = some (.slice oa x oc)) := fun W h => by
          have k1 := Sg.row2 ((h.block s (by omega)).trans hT0)
          have k2 := Sg.row2 ((h.block (s + 1) (by omega)).trans hT1)
          exact ⟨⟨k1.1, k1.2.1⟩, k2.1, k2.2.1⟩
        have HC9 : Hid (∀ W, Below wr.heap.size wr W → Calls Tryd.prog 9 #[.agg #[.int .i64 (x : Int), .slice oa x oc], .int .i64 1] W fun e w' => e = .returned (.tuple #[.int .i64 (d : Int), .int .i64 (d : Int), .int .i64 0]) ∧ Below W.heap.size W w') := fun W h => (Level_any x 1 _ _ W HGD.out (hOR.below h).rw).mono fun e w' ⟨h1, h2⟩ => ⟨h1.one (.inr ⟨1, rfl, by omega, by omega, .inl ⟨_, _, HLV.out, rfl⟩⟩), h2⟩
        have HC11 : Hid (∀ W, Below wr.heap.size wr W → Calls Tryd.prog 11 #[.agg #[.int .i64 (x : Int), .slice oa x oc]] W fun e w' => ∃ v, e = .returned (.tuple #[v, .int .i64 0]) ∧ Sg.OwnS w' v [(nn : Int), (ff : Int)] ∧ Below W.heap.size W w') := fun W h => (Meets_good x _ _ W (HTX.out _ (Below.next HWR.out h)).1 HGD.out (hOR.below h).rw).mono fun e w' ⟨v, h1, h2, h3⟩ => ⟨v, h1, Sg.OwnS.of (by rw [HMT.out] at h2; exact h2), h3⟩
        have HC12 : Hid (∀ W, Below wr.heap.size wr W → Calls Tryd.prog 12 #[.agg #[.int .i64 (x : Int), .slice (some ⟨ta, to_, none⟩) zz tc]] W fun e w' => e = .returned (.tuple #[.agg #[.int .i64 (x : Int), .int .i64 (d : Int), .int .i64 (nn : Int), .int .i64 (ff : Int)], .int .i64 0]) ∧ Below W.heap.size W w') := fun W h => (Sg.fnum x M _ W (HSL.out W h) (by rw [HLN.out]; unfold maxLen; omega)).mono fun e w' ⟨⟨P, D, N, F, u, h1, h2⟩, h3⟩ => by
          obtain ⟨rfl, rfl, rfl, rfl, rfl⟩ := HNU.out.one h2
          exact ⟨h1, h3⟩
        have HC13 : Hid (∀ W (v : Value) (y : Nat), Sg.OwnS W v [(nn : Int), (ff : Int)] → y = nn ∨ y = ff → Calls Tryd.prog 13 #[v, .int .i64 (y : Int)] W fun e w' => e = .returned (.bool true) ∧ w' = W) := fun W v y hv hy => Lies_any [nn, ff] y true v W hv.sl (by simp) (by rcases hy with rfl | rfl <;> simp)
        have e4 := Below.refl wr.heap.size wr
        clear y0 y1 hT0 hT1 hOR HGD HLV HMT HNU HWAY HW hPR
        obtain ⟨⟨y0, y1⟩, y2, y3⟩ := HBX.out _ e4
        have D9 := HC9.out _ e4
        go_wp2_with (first
          | (go_at_call 9; refine D9.mono ?_; rintro e w5 ⟨rfl, e5⟩; clear D9 y0 y1 y2 y3; obtain ⟨⟨y0, y1⟩, y2, y3⟩ := HBX.out _ e5; have D11 := HC11.out _ e5)
          | (go_at_call 11; refine D11.mono ?_; rintro e w6 ⟨v6, rfl, hv6, e6'⟩; have e6 := Below.next e5 e6'; clear D11 y0 y1 y2 y3; obtain ⟨⟨y0, y1⟩, y2, y3⟩ := HBX.out _ e6; have D12 := HC12.out _ e6)
          | (go_at_call 12; refine D12.mono ?_; rintro e w7 ⟨rfl, e7'⟩; have e7 := Below.next e6 e7'; clear D12; obtain ⟨ma, mc, rfl⟩ := hv6.len; have e8 := Below.next e7 (balloc w7 (.cells #[.int .i64 (x : Int), .int .i64 (d : Int), .int .i64 (nn : Int), .int .i64 (ff : Int)] 45)); have hv8 := hv6.below (Below.next e7' (balloc w7 (.cells #[.int .i64 (x : Int), .int .i64 (d : Int), .int .i64 (nn : Int), .int .i64 (ff : Int)] 45))); have D13 := HC13.out _ _ nn hv8 (.inl rfl); have D14 := HC13.out _ _ ff hv8 (.inr rfl))
          | (go_at_call 13; refine D13.mono ?_; rintro e w9 ⟨rfl, rfl⟩; clear D13)
          | (go_at_call 13; refine D14.mono ?_; rintro e w9 ⟨rfl, rfl⟩; clear D14))
        go_ret
        exact ⟨rfl, Below.next HB0.out (Below.next HWR.out e8)⟩
set_option maxRecDepth 100000 in
set_option maxHeartbeats 32000000 in
theorem tp_three (p pp kk : Int) (l : List Int) (u : Value) (w : World) (hTB : Tab w) (hTA : Fd.Tab w) (hu : Sl w u l) (hl : l.length ≤ maxLen) (hok : ∃ P : Nat, p = P ∧ 1 ≤ P ∧ P ≤ 23 ∧ Hd.p43 P = true) (h3 : p ≤ 3) :
    Calls Tryd.prog 3 #[.int .i64 p, .agg #[.int .i64 pp, .int .i64 kk, u]] w fun e w' => e = .returned (.bool true) ∧ Below w.heap.size w w' := by
  obtain ⟨i3, hi3, hz0, hz1, hz2⟩ := info3
  obtain ⟨i36, ji3, jz0, jz1, jz2⟩ := info36
  obtain ⟨ua, uc, rfl⟩ := Sg.sl_len hu
  have hbox := heap_alloc_new w (.cells #[.int .i64 pp, .int .i64 kk, .slice ua l.length uc] 24)
  have b0 := balloc w (.cells #[.int .i64 pp, .int .i64 kk, .slice ua l.length uc] 24)
  obtain ⟨x0, x1, x2⟩ := Sg.row3p hbox
  have HB0 : Hid (Below w.heap.size w (w.alloc (.cells #[.int .i64 pp, .int .i64 kk, .slice ua l.length uc] 24))) := b0
  have HTX : Hid (∀ W, Below (w.alloc (.cells #[.int .i64 pp, .int .i64 kk, .slice ua l.length uc] 24)).heap.size (w.alloc (.cells #[.int .i64 pp, .int .i64 kk, .slice ua l.length uc] 24)) W → Tab W ∧ Fd.Tab W ∧ Sl W (.slice ua l.length uc) l ∧ (W.cell? ⟨w.heap.size, 0, none⟩ = some (.int .i64 pp) ∧ W.cell? ⟨w.heap.size, 1, none⟩ = some (.int .i64 kk) ∧ W.cell? ⟨w.heap.size, 2, none⟩ = some (.slice ua l.length uc))) := fun W h => by
    have h1 := Below.next b0 h
    exact ⟨hTB.below h1 hTB.pos, hTA.below h1, hu.below h1, Sg.row3p ((h.block w.heap.size (by simp)).trans hbox)⟩
  have C1 := one_any _ (HTX.out _ (Below.refl _ _)).1 (HTX.out _ (Below.refl _ _)).2.1
  have HWAY := pa_way pp kk l
  have HCP : Hid (∀ W, Below (w.alloc (.cells #[.int .i64 pp, .int .i64 kk, .slice ua l.length uc] 24)).heap.size (w.alloc (.cells #[.int .i64 pp, .int .i64 kk, .slice ua l.length uc] 24)) W → Calls Tryd.prog 10 #[.agg #[.int .i64 pp, .int .i64 kk, .slice ua l.length uc]] W fun e w' => (∃ (n : Int) (y : Value) (M : List Int) (z : Int), e = .returned (.tuple #[.agg #[.int .i64 n, y], .int .i64 z]) ∧ Sg.PaR pp kk l n M z ∧ Sg.OwnS w' y M) ∧ Below W.heap.size W w') := fun W h => Sg.fpal pp kk l _ W (HTX.out W h).2.1 (HTX.out W h).2.2.1 hl
  clear hbox b0
  obtain ⟨P, rfl, h1, h23, h4⟩ := hok
  obtain ⟨n1, Hn1⟩ : ∃ n, Hid (P + 1 = n) := ⟨_, rfl⟩
  obtain ⟨LL, HLL⟩ : ∃ L, Hid (Hd.flI (P + 1) (Hd.paF P) ((P + 1) * (P + 1)) = L) := ⟨_, rfl⟩
  have HGH : Hid (Hd.GoodH n1 LL) := by rw [← HLL.out, ← Hn1.out]; exact tp_good h23 h4
  have HC5 : Hid (∀ W, Fd.Tab W → Calls Tryd.prog 5 #[.int .i64 (P : Int)] W fun e w' => (∃ (a : Option Addr) (n c : Nat), e = .returned (.tuple #[.agg #[.int .i64 (n1 : Int), .slice a n c], .int .i64 0]) ∧ Sg.OwnS w' (.slice a n c) LL) ∧ Below W.heap.size W w') := fun W hW => (Hd.Pal_ok P W hW h1 h23 h4).mono fun e w' ⟨⟨y, h, ho⟩, hb⟩ => by
    rw [HLL.out, Hn1.out, ← HGH.out.len] at ho
    have ho2 := Sg.OwnS.of ho
    obtain ⟨a, c, rfl⟩ := ho2.len
    rw [Hn1.out] at h
    exact ⟨⟨a, _, c, h, ho2⟩, hb⟩
  have hd3 : decide (3 < (P : Int)) = false := by simp; omega
  clear h3 h4 HLL
  rcases HWAY with HWAY | ⟨q, M0, hq5, hq24, hN, h6, HWAY⟩
  · have HW : Hid (∀ n M z, Sg.PaR pp kk l n M z → z ≠ 0) := HWAY
    go_enter Tryd.func3, Tryd.ntmps3
    go_wp2_with (first
      | (go_at_call 4; refine C1.mono ?_; rintro e w1 ⟨rfl, hb1⟩; clear C1)
      | (go_at_call 5; refine (HC5.out _ (HTX.out _ hb1).2.1).mono ?_; rintro e w2 ⟨⟨aa, an, ac, rfl, ha⟩, hb2⟩; have hb3 : Below (w.alloc (.cells #[.int .i64 pp, .int .i64 kk, .slice ua l.length uc] 24)).heap.size (w.alloc (.cells #[.int .i64 pp, .int .i64 kk, .slice ua l.length uc] 24)) (w2.alloc (.cells #[.int .i64 (n1 : Int), .slice aa an ac] 27)) := Below.next (Below.next hb1 hb2) (balloc w2 _); obtain ⟨c0, c1, c2⟩ := (HTX.out _ hb3).2.2.2; have C10 := HCP.out _ hb3)
      | (go_at_call 10; refine C10.mono ?_; rintro e w4 ⟨⟨n, y, M, z, rfl, hPR, hy⟩, hb4⟩; clear C10; obtain ⟨ya, yc, rfl⟩ := hy.len; have hz : (z != 0) = true := (by simpa using HW.out n M z hPR)))
    go_ret
    exact ⟨rfl, Below.next HB0.out (Below.next hb3 (Below.next hb4 (balloc _ _)))⟩
  · have HW : Hid (∀ n M z, Sg.PaR pp kk l n M z → z = 0 ∧ n = (q : Int) ∧ M = M0) := HWAY
    have HLN : Hid (M0.length = q * q) := hN.1.len
    have HNB := h6.nb
    have HGD : Hid (GoodD q (Sg.nbB q M0)) := nb_good (by omega) hq24
    have HLV : Hid (LvOk q (Sg.nbB q M0) 1 (q / 2) (q / 2)) := nb_ok (by omega) HNB
    have HMT : Hid (mtL q (Sg.nbB q M0) = [(q - 5) / 4, (q - 1) / 4]) := nb_mtL HNB
    obtain ⟨hGG, d, nn, ff, hd, hnn, hff, hst⟩ := hN
    have HNU : Hid (Sg.NuR q M0 (q : Int) d nn ff 0) := .inr ⟨q, rfl, hGG, .inl ⟨rfl, rfl, hst⟩⟩
    obtain ⟨zz, Hzz⟩ : ∃ z, Hid (q * q = z) := ⟨_, rfl⟩
    have HLT : Hid (∀ i j, i < q → j < q → i * q + j < zz) := fun i j hi hj => by rw [← Hzz.out]; exact Sg.cell_ltG hi hj
    have hzp : 0 < zz := by have := HLT.out 0 0 (by omega) (by omega); omega
    have hz99 : zz ≤ 999 := by rw [← Hzz.out]; exact Nat.le_trans (Nat.mul_le_mul hq24 hq24) (by decide)
    rw [Hzz.out] at HLN
    clear HNB h6 hGG hst
    go_enter Tryd.func3, Tryd.ntmps3
    go_wp2_with (first
      | (go_at_call 4; refine C1.mono ?_; rintro e w1 ⟨rfl, hb1⟩; clear C1)
      | (go_at_call 5; refine (HC5.out _ (HTX.out _ hb1).2.1).mono ?_; rintro e w2 ⟨⟨aa, an, ac, rfl, ha⟩, hb2⟩; have hb3 : Below (w.alloc (.cells #[.int .i64 pp, .int .i64 kk, .slice ua l.length uc] 24)).heap.size (w.alloc (.cells #[.int .i64 pp, .int .i64 kk, .slice ua l.length uc] 24)) (w2.alloc (.cells #[.int .i64 (n1 : Int), .slice aa an ac] 27)) := Below.next (Below.next hb1 hb2) (balloc w2 _); obtain ⟨c0, c1, c2⟩ := (HTX.out _ hb3).2.2.2; have C10 := HCP.out _ hb3)
      | (go_at_call 10; refine C10.mono ?_; rintro e w4 ⟨⟨n, y, M, z, rfl, hPR, hy⟩, hb4⟩; clear C10; obtain ⟨e1, e2, e3⟩ := HW.out n M z hPR; subst e1 e2 e3; obtain ⟨ta, to_, tc, rfl, hta, htc⟩ := hy.sl.form HLN.out hzp; obtain ⟨s, Hs⟩ : ∃ s, Hid (w4.heap.size = s) := ⟨_, rfl⟩; have hs : w4.heap.size = s := Hs.out))
    have HTC : Hid (∀ j, j < zz → w4.cell? ⟨ta, to_ + j, none⟩ = some (.int .i64 (M.getD j 0))) := htc
    have HB4 : Hid (Below (w.alloc (.cells #[.int .i64 pp, .int .i64 kk, .slice ua l.length uc] 24)).heap.size (w.alloc (.cells #[.int .i64 pp, .int .i64 kk, .slice ua l.length uc] 24)) w4) := Below.next hb3 hb4
    have hta2 : ta < s := by omega
    obtain ⟨Q, HQ⟩ : ∃ Q : World, Hid (Q = (w4.alloc (.cells #[.int .i64 (q : Int), .slice (some ⟨ta, to_, none⟩) zz tc] 27)).alloc (.cells #[.int .i64 (q : Int), .slice none 0 0] 37)) := ⟨_, rfl⟩
    have g0 : Q.heap[s]? = some (.cells #[.int .i64 (q : Int), .slice (some ⟨ta, to_, none⟩) zz tc] 27 (0, 0)) := by
      rw [HQ.out, ← hs]; exact (Below.heap_alloc _ _ _ (by simp)).trans (heap_alloc_new w4 _)
    have g1 : Q.heap[s + 1]? = some (.cells #[.int .i64 (q : Int), .slice none 0 0] 37 (0, 0)) := by
      rw [HQ.out, ← hs]
      have := heap_alloc_new (w4.alloc (.cells #[.int .i64 (q : Int), .slice (some ⟨ta, to_, none⟩) zz tc] 27)) (.cells #[.int .i64 (q : Int), .slice none 0 0] 37)
      rwa [World.size_alloc] at this
    have g2 : Below s w4 Q := by rw [HQ.out, ← hs]; exact Below.next (balloc _ _) (balloc _ _)
    have g3 : s + 2 ≤ Q.heap.size := by rw [HQ.out]; simp; omega
    rw [← HQ.out]
    clear HQ htc
    go_loopw [17] (fun xv wr => ∃ (x : Nat) (ov : Value), xv = .int .i64 (x : Int) ∧ x ≤ q ∧ wr.heap[s]? = some (.cells #[.int .i64 (q : Int), .slice (some ⟨ta, to_, none⟩) zz tc] 27 (0, 0)) ∧ wr.heap[s + 1]? = some (.cells #[.int .i64 (q : Int), ov] 37 (0, 0)) ∧ OR wr (s + 2) ov (nbT q M x) ∧ s + 2 ≤ wr.heap.size ∧ Below s w4 wr) (fun xv _ => (q - intOf xv).toNat)
    case atStart => exact ⟨0, _, rfl, by omega, g0, g1, OR.nil _ _, g3, g2⟩
    case round =>
      clear g0 g1 g2 g3
      obtain ⟨x, ov, rfl, hx, hT0, hT1, hOR, hsz, hB⟩ := hrel
      obtain ⟨y0, y1, _, _⟩ := Sg.row2 hT0
      by_cases hlt : x < q
      · have hdi : decide ((x : Int) < (q : Int)) = true := by simp; omega
        obtain ⟨w5, Hw5⟩ : ∃ w5 : World, Hid (w5 = wr) := ⟨_, rfl⟩
        have HOR : Hid (OR w5 (s + 2) ov (nbT q M x)) := by rw [Hw5.out]; exact hOR
        have HB5 : Hid (Below s w4 w5) := by rw [Hw5.out]; exact hB
        have HSZ : Hid (s + 2 ≤ w5.heap.size) := by rw [Hw5.out]; exact hsz
        have HT0 : Hid (w5.heap[s]? = some (.cells #[.int .i64 (q : Int), .slice (some ⟨ta, to_, none⟩) zz tc] 27 (0, 0))) := by rw [Hw5.out]; exact hT0
        have HT1 : Hid (w5.heap[s + 1]? = some (.cells #[.int .i64 (q : Int), ov] 37 (0, 0))) := by rw [Hw5.out]; exact hT1
        clear hOR hB hsz hT0 hT1
        go_wp2
        go_loopw [18, 19] (fun bv iv wr' => ∃ (i : Nat) (ls : List Nat), iv = .int .i64 (i : Int) ∧ i ≤ q ∧ Hid (nbK q M x i = ls) ∧ wr'.ownsRow w5.heap.size 3 1 bv ls.length ((ls.map Int.ofNat).map (Value.int .i64)) ∧ Below w5.heap.size w5 wr') (fun _ iv _ => (q - intOf iv).toNat)
        case atStart => exact ⟨0, [], rfl, by omega, (rfl : nbK q M x 0 = []), World.ownsRow_nil _ _ _ _, by rw [Hw5.out]; exact Below.refl _ _⟩
        case round =>
          clear y0 y1
          obtain ⟨i, ls, rfl, hi, HL, hown, hB⟩ := hrel
          have hbz := hB.size
          have hBs : Below s w4 wr := (HB5.out).trans (hB.mono (by have := HSZ.out; omega))
          have hT0 := ((hB.block s (by have := HSZ.out; omega))).trans HT0.out
          have hT1 := ((hB.block (s + 1) (by have := HSZ.out; omega))).trans HT1.out
          obtain ⟨y0, y1, _, _⟩ := Sg.row2 hT0
          obtain ⟨y2, y3, _, _⟩ := Sg.row2 hT1
          have hll : ls.length ≤ i := by rw [← HL.out]; exact nbK_len q M x i
          by_cases hli : i < q
          · have hdx : decide ((i : Int) < (q : Int)) = true := by simp; omega
            have k1 := HLT.out x i hlt hli
            have ct := (hBs.cell (p := ⟨ta, to_ + (x * q + i), none⟩) hta2).trans (HTC.out _ k1)
            have hsu := nbK_succ q M x i
            rw [HL.out] at hsu
            obtain ⟨m, Hm⟩ : ∃ m, Hid (x * q = m) := ⟨_, rfl⟩
            have hm : (x : Int) * (q : Int) = (m : Int) := by rw [← Hm.out]; simp
            rw [Hm.out] at k1 ct hsu
            obtain ⟨k9, Hk9⟩ : ∃ k, Hid (m + i = k) := ⟨_, rfl⟩
            have hk9 : (m : Int) + (i : Int) = (k9 : Int) := by rw [← Hk9.out]; simp
            rw [Hk9.out] at k1 ct hsu
            have hkz : (k9 : Int) < (zz : Int) := by omega
            have hm' := Hd.wrapN9 (q := m) (by have := Hk9.out; omega)
            have hk' := Hd.wrapN9 (q := k9) (by omega)
            obtain ⟨z, Hz⟩ : ∃ z, Hid (M.getD k9 0 = z) := ⟨_, rfl⟩
            rw [Hz.out] at ct hsu
            cases hc : z == 1 with
            | false =>
              rw [hc] at hsu
              have HL2 : Hid (nbK q M x (i + 1) = ls) := by show _ = _; rw [hsu]; simp
              clear hsu HL
              go_wp2
              go_roundw
              case rel => exact ⟨i + 1, ls, by go_num, by omega, HL2, hown, hB⟩
              case measure => simp [intOf]; omega
            | true =>
              rw [hc] at hsu
              have HL2 : Hid (nbK q M x (i + 1) = ls ++ [i]) := by show _ = _; rw [hsu]; simp
              clear hsu HL
              obtain ⟨k, Hk⟩ : ∃ k, Hid (ls.length = k) := ⟨_, rfl⟩
              rw [Hk.out] at hown hll
              go_wp2_with (first
                | (at_builtin; refine wpList_append_own _ rfl _ _ 22 rfl w5.heap.size 3 i3 (.int .i64 0) 1 8 und22 hi3 hz0 hz1 hz2 rfl (by decide) _ _ _ rfl (hown.alloc _) ⟨wr.heap.size, 0, none⟩ 1 1 [.int .i64 (i : Int)] rfl rfl ?c1 ?c2 ?c3 ?c4 ?c5 ?_)
                | go_in)
              case c1 =>
                intro j u hj
                match j, hj with
                | 0, hj => simp at hj; subst hj; simp [Addr.add]
              case c2 => intro u hu; simp at hu; subst hu; rfl
              case c3 => unfold maxLen; omega
              case c4 => omega
              case c5 => simp; omega
              · intro v' w6 hown' hgrow _
                have hb6 : Below w5.heap.size w5 w6 := (hB.alloc hbz _).grown hgrow (by simp; omega) (fun k hk => (hown.lt k hk).1)
                go_wp2
                go_roundw
                case rel => exact ⟨i + 1, ls ++ [i], by go_num, by omega, HL2, by simpa [Hk.out] using hown', hb6⟩
                case measure => simp [intOf]; omega
          · have hdx : decide ((i : Int) < (q : Int)) = false := by simp; omega
            obtain rfl : i = q := by omega
            have HTS2 : Hid (nbT i M (x + 1) = nbT i M x ++ [ls]) := by show _ = _; rw [nbT_succ, ← HL.out, nbK_full]
            have hs3 : s + 2 ≤ wr.heap.size := Nat.le_trans HSZ.out hbz
            have hrow := Hd.orow_base hown HSZ.out
            replace hrow : ORow wr (s + 2) _ ls := hrow
            obtain ⟨vals, h1, h2⟩ := HOR.out.below hB
            have hln := nbT_len i M x
            have HH2 : Hid (∀ (i_1 : Nat) (u : Value) (l : List Nat), vals[i_1]? = some u → (nbT i M x)[i_1]? = some l → ORow wr (s + 2) u l) := h2
            have HH1 : Hid (wr.ownsRow (s + 2) 22 1 ov (nbT i M x).length vals) := h1
            rw [hln] at h1
            obtain ⟨oa, oc, rfl⟩ := own_form h1
            obtain ⟨ra, rc, rfl⟩ := own_form hown
            have hx99 : x ≤ 99 := by omega
            generalize ls.length = ll at *
            clear h2 hln hown
            go_wp2_with (first
              | (at_builtin; refine wpList_append_own _ rfl _ _ 35 rfl (s + 2) 22 i36 (.slice none 0 0) 1 24 undR ji3 jz0 jz1 jz2 rfl (by decide) _ _ _ rfl (h1.alloc _) ⟨wr.heap.size, 0, none⟩ 1 1 [.slice ra ll rc] rfl rfl ?c1 ?c2 ?c3 ?c4 ?c5 ?_)
              | go_in)
            case c1 =>
              intro j u hj
              match j, hj with
              | 0, hj => simp at hj; subst hj; simp [Addr.add]
            case c2 => intro u hu; simp at hu; subst hu; rfl
            case c3 => unfold maxLen; omega
            case c4 => omega
            case c5 => simp; omega
            · intro v' w6 hown' hgrow _
              have hal := balloc wr (.cells #[.slice ra ll rc] 22)
              have hB2 : Below (s + 2) wr w6 := ((Below.refl _ wr).alloc hs3 _).grown hgrow (by simp; omega) (fun k hk => (h1.lt k hk).1)
              have hO2 : OR w6 (s + 2) v' (nbT i M x ++ [ls]) := OR.more (own_keep HH1.out fun b _ hb => hal.block b hb) (fun i_1 u l' e1 e2 => (HH2.out i_1 u l' e1 e2).below hal) (hrow.below hal) (by rw [nbT_len]; exact hown') hgrow
              rw [← HTS2.out] at hO2
              obtain ⟨va, vc, rfl⟩ := own_form hown'
              have hO3 := hO2.keep (w' := w6.setCell ⟨s + 1, 1, none⟩ (.slice va (x + 1) vc)) (fun b hb _ => heap_setCell_other w6 ⟨s + 1, 1, none⟩ b _ (by show b ≠ s + 1; omega))
              have hq0 := (hB2.block s (by omega)).trans hT0
              have hq1 := (hB2.block (s + 1) (by omega)).trans hT1
              have hB3 := (hBs.trans (hB2.mono (by omega))).setCell (p := ⟨s + 1, 1, none⟩) (by show s ≤ s + 1; omega) (.slice va (x + 1) vc)
              have hsz2 : s + 2 ≤ (w6.setCell ⟨s + 1, 1, none⟩ (.slice va (x + 1) vc)).heap.size := by have := hB2.size; simp; omega
              have hn0 := (heap_setCell_other w6 ⟨s + 1, 1, none⟩ s (.slice va (x + 1) vc) (by show s ≠ s + 1; omega)).trans hq0
              have hn1 := heap_setCell_same w6 (s + 1) 1 _ _ (.slice va (x + 1) vc) hq1
              obtain ⟨z2, z3, z4, z5f⟩ := Sg.row2 hq1
              clear hO2 hB2 hal hgrow hown' h1 y0 y1 y2 y3 hrow hT0 hT1
              go_wp2
              go_roundw
              case rel => exact ⟨x + 1, _, by go_num, by omega, hn0, hn1, hO3, hsz2, hB3⟩
              case measure => simp [intOf]; omega
      · have hdi : decide ((x : Int) < (q : Int)) = false := by simp; omega
        obtain rfl : x = q := by omega
        rw [nbT_full] at hOR
        have hnl : (Sg.nbB x M).length = x := by rw [← nbT_full]; exact nbT_len _ _ _
        obtain ⟨oa, oc, rfl⟩ := hOR.cap
        rw [hnl] at hT1 hOR
        have hxd : x / 2 = d := by omega
        have hxn : (x - 5) / 4 = nn := by omega
        have hxf : (x - 1) / 4 = ff := by omega
        rw [hxd] at HLV
        rw [hxn, hxf] at HMT
        have HWR : Hid (Below (w.alloc (.cells #[.int .i64 pp, .int .i64 kk, .slice ua l.length uc] 24)).heap.size (w.alloc (.cells #[.int .i64 pp, .int .i64 kk, .slice ua l.length uc] 24)) wr) := Below.next HB4.out (by rw [hs]; exact hB)
        have HSL : Hid (∀ W, Below wr.heap.size wr W → Sl W (.slice (some ⟨ta, to_, none⟩) zz tc) M) := fun W h => hy.sl.below (Below.next (by rw [hs]; exact hB) h)
        have HBX : Hid (∀ W, Below wr.heap.size wr W → (W.cell? ⟨s, 0, none⟩ = some (.int .i64 (x : Int)) ∧ W.cell? ⟨s, 1, none⟩ = some (.slice (some ⟨ta, to_, none⟩) zz tc)) ∧ W.cell? ⟨s + 1, 0, none⟩ = some (.int .i64 (x : Int)) ∧ W.cell? ⟨s + 1, 1, none⟩ = some (.slice oa x oc)) := fun W h => by
          have k1 := Sg.row2 ((h.block s (by omega)).trans hT0)
          have k2 := Sg.row2 ((h.block (s + 1) (by omega)).trans hT1)
          exact ⟨⟨k1.1, k1.2.1⟩, k2.1, k2.2.1⟩
        have HC9 : Hid (∀ W, Below wr.heap.size wr W → Calls Tryd.prog 9 #[.agg #[.int .i64 (x : Int), .slice oa x oc], .int .i64 1] W fun e w' => e = .returned (.tuple #[.int .i64 (d : Int), .int .i64 (d : Int), .int .i64 0]) ∧ Below W.heap.size W w') := fun W h => (Level_any x 1 _ _ W HGD.out (hOR.below h).rw).mono fun e w' ⟨h1, h2⟩ => ⟨h1.one (.inr ⟨1, rfl, by omega, by omega, .inl ⟨_, _, HLV.out, rfl⟩⟩), h2⟩
        have HC11 : Hid (∀ W, Below wr.heap.size wr W → Calls Tryd.prog 11 #[.agg #[.int .i64 (x : Int), .slice oa x oc]] W fun e w' => ∃ v, e = .returned (.tuple #[v, .int .i64 0]) ∧ Sg.OwnS w' v [(nn : Int), (ff : Int)] ∧ Below W.heap.size W w') := fun W h => (Meets_good x _ _ W (HTX.out _ (Below.next HWR.out h)).1 HGD.out (hOR.below h).rw).mono fun e w' ⟨v, h1, h2, h3⟩ => ⟨v, h1, Sg.OwnS.of (by rw [HMT.out] at h2; exact h2), h3⟩
        have HC12 : Hid (∀ W, Below wr.heap.size wr W → Calls Tryd.prog 12 #[.agg #[.int .i64 (x : Int), .slice (some ⟨ta, to_, none⟩) zz tc]] W fun e w' => e = .returned (.tuple #[.agg #[.int .i64 (x : Int), .int .i64 (d : Int), .int .i64 (nn : Int), .int .i64 (ff : Int)], .int .i64 0]) ∧ Below W.heap.size W w') := fun W h => (Sg.fnum x M _ W (HSL.out W h) (by rw [HLN.out]; unfold maxLen; omega)).mono fun e w' ⟨⟨P, D, N, F, u, h1, h2⟩, h3⟩ => by
          obtain ⟨rfl, rfl, rfl, rfl, rfl⟩ := HNU.out.one h2
          exact ⟨h1, h3⟩
        have HC13 : Hid (∀ W (v : Value) (y : Nat), Sg.OwnS W v [(nn : Int), (ff : Int)] → y = nn ∨ y = ff → Calls Tryd.prog 13 #[v, .int .i64 (y : Int)] W fun e w' => e = .returned (.bool true) ∧ w' = W) := fun W v y hv hy => Lies_any [nn, ff] y true v W hv.sl (by simp) (by rcases hy with rfl | rfl <;> simp)
        have e4 := Below.refl wr.heap.size wr
        clear y0 y1 hT0 hT1 hOR HGD HLV HMT HNU HWAY HW hPR
        obtain ⟨⟨y0, y1⟩, y2, y3⟩ := HBX.out _ e4
        have D9 := HC9.out _ e4
        go_wp2_with (first
          | (go_at_call 9; refine D9.mono ?_; rintro e w5 ⟨rfl, e5⟩; clear D9 y0 y1 y2 y3; obtain ⟨⟨y0, y1⟩, y2, y3⟩ := HBX.out _ e5; have D11 := HC11.out _ e5)
          | (go_at_call 11; refine D11.mono ?_; rintro e w6 ⟨v6, rfl, hv6, e6'⟩; have e6 := Below.next e5 e6'; clear D11 y0 y1 y2 y3; obtain ⟨⟨y0, y1⟩, y2, y3⟩ := HBX.out _ e6; have D12 := HC12.out _ e6)
          | (go_at_call 12; refine D12.mono ?_; rintro e w7 ⟨rfl, e7'⟩; have e7 := Below.next e6 e7'; clear D12; obtain ⟨ma, mc, rfl⟩ := hv6.len; have e8 := Below.next e7 (balloc w7 (.cells #[.int .i64 (x : Int), .int .i64 (d : Int), .int .i64 (nn : Int), .int .i64 (ff : Int)] 45)); have hv8 := hv6.below (Below.next e7' (balloc w7 (.cells #[.int .i64 (x : Int), .int .i64 (d : Int), .int .i64 (nn : Int), .int .i64 (ff : Int)] 45))); have D13 := HC13.out _ _ nn hv8 (.inl rfl); have D14 := HC13.out _ _ ff hv8 (.inr rfl))
          | (go_at_call 13; refine D13.mono ?_; rintro e w9 ⟨rfl, rfl⟩; clear D13)
          | (go_at_call 13; refine D14.mono ?_; rintro e w9 ⟨rfl, rfl⟩; clear D14))
        go_ret
        exact ⟨rfl, Below.next HB0.out (Below.next HWR.out e8)⟩
set_option maxRecDepth 100000 in
set_option maxHeartbeats 32000000 in
theorem tp_more (p pp kk : Int) (l : List Int) (u : Value) (w : World) (hTB : Tab w) (hTA : Fd.Tab w) (hu : Sl w u l) (hl : l.length ≤ maxLen) (hok : ∃ P : Nat, p = P ∧ 1 ≤ P ∧ P ≤ 23 ∧ Hd.p43 P = true) (h3 : 3 < p) :
    Calls Tryd.prog 3 #[.int .i64 p, .agg #[.int .i64 pp, .int .i64 kk, u]] w fun e w' => e = .returned (.bool true) ∧ Below w.heap.size w w' := by
  obtain ⟨i3, hi3, hz0, hz1, hz2⟩ := info3
  obtain ⟨i36, ji3, jz0, jz1, jz2⟩ := info36
  obtain ⟨ua, uc, rfl⟩ := Sg.sl_len hu
  have hbox := heap_alloc_new w (.cells #[.int .i64 pp, .int .i64 kk, .slice ua l.length uc] 24)
  have b0 := balloc w (.cells #[.int .i64 pp, .int .i64 kk, .slice ua l.length uc] 24)
  obtain ⟨x0, x1, x2⟩ := Sg.row3p hbox
  have HB0 : Hid (Below w.heap.size w (w.alloc (.cells #[.int .i64 pp, .int .i64 kk, .slice ua l.length uc] 24))) := b0
  have HTX : Hid (∀ W, Below (w.alloc (.cells #[.int .i64 pp, .int .i64 kk, .slice ua l.length uc] 24)).heap.size (w.alloc (.cells #[.int .i64 pp, .int .i64 kk, .slice ua l.length uc] 24)) W → Tab W ∧ Fd.Tab W ∧ Sl W (.slice ua l.length uc) l ∧ (W.cell? ⟨w.heap.size, 0, none⟩ = some (.int .i64 pp) ∧ W.cell? ⟨w.heap.size, 1, none⟩ = some (.int .i64 kk) ∧ W.cell? ⟨w.heap.size, 2, none⟩ = some (.slice ua l.length uc))) := fun W h => by
    have h1 := Below.next b0 h
    exact ⟨hTB.below h1 hTB.pos, hTA.below h1, hu.below h1, Sg.row3p ((h.block w.heap.size (by simp)).trans hbox)⟩
  have C1 := one_any _ (HTX.out _ (Below.refl _ _)).1 (HTX.out _ (Below.refl _ _)).2.1
  have HWAY := pa_way pp kk l
  have HCP : Hid (∀ W, Below (w.alloc (.cells #[.int .i64 pp, .int .i64 kk, .slice ua l.length uc] 24)).heap.size (w.alloc (.cells #[.int .i64 pp, .int .i64 kk, .slice ua l.length uc] 24)) W → Calls Tryd.prog 10 #[.agg #[.int .i64 pp, .int .i64 kk, .slice ua l.length uc]] W fun e w' => (∃ (n : Int) (y : Value) (M : List Int) (z : Int), e = .returned (.tuple #[.agg #[.int .i64 n, y], .int .i64 z]) ∧ Sg.PaR pp kk l n M z ∧ Sg.OwnS w' y M) ∧ Below W.heap.size W w') := fun W h => Sg.fpal pp kk l _ W (HTX.out W h).2.1 (HTX.out W h).2.2.1 hl
  clear hbox b0
  obtain ⟨P, rfl, h1, h23, h4⟩ := hok
  obtain ⟨n1, Hn1⟩ : ∃ n, Hid (P + 1 = n) := ⟨_, rfl⟩
  obtain ⟨LL, HLL⟩ : ∃ L, Hid (Hd.flI (P + 1) (Hd.paF P) ((P + 1) * (P + 1)) = L) := ⟨_, rfl⟩
  have HGH : Hid (Hd.GoodH n1 LL) := by rw [← HLL.out, ← Hn1.out]; exact tp_good h23 h4
  have HC5 : Hid (∀ W, Fd.Tab W → Calls Tryd.prog 5 #[.int .i64 (P : Int)] W fun e w' => (∃ (a : Option Addr) (n c : Nat), e = .returned (.tuple #[.agg #[.int .i64 (n1 : Int), .slice a n c], .int .i64 0]) ∧ Sg.OwnS w' (.slice a n c) LL) ∧ Below W.heap.size W w') := fun W hW => (Hd.Pal_ok P W hW h1 h23 h4).mono fun e w' ⟨⟨y, h, ho⟩, hb⟩ => by
    rw [HLL.out, Hn1.out, ← HGH.out.len] at ho
    have ho2 := Sg.OwnS.of ho
    obtain ⟨a, c, rfl⟩ := ho2.len
    rw [Hn1.out] at h
    exact ⟨⟨a, _, c, h, ho2⟩, hb⟩
  have hd3 : decide (3 < (P : Int)) = true := by simp; omega
  obtain ⟨t1, t2, t3⟩ := tp_set h23 h4
  obtain ⟨_, t5, t6⟩ := tp_p h23 h4
  obtain ⟨ka, Hka⟩ : ∃ n, Hid ((P - 1) / 2 = n) := ⟨_, rfl⟩
  obtain ⟨ma, Hma⟩ : ∃ n, Hid ((P - 3) / 4 = n) := ⟨_, rfl⟩
  obtain ⟨BL, HBL⟩ : ∃ B, Hid (Hd.hbL P (Hd.evn (Hd.mx n1 LL)) = B) := ⟨_, rfl⟩
  have hP1 : n1 - 1 = P := by have := Hn1.out; omega
  have HGB : Hid (GoodD P BL) := by rw [← HBL.out]; exact hb_goodT _ h1 h23
  have HLB : Hid (LvOk P BL 2 ka ma) := by
    have h := hb_okT (t := (P + 1) / 4) HGH.out (by have := Hn1.out; omega) (by have := Hn1.out; omega)
    rw [hP1, HBL.out, show 2 * ((P + 1) / 4) - 1 = ka by have := Hka.out; omega, show (P + 1) / 4 - 1 = ma by have := Hma.out; omega] at h
    exact h
  rw [Hka.out] at t3
  rw [Hma.out] at t1
  have HC6 : Hid (∀ W, Fd.Tab W → Calls Tryd.prog 6 #[.int .i64 (P : Int)] W fun e w' => (∃ a c, e = .returned (.tuple #[.slice a ka c, .int .i64 0]) ∧ Sl w' (.slice a ka c) ((paL P).map Int.ofNat)) ∧ Below W.heap.size W w') := fun W hW => (Paley_ok P W hW h1 (by omega) t5 t6).mono fun e w' ⟨x, h, hs, hb⟩ => by
    obtain ⟨a, c, rfl⟩ := Sg.sl_len hs
    rw [List.length_map, t3] at h hs
    exact ⟨⟨a, c, h, hs⟩, hb⟩
  have HC7 : Hid (∀ W v, Sl W v ((paL P).map Int.ofNat) → Calls Tryd.prog 7 #[.int .i64 (P : Int), v] W fun e w' => e = .returned (.tuple #[.int .i64 (ma : Int), .int .i64 0]) ∧ Below W.heap.size W w') := fun W v hv => (LevelS_any P _ v W hv (by rw [List.length_map, t3]; have := Hka.out; unfold maxLen; omega)).mono fun e w' ⟨h, hb⟩ => by
    refine ⟨?_, hb⟩
    rcases h with ⟨h, _⟩ | ⟨V, D, e1, e2, _, e3⟩
    · exact absurd (sF_of (pal_good h1 (by omega))) h
    · obtain rfl : P = V := by omega
      obtain rfl : paL P = D := List.map_inj_right (fun a b (h : Int.ofNat a = Int.ofNat b) => Int.ofNat.inj h) |>.1 e2
      rw [t1, t2] at e3
      exact e3
  have HC8 : Hid (∀ W v, Sg.OwnS W v LL → Calls Tryd.prog 8 #[.agg #[.int .i64 (n1 : Int), v]] W fun e w' => (∃ (a : Option Addr) (n c b : Nat), e = .returned (.tuple #[.agg #[.int .i64 (P : Int), .slice a n c], .int .i64 0]) ∧ OR w' b (.slice a n c) BL) ∧ Below W.heap.size W w') := fun W v hv => (Hd.Blocks_ok n1 LL v W hv.sl HGH.out (by have := Hn1.out; omega)).mono fun e w' ⟨⟨y, h, ho⟩, hb⟩ => by
    rw [hP1, HBL.out] at ho
    rw [hP1] at h
    obtain ⟨a, c, rfl⟩ := ho.cap
    exact ⟨⟨a, _, c, _, h, ho⟩, hb⟩
  have HL9 : Hid (∀ W v b, OR W b v BL → Calls Tryd.prog 9 #[.agg #[.int .i64 (P : Int), v], .int .i64 2] W fun e w' => e = .returned (.tuple #[.int .i64 (ka : Int), .int .i64 (ma : Int), .int .i64 0]) ∧ Below W.heap.size W w') := fun W v b ho => (Level_any P 2 BL v W HGB.out ho.rw).mono fun e w' ⟨h, hb⟩ => ⟨h.one (.inr ⟨2, rfl, by omega, by omega, .inl ⟨_, _, HLB.out, rfl⟩⟩), hb⟩
  clear h3 h4 HLL t1 t2 t3 t5 t6 HGB HLB HBL hP1 HGH
  rcases HWAY with HWAY | ⟨q, M0, hq5, hq24, hN, h6, HWAY⟩
  · have HW : Hid (∀ n M z, Sg.PaR pp kk l n M z → z ≠ 0) := HWAY
    go_enter Tryd.func3, Tryd.ntmps3
    go_wp2_with (first
      | (go_at_call 4; refine C1.mono ?_; rintro e w1 ⟨rfl, hb1⟩; clear C1)
      | (go_at_call 5; refine (HC5.out _ (HTX.out _ hb1).2.1).mono ?_; rintro e w2 ⟨⟨aa, an, ac, rfl, ha⟩, hb2⟩; have hb21 : Below (w.alloc (.cells #[.int .i64 pp, .int .i64 kk, .slice ua l.length uc] 24)).heap.size (w.alloc (.cells #[.int .i64 pp, .int .i64 kk, .slice ua l.length uc] 24)) (w2.alloc (.cells #[.int .i64 (n1 : Int), .slice aa an ac] 27)) := Below.next (Below.next hb1 hb2) (balloc w2 _); have hr2 := heap_alloc_new w2 (.cells #[.int .i64 (n1 : Int), .slice aa an ac] 27); have ha2 := ha.below (balloc w2 (.cells #[.int .i64 (n1 : Int), .slice aa an ac] 27)); have D6 := HC6.out _ (HTX.out _ hb21).2.1)
      | (go_at_call 6; refine D6.mono ?_; rintro e w6 ⟨⟨la, lc, rfl, hs6⟩, hb6⟩; clear D6; have D7 := HC7.out _ _ hs6)
      | (go_at_call 7; refine D7.mono ?_; rintro e w7 ⟨rfl, hb7⟩; clear D7; have hb67 := Below.next hb6 hb7; obtain ⟨m0, m1, _, _⟩ := Sg.row2 ((hb67.block w2.heap.size (by simp)).trans hr2); have D8 := HC8.out _ _ (ha2.below hb67))
      | (go_at_call 8; refine D8.mono ?_; rintro e w8 ⟨⟨da, dn, dc, db, rfl, ho8⟩, hb8⟩; clear D8; have hr8 := heap_alloc_new w8 (.cells #[.int .i64 (P : Int), .slice da dn dc] 37); have hb9 := balloc w8 (.cells #[.int .i64 (P : Int), .slice da dn dc] 37); obtain ⟨m2, m3, _, _⟩ := Sg.row2 hr8; have D9 := HL9.out _ _ _ (ho8.below hb9))
      | (go_at_call 9; refine D9.mono ?_; rintro e w9 ⟨rfl, hb10⟩; clear D9; have hb3 := Below.next hb21 (Below.next hb67 (Below.next hb8 (Below.next hb9 hb10))); clear m0 m1 m2 m3 hr2 hr8; obtain ⟨c0, c1, c2⟩ := (HTX.out _ hb3).2.2.2; have C10 := HCP.out _ hb3)
      | (go_at_call 10; refine C10.mono ?_; rintro e w4 ⟨⟨n, y, M, z, rfl, hPR, hy⟩, hb4⟩; clear C10; obtain ⟨ya, yc, rfl⟩ := hy.len; have hz : (z != 0) = true := (by simpa using HW.out n M z hPR)))
    go_ret
    exact ⟨rfl, Below.next HB0.out (Below.next hb3 (Below.next hb4 (balloc _ _)))⟩
  · have HW : Hid (∀ n M z, Sg.PaR pp kk l n M z → z = 0 ∧ n = (q : Int) ∧ M = M0) := HWAY
    have HLN : Hid (M0.length = q * q) := hN.1.len
    have HNB := h6.nb
    have HGD : Hid (GoodD q (Sg.nbB q M0)) := nb_good (by omega) hq24
    have HLV : Hid (LvOk q (Sg.nbB q M0) 1 (q / 2) (q / 2)) := nb_ok (by omega) HNB
    have HMT : Hid (mtL q (Sg.nbB q M0) = [(q - 5) / 4, (q - 1) / 4]) := nb_mtL HNB
    obtain ⟨hGG, d, nn, ff, hd, hnn, hff, hst⟩ := hN
    have HNU : Hid (Sg.NuR q M0 (q : Int) d nn ff 0) := .inr ⟨q, rfl, hGG, .inl ⟨rfl, rfl, hst⟩⟩
    obtain ⟨zz, Hzz⟩ : ∃ z, Hid (q * q = z) := ⟨_, rfl⟩
    have HLT : Hid (∀ i j, i < q → j < q → i * q + j < zz) := fun i j hi hj => by rw [← Hzz.out]; exact Sg.cell_ltG hi hj
    have hzp : 0 < zz := by have := HLT.out 0 0 (by omega) (by omega); omega
    have hz99 : zz ≤ 999 := by rw [← Hzz.out]; exact Nat.le_trans (Nat.mul_le_mul hq24 hq24) (by decide)
    rw [Hzz.out] at HLN
    clear HNB h6 hGG hst
    go_enter Tryd.func3, Tryd.ntmps3
    go_wp2_with (first
      | (go_at_call 4; refine C1.mono ?_; rintro e w1 ⟨rfl, hb1⟩; clear C1)
      | (go_at_call 5; refine (HC5.out _ (HTX.out _ hb1).2.1).mono ?_; rintro e w2 ⟨⟨aa, an, ac, rfl, ha⟩, hb2⟩; have hb21 : Below (w.alloc (.cells #[.int .i64 pp, .int .i64 kk, .slice ua l.length uc] 24)).heap.size (w.alloc (.cells #[.int .i64 pp, .int .i64 kk, .slice ua l.length uc] 24)) (w2.alloc (.cells #[.int .i64 (n1 : Int), .slice aa an ac] 27)) := Below.next (Below.next hb1 hb2) (balloc w2 _); have hr2 := heap_alloc_new w2 (.cells #[.int .i64 (n1 : Int), .slice aa an ac] 27); have ha2 := ha.below (balloc w2 (.cells #[.int .i64 (n1 : Int), .slice aa an ac] 27)); have D6 := HC6.out _ (HTX.out _ hb21).2.1)
      | (go_at_call 6; refine D6.mono ?_; rintro e w6 ⟨⟨la, lc, rfl, hs6⟩, hb6⟩; clear D6; have D7 := HC7.out _ _ hs6)
      | (go_at_call 7; refine D7.mono ?_; rintro e w7 ⟨rfl, hb7⟩; clear D7; have hb67 := Below.next hb6 hb7; obtain ⟨m0, m1, _, _⟩ := Sg.row2 ((hb67.block w2.heap.size (by simp)).trans hr2); have D8 := HC8.out _ _ (ha2.below hb67))
      | (go_at_call 8; refine D8.mono ?_; rintro e w8 ⟨⟨da, dn, dc, db, rfl, ho8⟩, hb8⟩; clear D8; have hr8 := heap_alloc_new w8 (.cells #[.int .i64 (P : Int), .slice da dn dc] 37); have hb9 := balloc w8 (.cells #[.int .i64 (P : Int), .slice da dn dc] 37); obtain ⟨m2, m3, _, _⟩ := Sg.row2 hr8; have D9 := HL9.out _ _ _ (ho8.below hb9))
      | (go_at_call 9; refine D9.mono ?_; rintro e w9 ⟨rfl, hb10⟩; clear D9; have hb3 := Below.next hb21 (Below.next hb67 (Below.next hb8 (Below.next hb9 hb10))); clear m0 m1 m2 m3 hr2 hr8; obtain ⟨c0, c1, c2⟩ := (HTX.out _ hb3).2.2.2; have C10 := HCP.out _ hb3)
      | (go_at_call 10; refine C10.mono ?_; rintro e w4 ⟨⟨n, y, M, z, rfl, hPR, hy⟩, hb4⟩; clear C10; obtain ⟨e1, e2, e3⟩ := HW.out n M z hPR; subst e1 e2 e3; obtain ⟨ta, to_, tc, rfl, hta, htc⟩ := hy.sl.form HLN.out hzp; obtain ⟨s, Hs⟩ : ∃ s, Hid (w4.heap.size = s) := ⟨_, rfl⟩; have hs : w4.heap.size = s := Hs.out))
    have HTC : Hid (∀ j, j < zz → w4.cell? ⟨ta, to_ + j, none⟩ = some (.int .i64 (M.getD j 0))) := htc
    have HB4 : Hid (Below (w.alloc (.cells #[.int .i64 pp, .int .i64 kk, .slice ua l.length uc] 24)).heap.size (w.alloc (.cells #[.int .i64 pp, .int .i64 kk, .slice ua l.length uc] 24)) w4) := Below.next hb3 hb4
    have hta2 : ta < s := by omega
    obtain ⟨Q, HQ⟩ : ∃ Q : World, Hid (Q = (w4.alloc (.cells #[.int .i64 (q : Int), .slice (some ⟨ta, to_, none⟩) zz tc] 27)).alloc (.cells #[.int .i64 (q : Int), .slice none 0 0] 37)) := ⟨_, rfl⟩
    have g0 : Q.heap[s]? = some (.cells #[.int .i64 (q : Int), .slice (some ⟨ta, to_, none⟩) zz tc] 27 (0, 0)) := by
      rw [HQ.out, ← hs]; exact (Below.heap_alloc _ _ _ (by simp)).trans (heap_alloc_new w4 _)
    have g1 : Q.heap[s + 1]? = some (.cells #[.int .i64 (q : Int), .slice none 0 0] 37 (0, 0)) := by
      rw [HQ.out, ← hs]
      have := heap_alloc_new (w4.alloc (.cells #[.int .i64 (q : Int), .slice (some ⟨ta, to_, none⟩) zz tc] 27)) (.cells #[.int .i64 (q : Int), .slice none 0 0] 37)
      rwa [World.size_alloc] at this
    have g2 : Below s w4 Q := by rw [HQ.out, ← hs]; exact Below.next (balloc _ _) (balloc _ _)
    have g3 : s + 2 ≤ Q.heap.size := by rw [HQ.out]; simp; omega
    rw [← HQ.out]
    clear HQ htc
    go_loopw [17] (fun xv wr => ∃ (x : Nat) (ov : Value), xv = .int .i64 (x : Int) ∧ x ≤ q ∧ wr.heap[s]? = some (.cells #[.int .i64 (q : Int), .slice (some ⟨ta, to_, none⟩) zz tc] 27 (0, 0)) ∧ wr.heap[s + 1]? = some (.cells #[.int .i64 (q : Int), ov] 37 (0, 0)) ∧ OR wr (s + 2) ov (nbT q M x) ∧ s + 2 ≤ wr.heap.size ∧ Below s w4 wr) (fun xv _ => (q - intOf xv).toNat)
    case atStart => exact ⟨0, _, rfl, by omega, g0, g1, OR.nil _ _, g3, g2⟩
    case round =>
      clear g0 g1 g2 g3
      obtain ⟨x, ov, rfl, hx, hT0, hT1, hOR, hsz, hB⟩ := hrel
      obtain ⟨y0, y1, _, _⟩ := Sg.row2 hT0
      by_cases hlt : x < q
      · have hdi : decide ((x : Int) < (q : Int)) = true := by simp; omega
        obtain ⟨w5, Hw5⟩ : ∃ w5 : World, Hid (w5 = wr) := ⟨_, rfl⟩
        have HOR : Hid (OR w5 (s + 2) ov (nbT q M x)) := by rw [Hw5.out]; exact hOR
        have HB5 : Hid (Below s w4 w5) := by rw [Hw5.out]; exact hB
        have HSZ : Hid (s + 2 ≤ w5.heap.size) := by rw [Hw5.out]; exact hsz
        have HT0 : Hid (w5.heap[s]? = some (.cells #[.int .i64 (q : Int), .slice (some ⟨ta, to_, none⟩) zz tc] 27 (0, 0))) := by rw [Hw5.out]; exact hT0
        have HT1 : Hid (w5.heap[s + 1]? = some (.cells #[.int .i64 (q : Int), ov] 37 (0, 0))) := by rw [Hw5.out]; exact hT1
        clear hOR hB hsz hT0 hT1
        go_wp2
        go_loopw [18, 19] (fun bv iv wr' => ∃ (i : Nat) (ls : List Nat), iv = .int .i64 (i : Int) ∧ i ≤ q ∧ Hid (nbK q M x i = ls) ∧ wr'.ownsRow w5.heap.size 3 1 bv ls.length ((ls.map Int.ofNat).map (Value.int .i64)) ∧ Below w5.heap.size w5 wr') (fun _ iv _ => (q - intOf iv).toNat)
        case atStart => exact ⟨0, [], rfl, by omega, (rfl : nbK q M x 0 = []), World.ownsRow_nil _ _ _ _, by rw [Hw5.out]; exact Below.refl _ _⟩
        case round =>
          clear y0 y1
          obtain ⟨i, ls, rfl, hi, HL, hown, hB⟩ := hrel
          have hbz := hB.size
          have hBs : Below s w4 wr := (HB5.out).trans (hB.mono (by have := HSZ.out; omega))
          have hT0 := ((hB.block s (by have := HSZ.out; omega))).trans HT0.out
          have hT1 := ((hB.block (s + 1) (by have := HSZ.out; omega))).trans HT1.out
          obtain ⟨y0, y1, _, _⟩ := Sg.row2 hT0
          obtain ⟨y2, y3, _, _⟩ := Sg.row2 hT1
          have hll : ls.length ≤ i := by rw [← HL.out]; exact nbK_len q M x i
          by_cases hli : i < q
          · have hdx : decide ((i : Int) < (q : Int)) = true := by simp; omega
            have k1 := HLT.out x i hlt hli
            have ct := (hBs.cell (p := ⟨ta, to_ + (x * q + i), none⟩) hta2).trans (HTC.out _ k1)
            have hsu := nbK_succ q M x i
            rw [HL.out] at hsu
            obtain ⟨m, Hm⟩ : ∃ m, Hid (x * q = m) := ⟨_, rfl⟩
            have hm : (x : Int) * (q : Int) = (m : Int) := by rw [← Hm.out]; simp
            rw [Hm.out] at k1 ct hsu
            obtain ⟨k9, Hk9⟩ : ∃ k, Hid (m + i = k) := ⟨_, rfl⟩
            have hk9 : (m : Int) + (i : Int) = (k9 : Int) := by rw [← Hk9.out]; simp
            rw [Hk9.out] at k1 ct hsu
            have hkz : (k9 : Int) < (zz : Int) := by omega
            have hm' := Hd.wrapN9 (q := m) (by have := Hk9.out; omega)
            have hk' := Hd.wrapN9 (q := k9) (by omega)
            obtain ⟨z, Hz⟩ : ∃ z, Hid (M.getD k9 0 = z) := ⟨_, rfl⟩
            rw [Hz.out] at ct hsu
            cases hc : z == 1 with
            | false =>
              rw [hc] at hsu
              have HL2 : Hid (nbK q M x (i + 1) = ls) := by show _ = _; rw [hsu]; simp
              clear hsu HL
              go_wp2
              go_roundw
              case rel => exact ⟨i + 1, ls, by go_num, by omega, HL2, hown, hB⟩
              case measure => simp [intOf]; omega
            | true =>
              rw [hc] at hsu
              have HL2 : Hid (nbK q M x (i + 1) = ls ++ [i]) := by show _ = _; rw [hsu]; simp
              clear hsu HL
              obtain ⟨k, Hk⟩ : ∃ k, Hid (ls.length = k) := ⟨_, rfl⟩
              rw [Hk.out] at hown hll
              go_wp2_with (first
                | (at_builtin; refine wpList_append_own _ rfl _ _ 22 rfl w5.heap.size 3 i3 (.int .i64 0) 1 8 und22 hi3 hz0 hz1 hz2 rfl (by decide) _ _ _ rfl (hown.alloc _) ⟨wr.heap.size, 0, none⟩ 1 1 [.int .i64 (i : Int)] rfl rfl ?c1 ?c2 ?c3 ?c4 ?c5 ?_)
                | go_in)
              case c1 =>
                intro j u hj
                match j, hj with
                | 0, hj => simp at hj; subst hj; simp [Addr.add]
              case c2 => intro u hu; simp at hu; subst hu; rfl
              case c3 => unfold maxLen; omega
              case c4 => omega
              case c5 => simp; omega
              · intro v' w6 hown' hgrow _
                have hb6 : Below w5.heap.size w5 w6 := (hB.alloc hbz _).grown hgrow (by simp; omega) (fun k hk => (hown.lt k hk).1)
                go_wp2
                go_roundw
                case rel => exact ⟨i + 1, ls ++ [i], by go_num, by omega, HL2, by simpa [Hk.out] using hown', hb6⟩
                case measure => simp [intOf]; omega
          · have hdx : decide ((i : Int) < (q : Int)) = false := by simp; omega
            obtain rfl : i = q := by omega
            have HTS2 : Hid (nbT i M (x + 1) = nbT i M x ++ [ls]) := by show _ = _; rw [nbT_succ, ← HL.out, nbK_full]
            have hs3 : s + 2 ≤ wr.heap.size := Nat.le_trans HSZ.out hbz
            have hrow := Hd.orow_base hown HSZ.out
            replace hrow : ORow wr (s + 2) _ ls := hrow
            obtain ⟨vals, h1, h2⟩ := HOR.out.below hB
            have hln := nbT_len i M x
            have HH2 : Hid (∀ (i_1 : Nat) (u : Value) (l : List Nat), vals[i_1]? = some u → (nbT i M x)[i_1]? = some l → ORow wr (s + 2) u l) := h2
            have HH1 : Hid (wr.ownsRow (s + 2) 22 1 ov (nbT i M x).length vals) := h1
            rw [hln] at h1
            obtain ⟨oa, oc, rfl⟩ := own_form h1
            obtain ⟨ra, rc, rfl⟩ := own_form hown
            have hx99 : x ≤ 99 := by omega
            generalize ls.length = ll at *
            clear h2 hln hown
            go_wp2_with (first
              | (at_builtin; refine wpList_append_own _ rfl _ _ 35 rfl (s + 2) 22 i36 (.slice none 0 0) 1 24 undR ji3 jz0 jz1 jz2 rfl (by decide) _ _ _ rfl (h1.alloc _) ⟨wr.heap.size, 0, none⟩ 1 1 [.slice ra ll rc] rfl rfl ?c1 ?c2 ?c3 ?c4 ?c5 ?_)
              | go_in)
            case c1 =>
              intro j u hj
              match j, hj with
              | 0, hj => simp at hj; subst hj; simp [Addr.add]
            case c2 => intro u hu; simp at hu; subst hu; rfl
            case c3 => unfold maxLen; omega
            case c4 => omega
            case c5 => simp; omega
            · intro v' w6 hown' hgrow _
              have hal := balloc wr (.cells #[.slice ra ll rc] 22)
              have hB2 : Below (s + 2) wr w6 := ((Below.refl _ wr).alloc hs3 _).grown hgrow (by simp; omega) (fun k hk => (h1.lt k hk).1)
              have hO2 : OR w6 (s + 2) v' (nbT i M x ++ [ls]) := OR.more (own_keep HH1.out fun b _ hb => hal.block b hb) (fun i_1 u l' e1 e2 => (HH2.out i_1 u l' e1 e2).below hal) (hrow.below hal) (by rw [nbT_len]; exact hown') hgrow
              rw [← HTS2.out] at hO2
              obtain ⟨va, vc, rfl⟩ := own_form hown'
              have hO3 := hO2.keep (w' := w6.setCell ⟨s + 1, 1, none⟩ (.slice va (x + 1) vc)) (fun b hb _ => heap_setCell_other w6 ⟨s + 1, 1, none⟩ b _ (by show b ≠ s + 1; omega))
              have hq0 := (hB2.block s (by omega)).trans hT0
              have hq1 := (hB2.block (s + 1) (by omega)).trans hT1
              have hB3 := (hBs.trans (hB2.mono (by omega))).setCell (p := ⟨s + 1, 1, none⟩) (by show s ≤ s + 1; omega) (.slice va (x + 1) vc)
              have hsz2 : s + 2 ≤ (w6.setCell ⟨s + 1, 1, none⟩ (.slice va (x + 1) vc)).heap.size := by have := hB2.size; simp; omega
              have hn0 := (heap_setCell_other w6 ⟨s + 1, 1, none⟩ s (.slice va (x + 1) vc) (by show s ≠ s + 1; omega)).trans hq0
              have hn1 := heap_setCell_same w6 (s + 1) 1 _ _ (.slice va (x + 1) vc) hq1
              obtain ⟨z2, z3, z4, z5f⟩ := Sg.row2 hq1
              clear hO2 hB2 hal hgrow hown' h1 y0 y1 y2 y3 hrow hT0 hT1
              go_wp2
              go_roundw
              case rel => exact ⟨x + 1, _, by go_num, by omega, hn0, hn1, hO3, hsz2, hB3⟩
              case measure => simp [intOf]; omega
      · have hdi : decide ((x : Int) < (q : Int)) = false := by simp; omega
        obtain rfl : x = q := by omega
        rw [nbT_full] at hOR
        have hnl : (Sg.nbB x M).length = x := by rw [← nbT_full]; exact nbT_len _ _ _
        obtain ⟨oa, oc, rfl⟩ := hOR.cap
        rw [hnl] at hT1 hOR
        have hxd : x / 2 = d := by omega
        have hxn : (x - 5) / 4 = nn := by omega
        have hxf : (x - 1) / 4 = ff := by omega
        rw [hxd] at HLV
        rw [hxn, hxf] at HMT
        have HWR : Hid (Below (w.alloc (.cells #[.int .i64 pp, .int .i64 kk, .slice ua l.length uc] 24)).heap.size (w.alloc (.cells #[.int .i64 pp, .int .i64 kk, .slice ua l.length uc] 24)) wr) := Below.next HB4.out (by rw [hs]; exact hB)
        have HSL : Hid (∀ W, Below wr.heap.size wr W → Sl W (.slice (some ⟨ta, to_, none⟩) zz tc) M) := fun W h => hy.sl.below (Below.next (by rw [hs]; exact hB) h)
        have HBX : Hid (∀ W, Below wr.heap.size wr W → (W.cell? ⟨s, 0, none⟩ = some (.int .i64 (x : Int)) ∧ W.cell? ⟨s, 1, none⟩ = some (.slice (some ⟨ta, to_, none⟩) zz tc)) ∧ W.cell? ⟨s + 1, 0, none⟩ = some (.int .i64 (x : Int)) ∧ W.cell? ⟨s + 1, 1, none⟩ = some (.slice oa x oc)) := fun W h => by
          have k1 := Sg.row2 ((h.block s (by omega)).trans hT0)
          have k2 := Sg.row2 ((h.block (s + 1) (by omega)).trans hT1)
          exact ⟨⟨k1.1, k1.2.1⟩, k2.1, k2.2.1⟩
        have HC9 : Hid (∀ W, Below wr.heap.size wr W → Calls Tryd.prog 9 #[.agg #[.int .i64 (x : Int), .slice oa x oc], .int .i64 1] W fun e w' => e = .returned (.tuple #[.int .i64 (d : Int), .int .i64 (d : Int), .int .i64 0]) ∧ Below W.heap.size W w') := fun W h => (Level_any x 1 _ _ W HGD.out (hOR.below h).rw).mono fun e w' ⟨h1, h2⟩ => ⟨h1.one (.inr ⟨1, rfl, by omega, by omega, .inl ⟨_, _, HLV.out, rfl⟩⟩), h2⟩
        have HC11 : Hid (∀ W, Below wr.heap.size wr W → Calls Tryd.prog 11 #[.agg #[.int .i64 (x : Int), .slice oa x oc]] W fun e w' => ∃ v, e = .returned (.tuple #[v, .int .i64 0]) ∧ Sg.OwnS w' v [(nn : Int), (ff : Int)] ∧ Below W.heap.size W w') := fun W h => (Meets_good x _ _ W (HTX.out _ (Below.next HWR.out h)).1 HGD.out (hOR.below h).rw).mono fun e w' ⟨v, h1, h2, h3⟩ => ⟨v, h1, Sg.OwnS.of (by rw [HMT.out] at h2; exact h2), h3⟩
        have HC12 : Hid (∀ W, Below wr.heap.size wr W → Calls Tryd.prog 12 #[.agg #[.int .i64 (x : Int), .slice (some ⟨ta, to_, none⟩) zz tc]] W fun e w' => e = .returned (.tuple #[.agg #[.int .i64 (x : Int), .int .i64 (d : Int), .int .i64 (nn : Int), .int .i64 (ff : Int)], .int .i64 0]) ∧ Below W.heap.size W w') := fun W h => (Sg.fnum x M _ W (HSL.out W h) (by rw [HLN.out]; unfold maxLen; omega)).mono fun e w' ⟨⟨P, D, N, F, u, h1, h2⟩, h3⟩ => by
          obtain ⟨rfl, rfl, rfl, rfl, rfl⟩ := HNU.out.one h2
          exact ⟨h1, h3⟩
        have HC13 : Hid (∀ W (v : Value) (y : Nat), Sg.OwnS W v [(nn : Int), (ff : Int)] → y = nn ∨ y = ff → Calls Tryd.prog 13 #[v, .int .i64 (y : Int)] W fun e w' => e = .returned (.bool true) ∧ w' = W) := fun W v y hv hy => Lies_any [nn, ff] y true v W hv.sl (by simp) (by rcases hy with rfl | rfl <;> simp)
        have e4 := Below.refl wr.heap.size wr
        clear y0 y1 hT0 hT1 hOR HGD HLV HMT HNU HWAY HW hPR
        obtain ⟨⟨y0, y1⟩, y2, y3⟩ := HBX.out _ e4
        have D9 := HC9.out _ e4
        go_wp2_with (first
          | (go_at_call 9; refine D9.mono ?_; rintro e w5 ⟨rfl, e5⟩; clear D9 y0 y1 y2 y3; obtain ⟨⟨y0, y1⟩, y2, y3⟩ := HBX.out _ e5; have D11 := HC11.out _ e5)
          | (go_at_call 11; refine D11.mono ?_; rintro e w6 ⟨v6, rfl, hv6, e6'⟩; have e6 := Below.next e5 e6'; clear D11 y0 y1 y2 y3; obtain ⟨⟨y0, y1⟩, y2, y3⟩ := HBX.out _ e6; have D12 := HC12.out _ e6)
          | (go_at_call 12; refine D12.mono ?_; rintro e w7 ⟨rfl, e7'⟩; have e7 := Below.next e6 e7'; clear D12; obtain ⟨ma, mc, rfl⟩ := hv6.len; have e8 := Below.next e7 (balloc w7 (.cells #[.int .i64 (x : Int), .int .i64 (d : Int), .int .i64 (nn : Int), .int .i64 (ff : Int)] 45)); have hv8 := hv6.below (Below.next e7' (balloc w7 (.cells #[.int .i64 (x : Int), .int .i64 (d : Int), .int .i64 (nn : Int), .int .i64 (ff : Int)] 45))); have D13 := HC13.out _ _ nn hv8 (.inl rfl); have D14 := HC13.out _ _ ff hv8 (.inr rfl))
          | (go_at_call 13; refine D13.mono ?_; rintro e w9 ⟨rfl, rfl⟩; clear D13)
          | (go_at_call 13; refine D14.mono ?_; rintro e w9 ⟨rfl, rfl⟩; clear D14))
        go_ret
        exact ⟨rfl, Below.next HB0.out (Below.next HWR.out e8)⟩
theorem TopPaley_any (p pp kk : Int) (l : List Int) (u : Value) (w : World) (hTB : Tab w) (hTA : Fd.Tab w) (hu : Sl w u l) (hl : l.length ≤ maxLen) :
    Calls Tryd.prog 3 #[.int .i64 p, .agg #[.int .i64 pp, .int .i64 kk, u]] w fun e w' => e = .returned (.bool true) ∧ Below w.heap.size w w' := by
  by_cases hok : ∃ P : Nat, p = P ∧ 1 ≤ P ∧ P ≤ 23 ∧ Hd.p43 P = true
  · by_cases h3 : p ≤ 3
    · exact tp_three p pp kk l u w hTB hTA hu hl hok h3
    · exact tp_more p pp kk l u w hTB hTA hu hl hok (by omega)
  · exact tp_none p pp kk l u w hTB hTA hu hl hok
end Go.Proofs.YtlmjlffipinjiabDoor
