/- The walk of Paley. -/
import Derived.Test.YtamdpcajfgbagaaDoorH5
import Derived.Test.YtamdpcajfgbagaaDoorK1
import Derived.Test.YtamdpcajfgbagaaDoorV2
import Derived.Test.YtamdpcajfgbagaaDoorF1
/- The walks of paley, Paley. -/
namespace Go.Proofs.YtamdpcajfgbagaaDoor
open Go.RowKit

theorem pas_pal (p : Nat) : paS p = paL p := rfl
theorem paF_one {p i j : Nat} (h : i = 0 ∨ i = j) : paF p i j = 1 := by unfold paF; rw [if_pos h]
theorem paF_col {p i : Nat} (h : ¬ i = 0) : paF p i 0 = -1 := by unfold paF; rw [if_neg (by omega), if_neg (by omega)]
theorem paF_at {p i j : Nat} (h : ¬ (i = 0 ∨ i = j)) (hj : 0 < j) : paF p i j = sgn ((paL p).contains ((j + p - i) % p)) := by
  unfold paF sgn
  rw [if_neg h, pas_pal]
  by_cases e : (j + p - i) % p ∈ paL p
  · rw [if_pos ⟨hj, e⟩, if_pos (List.contains_iff_mem.2 e)]
  · rw [if_neg (fun k => e k.2), if_neg (fun k => e (List.contains_iff_mem.1 k))]
theorem e29p : ∀ args w, (callFunc 29 args).run Tryd.prog w = .ok (.enter 29 args) w := enters_of Tryd.func29 (by kernel_rfl) rfl
theorem pal_len (p : Nat) : (paL p).length ≤ p := by
  have := List.length_filter_le (fun x => decide (1 ≤ x) && (List.range p).any fun y => decide (1 ≤ y) && (y * y % p == x)) (List.range p)
  rw [List.length_range] at this
  exact this
set_option maxRecDepth 100000 in
set_option maxHeartbeats 4000000 in
theorem paley1_any (p r c g1 g2 : Nat) (v : Value) (W : World) (hp : p ≤ 23) (hp1 : 1 ≤ p) (hr : r ≤ p) (hc : c ≤ p) (hv : Sl W v ((paL p).map Int.ofNat)) (h1 : W.cell? ⟨g1, 0, none⟩ = some v) (h2 : W.cell? ⟨g2, 0, none⟩ = some (.int .i64 (p : Int))) :
    Calls Tryd.prog 29 #[.int .i64 (r : Int), .int .i64 (c : Int), .pointer (some ⟨g1, 0, none⟩), .pointer (some ⟨g2, 0, none⟩)] W fun e w' => e = .returned (.int .i64 (paF p r c)) ∧ Below W.heap.size W w' := by
  by_cases r0 : r = 0
  · rw [paF_one (.inl r0)]
    have q0 : ((r : Int) == 0) = true := by simp [r0]
    clear r0
    go_enter Tryd.func29, Tryd.ntmps29
    go_wp2
    go_ret
    exact ⟨rfl, Below.refl _ _⟩
  · have q0 : ((r : Int) == 0) = false := by simp [r0]
    by_cases rc : r = c
    · rw [paF_one (.inr rc)]
      have q1 : ((r : Int) == (c : Int)) = true := by simp [rc]
      clear rc r0
      go_enter Tryd.func29, Tryd.ntmps29
      go_wp2
      go_ret
      exact ⟨rfl, Below.refl _ _⟩
    · have q1 : ((r : Int) == (c : Int)) = false := by simp; omega
      by_cases c0 : c = 0
      · have C2 := sign_any false W.drew
        have e : paF p r c = sgn false := by rw [c0, paF_col r0]; rfl
        rw [e]
        have q2 : decide (0 < (c : Int)) = false := by simp; omega
        have q3 : decide (0 < c) = false := by simp; omega
        have hS : W.cell? ⟨g1, 0, none⟩ = some v ∧ W.cell? ⟨g2, 0, none⟩ = some (.int .i64 (p : Int)) := ⟨h1, h2⟩
        clear r0 rc c0 e h1 h2 hv
        go_enter Tryd.func29, Tryd.ntmps29
        go_wp2_with fail
        refine wp_region_noPanic ?_
        refine wp_region_held_drew (S := fun w' => w'.cell? ⟨g1, 0, none⟩ = some v ∧ w'.cell? ⟨g2, 0, none⟩ = some (.int .i64 (p : Int))) (by kernel_rfl) hS (fun hSx => ?_)
        refine wpAnyH_take (i := 0) (v := .int .i64 (c : Int)) rfl (by kernel_rfl) (by kernel_rfl) (by kernel_rfl) (fun _ _ _ h => h) (Or.inl ⟨by kernel_rfl, fun w' hSw => by (try dsimp only at hSw); obtain ⟨hs0, hs1⟩ := hSw; go_simp⟩) hSx ?_
        try simp only [Act.put, List.setIfInBounds_toArray]
        refine wpAnyH_take (i := 1) (v := .bool false) rfl (by kernel_rfl) (by kernel_rfl) (by kernel_rfl) (fun _ _ _ h => h) (Or.inl ⟨by kernel_rfl, fun w' hSw => by (try dsimp only at hSw); obtain ⟨hs0, hs1⟩ := hSw; go_simp⟩) hSx ?_
        try simp only [Act.put]
        refine wpAnyH_take (i := 2) (v := .bool false) rfl (by kernel_rfl) (by kernel_rfl) (by kernel_rfl) (fun _ _ _ h => h) (Or.inl ⟨by kernel_rfl, fun w' hSw => by (try dsimp only at hSw); obtain ⟨hs0, hs1⟩ := hSw; go_simp⟩) hSx ?_
        try simp only [Act.put]
        refine wpAnyH_take (i := 3) (v := undef) rfl (by kernel_rfl) (by kernel_rfl) (by kernel_rfl) (fun _ _ _ h => h) (Or.inr ⟨by kernel_rfl, rfl⟩) hSx ?_
        try simp only [Act.put]
        refine wpAnyH_take (i := 4) (v := undef) rfl (by kernel_rfl) (by kernel_rfl) (by kernel_rfl) (fun _ _ _ h => h) (Or.inr ⟨by kernel_rfl, rfl⟩) hSx ?_
        try simp only [Act.put]
        refine wpAnyH_take (i := 5) (v := undef) rfl (by kernel_rfl) (by kernel_rfl) (by kernel_rfl) (fun _ _ _ h => h) (Or.inr ⟨by kernel_rfl, rfl⟩) hSx ?_
        try simp only [Act.put]
        refine wpAnyH_take (i := 6) (v := undef) rfl (by kernel_rfl) (by kernel_rfl) (by kernel_rfl) (fun _ _ _ h => h) (Or.inr ⟨by kernel_rfl, rfl⟩) hSx ?_
        try simp only [Act.put]
        refine wpAnyH_take (i := 7) (v := undef) rfl (by kernel_rfl) (by kernel_rfl) (by kernel_rfl) (fun _ _ _ h => h) (Or.inr ⟨by kernel_rfl, rfl⟩) hSx ?_
        try simp only [Act.put]
        refine wpAnyH_take (i := 8) (v := undef) rfl (by kernel_rfl) (by kernel_rfl) (by kernel_rfl) (fun _ _ _ h => h) (Or.inr ⟨by kernel_rfl, rfl⟩) hSx ?_
        try simp only [Act.put]
        refine wpAnyH_take (i := 9) (v := undef) rfl (by kernel_rfl) (by kernel_rfl) (by kernel_rfl) (fun _ _ _ h => h) (Or.inr ⟨by kernel_rfl, rfl⟩) hSx ?_
        try simp only [Act.put]
        refine wpAnyH_take (i := 10) (v := undef) rfl (by kernel_rfl) (by kernel_rfl) (by kernel_rfl) (fun _ _ _ h => h) (Or.inr ⟨by kernel_rfl, rfl⟩) hSx ?_
        try simp only [Act.put]
        refine wpAnyH_take (i := 11) (v := undef) rfl (by kernel_rfl) (by kernel_rfl) (by kernel_rfl) (fun _ _ _ h => h) (Or.inr ⟨by kernel_rfl, rfl⟩) hSx ?_
        try simp only [Act.put]
        refine wpAnyH_take (i := 12) (v := .bool false) rfl (by kernel_rfl) (by kernel_rfl) (by kernel_rfl) (fun _ _ _ h => h) (Or.inl ⟨by kernel_rfl, fun w' hSw => by (try dsimp only at hSw); obtain ⟨hs0, hs1⟩ := hSw; go_simp⟩) hSx ?_
        try simp only [Act.put]
        refine wpAnyH_ready (rs := [13]) (by kernel_rfl) (by simp) ?_
        refine AllReadyH.cons rfl (fun J hJ => ?_) AllReadyH.nil
        go_simp
        refine C2.mono ?_
        rintro e w1 ⟨rfl, hw⟩
        replace hw := hw.symm
        subst hw
        go_wp2_with fail
        refine hJ.out _ _ hSx (fun hSx => ?_)
        clear hJ J
        try simp only [Act.put, List.setIfInBounds_toArray, List.set_cons_zero, List.set_cons_succ]
        refine wpAnyH_ready (rs := [14]) (by kernel_rfl) (by simp) ?_
        refine AllReadyH.cons rfl (fun J hJ => ?_) AllReadyH.nil
        go_simp
        refine hJ.out _ _ hSx (fun hSx => ?_)
        clear hJ J
        try simp only [Act.put, List.setIfInBounds_toArray, List.set_cons_zero, List.set_cons_succ]
        refine wpAnyH_done (by kernel_rfl) ?_ _
        refine NoPanic.normal ?_
        clear hSx hS C2
        go_wp2
        go_ret
        exact ⟨rfl, (Below.refl _ W).drew⟩
      · have hcp : 0 < c := by omega
        have hm : ((c + p - r : Nat) : Int) = (c : Int) - (r : Int) + (p : Int) := by omega
        rw [paF_at (by omega) hcp]
        obtain ⟨q, Hq⟩ : ∃ q, Hid (c + p - r = q) := ⟨_, rfl⟩
        rw [Hq.out] at hm ⊢
        have hq99 : q ≤ 99 := by rw [← Hq.out]; omega
        obtain ⟨d, hd⟩ : ∃ d, (c : Int) - (r : Int) = d := ⟨_, rfl⟩
        rw [hd] at hm
        have hdq : d + (p : Int) = (q : Int) := hm.symm
        obtain ⟨m, Hm⟩ : ∃ m, Hid (q % p = m) := ⟨_, rfl⟩
        rw [Hm.out]
        have hmm : (q : Int).tmod (p : Int) = (m : Int) := by rw [Int.tmod_eq_emod_of_nonneg (by omega), ← Hm.out]; simp
        have hmm2 : (q : Int) % (p : Int) = (m : Int) := by rw [← Hm.out]; simp
        have hm99 : m ≤ 99 := by rw [← Hm.out]; exact Nat.le_trans (Nat.mod_le _ _) hq99
        have wd := wrapZ (z := d) (by omega) (by omega)
        have wq := wrapN9 (q := q) (by omega)
        have wm := wrapN9 (q := m) (by omega)
        have hpz : ¬ (p : Int) = 0 := by omega
        have hpn : ¬ p = 0 := by omega
        have hl := pal_len p
        have C1 : Hid (∀ X, Below W.heap.size W X → Calls Tryd.prog 30 #[v, .int .i64 (m : Int)] X fun e w' => e = .returned (.bool ((paL p).contains m)) ∧ w' = X) := fun X bX => Contains_any (paL p) m v X (hv.below bX) (by omega)
        generalize (paL p).contains m = b at *
        have C2 := fun X => sign_any b X
        have q2 : decide (0 < (c : Int)) = true := by simp; omega
        have hS : W.cell? ⟨g1, 0, none⟩ = some v ∧ W.cell? ⟨g2, 0, none⟩ = some (.int .i64 (p : Int)) := ⟨h1, h2⟩
        obtain ⟨sa, sn, sc, rfl⟩ : ∃ a n c, v = .slice a n c := by obtain ⟨a, c, rfl, _⟩ := hv; exact ⟨_, _, _, rfl⟩
        clear r0 rc c0 h1 h2 hv hl hm
        go_enter Tryd.func29, Tryd.ntmps29
        go_wp2_with fail
        refine wp_region_noPanic ?_
        refine wp_region_held_drew (S := fun w' => w'.cell? ⟨g1, 0, none⟩ = some (.slice sa sn sc) ∧ w'.cell? ⟨g2, 0, none⟩ = some (.int .i64 (p : Int))) (by kernel_rfl) hS (fun hSx => ?_)
        refine wpAnyH_take (i := 0) (v := .int .i64 (c : Int)) rfl (by kernel_rfl) (by kernel_rfl) (by kernel_rfl) (fun _ _ _ h => h) (Or.inl ⟨by kernel_rfl, fun w' hSw => by (try dsimp only at hSw); obtain ⟨hs0, hs1⟩ := hSw; go_simp⟩) hSx ?_
        try simp only [Act.put, List.setIfInBounds_toArray]
        refine wpAnyH_take (i := 1) (v := .bool true) rfl (by kernel_rfl) (by kernel_rfl) (by kernel_rfl) (fun _ _ _ h => h) (Or.inl ⟨by kernel_rfl, fun w' hSw => by (try dsimp only at hSw); obtain ⟨hs0, hs1⟩ := hSw; go_simp⟩) hSx ?_
        try simp only [Act.put]
        refine wpAnyH_take (i := 2) (v := .bool true) rfl (by kernel_rfl) (by kernel_rfl) (by kernel_rfl) (fun _ _ _ h => h) (Or.inl ⟨by kernel_rfl, fun w' hSw => by (try dsimp only at hSw); obtain ⟨hs0, hs1⟩ := hSw; go_simp⟩) hSx ?_
        try simp only [Act.put]
        refine wpAnyH_take (i := 3) (v := .slice sa sn sc) rfl (by kernel_rfl) (by kernel_rfl) (by kernel_rfl) (fun _ _ _ h => h) (Or.inl ⟨by kernel_rfl, fun w' hSw => by (try dsimp only at hSw); obtain ⟨hs0, hs1⟩ := hSw; go_simp⟩) hSx ?_
        try simp only [Act.put]
        refine wpAnyH_take (i := 4) (v := .int .i64 (c : Int)) rfl (by kernel_rfl) (by kernel_rfl) (by kernel_rfl) (fun _ _ _ h => h) (Or.inl ⟨by kernel_rfl, fun w' hSw => by (try dsimp only at hSw); obtain ⟨hs0, hs1⟩ := hSw; go_simp⟩) hSx ?_
        try simp only [Act.put]
        refine wpAnyH_take (i := 5) (v := .int .i64 (r : Int)) rfl (by kernel_rfl) (by kernel_rfl) (by kernel_rfl) (fun _ _ _ h => h) (Or.inl ⟨by kernel_rfl, fun w' hSw => by (try dsimp only at hSw); obtain ⟨hs0, hs1⟩ := hSw; go_simp⟩) hSx ?_
        try simp only [Act.put]
        refine wpAnyH_take (i := 6) (v := .int .i64 d) rfl (by kernel_rfl) (by kernel_rfl) (by kernel_rfl) (fun _ _ _ h => h) (Or.inl ⟨by kernel_rfl, fun w' hSw => by (try dsimp only at hSw); obtain ⟨hs0, hs1⟩ := hSw; go_simp⟩) hSx ?_
        try simp only [Act.put]
        refine wpAnyH_take (i := 7) (v := .int .i64 (p : Int)) rfl (by kernel_rfl) (by kernel_rfl) (by kernel_rfl) (fun _ _ _ h => h) (Or.inl ⟨by kernel_rfl, fun w' hSw => by (try dsimp only at hSw); obtain ⟨hs0, hs1⟩ := hSw; go_simp⟩) hSx ?_
        try simp only [Act.put]
        refine wpAnyH_take (i := 8) (v := .int .i64 (q : Int)) rfl (by kernel_rfl) (by kernel_rfl) (by kernel_rfl) (fun _ _ _ h => h) (Or.inl ⟨by kernel_rfl, fun w' hSw => by (try dsimp only at hSw); obtain ⟨hs0, hs1⟩ := hSw; go_simp⟩) hSx ?_
        try simp only [Act.put]
        refine wpAnyH_take (i := 9) (v := .int .i64 (p : Int)) rfl (by kernel_rfl) (by kernel_rfl) (by kernel_rfl) (fun _ _ _ h => h) (Or.inl ⟨by kernel_rfl, fun w' hSw => by (try dsimp only at hSw); obtain ⟨hs0, hs1⟩ := hSw; go_simp⟩) hSx ?_
        try simp only [Act.put]
        refine wpAnyH_take (i := 10) (v := .int .i64 (m : Int)) rfl (by kernel_rfl) (by kernel_rfl) (by kernel_rfl) (fun _ _ _ h => h) (Or.inl ⟨by kernel_rfl, fun w' hSw => by (try dsimp only at hSw); obtain ⟨hs0, hs1⟩ := hSw; go_simp⟩) hSx ?_
        try simp only [Act.put]
        refine wpAnyH_ready (rs := [11]) (by kernel_rfl) (by simp) ?_
        refine AllReadyH.cons rfl (fun J hJ => ?_) AllReadyH.nil
        rw [if_pos (by kernel_rfl)]
        go_simp
        refine (C1.out _ (Below.refl _ W).drew).mono ?_
        rintro e w1 ⟨rfl, hw⟩
        replace hw := hw.symm
        subst hw
        go_wp2_with fail
        refine hJ.out _ _ hSx (fun hSx => ?_)
        clear hJ J
        try simp only [Act.put, List.setIfInBounds_toArray, List.set_cons_zero, List.set_cons_succ]
        refine wpAnyH_take (i := 12) (v := .bool b) rfl (by kernel_rfl) (by kernel_rfl) (by kernel_rfl) (fun _ _ _ h => h) (Or.inl ⟨by kernel_rfl, fun w' hSw => by (try dsimp only at hSw); obtain ⟨hs0, hs1⟩ := hSw; go_simp⟩) hSx ?_
        try simp only [Act.put, List.setIfInBounds_toArray]
        refine wpAnyH_ready (rs := [13]) (by kernel_rfl) (by simp) ?_
        refine AllReadyH.cons rfl (fun J hJ => ?_) AllReadyH.nil
        go_simp
        refine (C2 _).mono ?_
        rintro e w1 ⟨rfl, hw⟩
        replace hw := hw.symm
        subst hw
        go_wp2_with fail
        refine hJ.out _ _ hSx (fun hSx => ?_)
        clear hJ J
        try simp only [Act.put, List.setIfInBounds_toArray, List.set_cons_zero, List.set_cons_succ]
        refine wpAnyH_ready (rs := [14]) (by kernel_rfl) (by simp) ?_
        refine AllReadyH.cons rfl (fun J hJ => ?_) AllReadyH.nil
        go_simp
        refine hJ.out _ _ hSx (fun hSx => ?_)
        clear hJ J
        try simp only [Act.put, List.setIfInBounds_toArray, List.set_cons_zero, List.set_cons_succ]
        refine wpAnyH_done (by kernel_rfl) ?_ _
        refine NoPanic.normal ?_
        clear hSx hS C1 C2
        go_wp2
        go_ret
        exact ⟨rfl, (Below.refl _ W).drew⟩
set_option maxHeartbeats 4000000 in
theorem paley_any (p : Nat) (v : Value) (w : World) (hp : p ≤ 23) (hp1 : 1 ≤ p) (hv : Sl w v ((paL p).map Int.ofNat)) :
    Calls Tryd.prog 20 #[.int .i64 (p : Int), v] w fun e w' => (∃ y, e = .returned y ∧ Teller y (p + 1) (p + 1) (paF p) w') ∧ Below w.heap.size w w' := by
  obtain ⟨sa, sn, sc, rfl⟩ : ∃ a n c, v = .slice a n c := by obtain ⟨a, c, rfl, _⟩ := hv; exact ⟨_, _, _, rfl⟩
  have HV : Hid (Sl w (.slice sa sn sc) ((paL p).map Int.ofNat)) := hv
  clear hv
  go_enter Tryd.func20, Tryd.ntmps20
  go_wp2
  go_ret
  have hb := Below.next (balloc w (.cells #[.int .i64 (p : Int)] 3)) (balloc _ (.cells #[.slice sa sn sc] 22))
  have k0 : ((w.alloc (.cells #[.int .i64 (p : Int)] 3)).alloc (.cells #[.slice sa sn sc] 22)).heap[w.heap.size]? = some (.cells #[.int .i64 (p : Int)] 3 (0, 0)) := (Below.heap_alloc _ _ _ (by simp)).trans (heap_alloc_new w _)
  have k1 : ((w.alloc (.cells #[.int .i64 (p : Int)] 3)).alloc (.cells #[.slice sa sn sc] 22)).heap[w.heap.size + 1]? = some (.cells #[.slice sa sn sc] 22 (0, 0)) := by
    have := heap_alloc_new (w.alloc (.cells #[.int .i64 (p : Int)] 3)) (.cells #[.slice sa sn sc] 22)
    simpa using this
  refine ⟨⟨_, rfl, 29, _, rfl, e29p, fun W bW r c hr hc => ?_⟩, hb⟩
  refine paley1_any p r c (w.heap.size + 1) w.heap.size (.slice sa sn sc) W hp hp1 (by omega) (by omega) (HV.out.below (Below.next hb bW)) ?_ ?_
  · rw [cell_of_row _ _ _ _ _ _ ((bW.block _ (by simp)).trans k1)]; rfl
  · rw [cell_of_row _ _ _ _ _ _ ((bW.block _ (by simp; omega)).trans k0)]; rfl
end Go.Proofs.YtamdpcajfgbagaaDoor

namespace Go.Proofs.YtamdpcajfgbagaaDoor
open Go.RowKit

/-- A prime that is 3 modulo 4. -/
def p43 (P : Nat) : Bool := Fd.isPrimeB (P : Int) && P % 4 == 3
theorem p43_q : ∀ P : Fin 24, p43 P.val = paQ P.val := by decide +kernel
set_option maxHeartbeats 4000000 in
theorem Pal_far (p : Int) (w : World) (h : p < 1 ∨ 23 < p) : Calls Tryd.prog 8 #[.int .i64 p] w fun e w' => e = .returned (.tuple #[.agg #[.int .i64 0, .slice none 0 0], .int .i64 1]) ∧ Below w.heap.size w w' := by
  have HH : Hid ((w.alloc (.cells #[.int .i64 0, .slice none 0 0] 24)).heap[w.heap.size]? = some (.cells #[.int .i64 0, .slice none 0 0] 24 (0, 0))) := heap_alloc_new w _
  by_cases h1 : p < 1
  · have d1 : decide (p < 1) = true := decide_eq_true h1
    clear h h1
    go_enter Tryd.func8, Tryd.ntmps8
    go_wp2
    exact post_sq2 2 3 Tryd.results8 rfl HH.out rfl rfl ⟨rfl, balloc _ _⟩
  · have d1 : decide (p < 1) = false := decide_eq_false h1
    have h2 : 23 < p := by omega
    have d2 : decide (23 < p) = true := decide_eq_true h2
    clear h h1 h2
    go_enter Tryd.func8, Tryd.ntmps8
    go_wp2
    exact post_sq2 2 3 Tryd.results8 rfl HH.out rfl rfl ⟨rfl, balloc _ _⟩
set_option maxHeartbeats 4000000 in
theorem Pal_none (P : Nat) (w : World) (hT : Fd.Tab w) (h1 : 1 ≤ P) (h23 : P ≤ 23) (h : p43 P = false) : Calls Tryd.prog 8 #[.int .i64 (P : Int)] w fun e w' => e = .returned (.tuple #[.agg #[.int .i64 0, .slice none 0 0], .int .i64 4]) ∧ Below w.heap.size w w' := by
  have d1 : decide ((P : Int) < 1) = false := by simp; omega
  have d2 : decide (23 < (P : Int)) = false := by simp; omega
  have h' : Fd.isPrimeB (P : Int) = false ∨ P % 4 ≠ 3 := by
    unfold p43 at h
    rcases Bool.and_eq_false_iff.1 h with e | e
    · exact .inl e
    · exact .inr (by simpa using e)
  have hR0 : (w.alloc (.cells #[.int .i64 0, .slice none 0 0] 24)).heap[w.heap.size]? = some (.cells #[.int .i64 0, .slice none 0 0] 24 (0, 0)) := heap_alloc_new w _
  have hb0 := balloc w (.cells #[.int .i64 0, .slice none 0 0] 24)
  have C := Paley_none P (w.alloc (.cells #[.int .i64 0, .slice none 0 0] 24)) (hT.alloc _) h1 (by omega) h'
  have HSZ : Hid ((w.alloc (.cells #[.int .i64 0, .slice none 0 0] 24)).heap.size = w.heap.size + 1) := by show _ = _; simp
  clear h h' hT
  go_enter Tryd.func8, Tryd.ntmps8
  go_wp2_with (go_at_call 19; refine C.mono ?_; rintro e w2 ⟨rfl, b2⟩; clear C; have hR2 := (b2.block w.heap.size (by rw [HSZ.out]; omega)).trans hR0; have a2 : w2.cell? ⟨w.heap.size, 0, none⟩ = some (.int .i64 0) := (by rw [cell_of_row _ _ _ _ _ _ hR2]; rfl); have a3 : w2.cell? ⟨w.heap.size, 1, none⟩ = some (.slice none 0 0) := (by rw [cell_of_row _ _ _ _ _ _ hR2]; rfl); have f0 := frozen_of_row w2 w.heap.size 0 _ _ hR2; have f1 := frozen_of_row w2 w.heap.size 1 _ _ hR2)
  have hn1 := heap_setCell_same w2 w.heap.size 0 _ _ (.int .i64 0) hR2
  have hn2 := heap_setCell_same _ w.heap.size 1 _ _ (.slice none 0 0) hn1
  exact post_sq2 2 3 Tryd.results8 rfl hn2 rfl rfl ⟨rfl, ((Below.next hb0 b2).setCell (by show w.heap.size ≤ w.heap.size; omega) _).setCell (by show w.heap.size ≤ w.heap.size; omega) _⟩
set_option maxHeartbeats 4000000 in
theorem Pal_ok (P : Nat) (w : World) (hT : Fd.Tab w) (h1 : 1 ≤ P) (h23 : P ≤ 23) (h : p43 P = true) : Calls Tryd.prog 8 #[.int .i64 (P : Int)] w fun e w' => (∃ y, e = .returned (.tuple #[.agg #[.int .i64 ((P + 1 : Nat) : Int), y], .int .i64 0]) ∧ w'.ownsRow w.heap.size 3 1 y ((P + 1) * (P + 1)) (vi (flI (P + 1) (paF P) ((P + 1) * (P + 1))))) ∧ Below w.heap.size w w' := by
  have d1 : decide ((P : Int) < 1) = false := by simp; omega
  have d2 : decide (23 < (P : Int)) = false := by simp; omega
  obtain ⟨hp, h4⟩ : Fd.isPrimeB (P : Int) = true ∧ P % 4 = 3 := by
    unfold p43 at h
    rw [Bool.and_eq_true] at h
    exact ⟨h.1, by simpa using h.2⟩
  have hR0 : (w.alloc (.cells #[.int .i64 0, .slice none 0 0] 24)).heap[w.heap.size]? = some (.cells #[.int .i64 0, .slice none 0 0] 24 (0, 0)) := heap_alloc_new w _
  have hb0 := balloc w (.cells #[.int .i64 0, .slice none 0 0] 24)
  have C := Paley_ok P (w.alloc (.cells #[.int .i64 0, .slice none 0 0] 24)) (hT.alloc _) h1 (by omega) hp h4
  have C2 : Hid (∀ x W, Sl W x ((paL P).map Int.ofNat) → Calls Tryd.prog 20 #[.int .i64 (P : Int), x] W fun e w' => (∃ y, e = .returned y ∧ Teller y (P + 1) (P + 1) (paF P) w') ∧ Below W.heap.size W w') := fun x W hx => paley_any P x W h23 h1 hx
  have C3 : Hid (∀ y W, Teller y (P + 1) (P + 1) (paF P) W → Calls Tryd.prog 16 #[.int .i64 ((P + 1 : Nat) : Int), y] W fun e w' => (∃ y, e = .returned (.agg #[.int .i64 ((P + 1 : Nat) : Int), y]) ∧ w'.ownsRow W.heap.size 3 1 y ((P + 1) * (P + 1)) (vi (flI (P + 1) (paF P) ((P + 1) * (P + 1))))) ∧ Below W.heap.size W w') := fun y W hT => filled_any (P + 1) (paF P) y W (by omega) (by omega) hT
  have HSZ : Hid ((w.alloc (.cells #[.int .i64 0, .slice none 0 0] 24)).heap.size = w.heap.size + 1) := by show _ = _; simp
  generalize (paL P).map Int.ofNat = Q at *
  obtain ⟨L, HL⟩ : ∃ L, Hid (vi (flI (P + 1) (paF P) ((P + 1) * (P + 1))) = L) := ⟨_, rfl⟩
  rw [HL.out] at C3 ⊢
  obtain ⟨n, Hn⟩ : ∃ n, Hid (P + 1 = n) := ⟨_, rfl⟩
  have hn : (P : Int) + 1 = (n : Int) := by rw [← Hn.out]; simp
  rw [Hn.out] at C2 C3 ⊢
  clear h hp h4 hT
  go_enter Tryd.func8, Tryd.ntmps8
  go_wp2_with (first
    | (go_at_call 19; refine C.mono ?_; rintro e w1 ⟨x, rfl, hx, b1⟩; clear C; obtain ⟨xa, xn, xc, rfl⟩ : ∃ a n c, x = .slice a n c := (by obtain ⟨a, c, rfl, _⟩ := hx; exact ⟨_, _, _, rfl⟩); have D2 := C2.out _ _ hx; clear C2 hx)
    | (go_at_call 20; refine D2.mono ?_; rintro e w2 ⟨⟨y, rfl, hy⟩, b2⟩; clear D2; have D3 := C3.out _ _ hy; clear C3 hy)
    | (go_at_call 16; refine D3.mono ?_; rintro e w3 ⟨⟨y3, rfl, hW⟩, b3⟩; clear D3; have b13 := Below.next (Below.next b1 b2) b3; have hR2 := (b13.block w.heap.size (by rw [HSZ.out]; omega)).trans hR0; obtain ⟨og, ol, oc, rfl⟩ := own_slice hW; have a2 : w3.cell? ⟨w.heap.size, 0, none⟩ = some (.int .i64 0) := (by rw [cell_of_row _ _ _ _ _ _ hR2]; rfl); have a3 : w3.cell? ⟨w.heap.size, 1, none⟩ = some (.slice none 0 0) := (by rw [cell_of_row _ _ _ _ _ _ hR2]; rfl); have f0 := frozen_of_row w3 w.heap.size 0 _ _ hR2; have f1 := frozen_of_row w3 w.heap.size 1 _ _ hR2))
  have hs2 := (Below.next b1 b2).size
  rw [HSZ.out] at hs2
  have hn1 := heap_setCell_same w3 w.heap.size 0 _ _ (.int .i64 (n : Int)) hR2
  have hn2 := heap_setCell_same _ w.heap.size 1 _ _ (.slice og ol oc) hn1
  have hW2 := orow_other (orow_other hW ⟨w.heap.size, 0, none⟩ (.int .i64 (n : Int)) (own_diff hW hR2)) ⟨w.heap.size, 1, none⟩ (.slice og ol oc) (own_diff hW hR2)
  exact post_sq2 2 3 Tryd.results8 rfl hn2 rfl rfl ⟨⟨_, rfl, orow_base hW2 (by omega)⟩, ((Below.next hb0 b13).setCell (by show w.heap.size ≤ w.heap.size; omega) _).setCell (by show w.heap.size ≤ w.heap.size; omega) _⟩
end Go.Proofs.YtamdpcajfgbagaaDoor
