/- The document's PartsOf, walked: who comes to whom. -/
import Derived.Test.YtgkfddcmngodgaaV4B
namespace Go.Proofs.Ytgkfddcmngodgaa
open Go.RowKit

/-- What stands after the first cells. -/
def ini (n : Nat) (t : Nat → Nat → Bool) (i j : Nat) : Bool := if j < i then mt n (f0 t) j else false
theorem ini_more {n : Nat} {t : Nat → Nat → Bool} {i : Nat} {v : Bool} (h : f0 t (i / n) (i % n) = v) (N : Nat) : ∀ j, j < N → (if j = i then v else ini n t i j) = ini n t (i + 1) j := fun j _ => by
  unfold ini
  by_cases e : j = i
  · subst e
    rw [if_pos rfl, if_pos (by omega)]
    exact h.symm
  · rw [if_neg e]
    by_cases k : j < i
    · rw [if_pos k, if_pos (by omega)]
    · rw [if_neg k, if_neg (by omega)]
theorem ini_all {n : Nat} {t : Nat → Nat → Bool} {N : Nat} : ∀ j, j < N → ini n t N j = mt n (clo t 0) j := fun j hj => by unfold ini; rw [if_pos hj]; rfl
theorem f0_cell {n : Nat} {l : List Int} {i : Nat} : f0 (tB n l) (i / n) (i % n) = (l.getD i 0 == 1 || i / n == i % n) := by
  unfold f0 tB
  rw [show i / n * n + i % n = i by rw [Nat.mul_comm]; exact Nat.div_add_mod i n]
set_option maxRecDepth 100000 in
set_option maxHeartbeats 16000000 in
theorem PartsOf_any {n : Nat} {l : List Int} (hg : GoodT n l) (v : Value) (w : World) (hv : Sl w v l) :
    Calls Try.prog 18 #[.agg #[.int .i64 (n : Int), v]] w fun e w' => (∃ y, e = .returned y ∧ Rw w' y (toZ (ptL n (reB n (tB n l))))) ∧ Below w.heap.size w w' := by
  have hn1 := hg.one
  have hn9 := hg.le
  obtain ⟨i3, hi3, hz0, hz1, hz2⟩ := info3
  obtain ⟨i36, ji3, jz0, jz1, jz2⟩ := info36
  obtain ⟨k, o, c, rfl, hC⟩ := sl_all hv hg.cells
  obtain ⟨nn, Hnn⟩ : ∃ nn, Hid (n * n = nn) := ⟨_, (rfl : n * n = n * n)⟩
  have hnn81 : nn ≤ 81 := by rw [← Hnn.out]; exact Nat.mul_le_mul hn9 hn9
  have hln : l.length = nn := by rw [hg.len]; exact Hnn.out
  rw [hln] at hC ⊢
  obtain ⟨t, Ht⟩ : ∃ t, Hid (tB n l = t) := ⟨_, rfl⟩
  have HF0 : Hid (∀ i, f0 t (i / n) (i % n) = (l.getD i 0 == 1 || i / n == i % n)) := fun i => by rw [← Ht.out]; exact f0_cell
  have HCEL : Hid (∀ i, i < nn → l.getD i 0 = 0 ∨ l.getD i 0 = 1) := fun i hi => hg.cel i (by rw [Hnn.out]; exact hi)
  have hmul : (n : Int) * (n : Int) = (nn : Int) := by rw [← Hnn.out]; simp
  have b1 := balloc w (.cells #[.int .i64 (n : Int), .slice (some ⟨k, o, none⟩) nn c] 24)
  have HX := sq_cells (n : Int) (.slice (some ⟨k, o, none⟩) nn c) w
  obtain ⟨w0, Hw0⟩ : ∃ w0, Hid (w.alloc (.cells #[.int .i64 (n : Int), .slice (some ⟨k, o, none⟩) nn c] 24) = w0) := ⟨_, rfl⟩
  rw [Hw0.out] at b1 HX
  have HX2 : Hid (∀ W, Below w0.heap.size w0 W → W.cell? ⟨w.heap.size, 0, none⟩ = some (.int .i64 (n : Int)) ∧ W.cell? ⟨w.heap.size, 1, none⟩ = some (.slice (some ⟨k, o, none⟩) nn c)) := HX
  have HC : Hid (∀ W, Below w0.heap.size w0 W → ∀ j, j < nn → W.cell? ⟨k, o + j, none⟩ = some (.int .i64 (l.getD j 0))) := fun W bW j hj => hC W (Below.next b1 bW) j hj
  have HB0 : Hid (∀ W, Below w0.heap.size w0 W → Below w.heap.size w W) := fun W b => Below.next b1 b
  have hsz0 : w.heap.size + 1 = w0.heap.size := by rw [← Hw0.out]; simp
  have hmk := run_makeB nn (by omega) w0
  have hbo := own_newB w0 nn
  have hbb := balloc w0 (.cells (madeCells #[.bool false] nn) 4)
  obtain ⟨x0, x1⟩ := HX2.out w0 (Below.refl _ _)
  rw [← Hw0.out] at x0 x1 hmk
  have hn0 : ¬ n = 0 := by omega
  have hn0i : ¬ (n : Int) = 0 := by omega
  have HS0 : Hid (w.heap.size < w0.heap.size) := by show _ < _; omega
  clear HX hv hg b1 hC hln
  go_enter Try.func18, Try.ntmps18
  go_wp2
  rw [Hw0.out]
  clear hmk x0 x1 hsz0
  go_loopw [5] (fun iv wr => ∃ i : Nat, iv = .int .i64 (i : Int) ∧ i ≤ nn ∧ OwnB wr w0.heap.size nn (ini n t i) ∧ Below w0.heap.size w0 wr) (fun iv _ => (nn - intOf iv).toNat)
  case atStart => exact ⟨0, rfl, by omega, hbo.congr fun j _ => by unfold ini; rw [if_neg (by omega)], hbb⟩
  case round =>
    clear hbo hbb
    obtain ⟨i, rfl, hi, hO, hB⟩ := hrel
    obtain ⟨x0, x1⟩ := HX2.out wr hB
    by_cases hli : i < nn
    · have hdi : decide ((i : Int) < (nn : Int)) = true := by simp; omega
      have hii : (i : Int) < (nn : Int) := by omega
      have hc := HC.out wr hB i hli
      have hf := HF0.out i
      have hcl := HCEL.out i hli
      obtain ⟨x, Hx⟩ : ∃ x, Hid (l.getD i 0 = x) := ⟨_, rfl⟩
      obtain ⟨d, Hd⟩ : ∃ d, Hid (i / n = d) := ⟨_, rfl⟩
      obtain ⟨e, He⟩ : ∃ e, Hid (i % n = e) := ⟨_, rfl⟩
      rw [Hx.out] at hc hf hcl
      have hd1 : (i : Int) / (n : Int) = (d : Int) := by rw [← Hd.out]; simp
      have hd2 : (i : Int).tdiv (n : Int) = (d : Int) := by rw [Int.tdiv_eq_ediv_of_nonneg (by omega)]; exact hd1
      have he1 : (i : Int) % (n : Int) = (e : Int) := by rw [← He.out]; simp
      have he2 : (i : Int).tmod (n : Int) = (e : Int) := by rw [Int.tmod_eq_emod_of_nonneg (by omega)]; exact he1
      have hd9 : d ≤ 99 := by rw [← Hd.out]; have := Nat.div_le_self i n; omega
      have he9 : e ≤ 99 := by rw [← He.out]; have := Nat.mod_lt i (show 0 < n by omega); omega
      obtain ⟨g, Hgv⟩ : ∃ g : Bool, Hid ((x == 1 || d == e) = g) := ⟨_, rfl⟩
      have hO2 := hO.drew.set (f' := ini n t (i + 1)) i g (ini_more (by rw [hf, Hd.out, He.out]; exact Hgv.out) nn)
      have hcell := hO.drew.cell hli
      have hfz := hO.drew.frozen i
      generalize ini n t i i = z1 at hcell
      have hB2 : Below w0.heap.size w0 (wr.drew.setCell ⟨w0.heap.size, i, none⟩ (.bool g)) := hB.drew.setCell (p := ⟨w0.heap.size, i, none⟩) (Nat.le_refl _) (.bool g)
      have hSA : wr.drew.cell? ⟨w.heap.size, 1, none⟩ = some (.slice (some ⟨k, o, none⟩) nn c) ∧ wr.drew.cell? ⟨k, o + i, none⟩ = some (.int .i64 x) := ⟨x1, hc⟩
      have hS5 : (wr.drew.setCell ⟨w0.heap.size, i, none⟩ (.bool g)).cell? ⟨w.heap.size, 1, none⟩ = some (.slice (some ⟨k, o, none⟩) nn c) ∧ (wr.drew.setCell ⟨w0.heap.size, i, none⟩ (.bool g)).cell? ⟨k, o + i, none⟩ = some (.int .i64 x) := by
        have h1 := (HX2.out _ hB2).2
        have h2 := HC.out _ hB2 i hli
        rw [Hx.out] at h2
        exact ⟨h1, h2⟩
      have hwi : IntKind.i64.wrap (i : Int) = (i : Int) := by rw [IntKind.wrap_i64]; omega
      have hwd : IntKind.i64.wrap (d : Int) = (d : Int) := by rw [IntKind.wrap_i64]; omega
      have hwe : IntKind.i64.wrap (e : Int) = (e : Int) := by rw [IntKind.wrap_i64]; omega
      clear hO hB hf x0
      by_cases hx1 : x = 1
      · have hxe : (x == 1) = true := by simp [hx1]
        have hgt : g = true := by rw [← Hgv.out, hxe]; rfl
        subst hgt
        subst hx1
        clear x1 hc hcl hxe
        go_wp2_with fail
        refine wp_region_noPanic ?_
        refine wp_region_held_drew (S := fun W : World => W.cell? ⟨w.heap.size, 1, none⟩ = some (.slice (some ⟨k, o, none⟩) nn c) ∧ W.cell? ⟨k, o + i, none⟩ = some (.int .i64 1)) (by kernel_rfl) hSA (fun hSx => ?_)
        refine wpAnyH_take (i := 0) (v := .slice (some ⟨w0.heap.size, 0, none⟩) nn nn) rfl (by kernel_rfl) (by kernel_rfl) (by kernel_rfl) (fun _ _ _ h => h) (Or.inl ⟨by kernel_rfl, fun w' hSw => by (try dsimp only at hSw); obtain ⟨hs0, hs1⟩ := hSw; go_simp⟩) hSx ?_
        try simp only [Act.put, List.setIfInBounds_toArray]
        refine wpAnyH_take (i := 1) (v := .int .i64 (i : Int)) rfl (by kernel_rfl) (by kernel_rfl) (by kernel_rfl) (fun _ _ _ h => h) (Or.inl ⟨by kernel_rfl, fun w' hSw => by (try dsimp only at hSw); obtain ⟨hs0, hs1⟩ := hSw; go_simp⟩) hSx ?_
        try simp only [Act.put]
        refine wpAnyH_take (i := 2) (v := .pointer (some ⟨w.heap.size, 1, none⟩)) rfl (by kernel_rfl) (by kernel_rfl) (by kernel_rfl) (fun _ _ _ h => h) (Or.inl ⟨by kernel_rfl, fun w' hSw => by (try dsimp only at hSw); obtain ⟨hs0, hs1⟩ := hSw; go_simp⟩) hSx ?_
        try simp only [Act.put]
        refine wpAnyH_take (i := 3) (v := .slice (some ⟨k, o, none⟩) nn c) rfl (by kernel_rfl) (by kernel_rfl) (by kernel_rfl) (fun _ _ _ h => h) (Or.inl ⟨by kernel_rfl, fun w' hSw => by (try dsimp only at hSw); obtain ⟨hs0, hs1⟩ := hSw; go_simp⟩) hSx ?_
        try simp only [Act.put]
        refine wpAnyH_take (i := 4) (v := .int .i64 (i : Int)) rfl (by kernel_rfl) (by kernel_rfl) (by kernel_rfl) (fun _ _ _ h => h) (Or.inl ⟨by kernel_rfl, fun w' hSw => by (try dsimp only at hSw); obtain ⟨hs0, hs1⟩ := hSw; go_simp⟩) hSx ?_
        try simp only [Act.put]
        refine wpAnyH_take (i := 5) (v := .pointer (some ⟨k, o + i, none⟩)) rfl (by kernel_rfl) (by kernel_rfl) (by kernel_rfl) (fun _ _ _ h => h) (Or.inl ⟨by kernel_rfl, fun w' hSw => by (try dsimp only at hSw); obtain ⟨hs0, hs1⟩ := hSw; go_simp⟩) hSx ?_
        try simp only [Act.put]
        refine wpAnyH_take (i := 6) (v := .int .i64 1) rfl (by kernel_rfl) (by kernel_rfl) (by kernel_rfl) (fun _ _ _ h => h) (Or.inl ⟨by kernel_rfl, fun w' hSw => by (try dsimp only at hSw); obtain ⟨hs0, hs1⟩ := hSw; go_simp⟩) hSx ?_
        try simp only [Act.put]
        refine wpAnyH_take (i := 7) (v := .bool true) rfl (by kernel_rfl) (by kernel_rfl) (by kernel_rfl) (fun _ _ _ h => h) (Or.inl ⟨by kernel_rfl, fun w' hSw => by (try dsimp only at hSw); obtain ⟨hs0, hs1⟩ := hSw; go_simp⟩) hSx ?_
        try simp only [Act.put]
        refine wpAnyH_take (i := 8) (v := .bool true) rfl (by kernel_rfl) (by kernel_rfl) (by kernel_rfl) (fun _ _ _ h => h) (Or.inl ⟨by kernel_rfl, fun w' hSw => by (try dsimp only at hSw); obtain ⟨hs0, hs1⟩ := hSw; go_simp⟩) hSx ?_
        try simp only [Act.put]
        refine wpAnyH_take (i := 9) (v := undef) rfl (by kernel_rfl) (by kernel_rfl) (by kernel_rfl) (fun _ _ _ h => h) (Or.inr ⟨by kernel_rfl, rfl⟩) hSx ?_
        try simp only [Act.put]
        refine wpAnyH_take (i := 10) (v := undef) rfl (by kernel_rfl) (by kernel_rfl) (by kernel_rfl) (fun _ _ _ h => h) (Or.inr ⟨by kernel_rfl, rfl⟩) hSx ?_
        try simp only [Act.put]
        refine wpAnyH_take (i := 11) (v := undef) rfl (by kernel_rfl) (by kernel_rfl) (by kernel_rfl) (fun _ _ _ h => h) (Or.inr ⟨by kernel_rfl, rfl⟩) hSx ?_
        try simp only [Act.put]
        refine wpAnyH_take (i := 12) (v := undef) rfl (by kernel_rfl) (by kernel_rfl) (by kernel_rfl) (fun _ _ _ h => h) (Or.inr ⟨by kernel_rfl, rfl⟩) hSx ?_
        try simp only [Act.put]
        refine wpAnyH_take (i := 13) (v := undef) rfl (by kernel_rfl) (by kernel_rfl) (by kernel_rfl) (fun _ _ _ h => h) (Or.inr ⟨by kernel_rfl, rfl⟩) hSx ?_
        try simp only [Act.put]
        refine wpAnyH_take (i := 14) (v := undef) rfl (by kernel_rfl) (by kernel_rfl) (by kernel_rfl) (fun _ _ _ h => h) (Or.inr ⟨by kernel_rfl, rfl⟩) hSx ?_
        try simp only [Act.put]
        refine wpAnyH_take (i := 15) (v := undef) rfl (by kernel_rfl) (by kernel_rfl) (by kernel_rfl) (fun _ _ _ h => h) (Or.inr ⟨by kernel_rfl, rfl⟩) hSx ?_
        try simp only [Act.put]
        refine wpAnyH_take (i := 16) (v := .bool true) rfl (by kernel_rfl) (by kernel_rfl) (by kernel_rfl) (fun _ _ _ h => h) (Or.inl ⟨by kernel_rfl, fun w' hSw => by (try dsimp only at hSw); obtain ⟨hs0, hs1⟩ := hSw; go_simp⟩) hSx ?_
        try simp only [Act.put]
        refine wpAnyH_take (i := 17) (v := .pointer (some ⟨w0.heap.size, i, none⟩)) rfl (by kernel_rfl) (by kernel_rfl) (by kernel_rfl) (fun _ _ _ h => h) (Or.inl ⟨by kernel_rfl, fun w' hSw => by (try dsimp only at hSw); obtain ⟨hs0, hs1⟩ := hSw; go_simp⟩) hSx ?_
        try simp only [Act.put]
        refine wpAnyH_ready (rs := [18]) (by kernel_rfl) (by simp) ?_
        refine AllReadyH.cons rfl (fun J hJ => ?_) AllReadyH.nil
        go_simp
        refine hJ.out _ _ hS5 (fun hSx => ?_)
        clear hJ J
        try simp only [Act.put, List.setIfInBounds_toArray, List.set_cons_zero, List.set_cons_succ]
        refine wpAnyH_done (by kernel_rfl) ?_ _
        refine NoPanic.normal ?_
        clear hSx
        all_goals
          go_wp2
          go_roundw
          case rel => exact ⟨i + 1, by go_num, by omega, hO2, hB2⟩
          case measure => simp [intOf]; omega
      · have hx0 : x = 0 := hcl.elim id fun h => absurd h hx1
        subst hx0
        by_cases hde : d = e
        · have hde1 : ((d : Int) == (e : Int)) = true := by simp [hde]
          have hde2 : (d == e) = true := by simp [hde]
          have hgt : g = true := by rw [← Hgv.out, hde2]; rfl
          subst hgt
          clear x1 hc hx1 hde hcl
          go_wp2_with fail
          refine wp_region_noPanic ?_
          refine wp_region_held_drew (S := fun W : World => W.cell? ⟨w.heap.size, 1, none⟩ = some (.slice (some ⟨k, o, none⟩) nn c) ∧ W.cell? ⟨k, o + i, none⟩ = some (.int .i64 0)) (by kernel_rfl) hSA (fun hSx => ?_)
          refine wpAnyH_take (i := 0) (v := .slice (some ⟨w0.heap.size, 0, none⟩) nn nn) rfl (by kernel_rfl) (by kernel_rfl) (by kernel_rfl) (fun _ _ _ h => h) (Or.inl ⟨by kernel_rfl, fun w' hSw => by (try dsimp only at hSw); obtain ⟨hs0, hs1⟩ := hSw; go_simp⟩) hSx ?_
          try simp only [Act.put, List.setIfInBounds_toArray]
          refine wpAnyH_take (i := 1) (v := .int .i64 (i : Int)) rfl (by kernel_rfl) (by kernel_rfl) (by kernel_rfl) (fun _ _ _ h => h) (Or.inl ⟨by kernel_rfl, fun w' hSw => by (try dsimp only at hSw); obtain ⟨hs0, hs1⟩ := hSw; go_simp⟩) hSx ?_
          try simp only [Act.put]
          refine wpAnyH_take (i := 2) (v := .pointer (some ⟨w.heap.size, 1, none⟩)) rfl (by kernel_rfl) (by kernel_rfl) (by kernel_rfl) (fun _ _ _ h => h) (Or.inl ⟨by kernel_rfl, fun w' hSw => by (try dsimp only at hSw); obtain ⟨hs0, hs1⟩ := hSw; go_simp⟩) hSx ?_
          try simp only [Act.put]
          refine wpAnyH_take (i := 3) (v := .slice (some ⟨k, o, none⟩) nn c) rfl (by kernel_rfl) (by kernel_rfl) (by kernel_rfl) (fun _ _ _ h => h) (Or.inl ⟨by kernel_rfl, fun w' hSw => by (try dsimp only at hSw); obtain ⟨hs0, hs1⟩ := hSw; go_simp⟩) hSx ?_
          try simp only [Act.put]
          refine wpAnyH_take (i := 4) (v := .int .i64 (i : Int)) rfl (by kernel_rfl) (by kernel_rfl) (by kernel_rfl) (fun _ _ _ h => h) (Or.inl ⟨by kernel_rfl, fun w' hSw => by (try dsimp only at hSw); obtain ⟨hs0, hs1⟩ := hSw; go_simp⟩) hSx ?_
          try simp only [Act.put]
          refine wpAnyH_take (i := 5) (v := .pointer (some ⟨k, o + i, none⟩)) rfl (by kernel_rfl) (by kernel_rfl) (by kernel_rfl) (fun _ _ _ h => h) (Or.inl ⟨by kernel_rfl, fun w' hSw => by (try dsimp only at hSw); obtain ⟨hs0, hs1⟩ := hSw; go_simp⟩) hSx ?_
          try simp only [Act.put]
          refine wpAnyH_take (i := 6) (v := .int .i64 0) rfl (by kernel_rfl) (by kernel_rfl) (by kernel_rfl) (fun _ _ _ h => h) (Or.inl ⟨by kernel_rfl, fun w' hSw => by (try dsimp only at hSw); obtain ⟨hs0, hs1⟩ := hSw; go_simp⟩) hSx ?_
          try simp only [Act.put]
          refine wpAnyH_take (i := 7) (v := .bool false) rfl (by kernel_rfl) (by kernel_rfl) (by kernel_rfl) (fun _ _ _ h => h) (Or.inl ⟨by kernel_rfl, fun w' hSw => by (try dsimp only at hSw); obtain ⟨hs0, hs1⟩ := hSw; go_simp⟩) hSx ?_
          try simp only [Act.put]
          refine wpAnyH_take (i := 8) (v := .bool false) rfl (by kernel_rfl) (by kernel_rfl) (by kernel_rfl) (fun _ _ _ h => h) (Or.inl ⟨by kernel_rfl, fun w' hSw => by (try dsimp only at hSw); obtain ⟨hs0, hs1⟩ := hSw; go_simp⟩) hSx ?_
          try simp only [Act.put]
          refine wpAnyH_take (i := 9) (v := .int .i64 (i : Int)) rfl (by kernel_rfl) (by kernel_rfl) (by kernel_rfl) (fun _ _ _ h => h) (Or.inl ⟨by kernel_rfl, fun w' hSw => by (try dsimp only at hSw); obtain ⟨hs0, hs1⟩ := hSw; go_simp⟩) hSx ?_
          try simp only [Act.put]
          refine wpAnyH_take (i := 10) (v := .int .i64 (n : Int)) rfl (by kernel_rfl) (by kernel_rfl) (by kernel_rfl) (fun _ _ _ h => h) (Or.inl ⟨by kernel_rfl, fun w' hSw => by (try dsimp only at hSw); obtain ⟨hs0, hs1⟩ := hSw; go_simp⟩) hSx ?_
          try simp only [Act.put]
          refine wpAnyH_take (i := 11) (v := .int .i64 (d : Int)) rfl (by kernel_rfl) (by kernel_rfl) (by kernel_rfl) (fun _ _ _ h => h) (Or.inl ⟨by kernel_rfl, fun w' hSw => by (try dsimp only at hSw); obtain ⟨hs0, hs1⟩ := hSw; go_simp⟩) hSx ?_
          try simp only [Act.put]
          refine wpAnyH_take (i := 12) (v := .int .i64 (i : Int)) rfl (by kernel_rfl) (by kernel_rfl) (by kernel_rfl) (fun _ _ _ h => h) (Or.inl ⟨by kernel_rfl, fun w' hSw => by (try dsimp only at hSw); obtain ⟨hs0, hs1⟩ := hSw; go_simp⟩) hSx ?_
          try simp only [Act.put]
          refine wpAnyH_take (i := 13) (v := .int .i64 (n : Int)) rfl (by kernel_rfl) (by kernel_rfl) (by kernel_rfl) (fun _ _ _ h => h) (Or.inl ⟨by kernel_rfl, fun w' hSw => by (try dsimp only at hSw); obtain ⟨hs0, hs1⟩ := hSw; go_simp⟩) hSx ?_
          try simp only [Act.put]
          refine wpAnyH_take (i := 14) (v := .int .i64 (e : Int)) rfl (by kernel_rfl) (by kernel_rfl) (by kernel_rfl) (fun _ _ _ h => h) (Or.inl ⟨by kernel_rfl, fun w' hSw => by (try dsimp only at hSw); obtain ⟨hs0, hs1⟩ := hSw; go_simp⟩) hSx ?_
          try simp only [Act.put]
          refine wpAnyH_take (i := 15) (v := .bool true) rfl (by kernel_rfl) (by kernel_rfl) (by kernel_rfl) (fun _ _ _ h => h) (Or.inl ⟨by kernel_rfl, fun w' hSw => by (try dsimp only at hSw); obtain ⟨hs0, hs1⟩ := hSw; go_simp⟩) hSx ?_
          try simp only [Act.put]
          refine wpAnyH_take (i := 16) (v := .bool true) rfl (by kernel_rfl) (by kernel_rfl) (by kernel_rfl) (fun _ _ _ h => h) (Or.inl ⟨by kernel_rfl, fun w' hSw => by (try dsimp only at hSw); obtain ⟨hs0, hs1⟩ := hSw; go_simp⟩) hSx ?_
          try simp only [Act.put]
          refine wpAnyH_take (i := 17) (v := .pointer (some ⟨w0.heap.size, i, none⟩)) rfl (by kernel_rfl) (by kernel_rfl) (by kernel_rfl) (fun _ _ _ h => h) (Or.inl ⟨by kernel_rfl, fun w' hSw => by (try dsimp only at hSw); obtain ⟨hs0, hs1⟩ := hSw; go_simp⟩) hSx ?_
          try simp only [Act.put]
          refine wpAnyH_ready (rs := [18]) (by kernel_rfl) (by simp) ?_
          refine AllReadyH.cons rfl (fun J hJ => ?_) AllReadyH.nil
          go_simp
          refine hJ.out _ _ hS5 (fun hSx => ?_)
          clear hJ J
          try simp only [Act.put, List.setIfInBounds_toArray, List.set_cons_zero, List.set_cons_succ]
          refine wpAnyH_done (by kernel_rfl) ?_ _
          refine NoPanic.normal ?_
          clear hSx
          all_goals
            go_wp2
            go_roundw
            case rel => exact ⟨i + 1, by go_num, by omega, hO2, hB2⟩
            case measure => simp [intOf]; omega
        · have hde1 : ((d : Int) == (e : Int)) = false := by simp; omega
          have hde2 : (d == e) = false := by simp [hde]
          have hgt : g = false := by rw [← Hgv.out, hde2]; rfl
          subst hgt
          clear x1 hc hx1 hde hcl
          go_wp2_with fail
          refine wp_region_noPanic ?_
          refine wp_region_held_drew (S := fun W : World => W.cell? ⟨w.heap.size, 1, none⟩ = some (.slice (some ⟨k, o, none⟩) nn c) ∧ W.cell? ⟨k, o + i, none⟩ = some (.int .i64 0)) (by kernel_rfl) hSA (fun hSx => ?_)
          refine wpAnyH_take (i := 0) (v := .slice (some ⟨w0.heap.size, 0, none⟩) nn nn) rfl (by kernel_rfl) (by kernel_rfl) (by kernel_rfl) (fun _ _ _ h => h) (Or.inl ⟨by kernel_rfl, fun w' hSw => by (try dsimp only at hSw); obtain ⟨hs0, hs1⟩ := hSw; go_simp⟩) hSx ?_
          try simp only [Act.put, List.setIfInBounds_toArray]
          refine wpAnyH_take (i := 1) (v := .int .i64 (i : Int)) rfl (by kernel_rfl) (by kernel_rfl) (by kernel_rfl) (fun _ _ _ h => h) (Or.inl ⟨by kernel_rfl, fun w' hSw => by (try dsimp only at hSw); obtain ⟨hs0, hs1⟩ := hSw; go_simp⟩) hSx ?_
          try simp only [Act.put]
          refine wpAnyH_take (i := 2) (v := .pointer (some ⟨w.heap.size, 1, none⟩)) rfl (by kernel_rfl) (by kernel_rfl) (by kernel_rfl) (fun _ _ _ h => h) (Or.inl ⟨by kernel_rfl, fun w' hSw => by (try dsimp only at hSw); obtain ⟨hs0, hs1⟩ := hSw; go_simp⟩) hSx ?_
          try simp only [Act.put]
          refine wpAnyH_take (i := 3) (v := .slice (some ⟨k, o, none⟩) nn c) rfl (by kernel_rfl) (by kernel_rfl) (by kernel_rfl) (fun _ _ _ h => h) (Or.inl ⟨by kernel_rfl, fun w' hSw => by (try dsimp only at hSw); obtain ⟨hs0, hs1⟩ := hSw; go_simp⟩) hSx ?_
          try simp only [Act.put]
          refine wpAnyH_take (i := 4) (v := .int .i64 (i : Int)) rfl (by kernel_rfl) (by kernel_rfl) (by kernel_rfl) (fun _ _ _ h => h) (Or.inl ⟨by kernel_rfl, fun w' hSw => by (try dsimp only at hSw); obtain ⟨hs0, hs1⟩ := hSw; go_simp⟩) hSx ?_
          try simp only [Act.put]
          refine wpAnyH_take (i := 5) (v := .pointer (some ⟨k, o + i, none⟩)) rfl (by kernel_rfl) (by kernel_rfl) (by kernel_rfl) (fun _ _ _ h => h) (Or.inl ⟨by kernel_rfl, fun w' hSw => by (try dsimp only at hSw); obtain ⟨hs0, hs1⟩ := hSw; go_simp⟩) hSx ?_
          try simp only [Act.put]
          refine wpAnyH_take (i := 6) (v := .int .i64 0) rfl (by kernel_rfl) (by kernel_rfl) (by kernel_rfl) (fun _ _ _ h => h) (Or.inl ⟨by kernel_rfl, fun w' hSw => by (try dsimp only at hSw); obtain ⟨hs0, hs1⟩ := hSw; go_simp⟩) hSx ?_
          try simp only [Act.put]
          refine wpAnyH_take (i := 7) (v := .bool false) rfl (by kernel_rfl) (by kernel_rfl) (by kernel_rfl) (fun _ _ _ h => h) (Or.inl ⟨by kernel_rfl, fun w' hSw => by (try dsimp only at hSw); obtain ⟨hs0, hs1⟩ := hSw; go_simp⟩) hSx ?_
          try simp only [Act.put]
          refine wpAnyH_take (i := 8) (v := .bool false) rfl (by kernel_rfl) (by kernel_rfl) (by kernel_rfl) (fun _ _ _ h => h) (Or.inl ⟨by kernel_rfl, fun w' hSw => by (try dsimp only at hSw); obtain ⟨hs0, hs1⟩ := hSw; go_simp⟩) hSx ?_
          try simp only [Act.put]
          refine wpAnyH_take (i := 9) (v := .int .i64 (i : Int)) rfl (by kernel_rfl) (by kernel_rfl) (by kernel_rfl) (fun _ _ _ h => h) (Or.inl ⟨by kernel_rfl, fun w' hSw => by (try dsimp only at hSw); obtain ⟨hs0, hs1⟩ := hSw; go_simp⟩) hSx ?_
          try simp only [Act.put]
          refine wpAnyH_take (i := 10) (v := .int .i64 (n : Int)) rfl (by kernel_rfl) (by kernel_rfl) (by kernel_rfl) (fun _ _ _ h => h) (Or.inl ⟨by kernel_rfl, fun w' hSw => by (try dsimp only at hSw); obtain ⟨hs0, hs1⟩ := hSw; go_simp⟩) hSx ?_
          try simp only [Act.put]
          refine wpAnyH_take (i := 11) (v := .int .i64 (d : Int)) rfl (by kernel_rfl) (by kernel_rfl) (by kernel_rfl) (fun _ _ _ h => h) (Or.inl ⟨by kernel_rfl, fun w' hSw => by (try dsimp only at hSw); obtain ⟨hs0, hs1⟩ := hSw; go_simp⟩) hSx ?_
          try simp only [Act.put]
          refine wpAnyH_take (i := 12) (v := .int .i64 (i : Int)) rfl (by kernel_rfl) (by kernel_rfl) (by kernel_rfl) (fun _ _ _ h => h) (Or.inl ⟨by kernel_rfl, fun w' hSw => by (try dsimp only at hSw); obtain ⟨hs0, hs1⟩ := hSw; go_simp⟩) hSx ?_
          try simp only [Act.put]
          refine wpAnyH_take (i := 13) (v := .int .i64 (n : Int)) rfl (by kernel_rfl) (by kernel_rfl) (by kernel_rfl) (fun _ _ _ h => h) (Or.inl ⟨by kernel_rfl, fun w' hSw => by (try dsimp only at hSw); obtain ⟨hs0, hs1⟩ := hSw; go_simp⟩) hSx ?_
          try simp only [Act.put]
          refine wpAnyH_take (i := 14) (v := .int .i64 (e : Int)) rfl (by kernel_rfl) (by kernel_rfl) (by kernel_rfl) (fun _ _ _ h => h) (Or.inl ⟨by kernel_rfl, fun w' hSw => by (try dsimp only at hSw); obtain ⟨hs0, hs1⟩ := hSw; go_simp⟩) hSx ?_
          try simp only [Act.put]
          refine wpAnyH_take (i := 15) (v := .bool false) rfl (by kernel_rfl) (by kernel_rfl) (by kernel_rfl) (fun _ _ _ h => h) (Or.inl ⟨by kernel_rfl, fun w' hSw => by (try dsimp only at hSw); obtain ⟨hs0, hs1⟩ := hSw; go_simp⟩) hSx ?_
          try simp only [Act.put]
          refine wpAnyH_take (i := 16) (v := .bool false) rfl (by kernel_rfl) (by kernel_rfl) (by kernel_rfl) (fun _ _ _ h => h) (Or.inl ⟨by kernel_rfl, fun w' hSw => by (try dsimp only at hSw); obtain ⟨hs0, hs1⟩ := hSw; go_simp⟩) hSx ?_
          try simp only [Act.put]
          refine wpAnyH_take (i := 17) (v := .pointer (some ⟨w0.heap.size, i, none⟩)) rfl (by kernel_rfl) (by kernel_rfl) (by kernel_rfl) (fun _ _ _ h => h) (Or.inl ⟨by kernel_rfl, fun w' hSw => by (try dsimp only at hSw); obtain ⟨hs0, hs1⟩ := hSw; go_simp⟩) hSx ?_
          try simp only [Act.put]
          refine wpAnyH_ready (rs := [18]) (by kernel_rfl) (by simp) ?_
          refine AllReadyH.cons rfl (fun J hJ => ?_) AllReadyH.nil
          go_simp
          refine hJ.out _ _ hS5 (fun hSx => ?_)
          clear hJ J
          try simp only [Act.put, List.setIfInBounds_toArray, List.set_cons_zero, List.set_cons_succ]
          refine wpAnyH_done (by kernel_rfl) ?_ _
          refine NoPanic.normal ?_
          clear hSx
          all_goals
            go_wp2
            go_roundw
            case rel => exact ⟨i + 1, by go_num, by omega, hO2, hB2⟩
            case measure => simp [intOf]; omega
    · have hdi : decide ((i : Int) < (nn : Int)) = false := by simp; omega
      have hdin : decide (i < nn) = false := by simp; omega
      obtain rfl : i = nn := by omega
      have hO0 := hO.congr (ini_all (n := n) (t := t) (N := i))
      clear hO x0 x1 HX2 HC HF0 HCEL
      go_wp2
      go_loopw [6] (fun cv wr => ∃ cc : Nat, cv = .int .i64 (cc : Int) ∧ cc ≤ n ∧ OwnB wr w0.heap.size i (mt n (clo t cc)) ∧ Below w0.heap.size w0 wr) (fun cv _ => (n - intOf cv).toNat)
      case atStart => exact ⟨0, rfl, by omega, hO0, hB⟩
      case round =>
        clear hO0 hB
        obtain ⟨cc, rfl, hcn, hO, hB⟩ := hrel
        by_cases hlc : cc < n
        · have hdc : decide ((cc : Int) < (n : Int)) = true := by simp; omega
          have hci : (cc : Int) < (n : Int) := by omega
          have HCL : Hid (clo t (cc + 1) = st1 (clo t cc) cc) := rfl
          have HRF : Hid (clo t cc cc cc = true) := clo_refl t cc cc
          obtain ⟨F, HF⟩ : ∃ F, Hid (clo t cc = F) := ⟨_, rfl⟩
          rw [HF.out] at hO HCL HRF
          go_wp2
          go_loopw [7] (fun av wr => ∃ a : Nat, av = .int .i64 (a : Int) ∧ a ≤ n ∧ OwnB wr w0.heap.size i (mt n (midM F cc a 0)) ∧ Below w0.heap.size w0 wr) (fun av _ => (n - intOf av).toNat)
          case atStart => exact ⟨0, rfl, by omega, by rw [midM_zero]; exact hO, hB⟩
          case round =>
            clear hO hB
            obtain ⟨a, rfl, han, hO, hB⟩ := hrel
            by_cases hla : a < n
            · have hda : decide ((a : Int) < (n : Int)) = true := by simp; omega
              have hai : (a : Int) < (n : Int) := by omega
              go_wp2
              go_loopw [8] (fun bv wr => ∃ b : Nat, bv = .int .i64 (b : Int) ∧ b ≤ n ∧ OwnB wr w0.heap.size i (mt n (midM F cc a b)) ∧ Below w0.heap.size w0 wr) (fun bv _ => (n - intOf bv).toNat)
              case atStart => exact ⟨0, rfl, by omega, hO, hB⟩
              case round =>
                clear hO hB
                obtain ⟨b, rfl, hbn, hO, hB⟩ := hrel
                by_cases hlb : b < n
                · have hdb : decide ((b : Int) < (n : Int)) = true := by simp; omega
                  have hbi : (b : Int) < (n : Int) := by omega
                  have e1 := hO.cell (show a * n + cc < i by rw [← Hnn.out]; exact idx_lt hla hlc)
                  have e2 := hO.cell (show cc * n + b < i by rw [← Hnn.out]; exact idx_lt hlc hlb)
                  have e3 := hO.cell (show a * n + b < i by rw [← Hnn.out]; exact idx_lt hla hlb)
                  have fz := hO.frozen (a * n + b)
                  rw [mt_at hlc, midM_row HRF.out] at e1
                  rw [mt_at hlb, midM_col HRF.out] at e2
                  have b1 : a * n + cc < i := by rw [← Hnn.out]; exact idx_lt hla hlc
                  have b2 : cc * n + b < i := by rw [← Hnn.out]; exact idx_lt hlc hlb
                  have b3 : a * n + b < i := by rw [← Hnn.out]; exact idx_lt hla hlb
                  have hset := fun (h : (F a cc && F cc b) = true) => hO.set (f' := mt n (midM F cc a (b + 1))) (a * n + b) true (by rw [← Hnn.out]; exact mid_set hlb h)
                  have hkeep : (F a cc && F cc b) = false → midM F cc a (b + 1) = midM F cc a b := fun h => mid_keep (_n := n) h
                  have HKP : Hid ((F a cc && F cc b) = false → midM F cc a (b + 1) = midM F cc a b) := hkeep
                  have HST : Hid ((F a cc && F cc b) = true → OwnB (wr.setCell ⟨w0.heap.size, a * n + b, none⟩ (.bool true)) w0.heap.size i (mt n (midM F cc a (b + 1)))) := hset
                  generalize mt n (midM F cc a b) (a * n + b) = z3 at e3
                  obtain ⟨an, Han⟩ : ∃ an, Hid (a * n = an) := ⟨_, rfl⟩
                  obtain ⟨cn, Hcn⟩ : ∃ cn, Hid (cc * n = cn) := ⟨_, rfl⟩
                  rw [Han.out] at e1 e3 fz b1 b3 HST
                  rw [Hcn.out] at e2 b2
                  obtain ⟨p1, Hp1⟩ : ∃ p, Hid (an + cc = p) := ⟨_, rfl⟩
                  obtain ⟨p2, Hp2⟩ : ∃ p, Hid (cn + b = p) := ⟨_, rfl⟩
                  obtain ⟨p3, Hp3⟩ : ∃ p, Hid (an + b = p) := ⟨_, rfl⟩
                  rw [Hp1.out] at e1 b1
                  rw [Hp2.out] at e2 b2
                  rw [Hp3.out] at e3 fz b3 HST
                  have i1 : (a : Int) * (n : Int) = (an : Int) := by rw [← Han.out]; simp
                  have i2 : (cc : Int) * (n : Int) = (cn : Int) := by rw [← Hcn.out]; simp
                  have i3' : (an : Int) + (cc : Int) = (p1 : Int) := by rw [← Hp1.out]; simp
                  have i4 : (cn : Int) + (b : Int) = (p2 : Int) := by rw [← Hp2.out]; simp
                  have i5 : (an : Int) + (b : Int) = (p3 : Int) := by rw [← Hp3.out]; simp
                  have j1 : (p1 : Int) < (i : Int) := by omega
                  have j2 : (p2 : Int) < (i : Int) := by omega
                  have j3 : (p3 : Int) < (i : Int) := by omega
                  have ha9 : an ≤ 99 := by have := Hp3.out; omega
                  have hc9 : cn ≤ 99 := by have := Hp2.out; omega
                  obtain ⟨u, Hu⟩ : ∃ u, Hid (F a cc = u) := ⟨_, rfl⟩
                  obtain ⟨v, Hv⟩ : ∃ v, Hid (F cc b = v) := ⟨_, rfl⟩
                  rw [Hu.out] at e1
                  rw [Hv.out] at e2
                  rw [Hu.out, Hv.out] at HKP HST
                  clear hset hkeep
                  cases u with
                  | true =>
                    cases v with
                    | true =>
                      have hO2 := HST.out rfl
                      have hB2 := hB.setCell (p := ⟨w0.heap.size, p3, none⟩) (Nat.le_refl _) (.bool true)
                      clear hO hB
                      go_wp2
                      go_roundw
                      case rel => exact ⟨b + 1, by go_num, by omega, hO2, hB2⟩
                      case measure => simp [intOf]; omega
                    | false =>
                      have hO2 := hO
                      rw [← HKP.out rfl] at hO2
                      clear hO
                      go_wp2
                      go_roundw
                      case rel => exact ⟨b + 1, by go_num, by omega, hO2, hB⟩
                      case measure => simp [intOf]; omega
                  | false =>
                    have hO2 := hO
                    rw [← HKP.out rfl] at hO2
                    clear hO
                    go_wp2
                    go_roundw
                    case rel => exact ⟨b + 1, by go_num, by omega, hO2, hB⟩
                    case measure => simp [intOf]; omega
                · have hdb : decide ((b : Int) < (n : Int)) = false := by simp; omega
                  have hdbn : decide (b < n) = false := by simp; omega
                  obtain rfl : b = n := by omega
                  have hO2 := hO.congr (f' := mt b (midM F cc (a + 1) 0)) (by rw [← Hnn.out]; exact mt_ext (midM_next F cc a))
                  clear hO
                  go_wp2
                  go_roundw
                  case rel => exact ⟨a + 1, by go_num, by omega, hO2, hB⟩
                  case measure => simp [intOf]; omega
            · have hda : decide ((a : Int) < (n : Int)) = false := by simp; omega
              have hdan : decide (a < n) = false := by simp; omega
              obtain rfl : a = n := by omega
              have hO2 := hO.congr (f' := mt a (clo t (cc + 1))) (by rw [← Hnn.out, HCL.out]; exact mt_ext (midM_all F cc))
              clear hO
              go_wp2
              go_roundw
              case rel => exact ⟨cc + 1, by go_num, by omega, hO2, hB⟩
              case measure => simp [intOf]; omega
        · have hdc : decide ((cc : Int) < (n : Int)) = false := by simp; omega
          have hdcn : decide (cc < n) = false := by simp; omega
          obtain rfl : cc = n := by omega
          have HRR : Hid (∀ a, clo t cc a a = true) := fun a => clo_refl t cc a
          obtain ⟨R, HRe⟩ : ∃ R, Hid (clo t cc = R) := ⟨_, rfl⟩
          have HOUT : Hid (toZ (ptL cc (reB cc t)) = toZ (psF cc R cc)) := by show _ = _; rw [← HRe.out]; rfl
          rw [HRe.out] at hO HRR
          obtain ⟨wP, hwP⟩ : ∃ wP : World, wP = wr := ⟨_, rfl⟩
          subst hwP
          have HT : Hid (∀ W, Below wP.heap.size wP W → ∀ a b, a < cc → b < cc → W.cell? ⟨w0.heap.size, a * cc + b, none⟩ = some (.bool (R a b))) := fun W bW a b ha hb => by
            have h := (hO.below bW).cell (show a * cc + b < i by rw [← Hnn.out]; exact idx_lt ha hb)
            rwa [mt_at hb] at h
          have HIX : Hid (∀ a b, a < cc → b < cc → a * cc + b < i) := fun a b ha hb => by rw [← Hnn.out]; exact idx_lt ha hb
          have HBP : Hid (Below w.heap.size w wP) := HB0.out _ hB
          clear hO hB
          go_wp2
          go_loopw [9, 10] (fun ov rv wr => ∃ (m r K : Nat) (oa : Option Addr) (oc : Nat), rv = .int .i64 (r : Int) ∧ ov = .slice oa K oc ∧ r ≤ cc ∧ Hid (m + r = cc) ∧ Hid ((psF cc R m).length = K) ∧ OR wr wP.heap.size (.slice oa K oc) (psF cc R m) ∧ Below wP.heap.size wP wr) (fun _ rv _ => (intOf rv).toNat)
          case atStart => exact ⟨0, cc, 0, none, 0, rfl, rfl, Nat.le_refl _, Nat.zero_add _, rfl, OR.nil _ _, Below.refl _ _⟩
          case round =>
            obtain ⟨m, r, K, oa, oc, rfl, rfl, hrc, Hmr, HK, hO, hB⟩ := hrel
            by_cases hr0 : 0 < r
            · have hdr : decide ((0 : Int) < (r : Int)) = true := by simp; omega
              have hdrn : decide (0 < r) = true := by simp; omega
              have HNX : Hid (psF cc R (m + 1) = psF cc R m ++ ptA cc R r cc) := by
                show _ = _
                rw [psF_more, show cc - m = r by have := Hmr.out; omega]
              have HLB : Hid (∀ a, a ≤ cc → (psF cc R m ++ ptA cc R r a).length ≤ 999) := fun a ha => by
                rw [List.length_append]
                have h1 := psF_len cc R m
                have h2 := ptA_len cc R r a
                have h3 : cc * m ≤ 9 * 9 := Nat.mul_le_mul (by omega) (by have := Hmr.out; omega)
                omega
              obtain ⟨P, HP⟩ : ∃ P, Hid (psF cc R m = P) := ⟨_, rfl⟩
              rw [HP.out] at hO HNX HLB HK
              go_wp2
              go_loopw [9, 11] (fun ov av wr => ∃ (a K : Nat) (oa : Option Addr) (oc : Nat), av = .int .i64 (a : Int) ∧ ov = .slice oa K oc ∧ a ≤ cc ∧ K ≤ 999 ∧ Hid ((P ++ ptA cc R r a).length = K) ∧ OR wr wP.heap.size (.slice oa K oc) (P ++ ptA cc R r a) ∧ Below wP.heap.size wP wr) (fun _ av _ => (cc - intOf av).toNat)
              case atStart => exact ⟨0, K, oa, oc, rfl, rfl, by omega, by rw [← HK.out]; have := HLB.out 0 (by omega); simpa [ptA] using this, by show _ = _; rw [← HK.out]; simp [ptA], by simpa [ptA] using hO, hB⟩
              case round =>
                clear hO hB HK
                obtain ⟨a, K, oa, oc, rfl, rfl, ha, hK9, HK, hO, hB⟩ := hrel
                by_cases hla : a < cc
                · have hda : decide ((a : Int) < (cc : Int)) = true := by simp; omega
                  have hai : (a : Int) < (cc : Int) := by omega
                  obtain ⟨w1, hw1⟩ : ∃ w1 : World, w1 = wr := ⟨_, rfl⟩
                  subst hw1
                  have HO : Hid (OR w1 wP.heap.size (.slice oa K oc) (P ++ ptA cc R r a)) := hO
                  have HB1 : Hid (Below wP.heap.size wP w1) := hB
                  have HSZ : Hid (wP.heap.size ≤ w1.heap.size) := hB.size
                  have HMO := ptA_more cc R r a
                  have HL1 := HLB.out (a + 1) (by omega)
                  have HMO : Hid (ptA cc R r (a + 1) = ptA cc R r a ++ if rcN R a cc = r ∧ (ptF cc R a cc).getD 0 0 = a then [ptF cc R a cc] else []) := HMO
                  have HL1 : Hid ((P ++ ptA cc R r (a + 1)).length ≤ 999) := HL1
                  have HPP : Hid (0 < (ptF cc R a cc).length) := ptF_pos (HRR.out a) hla
                  clear hO hB
                  go_wp2
                  go_loopw [12, 13, 14] (fun mv pv bv wr => ∃ (b s q : Nat) (pa : Option Addr) (pc : Nat), bv = .int .i64 (b : Int) ∧ mv = .int .i64 (s : Int) ∧ pv = .slice pa q pc ∧ b ≤ cc ∧ s ≤ b ∧ q ≤ b ∧ Hid (rcN R a b = s) ∧ Hid ((ptF cc R a b).length = q) ∧ wr.ownsRow w1.heap.size 3 1 (.slice pa q pc) q (nz (ptF cc R a b)) ∧ Below w1.heap.size w1 wr) (fun _ _ bv _ => (cc - intOf bv).toNat)
                  case atStart => exact ⟨0, 0, 0, none, 0, rfl, rfl, rfl, by omega, by omega, by omega, rfl, rfl, World.ownsRow_nil _ _ _ _, Below.refl _ _⟩
                  case round =>
                    obtain ⟨b, s, q, pa, pc, rfl, rfl, rfl, hb, hsb, hqb, Hs, Hq, hown, hB⟩ := hrel
                    have hBP : Below wP.heap.size wP wr := HB1.out.trans (hB.mono HSZ.out)
                    by_cases hlb : b < cc
                    · have hdb : decide ((b : Int) < (cc : Int)) = true := by simp; omega
                      have hbi : (b : Int) < (cc : Int) := by omega
                      have e1 := HT.out wr hBP a b hla hlb
                      have e2 := HT.out wr hBP b a hlb hla
                      have b1 := HIX.out a b hla hlb
                      have b2 := HIX.out b a hlb hla
                      have hrm := rcN_more R a b
                      have hpm := ptF_more cc R a b
                      obtain ⟨an, Han⟩ : ∃ an, Hid (a * cc = an) := ⟨_, rfl⟩
                      obtain ⟨bn, Hbn⟩ : ∃ bn, Hid (b * cc = bn) := ⟨_, rfl⟩
                      rw [Han.out] at e1 b1
                      rw [Hbn.out] at e2 b2
                      obtain ⟨p1, Hp1⟩ : ∃ p, Hid (an + b = p) := ⟨_, rfl⟩
                      obtain ⟨p2, Hp2⟩ : ∃ p, Hid (bn + a = p) := ⟨_, rfl⟩
                      rw [Hp1.out] at e1 b1
                      rw [Hp2.out] at e2 b2
                      have i1 : (a : Int) * (cc : Int) = (an : Int) := by rw [← Han.out]; simp
                      have i2 : (b : Int) * (cc : Int) = (bn : Int) := by rw [← Hbn.out]; simp
                      have i3' : (an : Int) + (b : Int) = (p1 : Int) := by rw [← Hp1.out]; simp
                      have i4 : (bn : Int) + (a : Int) = (p2 : Int) := by rw [← Hp2.out]; simp
                      have j1 : (p1 : Int) < (i : Int) := by omega
                      have j2 : (p2 : Int) < (i : Int) := by omega
                      have ha9 : an ≤ 99 := by have := Hp1.out; omega
                      have hb9 : bn ≤ 99 := by have := Hp2.out; omega
                      obtain ⟨u, Hu⟩ : ∃ u, Hid (R a b = u) := ⟨_, rfl⟩
                      obtain ⟨v, Hv⟩ : ∃ v, Hid (R b a = v) := ⟨_, rfl⟩
                      rw [Hu.out] at e1
                      rw [Hv.out] at e2
                      rw [Hs.out, Hu.out] at hrm
                      rw [Hu.out, Hv.out] at hpm
                      cases u with
                      | false =>
                        have HS2 : Hid (rcN R a (b + 1) = s) := by show _ = _; rw [hrm]; rfl
                        have HP2 : Hid (ptF cc R a (b + 1) = ptF cc R a b) := by show _ = _; rw [hpm]; simp
                        clear hrm hpm
                        go_wp2
                        go_roundw
                        case rel => exact ⟨b + 1, s, q, pa, pc, by go_num, rfl, rfl, by omega, by omega, by omega, HS2, by show _ = _; rw [HP2.out]; exact Hq.out, by rw [HP2.out]; exact hown, hB⟩
                        case measure => simp [intOf]; omega
                      | true =>
                        have HS2 : Hid (rcN R a (b + 1) = s + 1) := by show _ = _; rw [hrm]; rfl
                        cases v with
                        | false =>
                          have HP2 : Hid (ptF cc R a (b + 1) = ptF cc R a b) := by show _ = _; rw [hpm]; simp
                          clear hrm hpm
                          go_wp2
                          go_roundw
                          case rel => exact ⟨b + 1, s + 1, q, pa, pc, by go_num, by go_num, rfl, by omega, by omega, by omega, HS2, by show _ = _; rw [HP2.out]; exact Hq.out, by rw [HP2.out]; exact hown, hB⟩
                          case measure => simp [intOf]; omega
                        | true =>
                          have HP2 : Hid (ptF cc R a (b + 1) = ptF cc R a b ++ [b]) := by show _ = _; rw [hpm]; simp
                          have HN2 : Hid (nz (ptF cc R a (b + 1)) = nz (ptF cc R a b) ++ [.int .i64 (b : Int)]) := by show _ = _; rw [HP2.out, nz_more]
                          have hbz := hB.size
                          clear hrm hpm
                          go_wp2_with (first
                            | (at_builtin; refine wpList_append_own _ rfl _ _ 22 rfl w1.heap.size 3 i3 (.int .i64 0) 1 8 und22 hi3 hz0 hz1 hz2 rfl (by decide) _ _ _ rfl (hown.alloc _) ⟨wr.heap.size, 0, none⟩ 1 1 [.int .i64 (b : Int)] rfl rfl (fun j u hj => by (match j, hj with | 0, hj => simp at hj; subst hj; simp [Addr.add])) (fun u hu => by (simp at hu; subst hu; rfl)) ?d3 ?d4 ?d5 ?_)
                            | go_in)
                          case d3 => unfold maxLen; omega
                          case d4 => omega
                          case d5 => simp; omega
                          intro v' w6 hown' hgrow _
                          have hb6 : Below w1.heap.size w1 w6 := (hB.alloc hbz _).grown hgrow (by simp; omega) (fun k hk => (hown.lt k hk).1)
                          rw [← HN2.out] at hown'
                          obtain ⟨xa, xc, rfl⟩ := own_form hown'
                          clear hown hgrow
                          go_wp2
                          go_roundw
                          case rel => exact ⟨b + 1, s + 1, q + 1, xa, xc, by go_num, by go_num, rfl, by omega, by omega, by omega, HS2, by show _ = _; rw [HP2.out, List.length_append, Hq.out]; rfl, hown', hb6⟩
                          case measure => simp [intOf]; omega
                    · have hdb : decide ((b : Int) < (cc : Int)) = false := by simp; omega
                      have hdbn : decide (b < cc) = false := by simp; omega
                      obtain rfl : b = cc := by omega
                      have hq0 : 0 < q := by rw [← Hq.out]; exact HPP.out
                      obtain ⟨hg, ho, hcp, he, hcell⟩ := li_cells (Sl.owned (l := (ptF b R a b).map Int.ofNat) (by rw [List.length_map, Hq.out]; exact hown)) (by rw [Hq.out]; exact hq0)
                      have hc0 := hcell wr (Below.refl _ _) 0 (by rw [Hq.out]; exact hq0)
                      rw [Hq.out] at he
                      simp only [Value.slice.injEq, true_and] at he
                      obtain ⟨rfl, rfl⟩ := he
                      rw [Nat.add_zero] at hc0
                      obtain ⟨x, Hx⟩ : ∃ x, Hid ((ptF b R a b).getD 0 0 = x) := ⟨_, rfl⟩
                      rw [Hx.out] at hc0
                      have HIF : Hid (ptA b R r (a + 1) = ptA b R r a ++ if s = r ∧ x = a then [ptF b R a b] else []) := by show _ = _; rw [HMO.out, Hs.out, Hx.out]
                      have hq0i : (0 : Int) < (q : Int) := by omega
                      clear hcell
                      have hOb := HO.out.below hB
                      by_cases hsr : s = r
                      · have hse : ((s : Int) == (r : Int)) = true := by simp [hsr]
                        by_cases hxa : x = a
                        · have hxe : ((x : Int) == (a : Int)) = true := by simp [hxa]
                          have HTS : Hid (P ++ ptA b R r (a + 1) = P ++ ptA b R r a ++ [ptF b R a b]) := by show _ = _; rw [HIF.out, if_pos ⟨hsr, hxa⟩, List.append_assoc]
                          have hrow : ORow wr wP.heap.size (.slice (some ⟨hg, ho, none⟩) q pc) (ptF b R a b) := by
                            show wr.ownsRow wP.heap.size 3 1 _ (ptF b R a b).length (nz (ptF b R a b))
                            rw [Hq.out]
                            exact own_low' hown HSZ.out
                          obtain ⟨vals, h1, h2'⟩ := hOb
                          have HH1 : Hid (wr.ownsRow wP.heap.size 22 1 (.slice oa K oc) (P ++ ptA b R r a).length vals) := h1
                          have HH2 : Hid (∀ (i_1 : Nat) (u : Value) (l : List Nat), vals[i_1]? = some u → (P ++ ptA b R r a)[i_1]? = some l → ORow wr wP.heap.size u l) := h2'
                          rw [HK.out] at h1
                          have hK1 : K + 1 ≤ 999 := by have h := HL1.out; rw [HTS.out, List.length_append, HK.out] at h; simpa using h
                          have hs3 : wP.heap.size ≤ wr.heap.size := hBP.size
                          clear h2' hown hsr hxa
                          go_wp2_with (first
                            | (at_builtin; refine wpList_append_own _ rfl _ _ 31 rfl wP.heap.size 22 i36 (.slice none 0 0) 1 24 undR ji3 jz0 jz1 jz2 rfl (by decide) _ _ _ rfl (h1.alloc _) ⟨wr.heap.size, 0, none⟩ 1 1 [.slice (some ⟨hg, ho, none⟩) q pc] rfl rfl (fun j u hj => by (match j, hj with | 0, hj => simp at hj; subst hj; simp [Addr.add])) (fun u hu => by (simp at hu; subst hu; rfl)) ?f3 ?f4 ?f5 ?_)
                            | go_in)
                          case f3 => unfold maxLen; omega
                          case f4 => omega
                          case f5 => simp; omega
                          intro v' w7 hown' hgrow _
                          have hal := balloc wr (.cells #[.slice (some ⟨hg, ho, none⟩) q pc] 22)
                          have hB2 : Below wP.heap.size wr w7 := ((Below.refl _ wr).alloc hs3 _).grown hgrow (by simp; omega) (fun k hk => (h1.lt k hk).1)
                          have hO2 : OR w7 wP.heap.size v' (P ++ ptA b R r a ++ [ptF b R a b]) := OR.more (own_keep HH1.out fun b _ hb => hal.block b hb) (fun i_1 u l' e1 e2 => (HH2.out i_1 u l' e1 e2).below hal) (hrow.below hal) (by rw [HK.out]; exact hown') hgrow
                          rw [← HTS.out] at hO2
                          obtain ⟨va, vc, rfl⟩ := own_form hown'
                          have hB7 : Below wP.heap.size wP w7 := hBP.trans hB2
                          go_wp2
                          go_roundw
                          case rel => exact ⟨a + 1, K + 1, va, vc, by go_num, rfl, by omega, hK1, by show _ = _; rw [HTS.out, List.length_append, HK.out]; rfl, hO2, hB7⟩
                          case measure => simp [intOf]; omega
                        · have hxe : ((x : Int) == (a : Int)) = false := by simp; omega
                          have HTS : Hid (ptA b R r (a + 1) = ptA b R r a) := by show _ = _; rw [HIF.out, if_neg (fun h => hxa h.2), List.append_nil]
                          clear hsr hxa
                          go_wp2
                          go_roundw
                          case rel => exact ⟨a + 1, K, oa, oc, by go_num, rfl, by omega, hK9, by show _ = _; rw [HTS.out]; exact HK.out, by rw [HTS.out]; exact hOb, hBP⟩
                          case measure => simp [intOf]; omega
                      · have hse : ((s : Int) == (r : Int)) = false := by simp; omega
                        have HTS : Hid (ptA b R r (a + 1) = ptA b R r a) := by show _ = _; rw [HIF.out, if_neg (fun h => hsr h.1), List.append_nil]
                        clear hsr
                        go_wp2
                        go_roundw
                        case rel => exact ⟨a + 1, K, oa, oc, by go_num, rfl, by omega, hK9, by show _ = _; rw [HTS.out]; exact HK.out, by rw [HTS.out]; exact hOb, hBP⟩
                        case measure => simp [intOf]; omega
                · have hda : decide ((a : Int) < (cc : Int)) = false := by simp; omega
                  have hdan : decide (a < cc) = false := by simp; omega
                  obtain rfl : a = cc := by omega
                  obtain ⟨r', Hr'⟩ : ∃ r', Hid (r - 1 = r') := ⟨_, rfl⟩
                  have hri : (r : Int) - 1 = (r' : Int) := by rw [← Hr'.out]; omega
                  have HM2 : Hid (m + 1 + r' = a) := by show _ = _; rw [← Hr'.out]; have := Hmr.out; omega
                  have hra : r' ≤ a := by have := HM2.out; omega
                  have hrr : r' < r := by rw [← Hr'.out]; omega
                  go_wp2
                  go_roundw
                  case rel => exact ⟨m + 1, r', K, oa, oc, by go_num, rfl, hra, HM2, by show _ = _; rw [HNX.out]; exact HK.out, by rw [HNX.out]; exact hO, hB⟩
                  case measure => simp [intOf]; omega
            · have hdr : decide ((0 : Int) < (r : Int)) = false := by simp; omega
              have hdrn : decide (0 < r) = false := by simp; omega
              have HME : Hid (m = cc) := by have := Hmr.out; show _ = _; omega
              go_wp2
              go_ret
              exact ⟨⟨_, rfl, by rw [Ht.out, HOUT.out]; have h := hO.rw; rw [HME.out] at h; exact h⟩, HBP.out.trans (hB.mono HBP.out.size)⟩
end Go.Proofs.Ytgkfddcmngodgaa
