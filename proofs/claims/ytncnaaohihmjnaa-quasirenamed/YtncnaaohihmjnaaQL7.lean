/- The law QuasiRenamed, walked. -/
import Derived.Test.YtncnaaohihmjnaaQR
import Derived.Test.YtncnaaohihmjnaaQ13
import Derived.Test.YtncnaaohihmjnaaQ15
import Derived.Test.YtncnaaohihmjnaaQF
import Derived.Test.YtncnaaohihmjnaaP7
import Derived.Deep.WholeRow
namespace Go.Proofs.Ytncnaaohihmjnaa
open Go.RowKit

theorem al_found (n k : Nat) (L M : List Int) (u v : Value) (W : World) (h6 : n ≤ 6) (hu : Sl W u L) (hv : Sl W v M) (G1 : GoodS n L) (G2 : GoodS n M) (ho : alK n (sq n L) (sq n M) = some k) :
    Calls Try.prog 22 #[.agg #[.int .i64 (n : Int), u], .agg #[.int .i64 (n : Int), v]] W fun e w' => (∃ xa xc, e = .returned (.tuple #[.slice xa n xc, .int .i64 0]) ∧ Sl w' (.slice xa n xc) (pl n (un n k))) ∧ Below W.heap.size W w' := by
  have HA : aF n n L M = 0 := by unfold aF; rw [lF_good G1, lF_good G2, if_neg (by omega), if_neg (by omega), if_neg (by simp), if_neg (by omega)]
  have hnn : ((n : Int)).toNat = n := by omega
  refine (Alike_any n n L M u v W hu hv (good_len G1) (good_len G2)).mono ?_
  rintro e w' ⟨⟨x, z, rfl, hA⟩, b'⟩
  refine ⟨?_, b'⟩
  unfold AlIs at hA
  rw [HA, hnn, ho] at hA
  rcases hA with ⟨h, _⟩ | ⟨_, ⟨k', e1, rfl, hS⟩ | ⟨e1, _⟩⟩
  · exact (h rfl).elim
  · obtain rfl := Option.some.inj e1
    obtain ⟨xa, xc, rfl⟩ := sl_len hS (pl_len n _)
    exact ⟨xa, xc, rfl, hS⟩
  · cases e1
theorem run_makeF (n : Nat) (hn : n ≤ 100000000) (w : World) : (Instr.makeSlice 22 (.int .i64 (n : Int)) (.int .i64 (n : Int))).run Try.prog w = .ok (.slice (some ⟨w.heap.size, 0, none⟩) n n) (w.alloc (.cells (madeCells #[.int .i64 0] n) 3)) := by
  obtain ⟨i3, hi, hz0, hz1, hz2⟩ := info3
  have h := run_make (P := Try.prog) w 22 3 i3 (.int .i64 0) und22 hi hz0 .i64 .i64 n n (by omega) (by omega) (by rw [hz2]; omega) (by omega)
  simpa [hz1, Value.cells] using h
/-- The square, the one that is filled, and its cells, in memory. -/
structure RM (w : World) (n tb g z : Nat) (u : Value) (h : Nat → Int) (W : World) : Prop where
  lo : Below w.heap.size w W
  sb : W.heap[w.heap.size]? = some (.cells #[.int .i64 (n : Int), u] 24 (0, 0))
  tx : W.heap[tb]? = some (.cells #[.int .i64 (n : Int), .slice (some ⟨g, 0, none⟩) z z] 24 (0, 0))
  own : Own W g z h
  c1 : w.heap.size < tb
  c2 : w.heap.size < g
  c3 : tb ≠ g
theorem RM.below {w : World} {n tb g z : Nat} {u : Value} {h : Nat → Int} {W W' : World} (r : RM w n tb g z u h W) (b : Below W.heap.size W W') : RM w n tb g z u h W' :=
  ⟨Below.next r.lo b, (b.block _ (Array.getElem?_eq_some_iff.1 r.sb).1).trans r.sb, (b.block _ (Array.getElem?_eq_some_iff.1 r.tx).1).trans r.tx, r.own.below b, r.c1, r.c2, r.c3⟩
theorem RM.set {w : World} {n tb g z : Nat} {u : Value} {h : Nat → Int} {W : World} (r : RM w n tb g z u h W) (k : Nat) (v : Int) : RM w n tb g z u (upd h k v) (W.setCell ⟨g, k, none⟩ (.int .i64 v)) :=
  ⟨r.lo.setCell (p := ⟨g, k, none⟩) (Nat.le_of_lt r.c2) _, (heap_setCell_other W ⟨g, k, none⟩ _ _ (Nat.ne_of_lt r.c2)).trans r.sb, (heap_setCell_other W ⟨g, k, none⟩ _ _ r.c3).trans r.tx, r.own.set k v, r.c1, r.c2, r.c3⟩
theorem RM.cells {w : World} {n tb g z : Nat} {u : Value} {h : Nat → Int} {W : World} (r : RM w n tb g z u h W) : W.cell? ⟨w.heap.size, 0, none⟩ = some (.int .i64 (n : Int)) ∧ W.cell? ⟨w.heap.size, 1, none⟩ = some u ∧ W.cell? ⟨tb, 0, none⟩ = some (.int .i64 (n : Int)) ∧ W.cell? ⟨tb, 1, none⟩ = some (.slice (some ⟨g, 0, none⟩) z z) := by
  refine ⟨?_, ?_, ?_, ?_⟩
  · rw [cell_of_row _ _ _ _ _ _ r.sb]; rfl
  · rw [cell_of_row _ _ _ _ _ _ r.sb]; rfl
  · rw [cell_of_row _ _ _ _ _ _ r.tx]; rfl
  · rw [cell_of_row _ _ _ _ _ _ r.tx]; rfl
theorem ownMade (w : World) (z : Nat) : Own (w.alloc (.cells (madeCells #[.int .i64 0] z) 3)) w.heap.size z (fun _ => 0) := by
  refine ⟨_, heap_alloc_new w _, fun j hj => ?_⟩
  simp [madeCells, hj, Nat.mod_one]
theorem rm_first (w W : World) (n z : Nat) (u : Value) (hB : Below w.heap.size w W) (hs : W.heap[w.heap.size]? = some (.cells #[.int .i64 (n : Int), u] 24 (0, 0))) :
    RM w n (W.heap.size + 1) W.heap.size z u (fun _ => 0) ((W.alloc (.cells (madeCells #[.int .i64 0] z) 3)).alloc (.cells #[.int .i64 (n : Int), .slice (some ⟨W.heap.size, 0, none⟩) z z] 24)) := by
  have hl := (Array.getElem?_eq_some_iff.1 hs).1
  refine ⟨Below.next hB (two_below W _ _), ((two_below W _ _).block _ hl).trans hs, ?_, (ownMade W z).below (balloc _ _), by omega, hl, by omega⟩
  have := heap_alloc_new (W.alloc (.cells (madeCells #[.int .i64 0] z) 3)) (.cells #[.int .i64 (n : Int), .slice (some ⟨W.heap.size, 0, none⟩) z z] 24)
  rw [size_one] at this
  exact this
theorem rm_second (w W : World) (n z : Nat) (u : Value) (hB : Below w.heap.size w W) (hs : W.heap[w.heap.size]? = some (.cells #[.int .i64 (n : Int), u] 24 (0, 0))) :
    RM w n W.heap.size (W.heap.size + 1) z u (fun _ => 0) ((W.alloc (.cells #[.int .i64 (n : Int), .slice (some ⟨W.heap.size + 1, 0, none⟩) z z] 24)).alloc (.cells (madeCells #[.int .i64 0] z) 3)) := by
  have hl := (Array.getElem?_eq_some_iff.1 hs).1
  refine ⟨Below.next hB (two_below W _ _), ((two_below W _ _).block _ hl).trans hs, (Below.heap_alloc _ _ _ (by simp)).trans (heap_alloc_new W _), ?_, hl, by omega, by omega⟩
  have := ownMade (W.alloc (.cells #[.int .i64 (n : Int), .slice (some ⟨W.heap.size + 1, 0, none⟩) z z] 24)) z
  rw [size_one] at this
  exact this
theorem RM.drew {w : World} {n tb g z : Nat} {u : Value} {h : Nat → Int} {W : World} (r : RM w n tb g z u h W) : RM w n tb g z u h W.drew := ⟨r.lo.drew, r.sb, r.tx, r.own, r.c1, r.c2, r.c3⟩
set_option maxRecDepth 100000 in
set_option maxHeartbeats 32000000 in
theorem QuasiRenamed_main (n : Nat) (f : Nat → Nat) (L : List Int) (u p : Value) (w : World) (h6 : n ≤ 6) (hu : Sl w u L) (hp : Sl w p (pl n f)) (G : GoodS n L) (P : Pm n f) :
    Calls Try.prog 7 #[.agg #[.int .i64 (n : Int), u], p] w fun e w' => e = .returned (.bool true) ∧ Below w.heap.size w w' := by
  have h1 := G.pos
  have HU : Hid (Sl w u L) := hu
  have HP : Hid (Sl w p (pl n f)) := hp
  have HG : Hid (GoodS n L) := G
  have HPM : Hid (Pm n f) := P
  have hb0 := balloc w (.cells #[.int .i64 (n : Int), u] 24)
  have SS : Hid (∀ W, Below (w.alloc (.cells #[.int .i64 (n : Int), u] 24)).heap.size (w.alloc (.cells #[.int .i64 (n : Int), u] 24)) W → W.heap[w.heap.size]? = some (.cells #[.int .i64 (n : Int), u] 24 (0, 0)) ∧ W.cell? ⟨w.heap.size, 0, none⟩ = some (.int .i64 (n : Int)) ∧ W.cell? ⟨w.heap.size, 1, none⟩ = some u) := fun W b => ⟨(b.block _ (by simp)).trans (heap_alloc_new w _), (one_box n u w W b).1, (one_box n u w W b).2.1⟩
  have C0 := quasiFact_any (w.alloc (.cells #[.int .i64 (n : Int), u] 24))
  have C1 := fun W (b : Below w.heap.size w W) => LatinFault_any n L u W (hu.below b) (good_len G)
  rw [lF_good G] at C1
  have C2 := fun W (b : Below w.heap.size w W) => PermFault_any (pl n f) p W (hp.below b) (by rw [pl_len]; unfold maxLen; omega)
  rw [pF_pl P (by omega)] at C2
  obtain ⟨z, hz⟩ : ∃ z, z = n * n := ⟨_, rfl⟩
  have HZ : Hid (z = n * n) := hz
  have hz99 : z ≤ 99 := by rw [hz]; exact Nat.le_trans (Nat.mul_le_mul h6 h6) (by decide)
  have hmk := run_makeF z (by omega)
  obtain ⟨ua, uc, rfl⟩ := sl_len hu G.len
  obtain ⟨a, off, cap, rfl, ha, hcell⟩ := hp.form (pl_len n f) (by omega)
  rw [← hz] at SS hb0 C0 C1 HU ⊢
  have HPC : Hid (∀ m, m < n → ∀ W, Below w.heap.size w W → W.cell? ⟨a, off + m, none⟩ = some (.int .i64 (f m : Int))) := fun m hm W b => by
    have := (b.cell (p := ⟨a, off + m, none⟩) ha).trans (hcell m hm)
    rw [pl_at f hm] at this
    exact this
  have HSR : Hid (∀ h' w' g tb, RM w n tb g z (.slice ua z uc) h' w' → (w'.cell? ⟨w.heap.size, 0, none⟩ = some (.int .i64 (n : Int)) ∧ w'.cell? ⟨w.heap.size, 1, none⟩ = some (.slice ua z uc)) ∧ True) := fun h' w' g tb r => ⟨⟨r.cells.1, r.cells.2.1⟩, trivial⟩
  have hne : ((n : Int) != (n : Int)) = false := by simp
  have hd6 : decide ((6 : Int) < (n : Int)) = false := decide_eq_false (by omega)
  clear hu hp G P hz hcell
  go_enter Try.func7, Try.ntmps7
  go_wp2_with (first
    | (go_at_call 25; refine C0.mono ?_; rintro e w1 ⟨rfl, b1⟩; obtain ⟨_, x0, x1⟩ := SS.out _ b1; clear C0)
    | (go_at_call 8; refine (C1 _ (Below.next hb0 b1)).mono ?_; rintro e w2 ⟨rfl, b2⟩; have d2 := Below.next b1 b2; clear C1)
    | (go_at_call 27; refine (C2 _ (Below.next hb0 d2)).mono ?_; rintro e w3 ⟨rfl, b3⟩; have d3 := Below.next d2 b3; obtain ⟨k3, y0, y1⟩ := SS.out _ d3; clear C2))
  have hB3 := Below.next hb0 d3
  have HS : Hid (∀ w', Below w3.heap.size w3 w' → w'.cell? ⟨w.heap.size, 0, none⟩ = some (.int .i64 (n : Int)) ∧ w'.cell? ⟨w.heap.size, 1, none⟩ = some (.slice ua z uc)) := fun w' b' => (SS.out _ (Below.next d3 b')).2
  refine wp_region_noPanic ?_
  refine wp_region_held_drew (S := fun w' => w'.cell? ⟨w.heap.size, 0, none⟩ = some (.int .i64 (n : Int)) ∧ w'.cell? ⟨w.heap.size, 1, none⟩ = some (.slice ua z uc)) (by kernel_rfl) (HS.out _ (Below.refl _ w3).drew) (fun hSx => ?_)
  have d0 : Below w3.heap.size w3 w3.drew := (Below.refl _ w3).drew
  refine wpAnyH_take (i := 0) (v := .pointer (some ⟨w.heap.size, 0, none⟩)) rfl (by kernel_rfl) (by kernel_rfl) (by kernel_rfl) (fun _ _ _ h => h) (Or.inl ⟨by rfl, fun w' hSw => by (try dsimp only at hSw); obtain ⟨hs0, hs1⟩ := hSw; go_simp⟩) hSx ?_
  try simp only [Act.put, List.setIfInBounds_toArray]
  refine wpAnyH_take (i := 1) (v := .int .i64 (n : Int)) rfl (by kernel_rfl) (by kernel_rfl) (by kernel_rfl) (fun _ _ _ h => h) (Or.inl ⟨by rfl, fun w' hSw => by (try dsimp only at hSw); obtain ⟨hs0, hs1⟩ := hSw; go_simp⟩) hSx ?_
  try simp only [Act.put]
  refine wpAnyH_take (i := 2) (v := .pointer (some ⟨w.heap.size, 1, none⟩)) rfl (by kernel_rfl) (by kernel_rfl) (by kernel_rfl) (fun _ _ _ h => h) (Or.inl ⟨by rfl, fun w' hSw => by (try dsimp only at hSw); obtain ⟨hs0, hs1⟩ := hSw; go_simp⟩) hSx ?_
  try simp only [Act.put]
  refine wpAnyH_take (i := 3) (v := .slice ua z uc) rfl (by kernel_rfl) (by kernel_rfl) (by kernel_rfl) (fun _ _ _ h => h) (Or.inl ⟨by rfl, fun w' hSw => by (try dsimp only at hSw); obtain ⟨hs0, hs1⟩ := hSw; go_simp⟩) hSx ?_
  try simp only [Act.put]
  refine wpAnyH_take (i := 4) (v := .int .i64 (z : Int)) rfl (by kernel_rfl) (by kernel_rfl) (by kernel_rfl) (fun _ _ _ h => h) (Or.inl ⟨by rfl, fun w' hSw => by (try dsimp only at hSw); obtain ⟨hs0, hs1⟩ := hSw; go_simp⟩) hSx ?_
  try simp only [Act.put]
  refine wpAnyH_ready (rs := [5, 7]) (by kernel_rfl) (by simp) ?_
  refine AllReadyH.cons rfl (fun J hJ => ?_) (AllReadyH.cons rfl (fun J hJ => ?_) AllReadyH.nil)
  · go_simp
    refine hJ.out _ _ (HS.out _ (Below.next d0 (balloc w3.drew (.cells (madeCells #[.int .i64 0] z) 3)))) (fun hSx => ?_)
    clear hJ J
    try simp only [Act.put, List.setIfInBounds_toArray, List.set_cons_zero, List.set_cons_succ]
    refine wpAnyH_take (i := 6) (v := .agg #[.int .i64 (n : Int), .slice (some ⟨w3.heap.size, 0, none⟩) z z]) rfl (by kernel_rfl) (by kernel_rfl) (by kernel_rfl) (fun _ _ _ h => h) (Or.inl ⟨by rfl, fun w' hSw => by (try dsimp only at hSw); obtain ⟨hs0, hs1⟩ := hSw; go_simp⟩) hSx ?_
    try simp only [Act.put, List.setIfInBounds_toArray]
    refine wpAnyH_ready (rs := [7]) (by kernel_rfl) (by simp) ?_
    refine AllReadyH.cons rfl (fun J hJ => ?_) AllReadyH.nil
    go_simp
    refine hJ.out _ _ (HS.out _ (Below.next d0 (two_below w3.drew (.cells (madeCells #[.int .i64 0] z) 3) _))) (fun hSx => ?_)
    clear hJ J
    try simp only [Act.put, List.setIfInBounds_toArray, List.set_cons_zero, List.set_cons_succ]
    refine wpAnyH_ready (rs := [8]) (by kernel_rfl) (by simp) ?_
    refine AllReadyH.cons rfl (fun J hJ => ?_) AllReadyH.nil
    go_simp
    refine hJ.out _ _ ?_ (fun hSx => ?_)
    · exact (HSR.out _ _ _ _ (rm_first w w3 n z _ hB3 k3).drew).1
    clear hJ J
    try simp only [Act.put, List.setIfInBounds_toArray, List.set_cons_zero, List.set_cons_succ]
    refine wpAnyH_done (by kernel_rfl) ?_ _
    refine NoPanic.normal ?_
    go_simp
    have hR0 := (rm_first w w3 n z _ hB3 k3).drew
    clear hSx d0 d3 d2 b1 b2 b3 hB3 k3 y0 y1 x0 x1 HS
    go_wp2
    go_loopw [9] (fun i wr => ∃ (x : Nat) (h : Nat → Int), i = .int .i64 (x : Int) ∧ x ≤ n ∧ Hid (Fil n (sq n L) f x 0 h) ∧ RM w n (w3.heap.size + 1) w3.heap.size z (.slice ua z uc) h wr) (fun i _ => (n - intOf i).toNat)
    case atStart => exact ⟨0, _, rfl, by omega, (show Fil n (sq n L) f 0 0 _ from fun i j hi hj hs => by omega), hR0⟩
    case round =>
      clear hR0
      obtain ⟨x, h, rfl, hx, HFI, hR⟩ := hrel
      obtain ⟨x0, x1, t0, t1⟩ := hR.cells
      by_cases hlt : x < n
      · have hdx : decide ((x : Int) < (n : Int)) = true := by simp; omega
        go_wp2
        go_loopw [10] (fun j wr => ∃ (y : Nat) (h : Nat → Int), j = .int .i64 (y : Int) ∧ y ≤ n ∧ Hid (Fil n (sq n L) f x y h) ∧ RM w n (w3.heap.size + 1) w3.heap.size z (.slice ua z uc) h wr) (fun j _ => (n - intOf j).toNat)
        case atStart => exact ⟨0, h, rfl, by omega, HFI, hR⟩
        case round =>
          clear x0 x1 t0 t1 hR HFI h
          obtain ⟨y, h, rfl, hy, HFI, hR⟩ := hrel
          obtain ⟨x0, x1, t0, t1⟩ := hR.cells
          by_cases hly : y < n
          · have hdy : decide ((y : Int) < (n : Int)) = true := by simp; omega
            have C := At_any n L _ wr (HU.out.below hR.lo) HG.out x y hlt hly
            have HF2 : Hid (Fil n (sq n L) f x (y + 1) (upd h (f x * n + f y) ((f (sq n L x y) : Nat) : Int))) := HFI.out.step HPM.out hlt hly
            have hv := HG.out.lat.lt x y hlt hly
            have hax := HPM.out.lt x hlt
            have hay := HPM.out.lt y hly
            have HK := cell_lt hax hay
            rw [← HZ.out] at HK
            have P1 := HPC.out x hlt
            have P2 := HPC.out y hly
            have P3 := HPC.out (sq n L x y) hv
            generalize sq n L x y = v at *
            generalize f x = α at *
            generalize f y = β at *
            generalize f v = δ at *
            obtain ⟨q, Hq⟩ : ∃ q, Hid (q = α * n) := ⟨_, (rfl : α * n = α * n)⟩
            obtain ⟨k, Hk⟩ : ∃ k, Hid (k = q + β) := ⟨_, (rfl : q + β = q + β)⟩
            rw [← Hq.out, ← Hk.out] at HF2 HK
            have hmul : (α : Int) * (n : Int) = (q : Int) := by rw [Hq.out]; simp
            have hadd : (q : Int) + (β : Int) = (k : Int) := by rw [Hk.out]; simp
            have hk99 : k ≤ 99 := by omega
            have hwk : IntKind.i64.wrap (k : Int) = (k : Int) := by rw [IntKind.wrap_i64]; omega
            have hq99 : q ≤ 99 := by have := Hk.out; omega
            have hwq : IntKind.i64.wrap (q : Int) = (q : Int) := by rw [IntKind.wrap_i64]; omega
            have hki : (k : Int) < (z : Int) := by omega
            have hxi : (x : Int) < (n : Int) := by omega
            have hyi : (y : Int) < (n : Int) := by omega
            have hvi : (v : Int) < (n : Int) := by omega
            have HSX : Hid (∀ h' w', RM w n (w3.heap.size + 1) w3.heap.size z (.slice ua z uc) h' w' → w'.cell? ⟨(w3.heap.size + 1), 1, none⟩ = some (.slice (some ⟨w3.heap.size, 0, none⟩) z z) ∧ w'.cell? ⟨a, off + x, none⟩ = some (.int .i64 (α : Int)) ∧ w'.cell? ⟨w.heap.size, 0, none⟩ = some (.int .i64 (n : Int)) ∧ w'.cell? ⟨a, off + y, none⟩ = some (.int .i64 (β : Int)) ∧ w'.cell? ⟨a, off + v, none⟩ = some (.int .i64 (δ : Int))) := fun h' w' r => ⟨r.cells.2.2.2, P1 _ r.lo, r.cells.1, P2 _ r.lo, P3 _ r.lo⟩
            clear P1 P2 P3 HFI
            go_wp2_with (go_at_call 21; refine C.mono ?_; rintro e wc ⟨rfl, c1⟩; have hRc := hR.below c1; clear C)
            have hf := hRc.own.frozen k
            have hc := hRc.own.cell k HK
            refine wp_region_noPanic ?_
            refine wp_region_held_drew (S := fun w' => w'.cell? ⟨(w3.heap.size + 1), 1, none⟩ = some (.slice (some ⟨w3.heap.size, 0, none⟩) z z) ∧ w'.cell? ⟨a, off + x, none⟩ = some (.int .i64 (α : Int)) ∧ w'.cell? ⟨w.heap.size, 0, none⟩ = some (.int .i64 (n : Int)) ∧ w'.cell? ⟨a, off + y, none⟩ = some (.int .i64 (β : Int)) ∧ w'.cell? ⟨a, off + v, none⟩ = some (.int .i64 (δ : Int))) (by kernel_rfl) (HSX.out _ _ hRc.drew) (fun hSx => ?_)
            refine wpAnyH_take (i := 0) (v := .pointer (some ⟨(w3.heap.size + 1), 1, none⟩)) rfl (by kernel_rfl) (by kernel_rfl) (by kernel_rfl) (fun _ _ _ h => h) (Or.inl ⟨by rfl, fun w' hSw => by (try dsimp only at hSw); obtain ⟨hs0, hs1, hs2, hs3, hs4⟩ := hSw; go_simp⟩) hSx ?_
            try simp only [Act.put, List.setIfInBounds_toArray]
            refine wpAnyH_take (i := 1) (v := .slice (some ⟨w3.heap.size, 0, none⟩) z z) rfl (by kernel_rfl) (by kernel_rfl) (by kernel_rfl) (fun _ _ _ h => h) (Or.inl ⟨by rfl, fun w' hSw => by (try dsimp only at hSw); obtain ⟨hs0, hs1, hs2, hs3, hs4⟩ := hSw; go_simp⟩) hSx ?_
            try simp only [Act.put]
            refine wpAnyH_take (i := 2) (v := .slice (some ⟨a, off, none⟩) n cap) rfl (by kernel_rfl) (by kernel_rfl) (by kernel_rfl) (fun _ _ _ h => h) (Or.inl ⟨by rfl, fun w' hSw => by (try dsimp only at hSw); obtain ⟨hs0, hs1, hs2, hs3, hs4⟩ := hSw; go_simp⟩) hSx ?_
            try simp only [Act.put]
            refine wpAnyH_take (i := 3) (v := .int .i64 (x : Int)) rfl (by kernel_rfl) (by kernel_rfl) (by kernel_rfl) (fun _ _ _ h => h) (Or.inl ⟨by rfl, fun w' hSw => by (try dsimp only at hSw); obtain ⟨hs0, hs1, hs2, hs3, hs4⟩ := hSw; go_simp⟩) hSx ?_
            try simp only [Act.put]
            refine wpAnyH_take (i := 4) (v := .pointer (some ⟨a, off + x, none⟩)) rfl (by kernel_rfl) (by kernel_rfl) (by kernel_rfl) (fun _ _ _ h => h) (Or.inl ⟨by rfl, fun w' hSw => by (try dsimp only at hSw); obtain ⟨hs0, hs1, hs2, hs3, hs4⟩ := hSw; go_simp⟩) hSx ?_
            try simp only [Act.put]
            refine wpAnyH_take (i := 5) (v := .int .i64 (α : Int)) rfl (by kernel_rfl) (by kernel_rfl) (by kernel_rfl) (fun _ _ _ h => h) (Or.inl ⟨by rfl, fun w' hSw => by (try dsimp only at hSw); obtain ⟨hs0, hs1, hs2, hs3, hs4⟩ := hSw; go_simp⟩) hSx ?_
            try simp only [Act.put]
            refine wpAnyH_take (i := 6) (v := .pointer (some ⟨w.heap.size, 0, none⟩)) rfl (by kernel_rfl) (by kernel_rfl) (by kernel_rfl) (fun _ _ _ h => h) (Or.inl ⟨by rfl, fun w' hSw => by (try dsimp only at hSw); obtain ⟨hs0, hs1, hs2, hs3, hs4⟩ := hSw; go_simp⟩) hSx ?_
            try simp only [Act.put]
            refine wpAnyH_take (i := 7) (v := .int .i64 (n : Int)) rfl (by kernel_rfl) (by kernel_rfl) (by kernel_rfl) (fun _ _ _ h => h) (Or.inl ⟨by rfl, fun w' hSw => by (try dsimp only at hSw); obtain ⟨hs0, hs1, hs2, hs3, hs4⟩ := hSw; go_simp⟩) hSx ?_
            try simp only [Act.put]
            refine wpAnyH_take (i := 8) (v := .int .i64 (q : Int)) rfl (by kernel_rfl) (by kernel_rfl) (by kernel_rfl) (fun _ _ _ h => h) (Or.inl ⟨by rfl, fun w' hSw => by (try dsimp only at hSw); obtain ⟨hs0, hs1, hs2, hs3, hs4⟩ := hSw; go_simp⟩) hSx ?_
            try simp only [Act.put]
            refine wpAnyH_take (i := 9) (v := .slice (some ⟨a, off, none⟩) n cap) rfl (by kernel_rfl) (by kernel_rfl) (by kernel_rfl) (fun _ _ _ h => h) (Or.inl ⟨by rfl, fun w' hSw => by (try dsimp only at hSw); obtain ⟨hs0, hs1, hs2, hs3, hs4⟩ := hSw; go_simp⟩) hSx ?_
            try simp only [Act.put]
            refine wpAnyH_take (i := 10) (v := .int .i64 (y : Int)) rfl (by kernel_rfl) (by kernel_rfl) (by kernel_rfl) (fun _ _ _ h => h) (Or.inl ⟨by rfl, fun w' hSw => by (try dsimp only at hSw); obtain ⟨hs0, hs1, hs2, hs3, hs4⟩ := hSw; go_simp⟩) hSx ?_
            try simp only [Act.put]
            refine wpAnyH_take (i := 11) (v := .pointer (some ⟨a, off + y, none⟩)) rfl (by kernel_rfl) (by kernel_rfl) (by kernel_rfl) (fun _ _ _ h => h) (Or.inl ⟨by rfl, fun w' hSw => by (try dsimp only at hSw); obtain ⟨hs0, hs1, hs2, hs3, hs4⟩ := hSw; go_simp⟩) hSx ?_
            try simp only [Act.put]
            refine wpAnyH_take (i := 12) (v := .int .i64 (β : Int)) rfl (by kernel_rfl) (by kernel_rfl) (by kernel_rfl) (fun _ _ _ h => h) (Or.inl ⟨by rfl, fun w' hSw => by (try dsimp only at hSw); obtain ⟨hs0, hs1, hs2, hs3, hs4⟩ := hSw; go_simp⟩) hSx ?_
            try simp only [Act.put]
            refine wpAnyH_take (i := 13) (v := .int .i64 (k : Int)) rfl (by kernel_rfl) (by kernel_rfl) (by kernel_rfl) (fun _ _ _ h => h) (Or.inl ⟨by rfl, fun w' hSw => by (try dsimp only at hSw); obtain ⟨hs0, hs1, hs2, hs3, hs4⟩ := hSw; go_simp⟩) hSx ?_
            try simp only [Act.put]
            refine wpAnyH_take (i := 14) (v := .slice (some ⟨a, off, none⟩) n cap) rfl (by kernel_rfl) (by kernel_rfl) (by kernel_rfl) (fun _ _ _ h => h) (Or.inl ⟨by rfl, fun w' hSw => by (try dsimp only at hSw); obtain ⟨hs0, hs1, hs2, hs3, hs4⟩ := hSw; go_simp⟩) hSx ?_
            try simp only [Act.put]
            refine wpAnyH_take (i := 15) (v := .int .i64 (v : Int)) rfl (by kernel_rfl) (by kernel_rfl) (by kernel_rfl) (fun _ _ _ h => h) (Or.inl ⟨by rfl, fun w' hSw => by (try dsimp only at hSw); obtain ⟨hs0, hs1, hs2, hs3, hs4⟩ := hSw; go_simp⟩) hSx ?_
            try simp only [Act.put]
            refine wpAnyH_take (i := 16) (v := .pointer (some ⟨a, off + v, none⟩)) rfl (by kernel_rfl) (by kernel_rfl) (by kernel_rfl) (fun _ _ _ h => h) (Or.inl ⟨by rfl, fun w' hSw => by (try dsimp only at hSw); obtain ⟨hs0, hs1, hs2, hs3, hs4⟩ := hSw; go_simp⟩) hSx ?_
            try simp only [Act.put]
            refine wpAnyH_take (i := 17) (v := .int .i64 (δ : Int)) rfl (by kernel_rfl) (by kernel_rfl) (by kernel_rfl) (fun _ _ _ h => h) (Or.inl ⟨by rfl, fun w' hSw => by (try dsimp only at hSw); obtain ⟨hs0, hs1, hs2, hs3, hs4⟩ := hSw; go_simp⟩) hSx ?_
            try simp only [Act.put]
            refine wpAnyH_take (i := 18) (v := .pointer (some ⟨w3.heap.size, k, none⟩)) rfl (by kernel_rfl) (by kernel_rfl) (by kernel_rfl) (fun _ _ _ h => h) (Or.inl ⟨by rfl, fun w' hSw => by (try dsimp only at hSw); obtain ⟨hs0, hs1, hs2, hs3, hs4⟩ := hSw; go_simp⟩) hSx ?_
            try simp only [Act.put]
            refine wpAnyH_ready (rs := [19]) (by kernel_rfl) (by simp) ?_
            refine AllReadyH.cons rfl (fun J hJ => ?_) AllReadyH.nil
            go_simp
            have hR5 := (hRc.drew).set k (δ : Int)
            refine hJ.out _ _ (HSX.out _ _ hR5) (fun hSx => ?_)
            clear hJ J
            try simp only [Act.put, List.setIfInBounds_toArray, List.set_cons_zero, List.set_cons_succ]
            refine wpAnyH_done (by kernel_rfl) ?_ _
            refine NoPanic.normal ?_
            go_simp
            clear hf hc hSx
            go_wp2
            go_roundw
            case rel => exact ⟨y + 1, _, by go_num, by omega, HF2, hR5⟩
            case measure => simp [intOf]; omega
          · have hdy : decide ((y : Int) < (n : Int)) = false := by simp; omega
            obtain rfl : y = n := by omega
            go_wp2
            go_roundw
            case rel => exact ⟨x + 1, h, by go_num, by omega, HFI.out.next, hR⟩
            case measure => simp [intOf]; omega
      · have hdx : decide ((x : Int) < (n : Int)) = false := by simp; omega
        obtain rfl : x = n := by omega
        obtain ⟨GT, ⟨k1, e1, l1, r1⟩, ⟨k2, e2, l2, r2⟩⟩ := fil_all HPM.out HG.out HFI.out
        rw [← HZ.out] at GT e1 r1 e2 r2
        have SU : Hid (∀ W, Below wr.heap.size wr W → Sl W (.slice ua z uc) L) := fun W b => HU.out.below (Below.next hR.lo b)
        have ST : Hid (∀ W, Below wr.heap.size wr W → Sl W (.slice (some ⟨w3.heap.size, 0, none⟩) z z) (lsN z h)) := fun W b => (hR.below b).own.sl z
        have HCE : Hid (∀ W, Below wr.heap.size wr W → W.cell? ⟨w.heap.size, 0, none⟩ = some (.int .i64 (x : Int)) ∧ W.cell? ⟨w.heap.size, 1, none⟩ = some (.slice ua z uc) ∧ W.cell? ⟨(w3.heap.size + 1), 0, none⟩ = some (.int .i64 (x : Int)) ∧ W.cell? ⟨(w3.heap.size + 1), 1, none⟩ = some (.slice (some ⟨w3.heap.size, 0, none⟩) z z)) := fun W b => (hR.below b).cells
        have E1 := fun W (b : Below wr.heap.size wr W) => al_found x k1 L (lsN z h) _ _ W h6 (SU.out W b) (ST.out W b) HG.out GT e1
        have E2 := fun W (b : Below wr.heap.size wr W) => al_found x k2 (lsN z h) L _ _ W h6 (ST.out W b) (SU.out W b) GT HG.out e2
        have E3 := fun W v (b : Below wr.heap.size wr W) (hv : Sl W v (pl x (un x k1))) => Renames_any x (un x k1) L (lsN z h) _ _ v W true (SU.out W b) (ST.out W b) hv HG.out GT (un_pm l1).lt r1
        have E4 := fun W v (b : Below wr.heap.size wr W) (hv : Sl W v (pl x (un x k2))) => Renames_any x (un x k2) (lsN z h) L _ _ v W true (ST.out W b) (SU.out W b) hv GT HG.out (un_pm l2).lt r2
        have r0 : Below wr.heap.size wr wr := Below.refl _ _
        have HLO := hR.lo
        clear GT e1 l1 r1 e2 l2 r2 SU ST HFI hR
        go_wp2_with (first
          | (go_at_call 22; refine (E1 _ r0).mono ?_; rintro e v1 ⟨⟨pa, pc, rfl, hp1⟩, b1⟩; obtain ⟨y0, y1, y2, y3⟩ := HCE.out _ b1; have HP1 : Hid (Sl v1 (.slice pa x pc) (pl x (un x k1))) := hp1; clear E1 hp1)
          | (go_at_call 22; refine (E2 _ b1).mono ?_; rintro e v2 ⟨⟨qa, qc, rfl, hp2⟩, b2⟩; have d2 := Below.next b1 b2; obtain ⟨z0, z1, z2, z3⟩ := HCE.out _ d2; have HP2 : Hid (Sl v2 (.slice qa x qc) (pl x (un x k2))) := hp2; have E3' := E3 v2 _ d2 (HP1.out.below b2); clear E2 hp2 E3)
          | (go_at_call 28; refine E3'.mono ?_; rintro e v3 ⟨rfl, b3⟩; have d3 := Below.next d2 b3; obtain ⟨s0, s1, s2, s3⟩ := HCE.out _ d3; have E4' := E4 v3 _ d3 (HP2.out.below b3); clear E3' E4)
          | (go_at_call 28; refine E4'.mono ?_; rintro e v4 ⟨rfl, b4⟩; have d4 := Below.next d3 b4; clear E4'))
        go_ret
        exact ⟨rfl, Below.next HLO d4⟩
  · go_simp
    refine hJ.out _ _ (HS.out _ (Below.next d0 (balloc w3.drew _))) (fun hSx => ?_)
    clear hJ J
    try simp only [Act.put, List.setIfInBounds_toArray, List.set_cons_zero, List.set_cons_succ]
    refine wpAnyH_ready (rs := [5]) (by kernel_rfl) (by simp) ?_
    refine AllReadyH.cons rfl (fun J hJ => ?_) AllReadyH.nil
    go_simp
    refine hJ.out _ _ (HS.out _ (Below.next d0 (two_below w3.drew _ (.cells (madeCells #[.int .i64 0] z) 3)))) (fun hSx => ?_)
    clear hJ J
    try simp only [Act.put, List.setIfInBounds_toArray, List.set_cons_zero, List.set_cons_succ]
    refine wpAnyH_take (i := 6) (v := .agg #[.int .i64 (n : Int), .slice (some ⟨w3.heap.size + 1, 0, none⟩) z z]) rfl (by kernel_rfl) (by kernel_rfl) (by kernel_rfl) (fun _ _ _ h => h) (Or.inl ⟨by rfl, fun w' hSw => by (try dsimp only at hSw); obtain ⟨hs0, hs1⟩ := hSw; go_simp⟩) hSx ?_
    try simp only [Act.put, List.setIfInBounds_toArray]
    refine wpAnyH_ready (rs := [8]) (by kernel_rfl) (by simp) ?_
    refine AllReadyH.cons rfl (fun J hJ => ?_) AllReadyH.nil
    go_simp
    refine hJ.out _ _ ?_ (fun hSx => ?_)
    · exact (HSR.out _ _ _ _ (rm_second w w3 n z _ hB3 k3).drew).1
    clear hJ J
    try simp only [Act.put, List.setIfInBounds_toArray, List.set_cons_zero, List.set_cons_succ]
    refine wpAnyH_done (by kernel_rfl) ?_ _
    refine NoPanic.normal ?_
    go_simp
    have hR0 := (rm_second w w3 n z _ hB3 k3).drew
    clear hSx d0 d3 d2 b1 b2 b3 hB3 k3 y0 y1 x0 x1 HS
    go_wp2
    go_loopw [9] (fun i wr => ∃ (x : Nat) (h : Nat → Int), i = .int .i64 (x : Int) ∧ x ≤ n ∧ Hid (Fil n (sq n L) f x 0 h) ∧ RM w n w3.heap.size (w3.heap.size + 1) z (.slice ua z uc) h wr) (fun i _ => (n - intOf i).toNat)
    case atStart => exact ⟨0, _, rfl, by omega, (show Fil n (sq n L) f 0 0 _ from fun i j hi hj hs => by omega), hR0⟩
    case round =>
      clear hR0
      obtain ⟨x, h, rfl, hx, HFI, hR⟩ := hrel
      obtain ⟨x0, x1, t0, t1⟩ := hR.cells
      by_cases hlt : x < n
      · have hdx : decide ((x : Int) < (n : Int)) = true := by simp; omega
        go_wp2
        go_loopw [10] (fun j wr => ∃ (y : Nat) (h : Nat → Int), j = .int .i64 (y : Int) ∧ y ≤ n ∧ Hid (Fil n (sq n L) f x y h) ∧ RM w n w3.heap.size (w3.heap.size + 1) z (.slice ua z uc) h wr) (fun j _ => (n - intOf j).toNat)
        case atStart => exact ⟨0, h, rfl, by omega, HFI, hR⟩
        case round =>
          clear x0 x1 t0 t1 hR HFI h
          obtain ⟨y, h, rfl, hy, HFI, hR⟩ := hrel
          obtain ⟨x0, x1, t0, t1⟩ := hR.cells
          by_cases hly : y < n
          · have hdy : decide ((y : Int) < (n : Int)) = true := by simp; omega
            have C := At_any n L _ wr (HU.out.below hR.lo) HG.out x y hlt hly
            have HF2 : Hid (Fil n (sq n L) f x (y + 1) (upd h (f x * n + f y) ((f (sq n L x y) : Nat) : Int))) := HFI.out.step HPM.out hlt hly
            have hv := HG.out.lat.lt x y hlt hly
            have hax := HPM.out.lt x hlt
            have hay := HPM.out.lt y hly
            have HK := cell_lt hax hay
            rw [← HZ.out] at HK
            have P1 := HPC.out x hlt
            have P2 := HPC.out y hly
            have P3 := HPC.out (sq n L x y) hv
            generalize sq n L x y = v at *
            generalize f x = α at *
            generalize f y = β at *
            generalize f v = δ at *
            obtain ⟨q, Hq⟩ : ∃ q, Hid (q = α * n) := ⟨_, (rfl : α * n = α * n)⟩
            obtain ⟨k, Hk⟩ : ∃ k, Hid (k = q + β) := ⟨_, (rfl : q + β = q + β)⟩
            rw [← Hq.out, ← Hk.out] at HF2 HK
            have hmul : (α : Int) * (n : Int) = (q : Int) := by rw [Hq.out]; simp
            have hadd : (q : Int) + (β : Int) = (k : Int) := by rw [Hk.out]; simp
            have hk99 : k ≤ 99 := by omega
            have hwk : IntKind.i64.wrap (k : Int) = (k : Int) := by rw [IntKind.wrap_i64]; omega
            have hq99 : q ≤ 99 := by have := Hk.out; omega
            have hwq : IntKind.i64.wrap (q : Int) = (q : Int) := by rw [IntKind.wrap_i64]; omega
            have hki : (k : Int) < (z : Int) := by omega
            have hxi : (x : Int) < (n : Int) := by omega
            have hyi : (y : Int) < (n : Int) := by omega
            have hvi : (v : Int) < (n : Int) := by omega
            have HSX : Hid (∀ h' w', RM w n w3.heap.size (w3.heap.size + 1) z (.slice ua z uc) h' w' → w'.cell? ⟨w3.heap.size, 1, none⟩ = some (.slice (some ⟨(w3.heap.size + 1), 0, none⟩) z z) ∧ w'.cell? ⟨a, off + x, none⟩ = some (.int .i64 (α : Int)) ∧ w'.cell? ⟨w.heap.size, 0, none⟩ = some (.int .i64 (n : Int)) ∧ w'.cell? ⟨a, off + y, none⟩ = some (.int .i64 (β : Int)) ∧ w'.cell? ⟨a, off + v, none⟩ = some (.int .i64 (δ : Int))) := fun h' w' r => ⟨r.cells.2.2.2, P1 _ r.lo, r.cells.1, P2 _ r.lo, P3 _ r.lo⟩
            clear P1 P2 P3 HFI
            go_wp2_with (go_at_call 21; refine C.mono ?_; rintro e wc ⟨rfl, c1⟩; have hRc := hR.below c1; clear C)
            have hf := hRc.own.frozen k
            have hc := hRc.own.cell k HK
            refine wp_region_noPanic ?_
            refine wp_region_held_drew (S := fun w' => w'.cell? ⟨w3.heap.size, 1, none⟩ = some (.slice (some ⟨(w3.heap.size + 1), 0, none⟩) z z) ∧ w'.cell? ⟨a, off + x, none⟩ = some (.int .i64 (α : Int)) ∧ w'.cell? ⟨w.heap.size, 0, none⟩ = some (.int .i64 (n : Int)) ∧ w'.cell? ⟨a, off + y, none⟩ = some (.int .i64 (β : Int)) ∧ w'.cell? ⟨a, off + v, none⟩ = some (.int .i64 (δ : Int))) (by kernel_rfl) (HSX.out _ _ hRc.drew) (fun hSx => ?_)
            refine wpAnyH_take (i := 0) (v := .pointer (some ⟨w3.heap.size, 1, none⟩)) rfl (by kernel_rfl) (by kernel_rfl) (by kernel_rfl) (fun _ _ _ h => h) (Or.inl ⟨by rfl, fun w' hSw => by (try dsimp only at hSw); obtain ⟨hs0, hs1, hs2, hs3, hs4⟩ := hSw; go_simp⟩) hSx ?_
            try simp only [Act.put, List.setIfInBounds_toArray]
            refine wpAnyH_take (i := 1) (v := .slice (some ⟨(w3.heap.size + 1), 0, none⟩) z z) rfl (by kernel_rfl) (by kernel_rfl) (by kernel_rfl) (fun _ _ _ h => h) (Or.inl ⟨by rfl, fun w' hSw => by (try dsimp only at hSw); obtain ⟨hs0, hs1, hs2, hs3, hs4⟩ := hSw; go_simp⟩) hSx ?_
            try simp only [Act.put]
            refine wpAnyH_take (i := 2) (v := .slice (some ⟨a, off, none⟩) n cap) rfl (by kernel_rfl) (by kernel_rfl) (by kernel_rfl) (fun _ _ _ h => h) (Or.inl ⟨by rfl, fun w' hSw => by (try dsimp only at hSw); obtain ⟨hs0, hs1, hs2, hs3, hs4⟩ := hSw; go_simp⟩) hSx ?_
            try simp only [Act.put]
            refine wpAnyH_take (i := 3) (v := .int .i64 (x : Int)) rfl (by kernel_rfl) (by kernel_rfl) (by kernel_rfl) (fun _ _ _ h => h) (Or.inl ⟨by rfl, fun w' hSw => by (try dsimp only at hSw); obtain ⟨hs0, hs1, hs2, hs3, hs4⟩ := hSw; go_simp⟩) hSx ?_
            try simp only [Act.put]
            refine wpAnyH_take (i := 4) (v := .pointer (some ⟨a, off + x, none⟩)) rfl (by kernel_rfl) (by kernel_rfl) (by kernel_rfl) (fun _ _ _ h => h) (Or.inl ⟨by rfl, fun w' hSw => by (try dsimp only at hSw); obtain ⟨hs0, hs1, hs2, hs3, hs4⟩ := hSw; go_simp⟩) hSx ?_
            try simp only [Act.put]
            refine wpAnyH_take (i := 5) (v := .int .i64 (α : Int)) rfl (by kernel_rfl) (by kernel_rfl) (by kernel_rfl) (fun _ _ _ h => h) (Or.inl ⟨by rfl, fun w' hSw => by (try dsimp only at hSw); obtain ⟨hs0, hs1, hs2, hs3, hs4⟩ := hSw; go_simp⟩) hSx ?_
            try simp only [Act.put]
            refine wpAnyH_take (i := 6) (v := .pointer (some ⟨w.heap.size, 0, none⟩)) rfl (by kernel_rfl) (by kernel_rfl) (by kernel_rfl) (fun _ _ _ h => h) (Or.inl ⟨by rfl, fun w' hSw => by (try dsimp only at hSw); obtain ⟨hs0, hs1, hs2, hs3, hs4⟩ := hSw; go_simp⟩) hSx ?_
            try simp only [Act.put]
            refine wpAnyH_take (i := 7) (v := .int .i64 (n : Int)) rfl (by kernel_rfl) (by kernel_rfl) (by kernel_rfl) (fun _ _ _ h => h) (Or.inl ⟨by rfl, fun w' hSw => by (try dsimp only at hSw); obtain ⟨hs0, hs1, hs2, hs3, hs4⟩ := hSw; go_simp⟩) hSx ?_
            try simp only [Act.put]
            refine wpAnyH_take (i := 8) (v := .int .i64 (q : Int)) rfl (by kernel_rfl) (by kernel_rfl) (by kernel_rfl) (fun _ _ _ h => h) (Or.inl ⟨by rfl, fun w' hSw => by (try dsimp only at hSw); obtain ⟨hs0, hs1, hs2, hs3, hs4⟩ := hSw; go_simp⟩) hSx ?_
            try simp only [Act.put]
            refine wpAnyH_take (i := 9) (v := .slice (some ⟨a, off, none⟩) n cap) rfl (by kernel_rfl) (by kernel_rfl) (by kernel_rfl) (fun _ _ _ h => h) (Or.inl ⟨by rfl, fun w' hSw => by (try dsimp only at hSw); obtain ⟨hs0, hs1, hs2, hs3, hs4⟩ := hSw; go_simp⟩) hSx ?_
            try simp only [Act.put]
            refine wpAnyH_take (i := 10) (v := .int .i64 (y : Int)) rfl (by kernel_rfl) (by kernel_rfl) (by kernel_rfl) (fun _ _ _ h => h) (Or.inl ⟨by rfl, fun w' hSw => by (try dsimp only at hSw); obtain ⟨hs0, hs1, hs2, hs3, hs4⟩ := hSw; go_simp⟩) hSx ?_
            try simp only [Act.put]
            refine wpAnyH_take (i := 11) (v := .pointer (some ⟨a, off + y, none⟩)) rfl (by kernel_rfl) (by kernel_rfl) (by kernel_rfl) (fun _ _ _ h => h) (Or.inl ⟨by rfl, fun w' hSw => by (try dsimp only at hSw); obtain ⟨hs0, hs1, hs2, hs3, hs4⟩ := hSw; go_simp⟩) hSx ?_
            try simp only [Act.put]
            refine wpAnyH_take (i := 12) (v := .int .i64 (β : Int)) rfl (by kernel_rfl) (by kernel_rfl) (by kernel_rfl) (fun _ _ _ h => h) (Or.inl ⟨by rfl, fun w' hSw => by (try dsimp only at hSw); obtain ⟨hs0, hs1, hs2, hs3, hs4⟩ := hSw; go_simp⟩) hSx ?_
            try simp only [Act.put]
            refine wpAnyH_take (i := 13) (v := .int .i64 (k : Int)) rfl (by kernel_rfl) (by kernel_rfl) (by kernel_rfl) (fun _ _ _ h => h) (Or.inl ⟨by rfl, fun w' hSw => by (try dsimp only at hSw); obtain ⟨hs0, hs1, hs2, hs3, hs4⟩ := hSw; go_simp⟩) hSx ?_
            try simp only [Act.put]
            refine wpAnyH_take (i := 14) (v := .slice (some ⟨a, off, none⟩) n cap) rfl (by kernel_rfl) (by kernel_rfl) (by kernel_rfl) (fun _ _ _ h => h) (Or.inl ⟨by rfl, fun w' hSw => by (try dsimp only at hSw); obtain ⟨hs0, hs1, hs2, hs3, hs4⟩ := hSw; go_simp⟩) hSx ?_
            try simp only [Act.put]
            refine wpAnyH_take (i := 15) (v := .int .i64 (v : Int)) rfl (by kernel_rfl) (by kernel_rfl) (by kernel_rfl) (fun _ _ _ h => h) (Or.inl ⟨by rfl, fun w' hSw => by (try dsimp only at hSw); obtain ⟨hs0, hs1, hs2, hs3, hs4⟩ := hSw; go_simp⟩) hSx ?_
            try simp only [Act.put]
            refine wpAnyH_take (i := 16) (v := .pointer (some ⟨a, off + v, none⟩)) rfl (by kernel_rfl) (by kernel_rfl) (by kernel_rfl) (fun _ _ _ h => h) (Or.inl ⟨by rfl, fun w' hSw => by (try dsimp only at hSw); obtain ⟨hs0, hs1, hs2, hs3, hs4⟩ := hSw; go_simp⟩) hSx ?_
            try simp only [Act.put]
            refine wpAnyH_take (i := 17) (v := .int .i64 (δ : Int)) rfl (by kernel_rfl) (by kernel_rfl) (by kernel_rfl) (fun _ _ _ h => h) (Or.inl ⟨by rfl, fun w' hSw => by (try dsimp only at hSw); obtain ⟨hs0, hs1, hs2, hs3, hs4⟩ := hSw; go_simp⟩) hSx ?_
            try simp only [Act.put]
            refine wpAnyH_take (i := 18) (v := .pointer (some ⟨(w3.heap.size + 1), k, none⟩)) rfl (by kernel_rfl) (by kernel_rfl) (by kernel_rfl) (fun _ _ _ h => h) (Or.inl ⟨by rfl, fun w' hSw => by (try dsimp only at hSw); obtain ⟨hs0, hs1, hs2, hs3, hs4⟩ := hSw; go_simp⟩) hSx ?_
            try simp only [Act.put]
            refine wpAnyH_ready (rs := [19]) (by kernel_rfl) (by simp) ?_
            refine AllReadyH.cons rfl (fun J hJ => ?_) AllReadyH.nil
            go_simp
            have hR5 := (hRc.drew).set k (δ : Int)
            refine hJ.out _ _ (HSX.out _ _ hR5) (fun hSx => ?_)
            clear hJ J
            try simp only [Act.put, List.setIfInBounds_toArray, List.set_cons_zero, List.set_cons_succ]
            refine wpAnyH_done (by kernel_rfl) ?_ _
            refine NoPanic.normal ?_
            go_simp
            clear hf hc hSx
            go_wp2
            go_roundw
            case rel => exact ⟨y + 1, _, by go_num, by omega, HF2, hR5⟩
            case measure => simp [intOf]; omega
          · have hdy : decide ((y : Int) < (n : Int)) = false := by simp; omega
            obtain rfl : y = n := by omega
            go_wp2
            go_roundw
            case rel => exact ⟨x + 1, h, by go_num, by omega, HFI.out.next, hR⟩
            case measure => simp [intOf]; omega
      · have hdx : decide ((x : Int) < (n : Int)) = false := by simp; omega
        obtain rfl : x = n := by omega
        obtain ⟨GT, ⟨k1, e1, l1, r1⟩, ⟨k2, e2, l2, r2⟩⟩ := fil_all HPM.out HG.out HFI.out
        rw [← HZ.out] at GT e1 r1 e2 r2
        have SU : Hid (∀ W, Below wr.heap.size wr W → Sl W (.slice ua z uc) L) := fun W b => HU.out.below (Below.next hR.lo b)
        have ST : Hid (∀ W, Below wr.heap.size wr W → Sl W (.slice (some ⟨(w3.heap.size + 1), 0, none⟩) z z) (lsN z h)) := fun W b => (hR.below b).own.sl z
        have HCE : Hid (∀ W, Below wr.heap.size wr W → W.cell? ⟨w.heap.size, 0, none⟩ = some (.int .i64 (x : Int)) ∧ W.cell? ⟨w.heap.size, 1, none⟩ = some (.slice ua z uc) ∧ W.cell? ⟨w3.heap.size, 0, none⟩ = some (.int .i64 (x : Int)) ∧ W.cell? ⟨w3.heap.size, 1, none⟩ = some (.slice (some ⟨(w3.heap.size + 1), 0, none⟩) z z)) := fun W b => (hR.below b).cells
        have E1 := fun W (b : Below wr.heap.size wr W) => al_found x k1 L (lsN z h) _ _ W h6 (SU.out W b) (ST.out W b) HG.out GT e1
        have E2 := fun W (b : Below wr.heap.size wr W) => al_found x k2 (lsN z h) L _ _ W h6 (ST.out W b) (SU.out W b) GT HG.out e2
        have E3 := fun W v (b : Below wr.heap.size wr W) (hv : Sl W v (pl x (un x k1))) => Renames_any x (un x k1) L (lsN z h) _ _ v W true (SU.out W b) (ST.out W b) hv HG.out GT (un_pm l1).lt r1
        have E4 := fun W v (b : Below wr.heap.size wr W) (hv : Sl W v (pl x (un x k2))) => Renames_any x (un x k2) (lsN z h) L _ _ v W true (ST.out W b) (SU.out W b) hv GT HG.out (un_pm l2).lt r2
        have r0 : Below wr.heap.size wr wr := Below.refl _ _
        have HLO := hR.lo
        clear GT e1 l1 r1 e2 l2 r2 SU ST HFI hR
        go_wp2_with (first
          | (go_at_call 22; refine (E1 _ r0).mono ?_; rintro e v1 ⟨⟨pa, pc, rfl, hp1⟩, b1⟩; obtain ⟨y0, y1, y2, y3⟩ := HCE.out _ b1; have HP1 : Hid (Sl v1 (.slice pa x pc) (pl x (un x k1))) := hp1; clear E1 hp1)
          | (go_at_call 22; refine (E2 _ b1).mono ?_; rintro e v2 ⟨⟨qa, qc, rfl, hp2⟩, b2⟩; have d2 := Below.next b1 b2; obtain ⟨z0, z1, z2, z3⟩ := HCE.out _ d2; have HP2 : Hid (Sl v2 (.slice qa x qc) (pl x (un x k2))) := hp2; have E3' := E3 v2 _ d2 (HP1.out.below b2); clear E2 hp2 E3)
          | (go_at_call 28; refine E3'.mono ?_; rintro e v3 ⟨rfl, b3⟩; have d3 := Below.next d2 b3; obtain ⟨s0, s1, s2, s3⟩ := HCE.out _ d3; have E4' := E4 v3 _ d3 (HP2.out.below b3); clear E3' E4)
          | (go_at_call 28; refine E4'.mono ?_; rintro e v4 ⟨rfl, b4⟩; have d4 := Below.next d3 b4; clear E4'))
        go_ret
        exact ⟨rfl, Below.next HLO d4⟩
end Go.Proofs.Ytncnaaohihmjnaa
