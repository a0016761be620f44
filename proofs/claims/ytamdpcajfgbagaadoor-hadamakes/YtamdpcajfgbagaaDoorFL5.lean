/- The law FieldSums, walked: sums and products of any two are the document's, errors and all. -/
import Derived.Test.YtamdpcajfgbagaaDoorW44
import Derived.Test.YtamdpcajfgbagaaDoorPureF
import Derived.Deep.DeepCutAuto
import Derived.Test.YtamdpcajfgbagaaDoorW46
import Derived.Test.YtamdpcajfgbagaaDoorW34
import Derived.Deep.QuietTactic
import Derived.BigQuiet
/- The walks of Add and Mul. -/
/- The walk of mul. -/
namespace Go.Proofs.YtamdpcajfgbagaaDoor.Fd
open Go.RowKit

def rowL (f : Nat → Int) : List Value := (List.range 11).map fun j => Value.int .i64 (f j)
theorem rowL_length (f : Nat → Int) : (rowL f).length = 11 := by simp [rowL]
theorem rowL_one (f : Nat → Int) : ∀ v ∈ rowL f, v.oneCell' = true := by
  intro v hv
  simp only [rowL, List.mem_map] at hv
  obtain ⟨j, _, rfl⟩ := hv
  rfl
set_option maxRecDepth 100000 in
theorem rowL_size (f : Nat → Int) : (Tryd.prog.info? 61).map (·.size) = some (rowL f).length := by rw [rowL_length]; kernel_rfl
theorem rangeAt_below {W W1 : World} {g o : Nat} {cs : List Value} (h : W.rangeAt g o cs) (hb : Below W.heap.size W W1) : W1.rangeAt g o cs :=
  fun j v hv => (hb.cell (p := ⟨g, o + j, none⟩) (block_lt_of_cell (h j v hv))).trans (h j v hv)
theorem there_below {W W1 : World} {g o n : Nat} (h : W.there g o n) (hb : Below W.heap.size W W1) : W1.there g o n := fun j hj => by
  obtain ⟨h1, h2⟩ := h j hj
  obtain ⟨v, hv⟩ := Option.isSome_iff_exists.1 h1
  have hl := block_lt_of_cell hv
  exact ⟨by rw [hb.cell (p := ⟨g, o + j, none⟩) hl]; exact h1, by rw [hb.frozen (p := ⟨g, o + j, none⟩) hl]; exact h2⟩
theorem bsetCells {B : Nat} {w0 : World} (g : Nat) (hg : B ≤ g) : ∀ (vs : List Value) (o : Nat) (w : World), Below B w0 w → Below B w0 (w.setCells g o vs)
  | [], _, _, h => h
  | v :: r, o, _, h => bsetCells g hg r (o + 1) _ (h.setCell hg v)
theorem RS.below {w W W1 : World} {P K : Int} {M : List Value} (h : W.cell? ⟨w.heap.size, 0, none⟩ = some (.int .i64 P) ∧ W.cell? ⟨w.heap.size, 1, none⟩ = some (.int .i64 K) ∧ W.rangeAt w.heap.size 3 M ∧ Below w.heap.size w W) (hb : Below W.heap.size W W1) : W1.cell? ⟨w.heap.size, 0, none⟩ = some (.int .i64 P) ∧ W1.cell? ⟨w.heap.size, 1, none⟩ = some (.int .i64 K) ∧ W1.rangeAt w.heap.size 3 M ∧ Below w.heap.size w W1 :=
  ⟨(hb.cell (p := ⟨w.heap.size, 0, none⟩) (block_lt_of_cell h.1)).trans h.1, (hb.cell (p := ⟨w.heap.size, 1, none⟩) (block_lt_of_cell h.2.1)).trans h.2.1, rangeAt_below h.2.2.1 hb, h.2.2.2.trans (hb.mono h.2.2.2.size)⟩
theorem RS.stored {w W : World} {P K : Int} {M : List Value} {g n : Nat} {vs : List Value} (h : W.cell? ⟨w.heap.size, 0, none⟩ = some (.int .i64 P) ∧ W.cell? ⟨w.heap.size, 1, none⟩ = some (.int .i64 K) ∧ W.rangeAt w.heap.size 3 M ∧ Below w.heap.size w W) (hg : w.heap.size < g ∧ W.there g 0 n) :
    (W.setCells g 0 vs).cell? ⟨w.heap.size, 0, none⟩ = some (.int .i64 P) ∧ (W.setCells g 0 vs).cell? ⟨w.heap.size, 1, none⟩ = some (.int .i64 K) ∧ (W.setCells g 0 vs).rangeAt w.heap.size 3 M ∧ Below w.heap.size w (W.setCells g 0 vs) := by
  have hne : w.heap.size ≠ g := by omega
  exact ⟨(World.cell?_setCells_out g vs 0 W _ (fun e _ => absurd e hne)).trans h.1, (World.cell?_setCells_out g vs 0 W _ (fun e _ => absurd e hne)).trans h.2.1, World.rangeAt_setCells_apart h.2.2.1 g 0 vs (.inl hne), bsetCells g (by omega) vs 0 W h.2.2.2⟩
theorem madeThere {w W : World} {P K : Int} {M : List Value} (h : W.cell? ⟨w.heap.size, 0, none⟩ = some (.int .i64 P) ∧ W.cell? ⟨w.heap.size, 1, none⟩ = some (.int .i64 K) ∧ W.rangeAt w.heap.size 3 M ∧ Below w.heap.size w W) : w.heap.size < W.heap.size ∧ (W.alloc (.cells #[.int .i64 0, .int .i64 0, .int .i64 0, .int .i64 0, .int .i64 0, .int .i64 0, .int .i64 0, .int .i64 0, .int .i64 0, .int .i64 0, .int .i64 0] 61)).there W.heap.size 0 11 := by
  refine ⟨by simpa using block_lt_of_cell h.1, fun j hj => ?_⟩
  have hr := Row.made0 W
  rw [Nat.zero_add]
  exact ⟨by rw [hr.cell j hj]; rfl, hr.frozen j⟩
theorem RS2 {w W W1 : World} {P K : Int} {L M : List Value} {g : Nat} (h : W.rangeAt g 0 L ∧ W.cell? ⟨w.heap.size, 0, none⟩ = some (.int .i64 P) ∧ W.cell? ⟨w.heap.size, 1, none⟩ = some (.int .i64 K) ∧ W.rangeAt w.heap.size 3 M ∧ Below w.heap.size w W) (hb : Below W.heap.size W W1) : W1.rangeAt g 0 L ∧ W1.cell? ⟨w.heap.size, 0, none⟩ = some (.int .i64 P) ∧ W1.cell? ⟨w.heap.size, 1, none⟩ = some (.int .i64 K) ∧ W1.rangeAt w.heap.size 3 M ∧ Below w.heap.size w W1 :=
  ⟨rangeAt_below h.1 hb, RS.below h.2 hb⟩
theorem rangeOf {w W : World} {g : Nat} {L : List Value} (hl : L.length = 11) (h : w.heap.size < g ∧ W.there g 0 11) : (W.setCells g 0 L).rangeAt g 0 L := World.rangeAt_setCells_same W g 0 L (by rw [hl]; exact h.2)
theorem thereB {w W W1 : World} {g n : Nat} (h : w.heap.size < g ∧ W.there g 0 n) (hb : Below W.heap.size W W1) : w.heap.size < g ∧ W1.there g 0 n := ⟨h.1, there_below h.2 hb⟩
theorem times_L (f g : Nat → Int) (p : Nat) (L : List Value) (hL : Hid (L = rowL (mulN f g p 6 6))) (w : World) (hp : 2 ≤ p) (hp' : p ≤ 64) (hf : inP p f) (hg : inP p g) :
    Calls Tryd.prog 47 #[.agg (prow f), .agg (prow g), .int .i64 p] w fun e w' => e = .returned (.agg L.toArray) ∧ Below w.heap.size w w' := by
  rw [hL.out]; exact times_any f g p w hp hp' hf hg
theorem modulo_L (f m : Nat → Int) (d p : Nat) (L M : List Value) (hL : Hid (L = rowL f)) (hM : Hid (M = rowL m)) (w : World) (hp : 2 ≤ p) (hp' : p ≤ 64) (hd : 1 ≤ d) (hd6 : d ≤ 6) (hf : inP p f) (hm : inP p m) :
    Calls Tryd.prog 43 #[.agg L.toArray, .agg M.toArray, .int .i64 d, .int .i64 p] w fun e w' => e = .returned (.agg (prow (redN m d p (11 - d) f))) ∧ Below w.heap.size w w' := by
  rw [hL.out, hM.out]; exact modulo_any f m d p w hp hp' hd hd6 hf hm

set_option linter.unusedSimpArgs false in
set_option maxRecDepth 100000 in
set_option maxHeartbeats 2000000 in
theorem mul_any (P K a b : Nat) (Q : Int) (f : Nat → Int) (w : World) (hP : 2 ≤ P) (hP' : P ≤ 64) (hK : 1 ≤ K) (hK' : K ≤ 6) (hPK : P ^ K ≤ 64) (ha : a < P ^ K) (hb : b < P ^ K) (hf : inP P f) (hfK : Hid (f K = 1)) :
    Calls Tryd.prog 46 #[.agg (ringRow P K Q f), .int .i64 a, .int .i64 b] w fun e w' => e = .returned (.int .i64 (hor (redN f K P (11 - K) (mulN (digF a P) (digF b P) P 6 6)) P K K)) ∧ Below w.heap.size w w' := by
  obtain ⟨L, HL⟩ : ∃ L, Hid (L = rowL (mulN (digF a P) (digF b P) P 6 6)) := ⟨_, rfl⟩
  obtain ⟨M, HM⟩ : ∃ M, Hid (M = rowL f) := ⟨_, rfl⟩
  have hRB := RB.made w P K Q f
  have hSt : ((w.alloc (.cells (ringRow P K Q f) 66)).drew).cell? ⟨w.heap.size, 0, none⟩ = some (.int .i64 P) ∧ ((w.alloc (.cells (ringRow P K Q f) 66)).drew).cell? ⟨w.heap.size, 1, none⟩ = some (.int .i64 K) ∧ ((w.alloc (.cells (ringRow P K Q f) 66)).drew).rangeAt w.heap.size 3 M ∧ Below w.heap.size w ((w.alloc (.cells (ringRow P K Q f) 66)).drew) := by
    rw [HM.out]
    refine ⟨(cell_of_row (w.alloc (.cells (ringRow P K Q f) 66)) w.heap.size 0 _ _ _ hRB), (cell_of_row (w.alloc (.cells (ringRow P K Q f) 66)) w.heap.size 1 _ _ _ hRB), fun j v hv => ?_, ((Below.refl _ _).alloc (Nat.le_refl _) _).drew⟩
    have h := cell_of_row (w.alloc (.cells (ringRow P K Q f) 66)) w.heap.size (3 + j) _ _ _ hRB
    have hj : j < 11 := by
      have := (List.getElem?_eq_some_iff.1 hv).1
      rwa [rowL_length] at this
    have e : (ringRow P K Q f)[3 + j]? = (rowL f)[j]? := by
      have : j = 0 ∨ j = 1 ∨ j = 2 ∨ j = 3 ∨ j = 4 ∨ j = 5 ∨ j = 6 ∨ j = 7 ∨ j = 8 ∨ j = 9 ∨ j = 10 := by omega
      rcases this with rfl | rfl | rfl | rfl | rfl | rfl | rfl | rfl | rfl | rfl | rfl <;> rfl
    exact h.trans (e.trans hv)
  have hlen : L.length = 11 := by rw [HL.out]; exact rowL_length _
  have hone : ∀ v ∈ L, v.oneCell' = true := by rw [HL.out]; exact rowL_one _
  have hsz : (Tryd.prog.info? 61).map (·.size) = some L.length := by rw [HL.out]; exact rowL_size _
  clear hRB
  go_enter Tryd.func46, Tryd.ntmps46
  go_upto_region 1 with fail
  go_cut [7] (fun s W => ∃ g, s = .pointer (some ⟨g, 0, none⟩) ∧ W.rangeAt g 0 L ∧ W.cell? ⟨w.heap.size, 0, none⟩ = some (.int .i64 P) ∧ W.cell? ⟨w.heap.size, 1, none⟩ = some (.int .i64 K) ∧ W.rangeAt w.heap.size 3 M ∧ Below w.heap.size w W)
  case first =>
    have hM0 : w.heap.size < w.heap.size + 1 ∧ (((w.alloc (.cells (ringRow P K Q f) 66)).alloc (.cells #[.int .i64 0, .int .i64 0, .int .i64 0, .int .i64 0, .int .i64 0, .int .i64 0, .int .i64 0, .int .i64 0, .int .i64 0, .int .i64 0, .int .i64 0] 61)).drew).there (w.heap.size + 1) 0 11 := by
      refine ⟨by omega, ?_⟩
      have h := (madeThere hSt).2
      have e : ((w.alloc (.cells (ringRow P K Q f) 66)).drew).heap.size = w.heap.size + 1 := by simp
      rw [e] at h
      exact h
    go_region_held3 (fun w' => w'.cell? ⟨w.heap.size, 0, none⟩ = some (.int .i64 P) ∧ w'.cell? ⟨w.heap.size, 1, none⟩ = some (.int .i64 K) ∧ w'.rangeAt w.heap.size 3 M ∧ Below w.heap.size w w') (first | exact RS.stored (by assumption) (by assumption) | exact RS.below (by assumption) ((Below.refl _ _).alloc (Nat.le_refl _) _) | assumption)
      (first
        | (go_at_call_of 36 (Value.int .i64 (a : Int)); refine (polyOf_any a P _ (by omega) hP hP').mono ?_; rintro e w1 ⟨rfl, hb1⟩; have hS1 := RS.below (by assumption) hb1; have hM1 := madeThere hS1; try (have ht1 := thereB (w := w) (by assumption) hb1))
        | (go_at_call_of 36 (Value.int .i64 (b : Int)); refine (polyOf_any b P _ (by omega) hP hP').mono ?_; rintro e w2 ⟨rfl, hb2⟩; have hS2 := RS.below (by assumption) hb2; have hM2 := madeThere hS2; try (have ht2 := thereB (w := w) (by assumption) hb2))
        | (go_at_call 47; refine (times_L _ _ P L HL _ hP hP' (digF_in a P (by omega)) (digF_in b P (by omega))).mono ?_; rintro e w3 ⟨rfl, hb3⟩; have hS3 := RS.below (by assumption) hb3; have hM3 := madeThere hS3; try (have ht3 := thereB (w := w) (by assumption) hb3)))
    all_goals
      go_wp2_with fail
      go_meet
      case rel =>
        refine ⟨_, rfl, rangeOf hlen (by assumption), ?_⟩
        first
          | exact RS.stored (by assumption) (by assumption)
          | exact RS.stored (RS.below (by assumption) ((Below.refl _ _).alloc (Nat.le_refl _) _)) (by assumption)
  case rest =>
    obtain ⟨g, rfl, hS⟩ := hcut
    have hS' : wc.drew.rangeAt g 0 L ∧ wc.drew.cell? ⟨w.heap.size, 0, none⟩ = some (.int .i64 P) ∧ wc.drew.cell? ⟨w.heap.size, 1, none⟩ = some (.int .i64 K) ∧ wc.drew.rangeAt w.heap.size 3 M ∧ Below w.heap.size w wc.drew := ⟨hS.1, hS.2.1, hS.2.2.1, hS.2.2.2.1, hS.2.2.2.2.drew⟩
    have hu51 := und51
    have hszM : (Tryd.prog.info? 61).map (·.size) = some M.length := by rw [HM.out]; exact rowL_size _
    have hF := mulN_in (a := digF a P) (b := digF b P) (j := 6) (show (0 : Int) < P by omega) 6
    have hR := redN_in (m := f) (d := K) (show (0 : Int) < P by omega) (11 - K) _ hF
    go_wp2_with fail
    refine wp_region_noPanic ?_
    refine wp_region_held_drew (S := fun w' => w'.rangeAt g 0 L ∧ w'.cell? ⟨w.heap.size, 0, none⟩ = some (.int .i64 P) ∧ w'.cell? ⟨w.heap.size, 1, none⟩ = some (.int .i64 K) ∧ w'.rangeAt w.heap.size 3 M ∧ Below w.heap.size w w') (by kernel_rfl) hS' (fun hSx => ?_)
    refine wpAnyH_take (i := 0) (v := .agg L.toArray) rfl (by kernel_rfl) (by kernel_rfl) (by kernel_rfl) (fun _ _ _ h => h) (yieldsIf_load_mid (by rfl) 61 _ rfl g 0 rfl L _ (fun _ h => h.1) und51 rfl hsz) hSx ?_
    try simp only [Act.put, List.setIfInBounds_toArray, List.set_cons_zero, List.set_cons_succ]
    refine wpAnyH_take (i := 1) (v := .pointer (some ⟨w.heap.size, 3, none⟩)) rfl (by kernel_rfl) (by kernel_rfl) (by kernel_rfl) (fun _ _ _ h => h) (Or.inl ⟨by rfl, fun w' hSw => by (try dsimp only at hSw); go_simp⟩) hSx ?_
    try simp only [Act.put, List.setIfInBounds_toArray, List.set_cons_zero, List.set_cons_succ]
    refine wpAnyH_take (i := 2) (v := .agg M.toArray) rfl (by kernel_rfl) (by kernel_rfl) (by kernel_rfl) (fun _ _ _ h => h) (yieldsIf_load_mid (by rfl) 61 _ rfl w.heap.size 3 rfl M _ (fun _ h => h.2.2.2.1) und51 rfl hszM) hSx ?_
    try simp only [Act.put, List.setIfInBounds_toArray, List.set_cons_zero, List.set_cons_succ]
    refine wpAnyH_take (i := 3) (v := .pointer (some ⟨w.heap.size, 1, none⟩)) rfl (by kernel_rfl) (by kernel_rfl) (by kernel_rfl) (fun _ _ _ h => h) (Or.inl ⟨by rfl, fun w' hSw => by (try dsimp only at hSw); go_simp⟩) hSx ?_
    try simp only [Act.put, List.setIfInBounds_toArray, List.set_cons_zero, List.set_cons_succ]
    refine wpAnyH_take (i := 4) (v := .int .i64 K) rfl (by kernel_rfl) (by kernel_rfl) (by kernel_rfl) (fun _ _ _ h => h) (Or.inl ⟨by rfl, fun w' hSw => by (try dsimp only at hSw); go_simp⟩) hSx ?_
    try simp only [Act.put, List.setIfInBounds_toArray, List.set_cons_zero, List.set_cons_succ]
    refine wpAnyH_take (i := 5) (v := .pointer (some ⟨w.heap.size, 0, none⟩)) rfl (by kernel_rfl) (by kernel_rfl) (by kernel_rfl) (fun _ _ _ h => h) (Or.inl ⟨by rfl, fun w' hSw => by (try dsimp only at hSw); go_simp⟩) hSx ?_
    try simp only [Act.put, List.setIfInBounds_toArray, List.set_cons_zero, List.set_cons_succ]
    refine wpAnyH_take (i := 6) (v := .int .i64 P) rfl (by kernel_rfl) (by kernel_rfl) (by kernel_rfl) (fun _ _ _ h => h) (Or.inl ⟨by rfl, fun w' hSw => by (try dsimp only at hSw); go_simp⟩) hSx ?_
    try simp only [Act.put, List.setIfInBounds_toArray, List.set_cons_zero, List.set_cons_succ]
    refine wpAnyH_take (i := 8) (v := .pointer (some ⟨w.heap.size, 0, none⟩)) rfl (by kernel_rfl) (by kernel_rfl) (by kernel_rfl) (fun _ _ _ h => h) (Or.inl ⟨by rfl, fun w' hSw => by (try dsimp only at hSw); go_simp⟩) hSx ?_
    try simp only [Act.put, List.setIfInBounds_toArray, List.set_cons_zero, List.set_cons_succ]
    refine wpAnyH_take (i := 9) (v := .int .i64 P) rfl (by kernel_rfl) (by kernel_rfl) (by kernel_rfl) (fun _ _ _ h => h) (Or.inl ⟨by rfl, fun w' hSw => by (try dsimp only at hSw); go_simp⟩) hSx ?_
    try simp only [Act.put, List.setIfInBounds_toArray, List.set_cons_zero, List.set_cons_succ]
    refine wpAnyH_ready (rs := [7]) (by kernel_rfl) (by simp) ?_
    refine AllReadyH.cons rfl (fun J hJ => ?_) AllReadyH.nil
    go_simp
    refine (modulo_L _ f K P L M HL HM _ hP hP' hK hK' hF hf).mono ?_
    rintro e w1 ⟨rfl, hb1⟩
    have hS1 := RS2 hSx hb1
    go_wp2_with fail
    refine hJ.out _ _ hS1 (fun hSy => ?_)
    clear hJ J
    try simp only [Act.put, List.setIfInBounds_toArray, List.set_cons_zero, List.set_cons_succ]
    refine wpAnyH_ready (rs := [10]) (by kernel_rfl) (by simp) ?_
    refine AllReadyH.cons rfl (fun J hJ => ?_) AllReadyH.nil
    go_simp
    refine (number_any _ P K _ hP hP' hK hK' hPK hR (fun t h1 h2 => redN_zero hfK.out _ _ t h1 (by omega))).mono ?_
    rintro e w2 ⟨rfl, hb2⟩
    have hS2 := RS2 hSy hb2
    go_wp2_with fail
    refine hJ.out _ _ hS2 (fun hSz => ?_)
    clear hJ J
    try simp only [Act.put, List.setIfInBounds_toArray, List.set_cons_zero, List.set_cons_succ]
    refine wpAnyH_ready (rs := [11]) (by kernel_rfl) (by simp) ?_
    refine AllReadyH.cons rfl (fun J hJ => ?_) AllReadyH.nil
    go_simp
    refine hJ.out _ _ hSz (fun _ => ?_)
    clear hJ J
    refine wpAnyH_done (by kernel_rfl) ?_ _
    refine NoPanic.normal ?_
    go_wp2
    go_ret
    exact ⟨rfl, hS2.2.2.2.2⟩

end Go.Proofs.YtamdpcajfgbagaaDoor.Fd

namespace Go.Proofs.YtamdpcajfgbagaaDoor.Fd
open Go.RowKit

/-- The sum of two elements, as a number. -/
def sumZ (p k a b : Int) : Int := hor (plusF (digF a.toNat p.toNat) (digF b.toNat p.toNat) p) p k.toNat k.toNat
/-- The product of two elements, as a number. -/
def prodZ (p k : Int) (l : List Int) (a b : Int) : Int := hor (redN (monL l) k.toNat p (11 - k.toNat) (mulN (digF a.toNat p.toNat) (digF b.toNat p.toNat) p 6 6)) p k.toNat k.toNat

theorem open_ok {p k : Int} {l es : List Int} (h : OpenIs p k l es 0) : FaultIs p k l 0 ∧ inL (ordZ p k) es := by
  rcases h with ⟨h, _⟩ | ⟨_, _, h⟩ | ⟨h1, h2, _⟩
  · exact absurd rfl h
  · exact absurd h (by decide)
  · exact ⟨h1, h2⟩
theorem sl_pair (w : World) (a b : Int) : Sl (w.alloc (.cells #[.int .i64 a, .int .i64 b] 3)) (.slice (some ⟨w.heap.size, 0, none⟩) 2 2) [a, b] := by
  refine ⟨_, 2, rfl, fun j hj => ⟨w.heap.size, 0, rfl, ?_⟩⟩
  have h := cell_of_row (w.alloc (.cells #[.int .i64 a, .int .i64 b] 3)) w.heap.size (0 + j) _ _ _ (heap_alloc_new w _)
  rw [h]
  have : j = 0 ∨ j = 1 := by simp at hj; omega
  rcases this with rfl | rfl <;> rfl
/-- What a field that is one, and elements of it, are as natural numbers. -/
theorem good_parts {p k : Int} {l : List Int} (h : FaultIs p k l 0) : ∃ P K : Nat, p = P ∧ k = K ∧ 2 ≤ P ∧ P ≤ 61 ∧ 1 ≤ K ∧ K ≤ 6 ∧ P ^ K ≤ 64 ∧ ordZ p k = ((P ^ K : Nat) : Int) ∧ l.length = K ∧ inP p (monL l) ∧ monL l K = 1 ∧ isPrimeB p = true := by
  obtain ⟨h0, h1, h2, h3⟩ := h.ok
  obtain ⟨P, K, rfl, rfl, hP, hP', hK, hK', hPK, hq⟩ := ord_nat h0
  have hl : l.length = K := by omega
  refine ⟨P, K, rfl, rfl, hP, hP', hK, hK', hPK, hq, hl, monL_in (by omega) h2, ?_, (ord_parts h0).1⟩
  have := monL_top l
  rwa [hl] at this

end Go.Proofs.YtamdpcajfgbagaaDoor.Fd

/- The walk of Times of the document's answer; the two products are one. -/
/- The walks of Sum and Times of the document's answer. -/
namespace Go.Proofs.YtamdpcajfgbagaaDoor.Fd
open Go.RowKit

theorem digL_all {n p k : Nat} (hn : n < p ^ k) (hp : 2 ≤ p) (t : Nat) : (digL n p k).getD t 0 = digF n p t := by
  by_cases h : t < k
  · exact digL_at _ _ _ _ h
  · rw [digF_small hn hp t (by omega)]
    simp [digL, h]
theorem Own.of_dig {w : World} {base n p k : Nat} {v : Value} (h : w.ownsRow base 3 1 v k ((digL n p k).map (Value.int .i64))) (hk : 1 ≤ k) (hn : n < p ^ k) (hp : 2 ≤ p) :
    ∃ g cap, v = .slice (some ⟨g, 0, none⟩) k cap ∧ base ≤ g ∧ Own w g k (digF n p) := by
  obtain ⟨g, cap, e, hb, hO⟩ := Own.of h (by omega)
  exact ⟨g, cap, e, hb, hO.congr (fun t _ => digL_all hn hp t)⟩

end Go.Proofs.YtamdpcajfgbagaaDoor.Fd

namespace Go.Proofs.YtamdpcajfgbagaaDoor.Fd
open Go.RowKit

theorem prod_same {P K a b : Nat} {m : Nat → Int} (hP : 2 ≤ P) (hK : 1 ≤ K) (hK' : K ≤ 6) (ha : a < P ^ K) (hb : b < P ^ K) :
    redN m K P (11 - K) (mulN (digF a P) (digF b P) P 6 6) = redN m K P K (mulN (digF a P) (digF b P) P K K) := by
  have hp : (0 : Int) < P := by omega
  have e1 : mulN (digF a P) (digF b P) P 6 6 = mulN (digF a P) (digF b P) P K K := by
    rw [show (6 : Nat) = K + (6 - K) by omega, mulN_few hp (fun t ht => digF_small ha hP t ht), ← show (6 : Nat) = K + (6 - K) by omega, mulN_short hp (fun t ht => digF_small hb hP t ht) hK']
  rw [e1]
  have hin := mulN_in (a := digF a P) (b := digF b P) (j := K) hp K
  by_cases h1 : K = 1
  · subst h1
    have h := redN_more (m := m) (d := 1) 1 hin (fun t ht => mulN_over 1 t (by omega)) (Nat.le_refl _) 9
    exact h
  · have h0 : ∀ t, 2 * K - 2 < t → mulN (digF a P) (digF b P) P K K t = 0 := fun t ht => mulN_over K t (by omega)
    have h2 := redN_more (m := m) (d := K) (2 * K - 2) hin h0 (by omega) (12 - 2 * K)
    have h3 := redN_more (m := m) (d := K) (2 * K - 2) hin h0 (by omega) 1
    rw [show 2 * K - 2 + 1 - K + (12 - 2 * K) = 11 - K by omega] at h2
    rw [show 2 * K - 2 + 1 - K + 1 = K by omega] at h3
    rw [h2, h3]

end Go.Proofs.YtamdpcajfgbagaaDoor.Fd

namespace Go.Proofs.YtamdpcajfgbagaaDoor.Fd
open Go.RowKit

theorem open_err {p k : Int} {l es : List Int} {z ze : Int} (hF : FaultIs p k l ze) (h0 : ze ≠ 0) (h : OpenIs p k l es z) : z = ze := by
  rcases h with ⟨_, h⟩ | ⟨h, _, _⟩ | ⟨h, _, _⟩
  · exact h.one hF
  · exact absurd (hF.one h) h0
  · exact absurd (hF.one h) h0
theorem open_in {p k : Int} {l es : List Int} {z : Int} (hF : FaultIs p k l 0) (hi : inL (ordZ p k) es) (h : OpenIs p k l es z) : z = 0 := by
  rcases h with ⟨h0, h⟩ | ⟨_, h, _⟩ | ⟨_, _, h⟩
  · exact absurd (h.one hF) h0
  · exact absurd hi h
  · exact h
theorem open_out {p k : Int} {l es : List Int} {z : Int} (hF : FaultIs p k l 0) (hi : ¬ inL (ordZ p k) es) (h : OpenIs p k l es z) : z = 1 := by
  rcases h with ⟨h0, h⟩ | ⟨_, _, h⟩ | ⟨_, h, _⟩
  · exact absurd (h.one hF) h0
  · exact h
  · exact absurd h hi
theorem inB_iff (q a : Int) : inB q a = true ↔ 0 ≤ a ∧ a < q := by simp [inB]
theorem inL_pair (q a b : Int) : inL q [a, b] ↔ inB q a = true ∧ inB q b = true := by
  rw [inB_iff, inB_iff]
  constructor
  · intro h
    exact ⟨h 0 (by simp), h 1 (by simp)⟩
  · rintro ⟨h1, h2⟩ j hj
    have : j = 0 ∨ j = 1 := by simp at hj; omega
    rcases this with rfl | rfl
    · exact h1
    · exact h2

end Go.Proofs.YtamdpcajfgbagaaDoor.Fd
