/- The walks of inOrder, list, Element. -/
import Derived.Test.YtmaplmgecohjbaaGSc
import Derived.Ground.SlgnProg
import Derived.Shelf.SlicesE.Clone
import Derived.Ground.SlgcProg
import Derived.Shelf.SlicesG.Cmp
import Derived.Ground.SlsfProg
import Derived.Shelf.SlSortCmp.WholeK
import Derived.Test.YtmaplmgecohjbaaGLex
import Derived.Test.YtmaplmgecohjbaaG11
import Derived.Test.YtmaplmgecohjbaaP25
/- The library's functions that the program calls, by their contracts, at this program's own numbers. -/
namespace Go.Proofs.Ytmaplmgecohjbaa
open Go.Shelf Go.RowKit Go.Lib Go.Sort

def sortMv_ren : Go.Shelf.Ren := ⟨fun | 6 => 91 | 15 => 96 | 14 => 100 | 28 => 109 | 29 => 110 | 20 => 113 | 21 => 114 | 22 => 115 | 23 => 116 | 24 => 117 | 25 => 118 | 26 => 119 | 27 => 120 | 46 => 126 | 47 => 122 | 48 => 123 | 49 => 127 | 50 => 128 | 57 => 130 | n => n, fun | 22 => 69 | 24 => 90 | 25 => 112 | 3 => 3 | 39 => 117 | 0 => 0 | 53 => 132 | 55 => 134 | 4 => 4 | 46 => 125 | 45 => 124 | 50 => 129 | 5 => 5 | 9 => 9 | 66 => 144 | 70 => 148 | 76 => 152 | 77 => 153 | n => n, fun | n => n⟩
theorem sortMv : Go.Proofs.SlLaysF0.n6 Try.prog sortMv_ren := {
  mixed := by kernel_rfl
  f6 := ⟨Try.f91.name, by decide, Try.func91.trans (congrArg some (by kernel_rfl))⟩
  f14 := ⟨Try.f100.name, by decide, Try.func100.trans (congrArg some (by kernel_rfl))⟩
  f15 := Try.func96.trans (congrArg some (by kernel_rfl))
  f20 := ⟨Try.f113.name, by decide, Try.func113.trans (congrArg some (by kernel_rfl))⟩
  f21 := ⟨Try.f114.name, by decide, Try.func114.trans (congrArg some (by kernel_rfl))⟩
  f22 := ⟨Try.f115.name, by decide, Try.func115.trans (congrArg some (by kernel_rfl))⟩
  f23 := ⟨Try.f116.name, by decide, Try.func116.trans (congrArg some (by kernel_rfl))⟩
  f24 := ⟨Try.f117.name, by decide, Try.func117.trans (congrArg some (by kernel_rfl))⟩
  f25 := ⟨Try.f118.name, by decide, Try.func118.trans (congrArg some (by kernel_rfl))⟩
  f26 := ⟨Try.f119.name, by decide, Try.func119.trans (congrArg some (by kernel_rfl))⟩
  f27 := ⟨Try.f120.name, by decide, Try.func120.trans (congrArg some (by kernel_rfl))⟩
  f28 := Try.func109.trans (congrArg some (by kernel_rfl))
  f29 := Try.func110.trans (congrArg some (by kernel_rfl))
  f46 := ⟨Try.f126.name, by decide, Try.func126.trans (congrArg some (by kernel_rfl))⟩
  f47 := Try.func122.trans (congrArg some (by kernel_rfl))
  f48 := Try.func123.trans (congrArg some (by kernel_rfl))
  f49 := ⟨Try.f127.name, by decide, Try.func127.trans (congrArg some (by kernel_rfl))⟩
  f50 := ⟨Try.f128.name, by decide, Try.func128.trans (congrArg some (by kernel_rfl))⟩
  f57 := ⟨Try.f130.name, by decide, Try.func130.trans (congrArg some (by kernel_rfl))⟩
  t0 := Try.underlying0
  a0 := Try.isAgg0
  z0 := Try.sizeOf0
  v0 := Try.zeroValue0
  t3 := Try.underlying3
  a3 := Try.isAgg3
  z3 := Try.sizeOf3
  v3 := Try.zeroValue3
  t4 := Try.underlying4
  a4 := Try.isAgg4
  z4 := Try.sizeOf4
  v4 := Try.zeroValue4
  t5 := Try.underlying5
  a5 := Try.isAgg5
  z5 := Try.sizeOf5
  v5 := Try.zeroValue5
  t9 := Try.underlying9
  a9 := Try.isAgg9
  z9 := Try.sizeOf9
  v9 := Try.zeroValue9
  t22 := Try.underlying69
  a22 := Try.isAgg69
  z22 := Try.sizeOf69
  v22 := Try.zeroValue69
  t25 := Try.underlying112
  a25 := Try.isAgg112
  z25 := Try.sizeOf112
  v25 := Try.zeroValue112
  t39 := Try.underlying117
  a39 := Try.isAgg117
  z39 := Try.sizeOf117
  v39 := Try.zeroValue117
  t45 := Try.underlying124
  a45 := Try.isAgg124
  z45 := Try.sizeOf124
  v45 := Try.zeroValue124
  t46 := Try.underlying125
  a46 := Try.isAgg125
  z46 := Try.sizeOf125
  v46 := Try.zeroValue125
  t50 := Try.underlying129
  a50 := Try.isAgg129
  z50 := Try.sizeOf129
  v50 := Try.zeroValue129
  t53 := Try.underlying132
  a53 := Try.isAgg132
  z53 := Try.sizeOf132
  v53 := Try.zeroValue132
  t55 := Try.underlying134
  a55 := Try.isAgg134
  z55 := Try.sizeOf134
  v55 := Try.zeroValue134
  t66 := Try.underlying144
  a66 := Try.isAgg144
  z66 := Try.sizeOf144
  v66 := Try.zeroValue144
  t70 := Try.underlying148
  a70 := Try.isAgg148
  z70 := Try.sizeOf148
  v70 := Try.zeroValue148
  t76 := Try.underlying152
  a76 := Try.isAgg152
  z76 := Try.sizeOf152
  v76 := Try.zeroValue152
  t77 := Try.underlying153
  a77 := Try.isAgg153
  z77 := Try.sizeOf153
  v77 := Try.zeroValue153 }
def sortKd_ren : Go.Shelf.Ren := ⟨fun | 6 => 80 | 15 => 96 | 14 => 95 | 28 => 109 | 29 => 110 | 20 => 101 | 21 => 102 | 22 => 103 | 23 => 104 | 24 => 105 | 25 => 106 | 26 => 107 | 27 => 108 | 46 => 121 | 47 => 122 | 48 => 123 | 49 => 124 | 50 => 125 | 57 => 129 | n => n, fun | 22 => 76 | 24 => 75 | 25 => 82 | 3 => 3 | 39 => 117 | 0 => 0 | 53 => 132 | 55 => 134 | 4 => 4 | 46 => 125 | 45 => 124 | 50 => 129 | 5 => 5 | 9 => 9 | 66 => 144 | 70 => 148 | 76 => 152 | 77 => 153 | n => n, fun | n => n⟩
theorem sortKd : Go.Proofs.SlLaysF0.n6 Try.prog sortKd_ren := {
  mixed := by kernel_rfl
  f6 := ⟨Try.f80.name, by decide, Try.func80.trans (congrArg some (by kernel_rfl))⟩
  f14 := ⟨Try.f95.name, by decide, Try.func95.trans (congrArg some (by kernel_rfl))⟩
  f15 := Try.func96.trans (congrArg some (by kernel_rfl))
  f20 := ⟨Try.f101.name, by decide, Try.func101.trans (congrArg some (by kernel_rfl))⟩
  f21 := ⟨Try.f102.name, by decide, Try.func102.trans (congrArg some (by kernel_rfl))⟩
  f22 := ⟨Try.f103.name, by decide, Try.func103.trans (congrArg some (by kernel_rfl))⟩
  f23 := ⟨Try.f104.name, by decide, Try.func104.trans (congrArg some (by kernel_rfl))⟩
  f24 := ⟨Try.f105.name, by decide, Try.func105.trans (congrArg some (by kernel_rfl))⟩
  f25 := ⟨Try.f106.name, by decide, Try.func106.trans (congrArg some (by kernel_rfl))⟩
  f26 := ⟨Try.f107.name, by decide, Try.func107.trans (congrArg some (by kernel_rfl))⟩
  f27 := ⟨Try.f108.name, by decide, Try.func108.trans (congrArg some (by kernel_rfl))⟩
  f28 := Try.func109.trans (congrArg some (by kernel_rfl))
  f29 := Try.func110.trans (congrArg some (by kernel_rfl))
  f46 := ⟨Try.f121.name, by decide, Try.func121.trans (congrArg some (by kernel_rfl))⟩
  f47 := Try.func122.trans (congrArg some (by kernel_rfl))
  f48 := Try.func123.trans (congrArg some (by kernel_rfl))
  f49 := ⟨Try.f124.name, by decide, Try.func124.trans (congrArg some (by kernel_rfl))⟩
  f50 := ⟨Try.f125.name, by decide, Try.func125.trans (congrArg some (by kernel_rfl))⟩
  f57 := ⟨Try.f129.name, by decide, Try.func129.trans (congrArg some (by kernel_rfl))⟩
  t0 := Try.underlying0
  a0 := Try.isAgg0
  z0 := Try.sizeOf0
  v0 := Try.zeroValue0
  t3 := Try.underlying3
  a3 := Try.isAgg3
  z3 := Try.sizeOf3
  v3 := Try.zeroValue3
  t4 := Try.underlying4
  a4 := Try.isAgg4
  z4 := Try.sizeOf4
  v4 := Try.zeroValue4
  t5 := Try.underlying5
  a5 := Try.isAgg5
  z5 := Try.sizeOf5
  v5 := Try.zeroValue5
  t9 := Try.underlying9
  a9 := Try.isAgg9
  z9 := Try.sizeOf9
  v9 := Try.zeroValue9
  t22 := Try.underlying76
  a22 := Try.isAgg76
  z22 := Try.sizeOf76
  v22 := Try.zeroValue76
  t25 := Try.underlying82
  a25 := Try.isAgg82
  z25 := Try.sizeOf82
  v25 := Try.zeroValue82
  t39 := Try.underlying117
  a39 := Try.isAgg117
  z39 := Try.sizeOf117
  v39 := Try.zeroValue117
  t45 := Try.underlying124
  a45 := Try.isAgg124
  z45 := Try.sizeOf124
  v45 := Try.zeroValue124
  t46 := Try.underlying125
  a46 := Try.isAgg125
  z46 := Try.sizeOf125
  v46 := Try.zeroValue125
  t50 := Try.underlying129
  a50 := Try.isAgg129
  z50 := Try.sizeOf129
  v50 := Try.zeroValue129
  t53 := Try.underlying132
  a53 := Try.isAgg132
  z53 := Try.sizeOf132
  v53 := Try.zeroValue132
  t55 := Try.underlying134
  a55 := Try.isAgg134
  z55 := Try.sizeOf134
  v55 := Try.zeroValue134
  t66 := Try.underlying144
  a66 := Try.isAgg144
  z66 := Try.sizeOf144
  v66 := Try.zeroValue144
  t70 := Try.underlying148
  a70 := Try.isAgg148
  z70 := Try.sizeOf148
  v70 := Try.zeroValue148
  t76 := Try.underlying152
  a76 := Try.isAgg152
  z76 := Try.sizeOf152
  v76 := Try.zeroValue152
  t77 := Try.underlying153
  a77 := Try.isAgg153
  z77 := Try.sizeOf153
  v77 := Try.zeroValue153 }

end Go.Proofs.Ytmaplmgecohjbaa

/- The walks of Compare, the order of moves, inOrder. -/
namespace Go.Proofs.Ytmaplmgecohjbaa
open Go.RowKit

theorem cmp_nat (a b : Nat) : Lib.compareInt (a : Int) (b : Int) = if a < b then -1 else if b < a then 1 else 0 := by
  unfold Lib.compareInt
  by_cases h1 : a < b
  · rw [if_pos h1, if_pos (by omega)]
  · rw [if_neg h1, if_neg (by omega)]
    by_cases h2 : b < a
    · rw [if_pos h2, if_pos (by omega)]
    · rw [if_neg h2, if_neg (by omega)]

set_option maxRecDepth 100000 in
set_option maxHeartbeats 1000000 in
theorem Compare_any (f g : Nat → Nat) (a b : Nat) (w : World) (ha : ∀ j, j < 7 → w.cell? ⟨a, j, none⟩ = some (.int .i64 (f j : Int))) (hb : ∀ j, j < 7 → w.cell? ⟨b, j, none⟩ = some (.int .i64 (g j : Int))) :
    Calls Try.prog 63 #[.slice (some ⟨a, 0, none⟩) 7 7, .slice (some ⟨b, 0, none⟩) 7 7] w fun e w' => e = .returned (.int .i64 (lexc f g 7 0)) ∧ w' = w := by
  have C := fun (x y : Int) W => AnyG.cmp_Compare_int cmpInt x y W
  change ∀ (x y : Int) W, Calls Try.prog 82 _ _ _ at C
  have HA : Hid (∀ j, j < 7 → w.cell? ⟨a, j, none⟩ = some (.int .i64 (f j : Int))) := ha
  have HB : Hid (∀ j, j < 7 → w.cell? ⟨b, j, none⟩ = some (.int .i64 (g j : Int))) := hb
  obtain ⟨z, Hz⟩ : ∃ z, Hid (lexc f g 7 0 = z) := ⟨_, rfl⟩
  rw [Hz.out]
  clear ha hb
  go_enter Try.func63, Try.ntmps63
  go_wp2
  go_loopw [11] (fun i wr => ∃ j : Nat, i = .int .i64 j ∧ j ≤ 7 ∧ Hid (lexc f g (7 - j) j = z) ∧ wr = w) (fun i _ => (7 - intOf i).toNat)
  case atStart => exact ⟨0, rfl, by omega, Hz, rfl⟩
  case round =>
    obtain ⟨j, rfl, hj, HL, hw⟩ := hrel
    subst hw
    by_cases hlt : j < 7
    · have hji : (j : Int) < 7 := by omega
      have hdec : decide ((j : Int) < 7) = true := by simp; omega
      have hd2 : decide ((7 : Int) ≤ (j : Int)) = false := by simp; omega
      have hca := HA.out j hlt
      have hcb := HB.out j hlt
      have HL2 : Hid ((if f j < g j then (-1 : Int) else if g j < f j then 1 else lexc f g (7 - (j + 1)) (j + 1)) = z) := by
        have h := HL.out
        rw [show 7 - j = 7 - (j + 1) + 1 by omega] at h
        exact h
      obtain ⟨x, Hx⟩ : ∃ x, Hid (f j = x) := ⟨_, rfl⟩
      obtain ⟨y, Hy⟩ : ∃ y, Hid (g j = y) := ⟨_, rfl⟩
      rw [Hx.out] at hca HL2
      rw [Hy.out] at hcb HL2
      have D := C (x : Int) (y : Int)
      rw [cmp_nat] at D
      by_cases h1 : x < y
      · rw [if_pos h1] at D
        obtain rfl : -1 = z := by have := HL2.out; rwa [if_pos h1] at this
        clear h1
        go_wp2_with (first | (go_at_call 82; refine (D _).mono ?_; rintro e w1 ⟨rfl, h⟩; replace h := h.symm; subst h))
        go_ret
        exact ⟨rfl, rfl⟩
      · by_cases h2 : y < x
        · rw [if_neg h1, if_pos h2] at D
          obtain rfl : 1 = z := by have := HL2.out; rwa [if_neg h1, if_pos h2] at this
          clear h1 h2
          go_wp2_with (first | (go_at_call 82; refine (D _).mono ?_; rintro e w1 ⟨rfl, h⟩; replace h := h.symm; subst h))
          go_ret
          exact ⟨rfl, rfl⟩
        · rw [if_neg h1, if_neg h2] at D
          have HL3 : Hid (lexc f g (7 - (j + 1)) (j + 1) = z) := by have := HL2.out; rwa [if_neg h1, if_neg h2] at this
          clear h1 h2
          go_wp2_with (first | (go_at_call 82; refine (D _).mono ?_; rintro e w1 ⟨rfl, h⟩; replace h := h.symm; subst h))
          go_roundw
          case rel => exact ⟨j + 1, by go_num, by omega, HL3, trivial⟩
          case measure => simp [intOf]; omega
    · obtain rfl : j = 7 := by omega
      have hz : z = 0 := by have := HL.out; simpa [lexc] using this.symm
      subst hz
      go_wp2
      go_ret
      exact ⟨rfl, rfl⟩

/-- How two moves compare. -/
def cmpM (x y : List Nat) : Int := lexc (fun j => x.getD j 0) (fun j => y.getD j 0) 7 0

set_option maxRecDepth 100000 in
set_option maxHeartbeats 1000000 in
theorem closure_any (x y : List Nat) (W : World) :
    Calls Try.prog 92 #[.agg (mvL x).toArray, .agg (mvL y).toArray] W fun e w' => e = .returned (.int .i64 (cmpM x y)) ∧ ∃ q os', w' = Go.Sort.grow (W.drewN q) os' := by
  have hB : Below W.heap.size W ((W.alloc (.cells (mvL x).toArray 90)).alloc (.cells (mvL y).toArray 90)) := (balloc W _).alloc (by simp) _
  have C := fun W' (h1 : ∀ j, j < 7 → W'.cell? ⟨W.heap.size, j, none⟩ = some (.int .i64 ((x.getD j 0 : Nat) : Int))) (h2 : ∀ j, j < 7 → W'.cell? ⟨W.heap.size + 1, j, none⟩ = some (.int .i64 ((y.getD j 0 : Nat) : Int))) => Compare_any (fun j => x.getD j 0) (fun j => y.getD j 0) W.heap.size (W.heap.size + 1) W' h1 h2
  have H1 : Hid (∀ j, j < 7 → ((W.alloc (.cells (mvL x).toArray 90)).alloc (.cells (mvL y).toArray 90)).cell? ⟨W.heap.size, j, none⟩ = some (.int .i64 ((x.getD j 0 : Nat) : Int))) := fun j hj => by
    have h := (MRow.made 90 W (fun j => (x.getD j 0 : Int))).alloc (.cells (mvL y).toArray 90)
    exact h.cell j hj
  have H2 : Hid (∀ j, j < 7 → ((W.alloc (.cells (mvL x).toArray 90)).alloc (.cells (mvL y).toArray 90)).cell? ⟨W.heap.size + 1, j, none⟩ = some (.int .i64 ((y.getD j 0 : Nat) : Int))) := fun j hj => by
    have h := MRow.made 90 (W.alloc (.cells (mvL x).toArray 90)) (fun j => (y.getD j 0 : Int))
    rw [World.size_alloc] at h
    exact h.cell j hj
  have e0 : cmpM x y = lexc (fun j => x.getD j 0) (fun j => y.getD j 0) 7 0 := rfl
  rw [e0]
  obtain ⟨z, Hz⟩ : ∃ z, Hid (lexc (fun j => x.getD j 0) (fun j => y.getD j 0) 7 0 = z) := ⟨_, rfl⟩
  rw [Hz.out] at C ⊢
  obtain ⟨X, HX⟩ : ∃ X, Hid (mvL x = X) := ⟨_, rfl⟩
  obtain ⟨Y, HY⟩ : ∃ Y, Hid (mvL y = Y) := ⟨_, rfl⟩
  rw [HX.out, HY.out] at H1 H2 ⊢
  have hlx : X.length = 7 := by rw [← HX.out]; exact mvL_len x
  have hly : Y.length = 7 := by rw [← HY.out]; exact mvL_len y
  clear e0 hB
  go_enter Try.func92, Try.ntmps92
  go_wp2_with fail
  refine wp_region_noPanic ?_
  refine wp_region_held_drew (S := fun _ => True) (by kernel_rfl) (trivial) (fun hSx => ?_)
  refine wpAnyH_take (i := 0) (v := .slice (some ⟨W.heap.size, 0, none⟩) 7 7) rfl (by kernel_rfl) (by kernel_rfl) (by kernel_rfl) (fun _ _ _ h => h) (Or.inl ⟨by rfl, fun w' hSw => by (try dsimp only at hSw); go_simp⟩) trivial ?_
  try simp only [Act.put, List.setIfInBounds_toArray]
  refine wpAnyH_take (i := 1) (v := .slice (some ⟨W.heap.size + 1, 0, none⟩) 7 7) rfl (by kernel_rfl) (by kernel_rfl) (by kernel_rfl) (fun _ _ _ h => h) (Or.inl ⟨by rfl, fun w' hSw => by (try dsimp only at hSw); go_simp⟩) trivial ?_
  try simp only [Act.put]
  refine wpAnyH_ready (rs := [2]) (by kernel_rfl) (by simp) ?_
  refine AllReadyH.cons rfl (fun J hJ => ?_) AllReadyH.nil
  go_simp
  refine (C (World.drew _) (by exact H1.out) (by exact H2.out)).mono ?_
  rintro e w1 ⟨rfl, h⟩
  replace h := h.symm
  subst h
  go_wp2_with fail
  refine hJ.out _ _ trivial (fun _ => ?_)
  clear hJ J
  try simp only [Act.put, List.setIfInBounds_toArray, List.set_cons_zero, List.set_cons_succ]
  refine wpAnyH_ready (rs := [3]) (by kernel_rfl) (by simp) ?_
  refine AllReadyH.cons rfl (fun J hJ => ?_) AllReadyH.nil
  go_simp
  refine hJ.out _ _ trivial (fun _ => ?_)
  clear hJ J
  try simp only [Act.put, List.setIfInBounds_toArray, List.set_cons_zero, List.set_cons_succ]
  refine wpAnyH_done (by kernel_rfl) ?_ _
  refine NoPanic.normal ?_
  go_wp2_with fail
  go_ret
  refine ⟨rfl, 1, #[.cells X.toArray 90, .cells Y.toArray 90], ?_⟩
  rw [Go.Sort.alloc_eq_grow, Go.Sort.alloc_eq_grow, Go.Sort.grow_grow]
  rfl

end Go.Proofs.Ytmaplmgecohjbaa

namespace Go.Proofs.Ytmaplmgecohjbaa
open Go.RowKit

theorem lt_iff (x y : List Nat) : ltOf cmpM x y = true ↔ LexLt 7 (fun j => x.getD j 0) (fun j => y.getD j 0) := by
  unfold ltOf cmpM
  rw [decide_eq_true_iff, lexc_iff]
theorem lt_no (x y : List Nat) : ltOf cmpM x y = false ↔ ¬ LexLt 7 (fun j => x.getD j 0) (fun j => y.getD j 0) := by
  rw [← lt_iff]; simp
theorem lex_congr {f f' g : Nat → Nat} (e : ∀ i, i < 7 → f i = f' i) (h : LexLt 7 f g) : LexLt 7 f' g := by
  obtain ⟨i, hi, h1, h2⟩ := h
  exact ⟨i, hi, fun j hj => by rw [← e j (by omega)]; exact h1 j hj, by rw [← e i hi]; exact h2⟩
theorem swoM : Go.Sort.SWO (ltOf cmpM) where
  irrefl x := (lt_no x x).2 LexLt.irrefl
  trans x y z h1 h2 := (lt_iff x z).2 (((lt_iff x y).1 h1).trans ((lt_iff y z).1 h2))
  ntrans x y z h1 h2 := by
    rw [lt_no] at h1 h2 ⊢
    intro h
    by_cases h3 : LexLt 7 (fun j => y.getD j 0) (fun j => x.getD j 0)
    · exact h2 (h3.trans h)
    · exact h2 (lex_congr (lex_total h1 h3) h)
theorem sort_below {w : World} {B blk n : Nat} {d' : Array (List Nat)} {os : Array Obj} (hB : B ≤ blk) (hs : B ≤ w.heap.size) : Below B w (sortWorldK mvL 7 w blk 0 n d' os) := by
  refine ⟨rfl, rfl, rfl, ?_, fun k hk => ?_⟩
  · show w.heap.size ≤ (Go.Sort.grow (Go.Sort.putRowK mvL 7 (Go.Sort.ahead w n) blk 0 d') os).heap.size
    simp [Go.Sort.grow, Go.Sort.putRowK, Go.Sort.putRow, Go.Sort.mapBlock, Go.Sort.ahead]
  · show (Go.Sort.grow (Go.Sort.putRowK mvL 7 (Go.Sort.ahead w n) blk 0 d') os).heap[k]? = w.heap[k]?
    rw [Go.Sort.heap_grow_old _ _ (by simp [Go.Sort.putRowK, Go.Sort.putRow, Go.Sort.mapBlock, Go.Sort.ahead]; omega)]
    simp only [Go.Sort.putRowK, Go.Sort.putRow, Go.Sort.mapBlock, Go.Sort.ahead]
    rw [Array.getElem?_modify, if_neg (by omega)]
theorem flat_at {M : List (List Nat)} {t : Nat} (ht : t < M.length * 7) : (M.flatMap mvL)[t]? = some ((mvL M.toArray[t / 7]!)[t % 7]!) := by
  have hi : t / 7 < M.length := by omega
  have hj : t % 7 < 7 := Nat.mod_lt _ (by omega)
  have h := flat_range (L := M) (i := t / 7) (x := M[t / 7]) (List.getElem?_eq_getElem hi) (t % 7) ((mvL M[t / 7])[t % 7]'(by rw [mvL_len]; exact hj)) (List.getElem?_eq_getElem _)
  rw [show t / 7 * 7 + t % 7 = t by omega] at h
  rw [h]
  have e1 : M.toArray[t / 7]! = M[t / 7] := by simp [hi]
  rw [e1, getElem!_pos (mvL M[t / 7]) (t % 7) (by rw [mvL_len]; exact hj)]
theorem isAgg62' (w : World) : (isAgg 90).run Try.prog w = .ok true w := by kernel_rfl
theorem sizeOf62' (w : World) : (Go.sizeOf 90).run Try.prog w = .ok 7 w := by kernel_rfl

set_option maxRecDepth 100000 in
set_option maxHeartbeats 2000000 in
theorem inOrder_any (base G : Nat) (M : List (List Nat)) (w : World) (hM : Mem base w G M) (h0 : 0 < M.length) (h6 : M.length ≤ 6000) :
    Calls Try.prog 76 #[.pointer (some ⟨G, 0, none⟩)] w fun e w' => (∃ v M', e = .returned v ∧ Mvs w' v M' ∧ M'.Perm M ∧ M'.Pairwise fun a b => ¬ LexLt 7 (fun i => b.getD i 0) (fun i => a.getD i 0)) ∧ Below w.heap.size w w' := by
  obtain ⟨i62, hi, hz0, hz1, hz2⟩ := info62
  obtain ⟨v, B, hG, hrow, _⟩ := id hM
  obtain ⟨g, gc, hc0, hgl, hGl, _, _, _⟩ := hM.open h0
  obtain ⟨r, Hr⟩ : ∃ r, Hid (M.length = r) := ⟨_, rfl⟩
  have hv : v = .slice (some ⟨g, 0, none⟩) M.length gc := by
    rw [cell_of_row w G 0 _ _ _ hG] at hc0
    simpa using hc0
  have hcl : ∀ j u, (M.flatMap mvL)[j]? = some u → w.cell? ⟨g, 0 + j, none⟩ = some u := fun j u hu => by
    have h := hrow.cells (g := g) (by rw [hv]; rfl) j u hu
    rw [Addr.add_mid] at h; exact h
  have hfl : (M.flatMap mvL).length = M.length * 7 := hrow.1
  have C1 := AnyE.slices_Clone cloneMv i62 (.agg (mrow fun _ => 0)) 7 56 hi hz0 hz1 hz2 (by simp [Value.cells]) (by omega) sizeOf62' g 0 M.length gc (M.flatMap mvL) w hfl (by unfold maxLen; omega) (by omega) hcl (fun u hu => by
    obtain ⟨x, _, hx⟩ := List.mem_flatMap.1 hu
    exact mvL_one x u hx)
  change Calls Try.prog 90 _ _ _ at C1
  have C2 : ∀ (g' cap' : Nat) (W : World), W.ownsRow w.heap.size 90 7 (.slice (some ⟨g', 0, none⟩) M.length cap') M.length (M.flatMap mvL) → w.heap.size ≤ W.heap.size → Calls Try.prog 91 #[.slice (some ⟨g', 0, none⟩) M.length cap', .func (.func 92) #[] #[]] W fun e w' => e = .returned (.tuple #[]) ∧ (∃ M' : List (List Nat), M'.length = M.length ∧ Mvs w' (.slice (some ⟨g', 0, none⟩) M.length cap') M' ∧ M'.Perm M ∧ M'.Pairwise fun a b => ¬ LexLt 7 (fun i => b.getD i 0) (fun i => a.getD i 0)) ∧ Below w.heap.size W w' := by
    intro g' cap' W hown hsW
    obtain ⟨hl', ⟨e, _⟩ | ⟨g2, cap2, cur, e, hb, h7, h8, h9, h10, ht⟩⟩ := hown
    · cases e
    · cases e
      have hH : Go.Sort.HoldsK mvL 7 W g' 0 M.toArray := fun t htt => by
        rw [Go.Sort.size_flatK] at htt
        have htt : t < M.length * 7 := by simpa using htt
        rw [Go.Sort.get_flatK _ _ _ _ (by simpa using htt)]
        refine ⟨?_, frozen_of_row W g' _ _ _ h7⟩
        rw [Nat.zero_add, cell_of_row W g' _ _ _ _ h7]
        have h3 := flat_at htt
        rw [← ht, List.getElem?_take, if_pos (by omega)] at h3
        rw [← Array.getElem?_toList]; exact h3
      have hblk : g' < W.heap.size := (Array.getElem?_eq_some_iff.1 h7).1
      have eg : ∀ args w, (callFunc 92 args).run Try.prog w = .ok (.enter 92 args) w := enters_of Try.func92 (by kernel_rfl) rfl
      have h := AnyQ.slices_SortFunc sortMv 7 isAgg62' sizeOf62' mvL mvL_len mvL_one cmpM swoM 92 #[] g' 0 cap' M.toArray W eg (fun m os dk _ x y => closure_any x y _) hH hblk (by simp; omega)
      change Calls Try.prog 91 _ _ _ at h
      have hsz0 : M.toArray.size = M.length := by simp
      rw [hsz0] at h
      exact h.mono (fun e w' ⟨he, d', n, os, hp, hs, hw⟩ => by
        have hsz : d'.size = M.length := by simpa using hp.1
        refine ⟨he, ⟨d'.toList, by simpa using hsz, ?_, ?_, ?_⟩, ?_⟩
        · have hH' : Go.Sort.HoldsK mvL 7 w' g' 0 d' := by
            rw [hw]
            exact Go.Sort.holdsK_grow mvL 7 _ _ _ _ _ (by simp [Go.Sort.putRowK, Go.Sort.putRow, Go.Sort.mapBlock, Go.Sort.ahead]; exact hblk) (Go.Sort.holdsK_putRowK mvL 7 _ _ _ M.toArray d' (Go.Sort.holdsK_ahead mvL 7 _ _ _ _ _ hH) (by simpa using hsz))
          refine ⟨_, cap', by simp [hsz], fun i x hx => ⟨g', 0, rfl, ?_, fun j u hu => ?_⟩⟩
          · rw [hw]
            show g' < (Go.Sort.grow (Go.Sort.putRowK mvL 7 (Go.Sort.ahead W n) g' 0 d') os).heap.size
            simp [Go.Sort.grow, Go.Sort.putRowK, Go.Sort.putRow, Go.Sort.mapBlock, Go.Sort.ahead]; omega
          · have hi' : i < d'.size := by have := (List.getElem?_eq_some_iff.1 hx).1; simpa using this
            have hj : j < 7 := by have := (List.getElem?_eq_some_iff.1 hu).1; rwa [mvL_len] at this
            have hc := (hH'.cell hi' hj).1
            have e1 : d'[i]! = x := by
              have : d'.toList[i]? = some x := hx
              rw [Array.getElem?_toList, Array.getElem?_eq_getElem hi'] at this
              rw [getElem!_pos d' i hi']
              exact Option.some.inj this
            rw [hc, e1, getElem!_pos (mvL x) j (by rw [mvL_len]; exact hj)]
            rw [List.getElem?_eq_getElem (by rw [mvL_len]; exact hj)] at hu
            exact hu
        · have h2 := hp.2.2
          have e1 : d'.extract 0 M.length = d' := by rw [← hsz]; simp
          have e2 : M.toArray.extract 0 M.length = M.toArray := by simp
          rw [e1, e2] at h2
          exact h2
        · rw [List.pairwise_iff_getElem]
          intro a b ha hb' hab
          have ha' : a < d'.size := by simpa using ha
          have hb2 : b < d'.size := by simpa using hb'
          have h3 := hs a b (Nat.zero_le _) hab (by omega)
          rw [lt_no, getElem!_pos d' a ha', getElem!_pos d' b hb2] at h3
          exact h3
        · rw [hw]; exact sort_below hb hsW)
  rw [Hr.out] at C1 C2 hc0
  have h6r : r ≤ 6000 := by rw [← Hr.out]; exact h6
  clear hM hrow hcl hfl hG hv hi hz0 hz1 hz2 h6
  have C1' := C1.mono (R' := fun e w' => (∃ g' cap', e = .returned (.slice (some ⟨g', 0, none⟩) r cap') ∧ w'.ownsRow w.heap.size 90 7 (.slice (some ⟨g', 0, none⟩) r cap') r (M.flatMap mvL)) ∧ Below w.heap.size w w') (fun e w' ⟨v', h1, h2, h3, h4⟩ => by
    obtain ⟨k1, ⟨e1, _⟩ | ⟨g2, cap2, cur, e1, k2⟩⟩ := id h2
    · exact absurd e1 h3
    · exact ⟨⟨g2, cap2, by rw [h1, e1], by rw [← e1]; exact h2⟩, h4⟩)
  clear C1
  go_enter Try.func76, Try.ntmps76
  go_wp2_with (first
    | (go_at_call 90; refine C1'.mono ?_; rintro e w1 ⟨⟨g', cap', rfl, how⟩, b1⟩)
    | (go_at_call 91; refine (C2 g' cap' _ how b1.size).mono ?_; rintro e w2 ⟨rfl, ⟨M', hl, hm, hp, hs⟩, b2⟩))
  go_ret
  exact ⟨⟨_, M', rfl, hm, hp, hs⟩, b1.trans b2⟩

end Go.Proofs.Ytmaplmgecohjbaa
