/- Cuts: the walks of apart, join, whole. -/
import Derived.Test.YtgpkhfpejopacabGreatDoorZG43
import Derived.Test.YtgpkhfpejopacabGreatDoorZGM
import Derived.Deep.RegionHeld3
namespace Go.Proofs.YtgpkhfpejopacabGreatDoor.Gc
open Go.RowKit

set_option maxRecDepth 100000 in
theorem und69 : Tryz.prog.underlying 83 = some (.array 7 3) := by kernel_rfl
set_option maxRecDepth 100000 in
theorem inf69 (f : Nat → Int) : (Tryz.prog.info? 83).map (·.size) = some (mrow f).size := by rw [mrow_size]; kernel_rfl
set_option maxRecDepth 100000 in
theorem idx69 (f : Nat → Int) (k : Nat) (h : k < 7) (w : World) : (Instr.index 83 (.agg (mrow f)) (.int .i64 (k : Int))).run Tryz.prog w = .ok (.int .i64 (f k)) w := by
  have : k = 0 ∨ k = 1 ∨ k = 2 ∨ k = 3 ∨ k = 4 ∨ k = 5 ∨ k = 6 := by omega
  rcases this with rfl | rfl | rfl | rfl | rfl | rfl | rfl <;> (change _ = _; kernel_rfl)
/-- A cut as a row. -/
def cr (c : Nat → Nat) : Nat → Int := fun j => (c j : Int)

set_option maxRecDepth 100000 in
theorem apart_any (w : World) : Calls Tryz.prog 86 #[] w fun e w' => e = .returned (.agg (mrow (cr fun i => i))) ∧ Below w.heap.size w w' := by
  have C := fun W => still_fn W
  have hk0 := MRow.made0 83 w
  have hB0 := balloc w (.cells #[.int .i64 0, .int .i64 0, .int .i64 0, .int .i64 0, .int .i64 0, .int .i64 0, .int .i64 0] 83)
  go_enter Tryz.func86, Tryz.ntmps86
  go_wp2_with (first
    | (go_at_call 98; refine (C _).mono ?_; rintro e w1 ⟨⟨I, rfl, HI⟩, b1⟩; have hk1 := hk0.below b1; have hB1 := Below.next hB0 b1)
    | (refine wpList_store_row rfl 83 _ _ rfl w.heap.size _ rfl rfl 83 _ hk1 (inf69 _) (by simp) (mrow_one _) ?_))
  refine post_mrow und69 inf69 0 rfl rfl (hk1.whole _) rfl ⟨?_, bsetRow hB1 (Nat.le_refl _) _⟩
  rw [mrow_congr (fun j hj => HI.out j hj)]; rfl

/-- All blocks but g are as they were, and so is what lies below. -/
def Only (g : Nat) (w w' : World) : Prop := Below g w w' ∧ w'.heap.size = w.heap.size ∧ ∀ b, b ≠ g → w'.heap[b]? = w.heap[b]?
theorem Only.refl (g : Nat) (w : World) : Only g w w := ⟨Below.refl _ _, rfl, fun _ _ => rfl⟩
theorem Only.drewN {g : Nat} {w w' : World} (h : Only g w w') (n : Nat) : Only g w (w'.drewN n) := ⟨bdrewN h.1 n, h.2.1, h.2.2⟩
theorem Only.drew {g : Nat} {w w' : World} (h : Only g w w') : Only g w w'.drew := ⟨h.1.drew, h.2.1, h.2.2⟩
theorem Only.set {g : Nat} {w w' : World} (h : Only g w w') (j : Nat) (v : Value) : Only g w (w'.setCell ⟨g, j, none⟩ v) := ⟨h.1.setCell (p := ⟨g, j, none⟩) (Nat.le_refl _) v, by simpa using h.2.1, fun b hb => (heap_setCell_other w' _ b v hb).trans (h.2.2 b hb)⟩
theorem Only.range {g : Nat} {w w' : World} (h : Only g w w') {b o : Nat} {cs : List Value} (hr : w.rangeAt b o cs) (hne : b ≠ g) : w'.rangeAt b o cs := fun j v hv => (World.cell?_of_block (w := w) (a := ⟨b, o + j, none⟩) (h.2.2 b hne)).trans (hr j v hv)
theorem Only.mrow {g T : Nat} {w w' : World} (h : Only g w w') {b : Nat} {f : Nat → Int} (hr : MRow T w b f) (hne : b ≠ g) : MRow T w' b f := (h.2.2 b hne).trans hr
theorem Only.below {g B : Nat} {w w' : World} (h : Only g w w') (hB : B ≤ g) : Below B w w' := h.1.mono hB

set_option maxRecDepth 100000 in
set_option maxHeartbeats 4000000 in
theorem join_any (c : Nat → Nat) (p q g : Nat) (w : World) (hg : MRow 83 w g (cr c)) (hp : p < 7) (hq : q < 7) (hc : ∀ i, i < 7 → c i < 7) :
    Calls Tryz.prog 87 #[.pointer (some ⟨g, 0, none⟩), .int .i64 (p : Int), .int .i64 (q : Int)] w fun e w' => e = .returned (.tuple #[]) ∧ MRow 83 w' g (cr (joinC c p q)) ∧ Only g w w' := by
  have hcp := hg.cell p hp
  have hcq := hg.cell q hq
  have hbp := hc p hp
  have hbq := hc q hq
  unfold cr at hcp hcq
  obtain ⟨a, Ha⟩ : ∃ a, Hid (c p = a) := ⟨_, rfl⟩
  obtain ⟨b, Hb⟩ : ∃ b, Hid (c q = b) := ⟨_, rfl⟩
  rw [Ha.out] at hcp hbp
  rw [Hb.out] at hcq hbq
  obtain ⟨lo, Hlo⟩ : ∃ lo, Hid (min a b = lo) := ⟨_, rfl⟩
  obtain ⟨hi, Hhi⟩ : ∃ hi, Hid (max a b = hi) := ⟨_, rfl⟩
  have hlo7 : lo < 7 := by have := Hlo.out; omega
  have hhi7 : hi < 7 := by have := Hhi.out; omega
  have HJ : Hid (∀ i, joinC c p q i = if c i = hi then lo else c i) := fun i => by unfold joinC; rw [Ha.out, Hb.out, Hhi.out, Hlo.out]
  have HC7 : Hid (∀ i, i < 7 → c i < 7) := hc
  have hpi : (p : Int) < 7 := by omega
  have hqi : (q : Int) < 7 := by omega
  have hp0 : (0 : Int) ≤ (p : Int) := by omega
  have hq0 : (0 : Int) ≤ (q : Int) := by omega
  have HG : Hid (MRow 83 w g (cr c)) := hg
  clear hc hg
  go_enter Tryz.func87, Tryz.ntmps87
  go_wp2_with fail
  refine wp_region_noPanic ?_
  refine wp_region_held_drew (S := fun w' => w'.cell? ⟨g, p, none⟩ = some (.int .i64 (a : Int)) ∧ w'.cell? ⟨g, q, none⟩ = some (.int .i64 (b : Int))) (by kernel_rfl) (⟨hcp, hcq⟩) (fun hSx => ?_)
  refine wpAnyH_take (i := 0) (v := .pointer (some ⟨g, 0, none⟩)) rfl (by kernel_rfl) (by kernel_rfl) (by kernel_rfl) (fun _ _ _ h => h) (Or.inl ⟨by rfl, fun w' hSw => by (try dsimp only at hSw); go_simp⟩) hSx ?_
  try simp only [Act.put, List.setIfInBounds_toArray]
  refine wpAnyH_take (i := 1) (v := .int .i64 (p : Int)) rfl (by kernel_rfl) (by kernel_rfl) (by kernel_rfl) (fun _ _ _ h => h) (Or.inl ⟨by rfl, fun w' hSw => by (try dsimp only at hSw); go_simp⟩) hSx ?_
  try simp only [Act.put]
  refine wpAnyH_take (i := 2) (v := .pointer (some ⟨g, 0, none⟩)) rfl (by kernel_rfl) (by kernel_rfl) (by kernel_rfl) (fun _ _ _ h => h) (Or.inl ⟨by rfl, fun w' hSw => by (try dsimp only at hSw); go_simp⟩) hSx ?_
  try simp only [Act.put]
  refine wpAnyH_take (i := 3) (v := .pointer (some ⟨g, p, none⟩)) rfl (by kernel_rfl) (by kernel_rfl) (by kernel_rfl) (fun _ _ _ h => h) (Or.inl ⟨by rfl, fun w' hSw => by (try dsimp only at hSw); go_simp⟩) hSx ?_
  try simp only [Act.put]
  refine wpAnyH_take (i := 4) (v := .int .i64 (a : Int)) rfl (by kernel_rfl) (by kernel_rfl) (by kernel_rfl) (fun _ _ _ h => h) (Or.inl ⟨by rfl, fun w' hSw => by (try dsimp only at hSw); go_simp⟩) hSx ?_
  try simp only [Act.put]
  refine wpAnyH_take (i := 5) (v := .pointer (some ⟨g, 0, none⟩)) rfl (by kernel_rfl) (by kernel_rfl) (by kernel_rfl) (fun _ _ _ h => h) (Or.inl ⟨by rfl, fun w' hSw => by (try dsimp only at hSw); go_simp⟩) hSx ?_
  try simp only [Act.put]
  refine wpAnyH_take (i := 6) (v := .int .i64 (q : Int)) rfl (by kernel_rfl) (by kernel_rfl) (by kernel_rfl) (fun _ _ _ h => h) (Or.inl ⟨by rfl, fun w' hSw => by (try dsimp only at hSw); go_simp⟩) hSx ?_
  try simp only [Act.put]
  refine wpAnyH_take (i := 7) (v := .pointer (some ⟨g, 0, none⟩)) rfl (by kernel_rfl) (by kernel_rfl) (by kernel_rfl) (fun _ _ _ h => h) (Or.inl ⟨by rfl, fun w' hSw => by (try dsimp only at hSw); go_simp⟩) hSx ?_
  try simp only [Act.put]
  refine wpAnyH_take (i := 8) (v := .pointer (some ⟨g, q, none⟩)) rfl (by kernel_rfl) (by kernel_rfl) (by kernel_rfl) (fun _ _ _ h => h) (Or.inl ⟨by rfl, fun w' hSw => by (try dsimp only at hSw); go_simp⟩) hSx ?_
  try simp only [Act.put]
  refine wpAnyH_take (i := 9) (v := .int .i64 (b : Int)) rfl (by kernel_rfl) (by kernel_rfl) (by kernel_rfl) (fun _ _ _ h => h) (Or.inl ⟨by rfl, fun w' hSw => by (try dsimp only at hSw); go_simp⟩) hSx ?_
  try simp only [Act.put]
  refine wpAnyH_take (i := 11) (v := .pointer (some ⟨g, 0, none⟩)) rfl (by kernel_rfl) (by kernel_rfl) (by kernel_rfl) (fun _ _ _ h => h) (Or.inl ⟨by rfl, fun w' hSw => by (try dsimp only at hSw); go_simp⟩) hSx ?_
  try simp only [Act.put]
  refine wpAnyH_take (i := 12) (v := .int .i64 (p : Int)) rfl (by kernel_rfl) (by kernel_rfl) (by kernel_rfl) (fun _ _ _ h => h) (Or.inl ⟨by rfl, fun w' hSw => by (try dsimp only at hSw); go_simp⟩) hSx ?_
  try simp only [Act.put]
  refine wpAnyH_take (i := 13) (v := .pointer (some ⟨g, 0, none⟩)) rfl (by kernel_rfl) (by kernel_rfl) (by kernel_rfl) (fun _ _ _ h => h) (Or.inl ⟨by rfl, fun w' hSw => by (try dsimp only at hSw); go_simp⟩) hSx ?_
  try simp only [Act.put]
  refine wpAnyH_take (i := 14) (v := .pointer (some ⟨g, p, none⟩)) rfl (by kernel_rfl) (by kernel_rfl) (by kernel_rfl) (fun _ _ _ h => h) (Or.inl ⟨by rfl, fun w' hSw => by (try dsimp only at hSw); go_simp⟩) hSx ?_
  try simp only [Act.put]
  refine wpAnyH_take (i := 15) (v := .int .i64 (a : Int)) rfl (by kernel_rfl) (by kernel_rfl) (by kernel_rfl) (fun _ _ _ h => h) (Or.inl ⟨by rfl, fun w' hSw => by (try dsimp only at hSw); go_simp⟩) hSx ?_
  try simp only [Act.put]
  refine wpAnyH_take (i := 16) (v := .pointer (some ⟨g, 0, none⟩)) rfl (by kernel_rfl) (by kernel_rfl) (by kernel_rfl) (fun _ _ _ h => h) (Or.inl ⟨by rfl, fun w' hSw => by (try dsimp only at hSw); go_simp⟩) hSx ?_
  try simp only [Act.put]
  refine wpAnyH_take (i := 17) (v := .int .i64 (q : Int)) rfl (by kernel_rfl) (by kernel_rfl) (by kernel_rfl) (fun _ _ _ h => h) (Or.inl ⟨by rfl, fun w' hSw => by (try dsimp only at hSw); go_simp⟩) hSx ?_
  try simp only [Act.put]
  refine wpAnyH_take (i := 18) (v := .pointer (some ⟨g, 0, none⟩)) rfl (by kernel_rfl) (by kernel_rfl) (by kernel_rfl) (fun _ _ _ h => h) (Or.inl ⟨by rfl, fun w' hSw => by (try dsimp only at hSw); go_simp⟩) hSx ?_
  try simp only [Act.put]
  refine wpAnyH_take (i := 19) (v := .pointer (some ⟨g, q, none⟩)) rfl (by kernel_rfl) (by kernel_rfl) (by kernel_rfl) (fun _ _ _ h => h) (Or.inl ⟨by rfl, fun w' hSw => by (try dsimp only at hSw); go_simp⟩) hSx ?_
  try simp only [Act.put]
  refine wpAnyH_take (i := 20) (v := .int .i64 (b : Int)) rfl (by kernel_rfl) (by kernel_rfl) (by kernel_rfl) (fun _ _ _ h => h) (Or.inl ⟨by rfl, fun w' hSw => by (try dsimp only at hSw); go_simp⟩) hSx ?_
  try simp only [Act.put]
  refine wpAnyH_take (i := 10) (v := .int .i64 (lo : Int)) rfl (by kernel_rfl) (by kernel_rfl) (by kernel_rfl) (fun _ _ _ h => h) (Or.inl ⟨by rfl, fun w' hSw => by go_simp; have := Hlo.out; split <;> omega⟩) hSx ?_
  try simp only [Act.put]
  refine wpAnyH_take (i := 21) (v := .int .i64 (hi : Int)) rfl (by kernel_rfl) (by kernel_rfl) (by kernel_rfl) (fun _ _ _ h => h) (Or.inl ⟨by rfl, fun w' hSw => by go_simp; have := Hhi.out; split <;> omega⟩) hSx ?_
  try simp only [Act.put]
  refine wpAnyH_ready (rs := [22]) (by kernel_rfl) (by simp) ?_
  refine AllReadyH.cons rfl (fun J hJ => ?_) AllReadyH.nil
  go_simp
  refine hJ.out _ _ hSx (fun _ => ?_)
  clear hJ J
  try simp only [Act.put, List.setIfInBounds_toArray, List.set_cons_zero, List.set_cons_succ]
  refine wpAnyH_ready (rs := [23]) (by kernel_rfl) (by simp) ?_
  refine AllReadyH.cons rfl (fun J hJ => ?_) AllReadyH.nil
  go_simp
  refine hJ.out _ _ hSx (fun _ => ?_)
  clear hJ J
  try simp only [Act.put, List.setIfInBounds_toArray, List.set_cons_zero, List.set_cons_succ]
  refine wpAnyH_done (by kernel_rfl) ?_ _
  refine NoPanic.normal ?_
  clear hSx hcp hcq
  have hS0 : MRow 83 w.drew g (cr c) := HG.out
  go_wp2_with fail
  go_loopw [33] (fun i wr => ∃ (k : Nat) (d : Nat → Nat), i = .int .i64 k ∧ k ≤ 7 ∧ MRow 83 wr g (cr d) ∧ Hid (∀ j, d j = if j < k then joinC c p q j else c j) ∧ Only g w wr) (fun i _ => (7 - intOf i).toNat)
  case atStart => exact ⟨0, c, rfl, by omega, hS0, (fun j => by simp : ∀ j, c j = if j < 0 then joinC c p q j else c j), (Only.refl g w).drew⟩
  case round =>
    clear hS0
    obtain ⟨k, d, rfl, hk, hK, HD, hO⟩ := hrel
    by_cases hlt : k < 7
    · have hki : (k : Int) < 7 := by omega
      have hk0 : (0 : Int) ≤ (k : Int) := by omega
      have hdec : decide ((k : Int) < 7) = true := by simp; omega
      have hck := hK.cell k hlt
      have hfk := hK.frozen k
      have hdk : d k = c k := by rw [HD.out k, if_neg (by omega)]
      have hc7 := HC7.out k hlt
      unfold cr at hck
      rw [hdk] at hck
      obtain ⟨y, Hy⟩ : ∃ y, Hid (c k = y) := ⟨_, rfl⟩
      rw [Hy.out] at hck hc7
      have HJk : Hid (joinC c p q k = if y = hi then lo else y) := by have := HJ.out k; rwa [Hy.out] at this
      clear hdk
      go_wp2_with fail
      refine wp_region_noPanic ?_
      refine wp_region_held_drew (S := fun w' => w'.cell? ⟨g, k, none⟩ = some (.int .i64 (y : Int))) (by kernel_rfl) (hck) (fun hSx => ?_)
      refine wpAnyH_take (i := 0) (v := .int .i64 (k : Int)) rfl (by kernel_rfl) (by kernel_rfl) (by kernel_rfl) (fun _ _ _ h => h) (Or.inl ⟨by rfl, fun w' hSw => by (try dsimp only at hSw); go_simp⟩) hSx ?_
      try simp only [Act.put, List.setIfInBounds_toArray]
      refine wpAnyH_take (i := 1) (v := .pointer (some ⟨g, 0, none⟩)) rfl (by kernel_rfl) (by kernel_rfl) (by kernel_rfl) (fun _ _ _ h => h) (Or.inl ⟨by rfl, fun w' hSw => by (try dsimp only at hSw); go_simp⟩) hSx ?_
      try simp only [Act.put]
      refine wpAnyH_take (i := 2) (v := .pointer (some ⟨g, k, none⟩)) rfl (by kernel_rfl) (by kernel_rfl) (by kernel_rfl) (fun _ _ _ h => h) (Or.inl ⟨by rfl, fun w' hSw => by (try dsimp only at hSw); go_simp⟩) hSx ?_
      try simp only [Act.put]
      refine wpAnyH_take (i := 3) (v := .int .i64 (y : Int)) rfl (by kernel_rfl) (by kernel_rfl) (by kernel_rfl) (fun _ _ _ h => h) (Or.inl ⟨by rfl, fun w' hSw => by (try dsimp only at hSw); go_simp⟩) hSx ?_
      try simp only [Act.put]
      refine wpAnyH_ready (rs := [4]) (by kernel_rfl) (by simp) ?_
      refine AllReadyH.cons rfl (fun J hJ => ?_) AllReadyH.nil
      go_simp
      refine hJ.out _ _ hSx (fun _ => ?_)
      clear hJ J
      try simp only [Act.put, List.setIfInBounds_toArray, List.set_cons_zero, List.set_cons_succ]
      refine wpAnyH_ready (rs := [5]) (by kernel_rfl) (by simp) ?_
      refine AllReadyH.cons rfl (fun J hJ => ?_) AllReadyH.nil
      go_simp
      refine hJ.out _ _ hSx (fun _ => ?_)
      clear hJ J
      try simp only [Act.put, List.setIfInBounds_toArray, List.set_cons_zero, List.set_cons_succ]
      refine wpAnyH_done (by kernel_rfl) ?_ _
      refine NoPanic.normal ?_
      have hcd : wr.drew.cell? ⟨g, k, none⟩ = some (.int .i64 (y : Int)) := hSx
      have hfd : wr.drew.frozen? ⟨g, k, none⟩ = false := hfk
      clear hSx
      by_cases e : y = hi
      · subst e
        have he : ((y : Int) == (y : Int)) = true := by simp
        go_wp2_with fail
        go_roundw
        case rel =>
          refine ⟨k + 1, fun j => if j = k then lo else d j, by go_num, by omega, ?_, (fun j => ?_ : ∀ j, (if j = k then lo else d j) = if j < k + 1 then joinC c p q j else c j), hO.drew.set k _⟩
          · have h := MRow.set (w := wr.drew) hK k (lo : Int)
            refine h.congr fun j _ => ?_
            unfold upd cr
            by_cases e : j = k <;> simp [e]
          · by_cases e : j = k
            · subst e
              rw [if_pos rfl, if_pos (by omega), HJk.out, if_pos (by trivial)]
            · rw [if_neg e, HD.out j]
              by_cases h : j < k
              · rw [if_pos h, if_pos (by omega)]
              · rw [if_neg h, if_neg (by omega)]
        case measure => simp [intOf]; omega
      · have he : ((y : Int) == (hi : Int)) = false := by simp; omega
        have HE : Hid (¬ y = hi) := e
        clear e
        go_wp2_with fail
        go_roundw
        case rel =>
          refine ⟨k + 1, d, by go_num, by omega, hK, (fun j => ?_ : ∀ j, d j = if j < k + 1 then joinC c p q j else c j), hO.drew⟩
          by_cases e : j = k
          · subst e
            rw [HD.out j, if_neg (by omega), if_pos (by omega), HJk.out, if_neg HE.out, Hy.out]
          · rw [HD.out j]
            by_cases h : j < k
            · rw [if_pos h, if_pos (by omega)]
            · rw [if_neg h, if_neg (by omega)]
        case measure => simp [intOf]; omega
    · obtain rfl : k = 7 := by omega
      go_wp2
      go_end0
      refine ⟨rfl, hK.congr fun j hj => ?_, hO⟩
      unfold cr
      rw [HD.out j, if_pos hj]

end Go.Proofs.YtgpkhfpejopacabGreatDoor.Gc
