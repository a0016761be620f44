/- The walk of Orthogonal. -/
import Derived.Test.YtjfjdidibglhaabL6
import Derived.Test.YtjfjdidibglhaabL3
namespace Go.Proofs.Ytjfjdidibglhaab
open Go.RowKit

/-- What is wrong with two squares. -/
def orF (s t : Int) (L M : List Int) : Nat := if lF s L ≠ 0 then lF s L else if lF t M ≠ 0 then lF t M else if s ≠ t then 2 else 0
set_option maxRecDepth 100000 in
set_option maxHeartbeats 8000000 in
theorem Orthogonal_any (s t : Int) (L M : List Int) (u v : Value) (w : World) (b : Bool) (hu : Sl w u L) (hv : Sl w v M) (hL : L.length ≤ maxLen) (hM : M.length ≤ maxLen)
    (hb : orF s t L M = 0 → (b = true ↔ Orth s.toNat (sq s.toNat L) (sq s.toNat M))) (hb0 : orF s t L M ≠ 0 → b = false) :
    Calls Try.prog 5 #[.agg #[.int .i64 s, u], .agg #[.int .i64 t, v]] w fun e w' => e = .returned (.tuple #[.bool b, .int .i64 (orF s t L M : Int)]) ∧ Below w.heap.size w w' := by
  obtain ⟨ua, ul, uc, rfl⟩ : ∃ a l c, u = .slice a l c := by obtain ⟨a, c, e, _⟩ := hu; exact ⟨a, _, c, e⟩
  obtain ⟨va, vn, vc, rfl⟩ : ∃ a l c, v = .slice a l c := by obtain ⟨a, c, e, _⟩ := hv; exact ⟨a, _, c, e⟩
  have HU : Hid (Sl w (.slice ua ul uc) L) := hu
  have HV : Hid (Sl w (.slice va vn vc) M) := hv
  obtain ⟨z, hz⟩ : ∃ z, z = orF s t L M := ⟨_, rfl⟩
  have HZ : Hid (z = orF s t L M) := hz
  have HB : Hid (orF s t L M = 0 → (b = true ↔ Orth s.toNat (sq s.toNat L) (sq s.toNat M))) := hb
  have HB0 : Hid (orF s t L M ≠ 0 → b = false) := hb0
  have C1 := fun W (bW : Below w.heap.size w W) => Check_any s L _ W (hu.below bW) hL
  have C2 := fun W (bW : Below w.heap.size w W) => Check_any t M _ W (hv.below bW) hM
  rw [← hz]
  clear hz hb hb0 hu hv
  go_enter Try.func5, Try.ntmps5
  go_wp2
  go_loopw [13] (fun i wr => ∃ k : Nat, i = .int .i64 (k : Int) ∧ k ≤ 2 ∧ Hid ((1 ≤ k → lF s L = 0) ∧ (2 ≤ k → lF t M = 0)) ∧ wr.heap[w.heap.size]? = some (.cells #[.int .i64 s, .slice ua ul uc] 24 (0, 0)) ∧ wr.heap[w.heap.size + 1]? = some (.cells #[.int .i64 t, .slice va vn vc] 24 (0, 0)) ∧ wr.heap[w.heap.size + 1 + 1]? = some (.cells #[.int .i64 s, .slice ua ul uc, .int .i64 t, .slice va vn vc] 24 (0, 0)) ∧ Below w.heap.size w wr) (fun i _ => (2 - intOf i).toNat)
  case atStart => exact ⟨0, rfl, by omega, ⟨fun h => by omega, fun h => by omega⟩, (Below.heap_alloc _ _ _ (by simp; omega)).trans ((Below.heap_alloc _ _ _ (by simp)).trans (heap_alloc_new w _)), (Below.heap_alloc _ _ _ (by simp)).trans (by have := heap_alloc_new (w.alloc (.cells #[.int .i64 s, .slice ua ul uc] 24)) (.cells #[.int .i64 t, .slice va vn vc] 24); simpa using this), by have := heap_alloc_new ((w.alloc (.cells #[.int .i64 s, .slice ua ul uc] 24)).alloc (.cells #[.int .i64 t, .slice va vn vc] 24)) (.cells #[.int .i64 s, .slice ua ul uc, .int .i64 t, .slice va vn vc] 24); simpa using this, Below.next (Below.next (balloc _ _) (balloc _ _)) (balloc _ _)⟩
  case round =>
    obtain ⟨k, rfl, hk, HK, hx, hy, hs, hB⟩ := hrel
    have a0 : wr.cell? ⟨w.heap.size + 1 + 1, 0, none⟩ = some (.int .i64 s) := by rw [cell_of_row _ _ _ _ _ _ hs]; rfl
    have a1 : wr.cell? ⟨w.heap.size + 1 + 1, 1, none⟩ = some (.slice ua ul uc) := by rw [cell_of_row _ _ _ _ _ _ hs]; rfl
    have a2 : wr.cell? ⟨w.heap.size + 1 + 1, 2, none⟩ = some (.int .i64 t) := by rw [cell_of_row _ _ _ _ _ _ hs]; rfl
    have a3 : wr.cell? ⟨w.heap.size + 1 + 1, 3, none⟩ = some (.slice va vn vc) := by rw [cell_of_row _ _ _ _ _ _ hs]; rfl
    have hl3 : w.heap.size + 1 + 1 < wr.heap.size := (Array.getElem?_eq_some_iff.1 hs).1
    rcases (show k = 0 ∨ k = 1 ∨ k = 2 by omega) with rfl | rfl | rfl
    · clear HK hk
      by_cases h0 : lF s L = 0
      · rw [h0] at C1
        have HK2 : Hid ((1 ≤ 0 + 1 → lF s L = 0) ∧ (2 ≤ 0 + 1 → lF t M = 0)) := ⟨fun _ => h0, fun h => by omega⟩
        clear h0
        go_wp2_with (go_at_call 8; refine (C1 _ (Below.next hB (balloc wr _))).mono ?_; rintro e w1 ⟨rfl, b1⟩)
        have bb := Below.next (balloc wr (.cells #[.int .i64 s, .slice ua ul uc] 24)) b1
        go_roundw
        case rel => exact ⟨0 + 1, by go_num, by omega, HK2, (bb.block _ (by omega)).trans hx, (bb.block _ (by omega)).trans hy, (bb.block _ hl3).trans hs, Below.next hB bb⟩
        case measure => simp [intOf]
      · have hz : z = lF s L := by rw [HZ.out]; unfold orF; rw [if_pos h0]
        have hzn : ((z : Int) != 0) = true := by simp; omega
        obtain rfl := HB0.out (by unfold orF; rw [if_pos h0]; exact h0)
        rw [← hz] at C1
        clear h0 hz
        go_wp2_with (go_at_call 8; refine (C1 _ (Below.next hB (balloc wr _))).mono ?_; rintro e w1 ⟨rfl, b1⟩)
        go_ret2
        exact ⟨rfl, Below.next (Below.next hB (balloc wr _)) b1⟩
    · have h00 := HK.out.1 (by omega)
      clear HK hk
      by_cases h0 : lF t M = 0
      · rw [h0] at C2
        have HK2 : Hid ((1 ≤ 1 + 1 → lF s L = 0) ∧ (2 ≤ 1 + 1 → lF t M = 0)) := ⟨fun _ => h00, fun h => h0⟩
        clear h0 h00
        go_wp2_with (go_at_call 8; refine (C2 _ (Below.next hB (balloc wr _))).mono ?_; rintro e w1 ⟨rfl, b1⟩)
        have bb := Below.next (balloc wr (.cells #[.int .i64 t, .slice va vn vc] 24)) b1
        go_roundw
        case rel => exact ⟨1 + 1, by go_num, by omega, HK2, (bb.block _ (by omega)).trans hx, (bb.block _ (by omega)).trans hy, (bb.block _ hl3).trans hs, Below.next hB bb⟩
        case measure => simp [intOf]
      · have hz : z = lF t M := by rw [HZ.out]; unfold orF; rw [if_neg (by omega), if_pos h0]
        have hzn : ((z : Int) != 0) = true := by simp; omega
        obtain rfl := HB0.out (by unfold orF; rw [if_neg (by omega), if_pos h0]; exact h0)
        rw [← hz] at C2
        clear h0 hz h00
        go_wp2_with (go_at_call 8; refine (C2 _ (Below.next hB (balloc wr _))).mono ?_; rintro e w1 ⟨rfl, b1⟩)
        go_ret2
        exact ⟨rfl, Below.next (Below.next hB (balloc wr _)) b1⟩
    · have h1 := HK.out.1 (by omega)
      have h2 := HK.out.2 (by omega)
      clear HK hk C1 C2 a0 a1 a2 a3 hs
      have x0 : wr.cell? ⟨w.heap.size, 0, none⟩ = some (.int .i64 s) := by rw [cell_of_row _ _ _ _ _ _ hx]; rfl
      have x1 : wr.cell? ⟨w.heap.size, 1, none⟩ = some (.slice ua ul uc) := by rw [cell_of_row _ _ _ _ _ _ hx]; rfl
      have y0 : wr.cell? ⟨w.heap.size + 1, 0, none⟩ = some (.int .i64 t) := by rw [cell_of_row _ _ _ _ _ _ hy]; rfl
      have y1 : wr.cell? ⟨w.heap.size + 1, 1, none⟩ = some (.slice va vn vc) := by rw [cell_of_row _ _ _ _ _ _ hy]; rfl
      by_cases he : s = t
      · subst he
        have hne : (s != s) = false := by simp
        have hz : z = 0 := by rw [HZ.out]; unfold orF; rw [if_neg (by omega), if_neg (by omega), if_neg (by simp)]
        subst hz
        obtain ⟨n, rfl, G1⟩ := lF_ok h1
        obtain ⟨n', e', G2⟩ := lF_ok h2
        obtain rfl : n = n' := by omega
        have hb := HB.out HZ.out.symm
        have hnn : ((n : Int)).toNat = n := by omega
        rw [hnn] at hb
        have A1 := fun W (b : Below w.heap.size w W) => asked_any n n L _ W (HU.out.below b) G1.len G1.le G1.le (fun j hj => (G1.at0 j hj).1)
        have A2 := fun W (b : Below w.heap.size w W) => asked_any n n M _ W (HV.out.below b) G2.len G1.le G1.le (fun j hj => (G2.at0 j hj).1)
        have A3 := fun y1 y2 W (h1 : Teller y1 n n (sq n L) W) (h2 : Teller y2 n n (sq n M) W) => orthogonal_any n (sq n L) (sq n M) y1 y2 W b G1.le (fun r c hr hc => Nat.lt_of_lt_of_le (G1.lat.lt r c hr hc) G1.le) (fun r c hr hc => Nat.lt_of_lt_of_le (G2.lat.lt r c hr hc) G1.le) h1 h2 hb
        have HS : Hid (w.heap.size + 1 < wr.heap.size) := (by omega : w.heap.size + 1 < wr.heap.size)
        have SS : Hid (∀ W, Below wr.heap.size wr W → W.cell? ⟨w.heap.size, 0, none⟩ = some (.int .i64 (n : Int)) ∧ W.rangeAt w.heap.size 0 [.int .i64 (n : Int), .slice ua ul uc] ∧ W.rangeAt (w.heap.size + 1) 0 [.int .i64 (n : Int), .slice va vn vc]) := fun W bW => by
          have k : ∀ o, W.cell? ⟨w.heap.size, o, none⟩ = wr.cell? ⟨w.heap.size, o, none⟩ := fun o => bW.cell (p := ⟨w.heap.size, o, none⟩) (by show w.heap.size < wr.heap.size; omega)
          have k2 : ∀ o, W.cell? ⟨w.heap.size + 1, o, none⟩ = wr.cell? ⟨w.heap.size + 1, o, none⟩ := fun o => bW.cell (p := ⟨w.heap.size + 1, o, none⟩) (by show w.heap.size + 1 < wr.heap.size; omega)
          exact ⟨(k 0).trans x0, range_two W _ _ _ ((k 0).trans x0) ((k 1).trans x1), range_two W _ _ _ ((k2 0).trans y0) ((k2 1).trans y1)⟩
        clear h1 h2 G1 G2 e' hnn HU HV HZ HB HB0 hb hx hy hl3
        go_wp2_with fail
        refine wp_region_noPanic ?_
        refine wp_region_held_drew (S := fun w' => w'.cell? ⟨w.heap.size, 0, none⟩ = some (.int .i64 (n : Int)) ∧ w'.rangeAt w.heap.size 0 [.int .i64 (n : Int), .slice ua ul uc] ∧ w'.rangeAt (w.heap.size + 1) 0 [.int .i64 (n : Int), .slice va vn vc]) (by kernel_rfl) (SS.out _ (Below.refl _ wr).drew) (fun hSx => ?_)
        refine wpAnyH_take (i := 0) (v := .pointer (some ⟨w.heap.size, 0, none⟩)) rfl (by kernel_rfl) (by kernel_rfl) (by kernel_rfl) (fun _ _ _ h => h) (Or.inl ⟨by rfl, fun w' hSw => by (try dsimp only at hSw); go_simp⟩) hSx ?_
        try simp only [Act.put, List.setIfInBounds_toArray]
        refine wpAnyH_take (i := 1) (v := .int .i64 (n : Int)) rfl (by kernel_rfl) (by kernel_rfl) (by kernel_rfl) (fun _ _ _ h => h) (Or.inl ⟨by rfl, fun w' hSw => by (try dsimp only at hSw); have hSw1 := hSw.1; go_simp⟩) hSx ?_
        try simp only [Act.put]
        refine wpAnyH_take (i := 2) (v := .agg #[.int .i64 (n : Int), .slice ua ul uc]) rfl (by kernel_rfl) (by kernel_rfl) (by kernel_rfl) (fun _ _ _ h => h) (yieldsIf_load_mid (by rfl) 24 _ rfl w.heap.size 0 rfl [.int .i64 (n : Int), .slice ua ul uc] _ (fun _ h => h.2.1) Try.underlying24 rfl inf24) hSx ?_
        try simp only [Act.put]
        refine wpAnyH_take (i := 4) (v := .agg #[.int .i64 (n : Int), .slice va vn vc]) rfl (by kernel_rfl) (by kernel_rfl) (by kernel_rfl) (fun _ _ _ h => h) (yieldsIf_load_mid (by rfl) 24 _ rfl (w.heap.size + 1) 0 rfl [.int .i64 (n : Int), .slice va vn vc] _ (fun _ h => h.2.2) Try.underlying24 rfl inf24) hSx ?_
        try simp only [Act.put]
        refine wpAnyH_ready (rs := [3]) (by kernel_rfl) (by simp) ?_
        refine AllReadyH.cons rfl (fun J hJ => ?_) AllReadyH.nil
        go_simp
        refine (A1 _ hB.drew).mono ?_
        rintro e w5 ⟨⟨q1, rfl, hT1⟩, b5⟩
        have b5' : Below wr.heap.size wr w5 := Below.next (Below.refl _ wr).drew b5
        go_wp2_with fail
        refine hJ.out _ _ (SS.out _ b5') (fun hSy => ?_)
        clear hJ J
        try simp only [Act.put, List.setIfInBounds_toArray, List.set_cons_zero, List.set_cons_succ]
        refine wpAnyH_ready (rs := [5]) (by kernel_rfl) (by simp) ?_
        refine AllReadyH.cons rfl (fun J hJ => ?_) AllReadyH.nil
        go_simp
        refine (A2 w5 (Below.next hB b5')).mono ?_
        rintro e w6 ⟨⟨q2, rfl, hT2⟩, b6⟩
        have b6' := Below.next b5' b6
        go_wp2_with fail
        refine hJ.out _ _ (SS.out _ b6') (fun hSz => ?_)
        clear hJ J
        try simp only [Act.put, List.setIfInBounds_toArray, List.set_cons_zero, List.set_cons_succ]
        refine wpAnyH_ready (rs := [6]) (by kernel_rfl) (by simp) ?_
        refine AllReadyH.cons rfl (fun J hJ => ?_) AllReadyH.nil
        go_simp
        refine (A3 q1 q2 w6 (hT1.below b6) hT2).mono ?_
        rintro e w7 ⟨rfl, b7⟩
        have b7' := Below.next b6' b7
        go_wp2_with fail
        refine hJ.out _ _ (SS.out _ b7') (fun hSu => ?_)
        clear hJ J
        try simp only [Act.put, List.setIfInBounds_toArray, List.set_cons_zero, List.set_cons_succ]
        refine wpAnyH_ready (rs := [7]) (by kernel_rfl) (by simp) ?_
        refine AllReadyH.cons rfl (fun J hJ => ?_) AllReadyH.nil
        go_simp
        refine hJ.out _ _ (SS.out _ b7') (fun _ => ?_)
        clear hJ J
        try simp only [Act.put, List.setIfInBounds_toArray, List.set_cons_zero, List.set_cons_succ]
        refine wpAnyH_ready (rs := [8]) (by kernel_rfl) (by simp) ?_
        refine AllReadyH.cons rfl (fun J hJ => ?_) AllReadyH.nil
        go_simp
        refine hJ.out _ _ (SS.out _ b7') (fun _ => ?_)
        clear hJ J
        try simp only [Act.put, List.setIfInBounds_toArray, List.set_cons_zero, List.set_cons_succ]
        refine wpAnyH_done (by kernel_rfl) ?_ _
        refine NoPanic.normal ?_
        go_wp2
        go_ret2
        exact ⟨rfl, Below.next hB b7'⟩
      · have hne : (s != t) = true := by simp [he]
        have hz : z = 2 := by rw [HZ.out]; unfold orF; rw [if_neg (by omega), if_neg (by omega), if_pos he]
        subst hz
        obtain rfl := HB0.out (by rw [← HZ.out]; omega)
        clear HZ HB HB0 he h1 h2
        go_wp2
        go_ret2
        exact ⟨rfl, hB⟩
end Go.Proofs.Ytjfjdidibglhaab
