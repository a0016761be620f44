/- The walk of Alike. -/
import Derived.Test.YtncnaaohihmjnaaQ12
import Derived.Test.YtncnaaohihmjnaaQ5
namespace Go.Proofs.Ytncnaaohihmjnaa
open Go.RowKit

/-- What is wrong with two squares whose names are asked. -/
def aF (s t : Int) (L M : List Int) : Nat := if lF s L ≠ 0 then lF s L else if lF t M ≠ 0 then lF t M else if s ≠ t then 2 else if 6 < s then 3 else 0
def AlIs (s t : Int) (L M : List Int) (x : Value) (z : Int) (w : World) : Prop :=
  (aF s t L M ≠ 0 ∧ z = (aF s t L M : Int) ∧ x = .slice none 0 0) ∨ (aF s t L M = 0 ∧ ((∃ k, alK s.toNat (sq s.toNat L) (sq s.toNat M) = some k ∧ z = 0 ∧ Sl w x (pl s.toNat (un s.toNat k))) ∨ (alK s.toNat (sq s.toNat L) (sq s.toNat M) = none ∧ z = 4 ∧ x = .slice none 0 0)))
/-- Two squares in two boxes and in a row of both, as they are read later. -/
theorem al_box (s t : Int) (u v : Value) (w : World) : ∀ W, Below (((w.alloc (.cells #[.int .i64 s, u] 24)).alloc (.cells #[.int .i64 t, v] 24)).alloc (.cells #[.int .i64 s, u, .int .i64 t, v] 24)).heap.size (((w.alloc (.cells #[.int .i64 s, u] 24)).alloc (.cells #[.int .i64 t, v] 24)).alloc (.cells #[.int .i64 s, u, .int .i64 t, v] 24)) W →
    (W.cell? ⟨w.heap.size, 0, none⟩ = some (.int .i64 s) ∧ W.cell? ⟨w.heap.size, 1, none⟩ = some u ∧ W.cell? ⟨w.heap.size + 1, 0, none⟩ = some (.int .i64 t) ∧ W.cell? ⟨w.heap.size + 1, 1, none⟩ = some v) ∧ (W.cell? ⟨w.heap.size + 1 + 1, 0, none⟩ = some (.int .i64 s) ∧ W.cell? ⟨w.heap.size + 1 + 1, 1, none⟩ = some u ∧ W.cell? ⟨w.heap.size + 1 + 1, 2, none⟩ = some (.int .i64 t) ∧ W.cell? ⟨w.heap.size + 1 + 1, 3, none⟩ = some v) := fun W b => by
  have e1 : (w.alloc (.cells #[.int .i64 s, u] 24)).heap.size = w.heap.size + 1 := by simp
  have e2 : ((w.alloc (.cells #[.int .i64 s, u] 24)).alloc (.cells #[.int .i64 t, v] 24)).heap.size = w.heap.size + 1 + 1 := by simp
  have e3 : (((w.alloc (.cells #[.int .i64 s, u] 24)).alloc (.cells #[.int .i64 t, v] 24)).alloc (.cells #[.int .i64 s, u, .int .i64 t, v] 24)).heap.size = w.heap.size + 1 + 1 + 1 := by simp
  rw [e3] at b
  have h3 := heap_alloc_new ((w.alloc (.cells #[.int .i64 s, u] 24)).alloc (.cells #[.int .i64 t, v] 24)) (.cells #[.int .i64 s, u, .int .i64 t, v] 24)
  rw [e2] at h3
  have h2 := heap_alloc_new (w.alloc (.cells #[.int .i64 s, u] 24)) (.cells #[.int .i64 t, v] 24)
  rw [e1] at h2
  have h2' : (((w.alloc (.cells #[.int .i64 s, u] 24)).alloc (.cells #[.int .i64 t, v] 24)).alloc (.cells #[.int .i64 s, u, .int .i64 t, v] 24)).heap[w.heap.size + 1]? = _ := (Below.heap_alloc _ _ _ (by rw [e2]; omega)).trans h2
  have h1' : (((w.alloc (.cells #[.int .i64 s, u] 24)).alloc (.cells #[.int .i64 t, v] 24)).alloc (.cells #[.int .i64 s, u, .int .i64 t, v] 24)).heap[w.heap.size]? = _ := (Below.heap_alloc _ _ _ (by rw [e2]; omega)).trans ((Below.heap_alloc _ _ _ (by rw [e1]; omega)).trans (heap_alloc_new w (.cells #[.int .i64 s, u] 24)))
  have k1 := (b.block w.heap.size (by omega)).trans h1'
  have k2 := (b.block (w.heap.size + 1) (by omega)).trans h2'
  have k3 := (b.block (w.heap.size + 1 + 1) (by omega)).trans h3
  refine ⟨⟨?_, ?_, ?_, ?_⟩, ?_, ?_, ?_, ?_⟩
  · rw [cell_of_row _ _ _ _ _ _ k1]; rfl
  · rw [cell_of_row _ _ _ _ _ _ k1]; rfl
  · rw [cell_of_row _ _ _ _ _ _ k2]; rfl
  · rw [cell_of_row _ _ _ _ _ _ k2]; rfl
  · rw [cell_of_row _ _ _ _ _ _ k3]; rfl
  · rw [cell_of_row _ _ _ _ _ _ k3]; rfl
  · rw [cell_of_row _ _ _ _ _ _ k3]; rfl
  · rw [cell_of_row _ _ _ _ _ _ k3]; rfl
set_option maxRecDepth 100000 in
set_option maxHeartbeats 16000000 in
theorem Alike_any (s t : Int) (L M : List Int) (u v : Value) (w : World) (hu : Sl w u L) (hv : Sl w v M) (hL : L.length ≤ maxLen) (hM : M.length ≤ maxLen) :
    Calls Try.prog 22 #[.agg #[.int .i64 s, u], .agg #[.int .i64 t, v]] w fun e w' => (∃ x z, e = .returned (.tuple #[x, .int .i64 z]) ∧ AlIs s t L M x z w') ∧ Below w.heap.size w w' := by
  obtain ⟨w3, Hw3⟩ : ∃ w3, Hid (w3 = ((w.alloc (.cells #[.int .i64 s, u] 24)).alloc (.cells #[.int .i64 t, v] 24)).alloc (.cells #[.int .i64 s, u, .int .i64 t, v] 24)) := ⟨_, rfl⟩
  have HB3 : Hid (Below w.heap.size w w3) := by rw [Hw3.out]; exact Below.next (two_below w _ _) (balloc _ _)
  have HC : Hid (∀ W, Below w3.heap.size w3 W → (W.cell? ⟨w.heap.size, 0, none⟩ = some (.int .i64 s) ∧ W.cell? ⟨w.heap.size, 1, none⟩ = some u ∧ W.cell? ⟨w.heap.size + 1, 0, none⟩ = some (.int .i64 t) ∧ W.cell? ⟨w.heap.size + 1, 1, none⟩ = some v) ∧ (W.cell? ⟨w.heap.size + 1 + 1, 0, none⟩ = some (.int .i64 s) ∧ W.cell? ⟨w.heap.size + 1 + 1, 1, none⟩ = some u ∧ W.cell? ⟨w.heap.size + 1 + 1, 2, none⟩ = some (.int .i64 t) ∧ W.cell? ⟨w.heap.size + 1 + 1, 3, none⟩ = some v)) := by rw [Hw3.out]; exact al_box s t u v w
  have K1 : Hid (∀ W, Below w3.heap.size w3 W → Calls Try.prog 30 #[.agg #[.int .i64 s, u]] W fun e w' => e = .returned (.int .i64 (lF s L : Int)) ∧ Below W.heap.size W w') := fun W b => Check_any s L u W (hu.below (Below.next HB3.out b)) hL
  have K2 : Hid (∀ W, Below w3.heap.size w3 W → Calls Try.prog 30 #[.agg #[.int .i64 t, v]] W fun e w' => e = .returned (.int .i64 (lF t M : Int)) ∧ Below W.heap.size W w') := fun W b => Check_any t M v W (hv.below (Below.next HB3.out b)) hM
  have HU : Hid (Sl w u L) := hu
  have HV : Hid (Sl w v M) := hv
  obtain ⟨ua, uc, rfl, _⟩ := id hu
  obtain ⟨va, vc, rfl, _⟩ := id hv
  generalize hul : L.length = ul at *
  generalize hvl : M.length = vl at *
  clear hu hv
  go_enter Try.func22, Try.ntmps22
  go_wp2
  go_loopw [15] (fun i wr => ∃ i' : Nat, i = .int .i64 (i' : Int) ∧ i' ≤ 2 ∧ Hid (1 ≤ i' → lF s L = 0) ∧ Hid (2 ≤ i' → lF t M = 0) ∧ Below w3.heap.size w3 wr) (fun i _ => (2 - intOf i).toNat)
  case atStart => exact ⟨0, rfl, by omega, (show 1 ≤ 0 → _ from fun h => by omega), (show 2 ≤ 0 → _ from fun h => by omega), by rw [Hw3.out]; exact Below.refl _ _⟩
  case round =>
    obtain ⟨i, rfl, hi, H1, H2, hB⟩ := hrel
    obtain ⟨⟨a0, a1, b0, b1⟩, c0, c1, c2, c3⟩ := HC.out _ hB
    rcases (show i = 0 ∨ i = 1 ∨ i = 2 by omega) with rfl | rfl | rfl
    · have E := fun W b => K1.out W b
      obtain ⟨z, Hz⟩ : ∃ z, Hid (lF s L = z) := ⟨_, rfl⟩
      rw [Hz.out] at E
      cases z with
      | zero =>
        go_wp2_with (go_at_call 30; refine (E _ (Below.next hB (balloc wr _))).mono ?_; rintro e w1 ⟨rfl, q1⟩; have d1 := Below.next (Below.next hB (balloc wr _)) q1)
        go_roundw
        case rel => exact ⟨1, by go_num, by omega, (show 1 ≤ 1 → _ from fun _ => Hz.out), (show 2 ≤ 1 → _ from fun h => by omega), d1⟩
        case measure => simp [intOf]
      | succ z =>
        have hne : (((z + 1 : Nat) : Int) != 0) = true := bne_iff_ne.2 (by omega)
        obtain ⟨Z, HZ⟩ : ∃ Z : Int, Hid (Z = ((z + 1 : Nat) : Int)) := ⟨_, rfl⟩
        rw [← HZ.out] at E hne
        have HA : Hid (aF s t L M = z + 1) := by show _ = _; unfold aF; rw [if_pos (by rw [Hz.out]; omega), Hz.out]
        go_wp2_with (go_at_call 30; refine (E _ (Below.next hB (balloc wr _))).mono ?_; rintro e w1 ⟨rfl, q1⟩; have d1 := Below.next (Below.next hB (balloc wr _)) q1)
        go_ret2
        exact ⟨⟨_, _, rfl, .inl ⟨by rw [HA.out]; omega, by rw [HA.out]; exact HZ.out, rfl⟩⟩, Below.next HB3.out d1⟩
    · have h0 := H1.out (by omega)
      have E := fun W b => K2.out W b
      obtain ⟨z, Hz⟩ : ∃ z, Hid (lF t M = z) := ⟨_, rfl⟩
      rw [Hz.out] at E
      cases z with
      | zero =>
        go_wp2_with (go_at_call 30; refine (E _ (Below.next hB (balloc wr _))).mono ?_; rintro e w1 ⟨rfl, q1⟩; have d1 := Below.next (Below.next hB (balloc wr _)) q1)
        go_roundw
        case rel => exact ⟨2, by go_num, by omega, (show 1 ≤ 2 → _ from fun _ => h0), (show 2 ≤ 2 → _ from fun h => Hz.out), d1⟩
        case measure => simp [intOf]
      | succ z =>
        have hne : (((z + 1 : Nat) : Int) != 0) = true := bne_iff_ne.2 (by omega)
        obtain ⟨Z, HZ⟩ : ∃ Z : Int, Hid (Z = ((z + 1 : Nat) : Int)) := ⟨_, rfl⟩
        rw [← HZ.out] at E hne
        have HA : Hid (aF s t L M = z + 1) := by show _ = _; unfold aF; rw [if_neg (by omega), if_pos (by rw [Hz.out]; omega), Hz.out]
        clear h0
        go_wp2_with (go_at_call 30; refine (E _ (Below.next hB (balloc wr _))).mono ?_; rintro e w1 ⟨rfl, q1⟩; have d1 := Below.next (Below.next hB (balloc wr _)) q1)
        go_ret2
        exact ⟨⟨_, _, rfl, .inl ⟨by rw [HA.out]; omega, by rw [HA.out]; exact HZ.out, rfl⟩⟩, Below.next HB3.out d1⟩
    · have h0 := H1.out (by omega)
      have h0' := H2.out (by omega)
      obtain ⟨n, rfl, G1⟩ := lF_ok h0
      by_cases hst : (n : Int) = t
      · subst hst
        obtain ⟨n', en, G2⟩ := lF_ok h0'
        obtain rfl : n = n' := by omega
        have hne : ((n : Int) != (n : Int)) = false := by simp
        by_cases h6 : n ≤ 6
        · have hd6 : decide ((6 : Int) < (n : Int)) = false := decide_eq_false (by omega)
          have HA : Hid (aF n n L M = 0) := by show _ = _; unfold aF; rw [if_neg (by omega), if_neg (by omega), if_neg (by simp), if_neg (by omega)]
          have hn1 := G1.pos
          have A1 := fun W (b : Below w3.heap.size w3 W) => productOf_any n L _ W (HU.out.below (Below.next HB3.out b)) G1
          have A2 := fun W (b : Below w3.heap.size w3 W) => productOf_any n M _ W (HV.out.below (Below.next HB3.out b)) G2
          have A3 := fun x y W (hx : Teller x n n (sq n L) W) (hy : Teller y n n (sq n M) W) => names_any n (sq n L) (sq n M) x y W hn1 h6 G1.lat.lt hx hy
          have HS : Hid (∀ w', Below wr.heap.size wr w' → w'.cell? ⟨w.heap.size, 0, none⟩ = some (.int .i64 (n : Int)) ∧ w'.rangeAt w.heap.size 0 [.int .i64 (n : Int), .slice ua ul uc] ∧ w'.rangeAt (w.heap.size + 1) 0 [.int .i64 (n : Int), .slice va vl vc]) := fun w' b' => by
            obtain ⟨⟨p0, p1, p2, p3⟩, _⟩ := HC.out _ (Below.next hB b')
            exact ⟨p0, range_two _ _ _ _ p0 p1, range_two _ _ _ _ p2 p3⟩
          clear h0 h0' G1 G2 K1 K2 H1 H2 en
          go_wp2_with fail
          refine wp_region_noPanic ?_
          refine wp_region_held_drew (S := fun w' => w'.cell? ⟨w.heap.size, 0, none⟩ = some (.int .i64 (n : Int)) ∧ w'.rangeAt w.heap.size 0 [.int .i64 (n : Int), .slice ua ul uc] ∧ w'.rangeAt (w.heap.size + 1) 0 [.int .i64 (n : Int), .slice va vl vc]) (by kernel_rfl) (HS.out _ (Below.refl _ wr).drew) (fun hSx => ?_)
          have d0 : Below wr.heap.size wr wr.drew := (Below.refl _ wr).drew
          refine wpAnyH_take (i := 0) (v := .pointer (some ⟨w.heap.size, 0, none⟩)) rfl (by kernel_rfl) (by kernel_rfl) (by kernel_rfl) (fun _ _ _ h => h) (Or.inl ⟨by rfl, fun w' hSw => by (try dsimp only at hSw); obtain ⟨hs0, hs1, hs2⟩ := hSw; go_simp⟩) hSx ?_
          try simp only [Act.put, List.setIfInBounds_toArray]
          refine wpAnyH_take (i := 1) (v := .int .i64 (n : Int)) rfl (by kernel_rfl) (by kernel_rfl) (by kernel_rfl) (fun _ _ _ h => h) (Or.inl ⟨by rfl, fun w' hSw => by (try dsimp only at hSw); obtain ⟨hs0, hs1, hs2⟩ := hSw; go_simp⟩) hSx ?_
          try simp only [Act.put]
          refine wpAnyH_take (i := 2) (v := .agg #[.int .i64 (n : Int), .slice ua ul uc]) rfl (by kernel_rfl) (by kernel_rfl) (by kernel_rfl) (fun _ _ _ h => h) (yieldsIf_load_mid (by rfl) 24 _ rfl w.heap.size 0 rfl [.int .i64 (n : Int), .slice ua ul uc] _ (fun _ h => h.2.1) Try.underlying24 rfl inf24) hSx ?_
          try simp only [Act.put]
          refine wpAnyH_take (i := 4) (v := .agg #[.int .i64 (n : Int), .slice va vl vc]) rfl (by kernel_rfl) (by kernel_rfl) (by kernel_rfl) (fun _ _ _ h => h) (yieldsIf_load_mid (by rfl) 24 _ rfl (w.heap.size + 1) 0 rfl [.int .i64 (n : Int), .slice va vl vc] _ (fun _ h => h.2.2) Try.underlying24 rfl inf24) hSx ?_
          try simp only [Act.put]
          refine wpAnyH_ready (rs := [3]) (by kernel_rfl) (by simp) ?_
          refine AllReadyH.cons rfl (fun J hJ => ?_) AllReadyH.nil
          go_simp
          refine (A1 _ (Below.next hB d0)).mono ?_
          rintro e w1 ⟨⟨x, rfl, hx⟩, b1⟩
          have d1 := Below.next d0 b1
          go_wp2_with fail
          refine hJ.out _ _ (HS.out _ d1) (fun hSx => ?_)
          clear hJ J
          try simp only [Act.put, List.setIfInBounds_toArray, List.set_cons_zero, List.set_cons_succ]
          refine wpAnyH_ready (rs := [5]) (by kernel_rfl) (by simp) ?_
          refine AllReadyH.cons rfl (fun J hJ => ?_) AllReadyH.nil
          go_simp
          refine (A2 _ (Below.next hB d1)).mono ?_
          rintro e w2 ⟨⟨y, rfl, hy⟩, b2⟩
          replace hx := hx.below b2
          have d2 := Below.next d1 b2
          go_wp2_with fail
          refine hJ.out _ _ (HS.out _ d2) (fun hSx => ?_)
          clear hJ J
          try simp only [Act.put, List.setIfInBounds_toArray, List.set_cons_zero, List.set_cons_succ]
          refine wpAnyH_ready (rs := [6]) (by kernel_rfl) (by simp) ?_
          refine AllReadyH.cons rfl (fun J hJ => ?_) AllReadyH.nil
          go_simp
          refine (A3 x y _ hx hy).mono ?_
          rintro e w3 ⟨⟨r, q, rfl, hN⟩, b3⟩
          have HN : Hid (NamesIs n (sq n L) (sq n M) r q w3) := hN
          clear hN
          have d3 := Below.next d2 b3
          go_wp2_with fail
          refine hJ.out _ _ (HS.out _ d3) (fun hSx => ?_)
          clear hJ J
          try simp only [Act.put, List.setIfInBounds_toArray, List.set_cons_zero, List.set_cons_succ]
          refine wpAnyH_take (i := 7) (v := .tuple #[r, .bool q]) rfl (by kernel_rfl) (by kernel_rfl) (by kernel_rfl) (fun _ _ _ h => h) (Or.inl ⟨by rfl, fun w' hSw => by (try dsimp only at hSw); obtain ⟨hs0, hs1, hs2⟩ := hSw; go_simp⟩) hSx ?_
          try simp only [Act.put, List.setIfInBounds_toArray]
          refine wpAnyH_take (i := 8) (v := r) rfl (by kernel_rfl) (by kernel_rfl) (by kernel_rfl) (fun _ _ _ h => h) (Or.inl ⟨by rfl, fun w' hSw => by (try dsimp only at hSw); obtain ⟨hs0, hs1, hs2⟩ := hSw; go_simp⟩) hSx ?_
          try simp only [Act.put]
          refine wpAnyH_take (i := 9) (v := .bool q) rfl (by kernel_rfl) (by kernel_rfl) (by kernel_rfl) (fun _ _ _ h => h) (Or.inl ⟨by rfl, fun w' hSw => by (try dsimp only at hSw); obtain ⟨hs0, hs1, hs2⟩ := hSw; go_simp⟩) hSx ?_
          try simp only [Act.put]
          refine wpAnyH_take (i := 10) (v := r) rfl (by kernel_rfl) (by kernel_rfl) (by kernel_rfl) (fun _ _ _ h => h) (Or.inl ⟨by rfl, fun w' hSw => by (try dsimp only at hSw); obtain ⟨hs0, hs1, hs2⟩ := hSw; go_simp⟩) hSx ?_
          try simp only [Act.put]
          refine wpAnyH_take (i := 11) (v := .bool q) rfl (by kernel_rfl) (by kernel_rfl) (by kernel_rfl) (fun _ _ _ h => h) (Or.inl ⟨by rfl, fun w' hSw => by (try dsimp only at hSw); obtain ⟨hs0, hs1, hs2⟩ := hSw; go_simp⟩) hSx ?_
          try simp only [Act.put]
          refine wpAnyH_done (by kernel_rfl) ?_ _
          refine NoPanic.normal ?_
          go_simp
          have hBB := Below.next HB3.out (Below.next hB d3)
          have hnn : ((n : Int)).toNat = n := by omega
          cases q with
          | true =>
            go_wp2
            go_ret2
            rcases HN.out with ⟨k, h1, _, h3⟩ | ⟨_, h2, _⟩
            · exact ⟨⟨_, _, rfl, .inr ⟨HA.out, .inl ⟨k, by rw [hnn]; exact h1, rfl, by rw [hnn]; exact h3⟩⟩⟩, hBB⟩
            · cases h2
          | false =>
            go_wp2
            go_ret2
            rcases HN.out with ⟨k, _, h2, _⟩ | ⟨h1, _, _⟩
            · cases h2
            · exact ⟨⟨_, _, rfl, .inr ⟨HA.out, .inr ⟨by rw [hnn]; exact h1, rfl, rfl⟩⟩⟩, hBB⟩
        · have hd6 : decide ((6 : Int) < (n : Int)) = true := decide_eq_true (by omega)
          have HA : Hid (aF n n L M = 3) := by show _ = _; unfold aF; rw [if_neg (by omega), if_neg (by omega), if_neg (by simp), if_pos (by omega)]
          clear h0 h0' G1 G2 K1 K2 H1 H2 en
          go_wp2
          go_ret2
          exact ⟨⟨_, _, rfl, .inl ⟨by rw [HA.out]; omega, by rw [HA.out]; rfl, rfl⟩⟩, Below.next HB3.out hB⟩
      · have hne : ((n : Int) != t) = true := bne_iff_ne.2 hst
        have HA : Hid (aF n t L M = 2) := by show _ = _; unfold aF; rw [if_neg (by omega), if_neg (by omega), if_pos hst]
        clear h0 h0' G1 K1 K2 H1 H2
        go_wp2
        go_ret2
        exact ⟨⟨_, _, rfl, .inl ⟨by rw [HA.out]; omega, by rw [HA.out]; rfl, rfl⟩⟩, Below.next HB3.out hB⟩
end Go.Proofs.Ytncnaaohihmjnaa
