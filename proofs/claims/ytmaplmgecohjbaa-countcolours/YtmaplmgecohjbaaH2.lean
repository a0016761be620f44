/- The walk of the document's Lists, for two lists alike, of up to 6000 rows. -/
import Derived.Test.YtmaplmgecohjbaaG15
import Derived.Test.YtmaplmgecohjbaaP14
namespace Go.Proofs.Ytmaplmgecohjbaa
open Go.RowKit

set_option maxRecDepth 100000 in
set_option maxHeartbeats 8000000 in
theorem Lists_wide (L : List (List Nat)) (v u : Value) (w : World) (hv : SlSl w v L) (hu : SlSl w u L) (hL : ∀ m ∈ L, m.length ≤ 100) (hr : L.length ≤ 6000) :
    Calls Try.prog 19 #[v, u] w fun e w' => e = .returned (.bool true) ∧ Below w.heap.size w w' := by
  obtain ⟨r, Hr⟩ : ∃ r, Hid (L.length = r) := ⟨_, rfl⟩
  obtain ⟨a, cap, rfl, _⟩ := id hv
  obtain ⟨la, lc, rfl, _⟩ := id hu
  have HV : Hid (SlSl w (.slice a L.length cap) L) := hv
  have HU : Hid (SlSl w (.slice la L.length lc) L) := hu
  rw [Hr.out] at HU HV hr ⊢
  have HLS : Hid (∀ m ∈ L, m.length ≤ 100) := hL
  clear hv hu hL
  have hrr : ((r : Int) != (r : Int)) = false := by simp
  go_enter Try.func19, Try.ntmps19
  go_wp2
  go_loopw [5] (fun i wr => ∃ t : Nat, i = .int .i64 t ∧ t ≤ r ∧ Below w.heap.size w wr) (fun i _ => (r - intOf i).toNat)
  case atStart => exact ⟨0, rfl, by omega, Below.refl _ _⟩
  case round =>
    obtain ⟨t, rfl, ht, hB⟩ := hrel
    by_cases hlt : t < r
    · have hti : (t : Int) < r := by omega
      have ht0 : (0 : Int) ≤ (t : Int) := by omega
      have hdec : decide ((t : Int) < r) = true := by simp; omega
      obtain ⟨x, hx⟩ : ∃ x, L[t]? = some x := ⟨L[t]'(by have := Hr.out; omega), by simp⟩
      have hx7 := HLS.out x (List.mem_of_getElem? hx)
      obtain ⟨mb, mo, um, rfl, hmbw, hcm, hsm⟩ := HV.out.at hx
      obtain ⟨lb, lo, ux, rfl, hlbw, hcx, hsx⟩ := HU.out.at hx
      have hcx2 := (hB.cell (p := ⟨lb, lo + t, none⟩) hlbw).trans hcx
      have hcm2 := (hB.cell (p := ⟨mb, mo + t, none⟩) hmbw).trans hcm
      have HLM : Hid (mb < wr.heap.size ∧ lb < wr.heap.size) := ⟨Nat.lt_of_lt_of_le hmbw hB.size, Nat.lt_of_lt_of_le hlbw hB.size⟩
      have C := ints_any _ _ _ _ wr.drew (hsm.below hB.drew) (hsx.below hB.drew) (by rw [List.length_map]; unfold maxLen; omega) (by rw [List.length_map]; unfold maxLen; omega)
      obtain ⟨n, Hn⟩ : ∃ n, Hid (x.length = n) := ⟨_, rfl⟩
      obtain ⟨xa, xc, hxe⟩ : ∃ a c, ux = .slice a n c := by obtain ⟨a, c, e, _⟩ := hsx; exact ⟨a, c, by rw [e, List.length_map, Hn.out]⟩
      obtain ⟨ma, mc, hme⟩ : ∃ a c, um = .slice a n c := by obtain ⟨a, c, e, _⟩ := hsm; exact ⟨a, c, by rw [e, List.length_map, Hn.out]⟩
      subst hxe hme
      clear hx hx7 hcm hcx hsm hsx hmbw hlbw
      go_wp2_with fail
      refine wp_region_noPanic ?_
      refine wp_region_held_drew (S := fun w' => w'.cell? ⟨mb, mo + t, none⟩ = some (.slice ma n mc) ∧ w'.cell? ⟨lb, lo + t, none⟩ = some (.slice xa n xc)) (by kernel_rfl) (⟨hcm2, hcx2⟩) (fun hSx => ?_)
      refine wpAnyH_take (i := 0) (v := .slice (some ⟨mb, mo, none⟩) r cap) rfl (by kernel_rfl) (by kernel_rfl) (by kernel_rfl) (fun _ _ _ h => h) (Or.inl ⟨by rfl, fun w' hSw => by (try dsimp only at hSw); go_simp⟩) hSx ?_
      try simp only [Act.put, List.setIfInBounds_toArray]
      refine wpAnyH_take (i := 1) (v := .int .i64 (t : Int)) rfl (by kernel_rfl) (by kernel_rfl) (by kernel_rfl) (fun _ _ _ h => h) (Or.inl ⟨by rfl, fun w' hSw => by (try dsimp only at hSw); go_simp⟩) hSx ?_
      try simp only [Act.put]
      refine wpAnyH_take (i := 2) (v := .pointer (some ⟨mb, mo + t, none⟩)) rfl (by kernel_rfl) (by kernel_rfl) (by kernel_rfl) (fun _ _ _ h => h) (Or.inl ⟨by rfl, fun w' hSw => by (try dsimp only at hSw); go_simp⟩) hSx ?_
      try simp only [Act.put]
      refine wpAnyH_take (i := 3) (v := .slice ma n mc) rfl (by kernel_rfl) (by kernel_rfl) (by kernel_rfl) (fun _ _ _ h => h) (Or.inl ⟨by rfl, fun w' hSw => by (try dsimp only at hSw); go_simp⟩) hSx ?_
      try simp only [Act.put]
      refine wpAnyH_take (i := 4) (v := .slice (some ⟨lb, lo, none⟩) r lc) rfl (by kernel_rfl) (by kernel_rfl) (by kernel_rfl) (fun _ _ _ h => h) (Or.inl ⟨by rfl, fun w' hSw => by (try dsimp only at hSw); go_simp⟩) hSx ?_
      try simp only [Act.put]
      refine wpAnyH_take (i := 5) (v := .int .i64 (t : Int)) rfl (by kernel_rfl) (by kernel_rfl) (by kernel_rfl) (fun _ _ _ h => h) (Or.inl ⟨by rfl, fun w' hSw => by (try dsimp only at hSw); go_simp⟩) hSx ?_
      try simp only [Act.put]
      refine wpAnyH_take (i := 6) (v := .pointer (some ⟨lb, lo + t, none⟩)) rfl (by kernel_rfl) (by kernel_rfl) (by kernel_rfl) (fun _ _ _ h => h) (Or.inl ⟨by rfl, fun w' hSw => by (try dsimp only at hSw); go_simp⟩) hSx ?_
      try simp only [Act.put]
      refine wpAnyH_take (i := 7) (v := .slice xa n xc) rfl (by kernel_rfl) (by kernel_rfl) (by kernel_rfl) (fun _ _ _ h => h) (Or.inl ⟨by rfl, fun w' hSw => by (try dsimp only at hSw); go_simp⟩) hSx ?_
      try simp only [Act.put]
      refine wpAnyH_ready (rs := [8]) (by kernel_rfl) (by simp) ?_
      refine AllReadyH.cons rfl (fun J hJ => ?_) AllReadyH.nil
      go_simp
      refine (C).mono ?_
      rintro e w4 ⟨b, rfl, hb, b4⟩
      have hS4 : w4.cell? ⟨mb, mo + t, none⟩ = some (.slice ma n mc) ∧ w4.cell? ⟨lb, lo + t, none⟩ = some (.slice xa n xc) := ⟨(b4.cell (p := ⟨mb, mo + t, none⟩) HLM.out.1).trans hcm2, (b4.cell (p := ⟨lb, lo + t, none⟩) HLM.out.2).trans hcx2⟩
      go_wp2_with fail
      refine hJ.out _ _ hS4 (fun _ => ?_)
      clear hJ J
      try simp only [Act.put, List.setIfInBounds_toArray, List.set_cons_zero, List.set_cons_succ]
      refine wpAnyH_ready (rs := [9]) (by kernel_rfl) (by simp) ?_
      refine AllReadyH.cons rfl (fun J hJ => ?_) AllReadyH.nil
      go_simp
      refine hJ.out _ _ hS4 (fun _ => ?_)
      clear hJ J
      try simp only [Act.put, List.setIfInBounds_toArray, List.set_cons_zero, List.set_cons_succ]
      refine wpAnyH_done (by kernel_rfl) ?_ _
      refine NoPanic.normal ?_
      obtain rfl : b = true := hb.2 trivial
      have hB4 := Below.next hB.drew b4
      clear hSx hS4 hcx2 hcm2 C hb b4
      go_wp2
      go_roundw
      case rel => exact ⟨t + 1, by go_num, by omega, hB4⟩
      case measure => simp [intOf]; omega
    · obtain rfl : t = r := by omega
      have hkd : decide ((t : Int) < (t : Int)) = false := by simp
      go_wp2
      go_ret
      exact ⟨rfl, hB⟩

end Go.Proofs.Ytmaplmgecohjbaa
