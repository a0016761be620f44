/- Proved here: the law GroupParts gives true for every input. Its conditions: none. -/
import Derived.Test.YtnbkabggmomhlaaG15
import Derived.Test.YtnbkabggmomhlaaG28
import Derived.Test.YtnbkabggmomhlaaP14
import Derived.Test.YtnbkabggmomhlaaGL3
import Derived.Test.YtnbkabggmomhlaaRGB
/- The walk of the document's CentreOf. -/
namespace Go.Proofs.Ytnbkabggmomhlaa
open Go.RowKit

set_option maxRecDepth 100000 in
set_option maxHeartbeats 8000000 in
theorem CentreOf_any (n : Nat) (ms L : List (List Nat)) (v u : Value) (w : World) (hn : n ≤ 7) (hk : ms.length ≤ 4) (hv : SlSl w v ms) (hm : ∀ m ∈ ms, IsP n m) (hu : SlSl w u L) (hL : ∀ m ∈ L, IsP n m) (hr : L.length ≤ 5040) :
    Calls Try.prog 30 #[v, u] w fun e w' => e = .returned (.int .i64 (cenC ms L : Int)) ∧ Below w.heap.size w w' := by
  obtain ⟨k, Hk⟩ : ∃ k, Hid (ms.length = k) := ⟨_, rfl⟩
  obtain ⟨r, Hr⟩ : ∃ r, Hid (L.length = r) := ⟨_, rfl⟩
  obtain ⟨a, cap, rfl, _⟩ := id hv
  obtain ⟨la, lc, rfl, _⟩ := id hu
  have HV : Hid (SlSl w (.slice a ms.length cap) ms) := hv
  have HU : Hid (SlSl w (.slice la L.length lc) L) := hu
  rw [Hk.out] at HV hk ⊢
  rw [Hr.out] at HU hr ⊢
  have HMS : Hid (∀ m ∈ ms, IsP n m) := hm
  have HLS : Hid (∀ m ∈ L, IsP n m) := hL
  clear hv hm hu hL
  go_enter Try.func30, Try.ntmps30
  go_wp2
  go_loopw [5, 6] (fun o i wr => ∃ c t : Nat, o = .int .i64 c ∧ i = .int .i64 t ∧ t ≤ r ∧ c ≤ t ∧ Hid (c = cenC ms (L.take t)) ∧ Below w.heap.size w wr) (fun _ i _ => (r - intOf i).toNat)
  case atStart => exact ⟨0, 0, rfl, rfl, by omega, by omega, (by simp [cenC] : 0 = cenC ms (L.take 0)), Below.refl _ _⟩
  case round =>
    obtain ⟨c, t, rfl, rfl, ht, hct, HC, hB⟩ := hrel
    by_cases hlt : t < r
    · have hti : (t : Int) < r := by omega
      have ht0 : (0 : Int) ≤ (t : Int) := by omega
      have hdec : decide ((t : Int) < r) = true := by simp; omega
      obtain ⟨x, hx⟩ : ∃ x, L[t]? = some x := ⟨L[t]'(by have := Hr.out; omega), by simp⟩
      have hxP := HLS.out x (List.mem_of_getElem? hx)
      have HT : Hid (cenC ms (L.take (t + 1)) = cenC ms (L.take t) + if ∀ m ∈ ms, thenL x m = thenL m x then 1 else 0) := cenC_take (ms := ms) hx
      obtain ⟨lb, lo, ux, hla, hlbw, hcx0, hsx0⟩ := HU.out.at hx
      subst hla
      have HXP : Hid (IsP n x) := hxP
      obtain ⟨xa, xc, hxe⟩ : ∃ a c, ux = .slice a n c := by obtain ⟨a, c, e, _⟩ := hsx0; exact ⟨a, c, by rw [e, List.length_map, hxP.len]⟩
      subst hxe
      have HX : Hid (lb < w.heap.size ∧ w.cell? ⟨lb, lo + t, none⟩ = some (.slice xa n xc) ∧ Sl w (.slice xa n xc) (x.map Int.ofNat)) := ⟨hlbw, hcx0, hsx0⟩
      clear hx hxP hlbw hcx0 hsx0
      go_wp2
      go_loopw [7, 8] (fun o i wr => ∃ (b : Bool) (j : Nat), o = .bool b ∧ i = .int .i64 j ∧ j ≤ k ∧ Hid (b = true ↔ ∀ m ∈ ms.take j, thenL x m = thenL m x) ∧ Below w.heap.size w wr) (fun _ i _ => (k - intOf i).toNat)
      case atStart => exact ⟨true, 0, rfl, rfl, by omega, (by simp : true = true ↔ ∀ m ∈ ms.take 0, thenL x m = thenL m x), hB⟩
      case round =>
        clear hB
        obtain ⟨b, j, rfl, rfl, hj, HBE, hB⟩ := hrel
        by_cases hjl : j < k
        · have hji : (j : Int) < k := by omega
          have hj0 : (0 : Int) ≤ (j : Int) := by omega
          have hjd : decide ((j : Int) < k) = true := by simp; omega
          obtain ⟨m, hmj⟩ : ∃ m, ms[j]? = some m := ⟨ms[j]'(by have := Hk.out; omega), by simp⟩
          have hmP := HMS.out m (List.mem_of_getElem? hmj)
          have HTJ : Hid (∀ b' : Bool, (b' = true ↔ thenL x m = thenL m x) → ((b && b') = true ↔ ∀ m ∈ ms.take (j + 1), thenL x m = thenL m x)) := fun b' h => by
            rw [List.take_add_one, hmj, Bool.and_eq_true, HBE.out, h]
            constructor
            · rintro ⟨h1, h2⟩ m' hm'
              rcases List.mem_append.1 hm' with q | q
              · exact h1 m' q
              · have e : m' = m := by simpa using q
                rw [e]; exact h2
            · exact fun h1 => ⟨fun m' q => h1 m' (List.mem_append_left _ q), h1 m (List.mem_append_right _ (by simp))⟩
          obtain ⟨mb, mo, um, rfl, hmbw, hcm, hsm⟩ := HV.out.at hmj
          obtain ⟨ma, mc, hme⟩ : ∃ a c, um = .slice a n c := by obtain ⟨a, c, e, _⟩ := hsm; exact ⟨a, c, by rw [e, List.length_map, hmP.len]⟩
          subst hme
          have hcx2 := (hB.cell (p := ⟨lb, lo + t, none⟩) HX.out.1).trans HX.out.2.1
          have hcm2 := (hB.cell (p := ⟨mb, mo + j, none⟩) hmbw).trans hcm
          have hsx2 := HX.out.2.2.below hB
          have hsm2 := hsm.below hB
          have HLM : Hid (lb < wr.heap.size ∧ mb < wr.heap.size) := ⟨Nat.lt_of_lt_of_le HX.out.1 hB.size, Nat.lt_of_lt_of_le hmbw hB.size⟩
          have C1 := ThenL_any n x m _ _ wr.drew hn hsx2 hsm2 HXP.out hmP.len
          have C2 := fun W (h1 : Sl W (.slice ma n mc) (m.map Int.ofNat)) (h2 : Sl W (.slice xa n xc) (x.map Int.ofNat)) => ThenL_any n m x _ _ W hn h1 h2 hmP HXP.out.len
          have hl1 : (thenL x m).length = n := (HXP.out.then hmP).len
          have hl2 : (thenL m x).length = n := (hmP.then HXP.out).len
          have HINJ : Hid ((thenL x m).map Int.ofNat = (thenL m x).map Int.ofNat ↔ thenL x m = thenL m x) := ⟨fun h => (List.map_inj_right (fun a b h => Int.ofNat.inj h)).1 h, fun h => by rw [h]⟩
          have C3 := fun p q W (h1 : Sl W p ((thenL x m).map Int.ofNat)) (h2 : Sl W q ((thenL m x).map Int.ofNat)) => ints_any _ _ p q W h1 h2 (by rw [List.length_map, hl1]; unfold maxLen; omega) (by rw [List.length_map, hl2]; unfold maxLen; omega)
          have HL1 : Hid ((thenL x m).length = n) := hl1
          have HL2 : Hid ((thenL m x).length = n) := hl2
          clear hmj hmP hcm hsm hl1 hl2
          obtain ⟨p, Hp⟩ : ∃ p, Hid (thenL x m = p) := ⟨_, rfl⟩
          obtain ⟨q, Hq⟩ : ∃ q, Hid (thenL m x = q) := ⟨_, rfl⟩
          rw [Hp.out] at C1 C3 HINJ HTJ HL1
          rw [Hq.out] at C2 C3 HINJ HTJ HL2
          go_wp2_with fail
          refine wp_region_noPanic ?_
          refine wp_region_held_drew (S := fun w' => w'.cell? ⟨lb, lo + t, none⟩ = some (.slice xa n xc) ∧ w'.cell? ⟨mb, mo + j, none⟩ = some (.slice ma n mc)) (by kernel_rfl) (⟨hcx2, hcm2⟩) (fun hSx => ?_)
          refine wpAnyH_take (i := 0) (v := .slice (some ⟨lb, lo, none⟩) r lc) rfl (by kernel_rfl) (by kernel_rfl) (by kernel_rfl) (fun _ _ _ h => h) (Or.inl ⟨by rfl, fun w' hSw => by (try dsimp only at hSw); go_simp⟩) hSx ?_
          try simp only [Act.put, List.setIfInBounds_toArray]
          refine wpAnyH_take (i := 1) (v := .int .i64 (t : Int)) rfl (by kernel_rfl) (by kernel_rfl) (by kernel_rfl) (fun _ _ _ h => h) (Or.inl ⟨by rfl, fun w' hSw => by (try dsimp only at hSw); go_simp⟩) hSx ?_
          try simp only [Act.put]
          refine wpAnyH_take (i := 2) (v := .pointer (some ⟨lb, lo + t, none⟩)) rfl (by kernel_rfl) (by kernel_rfl) (by kernel_rfl) (fun _ _ _ h => h) (Or.inl ⟨by rfl, fun w' hSw => by (try dsimp only at hSw); go_simp⟩) hSx ?_
          try simp only [Act.put]
          refine wpAnyH_take (i := 3) (v := .slice xa n xc) rfl (by kernel_rfl) (by kernel_rfl) (by kernel_rfl) (fun _ _ _ h => h) (Or.inl ⟨by rfl, fun w' hSw => by (try dsimp only at hSw); go_simp⟩) hSx ?_
          try simp only [Act.put]
          refine wpAnyH_take (i := 4) (v := .slice (some ⟨mb, mo, none⟩) k cap) rfl (by kernel_rfl) (by kernel_rfl) (by kernel_rfl) (fun _ _ _ h => h) (Or.inl ⟨by rfl, fun w' hSw => by (try dsimp only at hSw); go_simp⟩) hSx ?_
          try simp only [Act.put]
          refine wpAnyH_take (i := 5) (v := .int .i64 (j : Int)) rfl (by kernel_rfl) (by kernel_rfl) (by kernel_rfl) (fun _ _ _ h => h) (Or.inl ⟨by rfl, fun w' hSw => by (try dsimp only at hSw); go_simp⟩) hSx ?_
          try simp only [Act.put]
          refine wpAnyH_take (i := 6) (v := .pointer (some ⟨mb, mo + j, none⟩)) rfl (by kernel_rfl) (by kernel_rfl) (by kernel_rfl) (fun _ _ _ h => h) (Or.inl ⟨by rfl, fun w' hSw => by (try dsimp only at hSw); go_simp⟩) hSx ?_
          try simp only [Act.put]
          refine wpAnyH_take (i := 7) (v := .slice ma n mc) rfl (by kernel_rfl) (by kernel_rfl) (by kernel_rfl) (fun _ _ _ h => h) (Or.inl ⟨by rfl, fun w' hSw => by (try dsimp only at hSw); go_simp⟩) hSx ?_
          try simp only [Act.put]
          refine wpAnyH_ready (rs := [8]) (by kernel_rfl) (by simp) ?_
          refine AllReadyH.cons rfl (fun J hJ => ?_) AllReadyH.nil
          go_simp
          refine (C1).mono ?_
          rintro e w4 ⟨⟨p1, rfl, _, hp1⟩, b4⟩
          have hS4 : w4.cell? ⟨lb, lo + t, none⟩ = some (.slice xa n xc) ∧ w4.cell? ⟨mb, mo + j, none⟩ = some (.slice ma n mc) := ⟨(b4.cell (p := ⟨lb, lo + t, none⟩) HLM.out.1).trans hcx2, (b4.cell (p := ⟨mb, mo + j, none⟩) HLM.out.2).trans hcm2⟩
          go_wp2_with fail
          refine hJ.out _ _ hS4 (fun _ => ?_)
          clear hJ J
          try simp only [Act.put, List.setIfInBounds_toArray, List.set_cons_zero, List.set_cons_succ]
          refine wpAnyH_ready (rs := [9]) (by kernel_rfl) (by simp) ?_
          refine AllReadyH.cons rfl (fun J hJ => ?_) AllReadyH.nil
          go_simp
          refine hJ.out _ _ hS4 (fun _ => ?_)
          clear hJ J
          try simp only [Act.put, List.setIfInBounds_toArray, List.set_cons_zero, List.set_cons_succ]
          refine wpAnyH_done (by kernel_rfl) ?_ _
          refine NoPanic.normal ?_
          have hsx4 := Sl.below (w := wr.drew) hsx2 b4
          have hsm4 := Sl.below (w := wr.drew) hsm2 b4
          have hB4 := Below.next hB.drew b4
          obtain ⟨hcx4, hcm4⟩ := hS4
          have HLM4 : Hid (mb < w4.heap.size ∧ lb < w4.heap.size) := ⟨Nat.lt_of_lt_of_le HLM.out.2 b4.size, Nat.lt_of_lt_of_le HLM.out.1 b4.size⟩
          obtain ⟨pa, pc, hpe⟩ : ∃ a c, p1 = .slice a n c := by obtain ⟨a, c, e, _⟩ := hp1; exact ⟨a, c, by rw [e, List.length_map, HL1.out]⟩
          subst hpe
          have C2' := C2 w4.drew hsm4 hsx4
          clear hSx hcx2 hcm2 hsx2 hsm2 hB b4 C1 C2
          go_wp2_with fail
          refine wp_region_noPanic ?_
          refine wp_region_held_drew (S := fun w' => w'.cell? ⟨mb, mo + j, none⟩ = some (.slice ma n mc) ∧ w'.cell? ⟨lb, lo + t, none⟩ = some (.slice xa n xc)) (by kernel_rfl) (⟨hcm4, hcx4⟩) (fun hSx => ?_)
          refine wpAnyH_take (i := 0) (v := .slice (some ⟨mb, mo, none⟩) k cap) rfl (by kernel_rfl) (by kernel_rfl) (by kernel_rfl) (fun _ _ _ h => h) (Or.inl ⟨by rfl, fun w' hSw => by (try dsimp only at hSw); go_simp⟩) hSx ?_
          try simp only [Act.put, List.setIfInBounds_toArray]
          refine wpAnyH_take (i := 1) (v := .int .i64 (j : Int)) rfl (by kernel_rfl) (by kernel_rfl) (by kernel_rfl) (fun _ _ _ h => h) (Or.inl ⟨by rfl, fun w' hSw => by (try dsimp only at hSw); go_simp⟩) hSx ?_
          try simp only [Act.put]
          refine wpAnyH_take (i := 2) (v := .pointer (some ⟨mb, mo + j, none⟩)) rfl (by kernel_rfl) (by kernel_rfl) (by kernel_rfl) (fun _ _ _ h => h) (Or.inl ⟨by rfl, fun w' hSw => by (try dsimp only at hSw); go_simp⟩) hSx ?_
          try simp only [Act.put]
          refine wpAnyH_take (i := 3) (v := .slice ma n mc) rfl (by kernel_rfl) (by kernel_rfl) (by kernel_rfl) (fun _ _ _ h => h) (Or.inl ⟨by rfl, fun w' hSw => by (try dsimp only at hSw); go_simp⟩) hSx ?_
          try simp only [Act.put]
          refine wpAnyH_take (i := 4) (v := .slice (some ⟨lb, lo, none⟩) r lc) rfl (by kernel_rfl) (by kernel_rfl) (by kernel_rfl) (fun _ _ _ h => h) (Or.inl ⟨by rfl, fun w' hSw => by (try dsimp only at hSw); go_simp⟩) hSx ?_
          try simp only [Act.put]
          refine wpAnyH_take (i := 5) (v := .int .i64 (t : Int)) rfl (by kernel_rfl) (by kernel_rfl) (by kernel_rfl) (fun _ _ _ h => h) (Or.inl ⟨by rfl, fun w' hSw => by (try dsimp only at hSw); go_simp⟩) hSx ?_
          try simp only [Act.put]
          refine wpAnyH_take (i := 6) (v := .pointer (some ⟨lb, lo + t, none⟩)) rfl (by kernel_rfl) (by kernel_rfl) (by kernel_rfl) (fun _ _ _ h => h) (Or.inl ⟨by rfl, fun w' hSw => by (try dsimp only at hSw); go_simp⟩) hSx ?_
          try simp only [Act.put]
          refine wpAnyH_take (i := 7) (v := .slice xa n xc) rfl (by kernel_rfl) (by kernel_rfl) (by kernel_rfl) (fun _ _ _ h => h) (Or.inl ⟨by rfl, fun w' hSw => by (try dsimp only at hSw); go_simp⟩) hSx ?_
          try simp only [Act.put]
          refine wpAnyH_ready (rs := [8]) (by kernel_rfl) (by simp) ?_
          refine AllReadyH.cons rfl (fun J hJ => ?_) AllReadyH.nil
          go_simp
          refine (C2').mono ?_
          rintro e w5 ⟨⟨q1, rfl, _, hq1⟩, b5⟩
          have hS4 : w5.cell? ⟨mb, mo + j, none⟩ = some (.slice ma n mc) ∧ w5.cell? ⟨lb, lo + t, none⟩ = some (.slice xa n xc) := ⟨(b5.cell (p := ⟨mb, mo + j, none⟩) HLM4.out.1).trans hcm4, (b5.cell (p := ⟨lb, lo + t, none⟩) HLM4.out.2).trans hcx4⟩
          go_wp2_with fail
          refine hJ.out _ _ hS4 (fun _ => ?_)
          clear hJ J
          try simp only [Act.put, List.setIfInBounds_toArray, List.set_cons_zero, List.set_cons_succ]
          refine wpAnyH_ready (rs := [9]) (by kernel_rfl) (by simp) ?_
          refine AllReadyH.cons rfl (fun J hJ => ?_) AllReadyH.nil
          go_simp
          refine hJ.out _ _ hS4 (fun _ => ?_)
          clear hJ J
          try simp only [Act.put, List.setIfInBounds_toArray, List.set_cons_zero, List.set_cons_succ]
          refine wpAnyH_done (by kernel_rfl) ?_ _
          refine NoPanic.normal ?_
          have hp5 := Sl.below (w := w4.drew) hp1 b5
          have hB5 := Below.next hB4.drew b5
          obtain ⟨qa, qc, hqe⟩ : ∃ a c, q1 = .slice a n c := by obtain ⟨a, c, e, _⟩ := hq1; exact ⟨a, c, by rw [e, List.length_map, HL2.out]⟩
          subst hqe
          have C3' := C3 _ _ w5 hp5 hq1
          clear hSx hS4 hcx4 hcm4 hsx4 hsm4 hB4 b5 C2' C3 hp1 hp5 hq1
          go_wp2_with (first
            | (go_at_call 16; refine C3'.mono ?_; rintro e w6 ⟨b', rfl, hb', b6⟩; have HBN := HTJ.out b' (hb'.trans HINJ.out); replace b6 := Below.next hB5 b6; clear hb'; cases b <;> cases b'))
          all_goals go_roundw
          case rel => exact ⟨_, j + 1, rfl, by go_num, by omega, HBN, b6⟩
          case measure => simp [intOf]; omega
          case rel => exact ⟨_, j + 1, rfl, by go_num, by omega, HBN, b6⟩
          case measure => simp [intOf]; omega
          case rel => exact ⟨_, j + 1, rfl, by go_num, by omega, HBN, b6⟩
          case measure => simp [intOf]; omega
          case rel => exact ⟨_, j + 1, rfl, by go_num, by omega, HBN, b6⟩
          case measure => simp [intOf]; omega
        · obtain rfl : j = k := by omega
          have hkd : decide ((j : Int) < (j : Int)) = false := by simp
          have HALL : Hid (b = true ↔ ∀ m ∈ ms, thenL x m = thenL m x) := by
            have h := HBE.out
            rw [← Hk.out, List.take_length] at h
            exact h
          cases b with
          | true =>
            have hc5 : c < 5040 := by omega
            go_wp2
            go_roundw
            case rel => exact ⟨c + 1, t + 1, by go_num, by go_num, by omega, by omega, (by rw [HT.out, if_pos (HALL.out.1 (by trivial)), HC.out] : c + 1 = cenC ms (L.take (t + 1))), hB⟩
            case measure => simp [intOf]; omega
          | false =>
            go_wp2
            go_roundw
            case rel => exact ⟨c, t + 1, rfl, by go_num, by omega, by omega, (by rw [HT.out, if_neg (fun h => absurd (HALL.out.2 h) Bool.false_ne_true), HC.out]; rfl : c = cenC ms (L.take (t + 1))), hB⟩
            case measure => simp [intOf]; omega
    · obtain rfl : t = r := by omega
      have hkd : decide ((t : Int) < (t : Int)) = false := by simp
      go_wp2
      go_ret
      have h := HC.out
      rw [← Hr.out, List.take_length] at h
      exact ⟨by rw [h]; rfl, hB⟩

end Go.Proofs.Ytnbkabggmomhlaa

/- The walk of the document's DerivedOf. -/
namespace Go.Proofs.Ytnbkabggmomhlaa
open Go.RowKit

set_option maxHeartbeats 400000 in
theorem Undo_own (n : Nat) (f : Nat → Nat) (v : Value) (w : World) (hn : n ≤ 12) (hv : Sl w v (pl n f)) (P : Pm n f) :
    Calls Try.prog 35 #[v] w fun e w' => (∃ h, e = .returned (.slice (some ⟨w.heap.size, 0, none⟩) n n) ∧ Own w' w.heap.size n h ∧ ∀ y, y < n → h y = (iv f y : Int)) ∧ Below w.heap.size w w' := by
  obtain ⟨i3, hi, hz0, hz1, hz2⟩ := info3
  obtain ⟨a, ca, rfl, hcv⟩ := hv
  rw [pl_len] at hcv ⊢
  have HV : Hid (∀ j, j < n → ∃ B off, a = some ⟨B, off, none⟩ ∧ w.cell? ⟨B, off + j, none⟩ = some (.int .i64 (f j : Int))) := fun j hj => by
    have := hcv j hj; rw [pl_at f hj] at this; exact this
  have HP : Hid (Pm n f) := P
  clear hcv P
  go_enter Try.func35, Try.ntmps35
  go_wp2_with (first
    | (at_make; refine wpList_make_full _ rfl _ _ 23 rfl w.heap.size 3 i3 (.int .i64 0) 1 und22 hi hz0 hz1 .i64 .i64 (n : Int) (n : Int) n rfl rfl rfl rfl ?c1 ?c2 (Nat.le_refl _) ?_))
  case c1 => rw [hz2]; omega
  case c2 => unfold maxLen; omega
  intro w1 how1 hgr1
  have hO1 := own_made' how1
  have hb1 : Below w.heap.size w w1 := ⟨hgr1.os, hgr1.tape, hgr1.output, hgr1.size, fun k hk => hgr1.block k hk (by simp)⟩
  clear how1 hgr1
  go_wp2
  go_loopw [4] (fun i wr => ∃ (k : Nat) (h : Nat → Int), i = .int .i64 k ∧ k ≤ n ∧ Own wr w.heap.size n h ∧ Hid (∀ t, t < k → h (f t) = (t : Int)) ∧ Below w.heap.size w wr) (fun i _ => (n - intOf i).toNat)
  case atStart => exact ⟨0, _, rfl, by omega, hO1, (fun t ht => by omega : ∀ t, t < 0 → _), hb1⟩
  case round =>
    clear hO1 hb1
    obtain ⟨k, h, rfl, hk, hO, HH, hb⟩ := hrel
    by_cases hlt : k < n
    · have hki : (k : Int) < n := by omega
      have hfk := HP.out.lt k hlt
      obtain ⟨x, Hx⟩ : ∃ x, Hid (f k = x) := ⟨_, rfl⟩
      obtain ⟨B, off, rfl, hc1⟩ := HV.out k hlt
      rw [Hx.out] at hc1 hfk
      have hxi : (x : Int) < n := by omega
      have hc1w := (hb.cell (p := ⟨B, off + k, none⟩) (by simpa using block_lt_of_cell hc1)).trans hc1
      have hcell := hO.cell x hfk
      have hfr := hO.frozen x
      go_wp2
      go_roundw
      case rel =>
        refine ⟨k + 1, upd h x k, by go_num, by omega, hO.set x k, ?_, hb.setCell (p := ⟨w.heap.size, x, none⟩) (Nat.le_refl _) _⟩
        rw [← Hx.out]
        exact undo_step HP.out hlt HH.out
      case measure => simp [intOf]; omega
    · obtain rfl : k = n := by omega
      have hkd : decide ((k : Int) < (k : Int)) = false := by simp
      go_wp2
      go_ret
      exact ⟨⟨h, rfl, hO, HP.out.iv_of HH.out⟩, hb⟩

theorem UndoR_any (n : Nat) (a : List Nat) (v : Value) (w : World) (hn : n ≤ 7) (hv : Sl w v (a.map Int.ofNat)) (ha : IsP n a) :
    Calls Try.prog 35 #[v] w fun e w' => (e = .returned (.slice (some ⟨w.heap.size, 0, none⟩) n n) ∧ RowIs w' w.heap.size (.slice (some ⟨w.heap.size, 0, none⟩) n n) (invL n a) ∧ Sl w' (.slice (some ⟨w.heap.size, 0, none⟩) n n) ((invL n a).map Int.ofNat)) ∧ Below w.heap.size w w' := by
  rw [← pl_map ha.len] at hv
  refine (Undo_own n _ v w (by omega) hv ha.pm).mono ?_
  rintro e w' ⟨⟨h, rfl, hO, hh⟩, h2⟩
  have ip := invL_isP ha
  have hc : ∀ y, y < n → h y = ((invL n a).getD y 0 : Int) := fun y hy => by
    rw [hh y hy]
    obtain ⟨i, hi, rfl⟩ := ha.pm.surj hy
    rw [ha.pm.iv_f hi, ← thenL_at ha.len hi, then_inv ha, idL_at hi]
  refine ⟨⟨rfl, ⟨w.heap.size, n, by rw [ip.len], Nat.le_refl _, by rw [ip.len]; exact hO.congr hc⟩, ?_⟩, h2⟩
  rw [← pl_map (l := invL n a) ip.len]
  exact hO.pl _ hc

theorem RowIs.sl {w : World} {base : Nat} {u : Value} {l : List Nat} (h : RowIs w base u l) : Sl w u (l.map Int.ofNat) := by
  obtain ⟨g, cap, rfl, _, hO⟩ := h
  rw [← pl_map (l := l) rfl]
  exact hO.pl cap (fun y _ => rfl)
/-- What is made of the pairs that were taken. -/
def Cov (n : Nat) (L cs : List (List Nat)) (t j : Nat) : Prop := ∀ i k a b, (i < t ∨ i = t ∧ k < j) → L[i]? = some a → L[k]? = some b → comm n a b ∈ cs
def Of (n : Nat) (L cs : List (List Nat)) : Prop := ∀ c ∈ cs, ∃ a b, a ∈ L ∧ b ∈ L ∧ c = comm n a b
theorem addL_mem (cs : List (List Nat)) (x y : List Nat) : y ∈ addL cs x ↔ y ∈ cs ∨ y = x := by
  unfold addL
  split
  · rename_i h
    exact ⟨.inl, fun k => k.elim id fun e => e ▸ h⟩
  · simp
theorem Cov.next {n : Nat} {L cs : List (List Nat)} {t j : Nat} {a b : List Nat} (h : Cov n L cs t j) (ha : L[t]? = some a) (hb : L[j]? = some b) : Cov n L (addL cs (comm n a b)) t (j + 1) := by
  intro i k a' b' hik h1 h2
  rw [addL_mem]
  by_cases e : i = t ∧ k = j
  · obtain ⟨rfl, rfl⟩ := e
    rw [ha] at h1; rw [hb] at h2
    cases h1; cases h2
    exact .inr rfl
  · exact .inl (h i k a' b' (by omega) h1 h2)
theorem Cov.turn {n : Nat} {L cs : List (List Nat)} {t : Nat} (h : Cov n L cs t L.length) : Cov n L cs (t + 1) 0 := by
  intro i k a b hik h1 h2
  have hk : k < L.length := by
    rcases Nat.lt_or_ge k L.length with q | q
    · exact q
    · rw [List.getElem?_eq_none q] at h2; cases h2
  exact h i k a b (by omega) h1 h2
theorem Cov.all {n : Nat} {L cs : List (List Nat)} (h : Cov n L cs L.length 0) {a b : List Nat} (ha : a ∈ L) (hb : b ∈ L) : comm n a b ∈ cs := by
  obtain ⟨i, hi, rfl⟩ := List.getElem_of_mem ha
  obtain ⟨k, hk, rfl⟩ := List.getElem_of_mem hb
  exact h i k _ _ (.inl hi) (List.getElem?_eq_getElem hi) (List.getElem?_eq_getElem hk)
theorem Of.add {n : Nat} {L cs : List (List Nat)} {a b : List Nat} (h : Of n L cs) (ha : a ∈ L) (hb : b ∈ L) : Of n L (addL cs (comm n a b)) := by
  intro c hc
  rcases (addL_mem _ _ _).1 hc with k | rfl
  · exact h c k
  · exact ⟨a, b, ha, hb, rfl⟩
theorem Of.isP {n : Nat} {L cs : List (List Nat)} (hL : ∀ a ∈ L, IsP n a) (h : Of n L cs) : ∀ c ∈ cs, IsP n c := fun c hc => by
  obtain ⟨a, b, ha, hb, rfl⟩ := h c hc
  exact comm_isP (hL a ha) (hL b hb)
theorem addL_le (cs : List (List Nat)) (x : List Nat) : (addL cs x).length ≤ cs.length + 1 := by
  unfold addL
  split <;> simp

set_option maxRecDepth 100000 in
set_option maxHeartbeats 8000000 in
theorem DerivedOf_any (n : Nat) (L : List (List Nat)) (u : Value) (w : World) (hn : n ≤ 7) (h1 : 1 ≤ n) (hu : SlSl w u L) (hL : ∀ m ∈ L, IsP n m) (hr : L.length ≤ 200) :
    Calls Try.prog 31 #[.int .i64 (n : Int), u] w fun e w' => (∃ cs : List (List Nat), e = .returned (.int .i64 (ordG n cs : Int)) ∧ Of n L cs ∧ ∀ a b, a ∈ L → b ∈ L → comm n a b ∈ cs) ∧ Below w.heap.size w w' := by
  obtain ⟨r, Hr⟩ : ∃ r, Hid (L.length = r) := ⟨_, rfl⟩
  obtain ⟨la, lc, rfl, _⟩ := id hu
  have HU : Hid (SlSl w (.slice la L.length lc) L) := hu
  rw [Hr.out] at HU hr ⊢
  have HLS : Hid (∀ m ∈ L, IsP n m) := hL
  clear hu hL
  obtain ⟨i23, hi, hz0, hz1, hz2⟩ := info23
  have HI2 : Hid (Try.prog.info? 23 = some i23 ∧ i23.zero = some (.slice none 0 0) ∧ i23.size = 1 ∧ i23.bytes = 24) := ⟨hi, hz0, hz1, hz2⟩
  clear hi hz0 hz1 hz2
  have C0 := fun W => Factorial_any n W (by omega)
  have hfb : fac n ≤ 5040 := by have h := fac_mono hn; have h3 : fac 7 = 5040 := (by decide); omega
  have HFR : Hid (∀ y, rnk n y < fac n) := rnk_lt n
  have hO0 := (ownB_new w (fac n)).congr (f' := inB n []) (fun j _ => by unfold inB; simp)
  have hmk := run_make4 (fac n) (by omega)
  have HIB : Hid (∀ L y, IsP n y → y ∉ L → ∀ k, k < fac n → upU (inB n L) (rnk n y) k = inB n (addL L y) k) := fun L y h1 h2 => inB_add h1 h2
  have CM := fun cs v W h1' h2' h3' => Members_any n cs v W hn h1 h1' h2' h3'
  have HEL : Hid (∀ (cs L' : List (List Nat)), (∀ a, a ∈ L' ↔ Gen n cs a) → (listF n (inB n L') (fac n)).length = ordG n cs) := fun cs L' h => by rw [listF_els h]; rfl
  obtain ⟨z, Hz⟩ : ∃ z, Hid (fac n = z) := ⟨_, rfl⟩
  rw [Hz.out] at C0 hfb HFR HIB hO0 hmk CM HEL
  have hB0 : Below w.heap.size w (w.alloc (.cells (madeCells #[.bool false] z) 4)) := balloc w _
  have hs0 : w.heap.size + 1 ≤ (w.alloc (.cells (madeCells #[.bool false] z) 4)).heap.size := by simp
  go_enter Try.func31, Try.ntmps31
  go_wp2_with (first
    | (go_at_call 33; refine (C0 _).mono ?_; rintro e w1 ⟨rfl, hw⟩; replace hw := hw.symm; subst hw))
  clear C0 hmk
  go_loopw [7, 8] (fun mv i wr => ∃ (t : Nat) (cs : List (List Nat)), i = .int .i64 t ∧ t ≤ r ∧ cs.length ≤ 200 * t ∧ Hid (Of n L cs) ∧ Hid (Cov n L cs t 0) ∧ CycR wr (w.heap.size + 1) mv cs ∧ OwnB wr w.heap.size z (inB n cs) ∧ w.heap.size + 1 ≤ wr.heap.size ∧ Below w.heap.size w wr) (fun _ i _ => (r - intOf i).toNat)
  case atStart => exact ⟨0, [], rfl, by omega, by simp, (fun c hc => by simp at hc : Of n L []), (fun i k a b h => by omega : Cov n L [] 0 0), CycR.nil _ _, hO0, hs0, hB0⟩
  case round =>
    clear hO0 hs0 hB0
    obtain ⟨t, cs, rfl, ht, hcl, HOF, HCV, hcy, hO, hs, hB⟩ := hrel
    by_cases hlt : t < r
    · have hti : (t : Int) < r := by omega
      have ht0 : (0 : Int) ≤ (t : Int) := by omega
      have hdec : decide ((t : Int) < r) = true := by simp; omega
      obtain ⟨x, hx⟩ : ∃ x, L[t]? = some x := ⟨L[t]'(by have := Hr.out; omega), by simp⟩
      have HXT : Hid (L[t]? = some x) := hx
      have HXP : Hid (IsP n x) := HLS.out x (List.mem_of_getElem? hx)
      obtain ⟨lb, lo, ux, hla, hlbw, hcx0, hsx0⟩ := HU.out.at hx
      subst hla
      obtain ⟨xa, xc, hxe⟩ : ∃ a c, ux = .slice a n c := by obtain ⟨a, c, e, _⟩ := hsx0; exact ⟨a, c, by rw [e, List.length_map, HXP.out.len]⟩
      subst hxe
      have HX : Hid (lb < w.heap.size ∧ w.cell? ⟨lb, lo + t, none⟩ = some (.slice xa n xc) ∧ Sl w (.slice xa n xc) (x.map Int.ofNat)) := ⟨hlbw, hcx0, hsx0⟩
      have hcx1 := (hB.cell (p := ⟨lb, lo + t, none⟩) hlbw).trans hcx0
      have C1 := UndoR_any n x _ wr hn (hsx0.below hB) HXP.out
      clear hx hlbw hcx0 hsx0
      obtain ⟨c0, Hc0⟩ : ∃ c, Hid (cs.length = c) := ⟨_, rfl⟩
      obtain ⟨ma, mc, hme⟩ := hcy.form
      rw [Hc0.out] at hme
      subst hme
      obtain ⟨ug, Hug⟩ : ∃ g, Hid (wr.heap.size = g) := ⟨_, rfl⟩
      rw [Hug.out] at C1
      go_wp2_with (first
        | (go_at_call 35; refine C1.mono ?_; rintro e w2 ⟨⟨rfl, hur, _⟩, b2⟩; rw [← Hug.out] at b2; replace hur := hur.base (b' := w.heap.size + 1) (by rw [← Hug.out]; exact hs); replace hcy := hcy.below b2; replace hO := hO.below b2 hO.lt; replace hs : w.heap.size + 1 ≤ w2.heap.size := Nat.le_trans hs b2.size; replace hB := Below.next hB b2))
      clear hcx1 C1 b2 Hug
      go_loopw [7, 10] (fun mv i wr => ∃ (j : Nat) (cs : List (List Nat)), i = .int .i64 j ∧ j ≤ r ∧ cs.length ≤ 200 * t + j ∧ Hid (Of n L cs) ∧ Hid (Cov n L cs t j) ∧ CycR wr (w.heap.size + 1) mv cs ∧ OwnB wr w.heap.size z (inB n cs) ∧ RowIs wr (w.heap.size + 1) (.slice (some ⟨ug, 0, none⟩) n n) (invL n x) ∧ w.heap.size + 1 ≤ wr.heap.size ∧ Below w.heap.size w wr) (fun _ i _ => (r - intOf i).toNat)
      case atStart => exact ⟨0, cs, rfl, by omega, by omega, HOF, HCV, hcy, hO, hur, hs, hB⟩
      case round =>
        clear hcy hO hs hB HOF HCV hcl hur Hc0
        obtain ⟨j, cs, rfl, hj, hcl, HOF, HCV, hcy, hO, hur, hs, hB⟩ := hrel
        obtain ⟨c, Hc⟩ : ∃ c, Hid (cs.length = c) := ⟨_, rfl⟩
        obtain ⟨ma, mc, hme⟩ := hcy.form
        rw [Hc.out] at hme hcl
        subst hme
        by_cases hjl : j < r
        · have hji : (j : Int) < r := by omega
          have hj0 : (0 : Int) ≤ (j : Int) := by omega
          have hjd : decide ((j : Int) < r) = true := by simp; omega
          obtain ⟨m, hmj⟩ : ∃ m, L[j]? = some m := ⟨L[j]'(by have := Hr.out; omega), by simp⟩
          have hmP := HLS.out m (List.mem_of_getElem? hmj)
          have HNX : Hid (Cov n L (addL cs (comm n x m)) t (j + 1)) := HCV.out.next HXT.out hmj
          have HNO : Hid (Of n L (addL cs (comm n x m))) := HOF.out.add (List.mem_of_getElem? HXT.out) (List.mem_of_getElem? hmj)
          obtain ⟨mb, mo, um, he, hmbw, hcm, hsm⟩ := HU.out.at hmj
          cases he
          obtain ⟨na, nc, hme⟩ : ∃ a c, um = .slice a n c := by obtain ⟨a, c, e, _⟩ := hsm; exact ⟨a, c, by rw [e, List.length_map, hmP.len]⟩
          subst hme
          have hcx2 := (hB.cell (p := ⟨lb, lo + t, none⟩) HX.out.1).trans HX.out.2.1
          have hcm2 := (hB.cell (p := ⟨lb, lo + j, none⟩) hmbw).trans hcm
          have HCM : Hid (w.cell? ⟨lb, lo + j, none⟩ = some (.slice na n nc)) := hcm
          have hsx2 := HX.out.2.2.below hB
          have hsm2 := hsm.below hB
          have HLM : Hid (lb < wr.heap.size) := Nat.lt_of_lt_of_le HX.out.1 hB.size
          have hus : Sl wr (.slice (some ⟨ug, 0, none⟩) n n) ((invL n x).map Int.ofNat) := hur.sl
          have ixP := invL_isP HXP.out
          have imP := invL_isP hmP
          have C1 := UndoL_any n m _ wr hn hsm2 hmP
          have C2 := fun q W (h1 : Sl W (.slice (some ⟨ug, 0, none⟩) n n) ((invL n x).map Int.ofNat)) (h2 : Sl W q ((invL n m).map Int.ofNat)) => ThenL_any n (invL n x) (invL n m) _ q W hn h1 h2 ixP imP.len
          have C3 := fun W (h1 : Sl W (.slice xa n xc) (x.map Int.ofNat)) (h2 : Sl W (.slice na n nc) (m.map Int.ofNat)) => ThenL_any n x m _ _ W hn h1 h2 HXP.out hmP.len
          have C4 := fun p q W (h1 : Sl W p ((thenL (invL n x) (invL n m)).map Int.ofNat)) (h2 : Sl W q ((thenL x m).map Int.ofNat)) => ThenL_any n (thenL (invL n x) (invL n m)) (thenL x m) p q W hn h1 h2 (ixP.then imP) (HXP.out.then hmP).len
          have ecm : thenL (thenL (invL n x) (invL n m)) (thenL x m) = comm n x m := by unfold comm; rw [then_assoc' ixP imP]
          rw [ecm] at C4
          have hyP := comm_isP HXP.out hmP
          have D := fun u W (h : Sl W u ((comm n x m).map Int.ofNat)) => RankL_any n (comm n x m) u W hn h hyP
          have hrk := HFR.out (comm n x m)
          have HYL : Hid ((comm n x m).length = n) := hyP.len
          have HIL : Hid ((invL n m).length = n ∧ (thenL (invL n x) (invL n m)).length = n ∧ (thenL x m).length = n) := ⟨imP.len, (ixP.then imP).len, (HXP.out.then hmP).len⟩
          have HYM : Hid (inB n cs (rnk n (comm n x m)) = true ↔ comm n x m ∈ cs) := inB_at hyP
          have HYA : Hid (comm n x m ∉ cs → ∀ k, k < z → upU (inB n cs) (rnk n (comm n x m)) k = inB n (addL cs (comm n x m)) k) := fun h => HIB.out cs _ hyP h
          obtain ⟨y, Hy⟩ : ∃ y, Hid (comm n x m = y) := ⟨_, rfl⟩
          rw [Hy.out] at C4 D hrk HNX HNO HYL HYM HYA
          obtain ⟨l1, Hl1⟩ : ∃ y, Hid (invL n m = y) := ⟨_, rfl⟩
          obtain ⟨l2, Hl2⟩ : ∃ y, Hid (thenL (invL n x) (invL n m) = y) := ⟨_, rfl⟩
          obtain ⟨l3, Hl3⟩ : ∃ y, Hid (thenL x m = y) := ⟨_, rfl⟩
          rw [Hl2.out] at C4 HIL C2
          rw [Hl3.out] at C4 HIL C3
          rw [Hl1.out] at C1 C2 HIL
          obtain ⟨q, Hq⟩ : ∃ q, Hid (rnk n y = q) := ⟨_, rfl⟩
          rw [Hq.out] at D hrk HYM HYA
          obtain ⟨bq, Hbq⟩ : ∃ bq, Hid (inB n cs q = bq) := ⟨_, rfl⟩
          rw [Hbq.out] at HYM
          have hqi : (q : Int) < (z : Int) := by omega
          have hq0 : (0 : Int) ≤ (q : Int) := by omega
          clear hmj hmP hcm hsm hmbw ixP imP ecm hyP
          go_wp2_with (first
            | (go_at_call 35; refine C1.mono ?_; rintro e w3 ⟨⟨v1, rfl, hv1⟩, b3⟩; obtain ⟨va, vc, hve⟩ : ∃ a c, v1 = .slice a n c := (by obtain ⟨a, c, e, _⟩ := hv1; exact ⟨a, c, by rw [e, List.length_map, HIL.out.1]⟩); subst hve; replace hcy := hcy.below b3; replace hO := hO.below b3 hO.lt; replace hur := hur.below b3; replace hus := hus.below b3; replace hs := Nat.le_trans hs b3.size; replace hB := Below.next hB b3; replace hsx2 := hsx2.below b3; replace hsm2 := hsm2.below b3; clear C1 hcx2 hcm2)
            | (go_at_call 34; refine (C2 _ _ hus hv1).mono ?_; rintro e w4 ⟨⟨p1, rfl, _, hp1⟩, b4⟩; obtain ⟨pa, pc, hpe⟩ : ∃ a c, p1 = .slice a n c := (by obtain ⟨a, c, e, _⟩ := hp1; exact ⟨a, c, by rw [e, List.length_map, HIL.out.2.1]⟩); subst hpe; replace hcy := hcy.below b4; replace hO := hO.below b4 hO.lt; replace hur := hur.below b4; replace hs := Nat.le_trans hs b4.size; replace hB := Below.next hB b4; replace hsx2 := hsx2.below b4; replace hsm2 := hsm2.below b4; clear C2 hv1 hus b3 b4))
          have hcx4 := (hB.cell (p := ⟨lb, lo + t, none⟩) HX.out.1).trans HX.out.2.1
          have hcm4 := (hB.cell (p := ⟨lb, lo + j, none⟩) HX.out.1).trans HCM.out
          have HLM4 : Hid (lb < w4.heap.size ∧ lb < w4.heap.size) := ⟨Nat.lt_of_lt_of_le HX.out.1 hB.size, Nat.lt_of_lt_of_le HX.out.1 hB.size⟩
          have C3' := C3 w4.drew hsx2 hsm2
          clear C3
          refine wp_region_noPanic ?_
          refine wp_region_held_drew (S := fun w' => w'.cell? ⟨lb, lo + t, none⟩ = some (.slice xa n xc) ∧ w'.cell? ⟨lb, lo + j, none⟩ = some (.slice na n nc)) (by kernel_rfl) (⟨hcx4, hcm4⟩) (fun hSx => ?_)
          refine wpAnyH_take (i := 0) (v := .slice (some ⟨lb, lo, none⟩) r lc) rfl (by kernel_rfl) (by kernel_rfl) (by kernel_rfl) (fun _ _ _ h => h) (Or.inl ⟨by rfl, fun w' hSw => by (try dsimp only at hSw); go_simp⟩) hSx ?_
          try simp only [Act.put, List.setIfInBounds_toArray]
          refine wpAnyH_take (i := 1) (v := .int .i64 (t : Int)) rfl (by kernel_rfl) (by kernel_rfl) (by kernel_rfl) (fun _ _ _ h => h) (Or.inl ⟨by rfl, fun w' hSw => by (try dsimp only at hSw); go_simp⟩) hSx ?_
          try simp only [Act.put]
          refine wpAnyH_take (i := 2) (v := .pointer (some ⟨lb, lo + t, none⟩)) rfl (by kernel_rfl) (by kernel_rfl) (by kernel_rfl) (fun _ _ _ h => h) (Or.inl ⟨by rfl, fun w' hSw => by (try dsimp only at hSw); go_simp⟩) hSx ?_
          try simp only [Act.put]
          refine wpAnyH_take (i := 3) (v := .slice xa n xc) rfl (by kernel_rfl) (by kernel_rfl) (by kernel_rfl) (fun _ _ _ h => h) (Or.inl ⟨by rfl, fun w' hSw => by (try dsimp only at hSw); go_simp⟩) hSx ?_
          try simp only [Act.put]
          refine wpAnyH_take (i := 4) (v := .slice (some ⟨lb, lo, none⟩) r lc) rfl (by kernel_rfl) (by kernel_rfl) (by kernel_rfl) (fun _ _ _ h => h) (Or.inl ⟨by rfl, fun w' hSw => by (try dsimp only at hSw); go_simp⟩) hSx ?_
          try simp only [Act.put]
          refine wpAnyH_take (i := 5) (v := .int .i64 (j : Int)) rfl (by kernel_rfl) (by kernel_rfl) (by kernel_rfl) (fun _ _ _ h => h) (Or.inl ⟨by rfl, fun w' hSw => by (try dsimp only at hSw); go_simp⟩) hSx ?_
          try simp only [Act.put]
          refine wpAnyH_take (i := 6) (v := .pointer (some ⟨lb, lo + j, none⟩)) rfl (by kernel_rfl) (by kernel_rfl) (by kernel_rfl) (fun _ _ _ h => h) (Or.inl ⟨by rfl, fun w' hSw => by (try dsimp only at hSw); go_simp⟩) hSx ?_
          try simp only [Act.put]
          refine wpAnyH_take (i := 7) (v := .slice na n nc) rfl (by kernel_rfl) (by kernel_rfl) (by kernel_rfl) (fun _ _ _ h => h) (Or.inl ⟨by rfl, fun w' hSw => by (try dsimp only at hSw); go_simp⟩) hSx ?_
          try simp only [Act.put]
          refine wpAnyH_ready (rs := [8]) (by kernel_rfl) (by simp) ?_
          refine AllReadyH.cons rfl (fun J hJ => ?_) AllReadyH.nil
          go_simp
          refine (C3').mono ?_
          rintro e w5 ⟨⟨q1, rfl, _, hq1⟩, b5⟩
          have hS4 : w5.cell? ⟨lb, lo + t, none⟩ = some (.slice xa n xc) ∧ w5.cell? ⟨lb, lo + j, none⟩ = some (.slice na n nc) := ⟨(b5.cell (p := ⟨lb, lo + t, none⟩) HLM4.out.1).trans hcx4, (b5.cell (p := ⟨lb, lo + j, none⟩) HLM4.out.2).trans hcm4⟩
          go_wp2_with fail
          refine hJ.out _ _ hS4 (fun _ => ?_)
          clear hJ J
          try simp only [Act.put, List.setIfInBounds_toArray, List.set_cons_zero, List.set_cons_succ]
          refine wpAnyH_ready (rs := [9]) (by kernel_rfl) (by simp) ?_
          refine AllReadyH.cons rfl (fun J hJ => ?_) AllReadyH.nil
          go_simp
          refine hJ.out _ _ hS4 (fun _ => ?_)
          clear hJ J
          try simp only [Act.put, List.setIfInBounds_toArray, List.set_cons_zero, List.set_cons_succ]
          refine wpAnyH_done (by kernel_rfl) ?_ _
          refine NoPanic.normal ?_
          have hp5 := Sl.below (w := w4.drew) hp1 b5
          replace hcy := CycR.below (w := w4.drew) hcy b5
          replace hO := OwnB.below (w := w4.drew) hO b5 (by show w.heap.size < w4.heap.size; omega)
          replace hur := RowIs.below (w := w4.drew) hur b5
          replace hs : w.heap.size + 1 ≤ w5.heap.size := Nat.le_trans hs b5.size
          replace hB := Below.next hB.drew b5
          obtain ⟨qa, qc, hqe⟩ : ∃ a c, q1 = .slice a n c := by obtain ⟨a, c, e, _⟩ := hq1; exact ⟨a, c, by rw [e, List.length_map, HIL.out.2.2]⟩
          subst hqe
          have C4' := C4 _ _ w5 hp5 hq1
          clear hSx hS4 hcx4 hcm4 hsx2 hsm2 b5 C3' C4 hp1 hp5 hq1
          have hcq := fun W (b : Below w5.heap.size w5 W) => (hO.below b hO.lt).cell q (by omega)
          rw [Hbq.out] at hcq
          have hfq := fun W (b : Below w5.heap.size w5 W) => (hO.below b hO.lt).frozen q
          cases bq with
          | true =>
            have HIN : Hid (addL cs y = cs) := by unfold addL; exact if_pos (HYM.out.1 (by trivial))
            go_wp2_with (first
              | (go_at_call 34; refine C4'.mono ?_; rintro e w6 ⟨⟨y1, rfl, _, hsl6⟩, b6⟩; obtain ⟨ya, yc, hye⟩ : ∃ a c, y1 = .slice a n c := (by obtain ⟨a, c, e, _⟩ := hsl6; exact ⟨a, c, by rw [e, List.length_map, HYL.out]⟩); subst hye; have D2 := D _ w6 hsl6; have hcq6 := hcq _ b6; have hfq6 := hfq _ b6; replace hcy := hcy.below b6; replace hO := hO.below b6 hO.lt; replace hur := hur.below b6; replace hs := Nat.le_trans hs b6.size; replace hB := Below.next hB b6; clear hcq hfq C4' D hsl6 b6)
              | (go_at_call 18; refine D2.mono ?_; rintro e w7 ⟨rfl, hw⟩; replace hw := hw.symm; subst hw))
            go_roundw
            case rel => exact ⟨j + 1, cs, by go_num, by omega, by have := Hc.out; omega, by have := HNO.out; rwa [HIN.out] at this, by have := HNX.out; rwa [HIN.out] at this, hcy, hO, hur, hs, hB⟩
            case measure => simp [intOf]; omega
          | false =>
            have HNI : Hid (y ∉ cs) := fun h => absurd (HYM.out.2 h) Bool.false_ne_true
            have HIN : Hid (addL cs y = cs ++ [y]) := by unfold addL; exact if_neg HNI.out
            have HUP : Hid (∀ k, k < z → upU (inB n cs) q k = inB n (addL cs y) k) := HYA.out HNI.out
            clear HYA
            go_wp2_with (first
              | (go_at_call 34; refine C4'.mono ?_; rintro e w6 ⟨⟨y1, rfl, hown6, hsl6⟩, b6⟩; obtain ⟨ya, yc, hye⟩ : ∃ a c, y1 = .slice a n c := (by obtain ⟨a, c, e, _⟩ := hsl6; exact ⟨a, c, by rw [e, List.length_map, HYL.out]⟩); subst hye; have D2 := D _ w6 hsl6; have hcq6 := hcq _ b6; have hfq6 := hfq _ b6; have hrow6 : RowIs w6 (w.heap.size + 1) (.slice ya n yc) y := (row_of hown6 HYL.out (by omega)).base hs; have hO5 := ((hO.below b6 hO.lt).set q).congr HUP.out; have hcy5 : CycR (w6.setCell ⟨w.heap.size, q, none⟩ (.bool true)) (w.heap.size + 1) (.slice ma c mc) cs := (hcy.below b6).kp (Kp.set _ _ _ _) (by omega); have hrow5 : RowIs (w6.setCell ⟨w.heap.size, q, none⟩ (.bool true)) (w.heap.size + 1) (.slice ya n yc) y := hrow6.kp (Kp.set _ _ _ _) (by omega); have hur5 : RowIs (w6.setCell ⟨w.heap.size, q, none⟩ (.bool true)) (w.heap.size + 1) (.slice (some ⟨ug, 0, none⟩) n n) (invL n x) := (hur.below b6).kp (Kp.set _ _ _ _) (by omega); replace hs : w.heap.size + 1 ≤ w6.heap.size := Nat.le_trans hs b6.size; have hB5 : Below w.heap.size w (w6.setCell ⟨w.heap.size, q, none⟩ (.bool true)) := (Below.next hB b6).setCell (p := ⟨w.heap.size, q, none⟩) (Nat.le_refl _) _; obtain ⟨vals, hv1, hv2⟩ := hcy5; rw [Hc.out] at hv1; have HV2 : Hid (∀ (i : Nat) (u : Value) (l : List Nat), vals[i]? = some u → cs[i]? = some l → RowIs (w6.setCell ⟨w.heap.size, q, none⟩ (.bool true)) (w.heap.size + 1) u l) := hv2; have HR5 : Hid (RowIs (w6.setCell ⟨w.heap.size, q, none⟩ (.bool true)) (w.heap.size + 1) (.slice ya n yc) y) := hrow5; have HU5 : Hid (RowIs (w6.setCell ⟨w.heap.size, q, none⟩ (.bool true)) (w.heap.size + 1) (.slice (some ⟨ug, 0, none⟩) n n) (invL n x)) := hur5; have HO5 : Hid (OwnB (w6.setCell ⟨w.heap.size, q, none⟩ (.bool true)) w.heap.size z (inB n (addL cs y))) := hO5; clear hv2 hrow5 hrow6 hcy hO hO5 hur hur5 hown6 hsl6 hcq hfq C4' D b6 hB)
              | (go_at_call 18; refine D2.mono ?_; rintro e w7 ⟨rfl, hw⟩; replace hw := hw.symm; subst hw)
              | (at_builtin; refine wpList_append_lies _ rfl _ _ 22 rfl (w.heap.size + 1) 23 i23 (.slice none 0 0) 1 24 und22' HI2.out.1 HI2.out.2.1 HI2.out.2.2.1 HI2.out.2.2.2 rfl (by decide) _ c _ rfl (hv1.alloc _) ⟨w6.heap.size, 0, none⟩ 1 1 [.slice ya n yc] rfl rfl ?c1 ?c2 (by omega) ?c3 ?c4 ?c5 (w6.heap.size + 1) (by simp) ?_))
            case c1 =>
              have h := cell_one_new (w6.setCell ⟨w.heap.size, q, none⟩ (.bool true)) (.slice ya n yc) 23
              rw [show (w6.setCell ⟨w.heap.size, q, none⟩ (.bool true)).heap.size = w6.heap.size by simp] at h
              exact h
            case c2 => intro u hu; simp at hu; subst hu; rfl
            case c3 => unfold maxLen; omega
            case c4 => omega
            case c5 => simp; omega
            · intro g8 cap8 w8 hown8 hgrow8 _ hlt8
              have hb8 : Below w.heap.size w w8 := (hB5.alloc hB5.size _).grown hgrow8 (by simp; omega) (fun g hg => by have := (hv1.lt g hg).1; omega)
              have hal : ∀ {u l}, RowIs (w6.setCell ⟨w.heap.size, q, none⟩ (.bool true)) (w.heap.size + 1) u l → RowIs ((w6.setCell ⟨w.heap.size, q, none⟩ (.bool true)).alloc (.cells #[.slice ya n yc] 23)) (w.heap.size + 1) u l := fun h => h.kp (M := 0) (Kp.below (balloc _ _)) (by omega)
              have hcy8 : CycR w8 (w.heap.size + 1) (.slice (some ⟨g8, 0, none⟩) (c + 1) cap8) (cs ++ [y]) := CycR.more (wa := (w6.setCell ⟨w.heap.size, q, none⟩ (.bool true)).alloc (.cells #[.slice ya n yc] 23)) (vals := vals) (by rw [Hc.out]; exact hv1.alloc _) (fun i u l h1 h2 => hal (HV2.out i u l h1 h2)) (hal HR5.out) (by rw [Hc.out]; exact hown8) hgrow8
              have hO8 : OwnB w8 w.heap.size z (inB n (addL cs y)) := HO5.out.block ((hgrow8.block _ (by simp; omega) (fun e => by have := (hv1.lt _ e.symm).1; omega)).trans ((balloc _ _).block _ (by simp; omega)))
              have hur8 := RowIs.grown (hv1.alloc (.cells #[.slice ya n yc] 23)) hgrow8 (hal HU5.out)
              have hs8 : w.heap.size + 1 ≤ w8.heap.size := by have := hgrow8.size; simp at this; omega
              clear hown8 hgrow8 hv1 HV2 HR5 HO5 HU5
              go_wp2
              go_roundw
              case rel => exact ⟨j + 1, addL cs y, by go_num, by omega, by have := addL_le cs y; have := Hc.out; omega, HNO, HNX, by rw [HIN.out]; exact hcy8, hO8, hur8, hs8, hb8⟩
              case measure => simp [intOf]; omega
        · obtain rfl : j = r := by omega
          have hkd : decide ((j : Int) < (j : Int)) = false := by simp
          go_wp2
          go_roundw
          case rel =>
            refine ⟨t + 1, cs, by go_num, by omega, by have := Hc.out; omega, HOF, ?_, hcy, hO, hs, hB⟩
            have h := HCV.out
            rw [← Hr.out] at h
            exact h.turn
          case measure => simp [intOf]; omega
    · obtain rfl : t = r := by omega
      have hkd : decide ((t : Int) < (t : Int)) = false := by simp
      have HCL : Hid (cs.length ≤ 100000) := (by omega : cs.length ≤ 100000)
      obtain ⟨c, Hc⟩ : ∃ c, Hid (cs.length = c) := ⟨_, rfl⟩
      obtain ⟨ma, mc, hme⟩ := hcy.form
      have CM' := CM cs _ wr HCL.out hcy.sl (HOF.out.isP HLS.out)
      have HFIN : Hid (∀ a b, a ∈ L → b ∈ L → comm n a b ∈ cs) := fun a b ha hb => by
        have h := HCV.out
        rw [← Hr.out] at h
        exact h.all ha hb
      rw [Hc.out] at hme
      subst hme
      clear hcl hcy hO hs CM
      go_wp2_with (first
        | (go_at_call 14; refine CM'.mono ?_; rintro e w7 ⟨⟨g, L', rfl, hgb, hO, hg⟩, b7⟩; have HG := HEL.out cs L' hg; clear hg; replace b7 := Below.next hB b7))
      have HGG : Hid ((listF n (inB n L') z).length = ordG n cs) := HG
      clear HG hB CM'
      go_loopw [17, 18] (fun o i wr => ∃ k : Nat, o = .int .i64 ((listF n (inB n L') k).length : Int) ∧ i = .int .i64 k ∧ k ≤ z ∧ wr = w7) (fun _ i _ => (z - intOf i).toNat)
      case atStart => exact ⟨0, by simp [listF], rfl, by omega, rfl⟩
      case round =>
        obtain ⟨k, rfl, rfl, hk, rfl⟩ := hrel
        have hlen := listF_len n (inB n L') k
        by_cases hlt : k < z
        · have hki : (k : Int) < z := by omega
          have hk0 : (0 : Int) ≤ (k : Int) := by omega
          have hdec : decide ((k : Int) < z) = true := by simp; omega
          have hck := hO.cell k hlt
          have hfk := hO.frozen k
          cases hF : inB n L' k with
          | true =>
            rw [hF] at hck
            have HL0 : (listF n (inB n L') (k + 1)).length = (listF n (inB n L') k).length + 1 := by rw [listF_yes hF, List.length_append]; rfl
            have HL : Hid ((listF n (inB n L') (k + 1)).length = (listF n (inB n L') k).length + 1) := HL0
            clear HL0
            obtain ⟨m, Hm⟩ : ∃ m, Hid ((listF n (inB n L') k).length = m) := ⟨_, rfl⟩
            rw [Hm.out] at HL hlen ⊢
            go_wp2
            go_roundw
            case rel => exact ⟨k + 1, by rw [HL.out]; go_num, by go_num, by omega, trivial⟩
            case measure => simp [intOf]; omega
          | false =>
            rw [hF] at hck
            have HL : Hid (listF n (inB n L') (k + 1) = listF n (inB n L') k) := listF_no hF
            go_wp2
            go_roundw
            case rel => exact ⟨k + 1, by rw [HL.out], by go_num, by omega, trivial⟩
            case measure => simp [intOf]; omega
        · obtain rfl : k = z := by omega
          have hkd : decide ((k : Int) < (k : Int)) = false := by simp
          go_wp2
          go_ret
          exact ⟨⟨cs, by rw [← HGG.out]; rfl, HOF.out, HFIN.out⟩, b7⟩

end Go.Proofs.Ytnbkabggmomhlaa

/- The law GroupParts, walked. -/
namespace Go.Proofs.Ytnbkabggmomhlaa
open Go.RowKit

/-- What the document's commutators make, and what the program's make. -/
theorem der_same {n : Nat} {ms cs : List (List Nat)} {d : Nat} (hm : ∀ m ∈ ms, IsP n m) (h : DerIs n ms d) (h1 : Of n (els n (Gen n ms)) cs) (h2 : ∀ a b, a ∈ els n (Gen n ms) → b ∈ els n (Gen n ms) → comm n a b ∈ cs) : ordG n cs = d := by
  obtain ⟨cs0, k1, k2, rfl⟩ := h
  have hG := gen_grp hm
  have pc : ∀ c ∈ cs, IsP n c := h1.isP fun a ha => (mem_els.1 ha).1
  have pc0 : ∀ c ∈ cs0, IsP n c := fun c hc => by
    obtain ⟨a, b, q1, q2, rfl⟩ := k1 c hc
    exact comm_isP (q1.isP hm) (hm b q2)
  unfold ordG
  rw [els_congr fun a _ => ?_]
  constructor
  · refine fun ha => gen_in (gen_grp pc0) (fun c hc => ?_) ha
    obtain ⟨a, b, q1, q2, rfl⟩ := h1 c hc
    exact der_all hm k1 k2 _ ⟨a, b, hG.mem.1 q1, hG.mem.1 q2, rfl⟩
  · refine fun ha => gen_in (gen_grp pc) (fun c hc => ?_) ha
    obtain ⟨a, b, q1, q2, rfl⟩ := k1 c hc
    exact Gen.maker pc (h2 a b (hG.mem.2 q1) (hG.mem.2 (Gen.maker hm q2)))

set_option maxRecDepth 100000 in
set_option maxHeartbeats 8000000 in
theorem law5_bad (n : Int) (ls : List (List Int)) (v : Value) (w : World) (hv : Came ls v w) (h0 : gF n ls ≠ 0) :
    Calls Try.prog 5 #[.int .i64 n, v] w fun e w' => e = .returned (.bool true) ∧ Below w.heap.size w w' := by
  obtain ⟨z, Hz⟩ : ∃ z, Hid (gF n ls = z) := ⟨_, rfl⟩
  have hz : z ≠ 0 := by rw [← Hz.out]; exact h0
  have C9 := GroupFault_any n ls v w hv.sls hv.each hv.len
  have C28 := fun W (h : Below w.heap.size w W) => Centre_bad n ls v W (hv.below h).sls hv.each hv.len z Hz.out hz
  have C29 := fun W (h : Below w.heap.size w W) => Derived_bad n ls v W (hv.below h).sls hv.each hv.len z Hz.out hz
  rw [Hz.out] at C9
  have hzd : (z != 0) = true := by simpa using hz
  obtain ⟨a, cap, rfl, _⟩ := hv.sls
  clear hv h0 hz
  go_enter Try.func5, Try.ntmps5
  go_wp2_with (first
    | (go_at_call 9; refine C9.mono ?_; rintro e w1 ⟨rfl, b1⟩)
    | (go_at_call 28; refine (C28 _ b1).mono ?_; rintro e w2 ⟨rfl, b2⟩; replace b2 := Below.next b1 b2)
    | (go_at_call 29; refine (C29 _ b2).mono ?_; rintro e w3 ⟨rfl, b3⟩; replace b3 := Below.next b2 b3))
  go_ret
  exact ⟨rfl, b3⟩

set_option maxRecDepth 100000 in
set_option maxHeartbeats 8000000 in
theorem law5_ok (n : Nat) (ms : List (List Nat)) (v : Value) (w : World) (hM : Mk n ms v w) :
    Calls Try.prog 5 #[.int .i64 (n : Int), v] w fun e w' => e = .returned (.bool true) ∧ Below w.heap.size w w' := by
  have C9 := GroupFault_any n _ v w hM.sl.sls (hM.each) (hM.lenI)
  rw [gF_isP hM.n1 hM.n7 hM.len hM.isP] at C9
  have C28 := fun W (h : Below w.heap.size w W) => Centre_ok n ms v W (hM.below h)
  have C29 := fun W (h : Below w.heap.size w W) => Derived_ok n ms v W (hM.below h)
  have C14 := fun W (h : Below w.heap.size w W) => Members_any n ms v W hM.n7 hM.n1 (by have := hM.len; omega) (hM.below h).sl hM.isP
  have C15 := fun g L W (h : OwnB W g (fac n) (inB n L)) => ListOf_any n g (inB n L) W hM.n7 hM.n1 h
  have E1 : Hid (∀ L : List (List Nat), (∀ a, a ∈ L ↔ Gen n ms a) → listF n (inB n L) (fac n) = els n (Gen n ms)) := fun L hg => listed hg
  have HOL : Hid ((els n (Gen n ms)).length = ordG n ms) := rfl
  have hob : ordG n ms ≤ 5040 := ord_le' hM.isP hM.n7
  have HEP : ∀ m ∈ els n (Gen n ms), IsP n m := fun m hm => (mem_els.1 hm).1
  have C30 := fun u W (h : Below w.heap.size w W) (hu : SlSl W u (els n (Gen n ms))) => CentreOf_any n ms (els n (Gen n ms)) v u W hM.n7 hM.len (hM.below h).sl hM.isP hu HEP hob
  have C31 := fun u W (hu : SlSl W u (els n (Gen n ms))) (hl : ordG n ms ≤ 200) => DerivedOf_any n (els n (Gen n ms)) u W hM.n7 hM.n1 hu HEP hl
  have ecn : cenC ms (els n (Gen n ms)) = cenG n ms := rfl
  rw [ecn] at C30
  have HDS : Hid (∀ d cs, DerIs n ms d → Of n (els n (Gen n ms)) cs → (∀ a b, a ∈ els n (Gen n ms) → b ∈ els n (Gen n ms) → comm n a b ∈ cs) → ordG n cs = d) := fun d cs h1 h2 h3 => der_same hM.isP h1 h2 h3
  have HDP : Hid (∀ d, DerIs n ms d → 0 < d) := fun d h => (h.dvd hM.isP).2
  obtain ⟨E, HE⟩ : ∃ E, Hid (els n (Gen n ms) = E) := ⟨_, rfl⟩
  obtain ⟨o, Ho⟩ : ∃ o, Hid (ordG n ms = o) := ⟨_, rfl⟩
  obtain ⟨z, Hz⟩ : ∃ z, Hid (fac n = z) := ⟨_, rfl⟩
  obtain ⟨r, Hr⟩ : ∃ r, Hid (ms.length = r) := ⟨_, rfl⟩
  obtain ⟨c, Hc⟩ : ∃ c, Hid (cenG n ms = c) := ⟨_, rfl⟩
  simp only [HE.out] at E1 HOL C30 C31 HDS
  rw [Ho.out] at HOL hob C31
  rw [Hz.out] at E1 C14 C15
  rw [Hc.out] at C28 C30
  have hr4 : r ≤ 4 := by rw [← Hr.out]; exact hM.len
  obtain ⟨va, vc, rfl, _⟩ := id hM.sl
  rw [Hr.out] at C9 C28 C29 C14 C30 ⊢
  clear hM HEP ecn
  by_cases h200 : o ≤ 200
  · have h2 : decide (200 < (o : Int)) = false := decide_eq_false (by omega)
    go_enter Try.func5, Try.ntmps5
    go_wp2_with (first
      | (go_at_call 9; refine C9.mono ?_; rintro e w1 ⟨rfl, b1⟩)
      | (go_at_call 28; refine (C28 _ b1).mono ?_; rintro e w2 ⟨rfl, b2⟩; replace b2 := Below.next b1 b2)
      | (go_at_call 29; refine (C29 _ b2).mono ?_; rintro e w3 ⟨⟨d, rfl, hd⟩, b3⟩; have HD : Hid (DerIs n ms d) := hd; clear hd; replace b3 := Below.next b2 b3)
      | (go_at_call 14; refine (C14 _ b3).mono ?_; rintro e w6 ⟨⟨g, L, rfl, hgb, hO, hg⟩, b6⟩; have HG : Hid (∀ a, a ∈ L ↔ Gen n ms a) := hg; clear hg; replace b6 := Below.next b3 b6)
      | (go_at_call 15; refine (C15 _ _ _ hO).mono ?_; rintro e w7 ⟨⟨lv, rfl, hcy⟩, b7⟩; rw [E1.out L HG.out] at hcy; obtain ⟨la, lc, hle⟩ := hcy.form; rw [HOL.out] at hle; subst hle; have hsl := hcy.sl; clear hcy; replace b7 := Below.next b6 b7)
      | (go_at_call 30; refine (C30 _ _ b7 hsl).mono ?_; rintro e w8 ⟨rfl, b8⟩; replace hsl := hsl.below b8; replace b8 := Below.next b7 b8)
      | (go_at_call 31; refine (C31 _ _ hsl h200).mono ?_; rintro e w9 ⟨⟨cs, rfl, hof, hall⟩, b9⟩; replace b9 := Below.next b8 b9; rw [HDS.out d cs HD.out hof hall]))
    go_ret
    exact ⟨by simp, b9⟩
  · have h2 : decide (200 < (o : Int)) = true := decide_eq_true (by omega)
    go_enter Try.func5, Try.ntmps5
    go_wp2_with (first
      | (go_at_call 9; refine C9.mono ?_; rintro e w1 ⟨rfl, b1⟩)
      | (go_at_call 28; refine (C28 _ b1).mono ?_; rintro e w2 ⟨rfl, b2⟩; replace b2 := Below.next b1 b2)
      | (go_at_call 29; refine (C29 _ b2).mono ?_; rintro e w3 ⟨⟨d, rfl, hd⟩, b3⟩; have hdp := HDP.out d hd; have hd1 : decide (1 ≤ (d : Int)) = true := (decide_eq_true (by omega)); clear hd; replace b3 := Below.next b2 b3)
      | (go_at_call 14; refine (C14 _ b3).mono ?_; rintro e w6 ⟨⟨g, L, rfl, hgb, hO, hg⟩, b6⟩; have HG : Hid (∀ a, a ∈ L ↔ Gen n ms a) := hg; clear hg; replace b6 := Below.next b3 b6)
      | (go_at_call 15; refine (C15 _ _ _ hO).mono ?_; rintro e w7 ⟨⟨lv, rfl, hcy⟩, b7⟩; rw [E1.out L HG.out] at hcy; obtain ⟨la, lc, hle⟩ := hcy.form; rw [HOL.out] at hle; subst hle; have hsl := hcy.sl; clear hcy; replace b7 := Below.next b6 b7)
      | (go_at_call 30; refine (C30 _ _ b7 hsl).mono ?_; rintro e w8 ⟨rfl, b8⟩; replace hsl := hsl.below b8; replace b8 := Below.next b7 b8))
    go_ret
    exact ⟨rfl, b8⟩

theorem law5_any (n : Int) (ls : List (List Int)) (v : Value) (w : World) (hv : Came ls v w) :
    Calls Try.prog 5 #[.int .i64 n, v] w fun e w' => e = .returned (.bool true) ∧ Below w.heap.size w w' := by
  by_cases h0 : gF n ls = 0
  · obtain ⟨m, ms, rfl, hM, hlen⟩ := hv.mk' h0
    exact law5_ok m ms v w hM
  · exact law5_bad n ls v w hv h0

end Go.Proofs.Ytnbkabggmomhlaa

namespace Go.Proofs.Ytnbkabggmomhlaa
open Go.ChangeShapes Go.WideShapes Go.ChangeAt Go.RowKit

set_option maxRecDepth 100000 in
theorem groupParts_lifted (os : Os) (started : os.Started) (H : Type) (enc : TypeId × Value → H) :
    ReturnsInHanded {} Try.checked os 5 .any (Rows.groupPartsSpec.pre6 enc Try.prog Try.f5 Rows.groupPartsRow.domain false) (Rows.groupPartsSpec.post enc Try.prog Try.f5 false true false false) := by
  refine returnsInHanded_of_change_sized (C := Try.checked) own started (by kernel_rfl) Try.func5
    (ChangeSpec.witness6 (enc := enc) (C := Try.checked) false ⟨#[], #[.int .i64 0, .slice none 0 0], []⟩ 8 (by kernel_rfl) (by kernel_rfl) (by kernel_rfl) (by kernel_rfl)) ?_
  intro W base args ds gs before hval0 hW _ _ _
  have hval : ∀ (j : Nat) t v, Try.f5.params[j]? = some t → args[j]? = some v → Value.okWide Try.prog W .any base t v := hval0
  have hW' := hW
  obtain ⟨p, q, hA0, hV, rfl, hfz, hnd⟩ := hW
  have hA : DataW.TrodAll enc Try.prog W 0 (fun _ => true) true Try.f5.params.toList args.toList ds p := hA0
  rw [Try.params5] at hA hval
  obtain ⟨v0, vs0, d0, ds0, p0, q0, hargs, rfl, rfl, h0, r0⟩ := trodAll_cons hA
  obtain ⟨v1, vs1, d1, ds1, p1, q1, rfl, rfl, rfl, h1, r1⟩ := trodAll_cons r0
  obtain ⟨rfl, rfl, rfl⟩ := trodAll_nil r1
  obtain rfl : args = #[v0, v1] := by cases args; simp_all
  obtain ⟨rfl, rfl⟩ := trodVars_none hV
  obtain ⟨a0, rfl, rfl, rfl, w0⟩ := open_int Try.underlying3 (hval 0 3 v0 rfl rfl) h0
  have k1 := h1
  have lt1 : ∀ x ∈ p1, x.block < W.heap.size := by obtain ⟨m, hm⟩ := k1; exact DataW.trod_lt m _ _ _ hm
  obtain ⟨l1, hl1⟩ := came_of_trod' (hval 1 22 v1 rfl rfl) h1
  clear hA0 hval0
  refine (law5_any a0 l1 v1 W hl1).mono fun e W' ⟨he, bel⟩ => ?_
  subst he
  exact ⟨_, rfl, _, _, _, [], _, [], hW', trodAll_mk1 (shut_bool Try.underlying4 _), (trodAll_cons_mk (shut_int Try.underlying3 w0) (trodAll_cons_mk (Below.trod laidOut (by kernel_rfl) (of_decide_eq_true (by kernel_rfl)) k1 bel lt1) trodAll_mk0)), rfl, bel.frame _, fun h => by cases h⟩

theorem groupParts_holds : Rows.GroupPartsSaid :=
  OpenClaim.holds_of_wide 5 Try.f5 rfl rfl rfl rfl rfl rfl rfl ⟨rfl, rfl, rfl, rfl, rfl⟩ rfl rfl rfl rfl rfl (by kernel_rfl) Try.func5 (by kernel_rfl)
    (of_decide_eq_true (by kernel_rfl)) (by unfold Func.isWrapper; first | (rw [if_pos (by decide +kernel)]; kernel_rfl) | (rw [if_neg (by decide +kernel)]; exact ⟨rfl, rfl⟩))
    (fun os started H enc _ => groupParts_lifted os started H enc)

end Go.Proofs.Ytnbkabggmomhlaa
