/- The document's PerfectOf, walked. -/
import Derived.Test.YtpeplnojmogkfaaQ2
namespace Go.Proofs.Ytpeplnojmogkfaa
open Go.RowKit

theorem toZ_at {L : List (List Nat)} {i : Nat} (h : i < L.length) : (toZ L)[i]? = some ((L.getD i []).map Int.ofNat) := by
  unfold toZ
  rw [List.getElem?_map, List.getD_eq_getElem?_getD, List.getElem?_eq_getElem h]
  rfl
theorem getD_mem {L : List (List Nat)} {i : Nat} (h : i < L.length) : L.getD i [] ∈ L := by
  rw [List.getD_eq_getElem?_getD, List.getElem?_eq_getElem h]
  exact List.getElem_mem h
/-- The rows as they are read, each with its address. -/
structure RwN (w : World) (b o n : Nat) (L : List (List Nat)) : Prop where
  row : ∀ i, i < L.length → ∃ g o1 c, w.cell? ⟨b, o + i, none⟩ = some (.slice (some ⟨g, o1, none⟩) n c) ∧ Sl w (.slice (some ⟨g, o1, none⟩) n c) ((L.getD i []).map Int.ofNat) ∧ ∀ x, x < n → w.cell? ⟨g, o1 + x, none⟩ = some (.int .i64 (((L.getD i []).getD x 0 : Nat) : Int))
theorem rwN_of {w : World} {v : Value} {L : List (List Nat)} {n : Nat} (h : Rw w v (toZ L)) (h1 : 0 < L.length) (hn : 0 < n) (hL : ∀ l ∈ L, l.length = n) : ∃ b o c, v = .slice (some ⟨b, o, none⟩) L.length c ∧ ∀ W, Below w.heap.size w W → RwN W b o n L := by
  obtain ⟨a, cap, rfl, _, hr⟩ := id h
  have hlen : (toZ L).length = L.length := by simp [toZ]
  obtain ⟨b, o, u, ea, _, _⟩ := hr 0 _ (toZ_at h1)
  subst ea
  refine ⟨b, o, cap, by rw [hlen], fun W hW => ⟨fun i hi => ?_⟩⟩
  obtain ⟨b', o', u, e, hc, hs⟩ := (h.below hW).at (toZ_at hi) rfl
  simp only [Option.some.injEq, Addr.mk.injEq, and_true] at e
  obtain ⟨rfl, rfl⟩ := e
  obtain ⟨g, o1, c, rfl, _, hk⟩ := hs.form (n := n) (by rw [List.length_map]; exact hL _ (getD_mem hi)) hn
  exact ⟨g, o1, c, hc, hs, fun x hx => by rw [← nat_at]; exact hk x hx⟩
set_option maxRecDepth 100000 in
set_option maxHeartbeats 16000000 in
theorem PerfectOf_any (n : Nat) (L : List (List Nat)) (v : Value) (w : World) (hv : Rw w v (toZ L)) (hG : GoodR n L) :
    Calls Try.prog 11 #[.int .i64 (n : Int), v] w fun e w' => (∃ b : Bool, e = .returned (.bool b) ∧ (b = true ↔ Pfc n L)) ∧ Below w.heap.size w w' := by
  have h2 := hG.two
  have h16 := hG.le
  have hfew := hG.few
  obtain ⟨m, Hm⟩ : ∃ m, Hid (L.length = m) := ⟨_, rfl⟩
  by_cases hm : m = n - 1
  · have hm0 : 0 < L.length := by rw [Hm.out]; omega
    obtain ⟨b, o, cap, rfl, hN⟩ := rwN_of hv hm0 (by omega) hG.rds.len
    have HN : Hid (∀ W, Below w.heap.size w W → RwN W b o n L) := hN
    have HR : Hid (∀ i, i < m → Rnd n (fun x => (L.getD i []).getD x 0) ∧ (L.getD i []).length = n) := fun i hi => ⟨hG.rds.rnd _ (getD_mem (by rw [Hm.out]; exact hi)), hG.rds.len _ (getD_mem (by rw [Hm.out]; exact hi))⟩
    have HY : Hid ((∀ i j, j < i → i < m → Cn n (L.getD i []) (L.getD j [])) → Pfc n L) := fun h => ⟨by rw [Hm.out]; exact hm, fun i j hj hi => h i j hj (by rw [← Hm.out]; exact hi)⟩
    have HNo : Hid (∀ i j, j < i → i < m → ¬ Cn n (L.getD i []) (L.getD j []) → ¬ Pfc n L) := fun i j hj hi h hp => h (hp.2 i j hj (by rw [Hm.out]; exact hi))
    have hmn : (m : Int) = (n : Int) - 1 := by omega
    rw [Hm.out]
    have hne : ((m : Int) != (n : Int) - 1) = false := by simp [hmn]
    have HMN : Hid (m = n - 1) := hm
    have hm16 : m ≤ 16 := by omega
    clear hN hv hG hmn hm hm0 hfew
    go_enter Try.func11, Try.ntmps11
    go_wp2
    go_loopw [5] (fun iv wr => ∃ i : Nat, iv = .int .i64 (i : Int) ∧ i ≤ m ∧ Hid (∀ x y, y < x → x < i → Cn n (L.getD x []) (L.getD y [])) ∧ Below w.heap.size w wr) (fun iv _ => (m - intOf iv).toNat)
    case atStart => exact ⟨0, rfl, by omega, (show ∀ x y, y < x → x < 0 → _ from fun x y _ h => by omega), Below.refl _ _⟩
    case round =>
      obtain ⟨i, rfl, hi, HI, hB⟩ := hrel
      by_cases hlt : i < m
      · have hdi : decide ((i : Int) < (m : Int)) = true := by simp; omega
        have hii : (i : Int) < (m : Int) := by omega
        go_wp2
        go_loopw [6] (fun jv wr => ∃ j : Nat, jv = .int .i64 (j : Int) ∧ j ≤ i ∧ Hid (∀ y, y < j → Cn n (L.getD i []) (L.getD y [])) ∧ Below w.heap.size w wr) (fun jv _ => (i - intOf jv).toNat)
        case atStart => exact ⟨0, rfl, by omega, (show ∀ y, y < 0 → _ from fun y h => by omega), hB⟩
        case round =>
          clear hB
          obtain ⟨j, rfl, hj, HJ, hB⟩ := hrel
          by_cases hlj : j < i
          · have hdj : decide ((j : Int) < (i : Int)) = true := by simp; omega
            have hjj : (j : Int) < (i : Int) := by omega
            have hjm : (j : Int) < (m : Int) := by omega
            obtain ⟨g1, o1, c1, r1, s1, _⟩ := (HN.out wr hB).row i (by rw [Hm.out]; exact hlt)
            obtain ⟨g2, o2, c2, r2, s2, _⟩ := (HN.out wr hB).row j (by rw [Hm.out]; omega)
            have CT : ∀ W, Below wr.heap.size wr W → Calls Try.prog 30 #[.slice (some ⟨g1, o1, none⟩) n c1, .slice (some ⟨g2, o2, none⟩) n c2] W fun e w' => (∃ c : Nat, e = .returned (.int .i64 (c : Int)) ∧ c ≤ n ∧ (c = n ↔ Cn n (L.getD i []) (L.getD j []))) ∧ Below W.heap.size W w' := fun W b' => ringOf_any n _ _ _ _ W (s1.below b') (s2.below b') (HR.out i hlt).1 (HR.out j (by omega)).1 (HR.out i hlt).2 (HR.out j (by omega)).2 h2 h16
            have HS : Hid (∀ W', Below wr.heap.size wr W' → (fun w' => w'.cell? ⟨b, o + i, none⟩ = some (.slice (some ⟨g1, o1, none⟩) n c1) ∧ w'.cell? ⟨b, o + j, none⟩ = some (.slice (some ⟨g2, o2, none⟩) n c2)) W') := fun W' b => ⟨(b.cell (World.block_lt_of_cell? _ _ r1)).trans r1, (b.cell (World.block_lt_of_cell? _ _ r2)).trans r2⟩
            clear s1 s2 r1 r2
            go_wp2
            refine wp_region_noPanic ?_
            refine wp_region_held_drew (S := fun w' => w'.cell? ⟨b, o + i, none⟩ = some (.slice (some ⟨g1, o1, none⟩) n c1) ∧ w'.cell? ⟨b, o + j, none⟩ = some (.slice (some ⟨g2, o2, none⟩) n c2)) (by kernel_rfl) (HS.out _ (Below.refl _ wr).drew) (fun hSx => ?_)
            have d0 : Below wr.heap.size wr wr.drew := (Below.refl _ wr).drew
            refine wpAnyH_take (i := 0) (v := .slice (some ⟨b, o, none⟩) m cap) rfl (by kernel_rfl) (by kernel_rfl) (by kernel_rfl) (fun _ _ _ h => h) (Or.inl ⟨by rfl, fun w' hSw => by (try dsimp only at hSw); obtain ⟨hs0, hs1⟩ := hSw; go_simp⟩) hSx ?_
            try simp only [Act.put, List.setIfInBounds_toArray]
            refine wpAnyH_take (i := 1) (v := .int .i64 (i : Int)) rfl (by kernel_rfl) (by kernel_rfl) (by kernel_rfl) (fun _ _ _ h => h) (Or.inl ⟨by rfl, fun w' hSw => by (try dsimp only at hSw); obtain ⟨hs0, hs1⟩ := hSw; go_simp⟩) hSx ?_
            try simp only [Act.put]
            refine wpAnyH_take (i := 2) (v := .pointer (some ⟨b, o + i, none⟩)) rfl (by kernel_rfl) (by kernel_rfl) (by kernel_rfl) (fun _ _ _ h => h) (Or.inl ⟨by rfl, fun w' hSw => by (try dsimp only at hSw); obtain ⟨hs0, hs1⟩ := hSw; go_simp⟩) hSx ?_
            try simp only [Act.put]
            refine wpAnyH_take (i := 3) (v := .slice (some ⟨g1, o1, none⟩) n c1) rfl (by kernel_rfl) (by kernel_rfl) (by kernel_rfl) (fun _ _ _ h => h) (Or.inl ⟨by rfl, fun w' hSw => by (try dsimp only at hSw); obtain ⟨hs0, hs1⟩ := hSw; go_simp⟩) hSx ?_
            try simp only [Act.put]
            refine wpAnyH_take (i := 4) (v := .slice (some ⟨b, o, none⟩) m cap) rfl (by kernel_rfl) (by kernel_rfl) (by kernel_rfl) (fun _ _ _ h => h) (Or.inl ⟨by rfl, fun w' hSw => by (try dsimp only at hSw); obtain ⟨hs0, hs1⟩ := hSw; go_simp⟩) hSx ?_
            try simp only [Act.put]
            refine wpAnyH_take (i := 5) (v := .int .i64 (j : Int)) rfl (by kernel_rfl) (by kernel_rfl) (by kernel_rfl) (fun _ _ _ h => h) (Or.inl ⟨by rfl, fun w' hSw => by (try dsimp only at hSw); obtain ⟨hs0, hs1⟩ := hSw; go_simp⟩) hSx ?_
            try simp only [Act.put]
            refine wpAnyH_take (i := 6) (v := .pointer (some ⟨b, o + j, none⟩)) rfl (by kernel_rfl) (by kernel_rfl) (by kernel_rfl) (fun _ _ _ h => h) (Or.inl ⟨by rfl, fun w' hSw => by (try dsimp only at hSw); obtain ⟨hs0, hs1⟩ := hSw; go_simp⟩) hSx ?_
            try simp only [Act.put]
            refine wpAnyH_take (i := 7) (v := .slice (some ⟨g2, o2, none⟩) n c2) rfl (by kernel_rfl) (by kernel_rfl) (by kernel_rfl) (fun _ _ _ h => h) (Or.inl ⟨by rfl, fun w' hSw => by (try dsimp only at hSw); obtain ⟨hs0, hs1⟩ := hSw; go_simp⟩) hSx ?_
            try simp only [Act.put]
            refine wpAnyH_ready (rs := [8]) (by kernel_rfl) (by simp) ?_
            refine AllReadyH.cons rfl (fun J hJ => ?_) AllReadyH.nil
            go_simp
            refine (CT _ d0).mono ?_
            rintro e w1 ⟨⟨c, rfl, hcn, hciff⟩, b1⟩
            have d1 := Below.next d0 b1
            go_wp2_with fail
            refine hJ.out _ _ (HS.out _ d1) (fun hSx => ?_)
            clear hJ J
            try simp only [Act.put, List.setIfInBounds_toArray, List.set_cons_zero, List.set_cons_succ]
            refine wpAnyH_take (i := 9) (v := .int .i64 (c : Int)) rfl (by kernel_rfl) (by kernel_rfl) (by kernel_rfl) (fun _ _ _ h => h) (Or.inl ⟨by rfl, fun w' hSw => by (try dsimp only at hSw); obtain ⟨hs0, hs1⟩ := hSw; go_simp⟩) hSx ?_
            try simp only [Act.put, List.setIfInBounds_toArray]
            refine wpAnyH_done (by kernel_rfl) ?_ _
            refine NoPanic.normal ?_
            clear hSx HS CT
            have hB1 := Below.next hB d1
            clear hB d0 b1 d1
            by_cases hc : c = n
            · have hce : ((c : Int) != (n : Int)) = false := by simp [hc]
              have HJ2 : Hid (∀ y, y < j + 1 → Cn n (L.getD i []) (L.getD y [])) := fun y hy => by
                by_cases e : y = j
                · rw [e]; exact hciff.1 hc
                · exact HJ.out y (by omega)
              clear hciff hc hcn
              go_wp2
              go_roundw
              case rel => exact ⟨j + 1, by go_num, by omega, HJ2, hB1⟩
              case measure => simp [intOf]; omega
            · have hce : ((c : Int) != (n : Int)) = true := by simp; omega
              have HP : Hid (¬ Pfc n L) := HNo.out i j hlj hlt fun h => hc (hciff.2 h)
              clear hciff hc hcn
              go_wp2
              go_ret
              exact ⟨⟨false, rfl, by simp [HP.out]⟩, hB1⟩
          · have hdj : decide ((j : Int) < (i : Int)) = false := by simp; omega
            have hdjn : decide (j < i) = false := by simp; omega
            have HI2 : Hid (∀ x y, y < x → x < i + 1 → Cn n (L.getD x []) (L.getD y [])) := fun x y hy hx => by
              by_cases e : x = i
              · rw [e]; exact HJ.out y (by omega)
              · exact HI.out x y hy (by omega)
            go_wp2
            go_roundw
            case rel => exact ⟨i + 1, by go_num, by omega, HI2, hB⟩
            case measure => simp [intOf]; omega
      · have hdi : decide ((i : Int) < (m : Int)) = false := by simp; omega
        have hdin : decide (i < m) = false := by simp; omega
        have HP : Hid (Pfc n L) := HY.out fun x y hy hx => HI.out x y hy (by omega)
        go_wp2
        go_ret
        exact ⟨⟨true, rfl, by simp [HP.out]⟩, hB⟩
  · obtain ⟨a, cap, rfl, _⟩ := id hv
    have hz : (toZ L).length = m := by rw [← Hm.out]; simp [toZ]
    rw [hz]
    have hne : ((m : Int) != (n : Int) - 1) = true := by simp; omega
    have HP : Hid (¬ Pfc n L) := fun h => hm (by rw [← Hm.out]; exact h.1)
    clear hv hG hz
    go_enter Try.func11, Try.ntmps11
    go_wp2
    go_ret
    exact ⟨⟨false, rfl, by simp [HP.out]⟩, Below.refl _ _⟩
end Go.Proofs.Ytpeplnojmogkfaa
