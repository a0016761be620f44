/- The walk of the document's Lists. -/
import Derived.Test.YtmogmkdcplgfjaaDFa
import Derived.Test.YtmogmkdcplgfjaaP14
namespace Go.Proofs.Ytmogmkdcplgfjaa
open Go.RowKit

theorem rows_ext {ls ms : List (List Int)} (hl : ls.length = ms.length) (h : ∀ i : Nat, i < ls.length → ls[i]? = ms[i]?) : ls = ms := by
  apply List.ext_getElem? 
  intro i
  by_cases hi : i < ls.length
  · exact h i hi
  · rw [List.getElem?_eq_none (by omega), List.getElem?_eq_none (by omega)]
set_option maxHeartbeats 4000000 in
theorem Lists_any (ls ms : List (List Int)) (v x : Value) (w : World) (hv : Rw w v ls) (hx : Rw w x ms) (hl : ls.length ≤ maxLen) (hm : ms.length ≤ maxLen) (hll : ∀ l ∈ ls, l.length ≤ maxLen) (hml : ∀ l ∈ ms, l.length ≤ maxLen) :
    Calls Try.prog 29 #[v, x] w fun e w' => ∃ b : Bool, e = .returned (.bool b) ∧ (b = true ↔ ls = ms) ∧ Below w.heap.size w w' := by
  have HV : Hid (∀ W, Below w.heap.size w W → Rw W v ls) := fun W b => hv.below b
  have HX : Hid (∀ W, Below w.heap.size w W → Rw W x ms) := fun W b => hx.below b
  have HLL : Hid (∀ l ∈ ls, l.length ≤ maxLen) := hll
  have HML : Hid (∀ l ∈ ms, l.length ≤ maxLen) := hml
  obtain ⟨a, ac, rfl, _⟩ := hv
  obtain ⟨c, cc, rfl, _⟩ := hx
  unfold maxLen at hl hm
  by_cases he : ls.length = ms.length
  · have HE : Hid ((∀ i : Nat, i < ls.length → ls[i]? = ms[i]?) → ls = ms) := rows_ext he
    have HAT : Hid (∀ i, i < ls.length → ∃ l m, ls[i]? = some l ∧ ms[i]? = some m) := fun i hi => ⟨_, _, List.getElem?_eq_getElem hi, List.getElem?_eq_getElem (by omega)⟩
    have HNE : Hid (∀ i : Nat, ls[i]? ≠ ms[i]? → ls ≠ ms) := fun i h e => h (by rw [e])
    rw [← he] at HX hm ⊢
    generalize ls.length = n at *
    have hne : ((n : Int) != (n : Int)) = false := by simp
    clear hll hml he
    go_enter Try.func29, Try.ntmps29
    go_wp2
    go_loopw [5] (fun iv wr => ∃ i : Nat, iv = .int .i64 (i : Int) ∧ i ≤ n ∧ Hid (∀ j : Nat, j < i → ls[j]? = ms[j]?) ∧ Below w.heap.size w wr) (fun iv _ => (n - intOf iv).toNat)
    case atStart => exact ⟨0, rfl, by omega, (show ∀ j, j < 0 → _ from fun j h => by omega), Below.refl _ _⟩
    case round =>
      obtain ⟨i, rfl, hi, HI, hB⟩ := hrel
      by_cases hlt : i < n
      · have hdi : decide ((i : Int) < (n : Int)) = true := by simp; omega
        have hii : (i : Int) < (n : Int) := by omega
        obtain ⟨l, m, h1, h2⟩ := HAT.out i hlt
        obtain ⟨_, _, e1, _, r1⟩ := HV.out _ hB
        simp only [Value.slice.injEq] at e1
        obtain ⟨rfl, _, rfl⟩ := e1
        obtain ⟨_, _, e2, _, r2⟩ := HX.out _ hB
        simp only [Value.slice.injEq] at e2
        obtain ⟨rfl, _, rfl⟩ := e2
        obtain ⟨ab, ao, u, rfl, hc1, hS1⟩ := r1 i l h1
        obtain ⟨bb, bo, t, rfl, hc2, hS2⟩ := r2 i m h2
        have CI := fun W (b' : Below wr.heap.size wr W) => ints_any l m u t W (hS1.below b') (hS2.below b') (HLL.out l (List.mem_of_getElem? h1)) (HML.out m (List.mem_of_getElem? h2))
        have HYE : Hid (l = m → ∀ j, j < i + 1 → ls[j]? = ms[j]?) := fun e j hj => by
          by_cases ej : j = i
          · subst ej; rw [h1, h2, e]
          · exact HI.out j (by omega)
        have HNO : Hid (l ≠ m → ls ≠ ms) := fun h => HNE.out i (by rw [h1, h2]; intro e; exact h (Option.some.inj e))
        have HS : Hid (∀ W', Below wr.heap.size wr W' → (fun w' => w'.cell? ⟨ab, ao + i, none⟩ = some u ∧ w'.cell? ⟨bb, bo + i, none⟩ = some t) W') := fun W' b => ⟨(b.cell (World.block_lt_of_cell? _ _ hc1)).trans hc1, (b.cell (World.block_lt_of_cell? _ _ hc2)).trans hc2⟩
        obtain ⟨ua, un, uc, rfl⟩ : ∃ a n c, u = .slice a n c := by obtain ⟨q, q', h, _⟩ := hS1; exact ⟨_, _, _, h⟩
        obtain ⟨ta, tn, tc, rfl⟩ : ∃ a n c, t = .slice a n c := by obtain ⟨q, q', h, _⟩ := hS2; exact ⟨_, _, _, h⟩
        clear hc1 hc2 r1 r2 hS1 hS2 h1 h2 HI
        go_wp2
        refine wp_region_noPanic ?_
        refine wp_region_held_drew (S := fun w' => w'.cell? ⟨ab, ao + i, none⟩ = some (.slice ua un uc) ∧ w'.cell? ⟨bb, bo + i, none⟩ = some (.slice ta tn tc)) (by kernel_rfl) (HS.out _ (Below.refl _ wr).drew) (fun hSx => ?_)
        have d0 : Below wr.heap.size wr wr.drew := (Below.refl _ wr).drew
        refine wpAnyH_take (i := 0) (v := .slice (some ⟨ab, ao, none⟩) n ac) rfl (by kernel_rfl) (by kernel_rfl) (by kernel_rfl) (fun _ _ _ h => h) (Or.inl ⟨by rfl, fun w' hSw => by (try dsimp only at hSw); obtain ⟨hs0, hs1⟩ := hSw; go_simp⟩) hSx ?_
        try simp only [Act.put, List.setIfInBounds_toArray]
        refine wpAnyH_take (i := 1) (v := .int .i64 (i : Int)) rfl (by kernel_rfl) (by kernel_rfl) (by kernel_rfl) (fun _ _ _ h => h) (Or.inl ⟨by rfl, fun w' hSw => by (try dsimp only at hSw); obtain ⟨hs0, hs1⟩ := hSw; go_simp⟩) hSx ?_
        try simp only [Act.put]
        refine wpAnyH_take (i := 2) (v := .pointer (some ⟨ab, ao + i, none⟩)) rfl (by kernel_rfl) (by kernel_rfl) (by kernel_rfl) (fun _ _ _ h => h) (Or.inl ⟨by rfl, fun w' hSw => by (try dsimp only at hSw); obtain ⟨hs0, hs1⟩ := hSw; go_simp⟩) hSx ?_
        try simp only [Act.put]
        refine wpAnyH_take (i := 3) (v := .slice ua un uc) rfl (by kernel_rfl) (by kernel_rfl) (by kernel_rfl) (fun _ _ _ h => h) (Or.inl ⟨by rfl, fun w' hSw => by (try dsimp only at hSw); obtain ⟨hs0, hs1⟩ := hSw; go_simp⟩) hSx ?_
        try simp only [Act.put]
        refine wpAnyH_take (i := 4) (v := .slice (some ⟨bb, bo, none⟩) n cc) rfl (by kernel_rfl) (by kernel_rfl) (by kernel_rfl) (fun _ _ _ h => h) (Or.inl ⟨by rfl, fun w' hSw => by (try dsimp only at hSw); obtain ⟨hs0, hs1⟩ := hSw; go_simp⟩) hSx ?_
        try simp only [Act.put]
        refine wpAnyH_take (i := 5) (v := .int .i64 (i : Int)) rfl (by kernel_rfl) (by kernel_rfl) (by kernel_rfl) (fun _ _ _ h => h) (Or.inl ⟨by rfl, fun w' hSw => by (try dsimp only at hSw); obtain ⟨hs0, hs1⟩ := hSw; go_simp⟩) hSx ?_
        try simp only [Act.put]
        refine wpAnyH_take (i := 6) (v := .pointer (some ⟨bb, bo + i, none⟩)) rfl (by kernel_rfl) (by kernel_rfl) (by kernel_rfl) (fun _ _ _ h => h) (Or.inl ⟨by rfl, fun w' hSw => by (try dsimp only at hSw); obtain ⟨hs0, hs1⟩ := hSw; go_simp⟩) hSx ?_
        try simp only [Act.put]
        refine wpAnyH_take (i := 7) (v := .slice ta tn tc) rfl (by kernel_rfl) (by kernel_rfl) (by kernel_rfl) (fun _ _ _ h => h) (Or.inl ⟨by rfl, fun w' hSw => by (try dsimp only at hSw); obtain ⟨hs0, hs1⟩ := hSw; go_simp⟩) hSx ?_
        try simp only [Act.put]
        refine wpAnyH_ready (rs := [8]) (by kernel_rfl) (by simp) ?_
        refine AllReadyH.cons rfl (fun J hJ => ?_) AllReadyH.nil
        go_simp
        refine (CI _ d0).mono ?_
        rintro e w1 ⟨q, rfl, hq, b1⟩
        have HQ : Hid (q = true ↔ l = m) := hq
        clear hq
        have d1 := Below.next d0 b1
        go_wp2_with fail
        refine hJ.out _ _ (HS.out _ d1) (fun hSx => ?_)
        clear hJ J
        try simp only [Act.put, List.setIfInBounds_toArray, List.set_cons_zero, List.set_cons_succ]
        refine wpAnyH_take (i := 9) (v := .bool q) rfl (by kernel_rfl) (by kernel_rfl) (by kernel_rfl) (fun _ _ _ h => h) (Or.inl ⟨by rfl, fun w' hSw => by (try dsimp only at hSw); obtain ⟨hs0, hs1⟩ := hSw; go_simp⟩) hSx ?_
        try simp only [Act.put, List.setIfInBounds_toArray]
        refine wpAnyH_done (by kernel_rfl) ?_ _
        refine NoPanic.normal ?_
        clear hSx HS CI
        have hB1 := Below.next hB d1
        cases q with
        | true =>
          have HI2 : Hid (∀ j : Nat, j < i + 1 → ls[j]? = ms[j]?) := HYE.out (HQ.out.1 rfl)
          go_wp2
          go_roundw
          case rel => first | exact ⟨i + 1, by go_num, by omega, HI2, hB1⟩ | exact ⟨i + 1, by omega, by omega, HI2⟩
          case measure => simp [intOf]; omega
        | false =>
          have HN : Hid (ls ≠ ms) := HNO.out (fun e => by have := HQ.out.2 e; cases this)
          go_wp2
          go_ret
          exact ⟨false, rfl, ⟨fun h => (by cases h), fun h => (HN.out h).elim⟩, hB1⟩
      · have hdi : decide ((i : Int) < (n : Int)) = false := by simp; omega
        obtain rfl : i = n := by omega
        have HEQ : Hid (ls = ms) := HE.out HI.out
        go_wp2
        go_ret
        exact ⟨true, rfl, ⟨fun _ => HEQ.out, fun _ => rfl⟩, hB⟩
  · have hne : ((ls.length : Int) != (ms.length : Int)) = true := bne_iff_ne.2 (by omega)
    have HN : Hid (ls ≠ ms) := fun e => he (by rw [e])
    generalize ls.length = n at *
    generalize ms.length = n2 at *
    clear hll hml he
    go_enter Try.func29, Try.ntmps29
    go_wp2
    go_ret
    exact ⟨false, rfl, ⟨fun h => (by cases h), fun h => (HN.out h).elim⟩, Below.refl _ _⟩
end Go.Proofs.Ytmogmkdcplgfjaa
