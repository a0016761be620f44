/- The walk of the document's chosen. -/
import Derived.Test.YtjfjdidibglhaaaA3
import Derived.Test.YtjfjdidibglhaaaC4
import Derived.Deep.AppendLies
import Derived.Deep.QuietTactic
import Derived.BigQuiet
import Derived.Deep.RegionHeld3
import Derived.Deep.MidRow
namespace Go.Proofs.Ytjfjdidibglhaaa
open Go.RowKit

/-- A row of Pascal's numbers. -/
def pT (m j : Nat) : List Int := (List.range j).map fun i => (chB m i : Int)
theorem pT_len (m j : Nat) : (pT m j).length = j := by simp [pT]
theorem pT_at (m : Nat) {j i : Nat} (h : i < j) : (pT m j).getD i 0 = (chB m i : Int) := by simp [pT, h]
theorem pT_snoc (m j : Nat) : pT m (j + 1) = pT m j ++ [(chB m j : Int)] := by simp [pT, List.range_succ]
theorem news_one (w : World) (u : Value) : ∀ j v, [u][j]? = some v → (w.alloc (.cells #[u] 3)).cell? ((⟨w.heap.size, 0, none⟩ : Addr).add j) = some v := fun j v hj => by
  match j, hj with
  | 0, hj =>
    simp only [List.getElem?_cons_zero, Option.some.injEq] at hj
    subst hj
    rw [Addr.add_mid, cell_of_row _ _ _ _ _ _ (heap_alloc_new w _)]
    rfl
theorem own_one (w : World) (base : Nat) (x : Int) (hb : base ≤ w.heap.size) : (w.alloc (.cells #[.int .i64 x] 3)).ownsRow base 3 1 (.slice (some ⟨w.heap.size, 0, none⟩) 1 1) 1 [.int .i64 x] :=
  ⟨rfl, .inr ⟨w.heap.size, 1, #[.int .i64 x], rfl, hb, heap_alloc_new w _, by omega, by unfold maxLen; omega, rfl, rfl⟩⟩
set_option maxRecDepth 100000 in
set_option maxHeartbeats 8000000 in
theorem chosen_any (n k : Nat) (w : World) (hn : n ≤ 30) (hk : k ≤ n) :
    Calls Try.prog 30 #[.int .i64 (n : Int), .int .i64 (k : Int)] w fun e w' => e = .returned (.int .i64 (chB n k : Int)) ∧ Below w.heap.size w w' := by
  obtain ⟨i3, ti, tz0, tz1, tz2⟩ := info3
  have HI3 : Hid (Try.prog.info? 3 = some i3 ∧ i3.zero = some (.int .i64 0) ∧ i3.size = 1 ∧ i3.bytes = 8) := ⟨ti, tz0, tz1, tz2⟩
  clear ti tz0 tz1 tz2
  have HL : Hid (∀ m i : Nat, m ≤ 30 → chB m i ≤ 1073741824) := fun m i hm => Nat.le_trans (chB_le m i) (Nat.le_trans (Nat.pow_le_pow_right (by decide) hm) (by decide))
  obtain ⟨z, Hz⟩ : ∃ z, Hid (chB n k = z) := ⟨_, rfl⟩
  rw [Hz.out]
  have d1 : decide ((k : Int) < 0) = false := by simp
  have d2 : decide ((n : Int) < (k : Int)) = false := by simp; omega
  have d2n : decide (n < k) = false := by simp; omega
  have HR0 : Hid (Sl (w.alloc (.cells #[.int .i64 1] 3)) (.slice (some ⟨w.heap.size, 0, none⟩) 1 1) (pT 0 1)) := by
    refine ⟨_, 1, rfl, fun j hj => ⟨w.heap.size, 0, rfl, ?_⟩⟩
    have h0 : j = 0 := by simp [pT] at hj; omega
    subst h0
    rw [cell_of_row _ w.heap.size 0 _ _ _ (heap_alloc_new w _)]
    rfl
  have hB0 := balloc w (.cells #[.int .i64 1] 3)
  go_enter Try.func30, Try.ntmps30
  go_wp2
  go_loopw [5, 6, 7, 8] (fun rv mv _ _ wr => ∃ m : Nat, mv = .int .i64 ((m : Int) + 1) ∧ m ≤ n ∧ Sl wr rv (pT m (m + 1)) ∧ Below w.heap.size w wr) (fun _ mv _ _ _ => (n + 1 - intOf mv).toNat)
  case atStart => exact ⟨0, rfl, by omega, HR0.out, hB0⟩
  case round =>
    clear HR0 hB0
    obtain ⟨m, rfl, hm, hR, hB0⟩ := hrel
    obtain ⟨rb, ro, rc, rfl, hrb, hRc⟩ := hR.form (pT_len m (m + 1)) (by omega)
    by_cases hlt : m < n
    · have hdm : decide ((m : Int) + 1 ≤ (n : Int)) = true := by simp; omega
      obtain ⟨w0, Hw0⟩ : ∃ w0, Hid (w0 = wr) := ⟨_, rfl⟩
      have HRC : Hid (∀ W, Below w0.heap.size w0 W → ∀ i : Nat, i < m + 1 → W.cell? ⟨rb, ro + i, none⟩ = some (.int .i64 (chB m i : Int))) := fun W bW i hi => by
        have h := hRc i hi
        rw [pT_at m hi] at h
        rw [bW.cell (p := ⟨rb, ro + i, none⟩) (by rw [Hw0.out]; exact hrb), Hw0.out, h]
      have HB0 : Hid (Below w.heap.size w w0) := by rw [Hw0.out]; exact hB0
      have H1 : Hid ((wr.alloc (.cells #[.int .i64 1] 3)).ownsRow w0.heap.size 3 1 (.slice (some ⟨wr.heap.size, 0, none⟩) 1 1) 1 ((pT (m + 1) 1).map (Value.int .i64)) ∧ Below w0.heap.size w0 (wr.alloc (.cells #[.int .i64 1] 3))) := by
        rw [Hw0.out]
        refine ⟨?_, balloc _ _⟩
        have e : (pT (m + 1) 1).map (Value.int .i64) = [.int .i64 1] := by simp [pT, chB_zero]
        rw [e]
        exact own_one wr _ 1 (Nat.le_refl _)
      clear hR hRc hB0 hrb
      go_wp2
      go_loopw [7, 8] (fun nv jv wr => ∃ j : Nat, jv = .int .i64 ((j : Int) + 1) ∧ j ≤ m ∧ wr.ownsRow w0.heap.size 3 1 nv (j + 1) ((pT (m + 1) (j + 1)).map (Value.int .i64)) ∧ Below w0.heap.size w0 wr) (fun _ jv _ => (m + 1 - intOf jv).toNat)
      case atStart => exact ⟨0, rfl, by omega, H1.out.1, H1.out.2⟩
      case round =>
        clear H1
        obtain ⟨j, rfl, hj, hown, hB⟩ := hrel
        have hgs := hB.size
        by_cases hjm : j < m
        · have hdj : decide ((j : Int) + 1 < (m : Int) + 1) = true := by simp; omega
          have hdj2 : decide ((j : Int) < (m : Int)) = true := by simp; omega
          have hdj3 : decide (j < m) = true := by simp; omega
          have c1 := HRC.out wr hB j (by omega)
          have c2 := HRC.out wr hB (j + 1) (by omega)
          have l1 := HL.out m j (by omega)
          have l2 := HL.out m (j + 1) (by omega)
          have HPS : Hid (chB (m + 1) (j + 1) = chB m j + chB m (j + 1)) := chB_pas m j
          obtain ⟨x, Hx⟩ : ∃ x, Hid (chB m j = x) := ⟨_, rfl⟩
          obtain ⟨y, Hy⟩ : ∃ y, Hid (chB m (j + 1) = y) := ⟨_, rfl⟩
          rw [Hx.out] at c1 l1 HPS
          rw [Hy.out] at c2 l2 HPS
          have hS : Hid (∀ W, Below w0.heap.size w0 W → (W.cell? ⟨rb, ro + j, none⟩ = some (.int .i64 (x : Int)) ∧ W.cell? ⟨rb, ro + (j + 1), none⟩ = some (.int .i64 (y : Int)))) := fun W b => by
            refine ⟨?_, ?_⟩
            · rw [HRC.out W b j (by omega), Hx.out]
            · rw [HRC.out W b (j + 1) (by omega), Hy.out]
          have HSN : Hid ((pT (m + 1) (j + 1 + 1)).map (Value.int .i64) = (pT (m + 1) (j + 1)).map (Value.int .i64) ++ [.int .i64 ((x : Int) + (y : Int))]) := by
            show _ = _
            rw [pT_snoc, List.map_append, HPS.out]
            simp
          obtain ⟨fl, Hfl⟩ : ∃ fl, Hid ((pT (m + 1) (j + 1)).map (Value.int .i64) = fl) := ⟨_, rfl⟩
          rw [Hfl.out] at hown HSN
          obtain ⟨na, nc, hnv⟩ : ∃ na nc, u7 = .slice na (j + 1) nc := by
            obtain ⟨_, ⟨rfl, h⟩ | ⟨g, cap, cur, rfl, _⟩⟩ := id hown
            · omega
            · exact ⟨_, _, rfl⟩
          subst hnv
          have p1 : Below wr.heap.size wr wr := Below.refl _ _
          have hmj : (j : Int) < (m : Int) + 1 := by omega
          have hmj1 : (j : Int) + 1 < (m : Int) + 1 := by omega
          clear c1 c2
          go_wp2_with fail
          refine wp_region_noPanic ?_
          refine wp_region_held_drew (S := fun W => W.cell? ⟨rb, ro + j, none⟩ = some (.int .i64 (x : Int)) ∧ W.cell? ⟨rb, ro + (j + 1), none⟩ = some (.int .i64 (y : Int))) (by kernel_rfl) (hS.out _ (hB.drew)) (fun hSx => ?_)
          refine wpAnyH_take (i := 0) (v := .slice na (j + 1) nc) rfl (by kernel_rfl) (by kernel_rfl) (by kernel_rfl) (fun _ _ _ h => h) (Or.inl ⟨by rfl, fun w' hSw => by (try dsimp only at hSw); obtain ⟨hs0, hs1⟩ := hSw; go_simp⟩) hSx ?_
          try simp only [Act.put, List.setIfInBounds_toArray]
          refine wpAnyH_take (i := 1) (v := .slice (some ⟨rb, ro, none⟩) (m + 1) rc) rfl (by kernel_rfl) (by kernel_rfl) (by kernel_rfl) (fun _ _ _ h => h) (Or.inl ⟨by rfl, fun w' hSw => by (try dsimp only at hSw); obtain ⟨hs0, hs1⟩ := hSw; go_simp⟩) hSx ?_
          try simp only [Act.put]
          refine wpAnyH_take (i := 2) (v := .int .i64 ((j : Int) + 1)) rfl (by kernel_rfl) (by kernel_rfl) (by kernel_rfl) (fun _ _ _ h => h) (Or.inl ⟨by rfl, fun w' hSw => by (try dsimp only at hSw); obtain ⟨hs0, hs1⟩ := hSw; go_simp⟩) hSx ?_
          try simp only [Act.put]
          refine wpAnyH_take (i := 3) (v := .int .i64 (j : Int)) rfl (by kernel_rfl) (by kernel_rfl) (by kernel_rfl) (fun _ _ _ h => h) (Or.inl ⟨by rfl, fun w' hSw => by (try dsimp only at hSw); obtain ⟨hs0, hs1⟩ := hSw; go_simp; rw [IntKind.wrap_i64]; omega⟩) hSx ?_
          try simp only [Act.put]
          refine wpAnyH_take (i := 4) (v := .pointer (some ⟨rb, ro + j, none⟩)) rfl (by kernel_rfl) (by kernel_rfl) (by kernel_rfl) (fun _ _ _ h => h) (Or.inl ⟨by rfl, fun w' hSw => by (try dsimp only at hSw); obtain ⟨hs0, hs1⟩ := hSw; go_simp⟩) hSx ?_
          try simp only [Act.put]
          refine wpAnyH_take (i := 5) (v := .int .i64 (x : Int)) rfl (by kernel_rfl) (by kernel_rfl) (by kernel_rfl) (fun _ _ _ h => h) (Or.inl ⟨by rfl, fun w' hSw => by (try dsimp only at hSw); obtain ⟨hs0, hs1⟩ := hSw; go_simp⟩) hSx ?_
          try simp only [Act.put]
          refine wpAnyH_take (i := 6) (v := .slice (some ⟨rb, ro, none⟩) (m + 1) rc) rfl (by kernel_rfl) (by kernel_rfl) (by kernel_rfl) (fun _ _ _ h => h) (Or.inl ⟨by rfl, fun w' hSw => by (try dsimp only at hSw); obtain ⟨hs0, hs1⟩ := hSw; go_simp⟩) hSx ?_
          try simp only [Act.put]
          refine wpAnyH_take (i := 7) (v := .int .i64 ((j : Int) + 1)) rfl (by kernel_rfl) (by kernel_rfl) (by kernel_rfl) (fun _ _ _ h => h) (Or.inl ⟨by rfl, fun w' hSw => by (try dsimp only at hSw); obtain ⟨hs0, hs1⟩ := hSw; go_simp⟩) hSx ?_
          try simp only [Act.put]
          refine wpAnyH_take (i := 8) (v := .pointer (some ⟨rb, ro + (j + 1), none⟩)) rfl (by kernel_rfl) (by kernel_rfl) (by kernel_rfl) (fun _ _ _ h => h) (Or.inl ⟨by rfl, fun w' hSw => by (try dsimp only at hSw); obtain ⟨hs0, hs1⟩ := hSw; go_simp; intro hneg; omega⟩) hSx ?_
          try simp only [Act.put]
          refine wpAnyH_take (i := 9) (v := .int .i64 (y : Int)) rfl (by kernel_rfl) (by kernel_rfl) (by kernel_rfl) (fun _ _ _ h => h) (Or.inl ⟨by rfl, fun w' hSw => by (try dsimp only at hSw); obtain ⟨hs0, hs1⟩ := hSw; go_simp⟩) hSx ?_
          try simp only [Act.put]
          refine wpAnyH_take (i := 10) (v := .int .i64 ((x : Int) + (y : Int))) rfl (by kernel_rfl) (by kernel_rfl) (by kernel_rfl) (fun _ _ _ h => h) (Or.inl ⟨by rfl, fun w' hSw => by (try dsimp only at hSw); obtain ⟨hs0, hs1⟩ := hSw; go_simp; rw [IntKind.wrap_i64]; omega⟩) hSx ?_
          try simp only [Act.put]
          refine wpAnyH_ready (rs := [11]) (by kernel_rfl) (by simp) ?_
          refine (AllReadyH.cons rfl (fun J hJ => ?_) AllReadyH.nil)
          go_simp
          refine hJ.out _ _ (hS.out _ (hB.drew.alloc (by simpa using hgs) _)) (fun hSx => ?_)
          clear hJ J
          try simp only [Act.put, List.setIfInBounds_toArray, List.set_cons_zero, List.set_cons_succ]
          refine wpAnyH_ready (rs := [12]) (by kernel_rfl) (by simp) ?_
          refine (AllReadyH.cons rfl (fun J hJ => ?_) AllReadyH.nil)
          rw [if_pos (by rfl)]
          refine wp_append_lies _ _ _ 40 rfl w0.heap.size 3 i3 (.int .i64 0) 1 8 und22 HI3.out.1 HI3.out.2.1 HI3.out.2.2.1 HI3.out.2.2.2 rfl (by decide) (.slice na (j + 1) nc) (j + 1) fl rfl (hown.drew.alloc _) ⟨wr.heap.size, 0, none⟩ 1 1 [.int .i64 ((x : Int) + (y : Int))] rfl rfl (news_one wr.drew _) (fun u hu => by simp at hu; subst hu; rfl) (by decide) (by unfold maxLen; omega) (by omega) (by simp; omega) _ rfl ?_
          intro og oc w7 hW7 hg7 _ _
          have hB7 : Below w0.heap.size w0 w7 := (hB.drew.alloc (by simpa using hgs) _).grown hg7 (by simp; omega) (fun q hq => (hown.lt q hq).1)
          refine hJ.out _ _ (hS.out _ hB7) (fun hSx => ?_)
          clear hJ J
          try simp only [Act.put, List.setIfInBounds_toArray]
          refine wpAnyH_ready (rs := [13]) (by kernel_rfl) (by simp) ?_
          refine (AllReadyH.cons rfl (fun J hJ => ?_) AllReadyH.nil)
          go_simp
          refine hJ.out _ _ (hS.out _ hB7) (fun hSx => ?_)
          clear hJ J
          try simp only [Act.put, List.setIfInBounds_toArray, List.set_cons_zero, List.set_cons_succ]
          refine wpAnyH_done (by kernel_rfl) ?_ _
          refine NoPanic.normal ?_
          clear hSx hS
          go_wp2
          go_roundw
          case rel => exact ⟨j + 1, by go_num, by omega, by rw [HSN.out]; exact hW7, hB7⟩
          case measure => simp [intOf]; omega
        · have hdj : decide ((j : Int) + 1 < (m : Int) + 1) = false := by simp; omega
          have hdj2 : decide ((j : Int) < (m : Int)) = false := by simp; omega
          have hdj3 : decide (j < m) = false := by simp; omega
          obtain rfl : j = m := by omega
          have HSN : Hid ((pT (j + 1) (j + 1 + 1)).map (Value.int .i64) = (pT (j + 1) (j + 1)).map (Value.int .i64) ++ [.int .i64 1]) := by
            show _ = _
            rw [pT_snoc, List.map_append, chB_self]
            rfl
          obtain ⟨fl, Hfl⟩ : ∃ fl, Hid ((pT (j + 1) (j + 1)).map (Value.int .i64) = fl) := ⟨_, rfl⟩
          rw [Hfl.out] at hown HSN
          have hi3 := HI3.out.1
          have hz0 := HI3.out.2.1
          have hz1 := HI3.out.2.2.1
          have hz2 := HI3.out.2.2.2
          clear HRC
          go_wp2_with (first
            | (at_builtin; refine wpList_append_own _ rfl _ _ 40 rfl w0.heap.size 3 i3 (.int .i64 0) 1 8 und22 hi3 hz0 hz1 hz2 rfl (by decide) _ _ _ rfl (hown.alloc _) ⟨wr.heap.size, 0, none⟩ 1 1 [.int .i64 (1)] rfl rfl (fun j u hj => by (match j, hj with | 0, hj => simp at hj; subst hj; simp [Addr.add])) (fun u hu => by (simp at hu; subst hu; rfl)) (by (unfold maxLen; omega)) (by omega) (by (simp; omega)) ?_; intro v' w2 hown' hgrow _)
            | go_in)
          have hb2 : Below w0.heap.size w0 w2 := (hB.alloc (by omega) _).grown hgrow (by simp; omega) (fun k hk => (hown.lt k hk).1)
          have hown2 : w2.ownsRow w0.heap.size 3 1 v' (j + 1 + 1) ((pT (j + 1) (j + 1 + 1)).map (Value.int .i64)) := by
            rw [HSN.out]
            exact hown'
          clear hown' hgrow hown hB
          go_roundw
          case rel => exact ⟨j + 1, by go_num, by omega, Sl.owned (by rw [pT_len]; exact hown2), Below.next HB0.out hb2⟩
          case measure => simp [intOf]; omega
    · have hdm : decide ((m : Int) + 1 ≤ (n : Int)) = false := by simp; omega
      obtain rfl : m = n := by omega
      have c1 := hRc k (by omega)
      rw [pT_at m (by omega)] at c1
      have hki : (k : Int) < (m : Int) + 1 := by omega
      rw [Hz.out] at c1
      clear hRc hR
      go_wp2
      go_ret
      exact ⟨rfl, hB0⟩
end Go.Proofs.Ytjfjdidibglhaaa
