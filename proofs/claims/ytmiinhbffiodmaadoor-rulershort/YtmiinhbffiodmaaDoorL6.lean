/- The law RulerShort. -/
import Derived.Test.YtmiinhbffiodmaaDoorD4
import Derived.Test.YtmiinhbffiodmaaDoorG10
namespace Go.Proofs.YtmiinhbffiodmaaDoor
open Go.RowKit Go.Maps

theorem best_le : ∀ n : Fin 8, ∀ x ∈ bestL n.val, x ≤ 1000000000 := by decide +kernel
theorem best_good {n : Nat} (h1 : 1 ≤ n) (h7 : n ≤ 7) : GoodM (bestL n) ∧ golB (bestL n) = true ∧ (bestL n).length = n := by
  obtain ⟨a, b, c, d⟩ := best_gol ⟨n, by omega⟩ h1
  exact ⟨⟨by simp only at b; omega, c, best_le ⟨n, by omega⟩, d⟩, a, b⟩
set_option maxRecDepth 100000 in
set_option maxHeartbeats 8000000 in
theorem short_law (b : List Int) (u : Value) (w : World) (hT : Fd.Tab w) (hu : Sl w u b) :
    Calls Tryd.prog 6 #[u] w fun e w' => e = .returned (.bool true) ∧ Below w.heap.size w w' := by
  have C0 := fact_any w hT
  by_cases hm : mF b = 0
  · obtain ⟨D, rfl, hD⟩ := mF_good hm
    have HC : Hid (∀ W, Below w.heap.size w W → Calls Tryd.prog 17 #[u] W fun e w' => e = .returned (.tuple #[.bool (golB D), .int .i64 0]) ∧ Below W.heap.size W w') := fun W hW => Check_good D u W (hu.below hW) hD hm
    obtain ⟨a, c, e0, hA⟩ := id hu
    rw [List.length_map] at e0
    subst e0
    have hfew := hD.few
    obtain ⟨q, Hq⟩ : ∃ q, Hid (golB D = q) := ⟨_, rfl⟩
    rw [Hq.out] at HC
    cases q
    · generalize D.length = n at *
      clear hm hD hA hT hu
      go_enter Tryd.func6, Tryd.ntmps6
      go_wp2_with (first
        | (go_at_call 15; refine C0.mono ?_; rintro e w1 ⟨rfl, b1⟩; clear C0)
        | (go_at_call 17; refine (HC.out _ b1).mono ?_; rintro e w2 ⟨rfl, b2⟩; clear HC; replace b2 := Below.next b1 b2))
      go_ret
      exact ⟨rfl, b2⟩
    · by_cases h1 : D.length < 1
      · generalize D.length = n at *
        have d1 : decide ((n : Int) < 1) = true := by simp; omega
        have d1' : n = 0 := by omega
        subst d1'
        clear hm hD hA hT hu
        go_enter Tryd.func6, Tryd.ntmps6
        go_wp2_with (first
          | (go_at_call 15; refine C0.mono ?_; rintro e w1 ⟨rfl, b1⟩; clear C0)
          | (go_at_call 17; refine (HC.out _ b1).mono ?_; rintro e w2 ⟨rfl, b2⟩; clear HC; replace b2 := Below.next b1 b2))
        go_ret
        exact ⟨rfl, b2⟩
      · by_cases h7 : 7 < D.length
        · generalize D.length = n at *
          have d1 : decide ((n : Int) < 1) = false := by simp; omega
          have d1' : ¬ (n : Int) < 1 := by omega
          have d0 : ¬ n = 0 := by omega
          have d2 : decide (7 < (n : Int)) = true := by simp; omega
          have d2' : decide (7 < n) = true := by simpa using h7
          clear hm hD hA hT hu
          go_enter Tryd.func6, Tryd.ntmps6
          go_wp2_with (first
            | (go_at_call 15; refine C0.mono ?_; rintro e w1 ⟨rfl, b1⟩; clear C0)
            | (go_at_call 17; refine (HC.out _ b1).mono ?_; rintro e w2 ⟨rfl, b2⟩; clear HC; replace b2 := Below.next b1 b2))
          go_ret
          exact ⟨rfl, b2⟩
        · obtain ⟨n, Hn⟩ : ∃ n, Hid (D.length = n + 1) := ⟨D.length - 1, (by omega : D.length = D.length - 1 + 1)⟩
          have hn7 : n + 1 ≤ 7 := by have := Hn.out; omega
          obtain ⟨hG1, hG2, hG3⟩ := best_good (n := n + 1) (by omega) hn7
          have hsh := best_short hD.rise hD.zero Hq.out (by omega) (by omega)
          rw [Hn.out, Nat.add_sub_cancel] at hsh
          unfold bestN at hsh
          rw [Nat.add_sub_cancel] at hsh
          obtain ⟨g, o, rfl, hc0⟩ := hA n (by rw [List.length_map]; have := Hn.out; omega)
          rw [getD_of] at hc0
          have HCL : Hid (∀ W, Below w.heap.size w W → W.cell? ⟨g, o + n, none⟩ = some (.int .i64 ((D.getD n 0 : Nat) : Int))) := fun W hW => (hW.cell (World.block_lt_of_cell? _ _ hc0)).trans hc0
          have HB : Hid (∀ W : World, Calls Tryd.prog 19 #[.int .i64 (((n + 1 : Nat)) : Int)] W fun e w' => ∃ bb cap, e = .returned (.tuple #[.slice (some ⟨bb, 0, none⟩) (n + 1) cap, .int .i64 0]) ∧ Sl w' (.slice (some ⟨bb, 0, none⟩) (n + 1) cap) ((bestL (n + 1)).map Int.ofNat) ∧ w'.cell? ⟨bb, n, none⟩ = some (.int .i64 (((bestL (n + 1)).getD n 0 : Nat) : Int)) ∧ Below W.heap.size W w') := fun W => by
            refine (Best_main (n + 1) W (by omega) hn7).mono ?_
            rintro e w' ⟨bb, cap, rfl, hO, hb⟩
            have hs := hO.sl
            refine ⟨bb, cap, rfl, hs, ?_, hb⟩
            obtain ⟨a', c', e', h⟩ := hs
            simp only [Value.slice.injEq] at e'
            obtain ⟨b', o', e2, h2⟩ := h n (by rw [List.length_map, hG3]; omega)
            rw [← e'.1] at e2
            simp only [Option.some.injEq, Addr.mk.injEq] at e2
            rw [getD_of, ← e2.1, ← e2.2.1, Nat.zero_add] at h2
            exact h2
          have HC2 : Hid (∀ (W : World) (v : Value), Sl W v ((bestL (n + 1)).map Int.ofNat) → Calls Tryd.prog 17 #[v] W fun e w' => e = .returned (.tuple #[.bool true, .int .i64 0]) ∧ Below W.heap.size W w') := fun W v hv => by
            have h := Check_good (bestL (n + 1)) v W hv hG1 (mF_of hG1)
            rw [hG2] at h
            exact h
          have hxb : (bestL (n + 1)).getD n 0 ≤ 1000000000 := hG1.le _ (by
            have hn : n < (bestL (n + 1)).length := by omega
            rw [List.getD_eq_getElem?_getD, List.getElem?_eq_getElem hn]; exact List.getElem_mem hn)
          obtain ⟨L, HL⟩ : ∃ L, Hid ((bestL (n + 1)).map Int.ofNat = L) := ⟨_, rfl⟩
          rw [HL.out] at HB HC2
          obtain ⟨y, Hy⟩ : ∃ y, Hid ((bestL (n + 1)).getD n 0 = y) := ⟨_, rfl⟩
          rw [Hy.out] at HB hsh hxb
          obtain ⟨x, Hx⟩ : ∃ x, Hid (D.getD n 0 = x) := ⟨_, rfl⟩
          rw [Hx.out] at HCL hsh
          rw [Hn.out] at HC ⊢
          have d1 : decide (((n : Int) + 1) < 1) = false := by simp; omega
          have d1' : ¬ (n : Int) + 1 < 1 := by omega
          have d2 : decide (7 < (n : Int) + 1) = false := by simp; omega
          have d2' : ¬ 7 < (n : Int) + 1 := by omega
          have d3 : decide ((y : Int) ≤ (x : Int)) = true := by simpa using hsh
          have d4 : decide (y ≤ x) = true := by simpa using hsh
          have d5 : (((n : Int) + 1) != ((n : Int) + 1)) = false := by simp
          clear hm hD hA hT hu hG1 hG2 hG3 hc0 h1 h7 hfew Hq
          go_enter Tryd.func6, Tryd.ntmps6
          go_wp2_with (first
            | (go_at_call 15; refine C0.mono ?_; rintro e w1 ⟨rfl, b1⟩; clear C0)
            | (go_at_call 17; refine (HC2.out _ _ HB3.out).mono ?_; rintro e w4 ⟨rfl, b4⟩; clear HC2; have hcl := HCL.out _ (Below.next b3 b4); have hcb4 := (b4.cell (p := ⟨bb, n, none⟩) hbl).trans hcb; replace b4 := Below.next b3 b4)
            | (go_at_call 17; refine (HC.out _ b1).mono ?_; rintro e w2 ⟨rfl, b2⟩; clear HC; replace b2 := Below.next b1 b2)
            | (go_at_call 19; refine (HB.out _).mono ?_; rintro e w3 ⟨bb, cap, rfl, hs, hcb, b3⟩; clear HB; replace b3 := Below.next b2 b3; have HB3 : Hid (Sl w3 (.slice (some ⟨bb, 0, none⟩) (n + 1) cap) L) := hs; have hbl := World.block_lt_of_cell? _ _ hcb; clear hs))
          go_quiet (fail)
          go_wp2
          go_ret
          exact ⟨rfl, bdrewN b4 _⟩
  · have HC : Hid (∀ W, Below w.heap.size w W → Calls Tryd.prog 17 #[u] W fun e w' => e = .returned (.tuple #[.bool false, .int .i64 (mF b : Int)]) ∧ Below W.heap.size W w') := fun W hW => Check_bad b u W (hu.below hW) hm
    obtain ⟨z, Hz⟩ : ∃ z, Hid (mF b = z) := ⟨_, rfl⟩
    rw [Hz.out] at HC hm
    have hz : ((z : Int) != 0) = true := by simpa using hm
    have hz2 : ¬ (z : Int) = 0 := by omega
    obtain ⟨a, c, rfl, _⟩ := id hu
    generalize b.length = n at *
    clear hT hu
    go_enter Tryd.func6, Tryd.ntmps6
    go_wp2_with (first
      | (go_at_call 15; refine C0.mono ?_; rintro e w1 ⟨rfl, b1⟩; clear C0)
      | (go_at_call 17; refine (HC.out _ b1).mono ?_; rintro e w2 ⟨rfl, b2⟩; clear HC; replace b2 := Below.next b1 b2))
    go_ret
    exact ⟨rfl, b2⟩

end Go.Proofs.YtmiinhbffiodmaaDoor
