/- The walk of root. -/
import Derived.Test.YtogdcjlgddleaaaDoorW54
namespace Go.Proofs.YtogdcjlgddleaaaDoor.Fd
open Go.RowKit

theorem RB.all {w W : World} {P K Q : Int} {m : Nat → Int} (h : RB W w.heap.size P K Q m) (hB : Below w.heap.size w W) : W.cell? ⟨w.heap.size, 0, none⟩ = some (.int .i64 P) ∧ W.cell? ⟨w.heap.size, 1, none⟩ = some (.int .i64 K) ∧ W.cell? ⟨w.heap.size, 2, none⟩ = some (.int .i64 Q) ∧ W.cell? ⟨w.heap.size, 3, none⟩ = some (.int .i64 (m 0)) ∧ W.cell? ⟨w.heap.size, 4, none⟩ = some (.int .i64 (m 1)) ∧ W.cell? ⟨w.heap.size, 5, none⟩ = some (.int .i64 (m 2)) ∧ W.cell? ⟨w.heap.size, 6, none⟩ = some (.int .i64 (m 3)) ∧ W.cell? ⟨w.heap.size, 7, none⟩ = some (.int .i64 (m 4)) ∧ W.cell? ⟨w.heap.size, 8, none⟩ = some (.int .i64 (m 5)) ∧ W.cell? ⟨w.heap.size, 9, none⟩ = some (.int .i64 (m 6)) ∧ W.cell? ⟨w.heap.size, 10, none⟩ = some (.int .i64 (m 7)) ∧ W.cell? ⟨w.heap.size, 11, none⟩ = some (.int .i64 (m 8)) ∧ W.cell? ⟨w.heap.size, 12, none⟩ = some (.int .i64 (m 9)) ∧ W.cell? ⟨w.heap.size, 13, none⟩ = some (.int .i64 (m 10)) ∧ Below w.heap.size w W :=
  ⟨(cell_of_row W w.heap.size 0 _ _ _ h), (cell_of_row W w.heap.size 1 _ _ _ h), (cell_of_row W w.heap.size 2 _ _ _ h), (cell_of_row W w.heap.size 3 _ _ _ h), (cell_of_row W w.heap.size 4 _ _ _ h), (cell_of_row W w.heap.size 5 _ _ _ h), (cell_of_row W w.heap.size 6 _ _ _ h), (cell_of_row W w.heap.size 7 _ _ _ h), (cell_of_row W w.heap.size 8 _ _ _ h), (cell_of_row W w.heap.size 9 _ _ _ h), (cell_of_row W w.heap.size 10 _ _ _ h), (cell_of_row W w.heap.size 11 _ _ _ h), (cell_of_row W w.heap.size 12 _ _ _ h), (cell_of_row W w.heap.size 13 _ _ _ h), hB⟩

set_option maxHeartbeats 1000000 in
theorem root_any (P K q : Nat) (m : Nat → Int) (w : World) (hF : FieldQ P K m) (hP' : P ≤ 64) (hK' : K ≤ 6) (hPK : P ^ K ≤ 64) (HQ : Hid (q = P ^ K)) :
    Calls Tryd.prog 56 #[.agg (ringRow P K q m)] w fun e w' => ∃ r : Nat, e = .returned (.int .i64 r) ∧ RootIs P K m r ∧ Below w.heap.size w w' := by
  have hR := hF.toRing1
  have hq1 : 1 < q := by rw [HQ.out]; exact one_lt hR
  have hq64 : q ≤ 64 := by rw [HQ.out]; exact hPK
  go_enter Tryd.func56, Tryd.ntmps56
  go_wp2
  go_loopw [3] (fun i wr => ∃ a : Nat, i = .int .i64 a ∧ 1 ≤ a ∧ a ≤ q ∧ Hid (∀ b, 1 ≤ b → b < a → ¬ IsOrd P K m b (P ^ K - 1)) ∧ RB wr w.heap.size P K q m ∧ Below w.heap.size w wr) (fun i _ => (q - intOf i).toNat)
  case atStart => exact ⟨1, rfl, by omega, by omega, (fun b h1 h2 => by omega : ∀ b, 1 ≤ b → b < 1 → _), RB.made w P K q m, (Below.refl _ _).alloc (Nat.le_refl _) _⟩
  case round =>
    obtain ⟨a, rfl, ha1, haq, HA, hRB, hB⟩ := hrel
    have hc2 := hRB.cell2
    by_cases hlt : a < q
    · have ha : a < P ^ K := by rw [← HQ.out]; exact hlt
      have hdec : decide ((a : Int) < q) = true := by simp; omega
      have hwr : IntKind.i64.wrap ((q : Int) - 1) = (q : Int) - 1 := by rw [IntKind.wrap_i64]; omega
      have hSt := RB.all hRB.drew hB.drew
      go_wp2
      go_region_held3 (fun w' => w'.cell? ⟨w.heap.size, 0, none⟩ = some (.int .i64 P) ∧ w'.cell? ⟨w.heap.size, 1, none⟩ = some (.int .i64 K) ∧ w'.cell? ⟨w.heap.size, 2, none⟩ = some (.int .i64 q) ∧ w'.cell? ⟨w.heap.size, 3, none⟩ = some (.int .i64 (m 0)) ∧ w'.cell? ⟨w.heap.size, 4, none⟩ = some (.int .i64 (m 1)) ∧ w'.cell? ⟨w.heap.size, 5, none⟩ = some (.int .i64 (m 2)) ∧ w'.cell? ⟨w.heap.size, 6, none⟩ = some (.int .i64 (m 3)) ∧ w'.cell? ⟨w.heap.size, 7, none⟩ = some (.int .i64 (m 4)) ∧ w'.cell? ⟨w.heap.size, 8, none⟩ = some (.int .i64 (m 5)) ∧ w'.cell? ⟨w.heap.size, 9, none⟩ = some (.int .i64 (m 6)) ∧ w'.cell? ⟨w.heap.size, 10, none⟩ = some (.int .i64 (m 7)) ∧ w'.cell? ⟨w.heap.size, 11, none⟩ = some (.int .i64 (m 8)) ∧ w'.cell? ⟨w.heap.size, 12, none⟩ = some (.int .i64 (m 9)) ∧ w'.cell? ⟨w.heap.size, 13, none⟩ = some (.int .i64 (m 10)) ∧ Below w.heap.size w w') (assumption)
        (first
          | (go_at_call 61; refine (turns_any P K a q m _ hF hP' hK' hPK ha1 ha).mono ?_; rintro e w1 ⟨n, rfl, hord, hnq, hb1⟩; have hRB1 := hRB.drew.below hb1; have hB1 : Below w.heap.size w w1 := hB.drew.trans (hb1.mono hB.drew.size); have hS1 := RB.all hRB1 hB1))
      all_goals
        by_cases hn : n = q - 1
        · have hbn : ((n : Int) == (q : Int) - 1) = true := by simp; omega
          have HRES : Hid (RootIs P K m a) := .inl ⟨ha1, ha, by rw [← HQ.out, ← hn]; exact hord, HA.out⟩
          go_wp2
          go_ret
          exact ⟨a, rfl, HRES.out, hB1⟩
        · have hbn : ((n : Int) == (q : Int) - 1) = false := by simp; omega
          have HNO : Hid (¬ IsOrd P K m a (P ^ K - 1)) := fun h => hn (by rw [HQ.out]; exact hord.one h)
          go_wp2
          go_roundw
          case rel =>
            have hfin : ∃ a' : Nat, Value.int .i64 ((a : Int) + 1) = .int .i64 a' ∧ 1 ≤ a' ∧ a' ≤ q ∧ Hid (∀ b, 1 ≤ b → b < a' → ¬ IsOrd P K m b (P ^ K - 1)) ∧ RB w1 w.heap.size P K q m ∧ Below w.heap.size w w1 := by
              refine ⟨a + 1, by go_num, by omega, by omega, (fun b h1 h2 => ?_ : ∀ b, 1 ≤ b → b < a + 1 → _), hRB1, hB1⟩
              by_cases e : b = a
              · subst e; exact HNO.out
              · exact HA.out b h1 (by omega)
            first
              | exact hfin
              | ((repeat apply Exists.intro); exact ⟨hfin, rfl⟩)
          case measure => simp [intOf]; omega
    · go_wp2
      go_ret
      exact ⟨0, rfl, .inr ⟨rfl, fun b h1 h2 => HA.out b h1 (by rw [← HQ.out] at h2; omega)⟩, hB⟩

end Go.Proofs.YtogdcjlgddleaaaDoor.Fd
