/- A design as it comes, with its slice's room. -/
import Derived.Test.YtnnopfdckillpaaDoorRDB
namespace Go.Proofs.YtnnopfdckillpaaDoor
open Go.ChangeShapes Go.WideShapes Go.ChangeAt Go.RowKit Go.Joins

theorem room_of_trod {H : Type} {enc : TypeId × Value → H} {W : World} {fuel : Nat} {v : Value} {y : DataW H × List MemPlace} (h : DataW.trod enc Tryd.prog W 0 (fun _ => true) true fuel 22 [v] = some y) : ∀ a n c, v = .slice a n c → n ≤ c := by
  rcases Go.Deep.open_slice1 undRow cellsRow h with ⟨hcs, _⟩ | ⟨a, len, cap, m, n, V, D, Pl, hcs, _, hl, _⟩
  · simp only [List.cons.injEq, and_true] at hcs
    subst hcs
    intro a n c e
    cases e
    exact Nat.le_refl _
  · simp only [List.cons.injEq, and_true] at hcs
    subst hcs
    intro a n c e
    cases e
    exact hl
theorem design_open2 {H : Type} {enc : TypeId × Value → H} {W : World} {r : Reach} {b0 : Nat} {v : Value} {d : DataW H} {ps : List MemPlace} (hv : Value.okWide Tryd.prog W r b0 24 v) (h : DataW.Trod enc Tryd.prog W 0 (fun _ => true) true 24 v d ps) :
    ∃ (s : Int) (u : Value) (ls : List (List Int)), v = .agg #[.int .i64 s, u] ∧ Rw W u ls ∧ (∀ l ∈ ls, l.length ≤ maxLen) ∧ ls.length ≤ maxLen ∧ ∀ a n c, u = .slice a n c → n ≤ c := by
  obtain ⟨v0, v1, y0, y1, n, rfl, _, _, h0, h1⟩ := open_agg2 Tryd.underlying24 (by kernel_rfl) cells24 hv h
  obtain ⟨p, e0, _, _⟩ := DataW.trod_int Tryd.underlying3 h0
  simp only [List.cons.injEq, and_true] at e0
  subst e0
  obtain ⟨ls, h2, h3, h4⟩ := rows_of_trod h1
  exact ⟨p, v1, ls, rfl, h2, h3, h4, room_of_trod h1⟩

end Go.Proofs.YtnnopfdckillpaaDoor
