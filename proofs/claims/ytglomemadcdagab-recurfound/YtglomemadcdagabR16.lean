/- The walk of PeriodOf: the document's word on when a row comes again. -/
import Derived.Test.YtglomemadcdagabR23
import Derived.Test.YtglomemadcdagabR13
import Derived.Test.YtglomemadcdagabRPer
import Derived.OwnWalk
namespace Go.Proofs.Ytglomemadcdagab
open Go.RowKit

theorem own_made' {w : World} {base g n : Nat} (h : w.ownsRow base 3 1 (.slice (some ⟨g, 0, none⟩) n n) n (madeCells #[Value.int .i64 0] n).toList) : Own w g n (fun _ => 0) := by
  obtain ⟨_, ⟨h1, _⟩ | ⟨g', cap, cur, e, hb, hg, h2, h3, h4, ht⟩⟩ := h
  · cases h1
  · cases e
    refine ⟨cur, hg, fun j hj => ?_⟩
    have e2 : (cur.toList.take (n * 1))[j]? = ((madeCells #[Value.int .i64 0] n).toList)[j]? := by rw [ht]
    rw [List.getElem?_take, if_pos (by omega)] at e2
    rw [← Array.getElem?_toList, e2]
    simp [madeCells, hj, Nat.mod_one]
theorem own_of_row {w : World} {base n : Nat} {v : Value} {l : List Int} (h : w.ownsRow base 3 1 v n (l.map (Value.int .i64))) (hn : 0 < n) :
    ∃ g cap, v = .slice (some ⟨g, 0, none⟩) n cap ∧ base ≤ g ∧ n ≤ cap ∧ cap ≤ maxLen ∧ Own w g n (fun j => l.getD j 0) := by
  obtain ⟨hl, ⟨_, hn0⟩ | ⟨g, cap, cur, rfl, hb, hg, h2, h3, _, ht⟩⟩ := h
  · omega
  · refine ⟨g, cap, rfl, hb, h2, h3, cur, hg, fun j hj => ?_⟩
    have hj2 : j < l.length := by simp at hl; omega
    have h2 : (cur.toList.take (n * 1))[j]? = (l.map (Value.int .i64))[j]? := by rw [ht]
    rw [List.getElem?_take, if_pos (by omega)] at h2
    rw [← Array.getElem?_toList, h2]
    simp [hj2]
/-- The window as a list. -/
def winL (p : Int) (taps seed : List Int) (i : Nat) : List Int := (List.range taps.length).map fun j => rowN p taps seed (i + j)
theorem winL_len (p : Int) (taps seed : List Int) (i : Nat) : (winL p taps seed i).length = taps.length := by simp [winL]
theorem winL_at (p : Int) (taps seed : List Int) (i : Nat) {j : Nat} (h : j < taps.length) : (winL p taps seed i).getD j 0 = rowN p taps seed (i + j) := by simp [winL, h]
theorem winL_num (p : Int) (taps seed : List Int) (i : Nat) : numL p (winL p taps seed i) = winN p taps seed i := by
  unfold numL winN
  rw [winL_len]
  exact numP_congr (fun j hj => winL_at p taps seed i hj)
theorem winL_bel {p : Int} {taps seed : List Int} (hp : 0 < p) (hs : belB p seed = true) (i : Nat) : belB p (winL p taps seed i) = true := by
  rw [belB_iff]
  intro j hj
  rw [winL_len] at hj
  rw [winL_at _ _ _ _ hj]
  exact rowN_bd hp hs _

end Go.Proofs.Ytglomemadcdagab
