/- The law DesignFisher. -/
import Derived.Test.YtnnopfdckillpabDoorLF
namespace Go.Proofs.YtnnopfdckillpabDoor
open Go.RowKit

theorem lvt_ok {v : Nat} {B : List (List Nat)} {m k l : Nat} (h : LvT v B (m : Int) (.returned (.tuple #[.int .i64 (k : Int), .int .i64 (l : Int), .int .i64 0]))) : LvOk v B m k l ∧ m ≤ v := by
  rcases h with ⟨_, h⟩ | ⟨m', e, _, hv, ⟨k', l', h1, h⟩ | ⟨_, h⟩⟩
  · simp at h
  · obtain rfl : m = m' := by omega
    simp only [Ending.returned.injEq, Value.tuple.injEq, Array.mk.injEq, List.cons.injEq, Value.int.injEq, true_and, and_true, Int.natCast_inj] at h
    obtain ⟨rfl, rfl⟩ := h
    exact ⟨h1, hv⟩
  · simp at h
theorem fisher_of {v k l : Nat} {B : List (List Nat)} (G : GoodD v B) (h : LvOk v B 2 k l) (h2 : 2 ≤ k) (hv : k < v) : v ≤ B.length := by
  obtain ⟨r, T⟩ := two_of G.bls h.2.1 h2 hv h.2.2
  exact fisher T h.1 h2 hv

end Go.Proofs.YtnnopfdckillpabDoor
