/- The law DesignLevels. -/
import Derived.Test.YtgpkhfpejopacabDoorE9
namespace Go.Proofs.YtgpkhfpejopacabDoor
open Go.RowKit

theorem rw_form {w : World} {u : Value} {ls : List (List Int)} (h : Rw w u ls) : ∃ a c, u = .slice a ls.length c := by
  obtain ⟨a, c, e, _⟩ := h
  exact ⟨a, c, e⟩
theorem lvt_form {v : Nat} {B : List (List Nat)} {t : Int} {e : Ending} (h : LvT v B t e) : ∃ k l g : Nat, e = .returned (.tuple #[.int .i64 (k : Int), .int .i64 (l : Int), .int .i64 (g : Int)]) := by
  rcases h with ⟨_, rfl⟩ | ⟨m, _, _, _, ⟨k, l, _, rfl⟩ | ⟨_, rfl⟩⟩
  · exact ⟨0, 0, 1, rfl⟩
  · exact ⟨k, l, 0, rfl⟩
  · exact ⟨0, 0, 4, rfl⟩

theorem toZ_len (B : List (List Nat)) : (toZ B).length = B.length := by simp [toZ]
theorem good_max {v : Nat} {B : List (List Nat)} (G : GoodD v B) : (∀ l ∈ toZ B, l.length ≤ maxLen) ∧ (toZ B).length ≤ maxLen := by
  refine ⟨fun l hl => ?_, ?_⟩
  · obtain ⟨b, hb, rfl⟩ := List.mem_map.1 hl
    rw [List.length_map]
    have := G.len hb
    unfold maxLen; omega
  · rw [toZ_len]; have := G.few; unfold maxLen; omega

end Go.Proofs.YtgpkhfpejopacabDoor
