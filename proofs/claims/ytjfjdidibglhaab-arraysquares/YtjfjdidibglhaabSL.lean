/- Two squares as runs. Nothing of the program but the names of lists. -/
import Derived.Test.YtjfjdidibglhaabS2
import Derived.Test.YtjfjdidibglhaabL7
namespace Go.Proofs.Ytjfjdidibglhaab
open Go.RowKit

def lmQ (n : Nat) (L M : List Int) : List (Int × List Int) := [((n : Int), L), ((n : Int), M)]
theorem roQ_at (n : Nat) (L M : List Int) (j : Nat) : roQ n (lmQ n L M) j = [((j / n : Nat) : Int), ((j % n : Nat) : Int), L.getD j 0, M.getD j 0] := rfl
theorem cell_in {n : Nat} {L : List Int} (hL : GoodS n L) {j : Nat} (hj : j < n * n) : 0 ≤ L.getD j 0 ∧ L.getD j 0 < n := hL.at0 j hj
theorem rows_good {n : Nat} {L M : List Int} (hL : GoodS n L) (hM : GoodS n M) (h2 : 2 ≤ n) (h8 : n ≤ 8) : GoodA n 4 (rwQ n (lmQ n L M)) := by
  have hz : n * n ≤ 64 := Nat.le_trans (Nat.mul_le_mul h8 h8) (by decide)
  have hlen : (rwQ n (lmQ n L M)).length = n * n := by simp [rwQ]
  refine ⟨h2, by omega, by rw [hlen]; exact Nat.mul_pos (by omega) (by omega), by rw [hlen]; omega, by omega, by omega, fun l hl => ?_, fun l hl j hj => ?_⟩
  · obtain ⟨i, _, rfl⟩ := List.mem_map.1 hl
    rfl
  · obtain ⟨i, hi, rfl⟩ := List.mem_map.1 hl
    have hi := List.mem_range.1 hi
    rw [roQ_at]
    have hd : i / n < n := Nat.div_lt_of_lt_mul hi
    have hm : i % n < n := Nat.mod_lt _ (by omega)
    have h3 := cell_in hL hi
    have h4 := cell_in hM hi
    rcases (show j = 0 ∨ j = 1 ∨ j = 2 ∨ j = 3 by omega) with rfl | rfl | rfl | rfl
    · exact ⟨Int.natCast_nonneg (i / n), Int.ofNat_lt.2 hd⟩
    · exact ⟨Int.natCast_nonneg (i % n), Int.ofNat_lt.2 hm⟩
    · exact h3
    · exact h4
/-- The runs as functions. -/
def rfQ (n : Nat) (L M : List Int) (i c : Nat) : Nat := fnA (roQ n (lmQ n L M) i) c
theorem rn_rows (n : Nat) (L M : List Int) : rnA (rwQ n (lmQ n L M)) = (List.range (n * n)).map (rfQ n L M) := by
  unfold rnA rwQ
  rw [List.map_map]
  rfl
theorem rf0 (n : Nat) (L M : List Int) (i : Nat) : rfQ n L M i 0 = i / n := by
  show (((i / n : Nat) : Int)).toNat = _
  exact Int.toNat_natCast _
theorem rf1 (n : Nat) (L M : List Int) (i : Nat) : rfQ n L M i 1 = i % n := by
  show (((i % n : Nat) : Int)).toNat = _
  exact Int.toNat_natCast _
theorem rf2 (n : Nat) (L M : List Int) (i : Nat) : rfQ n L M i 2 = (L.getD i 0).toNat := rfl
theorem rf3 (n : Nat) (L M : List Int) (i : Nat) : rfQ n L M i 3 = (M.getD i 0).toNat := rfl
theorem dm (n i : Nat) : i / n * n + i % n = i := by rw [Nat.mul_comm]; exact Nat.div_add_mod i n
theorem dm_eq {n i j : Nat} (h1 : i / n = j / n) (h2 : i % n = j % n) : i = j := by
  rw [← dm n i, ← dm n j, h1, h2]
/-- In a Latin square, cells of a row, or of a column, that have the same are the same. -/
theorem lat_row {n : Nat} {L : List Int} (hL : GoodS n L) (h1 : 1 ≤ n) {i j : Nat} (hi : i < n * n) (hj : j < n * n) (e : (L.getD i 0).toNat = (L.getD j 0).toNat) : (i / n = j / n → i = j) ∧ (i % n = j % n → i = j) := by
  have a := lat_ap hL.lat (i / n) (i % n) (j / n) (j % n) (Nat.div_lt_of_lt_mul hi) (Nat.mod_lt _ (by omega)) (Nat.div_lt_of_lt_mul hj) (Nat.mod_lt _ (by omega)) (by
    unfold sq
    rw [dm, dm]
    exact e)
  exact ⟨fun h => dm_eq h (a.1 h), fun h => dm_eq (a.2 h) h⟩
theorem sq_str {n : Nat} {L M : List Int} (hL : GoodS n L) (hM : GoodS n M) (h1 : 1 ≤ n) : Str n 4 (rnA (rwQ n (lmQ n L M))) 2 ↔ Orth n (sq n L) (sq n M) := by
  rw [rn_rows]
  have hN : ∀ cs : List Nat, cs.length = 2 → n * n = n ^ cs.length := fun cs h => by rw [h, Nat.pow_two]
  constructor
  · intro h i j i' j' hi hj hi' hj' e1 e2
    have hc : ∀ {a b : Nat}, a < n → b < n → a * n + b < n * n := fun {a b} ha hb => by
      have : a * n + n ≤ n * n := by rw [← Nat.succ_mul]; exact Nat.mul_le_mul_right _ ha
      omega
    have hk := (strC_once (hN [2, 3] rfl)).1 (h [2, 3] ⟨by decide, by decide⟩ rfl) (i * n + j) (i' * n + j') (hc hi hj) (hc hi' hj') (fun c hcm => by
      rcases List.mem_cons.1 hcm with rfl | hcm
      · rw [rf2, rf2]; exact e1
      · obtain rfl : c = 3 := by simpa using hcm
        rw [rf3, rf3]; exact e2)
    have q1 : ∀ {a b : Nat}, b < n → (a * n + b) / n = a := fun {a b} hb => by
      rw [Nat.mul_comm, Nat.mul_add_div (by omega), Nat.div_eq_of_lt hb]
      omega
    have q2 : ∀ {a b : Nat}, b < n → (a * n + b) % n = b := fun {a b} hb => by rw [Nat.mul_comm, Nat.mul_add_mod, Nat.mod_eq_of_lt hb]
    exact ⟨by rw [← q1 (a := i) hj, ← q1 (a := i') hj', hk], by rw [← q2 (a := i) hj, ← q2 (a := i') hj', hk]⟩
  · intro h cs hcs hl
    refine (strC_once (hN cs hl)).2 fun i j hi hj he => ?_
    have ho : (L.getD i 0).toNat = (L.getD j 0).toNat → (M.getD i 0).toNat = (M.getD j 0).toNat → i = j := fun e1 e2 => by
      have a := h (i / n) (i % n) (j / n) (j % n) (Nat.div_lt_of_lt_mul hi) (Nat.mod_lt _ (by omega)) (Nat.div_lt_of_lt_mul hj) (Nat.mod_lt _ (by omega)) (by unfold sq; rw [dm, dm]; exact e1) (by unfold sq; rw [dm, dm]; exact e2)
      exact dm_eq a.1 a.2
    obtain ⟨a, b, rfl⟩ : ∃ a b, cs = [a, b] := by
      match cs, hl with
      | [a, b], _ => exact ⟨a, b, rfl⟩
    have ea := he a (by simp)
    have eb := he b (by simp)
    have hab : a ≠ b := by have := hcs.nd; simpa using this
    have ha := hcs.lt a (by simp)
    have hb := hcs.lt b (by simp)
    have key : ∀ x y, x < y → y < 4 → rfQ n L M i x = rfQ n L M j x → rfQ n L M i y = rfQ n L M j y → i = j := fun x y hxy hy e1 e2 => by
      rcases (show (x = 0 ∧ y = 1) ∨ (x = 0 ∧ y = 2) ∨ (x = 0 ∧ y = 3) ∨ (x = 1 ∧ y = 2) ∨ (x = 1 ∧ y = 3) ∨ (x = 2 ∧ y = 3) by omega) with ⟨rfl, rfl⟩ | ⟨rfl, rfl⟩ | ⟨rfl, rfl⟩ | ⟨rfl, rfl⟩ | ⟨rfl, rfl⟩ | ⟨rfl, rfl⟩
      · rw [rf0, rf0] at e1
        rw [rf1, rf1] at e2
        exact dm_eq e1 e2
      · rw [rf0, rf0] at e1
        rw [rf2, rf2] at e2
        exact (lat_row hL h1 hi hj e2).1 e1
      · rw [rf0, rf0] at e1
        rw [rf3, rf3] at e2
        exact (lat_row hM h1 hi hj e2).1 e1
      · rw [rf1, rf1] at e1
        rw [rf2, rf2] at e2
        exact (lat_row hL h1 hi hj e2).2 e1
      · rw [rf1, rf1] at e1
        rw [rf3, rf3] at e2
        exact (lat_row hM h1 hi hj e2).2 e1
      · rw [rf2, rf2] at e1
        rw [rf3, rf3] at e2
        exact ho e1 e2
    rcases (show a < b ∨ b < a by omega) with q | q
    · exact key a b q hb ea eb
    · exact key b a q ha eb ea
end Go.Proofs.Ytjfjdidibglhaab
