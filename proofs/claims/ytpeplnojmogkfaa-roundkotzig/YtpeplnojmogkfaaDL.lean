/- The walks of the document's Lies and all. -/
import Derived.Test.YtpeplnojmogkfaaPList
namespace Go.Proofs.Ytpeplnojmogkfaa
open Go.RowKit

theorem ofNat_at (b : List Nat) {j : Nat} (hj : j < b.length) : (b.map Int.ofNat).getD j 0 = ((b.getD j 0 : Nat) : Int) := by
  simp [hj]
theorem contains_get {b : List Nat} {x j : Nat} (hj : j < b.length) (e : b.getD j 0 = x) : b.contains x = true := by
  rw [List.contains_iff_mem, ← e, List.getD_eq_getElem?_getD, List.getElem?_eq_getElem hj]
  exact List.getElem_mem hj
theorem contains_no {b : List Nat} {x : Nat} (h : ∀ j, j < b.length → b.getD j 0 ≠ x) : b.contains x = false := by
  cases e : b.contains x with
  | false => rfl
  | true =>
    rw [List.contains_iff_mem] at e
    obtain ⟨j, hj, e⟩ := List.mem_iff_getElem.1 e
    exact (h j hj (by rw [List.getD_eq_getElem?_getD, List.getElem?_eq_getElem hj]; exact e)).elim
set_option maxHeartbeats 4000000 in
theorem Lies_any (b : List Nat) (x : Nat) (q : Bool) (v : Value) (w : World) (hv : Sl w v (b.map Int.ofNat)) (hb : b.length ≤ 99) (hq : b.contains x = q) :
    Calls Try.prog 35 #[v, .int .i64 (x : Int)] w fun e w' => e = .returned (.bool q) ∧ w' = w := by
  obtain ⟨a, cap, rfl, hc⟩ := hv
  rw [List.length_map] at hc ⊢
  have HC : Hid (∀ j, j < b.length → ∃ b' off, a = some ⟨b', off, none⟩ ∧ w.cell? ⟨b', off + j, none⟩ = some (.int .i64 ((b.getD j 0 : Nat) : Int))) := fun j hj => by
    obtain ⟨b', off, e1, e2⟩ := hc j hj
    rw [ofNat_at b hj] at e2
    exact ⟨b', off, e1, e2⟩
  have HQ : Hid (b.contains x = q) := hq
  have HN : Hid ((∀ j, j < b.length → b.getD j 0 ≠ x) → b.contains x = false) := contains_no
  have HY : Hid (∀ j, j < b.length → b.getD j 0 = x → b.contains x = true) := fun j hj e => contains_get hj e
  generalize hn : b.length = n at *
  clear hc hq
  go_enter Try.func35, Try.ntmps35
  go_wp2
  go_loopw [5] (fun i wr => ∃ j : Nat, i = .int .i64 (j : Int) ∧ j ≤ n ∧ Hid (∀ m, m < j → b.getD m 0 ≠ x) ∧ wr = w) (fun i _ => (n - intOf i).toNat)
  case atStart => exact ⟨0, rfl, by omega, (show ∀ m, m < 0 → _ from fun m h => by omega), rfl⟩
  case round =>
    obtain ⟨j, rfl, hj, HJ, hw⟩ := hrel
    subst hw
    by_cases hlt : j < n
    · have hdj : decide ((j : Int) < (n : Int)) = true := by simp; omega
      have hji : (j : Int) < n := by omega
      obtain ⟨b', off, rfl, hcell⟩ := HC.out j hlt
      by_cases he : b.getD j 0 = x
      · obtain rfl : q = true := by rw [← HQ.out]; exact HY.out j hlt he
        rw [he] at hcell
        have e1 : ((x : Int) == (x : Int)) = true := by simp
        clear he
        go_wp2
        go_ret
        exact ⟨rfl, rfl⟩
      · have hne : (((b.getD j 0 : Nat) : Int) == (x : Int)) = false := beq_eq_false_iff_ne.2 (by omega)
        have HJ2 : Hid (∀ m, m < j + 1 → b.getD m 0 ≠ x) := fun m hm => by
          by_cases e : m = j
          · subst e; exact he
          · exact HJ.out m (by omega)
        obtain ⟨X, hX⟩ : ∃ X : Int, X = ((b.getD j 0 : Nat) : Int) := ⟨_, rfl⟩
        rw [← hX] at hcell hne
        clear he HJ hX
        go_wp2
        go_roundw
        case rel => exact ⟨j + 1, by go_num, by omega, HJ2, trivial⟩
        case measure => simp [intOf]; omega
    · have hdj : decide ((j : Int) < (n : Int)) = false := by simp; omega
      obtain rfl : j = n := by omega
      obtain rfl : q = false := by rw [← HQ.out]; exact HN.out HJ.out
      go_wp2
      go_ret
      exact ⟨rfl, rfl⟩
end Go.Proofs.Ytpeplnojmogkfaa
