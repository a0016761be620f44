/- The walk of the document's Together. -/
import Derived.Test.YtgpkhfpejopacaaDoorDLw
import Derived.Test.YtgpkhfpejopacaaDoorDFish
namespace Go.Proofs.YtgpkhfpejopacaaDoor
open Go.RowKit

theorem mt_take {b c : List Nat} {j : Nat} (hj : j < b.length) : mt (b.take (j + 1)) c = mt (b.take j) c + if c.contains (b.getD j 0) = true then 1 else 0 := by
  unfold mt
  rw [List.take_add_one, List.getElem?_eq_getElem hj, List.countP_append, List.getD_eq_getElem?_getD, List.getElem?_eq_getElem hj]
  simp [List.countP_cons]
set_option maxHeartbeats 4000000 in
theorem Together_any (b c : List Nat) (v u : Value) (w : World) (hv : Sl w v (b.map Int.ofNat)) (hu : Sl w u (c.map Int.ofNat)) (hb : b.length ≤ 99) (hc : c.length ≤ 99) :
    Calls Tryd.prog 62 #[v, u] w fun e w' => e = .returned (.int .i64 ((mt b c : Nat) : Int)) ∧ w' = w := by
  have L : Hid (∀ x, Calls Tryd.prog 27 #[u, .int .i64 ((x : Nat) : Int)] w fun e w' => e = .returned (.bool (c.contains x)) ∧ w' = w) := fun x => Lies_any c x _ u w hu hc rfl
  obtain ⟨va, vc, rfl, _⟩ := hu
  obtain ⟨a, cap, rfl, hcc⟩ := hv
  rw [List.length_map] at hcc L ⊢
  rw [List.length_map]
  have HC : Hid (∀ j, j < b.length → ∃ b' off, a = some ⟨b', off, none⟩ ∧ w.cell? ⟨b', off + j, none⟩ = some (.int .i64 ((b.getD j 0 : Nat) : Int))) := fun j hj => by
    obtain ⟨b', off, e1, e2⟩ := hcc j hj
    rw [ofNat_at b hj] at e2
    exact ⟨b', off, e1, e2⟩
  have HM : Hid (∀ j, j < b.length → mt (b.take (j + 1)) c = mt (b.take j) c + if c.contains (b.getD j 0) = true then 1 else 0) := fun j hj => mt_take hj
  have HZ : Hid (mt (b.take b.length) c = mt b c) := by show _ = _; rw [List.take_length]
  have HL : Hid (∀ j, mt (b.take j) c ≤ b.length) := fun j => Nat.le_trans List.countP_le_length (by rw [List.length_take]; omega)
  obtain ⟨M, HMM⟩ : ∃ M, Hid (mt b c = M) := ⟨_, rfl⟩
  rw [HMM.out] at HZ ⊢
  generalize hn : b.length = n at *
  generalize c.length = vl at *
  clear hcc
  go_enter Tryd.func62, Tryd.ntmps62
  go_wp2
  go_loopw [5, 6] (fun k i wr => ∃ j m : Nat, i = .int .i64 (j : Int) ∧ k = .int .i64 (m : Int) ∧ j ≤ n ∧ Hid (mt (b.take j) c = m) ∧ wr = w) (fun _ i _ => (n - intOf i).toNat)
  case atStart => exact ⟨0, 0, rfl, rfl, by omega, (show mt (b.take 0) c = 0 by simp [mt]), rfl⟩
  case round =>
    obtain ⟨j, m, rfl, rfl, hj, HJ, hw⟩ := hrel
    subst hw
    have hm : m ≤ n := by have := HL.out j; rw [HJ.out] at this; exact this
    by_cases hlt : j < n
    · have hdj : decide ((j : Int) < (n : Int)) = true := by simp; omega
      have hji : (j : Int) < n := by omega
      obtain ⟨b', off, rfl, hcell⟩ := HC.out j hlt
      have C := L.out (b.getD j 0)
      have hs := HM.out j hlt
      obtain ⟨X, hX⟩ : ∃ X : Int, X = ((b.getD j 0 : Nat) : Int) := ⟨_, rfl⟩
      rw [← hX] at hcell C
      cases he : c.contains (b.getD j 0) with
      | false =>
        rw [he] at C
        have HJ2 : Hid (mt (b.take (j + 1)) c = m) := by show _ = _; rw [hs, he, HJ.out]; rfl
        clear he hX hs HJ
        go_wp2_with (go_at_call 27; refine C.mono ?_; rintro e w1 ⟨rfl, hw⟩; replace hw := hw.symm; subst hw)
        go_roundw
        case rel => exact ⟨j + 1, m, by go_num, rfl, by omega, HJ2, trivial⟩
        case measure => simp [intOf]; omega
      | true =>
        rw [he] at C
        have HJ2 : Hid (mt (b.take (j + 1)) c = m + 1) := by show _ = _; rw [hs, he, HJ.out]; rfl
        clear he hX hs HJ
        go_wp2_with (go_at_call 27; refine C.mono ?_; rintro e w1 ⟨rfl, hw⟩; replace hw := hw.symm; subst hw)
        go_roundw
        case rel => exact ⟨j + 1, m + 1, by go_num, by go_num, by omega, HJ2, trivial⟩
        case measure => simp [intOf]; omega
    · have hdj : decide ((j : Int) < (n : Int)) = false := by simp; omega
      obtain rfl : j = n := by omega
      obtain rfl : M = m := by rw [← HZ.out, HJ.out]
      go_wp2
      go_ret
      exact ⟨rfl, rfl⟩
end Go.Proofs.YtgpkhfpejopacaaDoor
