/- The walk of checkContent; what is wrong with a content. -/
import Derived.Test.YtgpkhfpejopacabGreatDoorZCCon
import Derived.Test.YtgpkhfpejopacabGreatDoorZP25
namespace Go.Proofs.YtgpkhfpejopacabGreatDoor.Gc
open Go.RowKit

/-- Is there a number out of range among the first i? -/
def badI (n : Int) (l : List Int) : Bool := l.any fun x => decide (x < 0 ∨ n < x)
/-- What is wrong with a content. -/
def conF (n : Int) (l : List Int) : Int := if 8 < l.length then 3 else if badI n l then 1 else if l.sum = n then 0 else 2
theorem badI_take {n : Int} {l : List Int} {i : Nat} (hi : i < l.length) : badI n (l.take (i + 1)) = (badI n (l.take i) || decide (l.getD i 0 < 0 ∨ n < l.getD i 0)) := by
  have e : l.getD i 0 = l[i] := by simp [hi]
  unfold badI
  rw [List.take_add_one, List.getElem?_eq_getElem hi, Option.toList_some, List.any_append, List.any_cons, List.any_nil, Bool.or_false, e]
theorem badI_at {n : Int} {l : List Int} {i : Nat} (hi : i < l.length) (h : l.getD i 0 < 0 ∨ n < l.getD i 0) : badI n l = true := by
  unfold badI
  rw [List.any_eq_true]
  exact ⟨l.getD i 0, by simp [List.getD_eq_getElem?_getD, hi], by simpa using h⟩
theorem sum_take {l : List Int} {i : Nat} (hi : i < l.length) : (l.take (i + 1)).sum = (l.take i).sum + l.getD i 0 := by
  have e : l.getD i 0 = l[i] := by simp [hi]
  rw [List.take_add_one, List.getElem?_eq_getElem hi, Option.toList_some, List.sum_append, List.sum_cons, List.sum_nil, Int.add_zero, e]
set_option maxRecDepth 100000 in
set_option maxHeartbeats 1000000 in
theorem checkContent_any (n : Nat) (l : List Int) (v : Value) (w : World) (hn : n ≤ 7) (hv : Sl w v l) (hl : l.length ≤ maxLen) :
    Calls Tryz.prog 44 #[.int .i64 (n : Int), v] w fun e w' => e = .returned (.int .i64 (conF n l)) ∧ w' = w := by
  obtain ⟨a, cap, rfl, hc⟩ := hv
  unfold maxLen at hl
  obtain ⟨r, Hr⟩ : ∃ r, Hid (l.length = r) := ⟨_, rfl⟩
  obtain ⟨z, Hz⟩ : ∃ z, Hid (conF n l = z) := ⟨_, rfl⟩
  rw [Hz.out]
  rw [Hr.out] at hc hl ⊢
  by_cases h8 : 8 < r
  · have hd : decide ((8 : Int) < (r : Int)) = true := by simp; omega
    obtain rfl : z = 3 := by rw [← Hz.out]; unfold conF; rw [if_pos (by rw [Hr.out]; exact h8)]
    go_enter Tryz.func44, Tryz.ntmps44
    go_wp2
    go_ret
    exact ⟨rfl, rfl⟩
  · have hd : decide ((8 : Int) < (r : Int)) = false := by simp; omega
    have HC : Hid (∀ j, j < r → ∃ b off, a = some ⟨b, off, none⟩ ∧ w.cell? ⟨b, off + j, none⟩ = some (.int .i64 (l.getD j 0))) := hc
    clear hc
    go_enter Tryz.func44, Tryz.ntmps44
    go_wp2
    go_loop [5, 13] (fun s i => ∃ (j : Nat) (t : Int), i = .int .i64 (j : Int) ∧ j ≤ r ∧ s = .int .i64 t ∧ 0 ≤ t ∧ t ≤ 7 * j ∧ Hid ((l.take j).sum = t ∧ badI n (l.take j) = false)) (fun _ i => (r - intOf i).toNat)
    case atStart => exact ⟨0, 0, rfl, by omega, rfl, by omega, by omega, (by simp [badI] : (l.take 0).sum = 0 ∧ badI n (l.take 0) = false)⟩
    case round =>
      obtain ⟨j, t, rfl, hj, rfl, ht0, ht7, HT⟩ := hrel
      by_cases hlt : j < r
      · have hji : (j : Int) < r := by omega
        have hj0 : (0 : Int) ≤ (j : Int) := by omega
        have hdec : decide ((j : Int) < r) = true := by simp; omega
        obtain ⟨b, off, rfl, hcj⟩ := HC.out j hlt
        have hjl : j < l.length := by rw [Hr.out]; exact hlt
        have hsum := sum_take hjl
        have hbad := badI_take (n := n) hjl
        have HBAD : Hid (l.getD j 0 < 0 ∨ (n : Int) < l.getD j 0 → badI n l = true) := badI_at hjl
        obtain ⟨x, Hx⟩ : ∃ x, Hid (l.getD j 0 = x) := ⟨_, rfl⟩
        rw [Hx.out] at hcj hsum hbad HBAD
        by_cases hx0 : x < 0
        · have hd0 : decide (x < 0) = true := by simpa using hx0
          obtain rfl : z = 1 := by rw [← Hz.out]; unfold conF; rw [if_neg (by rw [Hr.out]; omega), if_pos (HBAD.out (.inl hx0))]
          clear hsum hbad
          go_wp2
          go_ret
          exact ⟨rfl, rfl⟩
        · have hd0 : decide (x < 0) = false := by simpa using hx0
          by_cases hxn : (n : Int) < x
          · have hd1 : decide ((n : Int) < x) = true := by simpa using hxn
            obtain rfl : z = 1 := by rw [← Hz.out]; unfold conF; rw [if_neg (by rw [Hr.out]; omega), if_pos (HBAD.out (.inr hxn))]
            clear hsum hbad
            go_wp2
            go_ret
            exact ⟨rfl, rfl⟩
          · have hd1 : decide ((n : Int) < x) = false := by simpa using hxn
            rw [HT.out.1] at hsum
            rw [HT.out.2, Bool.false_or] at hbad
            have HT' : Hid ((l.take (j + 1)).sum = t + x ∧ badI n (l.take (j + 1)) = false) := ⟨hsum, by rw [hbad]; simp; omega⟩
            clear hsum hbad
            go_wp2
            go_round
            case rel => exact ⟨j + 1, t + x, by go_num, by omega, rfl, by omega, by omega, HT'⟩
            case measure => simp [intOf]; omega
      · have hdec : decide ((j : Int) < r) = false := by simp; omega
        obtain rfl : r = j := by omega
        have hT := HT.out
        rw [List.take_of_length_le (by rw [Hr.out]; omega)] at hT
        have hz : z = if t = (n : Int) then 0 else 2 := by
          rw [← Hz.out]; unfold conF
          rw [if_neg (by rw [Hr.out]; omega), hT.2, if_neg (by simp), hT.1]
        by_cases htn : t = (n : Int)
        · rw [if_pos htn] at hz
          have hb : (t == (n : Int)) = true := by simpa using htn
          subst hz
          clear hT
          go_wp2
          go_ret
          exact ⟨rfl, rfl⟩
        · rw [if_neg htn] at hz
          have hb : (t == (n : Int)) = false := by simpa using htn
          subst hz
          clear hT
          go_wp2
          go_ret
          exact ⟨rfl, rfl⟩

end Go.Proofs.YtgpkhfpejopacabGreatDoor.Gc
