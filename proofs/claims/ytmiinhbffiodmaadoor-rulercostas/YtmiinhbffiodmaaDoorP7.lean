/- The walk of PermFault. -/
import Derived.Test.YtmiinhbffiodmaaDoorPList
import Derived.Deep.QuietTactic
import Derived.BigQuiet
namespace Go.Proofs.YtmiinhbffiodmaaDoor
open Go.RowKit

set_option maxHeartbeats 1000000 in
theorem PermFault_any (l : List Int) (v : Value) (w : World) (hl : Sl w v l) (hll : l.length ≤ maxLen) :
    Calls Tryd.prog 7 #[v] w fun e w' => e = .returned (.int .i64 (pF l)) ∧ Below w.heap.size w w' := by
  unfold maxLen at hll
  obtain ⟨z, Hz⟩ : ∃ z : Int, Hid (pF l = z) := ⟨_, rfl⟩
  rw [Hz.out]
  obtain ⟨n, Hn⟩ : ∃ n : Nat, Hid (l.length = n) := ⟨_, rfl⟩
  obtain ⟨a, cap, rfl, hc⟩ := hl
  rw [Hn.out] at hc hll ⊢
  have HC : Hid (∀ j, j < n → ∃ b off, a = some ⟨b, off, none⟩ ∧ w.cell? ⟨b, off + j, none⟩ = some (.int .i64 (l.getD j 0))) := hc
  clear hc
  by_cases h1 : 12 < n
  · have hd : decide ((12 : Int) < (n : Int)) = true := by simp; omega
    have hz : z = 3 := by rw [← Hz.out]; unfold pF; rw [if_pos (by rw [Hn.out]; exact h1)]
    subst hz
    go_enter Tryd.func7, Tryd.ntmps7
    go_wp2
    go_ret
    exact ⟨rfl, Below.refl _ _⟩
  · have hd : decide ((12 : Int) < (n : Int)) = false := by simp; omega
    have hn12 : n ≤ 12 := by omega
    clear hll
    have HZ : Hid (z = if inLB n l = false then 1 else if dupB l = true then 6 else 0) := by
      show z = _
      rw [← Hz.out]; unfold pF; rw [Hn.out, if_neg h1]
    go_enter Tryd.func7, Tryd.ntmps7
    go_wp2
    go_loop [3] (fun i => ∃ j : Nat, i = .int .i64 j ∧ j ≤ n ∧ Hid (∀ t, t < j → 0 ≤ l.getD t 0 ∧ l.getD t 0 < n)) (fun i => (n - intOf i).toNat)
    case atStart => exact ⟨0, rfl, by omega, (fun t ht => by omega : ∀ t, t < 0 → _)⟩
    case round =>
      obtain ⟨j, rfl, hj, HALL⟩ := hrel
      by_cases hlt : j < n
      · obtain ⟨x, Hx⟩ : ∃ x : Int, Hid (x = l.getD j 0) := ⟨_, rfl⟩
        obtain ⟨b, off, rfl, hcz⟩ := HC.out j hlt
        rw [← Hx.out] at hcz
        have hji : (j : Int) < n := by omega
        have hdec : decide ((j : Int) < n) = true := by simp; omega
        by_cases hz0 : x < 0
        · have hd : decide (x < 0) = true := by simpa using hz0
          have hz : z = 1 := by
            rw [HZ.out, inLB_no (fun h => ?_), if_pos rfl]
            have := h j (by have := Hn.out; omega)
            rw [← Hx.out] at this
            omega
          subst hz
          go_wp2
          go_ret
          exact ⟨rfl, Below.refl _ _⟩
        · have hd : decide (x < 0) = false := by simpa using hz0
          by_cases hzp : (n : Int) ≤ x
          · have hd2 : decide ((n : Int) ≤ x) = true := by simpa using hzp
            have hz : z = 1 := by
              rw [HZ.out, inLB_no (fun h => ?_), if_pos rfl]
              have := h j (by have := Hn.out; omega)
              rw [← Hx.out] at this
              omega
            subst hz
            go_wp2
            go_ret
            exact ⟨rfl, Below.refl _ _⟩
          · have hd2 : decide ((n : Int) ≤ x) = false := by simpa using hzp
            go_wp2
            go_round
            case rel =>
              refine ⟨j + 1, by go_num, by omega, (fun t ht => ?_ : ∀ t, t < j + 1 → _)⟩
              by_cases e : t = j
              · subst e; rw [← Hx.out]; omega
              · exact HALL.out t (by omega)
            case measure => simp [intOf]; omega
      · obtain rfl : j = n := by omega
        have hjd : decide ((j : Int) < (j : Int)) = false := by simp
        have hin : inLB j l = true := (inLB_iff _ _).2 fun t ht => HALL.out t (by have := Hn.out; omega)
        have HZ2 : Hid (z = if dupB l = true then 6 else 0) := by
          show z = _
          rw [HZ.out, hin, if_neg (by simp)]
        clear HALL hin
        go_wp2
        clear hlt hjd
        go_loopw [4] (fun i wr => ∃ k : Nat, i = .int .i64 k ∧ k ≤ j ∧ Hid (∀ i j', j' < i → i < k → l.getD i 0 ≠ l.getD j' 0) ∧ Below w.heap.size w wr) (fun i _ => (j - intOf i).toNat)
        case atStart => exact ⟨0, rfl, by omega, (fun i j' h1 h2 => by omega : ∀ i j', j' < i → i < 0 → _), Below.refl _ _⟩
        case round =>
          obtain ⟨k, rfl, hk, HD, hB⟩ := hrel
          by_cases hkj : k < j
          · have hkji : (k : Int) < j := by omega
            have hdec : decide ((k : Int) < j) = true := by simp; omega
            obtain ⟨x, Hx⟩ : ∃ x : Int, Hid (x = l.getD k 0) := ⟨_, rfl⟩
            obtain ⟨b, off, rfl, hcz⟩ := HC.out k hkj
            rw [← Hx.out] at hcz
            have hbw : b < w.heap.size := by simpa using block_lt_of_cell hcz
            go_wp2
            go_loopw [5] (fun i wr => ∃ t : Nat, i = .int .i64 t ∧ t ≤ k ∧ Hid (∀ j', j' < t → l.getD k 0 ≠ l.getD j' 0) ∧ Below w.heap.size w wr) (fun i _ => (k - intOf i).toNat)
            case atStart => exact ⟨0, rfl, by omega, (fun j' h1 => by omega : ∀ j', j' < 0 → _), hB⟩
            case round =>
              clear hB
              obtain ⟨t, rfl, ht, HE, hB⟩ := hrel
              by_cases htk : t < k
              · have htki : (t : Int) < k := by omega
                have hdect : decide ((t : Int) < k) = true := by simp; omega
                obtain ⟨y, Hy⟩ : ∃ y : Int, Hid (y = l.getD t 0) := ⟨_, rfl⟩
                obtain ⟨b', off', e, hct⟩ := HC.out t (by omega)
                simp only [Option.some.injEq, Addr.mk.injEq, and_true] at e
                obtain ⟨rfl, rfl⟩ := e
                rw [← Hy.out] at hct
                have hck2 := (hB.cell (p := ⟨b, off + k, none⟩) hbw).trans hcz
                have hct2 := (hB.cell (p := ⟨b, off + t, none⟩) hbw).trans hct
                have htji : (t : Int) < j := by omega
                by_cases hxy : x = y
                · have hbn : (x == y) = true := by simpa using hxy
                  have hz : z = 6 := by
                    rw [HZ2.out, (dupB_iff l).2 ⟨k, t, htk, by rw [Hn.out]; exact hkj, by rw [← Hx.out, ← Hy.out]; exact hxy⟩, if_pos rfl]
                  subst hz
                  clear hxy
                  go_wp2
                  go_quiet (fail)
                  go_wp2
                  go_ret
                  exact ⟨rfl, bdrewN hB _⟩
                · have hbn : (x == y) = false := by simpa using hxy
                  have HXY : Hid (x ≠ y) := hxy
                  clear hxy
                  go_wp2
                  go_quiet (fail)
                  go_wp2
                  go_roundw
                  case rel =>
                    refine ⟨t + 1, by go_num, by omega, (fun j' h1 => ?_ : ∀ j', j' < t + 1 → _), bdrewN hB _⟩
                    by_cases e : j' = t
                    · subst e; rw [← Hx.out, ← Hy.out]; exact HXY.out
                    · exact HE.out j' (by omega)
                  case measure => simp [intOf]; omega
              · obtain rfl : t = k := by omega
                have htd : decide ((t : Int) < (t : Int)) = false := by simp
                go_wp2
                go_roundw
                case rel =>
                  refine ⟨t + 1, by go_num, by omega, (fun i j' h1 h2 => ?_ : ∀ i j', j' < i → i < t + 1 → _), hB⟩
                  by_cases e : i = t
                  · subst e; exact HE.out j' h1
                  · exact HD.out i j' h1 (by omega)
                case measure => simp [intOf]; omega
          · obtain rfl : k = j := by omega
            have hkd : decide ((k : Int) < (k : Int)) = false := by simp
            have hz : z = 0 := by
              rw [HZ2.out, dupB_no (fun i j' h1 h2 => HD.out i j' h1 (by rw [← Hn.out]; exact h2)), if_neg (by simp)]
            subst hz
            go_wp2
            go_ret
            exact ⟨rfl, hB⟩

end Go.Proofs.YtmiinhbffiodmaaDoor
