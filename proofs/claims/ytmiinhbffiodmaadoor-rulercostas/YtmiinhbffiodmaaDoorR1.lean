/- The walks of the document's Lies (at any length), Golomb and SidonOf. -/
import Derived.Test.YtmiinhbffiodmaaDoorRuD
import Derived.Test.YtmiinhbffiodmaaDoorB1
namespace Go.Proofs.YtmiinhbffiodmaaDoor
open Go.RowKit

theorem ownK {w w' : World} {base n : Nat} {e : TypeId} {v : Value} {xs : List Value} (h : w.ownsRow base e 1 v n xs) (k : ∀ b, base ≤ b → b < w.heap.size → w'.heap[b]? = w.heap[b]?) : w'.ownsRow base e 1 v n xs := by
  obtain ⟨h3, h4 | ⟨g, cap, cur, h5, h6, h7, h8⟩⟩ := h
  · exact ⟨h3, .inl h4⟩
  · exact ⟨h3, .inr ⟨g, cap, cur, h5, h6, (k g h6 (Array.getElem?_eq_some_iff.1 h7).1).trans h7, h8⟩⟩
theorem own_form {w : World} {base n : Nat} {e : TypeId} {v : Value} {xs : List Value} (h : w.ownsRow base e 1 v n xs) : ∃ a c, v = .slice a n c := by
  obtain ⟨_, ⟨rfl, h0⟩ | ⟨g, cap, cur, rfl, _⟩⟩ := h
  · exact ⟨_, _, by rw [h0]⟩
  · exact ⟨_, _, rfl⟩
theorem contZ_get {b : List Int} {x : Int} {j : Nat} (hj : j < b.length) (e : b.getD j 0 = x) : b.contains x = true := by
  rw [List.contains_iff_mem, ← e, List.getD_eq_getElem?_getD, List.getElem?_eq_getElem hj]
  exact List.getElem_mem hj
theorem contZ_no {b : List Int} {x : Int} (h : ∀ j, j < b.length → b.getD j 0 ≠ x) : b.contains x = false := by
  rw [Bool.eq_false_iff]
  intro k
  obtain ⟨j, hj, e⟩ := List.mem_iff_getElem.1 (List.contains_iff_mem.1 k)
  refine h j hj ?_
  rw [List.getD_eq_getElem?_getD, List.getElem?_eq_getElem hj]
  exact e
set_option maxHeartbeats 4000000 in
theorem LiesZ_any (b : List Int) (x : Int) (q : Bool) (v : Value) (w : World) (hv : Sl w v b) (hb : b.length ≤ 100000) (hq : b.contains x = q) :
    Calls Tryd.prog 27 #[v, .int .i64 x] w fun e w' => e = .returned (.bool q) ∧ w' = w := by
  obtain ⟨a, cap, rfl, hc⟩ := hv
  have HC : Hid (∀ j, j < b.length → ∃ b' off, a = some ⟨b', off, none⟩ ∧ w.cell? ⟨b', off + j, none⟩ = some (.int .i64 (b.getD j 0))) := hc
  have HQ : Hid (b.contains x = q) := hq
  have HN : Hid ((∀ j, j < b.length → b.getD j 0 ≠ x) → b.contains x = false) := contZ_no
  have HY : Hid (∀ j, j < b.length → b.getD j 0 = x → b.contains x = true) := fun j hj e => contZ_get hj e
  generalize hn : b.length = n at *
  clear hc hq
  go_enter Tryd.func27, Tryd.ntmps27
  go_wp2
  go_loopw [5] (fun i wr => ∃ j : Nat, i = .int .i64 (j : Int) ∧ j ≤ n ∧ Hid (∀ m, m < j → b.getD m 0 ≠ x) ∧ wr = w) (fun i _ => (n - intOf i).toNat)
  case atStart => exact ⟨0, rfl, by omega, (show ∀ m, m < 0 → _ from fun m h => by omega), rfl⟩
  case round =>
    obtain ⟨j, rfl, hj, HJ, hw⟩ := hrel
    subst hw
    by_cases hlt : j < n
    · have hdj : decide ((j : Int) < (n : Int)) = true := by simp; omega
      have hji : (j : Int) < n := by omega
      obtain ⟨b', off, rfl, hcell⟩ := HC.out j hlt
      by_cases he : b.getD j 0 = x
      · obtain rfl : q = true := by rw [← HQ.out]; exact HY.out j hlt he
        rw [he] at hcell
        have e1 : (x == x) = true := by simp
        clear he
        go_wp2
        go_ret
        exact ⟨rfl, rfl⟩
      · have hne : (b.getD j 0 == x) = false := beq_eq_false_iff_ne.2 he
        have HJ2 : Hid (∀ m, m < j + 1 → b.getD m 0 ≠ x) := fun m hm => by
          by_cases e : m = j
          · subst e; exact he
          · exact HJ.out m (by omega)
        obtain ⟨X, hX⟩ : ∃ X : Int, X = b.getD j 0 := ⟨_, rfl⟩
        rw [← hX] at hcell hne
        clear he HJ hX
        go_wp2
        go_roundw
        case rel => exact ⟨j + 1, by go_num, by omega, HJ2, by first | rfl | trivial⟩
        case measure => simp [intOf]; omega
    · have hdj : decide ((j : Int) < (n : Int)) = false := by simp; omega
      obtain rfl : j = n := by omega
      obtain rfl : q = false := by rw [← HQ.out]; exact HN.out HJ.out
      go_wp2
      go_ret
      exact ⟨rfl, rfl⟩
theorem un_no {f : Nat → Nat → Int} {n i j : Nat} (hj : j < i) (hi : i < n) (h : f i j ∈ prP f i j) : ¬ Unl f n := fun hu => by
  unfold prP at h
  rcases List.mem_append.1 h with h | h
  · obtain ⟨k, m, hm, hk, e⟩ := prL_mem.1 h
    have := (hu k m i j hm (by omega) hj hi e).1
    omega
  · obtain ⟨m, hm, e⟩ := List.mem_map.1 h
    have hm' := List.mem_range.1 hm
    have := (hu i m i j (by omega) hi hj hi e).2
    omega
theorem un_yes {f : Nat → Nat → Int} {i j : Nat} (h : (prP f i j).Nodup) (hn : f i j ∉ prP f i j) : (prP f i (j + 1)).Nodup := by
  rw [prP_next, List.nodup_append]
  exact ⟨h, by simp, fun a ha b hb => by rw [List.mem_singleton.1 hb]; exact fun e => hn (e ▸ ha)⟩
theorem prP_len {f : Nat → Nat → Int} {i j n : Nat} (hi : i ≤ n) (hj : j ≤ n) : (prP f i j).length ≤ n * n + n := by
  unfold prP
  rw [List.length_append, List.length_map, List.length_range]
  have h1 := prL_len f i
  have h2 : i * i ≤ n * n := Nat.mul_le_mul hi hi
  omega
end Go.Proofs.YtmiinhbffiodmaaDoor
