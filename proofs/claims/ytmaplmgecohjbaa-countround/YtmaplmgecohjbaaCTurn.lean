/- Rings are colourings that a turn moves; bracelets those that a turn and a mirror move: for up to seven beads; nothing of the program. -/
import Derived.Test.YtmaplmgecohjbaaCSum
import Derived.Test.YtmaplmgecohjbaaCBrac
namespace Go.Proofs.Ytmaplmgecohjbaa

def turnL (n : Nat) : List Nat := (List.range n).map fun i => (i + 1) % n
def overL (n : Nat) : List Nat := (List.range n).map fun i => n - 1 - i
/-- The turn, so many times. -/
def rotL (n : Nat) : Nat → List Nat
  | 0 => idL n
  | i + 1 => thenL (rotL n i) (turnL n)
def rots (n : Nat) : List (List Nat) := (List.range n).map (rotL n)
def dihs (n : Nat) : List (List Nat) := if n ≤ 2 then rots n else rots n ++ (rots n).map fun a => thenL a (overL n)

/-- A list that has what the makers make, and no more. -/
theorem list_gen {n : Nat} {ms X : List (List Nat)} (h1 : idL n ∈ X) (h2 : ∀ a ∈ X, ∀ m ∈ ms, thenL a m ∈ X) (h3 : ∀ a ∈ X, Gen n ms a) (a : List Nat) : a ∈ X ↔ Gen n ms a := by
  refine ⟨h3 a, fun h => ?_⟩
  induction h with
  | one => exact h1
  | step a m _ hm ih => exact h2 a ih m hm
theorem rot_gen {n : Nat} {ms : List (List Nat)} (h : turnL n ∈ ms) : ∀ i, Gen n ms (rotL n i)
  | 0 => Gen.one
  | i + 1 => Gen.step _ _ (rot_gen h i) h
theorem dih_gen {n : Nat} {ms : List (List Nat)} (h : turnL n ∈ ms) (ho : overL n ∈ ms) : ∀ a ∈ dihs n, Gen n ms a := fun a ha => by
  unfold dihs at ha
  have hr : ∀ a ∈ rots n, Gen n ms a := fun a ha => by
    obtain ⟨i, _, rfl⟩ := List.mem_map.1 ha
    exact rot_gen h i
  split at ha
  · exact hr a ha
  · rcases List.mem_append.1 ha with h1 | h1
    · exact hr a h1
    · obtain ⟨b, hb, rfl⟩ := List.mem_map.1 h1
      exact Gen.step _ _ (hr b hb) ho
theorem rots_closed : ∀ n, n < 8 → 1 ≤ n → idL n ∈ rots n ∧ (∀ a ∈ rots n, thenL a (turnL n) ∈ rots n) ∧ (rots n).Nodup := by decide +kernel
theorem dihs_closed : ∀ n, n < 8 → 1 ≤ n → idL n ∈ dihs n ∧ (∀ a ∈ dihs n, thenL a (turnL n) ∈ dihs n) ∧ (dihs n).Nodup := by decide +kernel
theorem dihs_closed2 : ∀ n, n < 8 → 1 ≤ n → ∀ a ∈ dihs n, thenL a (overL n) ∈ dihs n := by decide +kernel
theorem rots_cycles : ∀ n, n < 8 → 1 ≤ n → (rots n).map (fun a => (leads n (fnL a) n).length) = (List.range n).map (Nat.gcd n) := by decide +kernel
theorem dihs_cycles : ∀ n, n < 8 → 3 ≤ n → ((dihs n).map (fun a => (leads n (fnL a) n).length)).isPerm ((List.range n).map (Nat.gcd n) ++ (List.range n).map (reflE n)) = true := by decide +kernel
theorem refl_low : ∀ n, n < 3 → 1 ≤ n → ((List.range n).map (reflE n)).isPerm ((List.range n).map (Nat.gcd n)) = true := by decide +kernel
theorem turn_over_isP : ∀ n, n < 8 → (turnL n).length = n ∧ (∀ x ∈ turnL n, x < n) ∧ (turnL n).Nodup ∧ (overL n).length = n ∧ (∀ x ∈ overL n, x < n) ∧ (overL n).Nodup := by decide +kernel
theorem turn_isP {n : Nat} (h : n ≤ 7) : IsP n (turnL n) := by obtain ⟨h1, h2, h3, _⟩ := turn_over_isP n (by omega); exact ⟨h1, h2, h3⟩
theorem over_isP {n : Nat} (h : n ≤ 7) : IsP n (overL n) := by obtain ⟨_, _, _, h1, h2, h3⟩ := turn_over_isP n (by omega); exact ⟨h1, h2, h3⟩

theorem psum {l m : List Nat} (h : l.Perm m) : l.sum = m.sum := by
  induction h with
  | nil => rfl
  | cons x _ ih => rw [List.sum_cons, List.sum_cons, ih]
  | swap x y l => simp only [List.sum_cons]; omega
  | trans _ _ ih1 ih2 => exact ih1.trans ih2
theorem perm_els {n : Nat} {ms X : List (List Nat)} (hm : ∀ m ∈ ms, IsP n m) (nd : X.Nodup) (h : ∀ a, a ∈ X ↔ Gen n ms a) : X.Perm (els n (Gen n ms)) :=
  (List.perm_ext_iff_of_nodup nd (els_nodup _ _)).2 fun a => by rw [h a, (gen_grp hm).mem]
theorem powS_list {n k : Nat} {ms X : List (List Nat)} (hn : n ≤ 7) (hm : ∀ m ∈ ms, IsP n m) (nd : X.Nodup) (h : ∀ a, a ∈ X ↔ Gen n ms a) : powS n k ms = ((X.map fun a => (leads n (fnL a) n).length).map fun c => k ^ c).sum := by
  unfold powS
  have hp := perm_els hm nd h
  rw [← psum (hp.map _), List.map_map]
  congr 1
  exact List.map_congr_left fun a ha => by
    show k ^ (kd n a).sum = k ^ (leads n (fnL a) n).length
    rw [kd_sum (((h a).1 ha).isP hm) hn]
theorem sumN_list (g : Nat → Nat) (k : Nat) : ∀ n, sumN (fun i => ((k ^ g i : Nat) : Int)) n = ((((List.range n).map g).map fun c => k ^ c).sum : Nat)
  | 0 => rfl
  | n + 1 => by rw [sumN, sumN_list g k n, List.range_succ]; simp
/-- Rings are colourings that one turn moves. -/
theorem round_rings {n k : Nat} (h1 : 1 ≤ n) (hn : n ≤ 7) (hk : 0 < k) : (colG n k [turnL n] : Int) = docB n k := by
  have hm : ∀ m ∈ [turnL n], IsP n m := fun m h => by rw [List.mem_singleton.1 h]; exact turn_isP hn
  obtain ⟨c1, c2, c3⟩ := rots_closed n (by omega) h1
  have hg := list_gen (ms := [turnL n]) c1 (fun a ha m hm' => by rw [List.mem_singleton.1 hm']; exact c2 a ha) (fun a ha => by obtain ⟨i, _, rfl⟩ := List.mem_map.1 ha; exact rot_gen (by simp) i)
  have e1 := powS_list (k := k) hn hm c3 hg
  rw [rots_cycles n (by omega) h1] at e1
  have e2 := powS_col hn hk hm
  rw [← (perm_els hm c3 hg).length_eq] at e2
  have e3 : (rots n).length = n := by simp [rots]
  rw [e3] at e2
  have e4 := ring_eq (k := k) (n := n) (by omega) (by omega)
  have e5 : turnS n k = ((((List.range n).map (Nat.gcd n)).map fun c => k ^ c).sum : Nat) := sumN_list _ k n
  rw [e5, ← e1, e2, Int.natCast_mul] at e4
  have := Int.eq_of_mul_eq_mul_right (show (n : Int) ≠ 0 by omega) e4
  exact this.symm
/-- Bracelets are colourings that a turn and a mirror move. -/
theorem round_brac {n k : Nat} (h1 : 1 ≤ n) (hn : n ≤ 7) (hk : 0 < k) : (colG n k [turnL n, overL n] : Int) = docBr n k := by
  have hm : ∀ m ∈ [turnL n, overL n], IsP n m := fun m h => by
    rcases List.mem_cons.1 h with h | h
    · rw [h]; exact turn_isP hn
    · rw [List.mem_singleton.1 h]; exact over_isP hn
  obtain ⟨c1, c2, c3⟩ := dihs_closed n (by omega) h1
  have c4 := dihs_closed2 n (by omega) h1
  have hg := list_gen (ms := [turnL n, overL n]) c1 (fun a ha m hm' => by
    rcases List.mem_cons.1 hm' with h | h
    · rw [h]; exact c2 a ha
    · rw [List.mem_singleton.1 h]; exact c4 a ha) (dih_gen (by simp) (by simp))
  have e1 := powS_list (k := k) hn hm c3 hg
  have e2 := powS_col hn hk hm
  rw [← (perm_els hm c3 hg).length_eq] at e2
  have e5 : turnS n k = ((((List.range n).map (Nat.gcd n)).map fun c => k ^ c).sum : Nat) := sumN_list _ k n
  have e6 : reflS n k = ((((List.range n).map (reflE n)).map fun c => k ^ c).sum : Nat) := sumN_list _ k n
  have e7 := brac_eq (k := k) (n := n) (by omega) (by omega)
  rw [← e7]
  by_cases h2 : n ≤ 2
  · have e3 : (dihs n).length = n := by unfold dihs; rw [if_pos h2]; simp [rots]
    have e8 : dihs n = rots n := if_pos h2
    have hp := List.isPerm_iff.1 (refl_low n (by omega) h1)
    rw [e8, rots_cycles n (by omega) h1] at e1
    have e9 : reflS n k = turnS n k := by rw [e5, e6, psum (hp.map _)]
    rw [e9, e5, ← e1, e2, e3, ← Int.two_mul, Int.natCast_mul, show (2 : Int) * ((colG n k [turnL n, overL n] : Int) * n) = (colG n k [turnL n, overL n] : Int) * (2 * n) by rw [Int.mul_left_comm], Int.mul_tdiv_cancel _ (by omega)]
  · have e3 : (dihs n).length = n + n := by unfold dihs; rw [if_neg h2]; simp [rots]
    have hp := List.isPerm_iff.1 (dihs_cycles n (by omega) (by omega))
    have e9 : turnS n k + reflS n k = (powS n k [turnL n, overL n] : Nat) := by
      rw [e5, e6, e1, psum (hp.map _), List.map_append, List.sum_append, Int.natCast_add]
    rw [e9, e2, e3, Int.natCast_mul, show ((n + n : Nat) : Int) = 2 * n by omega, Int.mul_tdiv_cancel _ (by omega)]

end Go.Proofs.Ytmaplmgecohjbaa
