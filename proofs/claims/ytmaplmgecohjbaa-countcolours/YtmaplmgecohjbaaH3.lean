/- Kinds, as many lengths as there are points; nothing of the program. -/
import Derived.Test.YtmaplmgecohjbaaH0
import Derived.Test.YtmaplmgecohjbaaCKind
namespace Go.Proofs.Ytmaplmgecohjbaa

theorem kd_zero {n : Nat} {a : List Nat} (ha : IsP n a) {j : Nat} (hj : n ≤ j) : (kd n a).getD j 0 = 0 := by
  by_cases h7 : j < 7
  · rw [kd_at h7, List.count_eq_zero]
    intro hm
    have := (ha.pm : Pm n (fnL a)).lens_mem hm
    omega
  · have : (kd n a).length ≤ j := by rw [kd_len]; omega
    simp [List.getElem?_eq_none this]
/-- The kind, so many lengths of it. -/
noncomputable def kt (n : Nat) (a : List Nat) : List Nat := (kd n a).take n
theorem kt_len {n : Nat} (hn : n ≤ 7) (a : List Nat) : (kt n a).length = n := by simp [kt, kd_len]; omega
theorem take_at (l : List Nat) (n i : Nat) : (l.take n).getD i 0 = if i < n then l.getD i 0 else 0 := by
  simp only [List.getD_eq_getElem?_getD, List.getElem?_take]
  split <;> rfl
theorem kt_inj {n : Nat} {a b : List Nat} (ha : IsP n a) (hb : IsP n b) (h : kt n a = kt n b) : kd n a = kd n b := by
  refine List.ext_getElem (by rw [kd_len, kd_len]) fun i h1 h2 => ?_
  have e : (kd n a).getD i 0 = (kd n b).getD i 0 := by
    by_cases hi : i < n
    · have := congrArg (fun l => l.getD i 0) h
      simp only [kt, take_at, if_pos hi] at this
      exact this
    · rw [kd_zero ha (by omega), kd_zero hb (by omega)]
  simpa [h1, h2] using e
theorem kt_lt {n : Nat} {a b : List Nat} (ha : IsP n a) (h : LexLt 7 (fun i => (kd n b).getD i 0) (fun i => (kd n a).getD i 0)) : ltT n (kt n b) (kt n a) := by
  obtain ⟨i, hi, h1, h2⟩ := h
  have hin : i < n := by
    refine Classical.byContradiction fun e => ?_
    have := kd_zero ha (j := i) (by omega)
    simp only [this] at h2
    omega
  refine ⟨i, hin, fun j hj => ?_, ?_⟩
  · simp only [kt, take_at, if_pos (show j < n by omega)]; exact h1 j hj
  · simp only [kt, take_at, if_pos hin]; exact h2
theorem count_on {f : List Nat → List Nat} {x : List Nat} : ∀ {K : List (List Nat)}, (∀ y ∈ K, f y = f x → y = x) → (K.map f).count (f x) = K.count x
  | [], _ => rfl
  | y :: K, h => by
    rw [List.map_cons, List.count_cons, List.count_cons, count_on fun z hz => h z (by simp [hz])]
    by_cases e : y = x
    · subst e; simp
    · have : f y ≠ f x := fun e' => e (h y (by simp) e')
      simp [e, this]
/-- The kinds of the group's members, in the members' order. -/
noncomputable def ktL (n : Nat) (ms : List (List Nat)) : List (List Nat) := (els n (Gen n ms)).map (kt n)

end Go.Proofs.Ytmaplmgecohjbaa
