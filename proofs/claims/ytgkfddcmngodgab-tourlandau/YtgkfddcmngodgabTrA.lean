/- The first cycle: there is one just if all come to all. Nothing of the program. -/
import Derived.Test.YtgkfddcmngodgabTrZ
import Derived.Test.YtgkfddcmngodgabTrK
namespace Go.Proofs.Ytgkfddcmngodgab

section
variable {n : Nat} {t : Nat → Nat → Bool}
/-- All cycles, from the first player on. -/
def cyA (n : Nat) (t : Nat → Nat → Bool) : List (List Nat) := (goL n t (n - 1) [0]).filter (okR n t true)
theorem cyN_is : cyN n t = (cyA n t).length := by unfold cyN; rw [wk_is]; rfl
theorem cyL_is : cyL n t = (cyA n t).headD [] := by unfold cyL; rw [wk_is]; rfl
theorem wlk_zero (hn : 1 ≤ n) : Wlk n t [0] := ⟨by simp, fun x hx => by rw [List.mem_singleton] at hx; omega, trivial⟩
theorem mem_cyA (hn : 1 ≤ n) {M : List Nat} : M ∈ cyA n t ↔ ∃ R, M = 0 :: R ∧ M.length = n ∧ Wlk n t M ∧ (1 < n → t (M.getD (n - 1) 0) 0 = true) := by
  unfold cyA
  rw [List.mem_filter, mem_goL (wlk_zero hn)]
  unfold okR
  constructor
  · rintro ⟨⟨R, rfl, hR, hW⟩, hok⟩
    refine ⟨R, rfl, by simp [hR]; omega, hW, fun h1 => ?_⟩
    simp only [Bool.true_and, decide_eq_true h1, Bool.not_not] at hok
    exact hok
  · rintro ⟨R, rfl, hl, hW, hok⟩
    refine ⟨⟨R, rfl, by simp at hl; omega, hW⟩, ?_⟩
    by_cases h1 : 1 < n
    · simp only [Bool.true_and, decide_eq_true h1, Bool.not_not]
      exact hok h1
    · rw [decide_eq_false h1]
      rfl
theorem getD_last {A : List Nat} {x : Nat} {M : List Nat} {n : Nat} (e : M = A ++ [x]) (hl : M.length = n) : M.getD (n - 1) 0 = x := by
  subst e
  rw [List.length_append] at hl
  have : n - 1 = A.length := by simp at hl; omega
  rw [this, List.getD_eq_getElem?_getD, List.getElem?_append_right (Nat.le_refl _)]
  simp
/-- As many players as there are: all of them. -/
theorem all_in {M : List Nat} (hl : M.length = n) (hW : Wlk n t M) {x : Nat} (hx : x < n) : x ∈ M := by
  refine Classical.byContradiction fun h => ?_
  have := nodT_len hW.nd (m := (List.range n).erase x) fun y hy => (List.mem_erase_of_ne fun e => h (by rw [← e]; exact hy)).2 (List.mem_range.2 (hW.lt y hy))
  rw [List.length_erase_of_mem (List.mem_range.2 hx), List.length_range] at this
  omega
theorem cyc_mem (hn : 1 ≤ n) {R : List Nat} (h : (0 :: R) ∈ cyA n t) : Cyc t 0 R ∧ (∀ x, x < n → x ∈ 0 :: R) ∧ ∀ x ∈ 0 :: R, x < n := by
  obtain ⟨R', e, hl, hW, hok⟩ := (mem_cyA hn).1 h
  refine ⟨⟨hW.nd, hW.ch, fun x A ea hR => ?_⟩, fun x hx => all_in hl hW hx, hW.lt⟩
  have h1 : 1 < n := by
    rw [← hl, List.length_cons]
    have := List.length_pos_iff.2 hR
    omega
  have := hok h1
  rwa [getD_last ea hl] at this
theorem mem_cyc (hn : 1 ≤ n) {R : List Nat} (hc : Cyc t 0 R) (hl : R.length + 1 = n) (hlt : ∀ x ∈ 0 :: R, x < n) : (0 :: R) ∈ cyA n t := by
  refine (mem_cyA hn).2 ⟨R, rfl, by rw [List.length_cons]; exact hl, ⟨hc.nd, hlt, hc.ch⟩, fun h1 => ?_⟩
  have hR : R ≠ [] := fun e => by rw [e] at hl; simp at hl; omega
  obtain ⟨A, x, e⟩ := last_of (l := 0 :: R) (by simp)
  rw [getD_last e (by rw [List.length_cons]; exact hl)]
  exact hc.back x A e hR
/-- Camion's theorem, of what is counted. -/
theorem cyN_strg (hn : 1 ≤ n) (hT : Trn (List.range n) t) : cyN n t ≠ 0 ↔ Strg n t := by
  rw [cyN_is]
  constructor
  · intro h
    obtain ⟨M, hM⟩ := List.exists_mem_of_length_pos (Nat.pos_of_ne_zero h)
    obtain ⟨R, rfl, _⟩ := (mem_cyA hn).1 hM
    obtain ⟨h1, h2, h3⟩ := cyc_mem hn hM
    exact cyc_strg h1 h2 h3
  · intro hS h0
    obtain ⟨R, hc, hl, hlt⟩ := camion hT hS hn
    have := mem_cyc hn hc hl hlt
    rw [List.length_eq_zero_iff.1 h0] at this
    simp at this
/-- The first cycle is one. -/
theorem cyL_mem (h : cyN n t ≠ 0) : cyL n t ∈ cyA n t := by
  rw [cyN_is] at h
  rw [cyL_is]
  cases he : cyA n t with
  | nil => rw [he] at h; simp at h
  | cons M Ms => simp
end
end Go.Proofs.Ytgkfddcmngodgab
