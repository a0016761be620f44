/- Duval's way, place by place: from start on, so far looked at, how far back. -/
import Derived.Test.YtcjkcgfohmhbcabWdD
namespace Go.Proofs.Ytcjkcgfohmhbcab

/-- Between two rounds: the lengths of what is cut off. -/
def NS (M Ls : List Nat) (s : Nat) : Prop := ∃ D, Ls = D.map List.length ∧ Duv M D (M.drop s) ∧ s ≤ M.length
/-- In a round. -/
def FS (M Ls : List Nat) (s b a : Nat) : Prop := ∃ D, Ls = D.map List.length ∧ Duv M D (M.drop s) ∧ s ≤ b ∧ b < a ∧ a ≤ M.length ∧ Dv ((M.drop s).take (a - s)) (a - b)
/-- While it cuts. -/
def CS (M Ls : List Nat) (s b a : Nat) : Prop := ∃ D s0 j, Ls = D.map List.length ++ List.replicate j (a - b) ∧ Duv M D (M.drop s0) ∧ s = s0 + j * (a - b) ∧ s0 + (j + 1) * (a - b) ≤ a ∧ b < a ∧ a ≤ M.length ∧ Dv ((M.drop s0).take (a - s0)) (a - b) ∧ (a < M.length → M.getD a 0 < M.getD b 0) ∧ s0 ≤ b
theorem NS.zero (M : List Nat) : NS M [] 0 := ⟨[], rfl, Duv.start M, Nat.zero_le _⟩
theorem NS.all {M Ls : List Nat} (h : NS M Ls M.length) : Ls = (fcP M.length M).map List.length := by
  obtain ⟨D, rfl, hD, -⟩ := h
  rw [List.drop_of_length_le (Nat.le_refl _)] at hD
  rw [← hD.all]
theorem take_one {M : List Nat} {s : Nat} (h : s < M.length) : (M.drop s).take (s + 1 - s) = [M.getD s 0] := by
  rw [show s + 1 - s = 1 by omega, List.drop_eq_getElem_cons h, List.getD_eq_getElem?_getD, List.getElem?_eq_getElem h]
  rfl
theorem take_more {M : List Nat} {s a : Nat} (hs : s ≤ a) (h : a < M.length) : (M.drop s).take (a + 1 - s) = (M.drop s).take (a - s) ++ [M.getD a 0] := by
  rw [show a + 1 - s = a - s + 1 by omega, List.take_add_one, List.getElem?_drop, show s + (a - s) = a by omega, List.getElem?_eq_getElem h, List.getD_eq_getElem?_getD, List.getElem?_eq_getElem h]
  rfl
theorem take_len {M : List Nat} {s a : Nat} (hs : s ≤ a) (h : a ≤ M.length) : ((M.drop s).take (a - s)).length = a - s := by
  rw [List.length_take, List.length_drop]; omega
theorem take_at {M : List Nat} {s a b : Nat} (h1 : s ≤ b) (h2 : b < a) (_ : a ≤ M.length) : ((M.drop s).take (a - s)).getD (b - s) 0 = M.getD b 0 := by
  rw [List.getD_eq_getElem?_getD, List.getElem?_take, if_pos (by omega), List.getElem?_drop, show s + (b - s) = b by omega, List.getD_eq_getElem?_getD]
theorem NS.step {M Ls : List Nat} {s : Nat} (h : NS M Ls s) (hs : s < M.length) : FS M Ls s s (s + 1) := by
  obtain ⟨D, rfl, hD, -⟩ := h
  refine ⟨D, rfl, hD, Nat.le_refl _, Nat.lt_succ_self _, hs, ?_⟩
  rw [take_one hs, show s + 1 - s = 1 by omega]
  exact Dv.start _
theorem FS.same {M Ls : List Nat} {s b a : Nat} (h : FS M Ls s b a) (ha : a < M.length) (e : M.getD a 0 = M.getD b 0) : FS M Ls s (b + 1) (a + 1) := by
  obtain ⟨D, rfl, hD, h1, h2, h3, h4⟩ := h
  refine ⟨D, rfl, hD, by omega, by omega, ha, ?_⟩
  rw [take_more (by omega) ha, show a + 1 - (b + 1) = a - b by omega]
  refine h4.same ?_
  rw [take_len (by omega) h3, show a - s - (a - b) = b - s by omega, take_at h1 h2 h3, e]
theorem FS.more {M Ls : List Nat} {s b a : Nat} (h : FS M Ls s b a) (ha : a < M.length) (e : M.getD b 0 < M.getD a 0) : FS M Ls s s (a + 1) := by
  obtain ⟨D, rfl, hD, h1, h2, h3, h4⟩ := h
  refine ⟨D, rfl, hD, by omega, by omega, ha, ?_⟩
  have h5 := h4.more (c := M.getD a 0) (by rw [take_len (by omega) h3, show a - s - (a - b) = b - s by omega, take_at h1 h2 h3]; exact e)
  rw [take_len (by omega) h3, show a - s + 1 = a + 1 - s by omega] at h5
  rw [take_more (by omega) ha]
  exact h5
theorem FS.cut {M Ls : List Nat} {s b a : Nat} (h : FS M Ls s b a) (e : a < M.length → M.getD a 0 < M.getD b 0) : CS M Ls s b a := by
  obtain ⟨D, rfl, hD, h1, h2, h3, h4⟩ := h
  exact ⟨D, s, 0, by simp, hD, by omega, by omega, h2, h3, h4, e, h1⟩
theorem CS.more {M Ls : List Nat} {s b a : Nat} (h : CS M Ls s b a) (e : s + (a - b) ≤ b) : CS M (Ls ++ [a - b]) (s + (a - b)) b a := by
  obtain ⟨D, s0, j, rfl, hD, rfl, h1, h2, h3, h4, h5, h6⟩ := h
  refine ⟨D, s0, j + 1, ?_, hD, ?_, ?_, h2, h3, h4, h5, h6⟩
  · rw [List.append_assoc, ← List.replicate_succ']
  · rw [Nat.add_mul]; omega
  · simp only [Nat.add_mul] at *; omega
theorem CS.done {M Ls : List Nat} {s b a : Nat} (h : CS M Ls s b a) (e : b < s + (a - b)) : NS M (Ls ++ [a - b]) (s + (a - b)) := by
  obtain ⟨D, s0, j, rfl, hD, rfl, h1, h2, h3, h4, h5, h6⟩ := h
  have hl := take_len (M := M) (s := s0) (a := a) (by omega) h3
  have hq : (a - s0) / (a - b) = j + 1 := by
    refine Nat.div_eq_of_lt_le (by omega) ?_
    show a - s0 < (j + 1 + 1) * (a - b)
    simp only [Nat.add_mul] at *; omega
  have hx : M.drop s0 = (M.drop s0).take (a - s0) ++ M.drop a := by
    conv => lhs; rw [← List.take_append_drop (a - s0) (M.drop s0)]
    rw [List.drop_drop, show s0 + (a - s0) = a by omega]
  have hr : ∀ c r', M.drop a = c :: r' → c < ((M.drop s0).take (a - s0)).getD (((M.drop s0).take (a - s0)).length - (a - b)) 0 := fun c r' hc => by
    have ha : a < M.length := by
      have := congrArg List.length hc
      rw [List.length_drop, List.length_cons] at this
      omega
    rw [List.drop_eq_getElem_cons ha] at hc
    have e1 := (List.cons.inj hc).1
    rw [hl, show a - s0 - (a - b) = b - s0 by omega, take_at h6 h2 h3]
    have e2 := h5 ha
    rw [List.getD_eq_getElem?_getD, List.getElem?_eq_getElem ha] at e2
    rw [← e1]
    exact e2
  have hf : D.flatten.length = s0 := by
    have := congrArg List.length hD.flat
    rw [List.length_append, List.length_drop] at this
    omega
  rw [hx] at hD
  have h7 := hD.round h4 hr
  rw [hl, hq] at h7
  have hp : ((M.drop s0).take (a - s0)).take (a - b) = (M.drop s0).take (a - b) := by
    rw [List.take_take, Nat.min_eq_left (by omega)]
  have hpl : ((M.drop s0).take (a - b)).length = a - b := by
    rw [List.length_take, List.length_drop]; omega
  rw [hp] at h7
  refine ⟨D ++ List.replicate (j + 1) ((M.drop s0).take (a - b)), ?_, ?_, ?_⟩
  · rw [List.append_assoc, ← List.replicate_succ', List.map_append, List.map_replicate, hpl]
  · have h8 := h7.flat
    have h9 : (D ++ List.replicate (j + 1) ((M.drop s0).take (a - b))).flatten.length = s0 + j * (a - b) + (a - b) := by
      rw [List.flatten_append, List.length_append, hf, List.length_flatten, List.map_replicate, hpl, List.sum_replicate_nat, Nat.add_mul]
      omega
    have h10 : M.drop (s0 + j * (a - b) + (a - b)) = ((M.drop s0).take (a - b)).take ((a - s0) % (a - b)) ++ M.drop a := by
      conv => lhs; rw [← h8, ← h9]
      exact List.drop_left
    rw [h10]
    exact h7
  · simp only [Nat.add_mul] at h1; omega
/-- A way through is ever less. -/
def duM (n : Nat) (l s a : Nat) : Nat := (n - s) * (2 * n + 4) + (if l = 0 then 2 * n + 3 else if l = 1 then 2 * n + 2 - a else 1)
/-- It is a Lyndon word just if there is one piece. -/
theorem one_piece (M : List Nat) : ((fcP M.length M).map List.length).length = 1 ↔ Lyn M := by
  rw [List.length_map]
  constructor
  · intro h
    obtain ⟨u, hu⟩ := List.length_eq_one_iff.1 h
    have h1 := fcP_flat M.length M (Nat.le_refl _)
    have h2 := fcP_fal M.length M (Nat.le_refl _)
    rw [hu] at h1 h2
    rw [← h1]
    simp only [List.flatten_cons, List.flatten_nil, List.append_nil]
    exact h2
  · intro h
    have h1 : Fal [M] := h
    have := fcP_one h1 (w := M) (by simp)
    rw [← this]; rfl
end Go.Proofs.Ytcjkcgfohmhbcab
