/- What the kings' law asks. Nothing of the program. -/
import Derived.Test.YtgkfddcmngodgaaU6
namespace Go.Proofs.Ytgkfddcmngodgaa

/-- The greatest of the first ones. -/
def mxF (S : List Nat) : Nat → Nat
  | 0 => 0
  | i + 1 => if mxF S i < S.getD i 0 then S.getD i 0 else mxF S i
theorem mxF_ge {S : List Nat} : ∀ {i j : Nat}, j < i → S.getD j 0 ≤ mxF S i
  | i + 1, j, h => by
    unfold mxF
    by_cases e : j = i
    · subst e; split <;> omega
    · have := mxF_ge (S := S) (i := i) (j := j) (by omega)
      split <;> omega
theorem mxF_at {S : List Nat} : ∀ i : Nat, mxF S i = 0 ∨ ∃ j, j < i ∧ S.getD j 0 = mxF S i
  | 0 => .inl rfl
  | i + 1 => by
    unfold mxF
    split
    · exact .inr ⟨i, by omega, rfl⟩
    · rcases mxF_at (S := S) i with h | ⟨j, hj, h⟩
      · exact .inl h
      · exact .inr ⟨j, by omega, h⟩
theorem mxF_bd {S : List Nat} {m : Nat} (h : ∀ j, S.getD j 0 ≤ m) : ∀ i, mxF S i ≤ m
  | 0 => Nat.zero_le _
  | i + 1 => by
    unfold mxF
    split
    · exact h i
    · exact mxF_bd h i
section
variable {n : Nat} {l : List Int}
theorem kgL_nod (n : Nat) (t : Nat → Nat → Bool) (k : Nat) : (kgL n t k).Nodup := List.nodup_range.filter _
theorem GoodT.score (hg : GoodT n l) {b : Nat} (hb : b < n) : (List.range n).countP (tB n l b) ≤ n - 1 := by
  rw [List.countP_eq_length_filter]
  have h := nodT_len (l := (List.range n).filter (tB n l b)) (m := (List.range n).erase b) (List.nodup_range.filter _) fun x hx => by
    obtain ⟨h1, h2⟩ := List.mem_filter.1 hx
    exact (List.mem_erase_of_ne fun e => by rw [e, hg.irr b hb] at h2; cases h2).2 h1
  rwa [List.length_erase_of_mem (List.mem_range.2 hb), List.length_range] at h
theorem GoodT.max_king (hg : GoodT n l) {i : Nat} (hi : i < n) (h : (scT (tB n l) n).getD i 0 = mxF (scT (tB n l) n) n) : i ∈ kgL n (tB n l) n := by
  refine mem_kgL.2 ⟨hi, score_king hg.trn hg.irr hi fun b hb => ?_⟩
  rw [← scT_at hb, ← scT_at hi, h]
  exact mxF_ge hb
theorem GoodT.has_king (hg : GoodT n l) : ∃ i, i < n ∧ i ∈ kgL n (tB n l) n := by
  have hn := hg.one
  rcases mxF_at (S := scT (tB n l) n) n with h | ⟨j, hj, h⟩
  · refine ⟨0, by omega, hg.max_king (by omega) ?_⟩
    have := mxF_ge (S := scT (tB n l) n) (i := n) (j := 0) (by omega)
    omega
  · exact ⟨j, hj, hg.max_king hj h⟩
theorem GoodT.kings (hg : GoodT n l) : (kgL n (tB n l) n).length ≠ 0 ∧ (kgL n (tB n l) n).length ≠ 2 ∧ (1 < (kgL n (tB n l) n).length ∨ mxF (scT (tB n l) n) n = n - 1) := by
  have hn := hg.one
  obtain ⟨i0, hi0, hk0⟩ := hg.has_king
  have h0 : (kgL n (tB n l) n).length ≠ 0 := fun e => by rw [List.length_eq_zero_iff.1 e] at hk0; simp at hk0
  refine ⟨h0, fun h2 => ?_, ?_⟩
  · match hK : kgL n (tB n l) n, h2 with
    | [a, b], _ =>
      have hnd := kgL_nod n (tB n l) n
      rw [hK] at hnd
      have hab : a ≠ b := by simpa using hnd
      have ka := mem_kgL.1 (show a ∈ kgL n (tB n l) n by rw [hK]; simp)
      have kb := mem_kgL.1 (show b ∈ kgL n (tB n l) n by rw [hK]; simp)
      obtain ⟨c, hc, hca, hcb, hkc⟩ := two_kings hg.trn hg.irr ka.1 kb.1 hab ka.2 kb.2
      have := mem_kgL.2 ⟨hc, hkc⟩
      rw [hK] at this
      simp at this
      omega
  · by_cases h1 : 1 < (kgL n (tB n l) n).length
    · exact .inl h1
    · refine .inr ?_
      have hone : (kgL n (tB n l) n).length = 1 := by omega
      have hall : ∀ c, c < n → Kng n (tB n l) c → c = i0 := fun c hc hk => by
        have hm := mem_kgL.2 ⟨hc, hk⟩
        match hK : kgL n (tB n l) n, hone with
        | [a], _ =>
          rw [hK] at hm hk0
          rw [List.mem_singleton] at hm hk0
          rw [hm, hk0]
      have hbeat := one_king hg.trn hg.irr hi0 hall
      have hs : (List.range n).countP (tB n l i0) = n - 1 := by
        rw [List.countP_eq_length_filter, show (List.range n).filter (tB n l i0) = (List.range n).erase i0 from by
          rw [List.nodup_range.erase_eq_filter]
          refine List.filter_congr fun x hx => ?_
          by_cases e : x = i0
          · subst e; rw [hg.irr x hi0]; simp
          · rw [hbeat x (List.mem_range.1 hx) e]; simp [e], List.length_erase_of_mem (List.mem_range.2 hi0), List.length_range]
      have h1 := mxF_ge (S := scT (tB n l) n) hi0
      rw [scT_at hi0, hs] at h1
      have h2 := mxF_bd (S := scT (tB n l) n) (m := n - 1) (fun j => by
        by_cases hj : j < n
        · rw [scT_at hj]; exact hg.score hj
        · rw [List.getD_eq_getElem?_getD, List.getElem?_eq_none (by rw [scT_len]; omega)]; exact Nat.zero_le _) n
      omega
end
end Go.Proofs.Ytgkfddcmngodgaa
