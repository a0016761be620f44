/- How many paths: an odd number; the first path, the first cycle. Nothing of the program. -/
import Derived.Test.YtgkfddcmngodgabTrY
import Derived.Test.YtgkfddcmngodgabV3
namespace Go.Proofs.Ytgkfddcmngodgab

theorem sumL_flat {α : Type} (F : Nat → List α) : ∀ S : List Nat, (S.flatMap F).length = sumL (S.map fun x => (F x).length)
  | [] => rfl
  | x :: S => by rw [List.flatMap_cons, List.length_append, sumL_flat F S, List.map_cons, sumL_cons]
theorem sumL_filter (p : Nat → Bool) (g : Nat → Nat) : ∀ S : List Nat, sumL (S.map fun x => if p x then g x else 0) = sumL ((S.filter p).map g)
  | [] => rfl
  | x :: S => by
    rw [List.map_cons, sumL_cons, sumL_filter p g S]
    cases h : p x with
    | true => rw [List.filter_cons_of_pos h, List.map_cons, sumL_cons]; rfl
    | false => rw [List.filter_cons_of_neg (by rw [h]; simp)]; simp
/-- Who is not in the list. -/
def rsL (n : Nat) (L : List Nat) : List Nat := (List.range n).filter fun x => !L.contains x
theorem rsL_nod (n : Nat) (L : List Nat) : (rsL n L).Nodup := List.nodup_range.filter _
theorem rsL_erase (n : Nat) (L : List Nat) (b : Nat) : (rsL n L).erase b = rsL n (L ++ [b]) := by
  rw [(rsL_nod n L).erase_eq_filter]
  unfold rsL
  rw [List.filter_filter]
  refine List.filter_congr fun x _ => ?_
  have e : (L ++ [b]).contains x = (L.contains x || x == b) := by
    rw [Bool.eq_iff_iff, Bool.or_eq_true, List.contains_iff_mem, List.contains_iff_mem, beq_iff_eq, List.mem_append, List.mem_singleton]
  rw [e, Bool.not_or, Bool.and_comm]
  rfl
section
variable {n : Nat} {t : Nat → Nat → Bool}
theorem goL_cn : ∀ {k : Nat} {L : List Nat}, 0 < L.length → (goL n t k L).length = cnN t k (rsL n L) (L.getD (L.length - 1) 0)
  | 0, L, _ => rfl
  | k + 1, L, h0 => by
    have h1 : (goL n t (k + 1) L).length = sumL ((List.range n).map fun b => if !L.contains b then (if t (L.getD (L.length - 1) 0) b then cnN t k (rsL n (L ++ [b])) b else 0) else 0) := by
      conv => lhs; unfold goL
      rw [sumL_flat]
      congr 1
      refine List.map_congr_left fun b _ => ?_
      cases hc : L.contains b with
      | true => rfl
      | false =>
        cases ht : t (L.getD (L.length - 1) 0) b with
        | true =>
          have := goL_cn (k := k) (L := L ++ [b]) (by simp)
          have hd : decide (0 < L.length) = true := decide_eq_true h0
          simp only [hd, Bool.false_or, Bool.true_and, Bool.not_true, Bool.false_eq_true, reduceIte, Bool.not_false]
          rw [this]
          congr 1
          simp
        | false =>
          have hd : decide (0 < L.length) = true := decide_eq_true h0
          simp only [hd, Bool.false_or, Bool.true_and, Bool.not_false, reduceIte, List.length_nil, Bool.false_eq_true]
    rw [h1, sumL_filter]
    show _ = sN (rsL n L) fun b R' => if t (L.getD (L.length - 1) 0) b then cnN t k R' b else 0
    rw [sN_sum _ (rsL_nod n L)]
    congr 1
    refine List.map_congr_left fun b _ => ?_
    rw [rsL_erase]
theorem rsL_one {b : Nat} (_hb : b < n) : rsL n [b] = (List.range n).erase b := by
  have h := rsL_erase n [] b
  rw [List.nil_append] at h
  rw [← h]
  congr 1
  unfold rsL
  exact List.filter_eq_self.2 fun x _ => rfl
theorem goL_cH (hn : 1 ≤ n) : (goL n t n []).length = cH t (List.range n) := by
  obtain ⟨k, rfl⟩ : ∃ k, n = k + 1 := ⟨n - 1, by omega⟩
  have h1 : (goL (k + 1) t (k + 1) []).length = sumL ((List.range (k + 1)).map fun b => cnN t k (rsL (k + 1) [b]) b) := by
    conv => lhs; unfold goL
    rw [sumL_flat]
    congr 1
    refine List.map_congr_left fun b _ => ?_
    have := goL_cn (n := k + 1) (t := t) (k := k) (L := [b]) (by simp)
    simpa using this
  rw [h1]
  unfold cH
  rw [sN_sum _ List.nodup_range]
  congr 1
  refine List.map_congr_left fun b hb => ?_
  have hb := List.mem_range.1 hb
  rw [rsL_one hb, List.length_erase_of_mem (List.mem_range.2 hb), List.length_range]
  rfl
theorem filt_all (L : List (List Nat)) : L.filter (okR n t false) = L := List.filter_eq_self.2 fun _ _ => rfl
theorem paN_is : paN n t = (goL n t n []).length := by unfold paN; rw [wk_is, filt_all]
theorem paL_is : paL n t = (goL n t n []).headD [] := by unfold paL; rw [wk_is, filt_all]
theorem wlk_nil : Wlk n t [] := ⟨List.nodup_nil, by simp, trivial⟩
/-- All paths. -/
theorem mem_paths {M : List Nat} : M ∈ goL n t n [] ↔ M.length = n ∧ Wlk n t M := by
  rw [mem_goL wlk_nil]
  constructor
  · rintro ⟨R, rfl, h1, h2⟩
    exact ⟨by simpa using h1, h2⟩
  · rintro ⟨h1, h2⟩
    exact ⟨M, by simp, h1, h2⟩
theorem paN_odd (hn : 1 ≤ n) (h : Trn (List.range n) t) : paN n t % 2 = 1 := by rw [paN_is, goL_cH hn, odd_paths hn h]
/-- The first of them is one. -/
theorem paL_mem (hn : 1 ≤ n) (h : Trn (List.range n) t) : (paL n t).length = n ∧ Wlk n t (paL n t) := by
  have ho := paN_odd hn h
  rw [paN_is] at ho
  rw [paL_is]
  cases he : goL n t n [] with
  | nil => rw [he] at ho; simp at ho
  | cons M Ms => exact mem_paths.1 (by rw [he]; simp)
theorem chn_at : ∀ {M : List Nat} {i : Nat}, chn t M → i + 1 < M.length → t (M.getD i 0) (M.getD (i + 1) 0) = true
  | x :: y :: M, 0, h, _ => h.1
  | x :: y :: M, i + 1, h, hi => chn_at (M := y :: M) h.2 (by simpa using hi)
  | [], _, _, hi => by simp at hi
  | [x], _, _, hi => by simp at hi
end
end Go.Proofs.Ytgkfddcmngodgab
