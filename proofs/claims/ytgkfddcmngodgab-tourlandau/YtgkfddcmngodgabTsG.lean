/- The program's lists, each longer by one; the first cycle of them. Nothing of the program. -/
import Derived.Test.YtgkfddcmngodgabTrA
namespace Go.Proofs.Ytgkfddcmngodgab

section
variable {n : Nat} {t : Nat → Nat → Bool}
/-- A cycle of all: all come to all. -/
theorem cyc_strgH {h : Nat} {l : List Nat} (hc : Cyc t h l) (hall : ∀ x, x < n → x ∈ h :: l) (hlt : ∀ x ∈ h :: l, x < n) : Strg n t := by
  intro Z ⟨x, hx, hZx⟩ hcl y hy
  have key : ∀ x ∈ h :: l, Z x → ∀ B, (∃ A, h :: l = A ++ x :: B) → ∀ y ∈ B, Z y := fun x hx hZ B ⟨A, e⟩ => by
    have hch : chn t (x :: B) := chn_right (A := A) (by rw [← e]; exact hc.ch)
    have hm : ∀ y ∈ x :: B, y < n := fun y hy => hlt y (by rw [e]; exact List.mem_append_right _ hy)
    have := chn_on (Z := fun z => z < n → Z z) (t := fun p q => t p q && decide (p < n)) (fun p q hp hpq hq => by
      simp only [Bool.and_eq_true, decide_eq_true_eq] at hpq
      exact hcl p q hpq.2 hq (hp hpq.2) hpq.1) (x := x) (B := B) (by
        have : ∀ (l : List Nat), (∀ y ∈ l, y < n) → chn t l → chn (fun p q => t p q && decide (p < n)) l := by
          intro l
          induction l with
          | nil => intro _ _; trivial
          | cons a l ih =>
            intro hm hc
            cases l with
            | nil => trivial
            | cons b l => exact ⟨(show (t a b && decide (a < n)) = true by rw [hc.1]; simpa using hm a (by simp)), ih (fun y hy => hm y (by simp [hy])) hc.2⟩
        exact this _ hm hch) (fun _ => hZ)
    exact fun y hy => this y hy (hm y (by simp [hy]))
  have hh : Z h := by
    by_cases hl : l = []
    · have := hall x hx
      rw [hl] at this
      simp at this
      rw [← this]
      exact hZx
    · obtain ⟨A, z, e⟩ := last_of (l := h :: l) (by simp)
      have hz : Z z := by
        obtain ⟨C, D, eCD⟩ := List.append_of_mem (hall x hx)
        by_cases hD : D = []
        · rw [hD] at eCD
          have := snoc_inj (eCD.symm.trans e)
          rw [← this.2]
          exact hZx
        · obtain ⟨D', z', ez⟩ := last_of hD
          have k : h :: l = (C ++ x :: D') ++ [z'] := by rw [eCD, ez]; simp
          have := snoc_inj (k.symm.trans e)
          rw [← this.2]
          exact key x (hall x hx) hZx D ⟨C, eCD⟩ z' (by rw [ez]; simp)
      have hzm : z ∈ h :: l := by rw [e]; simp
      exact hcl z h (hlt z hzm) (hlt h (by simp)) hz (hc.back z A e hl)
  have := hall y hy
  rcases List.mem_cons.1 this with rfl | hyl
  · exact hh
  · exact key h (by simp) hh l ⟨[], rfl⟩ y hyl
/-- Who may be next; a list with each next one; the lists, breadth first. -/
def mfB (t : Nat → Nat → Bool) (L : List Nat) (b : Nat) : Bool := decide (L.length = 0) || (t (L.getD (L.length - 1) 0) b && !L.contains b)
def stpK (t : Nat → Nat → Bool) (L : List Nat) (k : Nat) : List (List Nat) := ((List.range k).filter (mfB t L)).map fun b => L ++ [b]
def lgK (n : Nat) (t : Nat → Nat → Bool) (Ls : List (List Nat)) : List (List Nat) := Ls.flatMap fun L => stpK t L n
def bfL (n : Nat) (t : Nat → Nat → Bool) : Nat → List (List Nat)
  | 0 => [[]]
  | k + 1 => lgK n t (bfL n t k)
theorem stpK_more (t : Nat → Nat → Bool) (L : List Nat) (k : Nat) : stpK t L (k + 1) = stpK t L k ++ if mfB t L k then [L ++ [k]] else [] := by
  unfold stpK
  rw [List.range_succ, List.filter_append, List.map_append]
  cases h : mfB t L k with
  | true => rw [List.filter_cons_of_pos h]; rfl
  | false => rw [List.filter_cons_of_neg (by rw [h]; simp)]; rfl
theorem stpK_len (t : Nat → Nat → Bool) (L : List Nat) (k : Nat) : (stpK t L k).length ≤ k := by
  unfold stpK
  rw [List.length_map]
  exact Nat.le_trans (List.length_filter_le _ _) (by simp)
theorem lgK_len {n : Nat} (hn : n ≤ 9) (t : Nat → Nat → Bool) : ∀ Ls : List (List Nat), (lgK n t Ls).length ≤ Ls.length * 9
  | [] => by simp [lgK]
  | L :: Ls => by
    have h1 := stpK_len t L n
    have h2 := lgK_len hn t Ls
    unfold lgK at h2 ⊢
    rw [List.flatMap_cons, List.length_append, List.length_cons, Nat.succ_mul]
    omega
theorem bfL_len (hn : n ≤ 9) : ∀ k, (bfL n t k).length ≤ 9 ^ k
  | 0 => by simp [bfL]
  | k + 1 => by
    have h := lgK_len hn t (bfL n t k)
    have h2 := bfL_len hn k
    show (lgK n t (bfL n t k)).length ≤ _
    rw [Nat.pow_succ]
    omega
theorem nex_is (L : List Nat) (b : Nat) : (L.contains b || (decide (0 < L.length) && !t (L.getD (L.length - 1) 0) b)) = !mfB t L b := by
  unfold mfB
  cases L with
  | nil => rfl
  | cons a L => cases (a :: L).contains b <;> cases t ((a :: L).getD ((a :: L).length - 1) 0) b <;> simp
theorem go_one (L : List Nat) : (List.range n).flatMap (fun b => if L.contains b || (decide (0 < L.length) && !t (L.getD (L.length - 1) 0) b) then [] else [L ++ [b]]) = stpK t L n := by
  have : ∀ l : List Nat, l.flatMap (fun b => if L.contains b || (decide (0 < L.length) && !t (L.getD (L.length - 1) 0) b) then [] else [L ++ [b]]) = (l.filter (mfB t L)).map fun b => L ++ [b] := by
    intro l
    induction l with
    | nil => rfl
    | cons b l ih =>
      rw [List.flatMap_cons, ih, nex_is]
      cases h : mfB t L b with
      | true => rw [List.filter_cons_of_pos h]; rfl
      | false => rw [List.filter_cons_of_neg (by rw [h]; simp)]; rfl
  exact this _
theorem goL_step : ∀ (k : Nat) (L : List Nat), goL n t (k + 1) L = lgK n t (goL n t k L)
  | 0, L => by
    show (List.range n).flatMap (fun b => if L.contains b || (decide (0 < L.length) && !t (L.getD (L.length - 1) 0) b) then [] else [L ++ [b]]) = lgK n t [L]
    rw [go_one]
    unfold lgK
    simp
  | k + 1, L => by
    conv => lhs; unfold goL
    conv => rhs; unfold goL lgK
    rw [List.flatMap_assoc]
    congr 1
    funext b
    split
    · rfl
    · exact goL_step k (L ++ [b])
theorem bfL_go : ∀ k, bfL n t k = goL n t k []
  | 0 => rfl
  | k + 1 => by
    show lgK n t (bfL n t k) = _
    rw [goL_step, bfL_go k]
theorem bfL_each {k : Nat} {M : List Nat} (h : M ∈ bfL n t k) : M.length = k ∧ ∀ x ∈ M, x < n := by
  rw [bfL_go] at h
  obtain ⟨R, rfl, h1, h2⟩ := (mem_goL wlk_nil).1 h
  exact ⟨by simpa using h1, h2.lt⟩
/-- The last beats the first, or is he. -/
def clB (t : Nat → Nat → Bool) (M : List Nat) : Bool := decide (M.length = 1) || t (M.getD (M.length - 1) 0) (M.getD 0 0)
theorem find_head {α : Type} (p : α → Bool) : ∀ l : List α, l.find? p = (l.filter p).head?
  | [] => rfl
  | x :: l => by
    cases h : p x with
    | true => rw [List.find?_cons_of_pos h, List.filter_cons_of_pos h]; rfl
    | false => rw [List.find?_cons_of_neg (by rw [h]; simp), List.filter_cons_of_neg (by rw [h]; simp), find_head p l]
theorem clB_ok (hn : 1 ≤ n) {M : List Nat} (hl : M.length = n) : clB t M = okR n t true M := by
  unfold clB okR
  rw [hl]
  by_cases h : n = 1
  · rw [decide_eq_true h, decide_eq_false (by omega : ¬ 1 < n)]; simp
  · rw [decide_eq_false h, decide_eq_true (by omega : 1 < n)]; simp
theorem filt_same {α : Type} {p q : α → Bool} {l : List α} (h : ∀ x ∈ l, p x = q x) : l.filter p = l.filter q := List.filter_congr h
/-- Any closed path is a cycle of all. -/
theorem clB_strg (hn : 1 ≤ n) {M : List Nat} (hM : M ∈ bfL n t n) (hc : clB t M = true) : Strg n t := by
  rw [bfL_go] at hM
  obtain ⟨hl, hW⟩ := mem_paths.1 hM
  match M, hl with
  | [], hl => simp at hl; omega
  | h :: l, hl =>
    refine cyc_strgH (h := h) (l := l) ⟨hW.nd, hW.ch, fun x A ea hR => ?_⟩ (fun x hx => all_in hl hW hx) hW.lt
    unfold clB at hc
    rw [Bool.or_eq_true, decide_eq_true_eq] at hc
    have hlp := List.length_pos_iff.2 hR
    rcases hc with hc | hc
    · rw [List.length_cons] at hc; omega
    · rw [getD_last ea rfl] at hc
      exact hc
theorem cy_first (hn : 1 ≤ n) (hT : Trn (List.range n) t) : (bfL n t n).find? (clB t) = if cyN n t = 0 then none else some (cyL n t) := by
  by_cases h0 : cyN n t = 0
  · rw [if_pos h0]
    refine List.find?_eq_none.2 fun M hM hc => ?_
    exact (cyN_strg hn hT).2 (clB_strg hn hM hc) h0
  · rw [if_neg h0]
    have e1 : bfL n t n = goL n t (n - 1) [0] ++ (List.range' 1 (n - 1)).flatMap fun b => goL n t (n - 1) [b] := by
      obtain ⟨m, rfl⟩ : ∃ m, n = m + 1 := ⟨n - 1, by omega⟩
      rw [bfL_go]
      conv => lhs; unfold goL
      rw [List.range_eq_range', List.range'_succ, List.flatMap_cons]
      rfl
    have e2 : ∀ M ∈ goL n t (n - 1) [0], clB t M = okR n t true M := fun M hM => clB_ok hn (bfL_each (t := t) (k := n) (by rw [e1]; simp [hM])).1
    rw [e1, List.find?_append, find_head, filt_same e2]
    show ((cyA n t).head?.or _) = _
    rw [cyL_is]
    rw [cyN_is] at h0
    cases h : cyA n t with
    | nil => rw [h] at h0; simp at h0
    | cons M Ms => rfl
theorem pa_first (hn : 1 ≤ n) (hT : Trn (List.range n) t) : (bfL n t n)[0]? = some (paL n t) := by
  have ho := paN_odd hn hT
  rw [paN_is] at ho
  rw [paL_is, bfL_go]
  cases h : goL n t n [] with
  | nil => rw [h] at ho; simp at ho
  | cons M Ms => rfl
theorem pa_count : (bfL n t n).length = paN n t := by rw [paN_is, bfL_go]
end
end Go.Proofs.Ytgkfddcmngodgab
