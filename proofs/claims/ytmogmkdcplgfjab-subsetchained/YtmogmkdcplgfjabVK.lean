/- Chains, looked at by the kernel. -/
import Derived.Test.YtmogmkdcplgfjabVE
namespace Go.Proofs.Ytmogmkdcplgfjab
open Go.RowKit

def nd : List Nat → Nat → Bool
  | [], _ => true
  | x :: l, S => match Nat.beq (Nat.mod (Nat.shiftRight S x) 2) 0 with
    | true => nd l (Nat.lor S (Nat.shiftLeft 1 x))
    | false => false
theorem nd_bit (S x : Nat) : Nat.beq (Nat.mod (Nat.shiftRight S x) 2) 0 = !S.testBit x := by
  have e : Nat.mod (Nat.shiftRight S x) 2 = S / 2 ^ x % 2 := by
    show (S >>> x) % 2 = _
    rw [Nat.shiftRight_eq_div_pow]
  rw [e, Nat.testBit_eq_decide_div_mod_eq]
  rcases Nat.mod_two_eq_zero_or_one (S / 2 ^ x) with h | h <;> rw [h] <;> rfl
theorem nd_is : ∀ {l : List Nat} {S : Nat}, nd l S = true → (∀ x ∈ l, S.testBit x = false) ∧ l.Nodup
  | [], _, _ => ⟨fun x h => (by cases h), List.nodup_nil⟩
  | x :: l, S, h => by
    unfold nd at h
    rw [nd_bit] at h
    cases e : S.testBit x with
    | true => rw [e] at h; cases h
    | false =>
      rw [e] at h
      obtain ⟨h1, h2⟩ := nd_is (h : nd l (S ||| 1 <<< x) = true)
      have key : ∀ y ∈ l, S.testBit y = false ∧ y ≠ x := fun y hy => by
        have this : (S ||| 1 <<< x).testBit y = false := h1 y hy
        rw [Nat.testBit_or, Bool.or_eq_false_iff] at this
        refine ⟨this.1, fun e => ?_⟩
        subst e
        have h3 := this.2
        rw [Nat.one_shiftLeft, Nat.testBit_two_pow] at h3
        simp at h3
      refine ⟨fun y hy => ?_, List.nodup_cons.2 ⟨fun hx => (key x hx).2 rfl, h2⟩⟩
      rcases List.mem_cons.1 hy with rfl | hy
      · exact e
      · exact (key y hy).1
def rowOk (n : Nat) (R : List Nat) : Bool := decide (0 < R.length) && (thF 12 (R.getD 0 0) + thF 12 (R.getD (R.length - 1) 0) == n) && (List.range R.length).all fun j => decide (R.getD j 0 < 2 ^ n) && (j == 0 || ((R.getD j 0 &&& R.getD (j - 1) 0 == R.getD (j - 1) 0) && thF 12 (R.getD j 0) == thF 12 (R.getD (j - 1) 0) + 1))
def chkC (n : Nat) (C : List (List Nat)) : Bool := C.all (rowOk n) && (nd C.flatten 0 && (C.length == chs n (n / 2) && C.flatten.length == 2 ^ n))
set_option maxRecDepth 100000 in
theorem chk_all : (List.range 11).all (fun n => chkC n (cnR n (2 ^ n))) = true := by decide +kernel
/-- What lies ahead of a place. -/
def pre (C : List (List Nat)) (i j : Nat) : List Nat := (C.take i).flatten ++ (C.getD i []).take j
theorem pre_next {C : List (List Nat)} {i : Nat} (hi : i < C.length) : pre C i (C.getD i []).length = pre C (i + 1) 0 := by
  unfold pre
  rw [List.take_of_length_le (Nat.le_refl _), List.take_zero, List.append_nil, List.take_add_one, List.getElem?_eq_getElem hi, List.flatten_append, List.getD_eq_getElem?_getD, List.getElem?_eq_getElem hi]
  simp
theorem pre_more {C : List (List Nat)} {i j : Nat} (hj : j < (C.getD i []).length) : pre C i (j + 1) = pre C i j ++ [(C.getD i []).getD j 0] := by
  unfold pre
  rw [List.take_add_one, List.getElem?_eq_getElem hj, List.append_assoc, List.getD_eq_getElem?_getD (l := C.getD i []), List.getElem?_eq_getElem hj]
  rfl
theorem pre_all (C : List (List Nat)) : pre C C.length 0 = C.flatten := by
  unfold pre
  rw [List.take_zero, List.append_nil, List.take_of_length_le (Nat.le_refl _)]
theorem pre_part {C : List (List Nat)} {i j : Nat} (hi : i < C.length) : ∃ r, C.flatten = pre C i (j + 1) ++ r := by
  have e1 : C = C.take i ++ C.getD i [] :: C.drop (i + 1) := by
    conv => lhs; rw [← List.take_append_drop i C]
    rw [List.drop_eq_getElem_cons hi, List.getD_eq_getElem?_getD, List.getElem?_eq_getElem hi]
    rfl
  refine ⟨(C.getD i []).drop (j + 1) ++ (C.drop (i + 1)).flatten, ?_⟩
  unfold pre
  conv => lhs; rw [e1, List.flatten_append, List.flatten_cons]
  rw [List.append_assoc, ← List.append_assoc ((C.getD i []).take (j + 1)), List.take_append_drop]
def mmC (C : List (List Nat)) (i j : Nat) : Nat → Bool := fun s => decide (s ∈ pre C i j)
theorem mm_set {C : List (List Nat)} {i j : Nat} (hj : j < (C.getD i []).length) : updV (mmC C i j) ((C.getD i []).getD j 0) true = mmC C i (j + 1) := by
  funext s
  unfold updV mmC
  rw [pre_more hj]
  by_cases e : s = (C.getD i []).getD j 0
  · rw [if_pos e, e]
    exact (decide_eq_true (List.mem_append_right _ (List.mem_singleton.2 rfl))).symm
  · rw [if_neg e]
    rw [Bool.eq_iff_iff]
    simp only [decide_eq_true_eq, List.mem_append, List.mem_singleton]
    exact ⟨.inl, fun h => h.resolve_right e⟩
theorem mm_new {C : List (List Nat)} (hn : C.flatten.Nodup) {i j : Nat} (hi : i < C.length) (hj : j < (C.getD i []).length) : mmC C i j ((C.getD i []).getD j 0) = false := by
  obtain ⟨r, hr⟩ := pre_part (j := j) hi
  rw [hr, pre_more hj] at hn
  have h1 := (List.nodup_append.1 hn).1
  have h2 := (List.nodup_append.1 h1).2.2
  exact decide_eq_false fun h => h2 _ h _ (List.mem_singleton.2 rfl) rfl
/-- All that is asked of chains. -/
theorem chain_facts {n : Nat} (hn : n ≤ 10) : (cnR n (2 ^ n)).length = chs n (n / 2) ∧ (cnR n (2 ^ n)).flatten.length = 2 ^ n ∧ (cnR n (2 ^ n)).flatten.Nodup ∧ ∀ i, i < (cnR n (2 ^ n)).length → 0 < ((cnR n (2 ^ n)).getD i []).length ∧ thF 12 (((cnR n (2 ^ n)).getD i []).getD 0 0) + thF 12 (((cnR n (2 ^ n)).getD i []).getD (((cnR n (2 ^ n)).getD i []).length - 1) 0) = n ∧ ∀ j, j < ((cnR n (2 ^ n)).getD i []).length → ((cnR n (2 ^ n)).getD i []).getD j 0 < 2 ^ n ∧ (0 < j → ((cnR n (2 ^ n)).getD i []).getD j 0 &&& ((cnR n (2 ^ n)).getD i []).getD (j - 1) 0 = ((cnR n (2 ^ n)).getD i []).getD (j - 1) 0 ∧ thF 12 (((cnR n (2 ^ n)).getD i []).getD j 0) = thF 12 (((cnR n (2 ^ n)).getD i []).getD (j - 1) 0) + 1) := by
  have h := List.all_eq_true.1 chk_all n (List.mem_range.2 (by omega))
  generalize cnR n (2 ^ n) = C at h ⊢
  unfold chkC at h
  simp only [Bool.and_eq_true] at h
  obtain ⟨h1, h2, h3, h4⟩ := h
  refine ⟨eq_of_beq h3, eq_of_beq h4, (nd_is h2).2, fun i hi => ?_⟩
  have hr := List.all_eq_true.1 h1 (C.getD i []) (by
    rw [List.getD_eq_getElem?_getD, List.getElem?_eq_getElem hi]
    exact List.getElem_mem hi)
  generalize C.getD i [] = R at hr ⊢
  unfold rowOk at hr
  simp only [Bool.and_eq_true] at hr
  obtain ⟨⟨a, b⟩, c⟩ := hr
  refine ⟨of_decide_eq_true a, eq_of_beq b, fun j hj => ?_⟩
  have := List.all_eq_true.1 c j (List.mem_range.2 hj)
  simp only [Bool.and_eq_true, Bool.or_eq_true] at this
  refine ⟨of_decide_eq_true this.1, fun h0 => ?_⟩
  rcases this.2 with e | e
  · have := eq_of_beq e; omega
  · exact ⟨eq_of_beq e.1, eq_of_beq e.2⟩
end Go.Proofs.Ytmogmkdcplgfjab
