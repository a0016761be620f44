/- Blocks that cut a set of points, as the program asks for them; nothing of the program. -/
import Derived.Test.YtdeofjmgjhfkcabDoorDCut
import Derived.Test.YtdeofjmgjhfkcabDoorBPure
namespace Go.Proofs.YtdeofjmgjhfkcabDoor

/-- What is done, where a set is left. -/
def dn (L : Nat) : Nat → Bool := fun x => !L.testBit x
theorem dn_add {L : Nat} {b : List Nat} (hL : L < 2 ^ 64) (hb : ∀ x ∈ b, x < 64) : dn (an L (sb b)) = addD (dn L) b := by
  funext x
  show (!(an L (sb b)).testBit x) = (!L.testBit x || b.contains x)
  rw [an_bit hL (sb_lt hb), sb_bit]
  cases L.testBit x <;> cases b.contains x <;> rfl
theorem within_dn {L : Nat} {b : List Nat} (hL : L < 2 ^ 64) (hb : ∀ x ∈ b, x < 64) : an (sb b) L = 0 ↔ ∀ x ∈ b, dn L x = false := by
  rw [an_zero (sb_lt hb) hL]
  unfold dn
  constructor
  · intro h x hx
    rw [h x (by rw [sb_bit]; exact List.contains_iff_mem.2 hx)]; rfl
  · intro h x hx
    rw [sb_bit] at hx
    have := h x (List.contains_iff_mem.1 hx)
    simpa using this
theorem ec_take {v j : Nat} {B : List (List Nat)} {D : Nat → Bool} {sel : Nat → Bool} (h : Ec v B D sel) (hi : j < B.length) (hs : sel j = true) : ccB v B (addD D (B.getD j [])) = true := by
  refine cc_iff.2 ⟨fun i => sel i && i != j, fun i hi' hsi => ?_, fun i k hi' hk hsi hsk hne => ?_, fun y hy => ?_⟩
  · rw [Bool.and_eq_true, bne_iff_ne] at hsi
    exact fitD_add.2 ⟨h.fit i hi' hsi.1, fun y hy => h.dis i j hi' hi hsi.1 hs hsi.2 y hy⟩
  · rw [Bool.and_eq_true] at hsi hsk
    exact h.dis i k hi' hk hsi.1 hsk.1 hne
  · rcases h.all y hy with h1 | ⟨i, hi', hsi, hyi⟩
    · left; unfold addD; rw [h1]; rfl
    · by_cases e : i = j
      · subst e; left; unfold addD; rw [List.contains_iff_mem.2 hyi]; simp
      · exact .inr ⟨i, hi', by rw [hsi]; simpa using e, hyi⟩
/-- No block ahead of i is of use. -/
def NoUse (v : Nat) (B : List (List Nat)) (i : Nat) (D : Nat → Bool) : Prop := ∀ j, j < i → ¬ (fitD D (B.getD j []) = true ∧ ccB v B (addD D (B.getD j [])) = true)
theorem NoUse.zero (v : Nat) (B : List (List Nat)) (D : Nat → Bool) : NoUse v B 0 D := fun j hj => by omega
theorem getD_drop {B : List (List Nat)} (i j : Nat) : (B.drop i).getD j [] = B.getD (i + j) [] := by rw [List.getD_eq_getElem?_getD, List.getD_eq_getElem?_getD, List.getElem?_drop]
theorem cc_drop {v i : Nat} {B : List (List Nat)} {D : Nat → Bool} (h : NoUse v B i D) (hi : i ≤ B.length) : ccB v (B.drop i) D = ccB v B D := by
  rw [Bool.eq_iff_iff]
  constructor
  · intro hc
    obtain ⟨sel, hE⟩ := cc_iff.1 hc
    have hln : (B.drop i).length = B.length - i := List.length_drop
    refine cc_iff.2 ⟨fun j => decide (i ≤ j) && sel (j - i), fun j hj hs => ?_, fun j k hj hk hsj hsk hne x hx => ?_, fun x hx => ?_⟩
    · rw [Bool.and_eq_true, decide_eq_true_eq] at hs
      have := hE.fit (j - i) (by omega) hs.2
      rwa [getD_drop, show i + (j - i) = j by omega] at this
    · rw [Bool.and_eq_true, decide_eq_true_eq] at hsj hsk
      have := hE.dis (j - i) (k - i) (by omega) (by omega) hsj.2 hsk.2 (by omega) x
      rw [getD_drop, getD_drop, show i + (j - i) = j by omega, show i + (k - i) = k by omega] at this
      exact this hx
    · rcases hE.all x hx with h1 | ⟨j, hj, hs, hxj⟩
      · exact .inl h1
      · rw [getD_drop] at hxj
        exact .inr ⟨i + j, by omega, by rw [show i + j - i = j by omega, hs]; simp, hxj⟩
  · intro hc
    obtain ⟨sel, hE⟩ := cc_iff.1 hc
    have hno : ∀ j, j < i → sel j = true → False := fun j hj hs => h j hj ⟨hE.fit j (by omega) hs, ec_take hE (by omega) hs⟩
    have hln : (B.drop i).length = B.length - i := List.length_drop
    refine cc_iff.2 ⟨fun j => sel (i + j), fun j hj hs => ?_, fun j k hj hk hsj hsk hne x hx => ?_, fun x hx => ?_⟩
    · rw [getD_drop]; exact hE.fit (i + j) (by omega) hs
    · rw [getD_drop] at hx ⊢
      exact hE.dis (i + j) (i + k) (by omega) (by omega) hsj hsk (by omega) x hx
    · rcases hE.all x hx with h1 | ⟨j, hj, hs, hxj⟩
      · exact .inl h1
      · rcases Nat.lt_or_ge j i with e | e
        · exact (hno j e hs).elim
        · exact .inr ⟨j - i, by omega, by show sel (i + (j - i)) = true; rw [show i + (j - i) = j by omega]; exact hs, by rw [getD_drop, show i + (j - i) = j by omega]; exact hxj⟩
theorem add_comm' (D : Nat → Bool) (b c : List Nat) : addD (addD D b) c = addD (addD D c) b := by
  funext x
  unfold addD
  cases D x <;> cases b.contains x <;> cases c.contains x <;> rfl
theorem no_fit_self {D : Nat → Bool} {b : List Nat} : fitD (addD D b) b = false := by
  cases h : fitD (addD D b) b with
  | false => rfl
  | true =>
    obtain ⟨h1, h2⟩ := fitD_iff.1 h
    cases b with
    | nil => exact (h1 rfl).elim
    | cons x b =>
      have := h2 x (by simp)
      unfold addD at this
      simp at this
/-- Taken: no block up to it is of use any more. -/
theorem NoUse.take {v i : Nat} {B : List (List Nat)} {D : Nat → Bool} (hB : Bls v B) (h : NoUse v B i D) (hi : i < B.length) (hf : fitD D (B.getD i []) = true) : NoUse v B (i + 1) (addD D (B.getD i [])) := fun j hj ⟨h1, h2⟩ => by
  by_cases e : j = i
  · subst e; rw [no_fit_self] at h1; cases h1
  · obtain ⟨g1, g2⟩ := fitD_add.1 h1
    refine h j (by omega) ⟨g1, ?_⟩
    rw [add_comm'] at h2
    obtain ⟨k1, k2⟩ := fitD_iff.1 hf
    obtain ⟨x, hx⟩ : ∃ x, x ∈ B.getD i [] := List.exists_mem_of_ne_nil _ k1
    have hm : B.getD i [] ∈ B := by rw [List.getD_eq_getElem?_getD, List.getElem?_eq_getElem hi]; exact List.getElem_mem hi
    have hfi : fitD (addD D (B.getD j [])) (B.getD i []) = true := fitD_add.2 ⟨hf, fun y hy hy2 => g2 y hy2 hy⟩
    exact (cc_point (x := x) ((hB _ hm).lt x hx) ((fitD_iff.1 hfi).2 x hx)).2 ⟨i, hi, hx, hfi, h2⟩
theorem NoUse.pass {v i : Nat} {B : List (List Nat)} {D : Nat → Bool} (h : NoUse v B i D) (hn : ¬ (fitD D (B.getD i []) = true ∧ ccB v B (addD D (B.getD i [])) = true)) : NoUse v B (i + 1) D := fun j hj => by
  by_cases e : j = i
  · subst e; exact hn
  · exact h j (by omega)
theorem drop_cons {B : List (List Nat)} {i : Nat} (hi : i < B.length) : B.drop i = B.getD i [] :: B.drop (i + 1) := by
  rw [List.drop_eq_getElem_cons hi, List.getD_eq_getElem?_getD, List.getElem?_eq_getElem hi]; rfl
/-- One step of the program's search. -/
theorem fc_step {v i : Nat} {B : List (List Nat)} {D : Nat → Bool} (hB : Bls v B) (h : NoUse v B i D) (hi : i < B.length) : fcB v (B.drop i) i D = if (fitD D (B.getD i []) && ccB v B (addD D (B.getD i []))) = true then (fcB v (B.drop (i + 1)) (i + 1) (addD D (B.getD i []))).map (i :: ·) else fcB v (B.drop (i + 1)) (i + 1) D := by
  rw [drop_cons hi]
  show (if (fitD D (B.getD i []) && ccB v (B.drop (i + 1)) (addD D (B.getD i []))) = true then _ else _) = _
  cases hf : fitD D (B.getD i []) with
  | false => rfl
  | true => rw [cc_drop (h.take hB hi hf) hi]
theorem fc_full {v : Nat} {D : Nat → Bool} (hD : fullD v D = true) : ∀ {B : List (List Nat)} {i : Nat}, Bls v B → fcB v B i D = some []
  | [], i, _ => by unfold fcB; rw [if_pos hD]
  | b :: B, i, hB => by
    have hn : fitD D b = false := by
      cases h : fitD D b with
      | false => rfl
      | true =>
        obtain ⟨h1, h2⟩ := fitD_iff.1 h
        obtain ⟨x, hx⟩ := List.exists_mem_of_ne_nil _ h1
        have h3 := h2 x hx
        rw [fullD_iff.1 hD x ((hB b (by simp)).lt x hx)] at h3
        cases h3
    show (if (fitD D b && ccB v B (addD D b)) = true then _ else _) = _
    rw [hn]
    exact fc_full hD fun c hc => hB c (by simp [hc])

end Go.Proofs.YtdeofjmgjhfkcabDoor
