/- Paths counted by twos: a relation and its contrary have as many, but for twos. Nothing of the program. -/
namespace Go.Proofs.Ytgkfddcmngodgab

/-- Sums, by twos, over the ways to part a list; over the ways to pick one of it. -/
def sS : List Nat → (List Nat → List Nat → Bool) → Bool
  | [], f => f [] []
  | x :: xs, f => sS xs (fun B C => f (x :: B) C) ^^ sS xs (fun B C => f B (x :: C))
def sP : List Nat → (Nat → List Nat → Bool) → Bool
  | [], _ => false
  | x :: xs, f => f x xs ^^ sP xs (fun b R => f b (x :: R))
theorem sS_add : ∀ (S : List Nat) (f g : List Nat → List Nat → Bool), sS S (fun B C => f B C ^^ g B C) = (sS S f ^^ sS S g)
  | [], f, g => rfl
  | x :: xs, f, g => by
    show (sS xs (fun B C => f (x :: B) C ^^ g (x :: B) C) ^^ sS xs (fun B C => f B (x :: C) ^^ g B (x :: C))) = ((sS xs (fun B C => f (x :: B) C) ^^ sS xs (fun B C => f B (x :: C))) ^^ (sS xs (fun B C => g (x :: B) C) ^^ sS xs (fun B C => g B (x :: C))))
    rw [sS_add xs, sS_add xs]
    cases sS xs (fun B C => f (x :: B) C) <;> cases sS xs (fun B C => f B (x :: C)) <;> cases sS xs (fun B C => g (x :: B) C) <;> cases sS xs (fun B C => g B (x :: C)) <;> rfl
theorem sP_add : ∀ (S : List Nat) (f g : Nat → List Nat → Bool), sP S (fun b R => f b R ^^ g b R) = (sP S f ^^ sP S g)
  | [], f, g => rfl
  | x :: xs, f, g => by
    show ((f x xs ^^ g x xs) ^^ sP xs (fun b R => f b (x :: R) ^^ g b (x :: R))) = ((f x xs ^^ sP xs (fun b R => f b (x :: R))) ^^ (g x xs ^^ sP xs (fun b R => g b (x :: R))))
    rw [sP_add xs]
    cases f x xs <;> cases g x xs <;> cases sP xs (fun b R => f b (x :: R)) <;> cases sP xs (fun b R => g b (x :: R)) <;> rfl
theorem sP_false : ∀ S : List Nat, sP S (fun _ _ => false) = false
  | [] => rfl
  | _ :: xs => by
    show (false ^^ sP xs (fun _ _ => false)) = false
    rw [sP_false xs]
    rfl
theorem sS_false : ∀ S : List Nat, sS S (fun _ _ => false) = false
  | [] => rfl
  | _ :: xs => by
    show (sS xs (fun _ _ => false) ^^ sS xs (fun _ _ => false)) = false
    rw [sS_false xs]
    rfl
theorem sP_and (S : List Nat) (f : Nat → List Nat → Bool) (c : Bool) : sP S (fun b R => f b R && c) = (sP S f && c) := by
  cases c with
  | true => simp
  | false => simp [sP_false]
/-- A part, and one picked of it: one picked, and what is left parted. -/
theorem sS_sP : ∀ (T : List Nat) (g : Nat → List Nat → List Nat → Bool), sS T (fun B C => sP B (fun b B' => g b B' C)) = sP T (fun b T' => sS T' (fun B' C => g b B' C))
  | [], _ => rfl
  | x :: xs, g => by
    show (sS xs (fun B C => g x B C ^^ sP B (fun b B' => g b (x :: B') C)) ^^ sS xs (fun B C => sP B (fun b B' => g b B' (x :: C)))) = (sS xs (fun B C => g x B C) ^^ sP xs (fun b R => sS R (fun B C => g b (x :: B) C) ^^ sS R (fun B C => g b B (x :: C))))
    rw [sS_add, sP_add, sS_sP xs (fun b B' C => g b (x :: B') C), sS_sP xs (fun b B' C => g b B' (x :: C))]
    cases sS xs (fun B C => g x B C) <;> cases sP xs (fun b T' => sS T' (fun B' C => g b (x :: B') C)) <;> cases sP xs (fun b T' => sS T' (fun B' C => g b B' (x :: C))) <;> rfl
theorem sS_swap : ∀ (S : List Nat) (f : List Nat → List Nat → Bool), sS S f = sS S (fun B C => f C B)
  | [], _ => rfl
  | x :: xs, f => by
    show (sS xs (fun B C => f (x :: B) C) ^^ sS xs (fun B C => f B (x :: C))) = (sS xs (fun B C => f C (x :: B)) ^^ sS xs (fun B C => f (x :: C) B))
    rw [sS_swap xs (fun B C => f (x :: B) C), sS_swap xs (fun B C => f B (x :: C)), Bool.xor_comm]
/-- What is the same both ways round sums up to nothing. -/
theorem sS_symm : ∀ (S : List Nat) (f : List Nat → List Nat → Bool), (∀ B C, f B C = f C B) → f [] [] = false → sS S f = false
  | [], _, _, h0 => h0
  | x :: xs, f, h, _ => by
    show (sS xs (fun B C => f (x :: B) C) ^^ sS xs (fun B C => f B (x :: C))) = false
    have e : sS xs (fun B C => f B (x :: C)) = sS xs (fun B C => f (x :: B) C) := by
      rw [sS_swap xs (fun B C => f B (x :: C))]
      congr 1
      funext B C
      exact h C (x :: B)
    rw [e, Bool.xor_self]
def nilB : List Nat → Bool
  | [] => true
  | _ => false
/-- Where the other part is nothing, the part is all. -/
theorem sS_nil : ∀ (S : List Nat) (f : List Nat → Bool), sS S (fun B C => f B && nilB C) = f S
  | [], f => by simp [sS, nilB]
  | x :: xs, f => by
    show (sS xs (fun B C => f (x :: B) && nilB C) ^^ sS xs (fun B C => f B && nilB (x :: C))) = f (x :: xs)
    rw [sS_nil xs (fun B => f (x :: B))]
    have e : sS xs (fun B C => f B && nilB (x :: C)) = false := by
      refine Eq.trans ?_ (sS_false xs)
      congr 1
      funext B C
      show (f B && false) = false
      simp
    rw [e]
    simp
theorem sS_nil' (S : List Nat) (f : List Nat → Bool) : sS S (fun B C => nilB B && f C) = f S := by
  rw [sS_swap]
  refine Eq.trans ?_ (sS_nil S f)
  congr 1
  funext B C
  exact Bool.and_comm _ _
/-- Paths from a through all of a list, by twos. -/
def pfN (d : Nat → Nat → Bool) : Nat → List Nat → Nat → Bool
  | 0, _, _ => true
  | k + 1, R, a => sP R fun b R' => d a b && pfN d k R' b
def pf (d : Nat → Nat → Bool) (R : List Nat) (a : Nat) : Bool := pfN d R.length R a
theorem sP_congr : ∀ {S : List Nat} {f g : Nat → List Nat → Bool}, (∀ b R, R.length + 1 = S.length → (∀ x, x ∈ S ↔ x = b ∨ x ∈ R) → f b R = g b R) → sP S f = sP S g
  | [], _, _, _ => rfl
  | x :: xs, f, g, h => by
    show (f x xs ^^ sP xs (fun b R => f b (x :: R))) = (g x xs ^^ sP xs (fun b R => g b (x :: R)))
    rw [h x xs rfl (fun y => by simp), sP_congr (S := xs) (f := fun b R => f b (x :: R)) (g := fun b R => g b (x :: R)) fun b R hl hm => h b (x :: R) (by simp; omega) fun y => by
      have := hm y
      simp only [List.mem_cons] at this ⊢
      constructor
      · rintro (e | e)
        · exact .inr (.inl e)
        · rcases this.1 e with e | e
          · exact .inl e
          · exact .inr (.inr e)
      · rintro (e | e | e)
        · exact .inr (this.2 (.inl e))
        · exact .inl e
        · exact .inr (this.2 (.inr e))]
theorem pf_nil (d : Nat → Nat → Bool) (a : Nat) : pf d [] a = true := rfl
theorem pf_cons (d : Nat → Nat → Bool) {R : List Nat} (h : R ≠ []) (a : Nat) : pf d R a = sP R fun b R' => d a b && pf d R' b := by
  cases R with
  | nil => exact absurd rfl h
  | cons x xs =>
    show sP (x :: xs) (fun b R' => d a b && pfN d xs.length R' b) = _
    refine sP_congr fun b R hl _ => ?_
    have : R.length = xs.length := by simp at hl; exact hl
    show (d a b && pfN d xs.length R b) = (d a b && pfN d R.length R b)
    rw [this]
theorem pf_step (d : Nat → Nat → Bool) (R : List Nat) (a : Nat) : pf d R a = (nilB R ^^ sP R fun b R' => d a b && pf d R' b) := by
  cases R with
  | nil => rfl
  | cons x xs =>
    rw [pf_cons d (by simp)]
    show _ = (false ^^ _)
    simp
/-- Paths through all of a list, by twos. -/
def pH (d : Nat → Nat → Bool) (S : List Nat) : Bool := sP S fun a R => pf d R a
def pK (d : Nat → Nat → Bool) (S : List Nat) : Bool := nilB S ^^ pH d S
theorem pK_ne (d : Nat → Nat → Bool) {S : List Nat} (h : S ≠ []) : pK d S = pH d S := by
  cases S with
  | nil => exact absurd rfl h
  | cons x xs => show (false ^^ _) = _; simp
/-- A path ahead, and what is left as one path, or nothing. -/
def pKa (d : Nat → Nat → Bool) (T : List Nat) (a : Nat) : Bool := sS T fun B C => pf d B a && pK d C
theorem pKa_sum (d : Nat → Nat → Bool) (S : List Nat) : sP S (fun a R => pKa d R a) = pH d S := by
  unfold pKa
  rw [← sS_sP S (fun a B C => pf d B a && pK d C)]
  have e : sS S (fun B C => sP B (fun b B' => pf d B' b && pK d C)) = sS S (fun B C => (pH d B && nilB C) ^^ (pH d B && pH d C)) := by
    congr 1
    funext B C
    rw [sP_and B (fun b B' => pf d B' b) (pK d C)]
    show (pH d B && (nilB C ^^ pH d C)) = _
    cases pH d B <;> simp
  rw [e, sS_add, sS_nil S (pH d), sS_symm S (fun B C => pH d B && pH d C) (fun B C => Bool.and_comm _ _) rfl]
  simp
theorem pKa_step (d : Nat → Nat → Bool) {T : List Nat} (h : T ≠ []) (a : Nat) : pKa d T a = sP T fun b T' => !d a b && pKa d T' b := by
  have e1 : pKa d T a = (pK d T ^^ sP T fun b T' => d a b && pKa d T' b) := by
    unfold pKa
    have e : sS T (fun B C => pf d B a && pK d C) = sS T (fun B C => (nilB B && pK d C) ^^ sP B (fun b B' => d a b && (pf d B' b && pK d C))) := by
      congr 1
      funext B C
      rw [pf_step d B a]
      have e2 : sP B (fun b B' => d a b && (pf d B' b && pK d C)) = (sP B (fun b B' => d a b && pf d B' b) && pK d C) := by
        rw [← sP_and]
        congr 1
        funext b B'
        rw [Bool.and_assoc]
      rw [e2]
      cases nilB B <;> cases sP B (fun b B' => d a b && pf d B' b) <;> cases pK d C <;> rfl
    rw [e, sS_add, sS_nil' T (pK d), sS_sP T (fun b B' C => d a b && (pf d B' b && pK d C))]
    congr 2
    funext b T'
    cases d a b with
    | true => simp
    | false => simp [sS_false]
  rw [e1, pK_ne d h, ← pKa_sum d T, ← sP_add]
  congr 1
  funext b T'
  cases d a b <;> cases pKa d T' b <;> rfl
theorem pKa_nil (d : Nat → Nat → Bool) (a : Nat) : pKa d [] a = true := by
  show (pf d [] a && pK d []) = true
  rfl
theorem pKa_is (d : Nat → Nat → Bool) : ∀ (m : Nat) (T : List Nat) (a : Nat), T.length = m → pKa d T a = pf (fun x y => !d x y) T a
  | 0, T, a, h => by
    obtain rfl := List.length_eq_zero_iff.1 h
    rw [pKa_nil, pf_nil]
  | m + 1, T, a, h => by
    have hT : T ≠ [] := fun e => by rw [e] at h; simp at h
    rw [pKa_step d hT, pf_cons _ hT]
    refine sP_congr fun b R hl _ => ?_
    rw [pKa_is d m R b (by omega)]
/-- A relation and its contrary: as many paths, but for twos. -/
theorem pH_not (d : Nat → Nat → Bool) (S : List Nat) : pH (fun x y => !d x y) S = pH d S := by
  rw [← pKa_sum d S]
  unfold pH
  congr 1
  funext a R
  exact (pKa_is d R.length R a rfl).symm
end Go.Proofs.Ytgkfddcmngodgab
