/- Texts of permutations: both ways of reading lead back; nothing of the program. -/
import Derived.Test.YteocfkkdjejgdaaDoorPTxt
import Derived.Lib.Fields
import Derived.Lib.SpaceU
namespace Go.Proofs.YteocfkkdjejgdaaDoor

/-! ### cutting at closing brackets -/
theorem index_at : ∀ (a r : List UInt8), 41 ∉ a → Lib.index (a ++ 41 :: r) [41] = a.length
  | [], r, _ => by simp [Lib.index]
  | b :: a, r, h => by
    have h1 : b ≠ 41 := fun e => h (by simp [e])
    have h2 := index_at a r (fun e => h (by simp [e]))
    have h3 : ([41] : List UInt8).isPrefixOf (b :: (a ++ 41 :: r)) = false := by
      simp [List.isPrefixOf, Ne.symm h1]
    rw [List.cons_append, Lib.index, h3, if_neg (by simp), h2, if_neg (by simp), List.length_cons]
    omega
theorem index_no : ∀ (a : List UInt8), 41 ∉ a → Lib.index a [41] = -1
  | [], _ => by simp [Lib.index]
  | b :: a, h => by
    have h1 : b ≠ 41 := fun e => h (by simp [e])
    have h2 := index_no a (fun e => h (by simp [e]))
    have h3 : ([41] : List UInt8).isPrefixOf (b :: a) = false := by
      simp [List.isPrefixOf, Ne.symm h1]
    rw [Lib.index, h3, if_neg (by simp), h2]; rfl
theorem split_more (a r : List UInt8) (h : 41 ∉ a) : Lib.split (a ++ 41 :: r) [41] = a :: Lib.split r [41] := by
  unfold Lib.split
  have hi := index_at a r h
  have hc : Lib.count (a ++ 41 :: r) [41] = Lib.count r [41] + 1 := by
    rw [Lib.count_one, Lib.count_one, List.count_append, List.count_cons_self, List.count_eq_zero.2 h]; omega
  rw [hc, Lib.splitK, hi, if_neg (by simp)]
  simp
theorem split_last (a : List UInt8) (h : 41 ∉ a) : Lib.split a [41] = [a] := by
  unfold Lib.split
  have hc : Lib.count a [41] = 0 := by rw [Lib.count_one, List.count_eq_zero.2 h]
  rw [hc]; rfl
theorem joinS_no {c : List Nat} (h : ∀ x ∈ c, x < 12) : 41 ∉ (40 :: joinS c : List UInt8) := by
  intro e
  rcases List.mem_cons.1 e with e | e
  · exact absurd e (by decide)
  · exact (joinS_mem c h _ e).1 rfl
theorem split_cycs : ∀ cs : List (List Nat), (∀ c ∈ cs, ∀ x ∈ c, x < 12) → Lib.split (cs.flatMap cycT) [41] = cs.map (fun c => 40 :: joinS c) ++ [[]]
  | [], _ => split_last [] (by simp)
  | c :: cs, h => by
    have e : (c :: cs).flatMap cycT = (40 :: joinS c) ++ 41 :: cs.flatMap cycT := by simp [cycT]
    rw [e, split_more _ _ (joinS_no (h c (by simp))), split_cycs cs (fun c hc => h c (by simp [hc]))]; rfl

/-! ### words -/
theorem fieldsGo_word : ∀ (w cur r : List UInt8), (∀ b ∈ w, Lib.isSp b = false) → Lib.fieldsGo cur (w ++ r) = Lib.fieldsGo (cur ++ w) r
  | [], cur, r, _ => by simp
  | b :: w, cur, r, h => by
    rw [List.cons_append, Lib.fieldsGo, if_neg (by rw [h b (by simp)]; simp), fieldsGo_word w (cur ++ [b]) r (fun x hx => h x (by simp [hx]))]
    simp
theorem fields_joinS : ∀ c : List Nat, (∀ x ∈ c, x < 12) → Lib.fields (joinS c) = c.map dec
  | [], _ => rfl
  | [x], h => by
    have hx := h x (by simp)
    rw [joinS_one]
    unfold Lib.fields
    have := fieldsGo_word (dec x) [] [] (fun b hb => (dec_mem hx b hb).1)
    rw [List.append_nil, List.nil_append] at this
    rw [this, Lib.fieldsGo]
    have hne : (dec x).isEmpty = false := by cases hd : dec x with | nil => exact absurd hd (dec_ne hx) | cons => rfl
    rw [hne]; rfl
  | x :: y :: l, h => by
    have hx := h x (by simp)
    have ih := fields_joinS (y :: l) (fun z hz => h z (by simp at hz ⊢; right; exact hz))
    rw [joinS_cons]
    unfold Lib.fields at ih ⊢
    rw [fieldsGo_word (dec x) [] _ (fun b hb => (dec_mem hx b hb).1), List.nil_append, Lib.fieldsGo, if_pos (by decide)]
    have hne : (dec x).isEmpty = false := by cases hd : dec x with | nil => exact absurd hd (dec_ne hx) | cons => rfl
    rw [hne, ih]; rfl

def wordV (n : Nat) (w : List UInt8) : Option Nat := match Lib.atoiAll w with
  | .ok v => if 0 ≤ v ∧ v < n then some v.toNat else none
  | _ => none
def wordsV (n : Nat) : List (List UInt8) → Option (List Nat)
  | [] => some []
  | w :: r => match wordV n w with
    | none => none
    | some x => (wordsV n r).map (x :: ·)
def partV (n : Nat) (p : List UInt8) : Option (List Nat) := wordsV n (Lib.fieldsD (Lib.trimPrefix p [40]))
def partsV (n : Nat) : List (List UInt8) → (Nat → Nat) → Option (Nat → Nat)
  | [], h => some h
  | p :: r, h => match partV n p with
    | none => none
    | some c => partsV n r (setC c h)
theorem wordV_lt {n : Nat} {w : List UInt8} {x : Nat} (h : wordV n w = some x) : x < n := by
  unfold wordV at h
  split at h
  · split at h
    · cases h; omega
    · cases h
  · cases h
theorem wordsV_dec {n : Nat} (hn : n ≤ 12) : ∀ c : List Nat, (∀ x ∈ c, x < n) → wordsV n (c.map dec) = some c
  | [], _ => rfl
  | x :: c, h => by
    have hx := h x (by simp)
    have e : wordV n (dec x) = some x := by
      unfold wordV
      rw [dec_atoi (by omega)]
      simp [hx]
    rw [List.map_cons, wordsV, e, wordsV_dec hn c (fun z hz => h z (by simp [hz]))]; rfl
theorem partV_cyc {n : Nat} (hn : n ≤ 12) (hF : ∀ l : List UInt8, (∀ b ∈ l, b.toNat < 128) → Lib.fieldsD l = Lib.fields l) {c : List Nat} (h : ∀ x ∈ c, x < n) : partV n (40 :: joinS c) = some c := by
  have h12 : ∀ x ∈ c, x < 12 := fun x hx => by have := h x hx; omega
  unfold partV
  have e : Lib.trimPrefix (40 :: joinS c) [40] = joinS c := by simp [Lib.trimPrefix, Lib.hasPrefix, List.isPrefixOf]
  rw [e, hF _ (fun b hb => (joinS_mem c h12 b hb).2.2), fields_joinS c h12, wordsV_dec hn c h]
theorem setC_nil (h : Nat → Nat) : setC [] h = h := rfl
theorem partsV_cyc {n : Nat} (hn : n ≤ 12) (hF : ∀ l : List UInt8, (∀ b ∈ l, b.toNat < 128) → Lib.fieldsD l = Lib.fields l) : ∀ (cs : List (List Nat)) (h : Nat → Nat), (∀ c ∈ cs, ∀ x ∈ c, x < n) → partsV n (cs.map (fun c => 40 :: joinS c) ++ [[]]) h = some (cs.foldl (fun h c => setC c h) h)
  | [], h, _ => by
    have e : partV n [] = some [] := by
      unfold partV
      have : Lib.trimPrefix [] [40] = [] := rfl
      rw [this, hF [] (by simp)]; rfl
    show partsV n [[]] h = some h
    rw [partsV, e]; rfl
  | c :: cs, h, hc => by
    rw [List.map_cons, List.cons_append, partsV, partV_cyc hn hF (hc c (by simp))]
    exact partsV_cyc hn hF cs _ (fun c h => hc c (by simp [h]))
/-- The program's way of reading leads back. -/
theorem read_permT {n : Nat} {f : Nat → Nat} (P : Pm n f) (hn : n ≤ 12) (hF : ∀ l : List UInt8, (∀ b ∈ l, b.toNat < 128) → Lib.fieldsD l = Lib.fields l) : ∃ h, partsV n (Lib.split (permT n f) [41]) id = some h ∧ ∀ x, x < n → h x = f x := by
  have key : ∃ h, partsV n (Lib.split (permS n f n) [41]) id = some h ∧ ∀ x, x < n → h x = f x := by
    refine ⟨_, ?_, fun x hx => fold_bigs P hx⟩
    unfold permS
    rw [split_cycs _ (fun c hc x hx => by have := bigs_lt P hc x hx; omega), partsV_cyc hn hF _ _ (fun c hc => bigs_lt P hc)]
  unfold permT
  split
  · rename_i e
    obtain ⟨h, h1, h2⟩ := key
    refine ⟨h, ?_, h2⟩
    rw [e] at h1
    have e0 : Lib.split ([] : List UInt8) [41] = [[]] := split_last [] (by simp)
    rw [e0] at h1
    have ep : partV n [] = some [] := by
      unfold partV
      have : Lib.trimPrefix [] [40] = [] := rfl
      rw [this, hF [] (by simp)]; rfl
    have e1 : Lib.split ([40, 41] : List UInt8) [41] = [[40], []] := by
      have := split_more [40] [] (by decide)
      rw [e0] at this; exact this
    have e2 : partV n [40] = some [] := partV_cyc hn hF (c := []) (by simp)
    rw [e1, partsV, e2]
    exact h1
  · exact key

/-! ### the document's way: number by number -/
def digs : Nat → List UInt8 → Nat → Nat × List UInt8
  | 0, S, x => (x, S)
  | _ + 1, [], x => (x, [])
  | k + 1, b :: S, x => if 48 ≤ b.toNat ∧ b.toNat ≤ 57 then digs k S (x * 10 + (b.toNat - 48)) else (x, b :: S)
def inn (n : Nat) : Nat → List UInt8 → List Nat → Option (List Nat × List UInt8)
  | 0, _, _ => none
  | k + 1, S, c => match (digs 3 S 0).2 with
    | [] => none
    | b :: S' => if (b :: S').length = S.length ∨ n ≤ (digs 3 S 0).1 then none else if b = 41 then some (c ++ [(digs 3 S 0).1], S') else if b = 32 then inn n k S' (c ++ [(digs 3 S 0).1]) else none
def outV (n : Nat) : Nat → List UInt8 → (Nat → Nat) → Option (Nat → Nat)
  | _, [], h => some h
  | 0, _ :: _, _ => none
  | k + 1, b :: S, h => if b ≠ 40 then none else match inn n (S.length + 1) S [] with
    | none => none
    | some (c, S') => outV n k S' (setC c h)
theorem digs_dec {x : Nat} (hx : x < 12) (R : List UInt8) : digs 3 (dec x ++ 41 :: R) 0 = (x, 41 :: R) ∧ digs 3 (dec x ++ 32 :: R) 0 = (x, 32 :: R) := by
  match x, hx with
  | 0, _ | 1, _ | 2, _ | 3, _ | 4, _ | 5, _ | 6, _ | 7, _ | 8, _ | 9, _ | 10, _ | 11, _ => exact ⟨rfl, rfl⟩
theorem inn_cyc {n : Nat} (hn : n ≤ 12) : ∀ (c : List Nat) (k : Nat) (a : List Nat) (R : List UInt8), c ≠ [] → (∀ x ∈ c, x < n) → c.length ≤ k → inn n k (joinS c ++ 41 :: R) a = some (a ++ c, R)
  | [], _, _, _, h, _, _ => absurd rfl h
  | [x], 0, _, _, _, _, h => by simp at h
  | [x], k + 1, a, R, _, h, _ => by
    have hx := h x (by simp)
    have hd := (digs_dec (x := x) (by omega) R).1
    have hp := List.length_pos_iff.2 (dec_ne (x := x) (by omega))
    rw [joinS_one, inn, hd]
    show (if _ ∨ n ≤ x then _ else _) = _
    rw [if_neg (by simp only [List.length_append, List.length_cons]; omega)]; rfl
  | x :: y :: l, 0, _, _, _, _, h => by simp at h
  | x :: y :: l, k + 1, a, R, _, h, hk => by
    have hx := h x (by simp)
    have hd := (digs_dec (x := x) (by omega) (joinS (y :: l) ++ 41 :: R)).2
    have hp := List.length_pos_iff.2 (dec_ne (x := x) (by omega))
    have e : joinS (x :: y :: l) ++ 41 :: R = dec x ++ 32 :: (joinS (y :: l) ++ 41 :: R) := by rw [joinS_cons]; simp
    rw [e, inn, hd]
    show (if _ ∨ n ≤ x then _ else _) = _
    rw [if_neg (by simp only [List.length_append, List.length_cons]; omega)]
    show inn n k (joinS (y :: l) ++ 41 :: R) (a ++ [x]) = _
    rw [inn_cyc hn (y :: l) k (a ++ [x]) R (by simp) (fun z hz => h z (by simp at hz ⊢; right; exact hz)) (by simp at hk ⊢; omega)]
    simp
theorem outV_cyc {n : Nat} (hn : n ≤ 12) : ∀ (cs : List (List Nat)) (k : Nat) (h : Nat → Nat), (∀ c ∈ cs, 1 < c.length ∧ ∀ x ∈ c, x < n) → cs.length ≤ k → outV n k (cs.flatMap cycT) h = some (cs.foldl (fun h c => setC c h) h)
  | [], k, h, _, _ => by cases k <;> rfl
  | c :: cs, 0, h, _, hk => by simp at hk
  | c :: cs, k + 1, h, hc, hk => by
    obtain ⟨h1, h2⟩ := hc c (by simp)
    have hne : c ≠ [] := fun e => by rw [e] at h1; simp at h1
    have e : (c :: cs).flatMap cycT = 40 :: (joinS c ++ 41 :: cs.flatMap cycT) := by simp [cycT]
    have hl := joinS_len c (fun x hx => by have := h2 x hx; omega)
    rw [e, outV, if_neg (by simp), inn_cyc hn c _ [] _ hne h2 (by simp; omega)]
    exact outV_cyc hn cs k _ (fun c h => hc c (by simp [h])) (by simp at hk; omega)
theorem doc_permT {n : Nat} {f : Nat → Nat} (P : Pm n f) (hn : n ≤ 12) : ∃ h, (if permT n f = [40, 41] then some id else outV n (permT n f).length (permT n f) id) = some h ∧ ∀ x, x < n → h x = f x := by
  by_cases e : permS n f n = []
  · have e1 : permT n f = [40, 41] := by unfold permT; rw [if_pos e]
    rw [if_pos e1]
    refine ⟨id, rfl, fun x hx => ?_⟩
    have h1 := fold_bigs P hx
    have h2 : bigs n f n = [] := by
      unfold permS at e
      cases hb : bigs n f n with
      | nil => rfl
      | cons c cs => rw [hb] at e; simp [cycT] at e
    rw [h2] at h1
    exact h1
  · have e1 : permT n f = permS n f n := by unfold permT; rw [if_neg e]
    have hb : ∀ c ∈ bigs n f n, 1 < c.length ∧ ∀ x ∈ c, x < n := fun c hc => ⟨by obtain ⟨_, _, _, _, h⟩ := bigs_mem hc; exact h, bigs_lt P hc⟩
    have hlen : (bigs n f n).length ≤ (permS n f n).length := by
      unfold permS
      rw [List.length_flatMap]
      generalize bigs n f n = l
      induction l with
      | nil => simp
      | cons c l ih => simp [cycT] at ih ⊢; omega
    have e2 : permS n f n ≠ [40, 41] := by
      unfold permS
      cases hbb : bigs n f n with
      | nil => simp
      | cons c cs =>
        rw [hbb] at hb
        obtain ⟨h1, h2⟩ := hb c (by simp)
        intro e3
        have hl := joinS_len c (fun x hx => by have := h2 x hx; omega)
        have := congrArg List.length e3
        simp [cycT] at this
        omega
    rw [e1, if_neg e2]
    refine ⟨_, ?_, fun x hx => fold_bigs P hx⟩
    exact outV_cyc hn _ _ _ hb hlen
/-- Only one permutation has a text. -/
theorem permT_one {n : Nat} {f g : Nat → Nat} (P : Pm n f) (Q : Pm n g) (hn : n ≤ 12) (h : permT n f = permT n g) {x : Nat} (hx : x < n) : f x = g x := by
  obtain ⟨h1, e1, k1⟩ := doc_permT P hn
  obtain ⟨h2, e2, k2⟩ := doc_permT Q hn
  rw [h] at e1
  have := Option.some.inj (e1.symm.trans e2)
  rw [← k1 x hx, ← k2 x hx, this]

end Go.Proofs.YteocfkkdjejgdaaDoor
