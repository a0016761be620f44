/- Texts of permutations: how they are written and read; nothing of the program. -/
import Derived.Test.YteocfkkdjejgdaaDoorPUnr
import Derived.Lib.Join
import Derived.Lib.ItoaNum
import Derived.Lib.SplitLaws
import Derived.Lib.AtoiAll
import Derived.Lib.Space
namespace Go.Proofs.YteocfkkdjejgdaaDoor

def dec (x : Nat) : List UInt8 := if x < 10 then [UInt8.ofNat (48 + x)] else [UInt8.ofNat (48 + x / 10), UInt8.ofNat (48 + x % 10)]
theorem dec_digits {x : Nat} (h : x < 12) : Lib.decDigits x = dec x := by
  unfold dec
  rw [Lib.decDigits]
  by_cases h1 : x < 10
  · rw [dif_pos h1, if_pos h1]
  · rw [dif_neg h1, if_neg h1, Lib.decDigits, dif_pos (by omega)]; rfl
theorem dec_facts' : ∀ x : Fin 12, dec x ≠ [] ∧ (dec x).length ≤ 2 ∧ Lib.atoiAll (dec x) = .ok (x : Nat) ∧ ∀ b ∈ dec x, Lib.isSp b = false ∧ b ≠ 41 ∧ b ≠ 40 ∧ b.toNat < 128 := by decide
theorem dec_ne {x : Nat} (h : x < 12) : dec x ≠ [] := (dec_facts' ⟨x, h⟩).1
theorem dec_len {x : Nat} (h : x < 12) : (dec x).length ≤ 2 := (dec_facts' ⟨x, h⟩).2.1
theorem dec_atoi {x : Nat} (h : x < 12) : Lib.atoiAll (dec x) = .ok (x : Int) := (dec_facts' ⟨x, h⟩).2.2.1
theorem dec_mem {x : Nat} (h : x < 12) : ∀ b ∈ dec x, Lib.isSp b = false ∧ b ≠ 41 ∧ b ≠ 40 ∧ b.toNat < 128 := (dec_facts' ⟨x, h⟩).2.2.2

def joinS (l : List Nat) : List UInt8 := Lib.join (l.map dec) [32]
theorem joinS_nil : joinS [] = [] := rfl
theorem joinS_one (x : Nat) : joinS [x] = dec x := Lib.join_one _ _
theorem joinS_cons (x y : Nat) (l : List Nat) : joinS (x :: y :: l) = dec x ++ 32 :: joinS (y :: l) := by
  unfold joinS
  rw [List.map_cons, Lib.join_cons, List.map_cons, Lib.join_cons]
  simp [Lib.joinTail]
theorem joinS_mem : ∀ l : List Nat, (∀ x ∈ l, x < 12) → ∀ b ∈ joinS l, b ≠ 41 ∧ b ≠ 40 ∧ b.toNat < 128
  | [], _, b, hb => by rw [joinS_nil] at hb; cases hb
  | [x], h, b, hb => by
    rw [joinS_one] at hb
    exact (dec_mem (h x (by simp)) b hb).2
  | x :: y :: l, h, b, hb => by
    rw [joinS_cons, List.mem_append, List.mem_cons] at hb
    rcases hb with hb | rfl | hb
    · exact (dec_mem (h x (by simp)) b hb).2
    · decide
    · exact joinS_mem (y :: l) (fun z hz => h z (by simp at hz ⊢; right; exact hz)) b hb
theorem joinS_len : ∀ l : List Nat, (∀ x ∈ l, x < 12) → l.length ≤ (joinS l).length ∧ (joinS l).length ≤ 3 * l.length
  | [], _ => by rw [joinS_nil]; exact ⟨Nat.le_refl _, Nat.le_refl _⟩
  | [x], h => by
    rw [joinS_one]
    have h1 := dec_len (h x (by simp))
    have h2 := List.length_pos_iff.2 (dec_ne (h x (by simp)))
    simp; omega
  | x :: y :: l, h => by
    rw [joinS_cons]
    have h1 := dec_len (h x (by simp))
    have h2 := List.length_pos_iff.2 (dec_ne (h x (by simp)))
    have h3 := joinS_len (y :: l) (fun z hz => h z (by simp at hz ⊢; right; exact hz))
    simp only [List.length_append, List.length_cons] at h3 ⊢
    omega
theorem joinS_len1 : ∀ l : List Nat, l ≠ [] → (∀ x ∈ l, x < 12) → (joinS l).length + 1 ≤ 3 * l.length
  | [], h, _ => absurd rfl h
  | [x], _, h => by
    rw [joinS_one]
    have h1 := dec_len (h x (by simp))
    simp; omega
  | x :: y :: l, _, h => by
    rw [joinS_cons]
    have h1 := dec_len (h x (by simp))
    have h3 := joinS_len1 (y :: l) (by simp) (fun z hz => h z (by simp at hz ⊢; right; exact hz))
    simp only [List.length_append, List.length_cons] at h3 ⊢
    omega
def cycT (c : List Nat) : List UInt8 := 40 :: (joinS c ++ [41])
noncomputable def bigs (n : Nat) (f : Nat → Nat) (m : Nat) : List (List Nat) := (cycs n f m).filter fun c => decide (1 < c.length)
noncomputable def permS (n : Nat) (f : Nat → Nat) (m : Nat) : List UInt8 := (bigs n f m).flatMap cycT
noncomputable def permT (n : Nat) (f : Nat → Nat) : List UInt8 := if permS n f n = [] then [40, 41] else permS n f n
theorem cycL_lt {n : Nat} {f : Nat → Nat} (P : Pm n f) {i : Nat} (hi : i < n) : ∀ x ∈ cycL f i, x < n := by
  intro x hx
  obtain ⟨k, _, rfl⟩ := List.mem_map.1 hx
  exact P.itr_lt hi k
theorem bigs_mem {n : Nat} {f : Nat → Nat} {m : Nat} {c : List Nat} (h : c ∈ bigs n f m) : ∃ i, i < m ∧ leadB n f i = true ∧ c = cycL f i ∧ 1 < c.length := by
  obtain ⟨h1, h2⟩ := List.mem_filter.1 h
  obtain ⟨i, h3, rfl⟩ := List.mem_map.1 h1
  obtain ⟨h4, h5⟩ := mem_leads.1 h3
  exact ⟨i, h4, h5, rfl, of_decide_eq_true h2⟩
theorem bigs_lt {n : Nat} {f : Nat → Nat} (P : Pm n f) {c : List Nat} (h : c ∈ bigs n f n) : ∀ x ∈ c, x < n := by
  obtain ⟨i, hi, _, rfl, _⟩ := bigs_mem h
  exact cycL_lt P hi

/-! ### setting cycles -/
def stC (c : List Nat) (h : Nat → Nat) : Nat → Nat → Nat
  | 0 => h
  | i + 1 => fun x => if x = c.getD i 0 then c.getD ((i + 1) % c.length) 0 else stC c h i x
def setC (c : List Nat) (h : Nat → Nat) : Nat → Nat := stC c h c.length
theorem mem_take_succ' {l : List Nat} {i x : Nat} (hi : i < l.length) : x ∈ l.take (i + 1) ↔ x ∈ l.take i ∨ x = l.getD i 0 := by
  have e : l.take (i + 1) = l.take i ++ [l.getD i 0] := by rw [List.take_add_one, List.getElem?_eq_getElem hi]; simp [hi]
  rw [e, List.mem_append, List.mem_singleton]
theorem stC_cyc {n : Nat} {f : Nat → Nat} (P : Pm n f) {i : Nat} (hi : i < n) (h : Nat → Nat) (x : Nat) : ∀ k, k ≤ per f i → stC (cycL f i) h k x = if x ∈ (cycL f i).take k then f x else h x
  | 0, _ => by simp [stC]
  | k + 1, hk => by
    have hl : (cycL f i).length = per f i := cycL_length f i
    have hp := (P.per hi).1
    have hg : ∀ j, j < per f i → (cycL f i).getD j 0 = itr f j i := fun j hj => by simp [cycL, hj]
    have h1 : (cycL f i).getD k 0 = itr f k i := hg k (by omega)
    have h2 : (cycL f i).getD ((k + 1) % (cycL f i).length) 0 = f (itr f k i) := by
      rw [hl, hg _ (Nat.mod_lt _ (by omega)), ← itr_mod_of hp.2.2]; rfl
    show (if x = (cycL f i).getD k 0 then _ else stC (cycL f i) h k x) = _
    rw [h2, stC_cyc P hi h x k (by omega)]
    by_cases e : x = (cycL f i).getD k 0
    · rw [if_pos e, if_pos ((mem_take_succ' (by omega)).2 (.inr e)), e, h1]
    · rw [if_neg e]
      by_cases e2 : x ∈ (cycL f i).take k
      · rw [if_pos e2, if_pos ((mem_take_succ' (by omega)).2 (.inl e2))]
      · rw [if_neg e2, if_neg (fun e3 => ((mem_take_succ' (by omega)).1 e3).elim e2 e)]
theorem setC_cyc {n : Nat} {f : Nat → Nat} (P : Pm n f) {i : Nat} (hi : i < n) (h : Nat → Nat) (x : Nat) : setC (cycL f i) h x = if x ∈ cycL f i then f x else h x := by
  unfold setC
  rw [cycL_length, stC_cyc P hi h x _ (Nat.le_refl _), List.take_of_length_le (by rw [cycL_length]; exact Nat.le_refl _)]
theorem fold_cyc {n : Nat} {f : Nat → Nat} (P : Pm n f) : ∀ (cs : List (List Nat)) (h : Nat → Nat) (x : Nat), (∀ c ∈ cs, ∃ i, i < n ∧ c = cycL f i) → cs.foldl (fun h c => setC c h) h x = if ∃ c ∈ cs, x ∈ c then f x else h x
  | [], h, x, _ => by simp
  | c :: cs, h, x, hc => by
    obtain ⟨i, hi, rfl⟩ := hc c (by simp)
    rw [List.foldl_cons, fold_cyc P cs _ x (fun c h => hc c (by simp [h])), setC_cyc P hi]
    by_cases e : ∃ c ∈ cs, x ∈ c
    · rw [if_pos e, if_pos (by obtain ⟨c, h1, h2⟩ := e; exact ⟨c, by simp [h1], h2⟩)]
    · rw [if_neg e]
      by_cases e2 : x ∈ cycL f i
      · rw [if_pos e2, if_pos ⟨_, by simp, e2⟩]
      · rw [if_neg e2, if_neg]
        rintro ⟨c, h1, h2⟩
        rcases List.mem_cons.1 h1 with rfl | h1
        · exact e2 h2
        · exact e ⟨c, h1, h2⟩
theorem fold_bigs {n : Nat} {f : Nat → Nat} (P : Pm n f) {x : Nat} (hx : x < n) : (bigs n f n).foldl (fun h c => setC c h) id x = f x := by
  rw [fold_cyc P _ _ x (fun c hc => by obtain ⟨i, h1, _, h2, _⟩ := bigs_mem hc; exact ⟨i, h1, h2⟩)]
  by_cases e : ∃ c ∈ bigs n f n, x ∈ c
  · rw [if_pos e]
  · rw [if_neg e]
    have hm : x ∈ (cycs n f n).flatten := P.flat.mem_iff.2 (List.mem_range.2 hx)
    obtain ⟨c, h1, h2⟩ := List.mem_flatten.1 hm
    obtain ⟨i, h3, rfl⟩ := List.mem_map.1 h1
    have hi := (mem_leads.1 h3).1
    have hp := (P.per hi).1
    by_cases hl : 1 < (cycL f i).length
    · exact absurd ⟨_, List.mem_filter.2 ⟨h1, decide_eq_true hl⟩, h2⟩ e
    · rw [cycL_length] at hl
      have h4 : per f i = 1 := by omega
      obtain ⟨k, hk, rfl⟩ := List.mem_map.1 h2
      rw [h4] at hk hp
      have : k = 0 := by simpa using hk
      subst this
      show i = f i
      exact hp.2.2.symm

/-! ### lengths -/
theorem flat_filter_len (p : List Nat → Bool) : ∀ cs : List (List Nat), ((cs.filter p).flatten).length ≤ cs.flatten.length
  | [] => Nat.le_refl _
  | c :: cs => by
    have := flat_filter_len p cs
    rw [List.filter_cons]
    split <;> simp <;> simp at this <;> omega
theorem text_len : ∀ cs : List (List Nat), (∀ c ∈ cs, 1 < c.length ∧ ∀ x ∈ c, x < 12) → (cs.flatMap cycT).length ≤ 4 * cs.flatten.length
  | [], _ => by simp
  | c :: cs, h => by
    have h1 := text_len cs (fun c hc => h c (by simp [hc]))
    obtain ⟨h2, h3⟩ := h c (by simp)
    have h4 := joinS_len1 c (fun e => by rw [e] at h2; simp at h2) h3
    rw [List.flatMap_cons, List.length_append, List.flatten_cons, List.length_append]
    have h5 : (cycT c).length = (joinS c).length + 2 := by simp [cycT]
    omega
theorem permT_len {n : Nat} {f : Nat → Nat} (P : Pm n f) (hn : n ≤ 12) : (permT n f).length ≤ 4 * n + 2 := by
  unfold permT
  split
  · simp
  · unfold permS
    have h1 := text_len (bigs n f n) (fun c hc => ⟨by obtain ⟨_, _, _, _, h⟩ := bigs_mem hc; exact h, fun x hx => by have := bigs_lt P hc x hx; omega⟩)
    have h2 := flat_filter_len (fun c => decide (1 < c.length)) (cycs n f n)
    have h3 : (cycs n f n).flatten.length = n := by rw [P.flat.length_eq, List.length_range]
    have h4 : (bigs n f n).flatten.length ≤ n := by unfold bigs; omega
    omega

end Go.Proofs.YteocfkkdjejgdaaDoor
