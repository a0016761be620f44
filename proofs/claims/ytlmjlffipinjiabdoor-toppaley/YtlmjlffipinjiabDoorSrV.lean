/- Paley's graphs are six lists; the neighbours of their places as blocks. -/
import Derived.Test.YtlmjlffipinjiabDoorSrP
namespace Go.Proofs.YtlmjlffipinjiabDoor.Sg

/-- Which lists Paley's graphs are. -/
def Six (q : Nat) (L : List Int) : Prop := (q = 5 ∧ L = gL5) ∨ (q = 13 ∧ L = gL13) ∨ (q = 17 ∧ L = gL17) ∨ (q = 9 ∧ L = gL9a) ∨ (q = 9 ∧ L = gL9b) ∨ (q = 9 ∧ L = gL9c)
theorem six5 : Six 5 gL5 := .inl ⟨rfl, rfl⟩
theorem six13 : Six 13 gL13 := .inr (.inl ⟨rfl, rfl⟩)
theorem six17 : Six 17 gL17 := .inr (.inr (.inl ⟨rfl, rfl⟩))
theorem six9a : Six 9 gL9a := .inr (.inr (.inr (.inl ⟨rfl, rfl⟩)))
theorem six9b : Six 9 gL9b := .inr (.inr (.inr (.inr (.inl ⟨rfl, rfl⟩))))
theorem six9c : Six 9 gL9c := .inr (.inr (.inr (.inr (.inr ⟨rfl, rfl⟩))))
theorem six_nine {c d : Nat} {t : List Nat} {L : List Int} (e : sq9 c d = t) (ht : (List.range 9).all (fun x => decide (t.getD x 0 < 9)) = true) (eL : pgC 9 ad9 (mu9 t) = L) (h : Six 9 L) : Six 9 (pgC 9 (Fd.addQ 3 2) (Fd.mulQ 3 2 (Fd.monL [(c : Int), (d : Int)]))) := by
  rw [pgC_congr (T' := mu9 t) (S' := ad9) (fun x hx => by rw [sq9_at hx, e]) (fun x hx => by
    rw [List.all_eq_true] at ht
    exact of_decide_eq_true (ht x (List.mem_range.2 hx))) (fun a y ha hy => add9 ⟨a, ha⟩ ⟨y, hy⟩), eL]
  exact h
/-- Of a fitting field. -/
theorem paley_six {P K : Nat} {l : List Int} (hG : Fd.GoodF P K l) (h0 : paE (P ^ K) = 0) : Six (P ^ K) (pgC (P ^ K) (Fd.addQ P K) (Fd.mulQ P K (Fd.monL l))) := by
  have h24 : P ^ K ≤ 24 ∧ P ^ K % 4 = 1 := by
    unfold paE at h0
    by_cases k : 24 < P ^ K
    · rw [if_pos k] at h0; cases h0
    · rw [if_neg k] at h0
      refine ⟨by omega, ?_⟩
      apply Classical.byContradiction
      intro k2
      rw [if_neg k2] at h0
      cases h0
  obtain ⟨h24, h41⟩ := h24
  obtain ⟨P', K', e1, e2, hP, _, hK, _, _, _, hlen, hmi, _, hpr⟩ := Fd.good_parts hG.fault
  obtain rfl : P = P' := by omega
  obtain rfl : K = K' := by omega
  have hf := hG.field
  have hP0 : 0 < P := Nat.lt_of_lt_of_le (by decide) hP
  have hP24 : P ≤ 24 := Nat.le_trans (Nat.le_trans (Nat.le_of_eq (Nat.pow_one P).symm) (Nat.pow_le_pow_right hP0 hK)) h24
  have hK4 : K ≤ 4 := by
    refine Nat.le_of_not_lt fun h => ?_
    have h1 : 2 ^ 5 ≤ P ^ 5 := Nat.pow_le_pow_left hP 5
    have h2 : P ^ 5 ≤ P ^ K := Nat.pow_le_pow_right hP0 h
    omega
  have hcase : ∀ p : Fin 25, ∀ k : Fin 5, 2 ≤ p.val → 1 ≤ k.val → p.val ^ k.val ≤ 24 → p.val ^ k.val % 4 = 1 → (k.val = 1 ∧ (p.val = 5 ∨ p.val = 9 ∨ p.val = 13 ∨ p.val = 17 ∨ p.val = 21)) ∨ (k.val = 2 ∧ p.val = 3) := by decide +kernel
  rcases hcase ⟨P, by omega⟩ ⟨K, by omega⟩ hP hK h24 h41 with ⟨rfl, hp⟩ | ⟨rfl, rfl⟩
  · obtain ⟨c, rfl⟩ : ∃ c, l = [c] := by
      match l, hlen with
      | [c], _ => exact ⟨c, rfl⟩
    have h0 := hmi 0
    have e0 : Fd.monL [c] 0 = c := rfl
    rw [e0] at h0
    obtain ⟨C, rfl⟩ : ∃ C : Nat, c = C := ⟨c.toNat, by omega⟩
    rcases hp with rfl | rfl | rfl | rfl | rfl
    · show Six 5 (pgC 5 _ _)
      rw [pgC_congr (q := 5) (T' := muP 5) (S' := adP 5) (fun x hx => mul5 ⟨C, by omega⟩ ⟨x, hx⟩) (fun x hx => Nat.mod_lt _ (by decide)) (fun a y ha hy => add5 ⟨a, ha⟩ ⟨y, hy⟩), pg5]
      exact six5
    · exact absurd hpr (by decide)
    · show Six 13 (pgC 13 _ _)
      rw [pgC_congr (q := 13) (T' := muP 13) (S' := adP 13) (fun x hx => mul13 ⟨C, by omega⟩ ⟨x, hx⟩) (fun x hx => Nat.mod_lt _ (by decide)) (fun a y ha hy => add13 ⟨a, ha⟩ ⟨y, hy⟩), pg13]
      exact six13
    · show Six 17 (pgC 17 _ _)
      rw [pgC_congr (q := 17) (T' := muP 17) (S' := adP 17) (fun x hx => mul17 ⟨C, by omega⟩ ⟨x, hx⟩) (fun x hx => Nat.mod_lt _ (by decide)) (fun a y ha hy => add17 ⟨a, ha⟩ ⟨y, hy⟩), pg17]
      exact six17
    · exact absurd hpr (by decide)
  · obtain ⟨c, d, rfl⟩ : ∃ c d, l = [c, d] := by
      match l, hlen with
      | [c, d], _ => exact ⟨c, d, rfl⟩
    have h0 := hmi 0
    have h1 := hmi 1
    have e0 : Fd.monL [c, d] 0 = c := rfl
    have e1 : Fd.monL [c, d] 1 = d := rfl
    rw [e0] at h0
    rw [e1] at h1
    show Six 9 (pgC 9 _ _)
    rcases (show c = 0 ∨ c = 1 ∨ c = 2 by omega) with rfl | rfl | rfl <;> rcases (show d = 0 ∨ d = 1 ∨ d = 2 by omega) with rfl | rfl | rfl
    · exact absurd hf (no_gen9 _ (by decide +kernel))
    · exact absurd hf (no_gen9 _ (by decide +kernel))
    · exact absurd hf (no_gen9 _ (by decide +kernel))
    · exact six_nine (c := 1) (d := 0) sq9a (by decide +kernel) pg9a six9a
    · exact absurd hf (no_gen9 _ (by decide +kernel))
    · exact absurd hf (no_gen9 _ (by decide +kernel))
    · exact absurd hf (no_gen9 _ (by decide +kernel))
    · exact six_nine (c := 2) (d := 1) sq9b (by decide +kernel) pg9b six9b
    · exact six_nine (c := 2) (d := 2) sq9c (by decide +kernel) pg9c six9c
/-- What the kernel says of six lists it says of all. -/
theorem Six.all {q : Nat} {L : List Int} (h : Six q L) {f : Nat → List Int → Bool} (h5 : f 5 gL5 = true) (h13 : f 13 gL13 = true) (h17 : f 17 gL17 = true) (ha : f 9 gL9a = true) (hb : f 9 gL9b = true) (hc : f 9 gL9c = true) : f q L = true := by
  rcases h with ⟨rfl, rfl⟩ | ⟨rfl, rfl⟩ | ⟨rfl, rfl⟩ | ⟨rfl, rfl⟩ | ⟨rfl, rfl⟩ | ⟨rfl, rfl⟩
  · exact h5
  · exact h13
  · exact h17
  · exact ha
  · exact hb
  · exact hc
/-- The neighbours of each place. -/
def nbR (q : Nat) (L : List Int) (a : Nat) : List Nat := (List.range q).filter fun c => L.getD (a * q + c) 0 == 1
def nbB (q : Nat) (L : List Int) : List (List Nat) := (List.range q).map (nbR q L)
/-- How many they have in common. -/
def nbM (b c : List Nat) : Nat := (b.filter fun x => c.contains x).length
def nbOk (q : Nat) (L : List Int) : Bool :=
  ((nbB q L).all fun b => b.length == q / 2) && ((List.range q).all fun x => ((nbB q L).filter fun b => b.contains x).length == q / 2) &&
  ((List.range (q + 1)).filter fun m => (List.range q).any fun i => (List.range i).any fun j => nbM (nbR q L i) (nbR q L j) == m) == [(q - 5) / 4, (q - 1) / 4]
theorem Six.nb {q : Nat} {L : List Int} (h : Six q L) : nbOk q L = true :=
  h.all (f := nbOk) (by decide +kernel) (by decide +kernel) (by decide +kernel) (by decide +kernel) (by decide +kernel) (by decide +kernel)
end Go.Proofs.YtlmjlffipinjiabDoor.Sg
