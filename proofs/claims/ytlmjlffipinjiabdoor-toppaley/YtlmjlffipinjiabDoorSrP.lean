/- Paley's graphs: of which fields, and their numbers; by the kernel. -/
import Derived.Test.YtlmjlffipinjiabDoorST1
import Derived.Test.YtlmjlffipinjiabDoorW24
/- Paley's graphs as cells. -/
namespace Go.Proofs.YtlmjlffipinjiabDoor.Sg

/-- Is b some square behind a? -/
def pgB (_q : Nat) (S T : Nat → Nat → Nat) (a n b : Nat) : Bool := (List.range n).any fun x => decide (1 ≤ x) && S a (T x x) == b
def pgF (q : Nat) (S T : Nat → Nat → Nat) (a b : Nat) : Int := if pgB q S T a q b then 1 else 0
def pgC (q : Nat) (S T : Nat → Nat → Nat) : List Int := (List.range (q * q)).map fun j => pgF q S T (j / q) (j % q)
/-- What is told of a field that is one, by its order. -/
def paE (q : Nat) : Nat := if 24 < q then 3 else if q % 4 = 1 then 0 else 4
end Go.Proofs.YtlmjlffipinjiabDoor.Sg

namespace Go.Proofs.YtlmjlffipinjiabDoor.Sg

theorem pgB_congr {q a n b : Nat} {S T S' T' : Nat → Nat → Nat} (hn : n ≤ q) (_ha : a < q) (hT : ∀ x, x < q → T x x = T' x x) (hT' : ∀ x, x < q → T' x x < q) (hS : ∀ y, y < q → S a y = S' a y) : pgB q S T a n b = pgB q S' T' a n b := by
  unfold pgB
  rw [Bool.eq_iff_iff, List.any_eq_true, List.any_eq_true]
  constructor
  · rintro ⟨x, hx, e⟩
    have hxq : x < q := by have := List.mem_range.1 hx; omega
    refine ⟨x, hx, ?_⟩
    rw [hT x hxq, hS _ (hT' x hxq)] at e
    exact e
  · rintro ⟨x, hx, e⟩
    have hxq : x < q := by have := List.mem_range.1 hx; omega
    refine ⟨x, hx, ?_⟩
    rw [hT x hxq, hS _ (hT' x hxq)]
    exact e
theorem pgC_congr {q : Nat} {S T S' T' : Nat → Nat → Nat} (hT : ∀ x, x < q → T x x = T' x x) (hT' : ∀ x, x < q → T' x x < q) (hS : ∀ a y, a < q → y < q → S a y = S' a y) : pgC q S T = pgC q S' T' := by
  unfold pgC
  apply List.map_congr_left
  intro j hj
  have hj := List.mem_range.1 hj
  have h : j / q < q := Nat.div_lt_of_lt_mul hj
  unfold pgF
  rw [pgB_congr (Nat.le_refl q) h hT hT' fun y hy => hS _ y h hy]
def adP (q a b : Nat) : Nat := (a + b) % q
def muP (q a b : Nat) : Nat := a * b % q
def ad9 (a b : Nat) : Nat := (a % 3 + b % 3) % 3 + 3 * ((a / 3 + b / 3) % 3)
def mu9 (t : List Nat) (a _b : Nat) : Nat := t.getD a 0
theorem add5 : ∀ a b : Fin 5, Fd.addQ 5 1 a.val b.val = adP 5 a.val b.val := by decide +kernel
theorem add13 : ∀ a b : Fin 13, Fd.addQ 13 1 a.val b.val = adP 13 a.val b.val := by decide +kernel
theorem add17 : ∀ a b : Fin 17, Fd.addQ 17 1 a.val b.val = adP 17 a.val b.val := by decide +kernel
theorem add9 : ∀ a b : Fin 9, Fd.addQ 3 2 a.val b.val = ad9 a.val b.val := by decide +kernel
theorem mul5 : ∀ c x : Fin 5, Fd.mulQ 5 1 (Fd.monL [(c.val : Int)]) x.val x.val = muP 5 x.val x.val := by decide +kernel
theorem mul13 : ∀ c x : Fin 13, Fd.mulQ 13 1 (Fd.monL [(c.val : Int)]) x.val x.val = muP 13 x.val x.val := by decide +kernel
theorem mul17 : ∀ c x : Fin 17, Fd.mulQ 17 1 (Fd.monL [(c.val : Int)]) x.val x.val = muP 17 x.val x.val := by decide +kernel
def sq9 (c d : Nat) : List Nat := (List.range 9).map fun x => Fd.mulQ 3 2 (Fd.monL [(c : Int), (d : Int)]) x x
theorem sq9a : sq9 1 0 = [0, 1, 1, 2, 6, 3, 2, 3, 6] := by decide +kernel
theorem sq9b : sq9 2 1 = [0, 1, 1, 7, 5, 2, 7, 2, 5] := by decide +kernel
theorem sq9c : sq9 2 2 = [0, 1, 1, 4, 2, 8, 4, 8, 2] := by decide +kernel
def gL5 : List Int := [0, 1, 0, 0, 1, 1, 0, 1, 0, 0, 0, 1, 0, 1, 0, 0, 0, 1, 0, 1, 1, 0, 0, 1, 0]
theorem pg5 : pgC 5 (adP 5) (muP 5) = gL5 := by decide +kernel
def gL13 : List Int := [0, 1, 0, 1, 1, 0, 0, 0, 0, 1, 1, 0, 1, 1, 0, 1, 0, 1, 1, 0, 0, 0, 0, 1, 1, 0, 0, 1, 0, 1, 0, 1, 1, 0, 0, 0, 0, 1, 1, 1, 0, 1, 0, 1, 0, 1, 1, 0, 0, 0, 0, 1, 1, 1, 0, 1, 0, 1, 0, 1, 1, 0, 0, 0, 0, 0, 1, 1, 0, 1, 0, 1, 0, 1, 1, 0, 0, 0, 0, 0, 1, 1, 0, 1, 0, 1, 0, 1, 1, 0, 0, 0, 0, 0, 1, 1, 0, 1, 0, 1, 0, 1, 1, 0, 0, 0, 0, 0, 1, 1, 0, 1, 0, 1, 0, 1, 1, 1, 0, 0, 0, 0, 1, 1, 0, 1, 0, 1, 0, 1, 1, 1, 0, 0, 0, 0, 1, 1, 0, 1, 0, 1, 0, 0, 1, 1, 0, 0, 0, 0, 1, 1, 0, 1, 0, 1, 1, 0, 1, 1, 0, 0, 0, 0, 1, 1, 0, 1, 0]
theorem pg13 : pgC 13 (adP 13) (muP 13) = gL13 := by decide +kernel
def gL17 : List Int := [0, 1, 1, 0, 1, 0, 0, 0, 1, 1, 0, 0, 0, 1, 0, 1, 1, 1, 0, 1, 1, 0, 1, 0, 0, 0, 1, 1, 0, 0, 0, 1, 0, 1, 1, 1, 0, 1, 1, 0, 1, 0, 0, 0, 1, 1, 0, 0, 0, 1, 0, 0, 1, 1, 0, 1, 1, 0, 1, 0, 0, 0, 1, 1, 0, 0, 0, 1, 1, 0, 1, 1, 0, 1, 1, 0, 1, 0, 0, 0, 1, 1, 0, 0, 0, 0, 1, 0, 1, 1, 0, 1, 1, 0, 1, 0, 0, 0, 1, 1, 0, 0, 0, 0, 1, 0, 1, 1, 0, 1, 1, 0, 1, 0, 0, 0, 1, 1, 0, 0, 0, 0, 1, 0, 1, 1, 0, 1, 1, 0, 1, 0, 0, 0, 1, 1, 1, 0, 0, 0, 1, 0, 1, 1, 0, 1, 1, 0, 1, 0, 0, 0, 1, 1, 1, 0, 0, 0, 1, 0, 1, 1, 0, 1, 1, 0, 1, 0, 0, 0, 0, 1, 1, 0, 0, 0, 1, 0, 1, 1, 0, 1, 1, 0, 1, 0, 0, 0, 0, 1, 1, 0, 0, 0, 1, 0, 1, 1, 0, 1, 1, 0, 1, 0, 0, 0, 0, 1, 1, 0, 0, 0, 1, 0, 1, 1, 0, 1, 1, 0, 1, 1, 0, 0, 0, 1, 1, 0, 0, 0, 1, 0, 1, 1, 0, 1, 1, 0, 0, 1, 0, 0, 0, 1, 1, 0, 0, 0, 1, 0, 1, 1, 0, 1, 1, 1, 0, 1, 0, 0, 0, 1, 1, 0, 0, 0, 1, 0, 1, 1, 0, 1, 1, 1, 0, 1, 0, 0, 0, 1, 1, 0, 0, 0, 1, 0, 1, 1, 0]
theorem pg17 : pgC 17 (adP 17) (muP 17) = gL17 := by decide +kernel
def gL9a : List Int := [0, 1, 1, 1, 0, 0, 1, 0, 0, 1, 0, 1, 0, 1, 0, 0, 1, 0, 1, 1, 0, 0, 0, 1, 0, 0, 1, 1, 0, 0, 0, 1, 1, 1, 0, 0, 0, 1, 0, 1, 0, 1, 0, 1, 0, 0, 0, 1, 1, 1, 0, 0, 0, 1, 1, 0, 0, 1, 0, 0, 0, 1, 1, 0, 1, 0, 0, 1, 0, 1, 0, 1, 0, 0, 1, 0, 0, 1, 1, 1, 0]
theorem pg9a : pgC 9 ad9 (mu9 [0, 1, 1, 2, 6, 3, 2, 3, 6]) = gL9a := by decide +kernel
def gL9b : List Int := [0, 1, 1, 0, 0, 1, 0, 1, 0, 1, 0, 1, 1, 0, 0, 0, 0, 1, 1, 1, 0, 0, 1, 0, 1, 0, 0, 0, 1, 0, 0, 1, 1, 0, 0, 1, 0, 0, 1, 1, 0, 1, 1, 0, 0, 1, 0, 0, 1, 1, 0, 0, 1, 0, 0, 0, 1, 0, 1, 0, 0, 1, 1, 1, 0, 0, 0, 0, 1, 1, 0, 1, 0, 1, 0, 1, 0, 0, 1, 1, 0]
theorem pg9b : pgC 9 ad9 (mu9 [0, 1, 1, 7, 5, 2, 7, 2, 5]) = gL9b := by decide +kernel
def gL9c : List Int := [0, 1, 1, 0, 1, 0, 0, 0, 1, 1, 0, 1, 0, 0, 1, 1, 0, 0, 1, 1, 0, 1, 0, 0, 0, 1, 0, 0, 0, 1, 0, 1, 1, 0, 1, 0, 1, 0, 0, 1, 0, 1, 0, 0, 1, 0, 1, 0, 1, 1, 0, 1, 0, 0, 0, 1, 0, 0, 0, 1, 0, 1, 1, 0, 0, 1, 1, 0, 0, 1, 0, 1, 1, 0, 0, 0, 1, 0, 1, 1, 0]
theorem pg9c : pgC 9 ad9 (mu9 [0, 1, 1, 4, 2, 8, 4, 8, 2]) = gL9c := by decide +kernel
theorem st_gL5 : stB 5 2 0 1 (gx 5 gL5) = true := by decide +kernel
theorem gf_gL5 : gF 5 gL5 = 0 := by decide +kernel
theorem st_gL13 : stB 13 6 2 3 (gx 13 gL13) = true := by decide +kernel
theorem gf_gL13 : gF 13 gL13 = 0 := by decide +kernel
theorem st_gL17 : stB 17 8 3 4 (gx 17 gL17) = true := by decide +kernel
theorem gf_gL17 : gF 17 gL17 = 0 := by decide +kernel
theorem st_gL9a : stB 9 4 1 2 (gx 9 gL9a) = true := by decide +kernel
theorem gf_gL9a : gF 9 gL9a = 0 := by decide +kernel
theorem st_gL9b : stB 9 4 1 2 (gx 9 gL9b) = true := by decide +kernel
theorem gf_gL9b : gF 9 gL9b = 0 := by decide +kernel
theorem st_gL9c : stB 9 4 1 2 (gx 9 gL9c) = true := by decide +kernel
theorem gf_gL9c : gF 9 gL9c = 0 := by decide +kernel
/-- What Paley's graph of a fitting field is. -/
def PaN (q : Nat) (L : List Int) : Prop := GoodG q L ∧ ∃ d n f : Nat, 2 * d + 1 = q ∧ 4 * n + 5 = q ∧ 4 * f + 1 = q ∧ StN q d n f (gx q L)
theorem pan_of {q : Nat} {L : List Int} (d n f : Nat) (h : gF q L = 0) (hs : stB q d n f (gx q L) = true) (h1 : 2 * d + 1 = q) (h2 : 4 * n + 5 = q) (h3 : 4 * f + 1 = q) : PaN q L := by
  obtain ⟨m, e, G⟩ := gF_ok h
  obtain rfl : q = m := by omega
  have S := stB_stg hs G.gr.diag
  exact ⟨G, d, n, f, h1, h2, h3, S.stn G.gr G.pos (by omega) (by omega)⟩
theorem pan5 : PaN 5 gL5 := pan_of 2 0 1 gf_gL5 st_gL5 rfl rfl rfl
theorem pan13 : PaN 13 gL13 := pan_of 6 2 3 gf_gL13 st_gL13 rfl rfl rfl
theorem pan17 : PaN 17 gL17 := pan_of 8 3 4 gf_gL17 st_gL17 rfl rfl rfl
theorem pan9a : PaN 9 gL9a := pan_of 4 1 2 gf_gL9a st_gL9a rfl rfl rfl
theorem pan9b : PaN 9 gL9b := pan_of 4 1 2 gf_gL9b st_gL9b rfl rfl rfl
theorem pan9c : PaN 9 gL9c := pan_of 4 1 2 gf_gL9c st_gL9c rfl rfl rfl
theorem no_gen9 (l : List Int) (h : ((List.range 9).all fun g => (List.range 8).any fun a => (List.range 8).all fun i => Fd.powQ 3 2 (Fd.monL l) g i != a + 1) = true) : ¬ Fd.FieldQ 3 2 (Fd.monL l) := fun hf => by
  obtain ⟨g, hg, hall, _⟩ := hf.gen
  rw [List.all_eq_true] at h
  have h2 := h g (List.mem_range.2 hg)
  rw [List.any_eq_true] at h2
  obtain ⟨a, ha, k⟩ := h2
  have ha := List.mem_range.1 ha
  obtain ⟨i, hi, e⟩ := hall (a + 1) (by omega) (show a + 1 < 3 ^ 2 by omega)
  rw [List.all_eq_true] at k
  have := k i (List.mem_range.2 hi)
  rw [e] at this
  exact absurd rfl (bne_iff_ne.1 this)
theorem sq9_at {c d x : Nat} (hx : x < 9) : Fd.mulQ 3 2 (Fd.monL [(c : Int), (d : Int)]) x x = mu9 (sq9 c d) x x := by
  unfold mu9 sq9
  simp [hx]
theorem pan_nine {c d : Nat} {t : List Nat} {L : List Int} (e : sq9 c d = t) (ht : (List.range 9).all (fun x => decide (t.getD x 0 < 9)) = true) (eL : pgC 9 ad9 (mu9 t) = L) (h : PaN 9 L) : PaN 9 (pgC 9 (Fd.addQ 3 2) (Fd.mulQ 3 2 (Fd.monL [(c : Int), (d : Int)]))) := by
  rw [pgC_congr (T' := mu9 t) (S' := ad9) (fun x hx => by rw [sq9_at hx, e]) (fun x hx => by
    rw [List.all_eq_true] at ht
    exact of_decide_eq_true (ht x (List.mem_range.2 hx))) (fun a y ha hy => add9 ⟨a, ha⟩ ⟨y, hy⟩), eL]
  exact h
/-- Of a fitting field. -/
theorem paley_num {P K : Nat} {l : List Int} (hG : Fd.GoodF P K l) (h0 : paE (P ^ K) = 0) : PaN (P ^ K) (pgC (P ^ K) (Fd.addQ P K) (Fd.mulQ P K (Fd.monL l))) := by
  have h24 : P ^ K ≤ 24 ∧ P ^ K % 4 = 1 := by
    unfold paE at h0
    by_cases k : 24 < P ^ K
    · rw [if_pos k] at h0; cases h0
    · rw [if_neg k] at h0
      refine ⟨by omega, ?_⟩
      apply Classical.byContradiction
      intro k2
      rw [if_neg k2] at h0
      cases h0
  obtain ⟨h24, h41⟩ := h24
  obtain ⟨P', K', e1, e2, hP, _, hK, _, _, _, hlen, hmi, _, hpr⟩ := Fd.good_parts hG.fault
  obtain rfl : P = P' := by omega
  obtain rfl : K = K' := by omega
  have hf := hG.field
  have hP0 : 0 < P := Nat.lt_of_lt_of_le (by decide) hP
  have hP24 : P ≤ 24 := Nat.le_trans (Nat.le_trans (Nat.le_of_eq (Nat.pow_one P).symm) (Nat.pow_le_pow_right hP0 hK)) h24
  have hK4 : K ≤ 4 := by
    refine Nat.le_of_not_lt fun h => ?_
    have h1 : 2 ^ 5 ≤ P ^ 5 := Nat.pow_le_pow_left hP 5
    have h2 : P ^ 5 ≤ P ^ K := Nat.pow_le_pow_right hP0 h
    omega
  have hcase : ∀ p : Fin 25, ∀ k : Fin 5, 2 ≤ p.val → 1 ≤ k.val → p.val ^ k.val ≤ 24 → p.val ^ k.val % 4 = 1 → (k.val = 1 ∧ (p.val = 5 ∨ p.val = 9 ∨ p.val = 13 ∨ p.val = 17 ∨ p.val = 21)) ∨ (k.val = 2 ∧ p.val = 3) := by decide +kernel
  rcases hcase ⟨P, by omega⟩ ⟨K, by omega⟩ hP hK h24 h41 with ⟨rfl, hp⟩ | ⟨rfl, rfl⟩
  · obtain ⟨c, rfl⟩ : ∃ c, l = [c] := by
      match l, hlen with
      | [c], _ => exact ⟨c, rfl⟩
    have h0 := hmi 0
    have e0 : Fd.monL [c] 0 = c := rfl
    rw [e0] at h0
    obtain ⟨C, rfl⟩ : ∃ C : Nat, c = C := ⟨c.toNat, by omega⟩
    rcases hp with rfl | rfl | rfl | rfl | rfl
    · show PaN 5 (pgC 5 _ _)
      rw [pgC_congr (q := 5) (T' := muP 5) (S' := adP 5) (fun x hx => mul5 ⟨C, by omega⟩ ⟨x, hx⟩) (fun x hx => Nat.mod_lt _ (by decide)) (fun a y ha hy => add5 ⟨a, ha⟩ ⟨y, hy⟩), pg5]
      exact pan5
    · exact absurd hpr (by decide)
    · show PaN 13 (pgC 13 _ _)
      rw [pgC_congr (q := 13) (T' := muP 13) (S' := adP 13) (fun x hx => mul13 ⟨C, by omega⟩ ⟨x, hx⟩) (fun x hx => Nat.mod_lt _ (by decide)) (fun a y ha hy => add13 ⟨a, ha⟩ ⟨y, hy⟩), pg13]
      exact pan13
    · show PaN 17 (pgC 17 _ _)
      rw [pgC_congr (q := 17) (T' := muP 17) (S' := adP 17) (fun x hx => mul17 ⟨C, by omega⟩ ⟨x, hx⟩) (fun x hx => Nat.mod_lt _ (by decide)) (fun a y ha hy => add17 ⟨a, ha⟩ ⟨y, hy⟩), pg17]
      exact pan17
    · exact absurd hpr (by decide)
  · obtain ⟨c, d, rfl⟩ : ∃ c d, l = [c, d] := by
      match l, hlen with
      | [c, d], _ => exact ⟨c, d, rfl⟩
    have h0 := hmi 0
    have h1 := hmi 1
    have e0 : Fd.monL [c, d] 0 = c := rfl
    have e1 : Fd.monL [c, d] 1 = d := rfl
    rw [e0] at h0
    rw [e1] at h1
    show PaN 9 (pgC 9 _ _)
    rcases (show c = 0 ∨ c = 1 ∨ c = 2 by omega) with rfl | rfl | rfl <;> rcases (show d = 0 ∨ d = 1 ∨ d = 2 by omega) with rfl | rfl | rfl
    · exact absurd hf (no_gen9 _ (by decide +kernel))
    · exact absurd hf (no_gen9 _ (by decide +kernel))
    · exact absurd hf (no_gen9 _ (by decide +kernel))
    · exact pan_nine (c := 1) (d := 0) sq9a (by decide +kernel) pg9a pan9a
    · exact absurd hf (no_gen9 _ (by decide +kernel))
    · exact absurd hf (no_gen9 _ (by decide +kernel))
    · exact absurd hf (no_gen9 _ (by decide +kernel))
    · exact pan_nine (c := 2) (d := 1) sq9b (by decide +kernel) pg9b pan9b
    · exact pan_nine (c := 2) (d := 2) sq9c (by decide +kernel) pg9c pan9c
end Go.Proofs.YtlmjlffipinjiabDoor.Sg
