/- Systems grown out of some blocks: the search that goes to the first two points that are apart yet. -/
import Derived.Test.YtdeofjmgjhfkcabDoorTKi
import Derived.Test.YtdeofjmgjhfkcabDoorTSo
namespace Go.Proofs.YtdeofjmgjhfkcabDoor

/-- Blocks of three points that rise, no two of which have two points together. -/
structure Pk (v : Nat) (L : List (List Nat)) : Prop where
  rise : ∀ b ∈ L, ∃ x y z, b = [x, y, z] ∧ x < y ∧ y < z ∧ z < v
  one : ∀ p q, p < q → q < v → nb L [p, q] ≤ 1
def cv (L : List (List Nat)) (p q : Nat) : Bool := L.any fun b => b.contains p && b.contains q
theorem cv_iff {L : List (List Nat)} {p q : Nat} : cv L p q = true ↔ ∃ b ∈ L, p ∈ b ∧ q ∈ b := by
  unfold cv
  rw [List.any_eq_true]
  simp
theorem cv_nb {L : List (List Nat)} {p q : Nat} : cv L p q = true ↔ 1 ≤ nb L [p, q] := by
  rw [cv_iff]
  unfold nb
  rw [Nat.one_le_iff_ne_zero, ← Nat.pos_iff_ne_zero, List.countP_pos_iff]
  simp
theorem cv_swap (L : List (List Nat)) (p q : Nat) : cv L p q = cv L q p := by
  unfold cv
  congr 1
  funext b
  exact Bool.and_comm _ _
theorem cv_snoc (L : List (List Nat)) (b : List Nat) (p q : Nat) : cv (L ++ [b]) p q = (cv L p q || (b.contains p && b.contains q)) := by
  unfold cv
  rw [List.any_append]
  simp
theorem nb_snoc (L : List (List Nat)) (b s : List Nat) : nb (L ++ [b]) s = nb L s + if (s.all fun x => b.contains x) = true then 1 else 0 := by
  unfold nb
  rw [List.countP_append, List.countP_singleton]
theorem Pk.nil (v : Nat) : Pk v [] := ⟨fun b h => by simp at h, fun p q _ _ => by unfold nb; simp⟩
theorem Pk.snoc {v x y z : Nat} {L : List (List Nat)} (h : Pk v L) (h1 : x < y) (h2 : y < z) (h3 : z < v) (a : cv L x y = false) (b : cv L x z = false) (c : cv L y z = false) : Pk v (L ++ [[x, y, z]]) := by
  refine ⟨fun d hd => ?_, fun p q hpq hq => ?_⟩
  · rcases List.mem_append.1 hd with hd | hd
    · exact h.rise d hd
    · rw [List.mem_singleton] at hd
      exact ⟨x, y, z, hd, h1, h2, h3⟩
  · rw [nb_snoc]
    have h0 := h.one p q hpq hq
    by_cases e : ([p, q].all fun t => [x, y, z].contains t) = true
    · rw [if_pos e]
      have e2 : (p = x ∨ p = y ∨ p = z) ∧ (q = x ∨ q = y ∨ q = z) := by simpa using e
      have e3 : cv L p q = false := by
        rcases e2 with ⟨rfl | rfl | rfl, rfl | rfl | rfl⟩ <;> first | assumption | omega
      have : ¬ 1 ≤ nb L [p, q] := fun g => by rw [cv_nb.2 g] at e3; cases e3
      omega
    · rw [if_neg e]; omega
theorem Pk.bls {v : Nat} {L : List (List Nat)} (h : Pk v L) : Bls v L := fun b hb => by
  obtain ⟨x, y, z, rfl, h1, h2, h3⟩ := h.rise b hb
  refine ⟨?_, fun t ht => ?_⟩
  · simp; omega
  · simp at ht; omega
theorem Pk.three {v : Nat} {L : List (List Nat)} (h : Pk v L) : ∀ b ∈ L, b.length = 3 := fun b hb => by
  obtain ⟨x, y, z, rfl, _⟩ := h.rise b hb
  rfl
theorem Pk.le {v : Nat} {L : List (List Nat)} (h : Pk v L) : 6 * L.length ≤ v * (v - 1) := by
  rw [← nb_total h.bls h.three, ← pairs_total v]
  refine dS_le fun p hp => dS_le fun q hq => ?_
  by_cases e : p = q
  · rw [if_pos e, if_pos e]; exact Nat.le_refl _
  · rw [if_neg e, if_neg e]
    rcases Nat.lt_or_gt_of_ne e with g | g
    · exact h.one p q g (List.mem_range.1 hq)
    · rw [show nb L [p, q] = nb L [q, p] by unfold nb; congr 1; funext b; simp [Bool.and_comm]]
      exact h.one q p g (List.mem_range.1 hp)
def Full (v : Nat) (L : List (List Nat)) : Prop := ∀ p q, p < q → q < v → cv L p q = true
theorem nb_sw (L : List (List Nat)) (p q : Nat) : nb L [p, q] = nb L [q, p] := by unfold nb; congr 1; funext b; simp [Bool.and_comm]
theorem Pk.full {v : Nat} {L : List (List Nat)} (h : Pk v L) : Full v L ↔ 6 * L.length = v * (v - 1) := by
  constructor
  · intro hf
    have h1 := h.le
    have h2 : v * (v - 1) ≤ 6 * L.length := by
      rw [← nb_total h.bls h.three, ← pairs_total v]
      refine dS_le fun p hp => dS_le fun q hq => ?_
      by_cases e : p = q
      · rw [if_pos e, if_pos e]; exact Nat.le_refl _
      · rw [if_neg e, if_neg e]
        rcases Nat.lt_or_gt_of_ne e with g | g
        · exact cv_nb.1 (hf p q g (List.mem_range.1 hq))
        · rw [nb_sw]; exact cv_nb.1 (hf q p g (List.mem_range.1 hp))
    omega
  · intro hl p q hpq hq
    have s := sys_pack h.bls h.three hl fun p q hp hq hn => by
      rcases Nat.lt_or_gt_of_ne hn with g | g
      · exact h.one p q g hq
      · rw [nb_sw]; exact h.one q p g hp
    exact cv_nb.2 (by rw [s.l2 p q (by omega) hq (by omega)]; exact Nat.le_refl _)
theorem Pk.sys {v : Nat} {L : List (List Nat)} (h : Pk v L) (hf : Full v L) : Sys v L := sys_pack h.bls h.three (h.full.1 hf) fun p q hp hq hn => by
  rcases Nat.lt_or_gt_of_ne hn with g | g
  · exact h.one p q g hq
  · rw [nb_sw]; exact h.one q p g hp
theorem nine_le {v : Nat} (h : v ≤ 9) : v * (v - 1) ≤ 72 := Nat.le_trans (Nat.mul_le_mul h (by omega : v - 1 ≤ 8)) (by omega)
theorem Pk.few {v : Nat} {L : List (List Nat)} (h : Pk v L) (hv : v ≤ 9) : L.length ≤ 12 := by have := h.le; have := nine_le hv; omega
/-- All points before these two lie together. -/
def Bef (v : Nat) (L : List (List Nat)) (x y : Nat) : Prop := ∀ p q, p < q → q < v → (p < x ∨ (p = x ∧ q < y)) → cv L p q = true
structure FA (v : Nat) (L : List (List Nat)) (x y : Nat) : Prop where
  lt : x < y
  lv : y < v
  ap : cv L x y = false
  bef : Bef v L x y
theorem FA.one {v : Nat} {L : List (List Nat)} {x y x' y' : Nat} (h : FA v L x y) (h' : FA v L x' y') : x = x' ∧ y = y' := by
  have key : ∀ {x y x' y'}, FA v L x y → FA v L x' y' → ¬ (x < x' ∨ (x = x' ∧ y < y')) := fun h h' g => by
    have := h'.bef _ _ h.lt h.lv g
    rw [h.ap] at this
    cases this
  have k1 := key h h'
  have k2 := key h' h
  omega
theorem FA.nfull {v : Nat} {L : List (List Nat)} {x y : Nat} (h : FA v L x y) : ¬ Full v L := fun g => by
  have := g x y h.lt h.lv
  rw [h.ap] at this
  cases this
/-- The first that is told, of so many from one on. -/
def fz {α : Type} (f : Nat → Option α) : Nat → Nat → Option α
  | 0, _ => none
  | n + 1, z => match f z with
    | some r => some r
    | none => fz f n (z + 1)
theorem fz_some {α : Type} {f : Nat → Option α} {v z : Nat} {r : α} (h : z < v) (e : f z = some r) : fz f (v - z) z = some r := by
  obtain ⟨n, hn⟩ : ∃ n, v - z = n + 1 := ⟨v - z - 1, by omega⟩
  rw [hn, fz, e]
theorem fz_none {α : Type} {f : Nat → Option α} {v z : Nat} (h : z < v) (e : f z = none) : fz f (v - z) z = fz f (v - (z + 1)) (z + 1) := by
  obtain ⟨n, hn⟩ : ∃ n, v - z = n + 1 := ⟨v - z - 1, by omega⟩
  rw [hn, fz, e, show v - (z + 1) = n by omega]
theorem fz_end {α : Type} {f : Nat → Option α} {v z : Nat} (h : v ≤ z) : fz f (v - z) z = none := by rw [show v - z = 0 by omega]; rfl
open Classical in
noncomputable def gr (v : Nat) : Nat → List (List Nat) → Option (List (List Nat))
  | 0, L => if Full v L then some L else none
  | k + 1, L => if Full v L then some L else
    if h : ∃ p : Nat × Nat, FA v L p.1 p.2 then
      fz (fun z => if (cv L h.choose.1 z || cv L h.choose.2 z) = true then none else gr v k (L ++ [[h.choose.1, h.choose.2, z]])) (v - (h.choose.2 + 1)) (h.choose.2 + 1)
    else none
theorem gr_full {v k : Nat} {L : List (List Nat)} (h : Full v L) : gr v k L = some L := by
  cases k <;> (unfold gr; rw [if_pos h])
/-- What is tried with a third point. -/
noncomputable def gz (v k : Nat) (L : List (List Nat)) (x y z : Nat) : Option (List (List Nat)) := if (cv L x z || cv L y z) = true then none else gr v k (L ++ [[x, y, z]])
theorem gr_fa {v k x y : Nat} {L : List (List Nat)} (h : FA v L x y) : gr v (k + 1) L = fz (gz v k L x y) (v - (y + 1)) (y + 1) := by
  rw [gr, if_neg h.nfull]
  have hx : ∃ p : Nat × Nat, FA v L p.1 p.2 := ⟨(x, y), h⟩
  rw [dif_pos hx]
  obtain ⟨e1, e2⟩ := h.one hx.choose_spec
  rw [← e1, ← e2]
  rfl
/-- What it tells is a system that has these blocks ahead. -/
theorem gr_sys {v : Nat} : ∀ {k : Nat} {L R : List (List Nat)}, Pk v L → gr v k L = some R → Pk v R ∧ Full v R ∧ ∃ M, R = L ++ M
  | 0, L, R, hp, h => by
    unfold gr at h
    by_cases hf : Full v L
    · rw [if_pos hf] at h
      cases h
      exact ⟨hp, hf, [], (List.append_nil _).symm⟩
    · rw [if_neg hf] at h; cases h
  | k + 1, L, R, hp, h => by
    by_cases hf : Full v L
    · rw [gr_full hf] at h
      cases h
      exact ⟨hp, hf, [], (List.append_nil _).symm⟩
    · by_cases hx : ∃ p : Nat × Nat, FA v L p.1 p.2
      · obtain ⟨⟨x, y⟩, hx⟩ := hx
        rw [gr_fa hx] at h
        have key : ∀ n z, y < z → z + n = v → fz (gz v k L x y) n z = some R → Pk v R ∧ Full v R ∧ ∃ M, R = L ++ M := by
          intro n
          induction n with
          | zero => intro z _ _ h; cases h
          | succ n ih =>
            intro z hz hn h
            rw [fz] at h
            cases e : gz v k L x y z with
            | none => rw [e] at h; exact ih (z + 1) (by omega) (by omega) h
            | some r =>
              rw [e] at h
              cases h
              unfold gz at e
              by_cases g : (cv L x z || cv L y z) = true
              · rw [if_pos g] at e; cases e
              · rw [if_neg g] at e
                rw [Bool.not_eq_true, Bool.or_eq_false_iff] at g
                obtain ⟨a, b, M, rfl⟩ := gr_sys (hp.snoc hx.lt hz (by omega) hx.ap g.1 g.2) e
                exact ⟨a, b, [x, y, z] :: M, by rw [List.append_assoc]; rfl⟩
        have hlv : y < v := hx.lv
        exact key (v - (y + 1)) (y + 1) (by omega) (by omega) h
      · rw [gr, if_neg hf, dif_neg hx] at h
        cases h
/-- The marks of two points, in nine rows of nine. -/
def tc (L : List (List Nat)) (i : Nat) : Bool := decide (i / 9 < i % 9) && cv L (i / 9) (i % 9)
theorem tc_at {L : List (List Nat)} {x y : Nat} (h : x < y) (hy : y < 9) : tc L (9 * x + y) = cv L x y := by
  have h1 : (9 * x + y) / 9 = x := by omega
  have h2 : (9 * x + y) % 9 = y := by omega
  unfold tc
  rw [h1, h2, decide_eq_true h]
  rfl
def up3 (T : Nat → Bool) (a b c : Nat) (t : Bool) : Nat → Bool := fun i => if i = a ∨ i = b ∨ i = c then t else T i
theorem tc_snoc {L : List (List Nat)} {x y z : Nat} (h1 : x < y) (h2 : y < z) (h3 : z < 9) (i : Nat) : tc (L ++ [[x, y, z]]) i = up3 (tc L) (9 * x + y) (9 * x + z) (9 * y + z) true i := by
  unfold up3
  by_cases e : i = 9 * x + y ∨ i = 9 * x + z ∨ i = 9 * y + z
  · rw [if_pos e]
    have k : i / 9 < i % 9 ∧ (i / 9 = x ∨ i / 9 = y) ∧ (i % 9 = y ∨ i % 9 = z) := by omega
    obtain ⟨k1, k2, k3⟩ := k
    unfold tc
    rw [cv_snoc, decide_eq_true k1]
    have : ([x, y, z].contains (i / 9) && [x, y, z].contains (i % 9)) = true := by
      rcases k2 with e | e <;> rcases k3 with e' | e' <;> (rw [e, e']; simp)
    rw [this]; simp
  · rw [if_neg e]
    unfold tc
    rw [cv_snoc]
    by_cases k1 : i / 9 < i % 9
    · have : ([x, y, z].contains (i / 9) && [x, y, z].contains (i % 9)) = false := by
        rw [Bool.eq_false_iff]
        intro h
        have h : (i / 9 = x ∨ i / 9 = y ∨ i / 9 = z) ∧ (i % 9 = x ∨ i % 9 = y ∨ i % 9 = z) := by simpa using h
        have hi := Nat.div_add_mod i 9
        omega
      rw [this, Bool.or_false]
    · rw [decide_eq_false k1]; rfl
theorem tc_back {L : List (List Nat)} {x y z : Nat} (h1 : x < y) (h2 : y < z) (h3 : z < 9) (a : cv L x y = false) (b : cv L x z = false) (c : cv L y z = false) (i : Nat) : tc L i = up3 (tc (L ++ [[x, y, z]])) (9 * x + y) (9 * x + z) (9 * y + z) false i := by
  unfold up3
  by_cases e : i = 9 * x + y ∨ i = 9 * x + z ∨ i = 9 * y + z
  · rw [if_pos e]
    rcases e with rfl | rfl | rfl
    · rw [tc_at h1 (by omega), a]
    · rw [tc_at (by omega) h3, b]
    · rw [tc_at h2 h3, c]
  · rw [if_neg e, tc_snoc h1 h2 h3]
    unfold up3
    rw [if_neg e]
theorem s3_rise {x y z : Nat} (h1 : x < y) (h2 : y < z) : s3 [x, y, z] = [x, y, z] := sorted_one (s3_perm _) (s3_le _) (by simp; omega)

end Go.Proofs.YtdeofjmgjhfkcabDoor
