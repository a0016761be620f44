/- The document's SomeOf, walked. -/
import Derived.Test.YtgkfddcmngodgabU5
import Derived.Test.YtgkfddcmngodgabTrM
namespace Go.Proofs.Ytgkfddcmngodgab
open Go.RowKit

/-- What has been looked at. -/
def dnB (a b x y : Nat) : Bool := decide (x < a ∧ y < a) || (decide (x = a ∧ y < b) || decide (y = a ∧ x < b))
/-- The table so far. -/
def soM (c n a b : Nat) (j : Nat) : Int := if dnB a b (j / n) (j % n) && btC c (j / n) (j % n) then 1 else 0
theorem so_zero (c n j : Nat) : soM c n 0 0 j = 0 := by
  unfold soM dnB
  rw [if_neg]
  simp
theorem so_next (c n a : Nat) : soM c n (a + 1) 0 = soM c n a a := by
  funext j
  unfold soM
  generalize j / n = x
  generalize j % n = y
  have e : (dnB (a + 1) 0 x y && btC c x y) = (dnB a a x y && btC c x y) := by
    by_cases hxy : x = y
    · have : btC c x y = false := by rw [hxy]; exact btC_irr c _
      rw [this, Bool.and_false, Bool.and_false]
    · congr 1
      unfold dnB
      rw [Bool.eq_iff_iff]
      simp only [Bool.or_eq_true, decide_eq_true_eq]
      omega
  rw [e]
theorem dm {n x y : Nat} (hy : y < n) : (x * n + y) / n = x ∧ (x * n + y) % n = y := by
  have h1 : (x * n + y) / n = x := by rw [Nat.mul_comm, Nat.mul_add_div (by omega), Nat.div_eq_of_lt hy, Nat.add_zero]
  have h2 : (x * n + y) % n = y := by rw [Nat.mul_comm, Nat.mul_add_mod, Nat.mod_eq_of_lt hy]
  exact ⟨h1, h2⟩
/-- One game more. -/
theorem so_step {c n a b : Nat} (ha : a < n) (hb : b < a) (p : Nat) (hp : p = if btC c a b then a * n + b else b * n + a) : ∀ j, j < n * n → (if j = p then 1 else soM c n a b j) = soM c n a (b + 1) j := fun j hj => by
  have hn : 0 < n := by omega
  obtain ⟨x, Hx⟩ : ∃ x, j / n = x := ⟨_, rfl⟩
  obtain ⟨y, Hy⟩ : ∃ y, j % n = y := ⟨_, rfl⟩
  have hyn : y < n := by rw [← Hy]; exact Nat.mod_lt _ hn
  have ej : j = x * n + y := by rw [← Hx, ← Hy, Nat.mul_comm]; exact (Nat.div_add_mod j n).symm
  have inj : ∀ u v, v < n → (j = u * n + v ↔ x = u ∧ y = v) := fun u v hv => by
    constructor
    · intro e
      have := dm (x := u) hv
      rw [← e, Hx, Hy] at this
      exact this
    · rintro ⟨rfl, rfl⟩; exact ej
  have tr : btC c b a = !btC c a b := btC_trn n c b a (List.mem_range.2 (by omega)) (List.mem_range.2 ha) (by omega)
  unfold soM
  rw [Hx, Hy]
  cases hc : btC c a b with
  | true =>
    rw [hc, if_pos rfl] at hp
    rw [hc] at tr
    subst hp
    by_cases e : x = a ∧ y = b
    · rw [if_pos ((inj a b (by omega)).2 e), e.1, e.2, hc, if_pos]
      unfold dnB
      simp
    · rw [if_neg fun h => e ((inj a b (by omega)).1 h)]
      by_cases e2 : x = b ∧ y = a
      · rw [e2.1, e2.2, tr]; simp
      · have hd : dnB a b x y = dnB a (b + 1) x y := by
          unfold dnB
          rw [Bool.eq_iff_iff]
          simp only [Bool.or_eq_true, decide_eq_true_eq]
          omega
        rw [hd]
  | false =>
    rw [hc, if_neg (by simp)] at hp
    rw [hc] at tr
    subst hp
    by_cases e : x = b ∧ y = a
    · rw [if_pos ((inj b a ha).2 e), e.1, e.2, tr, if_pos]
      unfold dnB
      simp
    · rw [if_neg fun h => e ((inj b a ha).1 h)]
      by_cases e2 : x = a ∧ y = b
      · rw [e2.1, e2.2, hc]; simp
      · have hd : dnB a b x y = dnB a (b + 1) x y := by
          unfold dnB
          rw [Bool.eq_iff_iff]
          simp only [Bool.or_eq_true, decide_eq_true_eq]
          omega
        rw [hd]
/-- The table, whole. -/
def soL (c n : Nat) : List Int := (List.range (n * n)).map (soM c n n 0)
theorem soL_at {c n x y : Nat} (hx : x < n) (hy : y < n) : (soL c n).getD (x * n + y) 0 = if btC c x y then 1 else 0 := by
  unfold soL
  rw [List.getD_eq_getElem?_getD, List.getElem?_map, List.getElem?_range (idx_lt hx hy)]
  obtain ⟨h1, h2⟩ := dm (x := x) hy
  show soM c n n 0 (x * n + y) = _
  unfold soM
  rw [h1, h2]
  have : dnB n 0 x y = true := by unfold dnB; simp [hx, hy]
  rw [this, Bool.true_and]
theorem soL_good {c n : Nat} (h1 : 1 ≤ n) (h9 : n ≤ 9) : GoodT n (soL c n) := by
  have htB : ∀ x y, x < n → y < n → tB n (soL c n) x y = btC c x y := fun x y hx hy => by
    unfold tB
    rw [soL_at hx hy]
    cases btC c x y <;> rfl
  refine ⟨h1, h9, by unfold soL; simp, fun i hi => ?_, fun p q hp hq hne => ?_, fun a ha => ?_⟩
  · unfold soL
    rw [List.getD_eq_getElem?_getD, List.getElem?_map, List.getElem?_range hi]
    show soM c n n 0 i = 0 ∨ soM c n n 0 i = 1
    unfold soM
    split
    · exact .inr rfl
    · exact .inl rfl
  · have hp := List.mem_range.1 hp
    have hq := List.mem_range.1 hq
    rw [htB p q hp hq, htB q p hq hp]
    exact btC_trn n c p q (List.mem_range.2 hp) (List.mem_range.2 hq) hne
  · rw [htB a a ha ha, btC_irr]
theorem soL_score {c n : Nat} : scT (tB n (soL c n)) n = scT (btC c) n := by
  unfold scT
  refine List.map_congr_left fun a ha => ?_
  have ha := List.mem_range.1 ha
  refine List.countP_congr fun b hb => ?_
  have hb := List.mem_range.1 hb
  unfold tB
  rw [soL_at ha hb]
  cases btC c a b <;> simp
end Go.Proofs.Ytgkfddcmngodgab
