/- Conjugates: what they are; they are squares, with as many transversals and intercalates; nothing of the program. -/
import Derived.Test.YtncnaaohihmjnaaDoorLAp
namespace Go.Proofs.YtncnaaohihmjnaaDoor

/-- Which of row, column and number becomes row, column, number. -/
def cA (k r c x : Nat) : Nat := if k ≤ 1 then r else if k ≤ 3 then c else x
def cB (k r c x : Nat) : Nat := if k = 0 ∨ k = 5 then c else if k = 1 ∨ k = 3 then x else r
def cD (k r c x : Nat) : Nat := if k = 0 ∨ k = 2 then x else if k = 1 ∨ k = 4 then c else r
def Cj (n : Nat) (s : Nat → Nat → Nat) (k : Nat) (t : Nat → Nat → Nat) : Prop := ∀ r c, r < n → c < n → t (cA k r c (s r c)) (cB k r c (s r c)) = cD k r c (s r c)
theorem cj_lt {n k r c x : Nat} (hr : r < n) (hc : c < n) (hx : x < n) : cA k r c x < n ∧ cB k r c x < n ∧ cD k r c x < n := by
  unfold cA cB cD
  refine ⟨?_, ?_, ?_⟩ <;> (repeat' split) <;> assumption
theorem cj_inj {n k : Nat} {s : Nat → Nat → Nat} (L : Lat n s) (hk : k ≤ 5) {r c r' c' : Nat} (hr : r < n) (hc : c < n) (hr' : r' < n) (hc' : c' < n) (h1 : cA k r c (s r c) = cA k r' c' (s r' c')) (h2 : cB k r c (s r c) = cB k r' c' (s r' c')) : r = r' ∧ c = c' := by
  rcases (show k = 0 ∨ k = 1 ∨ k = 2 ∨ k = 3 ∨ k = 4 ∨ k = 5 by omega) with rfl | rfl | rfl | rfl | rfl | rfl
  · exact ⟨h1, h2⟩
  · have e1 : r = r' := h1
    have e2 : s r c = s r' c' := h2
    subst e1
    exact ⟨rfl, L.row r hr c c' hc hc' e2⟩
  · have e1 : c = c' := h1
    have e2 : r = r' := h2
    exact ⟨e2, e1⟩
  · have e1 : c = c' := h1
    have e2 : s r c = s r' c' := h2
    subst e1
    exact ⟨L.col c hc r r' hr hr' e2, rfl⟩
  · have e1 : s r c = s r' c' := h1
    have e2 : r = r' := h2
    subst e2
    exact ⟨rfl, L.row r hr c c' hc hc' e1⟩
  · have e1 : s r c = s r' c' := h1
    have e2 : c = c' := h2
    subst e2
    exact ⟨L.col c hc r r' hr hr' e1, rfl⟩
theorem cj_onto {n k : Nat} {s : Nat → Nat → Nat} (L : Lat n s) (hk : k ≤ 5) {i j : Nat} (hi : i < n) (hj : j < n) : ∃ r c, r < n ∧ c < n ∧ cA k r c (s r c) = i ∧ cB k r c (s r c) = j := by
  rcases (show k = 0 ∨ k = 1 ∨ k = 2 ∨ k = 3 ∨ k = 4 ∨ k = 5 by omega) with rfl | rfl | rfl | rfl | rfl | rfl
  · exact ⟨i, j, hi, hj, rfl, rfl⟩
  · obtain ⟨c, hc, e⟩ := L.onto hi hj
    exact ⟨i, c, hi, hc, rfl, e⟩
  · exact ⟨j, i, hj, hi, rfl, rfl⟩
  · obtain ⟨r, hr, e⟩ := L.ontoC hi hj
    exact ⟨r, i, hr, hi, rfl, e⟩
  · obtain ⟨c, hc, e⟩ := L.onto hj hi
    exact ⟨j, c, hj, hc, e, rfl⟩
  · obtain ⟨r, hr, e⟩ := L.ontoC hj hi
    exact ⟨r, j, hr, hj, e, rfl⟩
theorem cj_one {n k : Nat} {s t t' : Nat → Nat → Nat} (L : Lat n s) (hk : k ≤ 5) (h : Cj n s k t) (h' : Cj n s k t') {i j : Nat} (hi : i < n) (hj : j < n) : t i j = t' i j := by
  obtain ⟨r, c, hr, hc, rfl, rfl⟩ := cj_onto L hk hi hj
  rw [h r c hr hc, h' r c hr hc]
theorem cj_all {n k : Nat} {s t : Nat → Nat → Nat} (L : Lat n s) (hk : k ≤ 5) (h : Cj n s k t) : Lat n t ∧ trN n t = trN n s ∧ icN n t = icN n s := by
  have hC2 : C2 n s (fun i j => s j i) := fun i j _ _ => rfl
  have L2 := hC2.lat L
  rcases (show k = 0 ∨ k = 1 ∨ k = 2 ∨ k = 3 ∨ k = 4 ∨ k = 5 by omega) with rfl | rfl | rfl | rfl | rfl | rfl
  · have e : ∀ i j, i < n → j < n → s i j = t i j := fun i j hi hj => (h i j hi hj).symm
    have h1 : C2 n t (fun i j => s j i) := fun i j hi hj => e i j hi hj
    have h2 : C2 n (fun i j => s j i) t := h1.symm
    exact ⟨h2.lat L2, ((tr_two h2).symm.trans (tr_two hC2).symm), ((ic_two h2).symm.trans (ic_two hC2).symm)⟩
  · have h1 : C1 n s t := fun i j hi hj => h i j hi hj
    exact ⟨h1.lat L, (tr_one L h1).symm, (ic_one L h1).symm⟩
  · have h1 : C2 n s t := fun i j hi hj => h i j hi hj
    exact ⟨h1.lat L, (tr_two h1).symm, (ic_two h1).symm⟩
  · have h1 : C1 n (fun i j => s j i) t := fun i j hi hj => h j i hj hi
    exact ⟨h1.lat L2, (tr_one L2 h1).symm.trans (tr_two hC2).symm, (ic_one L2 h1).symm.trans (ic_two hC2).symm⟩
  · have h1 : C1 n s (fun i j => t j i) := fun i j hi hj => h i j hi hj
    have L3 := h1.lat L
    have h2 : C2 n (fun i j => t j i) t := fun i j _ _ => rfl
    exact ⟨h2.lat L3, (tr_two h2).symm.trans (tr_one L h1).symm, (ic_two h2).symm.trans (ic_one L h1).symm⟩
  · have h1 : C1 n (fun i j => s j i) (fun i j => t j i) := fun i j hi hj => h j i hj hi
    have L3 := h1.lat L2
    have h2 : C2 n (fun i j => t j i) t := fun i j _ _ => rfl
    exact ⟨h2.lat L3, (tr_two h2).symm.trans ((tr_one L2 h1).symm.trans (tr_two hC2).symm), (ic_two h2).symm.trans ((ic_one L2 h1).symm.trans (ic_two hC2).symm)⟩
end Go.Proofs.YtncnaaohihmjnaaDoor
