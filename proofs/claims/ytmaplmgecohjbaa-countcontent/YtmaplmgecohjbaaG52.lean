/- The walk of the document's Number. -/
import Derived.Test.YtmaplmgecohjbaaPList
import Derived.Test.YtmaplmgecohjbaaCNum
namespace Go.Proofs.Ytmaplmgecohjbaa
open Go.RowKit

theorem numL_inj {b : Nat} : ∀ {l m : List Nat}, (∀ x ∈ l, x < b) → (∀ x ∈ m, x < b) → l.length = m.length → numL b l = numL b m → l = m
  | [], [], _, _, _, _ => rfl
  | x :: l, y :: m, hl, hm, hlen, h => by
    have hx := hl x (by simp)
    have hy := hm y (by simp)
    rw [numL, numL] at h
    have e1 : x = y := by
      have := congrArg (· % b) h
      simp only [Nat.add_mul_mod_self_left, Nat.mod_eq_of_lt hx, Nat.mod_eq_of_lt hy] at this
      exact this
    subst e1
    have e2 : numL b l = numL b m := Nat.eq_of_mul_eq_mul_left (by omega : 0 < b) (by omega)
    rw [numL_inj (fun z hz => hl z (by simp [hz])) (fun z hz => hm z (by simp [hz])) (by simpa using hlen) e2]
theorem numL_drop (b : Nat) (l : List Nat) {i : Nat} (hi : i < l.length) : numL b (l.drop i) = numL b (l.drop (i + 1)) * b + l.getD i 0 := by
  rw [List.drop_eq_getElem_cons hi, numL, Nat.mul_comm]
  simp [List.getD_eq_getElem?_getD, hi]
  omega

set_option maxRecDepth 100000 in
set_option maxHeartbeats 1000000 in
theorem Number_any (b : Nat) (l : List Nat) (v : Value) (w : World) (hb : b ≤ 7) (hv : Sl w v (l.map Int.ofNat)) (hl : l.length ≤ 7) (hx : ∀ x ∈ l, x < b) :
    Calls Try.prog 84 #[v, .int .i64 (b : Int)] w fun e w' => e = .returned (.int .i64 (numL b l : Int)) ∧ w' = w := by
  obtain ⟨m, Hm⟩ : ∃ m, Hid (l.length = m) := ⟨_, rfl⟩
  obtain ⟨a, cap, rfl, hcv⟩ := hv
  rw [List.length_map] at hcv ⊢
  rw [Hm.out] at hcv hl ⊢
  have HV : Hid (∀ j, j < m → ∃ B off, a = some ⟨B, off, none⟩ ∧ w.cell? ⟨B, off + j, none⟩ = some (.int .i64 (l.getD j 0 : Int))) := fun j hj => by
    obtain ⟨B, off, e, h⟩ := hcv j hj
    refine ⟨B, off, e, ?_⟩
    rw [h]
    have : j < l.length := by rw [Hm.out]; exact hj
    simp [this]
  have HND : Hid (∀ i, i < m → numL b (l.drop i) = numL b (l.drop (i + 1)) * b + l.getD i 0) := fun i hi => numL_drop b l (by rw [Hm.out]; exact hi)
  have HBD : Hid (∀ i, numL b (l.drop i) ≤ 823543 ∧ ∀ i, i < m → l.getD i 0 < 7) := fun i => by
    refine ⟨?_, fun i hi => ?_⟩
    · by_cases h0 : 0 < b
      · have h1 := numL_lt h0 (l := l.drop i) (fun x h => hx x (List.mem_of_mem_drop h))
        have h2 : b ^ (l.drop i).length ≤ 7 ^ 7 := Nat.le_trans (Nat.pow_le_pow_left hb _) (Nat.pow_le_pow_right (by omega) (by rw [List.length_drop, Hm.out]; omega))
        have h3 : (7 : Nat) ^ 7 = 823543 := by decide
        omega
      · have : l = [] := by
          cases l with
          | nil => rfl
          | cons x t => have := hx x (by simp); omega
        rw [this]; simp [numL]
    · have h1 : i < l.length := by rw [Hm.out]; exact hi
      have := hx (l.getD i 0) (by simp [List.getD_eq_getElem?_getD, h1])
      omega
  clear hcv hx
  go_enter Try.func84, Try.ntmps84
  go_wp2
  go_loopw [5, 6] (fun o iv wr => ∃ i : Nat, o = .int .i64 (numL b (l.drop i) : Int) ∧ iv = .int .i64 ((i : Int) - 1) ∧ i ≤ m ∧ wr = w) (fun _ iv _ => (intOf iv + 1).toNat)
  case atStart => exact ⟨m, by rw [← Hm.out, List.drop_length]; rfl, rfl, by omega, rfl⟩
  case round =>
    obtain ⟨i, rfl, rfl, hi, rfl⟩ := hrel
    by_cases hp : 0 < i
    · obtain ⟨k, rfl⟩ : ∃ k, i = k + 1 := ⟨i - 1, by omega⟩
      have hki : ((k + 1 : Nat) : Int) - 1 = (k : Int) := by omega
      have hk0 : (0 : Int) ≤ (k : Int) := by omega
      have hkd : decide ((0 : Int) ≤ (k : Int)) = true := decide_eq_true hk0
      have hkm : (k : Int) < m := by omega
      obtain ⟨B, off, rfl, hc⟩ := HV.out k (by omega)
      have hnd := HND.out k (by omega)
      have hb1 := (HBD.out (k + 1)).1
      have hb2 := (HBD.out 0).2 k (by omega)
      obtain ⟨x, Hx⟩ : ∃ x, Hid (l.getD k 0 = x) := ⟨_, rfl⟩
      obtain ⟨y, Hy⟩ : ∃ y, Hid (numL b (l.drop (k + 1)) = y) := ⟨_, rfl⟩
      rw [Hx.out] at hc hnd hb2
      rw [Hy.out] at hnd hb1 ⊢
      have HN : Hid (numL b (l.drop k) = y * b + x) := hnd
      have hyb : y * b ≤ 823543 * 7 := Nat.mul_le_mul hb1 hb
      have hybi : (y : Int) * (b : Int) ≤ 5764801 := by have : ((y * b : Nat) : Int) ≤ 5764801 := by omega
                                                        simpa using this
      have hyb0 : (0 : Int) ≤ (y : Int) * (b : Int) := by have : (0 : Int) ≤ ((y * b : Nat) : Int) := by omega
                                                          simpa using this
      clear hnd
      rw [hki]
      go_wp2
      go_roundw
      case rel => exact ⟨k, by rw [HN.out]; go_num, by go_num, by omega, trivial⟩
      case measure => simp [intOf]
    · obtain rfl : i = 0 := by omega
      have hkd : decide ((0 : Int) ≤ ((0 : Nat) : Int) - 1) = false := by decide
      go_wp2
      go_ret
      exact ⟨rfl, rfl⟩

end Go.Proofs.Ytmaplmgecohjbaa
