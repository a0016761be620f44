/- Lists that are orthogonal to each other are no more than their length. Nothing of the program. -/
import Derived.Test.YtjfjdidibglhaabRaB
namespace Go.Proofs.Ytjfjdidibglhaab
theorem sR_mulr (f : Nat → Int) (c : Int) (n : Nat) : sR n (fun i => f i * c) = sR n f * c := by
  rw [Int.mul_comm, ← sR_mul]
  exact sR_congr fun i _ => Int.mul_comm _ _
theorem sR_prod (f g : Nat → Int) (n m : Nat) : sR n f * sR m g = sR n fun i => sR m fun j => f i * g j := by
  rw [← sR_mulr]
  exact sR_congr fun i _ => (sR_mul _ _ _).symm
/-- Bessel: at each place. -/
theorem bessel {N M : Nat} {x : Nat → Nat → Int} {w e : Nat → Int} {c : Int} (hc : 0 < c) (he : ∀ i, i < M → e i * w i = c)
    (ho : ∀ i j, i < M → j < M → sR N (fun a => x i a * x j a) = idR i j * w i) {a : Nat} (ha : a < N) : sR M (fun i => e i * (x i a * x i a)) ≤ c := by
  obtain ⟨g, hg⟩ : ∃ g : Nat → Int, ∀ i, g i = e i * x i a := ⟨fun i => e i * x i a, fun _ => rfl⟩
  obtain ⟨T, hT⟩ : ∃ T, sR M (fun i => e i * (x i a * x i a)) = T := ⟨_, rfl⟩
  have h0 : 0 ≤ sR N fun b => (c * idR a b - sR M fun i => g i * x i b) * (c * idR a b - sR M fun i => g i * x i b) := sR_nonneg fun b _ => sq_nn _
  have e1 : (sR N fun b => (sR M fun i => g i * x i b) * (sR M fun i => g i * x i b)) = c * T := by
    have s1 : (sR N fun b => (sR M fun i => g i * x i b) * (sR M fun i => g i * x i b)) = sR N fun b => sR M fun i => sR M fun j => (g i * g j) * (x i b * x j b) := sR_congr fun b _ => by
      rw [sR_prod]
      exact sR_congr fun i _ => sR_congr fun j _ => by grind
    have s2 : (sR M fun i => sR N fun b => sR M fun j => (g i * g j) * (x i b * x j b)) = sR M fun i => c * (e i * (x i a * x i a)) := sR_congr fun i hi => by
      rw [sR_swap]
      have s3 : (sR M fun j => sR N fun b => (g i * g j) * (x i b * x j b)) = sR M fun j => idR i j * (g i * g j * w i) := sR_congr fun j hj => by
        rw [sR_mul, ho i j hi hj]
        grind
      rw [s3, sR_id (fun j => g i * g j * w i) i M, if_pos hi, hg i]
      have := he i hi
      grind
    rw [s1, sR_swap, s2, sR_mul, hT]
  have e2 : (sR N fun b => idR a b * sR M fun i => g i * x i b) = T := by
    rw [sR_id (fun b => sR M fun i => g i * x i b) a N, if_pos ha, ← hT]
    exact sR_congr fun i _ => by rw [hg i]; grind
  have e3 : (sR N fun b => (c * idR a b - sR M fun i => g i * x i b) * (c * idR a b - sR M fun i => g i * x i b)) = sR N fun b => c * c * (idR a b * idR a b) + (-2 * c) * (idR a b * sR M fun i => g i * x i b) + 1 * ((sR M fun i => g i * x i b) * (sR M fun i => g i * x i b)) := sR_congr fun b _ => by
    generalize (idR a b : Int) = p
    generalize (sR M fun i => g i * x i b) = q
    grind
  rw [e3, sR_three, e1, e2, sR_id (fun b => idR a b) a N, if_pos ha, id_self] at h0
  rw [hT]
  have h1 : 0 ≤ c * (c - T) := by
    have : c * (c - T) = c * c * 1 + -2 * c * T + 1 * (c * T) := by grind
    rw [this]
    exact h0
  rcases (show c < T ∨ T ≤ c by omega) with k | k
  · exfalso
    have := Int.mul_pos hc (show 0 < T - c by omega)
    have e : c * (T - c) = - (c * (c - T)) := by grind
    omega
  · exact k
theorem orth_le {N M : Nat} {x : Nat → Nat → Int} {w e : Nat → Int} {c : Int} (hc : 0 < c) (he : ∀ i, i < M → e i * w i = c)
    (ho : ∀ i j, i < M → j < M → sR N (fun a => x i a * x j a) = idR i j * w i) : M ≤ N := by
  have h1 : (sR N fun a => sR M fun i => e i * (x i a * x i a)) ≤ sR N fun _ => c := sR_mono fun a ha => bessel hc he ho ha
  have h2 : (sR N fun a => sR M fun i => e i * (x i a * x i a)) = sR M fun _ => c := by
    rw [sR_swap]
    exact sR_congr fun i hi => by
      rw [sR_mul, ho i i hi hi, id_self, Int.one_mul, he i hi]
  rw [h2, sR_int, sR_int] at h1
  have := Int.le_of_mul_le_mul_right h1 hc
  omega
end Go.Proofs.Ytjfjdidibglhaab
