/- Three ways to part the places: the graphs of Latin squares are strong. Nothing of the program. -/
import Derived.Test.YtlmjlffipinjiabSrF
namespace Go.Proofs.Ytlmjlffipinjiab
section
/-- Places that are alike in one way. -/
def akG (f : Nat → Nat) (a b : Nat) : Int := if f a = f b then 1 else 0
/-- f parts v places into classes of n each. -/
def Par (v n : Nat) (f : Nat → Nat) : Prop := ∀ a, a < v → sR v (akG f a) = n
/-- Each class of f meets each of g just once. -/
def Crs (v : Nat) (f g : Nat → Nat) : Prop := ∀ a b, a < v → b < v → (sR v fun c => akG f a c * akG g b c) = 1
theorem ak_self {v n : Nat} {f : Nat → Nat} (h : Par v n f) {a b : Nat} (ha : a < v) : (sR v fun c => akG f a c * akG f b c) = n * akG f a b := by
  by_cases e : f a = f b
  · have h1 : akG f a b = 1 := if_pos e
    rw [h1, Int.mul_one, ← h a ha]
    exact sR_congr fun c _ => by
      unfold akG
      rw [e]
      split <;> rfl
  · have h1 : akG f a b = 0 := if_neg e
    rw [h1, Int.mul_zero, ← sR_nil v]
    exact sR_congr fun c _ => by
      unfold akG
      by_cases k : f a = f c
      · rw [if_neg (c := f b = f c) fun q => e (k.trans q.symm)]; omega
      · rw [if_neg k]; omega
theorem ak_sym (f : Nat → Nat) (a b : Nat) : akG f a b = akG f b a := by
  unfold akG
  by_cases e : f a = f b
  · rw [if_pos e, if_pos e.symm]
  · rw [if_neg e, if_neg fun q => e q.symm]
theorem ak_diag (f : Nat → Nat) (a : Nat) : akG f a a = 1 := if_pos rfl
theorem ak_bit (f : Nat → Nat) (a b : Nat) : akG f a b = 0 ∨ akG f a b = 1 := by
  unfold akG
  split
  · exact .inr rfl
  · exact .inl rfl
theorem Crs.symm {v : Nat} {f g : Nat → Nat} (h : Crs v f g) : Crs v g f := fun a b ha hb => by
  rw [← h b a hb ha]
  exact sR_congr fun c _ => Int.mul_comm _ _
/-- Alike in two ways: the same. -/
theorem Crs.one {v : Nat} {f g : Nat → Nat} (h : Crs v f g) {a b : Nat} (ha : a < v) (hb : b < v) (hne : a ≠ b) : akG f a b + akG g a b ≤ 1 := by
  rcases ak_bit f a b with e1 | e1 <;> rcases ak_bit g a b with e2 | e2
  · omega
  · omega
  · omega
  · exfalso
    have k := sR_less (f := idR a) (g := fun c => akG f a c * akG g a c) (fun c _ => by
      show idR a c ≤ akG f a c * akG g a c
      unfold idR
      by_cases q : a = c
      · subst q; rw [if_pos rfl, ak_diag, ak_diag]; decide
      · rw [if_neg q]
        rcases ak_bit f a c with e1 | e1 <;> rcases ak_bit g a c with e2 | e2 <;> rw [e1, e2] <;> decide) b hb (by
      show idR a b + 1 ≤ akG f a b * akG g a b
      unfold idR
      rw [if_neg hne, e1, e2]
      decide)
    have e3 : sR v (idR a : Nat → Int) = 1 := by
      have := sR_id (fun _ => 1) a v
      rw [if_pos ha] at this
      rw [← this]
      exact sR_congr fun x _ => by omega
    have e4 : (sR v fun c => akG f a c * akG g a c) = 1 := h a a ha ha
    omega
/-- Joined: alike in one of three ways. -/
def tpG (f g h : Nat → Nat) (a b : Nat) : Int := akG f a b + akG g a b + akG h a b - 3 * idR a b
theorem id_self (a : Nat) : (idR a a : Int) = 1 := if_pos rfl
theorem id_sym (a b : Nat) : (idR a b : Int) = idR b a := by
  unfold idR
  by_cases e : a = b
  · rw [if_pos e, if_pos e.symm]
  · rw [if_neg e, if_neg fun q => e q.symm]
variable {v n : Nat} {f g h : Nat → Nat}
theorem tp_gr (c1 : Crs v f g) (c2 : Crs v f h) (c3 : Crs v g h) : Gr v (tpG f g h) where
  bit a b ha hb := by
    unfold tpG
    by_cases e : a = b
    · subst e
      rw [ak_diag, ak_diag, ak_diag, id_self]
      exact .inl rfl
    · have k1 := c1.one ha hb e
      have k2 := c2.one ha hb e
      have k3 := c3.one ha hb e
      have k4 : (idR a b : Int) = 0 := if_neg e
      rw [k4]
      rcases ak_bit f a b with e1 | e1 <;> rcases ak_bit g a b with e2 | e2 <;> rcases ak_bit h a b with e3 | e3 <;> omega
  sym a b _ _ := by unfold tpG; rw [ak_sym f, ak_sym g, ak_sym h, id_sym]
  diag a _ := by unfold tpG; rw [ak_diag, ak_diag, ak_diag, id_self]; rfl
theorem tp_deg (p1 : Par v n f) (p2 : Par v n g) (p3 : Par v n h) {a : Nat} (ha : a < v) : dgG v (tpG f g h) a = 3 * (n - 1) := by
  have e : dgG v (tpG f g h) a = sR v (fun c => 1 * akG f a c + 1 * akG g a c + (1 * akG h a c + (-3) * (idR a c * 1))) := sR_congr fun c _ => by unfold tpG; omega
  rw [e, sR_four, show sR v (fun c => akG f a c) = n from p1 a ha, show sR v (fun c => akG g a c) = n from p2 a ha, show sR v (fun c => akG h a c) = n from p3 a ha, sR_id (fun _ => 1) a v, if_pos ha]
  omega
theorem tp_cm (p1 : Par v n f) (p2 : Par v n g) (p3 : Par v n h) (c1 : Crs v f g) (c2 : Crs v f h) (c3 : Crs v g h) {a b : Nat} (ha : a < v) (hb : b < v) :
    cmG v (tpG f g h) a b = n * (akG f a b + akG g a b + akG h a b) + 6 - 6 * (akG f a b + akG g a b + akG h a b) + 9 * idR a b := by
  have e : cmG v (tpG f g h) a b = sR v (fun c => (1 * (akG f a c * akG f b c) + 1 * (akG g a c * akG g b c) + 1 * (akG h a c * akG h b c)) + ((1 * (akG f a c * akG g b c) + 1 * (akG g a c * akG f b c) + 1 * (akG f a c * akG h b c)) + ((1 * (akG h a c * akG f b c) + 1 * (akG g a c * akG h b c) + 1 * (akG h a c * akG g b c)) + ((-3) * (idR a c * (akG f b c + akG g b c + akG h b c)) + (-3) * (idR b c * (akG f a c + akG g a c + akG h a c)) + 9 * (idR a c * idR b c))))) := sR_congr fun c _ => by
    unfold tpG
    generalize (idR a c : Int) = x
    generalize (idR b c : Int) = y
    grind
  rw [e]
  simp only [sR_add, sR_mul]
  rw [ak_self p1 ha, ak_self p2 ha, ak_self p3 ha, c1 a b ha hb, c1.symm a b ha hb, c2 a b ha hb, c2.symm a b ha hb, c3 a b ha hb, c3.symm a b ha hb, sR_id _ a v, if_pos ha, sR_id _ b v, if_pos hb, sR_id _ a v, if_pos ha, ak_sym f b a, ak_sym g b a, ak_sym h b a, id_sym b a]
  grind
/-- The graph of three ways is strong. -/
theorem tp_stg (p1 : Par v n f) (p2 : Par v n g) (p3 : Par v n h) (c1 : Crs v f g) (c2 : Crs v f h) (c3 : Crs v g h) : Stg v (3 * (n - 1)) n 6 (tpG f g h) where
  deg a ha := tp_deg p1 p2 p3 ha
  near a b ha hb k := by
    have hne : a ≠ b := fun e => by
      subst e
      rw [(tp_gr c1 c2 c3).diag a ha] at k
      exact absurd k (by decide)
    have k4 : (idR a b : Int) = 0 := if_neg hne
    rw [tp_cm p1 p2 p3 c1 c2 c3 ha hb, k4]
    unfold tpG at k
    rw [k4] at k
    have : akG f a b + akG g a b + akG h a b = 1 := by omega
    rw [this]
    omega
  far a b ha hb hne k := by
    have k4 : (idR a b : Int) = 0 := if_neg hne
    rw [tp_cm p1 p2 p3 c1 c2 c3 ha hb, k4]
    unfold tpG at k
    rw [k4] at k
    have : akG f a b + akG g a b + akG h a b = 0 := by omega
    rw [this]
    omega
end
end Go.Proofs.Ytlmjlffipinjiab
