/- What eigenvalues say of strong graphs. Nothing of the program. -/
import Derived.Test.YtlmjlffipinjiabSrY
namespace Go.Proofs.Ytlmjlffipinjiab

theorem nR_int : ∀ n : Nat, (nR n : Int) = n
  | 0 => rfl
  | n + 1 => by rw [nR, nR_int n]; simp
/-- Three kinds of matrices times three. -/
theorem SrR.mul2 {n : Nat} {k l m : Int} {A : Nat → Nat → Int} (S : SrR n k l m A) (x y z x' y' z' : Int) {a b : Nat} (ha : a < n) (hb : b < n) :
    sR n (fun h => (x * A a h + y * idR a h + z) * (x' * A h b + y' * idR h b + z')) = x * x' * (k * idR a b + l * A a b + m * (1 - idR a b - A a b)) + x * y' * A a b + x * z' * k + y * x' * A a b + y * y' * idR a b + y * z' + z * x' * k + z * y' + z * z' * n := by
  have e : sR n (fun h => (x * A a h + y * idR a h + z) * (x' * A h b + y' * idR h b + z')) = sR n (fun h => x * (x' * (A a h * A h b) + y' * (A a h * idR h b) + z' * A a h) + y * (idR a h * (x' * A h b + y' * idR h b + z')) + z * (x' * A h b + y' * (1 * idR h b) + z' * 1)) := sR_congr fun h _ => by grind
  rw [e, sR_three, sR_three, sR_three, S.sq a b ha hb, sR_idr _ b n hb, sR_id _ a n, if_pos ha, S.col b hb, sR_idr _ b n hb, sR_one]
  rw [show sR n (fun h => A a h) = k from S.row a ha, nR_int]
  grind
/-- Where d has no root. -/
theorem SrR.nosq {n : Nat} {k l m d : Int} {A : Nat → Nat → Int} (S : SrR n k l m A) (hn : 1 ≤ n) (hc : k * (k - l - 1) = (n - k - 1) * m) (hd : d = (l - m) * (l - m) + 4 * (k - m)) (hs : ∀ r : Nat, (r * r : Int) ≠ d) :
    2 * k + (n - 1) * (l - m) = 0 ∧ n % 2 = 1 := by
  obtain ⟨v, hv⟩ : ∃ v : Int, (n : Int) = v := ⟨_, rfl⟩
  rw [hv] at hc ⊢
  obtain ⟨X, hX⟩ : ∃ X : Nat → Nat → Int, X = fun a b => 2 * v * A a b + (-(l - m) * v) * idR a b + (-(2 * k - l + m)) := ⟨_, rfl⟩
  obtain ⟨Y, hY⟩ : ∃ Y : Nat → Nat → Int, Y = fun a b => 0 * A a b + v * idR a b + (-1) := ⟨_, rfl⟩
  have hc0 : (⟨0, 2 * v⟩ : Zq d) ≠ 0 := fun h => by
    have : 2 * v = 0 := congrArg Zq.im h
    omega
  obtain ⟨f, hf, e⟩ := Zq.tr_idem hs n (n - 1) (fun a b => (⟨X a b, Y a b⟩ : Zq d)) ⟨0, 2 * v⟩ hc0 (by omega)
    (fun a b ha hb => by
      refine Zq.ext ?_ ?_
      · rw [Zq.sum_re]
        show sR n (fun h => X a h * X h b + d * (Y a h * Y h b)) = 0 * X a b + d * (2 * v * Y a b)
        rw [sR_add (fun h => X a h * X h b) (fun h => d * (Y a h * Y h b)), sR_mul]
        subst hX hY
        rw [S.mul2 _ _ _ _ _ _ ha hb, S.mul2 _ _ _ _ _ _ ha hb, hv]
        dsimp only
        generalize A a b = x
        generalize (idR a b : Int) = y
        subst hd
        clear hs hc0
        grind
      · rw [Zq.sum_im]
        show sR n (fun h => X a h * Y h b + Y a h * X h b) = 0 * Y a b + 2 * v * X a b
        rw [sR_add (fun h => X a h * Y h b) (fun h => Y a h * X h b)]
        subst hX hY
        rw [S.mul2 _ _ _ _ _ _ ha hb, S.mul2 _ _ _ _ _ _ ha hb, hv]
        dsimp only
        generalize A a b = x
        generalize (idR a b : Int) = y
        clear hs hc0 hd
        grind)
    (fun a ha => by
      refine Zq.ext ?_ ?_
      · rw [Zq.sum_re]
        show sR n (fun b => X a b) = 0
        subst hX
        have e : sR n (fun b => 2 * v * A a b + (-(l - m) * v) * idR a b + (-(2 * k - l + m))) = sR n (fun b => 2 * v * A a b + (-(l - m) * v) * (idR a b * 1) + (-(2 * k - l + m)) * 1) := sR_congr fun h _ => by grind
        show sR n (fun b => 2 * v * A a b + (-(l - m) * v) * idR a b + (-(2 * k - l + m))) = 0
        rw [e, sR_three, show sR n (fun h => A a h) = k from S.row a ha, sR_id (fun _ => 1) a n, if_pos ha, sR_one, nR_int, hv]
        clear hs hc0 hd hc
        grind
      · rw [Zq.sum_im]
        show sR n (fun b => Y a b) = 0
        subst hY
        have e : sR n (fun b => 0 * A a b + v * idR a b + (-1)) = sR n (fun b => 0 * A a b + v * (idR a b * 1) + (-1) * 1) := sR_congr fun h _ => by grind
        show sR n (fun b => 0 * A a b + v * idR a b + (-1)) = 0
        rw [e, sR_three, show sR n (fun h => A a h) = k from S.row a ha, sR_id (fun _ => 1) a n, if_pos ha, sR_one, nR_int, hv]
        clear hs hc0 hd hc
        grind)
    (fun a b ha hb h => by omega)
  have e1 := congrArg Zq.re e
  have e2 := congrArg Zq.im e
  rw [Zq.num_is] at e1 e2
  rw [Zq.sum_re] at e1
  rw [Zq.sum_im] at e2
  have f1 : sR n (fun a => X a a) = 0 := by
    refine e1.trans ?_
    show (f : Int) * 0 + d * (0 * (2 * v)) = 0
    grind
  have f2 : sR n (fun a => Y a a) = 2 * f * v := by
    refine e2.trans ?_
    show (f : Int) * (2 * v) + 0 * 0 = 2 * f * v
    grind
  have g1 : sR n (fun a => X a a) = v * (-(l - m) * v - (2 * k - l + m)) := by
    subst hX
    have e : sR n (fun a => 2 * v * A a a + (-(l - m) * v) * idR a a + (-(2 * k - l + m))) = sR n (fun _ => (-(l - m) * v - (2 * k - l + m)) * 1) := sR_congr fun h hh => by
      rw [S.diag h hh]
      have : (idR h h : Int) = 1 := if_pos rfl
      rw [this]
      grind
    show sR n (fun a => 2 * v * A a a + (-(l - m) * v) * idR a a + (-(2 * k - l + m))) = _
    rw [e, sR_mul, sR_one, nR_int, hv]
    grind
  have g2 : sR n (fun a => Y a a) = v * (v - 1) := by
    subst hY
    have e : sR n (fun a => 0 * A a a + v * idR a a + (-1)) = sR n (fun _ => (v - 1) * 1) := sR_congr fun h hh => by
      have : (idR h h : Int) = 1 := if_pos rfl
      rw [this]
      grind
    show sR n (fun a => 0 * A a a + v * idR a a + (-1)) = _
    rw [e, sR_mul, sR_one, nR_int, hv]
    grind
  have hv0 : v ≠ 0 := by omega
  have h1 : v * (-(l - m) * v - (2 * k - l + m)) = 0 := g1.symm.trans f1
  have h2 : v * (v - 1 - 2 * f) = 0 := by
    have := g2.symm.trans f2
    grind
  rcases Int.mul_eq_zero.1 h1 with k1 | k1
  · exact absurd k1 hv0
  · rcases Int.mul_eq_zero.1 h2 with k2 | k2
    · exact absurd k2 hv0
    · refine ⟨?_, by omega⟩
      clear e e1 e2 f1 f2 g1 g2 h1 h2 hs hc hd hX hY hc0
      grind
/-- What eigenvalues say of a strong graph. -/
theorem SrR.fits {n : Nat} {k l m d : Int} {A : Nat → Nat → Int} (S : SrR n k l m A) (hn : 1 ≤ n) (hc : k * (k - l - 1) = (n - k - 1) * m) (hd : d = (l - m) * (l - m) + 4 * (k - m)) (h0 : d ≠ 0) :
    (2 * k + (n - 1) * (l - m) = 0 ∧ n % 2 = 1) ∨ ∃ r f : Nat, 1 ≤ r ∧ (r * r : Int) = d ∧ f + 1 ≤ n ∧ (n - 1 - 2 * f : Int) * r = 2 * k + (n - 1) * (l - m) := by
  by_cases hs : ∃ r : Nat, (r * r : Int) = d
  · obtain ⟨r, hr⟩ := hs
    right
    have hr1 : 1 ≤ r := by
      rcases Nat.eq_zero_or_pos r with h | h
      · subst h; simp at hr; exact absurd hr.symm h0
      · exact h
    obtain ⟨f, hf, e⟩ := S.trace (d := (r : Int)) hn (by rw [nR_int]; exact hc) (by rw [hr, hd]) (by
      rw [nR_int]
      intro h
      rcases Int.mul_eq_zero.1 h with h | h
      · omega
      · omega)
    rw [nR_int, nR_int] at e
    exact ⟨r, f, hr1, hr, hf, e⟩
  · exact .inl (S.nosq hn hc hd fun r h => hs ⟨r, h⟩)
end Go.Proofs.Ytlmjlffipinjiab
