/- What is strong fits; the other of a strong graph; friends (Erdos, Renyi, Sos). Nothing of the program. -/
import Derived.Test.YtlmjlffipinjiabSrN
namespace Go.Proofs.Ytlmjlffipinjiab
section
variable {n : Nat} {A : Nat → Nat → Int}
theorem sq_pos' {x : Int} (h : x ≠ 0) : 1 ≤ x * x := by
  rcases Int.lt_or_gt_of_ne h with k | k
  · have := Int.mul_le_mul (a := 1) (b := 1) (c := -x) (d := -x) (by omega) (by omega) (by omega) (by omega)
    rw [Int.neg_mul_neg] at this
    omega
  · have := Int.mul_le_mul (a := 1) (b := 1) (c := x) (d := x) (by omega) (by omega) (by omega) (by omega)
    omega
theorem sq_nn (x : Int) : 0 ≤ x * x := by
  by_cases h : x = 0
  · subst h; decide
  · have := sq_pos' h; omega
/-- What is strong, with somebody joined, fits; m is 0 where all are joined. -/
theorem Stg.fits {k l m d : Int} (S : Stg n k l m A) (G : Gr n A) (hn : 1 ≤ n) (hk : 1 ≤ k) (hm : (∃ a b, a < n ∧ b < n ∧ a ≠ b ∧ A a b = 0) ∨ m = 0) (hd : d = (l - m) * (l - m) + 4 * (k - m)) :
    k * (k - l - 1) = (n - k - 1) * m ∧ 0 ≤ l ∧ l + 1 ≤ k ∧ 0 ≤ m ∧ m ≤ k ∧ k + 1 ≤ n ∧
    ((2 * k + (n - 1) * (l - m) = 0 ∧ n % 2 = 1) ∨ ∃ r f : Nat, 1 ≤ r ∧ (r * r : Int) = d ∧ f + 1 ≤ n ∧ (n - 1 - 2 * f : Int) * r = 2 * k + (n - 1) * (l - m)) := by
  have h0 : 0 < n := hn
  have d0 := S.deg 0 h0
  obtain ⟨b, hb, hA⟩ : ∃ b, b < n ∧ A 0 b ≠ 0 := sR_some (by show dgG n A 0 ≠ 0; omega)
  have hA1 : A 0 b = 1 := by
    rcases G.bit 0 b h0 hb with h | h
    · exact absurd h hA
    · exact h
  have l0 := G.cm_less h0 hb hA1
  have l1 := (G.cm_at h0 hb).1
  rw [S.near 0 b h0 hb hA1] at l0 l1
  have kn := (G.dg_less h0).2
  have hm2 : 0 ≤ m ∧ m ≤ k := by
    rcases hm with ⟨a, c, ha, hc, hne, hz⟩ | h
    · have := G.cm_at ha hc
      rw [S.far a c ha hc hne hz, S.deg a ha] at this
      exact this
    · omega
  have hdn : d ≠ 0 := by
    by_cases e : l = m
    · subst e
      rw [Int.sub_self] at hd
      omega
    · have := sq_pos' (x := l - m) (by omega)
      omega
  have C := (S.sr G).count hn
  exact ⟨C, l1, by omega, hm2.1, hm2.2, by omega, (S.sr G).fits hn C hd hdn⟩
/-- What is not joined. -/
def otG (A : Nat → Nat → Int) (a b : Nat) : Int := if a = b then 0 else 1 - A a b
theorem otG_id (G : Gr n A) {a b : Nat} (ha : a < n) (hb : b < n) : otG A a b = 1 - idR a b - A a b := by
  unfold otG idR
  by_cases h : a = b
  · subst h; rw [if_pos rfl, if_pos rfl, G.diag a ha]; decide
  · rw [if_neg h, if_neg h]; omega
theorem Gr.other (G : Gr n A) : Gr n (otG A) where
  bit a b ha hb := by
    unfold otG
    split
    · exact .inl rfl
    · rcases G.bit a b ha hb with h | h <;> rw [h]
      · exact .inr rfl
      · exact .inl rfl
  sym a b ha hb := by
    unfold otG
    by_cases h : a = b
    · rw [if_pos h, if_pos h.symm]
    · rw [if_neg h, if_neg fun e => h e.symm, G.sym a b ha hb]
  diag a _ := if_pos rfl
theorem otG_otG (G : Gr n A) {a b : Nat} (ha : a < n) : otG (otG A) a b = A a b := by
  unfold otG
  by_cases h : a = b
  · subst h; rw [if_pos rfl, G.diag a ha]
  · rw [if_neg h, if_neg h]; omega
theorem ot_deg (G : Gr n A) {a : Nat} (ha : a < n) : dgG n (otG A) a = n - 1 - dgG n A a := by
  have e : dgG n (otG A) a = sR n (fun b => 1 * 1 + (-1) * (idR a b * 1) + (-1) * A a b) := sR_congr fun b hb => by rw [otG_id G ha hb]; omega
  rw [e, sR_three, sR_one, nR_int, sR_id (fun _ => 1) a n, if_pos ha]
  show _ = (n : Int) - 1 - sR n (A a)
  omega
theorem ot_cm (G : Gr n A) {a b : Nat} (ha : a < n) (hb : b < n) (hne : a ≠ b) : cmG n (otG A) a b = n - 2 - dgG n A a - dgG n A b + 2 * A a b + cmG n A a b := by
  have e : cmG n (otG A) a b = sR n (fun c => (1 * 1 + (-1) * A a c + (-1) * A b c) + (1 * (idR a c * (idR b c - 1 + A b c)) + 1 * (idR b c * (A a c - 1)) + 1 * (A a c * A b c))) := sR_congr fun c hc => by
    rw [otG_id G ha hc, otG_id G hb hc]
    generalize (idR a c : Int) = x
    generalize (idR b c : Int) = y
    grind
  have e1 : (idR b a : Int) = 0 := if_neg fun h => hne h.symm
  rw [e, sR_add, sR_three, sR_three, sR_one, nR_int, sR_id _ a n, if_pos ha, sR_id _ b n, if_pos hb, e1, G.sym b a hb ha]
  show (1 : Int) * n + -1 * dgG n A a + -1 * dgG n A b + (1 * (0 - 1 + A a b) + 1 * (A a b - 1) + 1 * cmG n A a b) = _
  omega
theorem Stg.other {k l m : Int} (S : Stg n k l m A) (G : Gr n A) : Stg n (n - 1 - k) (n - 2 - 2 * k + m) (n - 2 * k + l) (otG A) where
  deg a ha := by rw [ot_deg G ha, S.deg a ha]
  near a b ha hb h := by
    have hne : a ≠ b := fun e => by
      subst e
      rw [G.other.diag a ha] at h
      exact absurd h (by decide)
    have hz : A a b = 0 := by
      unfold otG at h
      rw [if_neg hne] at h
      omega
    rw [ot_cm G ha hb hne, S.deg a ha, S.deg b hb, S.far a b ha hb hne hz, hz]
    omega
  far a b ha hb hne h := by
    have hz : A a b = 1 := by
      unfold otG at h
      rw [if_neg hne] at h
      omega
    rw [ot_cm G ha hb hne, S.deg a ha, S.deg b hb, S.near a b ha hb hz, hz]
    omega
/-- Each two have just one in common. -/
def Fri (n : Nat) (A : Nat → Nat → Int) : Prop := ∀ a b, a < n → b < n → a ≠ b → cmG n A a b = 1
theorem Fri.one (F : Fri n A) (G : Gr n A) {a b c c' : Nat} (ha : a < n) (hb : b < n) (hne : a ≠ b) (hc : c < n) (hc' : c' < n) (h1 : A a c = 1) (h2 : A b c = 1) (h3 : A a c' = 1) (h4 : A b c' = 1) : c = c' := by
  by_cases e : c = c'
  · exact e
  · exfalso
    have k := sR_less (f := idR c) (g := fun x => A a x * A b x) (fun x hx => by
      show idR c x ≤ A a x * A b x
      unfold idR
      by_cases q : c = x
      · subst q; rw [if_pos rfl, h1, h2]; decide
      · rw [if_neg q]; exact Int.mul_nonneg (G.at ha hx).1 (G.at hb hx).1) c' hc' (by
      show idR c c' + 1 ≤ A a c' * A b c'
      unfold idR
      rw [if_neg e, h3, h4]
      decide)
    have e2 : sR n (idR c : Nat → Int) = 1 := by
      have := sR_id (fun _ => 1) c n
      rw [if_pos hc] at this
      rw [← this]
      exact sR_congr fun x _ => by omega
    have e3 : sR n (fun x => A a x * A b x) = 1 := F a b ha hb hne
    omega
theorem Fri.deg (F : Fri n A) (G : Gr n A) {a b : Nat} (ha : a < n) (hb : b < n) (hz : A a b = 0) : dgG n A a = dgG n A b := by
  have half : ∀ {a b : Nat}, a < n → b < n → A a b = 0 → sR n (fun c => A a c * cmG n A c b) = dgG n A a := fun {a b} ha hb hz => sR_congr fun c hc => by
    rcases G.bit a c ha hc with h | h
    · rw [h]; omega
    · have : c ≠ b := fun e => by subst e; omega
      rw [F c b hc hb this, h]; decide
  rw [← half ha hb hz, ← half hb ha ((G.sym b a hb ha).trans hz)]
  have e1 : sR n (fun c => A a c * cmG n A c b) = sR n (fun c => sR n fun x => A a c * (A c x * A b x)) := sR_congr fun c _ => (sR_mul _ _ _).symm
  have e2 : sR n (fun c => A b c * cmG n A c a) = sR n (fun c => sR n fun x => A b c * (A c x * A a x)) := sR_congr fun c _ => (sR_mul _ _ _).symm
  rw [e1, e2, sR_swap]
  exact sR_congr fun x hx => sR_congr fun c hc => by rw [G.sym c x hc hx]; grind
/-- Somebody is joined to all. -/
theorem Fri.friend (F : Fri n A) (G : Gr n A) (hn : 1 ≤ n) : ∃ x, x < n ∧ ∀ b, b < n → b ≠ x → A x b = 1 := by
  have h0 : 0 < n := hn
  have ud : ∀ {a b : Nat}, a < n → b < n → dgG n A a ≠ dgG n A b → A a b = 1 := fun {a b} ha hb h => by
    rcases G.bit a b ha hb with k | k
    · exact absurd (F.deg G ha hb k) h
    · exact k
  by_cases hall : ∀ a, a < n → dgG n A a = dgG n A 0
  · obtain ⟨k, hk⟩ : ∃ k, dgG n A 0 = k := ⟨_, rfl⟩
    rw [hk] at hall
    have S : Stg n k 1 1 A := ⟨hall, fun a b ha hb h => F a b ha hb fun e => by
      subst e
      rw [G.diag a ha] at h
      exact absurd h (by decide), fun a b ha hb hne _ => F a b ha hb hne⟩
    have C := (S.sr G).count hn
    have kn := G.dg_less h0
    rw [hk] at kn
    have hfull : k + 1 = n → ∃ x, x < n ∧ ∀ b, b < n → b ≠ x → A x b = 1 := fun e => ⟨0, h0, fun b hb hne => G.full h0 (by rw [hk]; exact e) hb hne⟩
    by_cases hk1 : k ≤ 1
    · refine hfull ?_
      rcases (show k = 0 ∨ k = 1 by omega) with e | e
      · subst e; omega
      · subst e; omega
    · have hd : (4 * (k - 1) : Int) = (1 - 1) * (1 - 1) + 4 * (k - 1) := by omega
      rcases (S.sr G).fits hn C hd (by omega) with ⟨e, _⟩ | ⟨r, f, hr, hr2, hf, e⟩
      · omega
      · have e' : ((n : Int) - 1 - 2 * f) * r = 2 * k := by rw [e]; omega
        have hev : r % 2 = 0 := by
          rcases Nat.mod_two_eq_zero_or_one r with h | h
          · exact h
          · exfalso
            have : (r * r) % 2 = 1 := by rw [Nat.mul_mod, h]
            have h3 : ((r * r : Nat) : Int) = 4 * (k - 1) := by rw [← hr2]; simp
            omega
        obtain ⟨s, rfl⟩ : ∃ s, r = 2 * s := ⟨r / 2, by omega⟩
        have hs : (s : Int) * s = k - 1 := by
          have : ((2 * s : Nat) : Int) = 2 * s := by simp
          rw [this] at hr2
          grind
        have hs2 : ((n : Int) - 1 - 2 * f - s) * s = 1 := by
          have : ((2 * s : Nat) : Int) = 2 * s := by simp
          rw [this] at e'
          grind
        have hs3 : s = 1 := by
          have : (s : Int) ∣ 1 := ⟨(n : Int) - 1 - 2 * f - s, hs2.symm.trans (Int.mul_comm _ _)⟩
          have := Int.le_of_dvd (by decide) this
          omega
        subst hs3
        have k2 : k = 2 := by omega
        subst k2
        refine hfull ?_
        omega
  · obtain ⟨v, hv'⟩ := Classical.not_forall.1 hall
    have hv : v < n := Classical.byContradiction fun h => hv' fun k => absurd k h
    have hne : dgG n A v ≠ dgG n A 0 := fun h => hv' fun _ => h
    have hv0 : v ≠ 0 := fun e => hne (by rw [e])
    -- the core: u and v of unlike degrees, w joined to both, of another degree than u
    have core : ∀ u v w, u < n → v < n → w < n → v ≠ w → dgG n A v ≠ dgG n A u → dgG n A w ≠ dgG n A u → ∃ x, x < n ∧ ∀ b, b < n → b ≠ x → A x b = 1 := fun u v w hu hv hw hvw h1 h2 => ⟨u, hu, fun b hb hbu => by
      refine ud hu hb fun e => hbu ?_
      exact F.one G hv hw hvw hb hu (ud hv hb fun q => h1 (q.trans e.symm)) (ud hw hb fun q => h2 (q.trans e.symm)) (ud hv hu h1) (ud hw hu h2)⟩
    obtain ⟨w, hw, hww⟩ : ∃ w, w < n ∧ A v w * A 0 w ≠ 0 := sR_some (by
      have : sR n (fun c => A v c * A 0 c) = 1 := F v 0 hv h0 hv0
      omega)
    have w1 : w ≠ v := fun e => by subst e; rw [G.diag w hw] at hww; simp at hww
    have w2 : w ≠ 0 := fun e => by subst e; rw [G.diag 0 hw] at hww; simp at hww
    by_cases hd : dgG n A w = dgG n A 0
    · exact core v 0 w hv h0 hw (fun e => w2 e.symm) (fun e => hne e.symm) (fun e => hne (e.symm.trans hd))
    · exact core 0 v w h0 hv hw (fun e => w1 e.symm) hne hd
end
end Go.Proofs.Ytlmjlffipinjiab
