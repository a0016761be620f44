/- A square with other names; nothing of the program. -/
import Derived.Test.YtncnaaohihmjnaaQAl
import Derived.Test.YtncnaaohihmjnaaP27
namespace Go.Proofs.Ytncnaaohihmjnaa

/-- What is filled so far: all pairs ahead of (x, y). -/
def Fil (n : Nat) (s : Nat → Nat → Nat) (f : Nat → Nat) (x y : Nat) (h : Nat → Int) : Prop := ∀ i j, i < n → j < n → (i < x ∨ (i = x ∧ j < y)) → h (f i * n + f j) = ((f (s i j) : Nat) : Int)
theorem idx_inj {n a b c d : Nat} (hb : b < n) (hd : d < n) (e : a * n + b = c * n + d) : a = c ∧ b = d := by
  have h1 := divmod (i := a) hb
  have h2 := divmod (i := c) hd
  rw [e] at h1
  exact ⟨h1.1.symm.trans h2.1, h1.2.symm.trans h2.2⟩
theorem Fil.step {n : Nat} {s : Nat → Nat → Nat} {f : Nat → Nat} {x y : Nat} {h : Nat → Int} (P : Pm n f) (H : Fil n s f x y h) (hx : x < n) (hy : y < n) : Fil n s f x (y + 1) (upd h (f x * n + f y) ((f (s x y) : Nat) : Int)) := fun i j hi hj hs => by
  unfold upd
  by_cases e : i = x ∧ j = y
  · obtain ⟨rfl, rfl⟩ := e; rw [if_pos rfl]
  · rw [if_neg, H i j hi hj (by omega)]
    intro e2
    obtain ⟨a1, a2⟩ := idx_inj (P.lt j hj) (P.lt y hy) e2
    exact e ⟨P.inj i x hi hx a1, P.inj j y hj hy a2⟩
theorem Fil.next {n : Nat} {s : Nat → Nat → Nat} {f : Nat → Nat} {x : Nat} {h : Nat → Int} (H : Fil n s f x n h) : Fil n s f (x + 1) 0 h := fun i j hi hj hs => H i j hi hj (by omega)
def lsN (m : Nat) (h : Nat → Int) : List Int := (List.range m).map h
theorem ls_len (m : Nat) (h : Nat → Int) : (lsN m h).length = m := by simp [lsN]
theorem ls_at {m : Nat} (h : Nat → Int) {i : Nat} (hi : i < m) : (lsN m h).getD i 0 = h i := by simp [lsN, hi]
/-- All is filled: it is a square, and leads there and back. -/
theorem fil_all {n : Nat} {L : List Int} {f : Nat → Nat} {h : Nat → Int} (P : Pm n f) (G : GoodS n L) (H : Fil n (sq n L) f n 0 h) :
    GoodS n (lsN (n * n) h) ∧ (∃ k, alK n (sq n L) (sq n (lsN (n * n) h)) = some k ∧ k < fac n ∧ rnB n (sq n L) (sq n (lsN (n * n) h)) (un n k) = true) ∧ (∃ k, alK n (sq n (lsN (n * n) h)) (sq n L) = some k ∧ k < fac n ∧ rnB n (sq n (lsN (n * n) h)) (sq n L) (un n k) = true) := by
  have V : ∀ i j, i < n → j < n → (lsN (n * n) h).getD (f i * n + f j) 0 = ((f (sq n L i j) : Nat) : Int) := fun i j hi hj => by
    rw [ls_at h (cell_lt (P.lt i hi) (P.lt j hj))]
    exact H i j hi hj (.inl hi)
  have S : ∀ i j, i < n → j < n → sq n (lsN (n * n) h) (f i) (f j) = f (sq n L i j) := fun i j hi hj => by
    unfold sq at V ⊢
    rw [V i j hi hj]
    simp
  have O : ∀ a, a < n → ∃ i, i < n ∧ f i = a := fun a ha => inj_onto P.lt P.inj ha
  have GT : GoodS n (lsN (n * n) h) := by
    refine ⟨G.pos, G.le, ls_len _ _, fun j hj => ?_, ⟨fun a b ha hb => ?_, fun a ha b c hb hc e => ?_, fun b hb a c ha hc e => ?_⟩⟩
    · obtain ⟨x, hx, ex⟩ := O (j / n) (Nat.div_lt_of_lt_mul hj)
      obtain ⟨y, hy, ey⟩ := O (j % n) (Nat.mod_lt _ G.pos)
      have e : j = f x * n + f y := by rw [ex, ey]; exact (Nat.div_add_mod' j n).symm
      rw [e, V x y hx hy]
      have := P.lt _ (G.lat.lt x y hx hy)
      omega
    · obtain ⟨x, hx, rfl⟩ := O a ha
      obtain ⟨y, hy, rfl⟩ := O b hb
      rw [S x y hx hy]
      exact P.lt _ (G.lat.lt x y hx hy)
    · obtain ⟨x, hx, rfl⟩ := O a ha
      obtain ⟨y, hy, rfl⟩ := O b hb
      obtain ⟨z, hz, rfl⟩ := O c hc
      rw [S x y hx hy, S x z hx hz] at e
      rw [G.lat.row x hx y z hy hz (P.inj _ _ (G.lat.lt x y hx hy) (G.lat.lt x z hx hz) e)]
    · obtain ⟨x, hx, rfl⟩ := O a ha
      obtain ⟨y, hy, rfl⟩ := O b hb
      obtain ⟨z, hz, rfl⟩ := O c hc
      rw [S x y hx hy, S z y hz hy] at e
      rw [G.lat.col y hy x z hx hz (P.inj _ _ (G.lat.lt x y hx hy) (G.lat.lt z y hz hy) e)]
  refine ⟨GT, al_some G.lat.lt P (rn_iff.2 fun x y hx hy => S x y hx hy), al_some GT.lat.lt P.iv_pm (rn_iff.2 fun a b ha hb => ?_)⟩
  obtain ⟨x, hx, rfl⟩ := O a ha
  obtain ⟨y, hy, rfl⟩ := O b hb
  rw [P.iv_f hx, P.iv_f hy, S x y hx hy, P.iv_f (G.lat.lt x y hx hy)]
end Go.Proofs.Ytncnaaohihmjnaa
