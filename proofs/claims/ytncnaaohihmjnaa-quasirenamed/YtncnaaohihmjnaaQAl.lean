/- Other names: the first that lead from one square to the other; nothing of the program. -/
import Derived.Test.YtncnaaohihmjnaaQPure
import Derived.Test.YtncnaaohihmjnaaPList
import Derived.Test.YtncnaaohihmjnaaLAp
namespace Go.Proofs.Ytncnaaohihmjnaa

/-- Where the k-th permutation moves a point. -/
def un (n k : Nat) (i : Nat) : Nat := (unr n k).getD i 0
theorem unr_pl {n k : Nat} : (unrL n (List.range n) k).map Int.ofNat = pl n (un n k) := by
  have hl : (unr n k).length = n := unrL_len n _ k
  have h : (unr n k).map Int.ofNat = pl n (un n k) := by
    apply List.ext_getElem
    · simp [pl, hl]
    · intro i h1 h2
      have hi : i < n := by simpa [hl] using h1
      simp [pl, un, hl, hi]
  exact h
theorem un_pm {n k : Nat} (hk : k < fac n) : Pm n (un n k) := (unr_isP hk).pm
/-- The first rank whose names lead from s to t. -/
def alK (n : Nat) (s t : Nat → Nat → Nat) : Option Nat := fstN (fac n) fun k => rnB n s t (un n k)
theorem rn_congr {n : Nat} {s t : Nat → Nat → Nat} {p q : Nat → Nat} (L : ∀ a b, a < n → b < n → s a b < n) (h : ∀ i, i < n → p i = q i) : rnB n s t p = rnB n s t q :=
  allN_congr fun x hx => allN_congr fun y hy => by rw [h x hx, h y hy, h _ (L x y hx hy)]
/-- What has other names is found to have them. -/
theorem al_some {n : Nat} {s t : Nat → Nat → Nat} {f : Nat → Nat} (L : ∀ a b, a < n → b < n → s a b < n) (P : Pm n f) (h : rnB n s t f = true) : ∃ k, alK n s t = some k ∧ k < fac n ∧ rnB n s t (un n k) = true := by
  have h1 : rkS n f n < fac n := rank_lt n f
  have h2 : rnB n s t (un n (rkS n f n)) = true := by
    rw [rn_congr L (q := f)]
    · exact h
    · intro i hi
      unfold un unr
      rw [unr_rank P]
      simp [hi]
  cases e : alK n s t with
  | none => have := fst_no e _ h1; rw [h2] at this; cases this
  | some k => obtain ⟨a, b, _⟩ := fst_some e; exact ⟨k, rfl, a, b⟩
end Go.Proofs.Ytncnaaohihmjnaa
