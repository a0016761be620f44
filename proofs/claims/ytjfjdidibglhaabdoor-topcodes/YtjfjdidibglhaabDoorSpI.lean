/- A field of the document as such a field; nothing of the program. -/
import Derived.Test.YtjfjdidibglhaabDoorAlgE
import Derived.Test.YtjfjdidibglhaabDoorSpF
namespace Go.Proofs.YtjfjdidibglhaabDoor.Fd

/-- What an element makes 0 with. -/
def ngQ (P K : Nat) (a : Nat) : Nat := (hor (fun t => (0 - digF a P t) % P) P K K).toNat
variable {P K : Nat} {m : Nat → Int}
theorem ng_in (hP : 2 ≤ P) (a : Nat) : inP P (fun t => (0 - digF a P t) % P) := fun t => ⟨Int.emod_nonneg _ (by omega), Int.emod_lt_of_pos _ (by omega)⟩
theorem ngQ_lt (hR : Ring1 P K m) (a : Nat) : ngQ P K a < P ^ K := hor_lt hR.two (ng_in hR.two a)
theorem ngQ_vec (hR : Ring1 P K m) (a : Nat) : Cg P K (digF (ngQ P K a) P) (fun t => 0 - digF a P t) := fun t ht => by
  unfold ngQ
  rw [digF_hor hR.two (ng_in hR.two a) t ht]
  exact emod_dvd_sub _ _
theorem ngQ_add (hR : Ring1 P K m) (a : Nat) : addQ P K (ngQ P K a) a = 0 := by
  refine vec_inj hR (addQ_lt hR _ _) (by have := one_lt hR; omega) ?_
  refine (addQ_vec hR _ _).trans (((ngQ_vec hR a).add (Cg.refl _ _ _)).trans (Cg.of_eq fun t _ => ?_))
  rw [digF_zero]
  show 0 - digF a P t + digF a P t = 0
  omega
theorem field_fqr (hF : FieldQ P K m) : FqR (P ^ K) (addQ P K) (mulQ P K m) (ngQ P K) where
  one := one_lt hF.toRing1
  ad_lt a b _ _ := addQ_lt hF.toRing1 a b
  mu_lt a b _ _ := mulQ_lt hF.toRing1 a b
  ng_lt a _ := ngQ_lt hF.toRing1 a
  ad_zero _ h := addQ_zero hF.toRing1 h
  ad_comm a b _ _ := addQ_comm hF.toRing1 a b
  ad_assoc a b c _ _ _ := addQ_assoc hF.toRing1 a b c
  ng_ad a _ := ngQ_add hF.toRing1 a
  mu_comm a b _ _ := mulQ_comm hF.toRing1 a b
  mu_assoc a b c _ _ _ := mulQ_assoc hF.toRing1 a b c
  mu_one _ h := mulQ_one hF.toRing1 h
  mu_ad a b c _ _ _ := mulQ_add hF.toRing1 a b c
  inv a h1 h := ⟨_, powQ_lt hF.toRing1 a _, inv_ok hF h1 h⟩

end Go.Proofs.YtjfjdidibglhaabDoor.Fd
