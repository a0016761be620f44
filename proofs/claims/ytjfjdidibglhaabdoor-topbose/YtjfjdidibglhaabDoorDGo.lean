/- A design that passes; numbers of lists; nothing of the program. -/
import Derived.Test.YtjfjdidibglhaabDoorDNext
import Derived.Test.YtjfjdidibglhaabDoorDFa
import Derived.Test.YtjfjdidibglhaabDoorDPure
/- The walk of the document's NextSet. -/
namespace Go.Proofs.YtjfjdidibglhaabDoor
open Go.RowKit

def fl (t : Nat) (f : Nat → Nat) : List Nat := (List.range t).map f
end Go.Proofs.YtjfjdidibglhaabDoor

namespace Go.Proofs.YtjfjdidibglhaabDoor

structure GoodD (v : Nat) (B : List (List Nat)) : Prop where
  pos : 1 ≤ v
  le : v ≤ 40
  few : B.length ≤ 200
  rs : ∀ b ∈ B, Rs v 0 b
theorem GoodD.bls {v : Nat} {B : List (List Nat)} (h : GoodD v B) : Bls v B := fun b hb => rise_pts (rs_iff.1 (h.rs b hb)).1 fun x hx => ((rs_iff.1 (h.rs b hb)).2 x hx).2
theorem GoodD.len {v : Nat} {B : List (List Nat)} (h : GoodD v B) {b : List Nat} (hb : b ∈ B) : b.length ≤ 40 := Nat.le_trans (h.bls b hb).le h.le
def toZ (B : List (List Nat)) : List (List Int) := B.map fun b => b.map Int.ofNat
theorem bF_zero {p : Int} {b : List Int} (h : bF p b = 0) : (∀ j, j < b.length → 0 ≤ b.getD j 0 ∧ b.getD j 0 < p) ∧ ∀ j, 1 ≤ j → j < b.length → b.getD (j - 1) 0 < b.getD j 0 := by
  have h1 : ∀ j, j < b.length → 0 ≤ b.getD j 0 ∧ b.getD j 0 < p := fun j hj => Classical.byContradiction fun hn => by
    have := bF_out hj hn
    omega
  refine ⟨h1, fun j hj1 hj => Classical.byContradiction fun hn => ?_⟩
  have := bF_fall h1 hj1 hj (by omega)
  omega
theorem toNat_rs {v : Nat} : ∀ {b : List Int} {lo : Nat}, (∀ j, j < b.length → (lo : Int) ≤ b.getD j 0 ∧ b.getD j 0 < v) → (∀ j, 1 ≤ j → j < b.length → b.getD (j - 1) 0 < b.getD j 0) → Rs v lo (b.map Int.toNat) ∧ (b.map Int.toNat).map Int.ofNat = b
  | [], _, _, _ => ⟨trivial, rfl⟩
  | x :: b, lo, h1, h2 => by
    have hx := h1 0 (by simp)
    rw [List.getD_cons_zero] at hx
    have ht : ((x.toNat : Nat) : Int) = x := by omega
    have key : ∀ j, j < b.length → x < b.getD j 0 := by
      intro j
      induction j with
      | zero => intro hj; have := h2 1 (by omega) (by simpa using hj); simpa using this
      | succ j ih =>
        intro hj
        have a := ih (by omega)
        have c := h2 (j + 2) (by omega) (by rw [List.length_cons]; omega)
        rw [show j + 2 - 1 = j + 1 by omega, List.getD_cons_succ, List.getD_cons_succ] at c
        omega
    obtain ⟨r1, r2⟩ := toNat_rs (b := b) (lo := x.toNat + 1) (fun j hj => by
      have a := key j hj
      have c := h1 (j + 1) (by rw [List.length_cons]; omega)
      simp only [List.getD_cons_succ] at c
      exact ⟨by omega, c.2⟩) (fun j hj1 hj => by
      have c := h2 (j + 1) (by omega) (by simpa using hj)
      obtain ⟨j', rfl⟩ : ∃ j', j = j' + 1 := ⟨j - 1, by omega⟩
      rw [show j' + 1 + 1 - 1 = j' + 1 by omega, List.getD_cons_succ, List.getD_cons_succ] at c
      rw [show j' + 1 - 1 = j' by omega]
      exact c)
    refine ⟨⟨by omega, by omega, r1⟩, ?_⟩
    rw [List.map_cons, List.map_cons, r2]
    show Int.ofNat x.toNat :: b = x :: b
    rw [show Int.ofNat x.toNat = x from ht]
end Go.Proofs.YtjfjdidibglhaabDoor
