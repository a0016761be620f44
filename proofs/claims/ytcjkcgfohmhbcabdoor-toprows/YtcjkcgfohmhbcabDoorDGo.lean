/- A design that passes; numbers of lists; nothing of the program. -/
import Derived.Test.YtcjkcgfohmhbcabDoorPList
import Derived.Test.YtcjkcgfohmhbcabDoorDNext
import Derived.Deep.QuietTactic
import Derived.BigQuiet
import Derived.Deep.RegionHeld3
import Derived.Deep.MidRow
import Derived.Test.YtcjkcgfohmhbcabDoorDPure
/- The walks of the document's Lies and all. -/
namespace Go.Proofs.YtcjkcgfohmhbcabDoor
open Go.RowKit

theorem ofNat_at (b : List Nat) {j : Nat} (hj : j < b.length) : (b.map Int.ofNat).getD j 0 = ((b.getD j 0 : Nat) : Int) := by
  simp [hj]
end Go.Proofs.YtcjkcgfohmhbcabDoor

/- The walk of the document's NextSet. -/
namespace Go.Proofs.YtcjkcgfohmhbcabDoor
open Go.RowKit

def fl (t : Nat) (f : Nat → Nat) : List Nat := (List.range t).map f
end Go.Proofs.YtcjkcgfohmhbcabDoor

/- The walk of the document's DesignFault. -/
namespace Go.Proofs.YtcjkcgfohmhbcabDoor
open Go.RowKit

/-- Rows of rows that are read. -/
def Rw (w : World) (v : Value) (ls : List (List Int)) : Prop := ∃ a cap, v = .slice a ls.length cap ∧ ∀ i l, ls[i]? = some l → ∃ b off u, a = some ⟨b, off, none⟩ ∧ w.cell? ⟨b, off + i, none⟩ = some u ∧ Sl w u l
theorem Rw.below {w w' : World} {v : Value} {ls : List (List Int)} (h : Rw w v ls) (hb : Below w.heap.size w w') : Rw w' v ls := by
  obtain ⟨a, cap, rfl, h⟩ := h
  refine ⟨a, cap, rfl, fun i l hl => ?_⟩
  obtain ⟨b, off, u, e, hc, hS⟩ := h i l hl
  exact ⟨b, off, u, e, (hb.cell (World.block_lt_of_cell? _ _ hc)).trans hc, hS.below hb⟩
/-- A design in a box, as it is read later. -/
theorem des_box (s : Int) (u : Value) (w : World) : ∀ W, Below (w.alloc (.cells #[.int .i64 s, u] 42)).heap.size (w.alloc (.cells #[.int .i64 s, u] 42)) W →
    W.cell? ⟨w.heap.size, 0, none⟩ = some (.int .i64 s) ∧ W.cell? ⟨w.heap.size, 1, none⟩ = some u := fun W b => by
  have k1 := (b.block w.heap.size (by simp)).trans (heap_alloc_new w (.cells #[.int .i64 s, u] 42))
  exact ⟨by rw [cell_of_row _ _ _ _ _ _ k1]; rfl, by rw [cell_of_row _ _ _ _ _ _ k1]; rfl⟩
/-- What is wrong with a block. -/
def bF (p : Int) (b : List Int) : Nat := if (List.range b.length).all (fun j => decide (0 ≤ b.getD j 0) && decide (b.getD j 0 < p)) then (if (List.range b.length).all (fun j => decide (j = 0 ∨ b.getD (j - 1) 0 < b.getD j 0)) then 0 else 2) else 1
def blF (p : Int) : List (List Int) → Nat
  | [] => 0
  | b :: bs => if bF p b ≠ 0 then bF p b else blF p bs
def dF (p : Int) (ls : List (List Int)) : Nat := if p < 1 ∨ 40 < p then 1 else if 200 < ls.length then 3 else blF p ls
theorem bF_out {p : Int} {b : List Int} {j : Nat} (hj : j < b.length) (h : ¬ (0 ≤ b.getD j 0 ∧ b.getD j 0 < p)) : bF p b = 1 := by
  unfold bF
  rw [if_neg]
  intro k
  have := List.all_eq_true.1 k j (List.mem_range.2 hj)
  rw [Bool.and_eq_true, decide_eq_true_eq, decide_eq_true_eq] at this
  exact h this
theorem bF_in {p : Int} {b : List Int} (h : ∀ j, j < b.length → 0 ≤ b.getD j 0 ∧ b.getD j 0 < p) : bF p b = if (List.range b.length).all (fun j => decide (j = 0 ∨ b.getD (j - 1) 0 < b.getD j 0)) then 0 else 2 := by
  unfold bF
  rw [if_pos]
  rw [List.all_eq_true]
  intro j hj
  have := h j (List.mem_range.1 hj)
  rw [Bool.and_eq_true, decide_eq_true_eq, decide_eq_true_eq]
  exact this
theorem bF_fall {p : Int} {b : List Int} {j : Nat} (h : ∀ j, j < b.length → 0 ≤ b.getD j 0 ∧ b.getD j 0 < p) (h1 : 1 ≤ j) (hj : j < b.length) (hf : b.getD j 0 ≤ b.getD (j - 1) 0) : bF p b = 2 := by
  rw [bF_in h, if_neg]
  intro k
  have := List.all_eq_true.1 k j (List.mem_range.2 hj)
  rw [decide_eq_true_eq] at this
  omega
theorem bF_ok {p : Int} {b : List Int} (h : ∀ j, j < b.length → 0 ≤ b.getD j 0 ∧ b.getD j 0 < p) (hr : ∀ j, 1 ≤ j → j < b.length → b.getD (j - 1) 0 < b.getD j 0) : bF p b = 0 := by
  rw [bF_in h, if_pos]
  rw [List.all_eq_true]
  intro j hj
  rw [decide_eq_true_eq]
  by_cases e : j = 0
  · exact .inl e
  · exact .inr (hr j (by omega) (List.mem_range.1 hj))
theorem blF_at {p : Int} : ∀ {ls : List (List Int)} {i : Nat} {b : List Int}, ls[i]? = some b → (∀ m c, m < i → ls[m]? = some c → bF p c = 0) → bF p b ≠ 0 → blF p ls = bF p b
  | [], i, b, h, _, _ => by simp at h
  | c :: ls, 0, b, h, _, hn => by
    obtain rfl : c = b := by simpa using h
    unfold blF
    rw [if_pos hn]
  | c :: ls, i + 1, b, h, hm, hn => by
    have h0 := hm 0 c (by omega) rfl
    unfold blF
    rw [if_neg (by omega)]
    exact blF_at (i := i) (by simpa using h) (fun m d hd e => hm (m + 1) d (by omega) (by simpa using e)) hn
theorem blF_none {p : Int} : ∀ {ls : List (List Int)}, (∀ (m : Nat) (c : List Int), ls[m]? = some c → bF p c = 0) → blF p ls = 0
  | [], _ => rfl
  | c :: ls, h => by
    have h0 := h 0 c rfl
    unfold blF
    rw [if_neg (by omega)]
    exact blF_none fun m d e => h (m + 1) d (by simpa using e)
end Go.Proofs.YtcjkcgfohmhbcabDoor

namespace Go.Proofs.YtcjkcgfohmhbcabDoor

structure GoodD (v : Nat) (B : List (List Nat)) : Prop where
  pos : 1 ≤ v
  le : v ≤ 40
  few : B.length ≤ 200
  rs : ∀ b ∈ B, Rs v 0 b
theorem GoodD.bls {v : Nat} {B : List (List Nat)} (h : GoodD v B) : Bls v B := fun b hb => rise_pts (rs_iff.1 (h.rs b hb)).1 fun x hx => ((rs_iff.1 (h.rs b hb)).2 x hx).2
theorem GoodD.len {v : Nat} {B : List (List Nat)} (h : GoodD v B) {b : List Nat} (hb : b ∈ B) : b.length ≤ 40 := Nat.le_trans (h.bls b hb).le h.le
def toZ (B : List (List Nat)) : List (List Int) := B.map fun b => b.map Int.ofNat
theorem bF_zero {p : Int} {b : List Int} (h : bF p b = 0) : (∀ j, j < b.length → 0 ≤ b.getD j 0 ∧ b.getD j 0 < p) ∧ ∀ j, 1 ≤ j → j < b.length → b.getD (j - 1) 0 < b.getD j 0 := by
  have h1 : ∀ j, j < b.length → 0 ≤ b.getD j 0 ∧ b.getD j 0 < p := fun j hj => Classical.byContradiction fun hn => by
    have := bF_out hj hn
    omega
  refine ⟨h1, fun j hj1 hj => Classical.byContradiction fun hn => ?_⟩
  have := bF_fall h1 hj1 hj (by omega)
  omega
theorem toNat_rs {v : Nat} : ∀ {b : List Int} {lo : Nat}, (∀ j, j < b.length → (lo : Int) ≤ b.getD j 0 ∧ b.getD j 0 < v) → (∀ j, 1 ≤ j → j < b.length → b.getD (j - 1) 0 < b.getD j 0) → Rs v lo (b.map Int.toNat) ∧ (b.map Int.toNat).map Int.ofNat = b
  | [], _, _, _ => ⟨trivial, rfl⟩
  | x :: b, lo, h1, h2 => by
    have hx := h1 0 (by simp)
    rw [List.getD_cons_zero] at hx
    have ht : ((x.toNat : Nat) : Int) = x := by omega
    have key : ∀ j, j < b.length → x < b.getD j 0 := by
      intro j
      induction j with
      | zero => intro hj; have := h2 1 (by omega) (by simpa using hj); simpa using this
      | succ j ih =>
        intro hj
        have a := ih (by omega)
        have c := h2 (j + 2) (by omega) (by rw [List.length_cons]; omega)
        rw [show j + 2 - 1 = j + 1 by omega, List.getD_cons_succ, List.getD_cons_succ] at c
        omega
    obtain ⟨r1, r2⟩ := toNat_rs (b := b) (lo := x.toNat + 1) (fun j hj => by
      have a := key j hj
      have c := h1 (j + 1) (by rw [List.length_cons]; omega)
      simp only [List.getD_cons_succ] at c
      exact ⟨by omega, c.2⟩) (fun j hj1 hj => by
      have c := h2 (j + 1) (by omega) (by simpa using hj)
      obtain ⟨j', rfl⟩ : ∃ j', j = j' + 1 := ⟨j - 1, by omega⟩
      rw [show j' + 1 + 1 - 1 = j' + 1 by omega, List.getD_cons_succ, List.getD_cons_succ] at c
      rw [show j' + 1 - 1 = j' by omega]
      exact c)
    refine ⟨⟨by omega, by omega, r1⟩, ?_⟩
    rw [List.map_cons, List.map_cons, r2]
    show Int.ofNat x.toNat :: b = x :: b
    rw [show Int.ofNat x.toNat = x from ht]
end Go.Proofs.YtcjkcgfohmhbcabDoor
