/- What is wrong with runs. Nothing of the program. -/
import Derived.Test.YtjfjdidibglhaabDoorArP
/- Runs without a column, and those of a level. Nothing of the program. -/
namespace Go.Proofs.YtjfjdidibglhaabDoor

end Go.Proofs.YtjfjdidibglhaabDoor

namespace Go.Proofs.YtjfjdidibglhaabDoor

def belB (s x : Int) : Bool := decide (0 ≤ x) && decide (x < s)
def levB (s : Int) : Bool := decide (2 ≤ s) && decide (s ≤ 64)
/-- What is wrong with a run. -/
def ruF (s : Int) (k : Nat) (r : List Int) : Nat := if r.length ≠ k then 2 else if r.all (belB s) then 0 else 1
def rsF (s : Int) (k : Nat) : List (List Int) → Nat
  | [] => 0
  | r :: rs => if ruF s k r ≠ 0 then ruF s k r else rsF s k rs
def aF (s : Int) (ls : List (List Int)) : Nat :=
  if levB s = false then 1 else if ls.length = 0 then 2 else if 128 < ls.length then 3 else if (ls.headD []).length = 0 ∨ 8 < (ls.headD []).length then 2 else rsF s (ls.headD []).length ls
theorem belB_iff {s x : Int} : belB s x = true ↔ 0 ≤ x ∧ x < s := by
  unfold belB
  rw [Bool.and_eq_true, decide_eq_true_eq, decide_eq_true_eq]
theorem ruF_len {s : Int} {k : Nat} {r : List Int} (h : r.length ≠ k) : ruF s k r = 2 := by unfold ruF; rw [if_pos h]
theorem ruF_out {s : Int} {k j : Nat} {r : List Int} (hl : r.length = k) (hj : j < k) (h : belB s (r.getD j 0) = false) : ruF s k r = 1 := by
  unfold ruF
  rw [if_neg (by omega), if_neg]
  intro a
  have hm : r.getD j 0 ∈ r := by
    rw [List.getD_eq_getElem?_getD, List.getElem?_eq_getElem (by omega)]
    exact List.getElem_mem _
  rw [List.all_eq_true.1 a _ hm] at h
  cases h
theorem ruF_ok {s : Int} {k : Nat} {r : List Int} (hl : r.length = k) (h : ∀ j, j < k → belB s (r.getD j 0) = true) : ruF s k r = 0 := by
  unfold ruF
  rw [if_neg (by omega), if_pos]
  rw [List.all_eq_true]
  intro x hx
  obtain ⟨j, hj, rfl⟩ := List.getElem_of_mem hx
  have := h j (by omega)
  rwa [List.getD_eq_getElem?_getD, List.getElem?_eq_getElem hj] at this
theorem rsF_at {s : Int} {k : Nat} : ∀ {ls : List (List Int)} {i : Nat} {b : List Int}, ls[i]? = some b → (∀ m c, m < i → ls[m]? = some c → ruF s k c = 0) → ruF s k b ≠ 0 → rsF s k ls = ruF s k b
  | [], i, b, h, _, _ => by simp at h
  | c :: ls, 0, b, h, _, hn => by
    obtain rfl : c = b := by simpa using h
    unfold rsF
    rw [if_pos hn]
  | c :: ls, i + 1, b, h, hm, hn => by
    have h0 := hm 0 c (by omega) rfl
    unfold rsF
    rw [if_neg (by omega)]
    exact rsF_at (i := i) (by simpa using h) (fun m d hd e => hm (m + 1) d (by omega) (by simpa using e)) hn
theorem rsF_none {s : Int} {k : Nat} : ∀ {ls : List (List Int)}, (∀ (m : Nat) (c : List Int), ls[m]? = some c → ruF s k c = 0) → rsF s k ls = 0
  | [], _ => rfl
  | c :: ls, h => by
    have h0 := h 0 c rfl
    unfold rsF
    rw [if_neg (by omega)]
    exact rsF_none fun m d e => h (m + 1) d (by simpa using e)
/-- Runs that pass. -/
structure GoodA (s k : Nat) (ls : List (List Int)) : Prop where
  s2 : 2 ≤ s
  s64 : s ≤ 64
  n1 : 1 ≤ ls.length
  n128 : ls.length ≤ 128
  k1 : 1 ≤ k
  k8 : k ≤ 8
  len : ∀ l ∈ ls, l.length = k
  bel : ∀ l ∈ ls, ∀ j, j < k → 0 ≤ l.getD j 0 ∧ l.getD j 0 < (s : Int)
theorem GoodA.head {s k : Nat} {ls : List (List Int)} (h : GoodA s k ls) : (ls.headD []).length = k := by
  have := h.n1
  cases ls with
  | nil => simp at this
  | cons l ls => exact h.len l List.mem_cons_self
theorem GoodA.aF {s k : Nat} {ls : List (List Int)} (h : GoodA s k ls) : aF s ls = 0 := by
  have h1 := h.head
  have h2 := h.n1
  have h3 := h.n128
  have h4 := h.k1
  have h5 := h.k8
  have h6 := h.s2
  have h7 := h.s64
  unfold Go.Proofs.YtjfjdidibglhaabDoor.aF
  have hs : levB (s : Int) = true := by
    unfold levB
    rw [Bool.and_eq_true, decide_eq_true_eq, decide_eq_true_eq]
    omega
  rw [hs, if_neg (by simp), if_neg (by omega), if_neg (by omega), if_neg (by omega), h1]
  exact rsF_none fun m c hc => ruF_ok (h.len c (List.mem_of_getElem? hc)) fun j hj => belB_iff.2 (h.bel c (List.mem_of_getElem? hc) j hj)
/-- A list as a run. -/
def fnA (l : List Int) (c : Nat) : Nat := (l.getD c 0).toNat
def rnA (ls : List (List Int)) : List (Nat → Nat) := ls.map fnA
theorem GoodA.lvl {s k : Nat} {ls : List (List Int)} (h : GoodA s k ls) : Lvl s k (rnA ls) := fun x hx c hc => by
  obtain ⟨l, hl, rfl⟩ := List.mem_map.1 hx
  have := h.bel l hl c hc
  unfold fnA
  omega
theorem GoodA.eq {s k : Nat} {ls : List (List Int)} (h : GoodA s k ls) {l m : List Int} (hl : l ∈ ls) (hm : m ∈ ls) {c : Nat} (hc : c < k) : fnA l c = fnA m c ↔ l.getD c 0 = m.getD c 0 := by
  have h1 := h.bel l hl c hc
  have h2 := h.bel m hm c hc
  unfold fnA
  omega
end Go.Proofs.YtjfjdidibglhaabDoor
