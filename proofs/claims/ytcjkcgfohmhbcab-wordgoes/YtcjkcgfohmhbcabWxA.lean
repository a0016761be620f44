/- Plain facts behind the landed package word. -/
import Derived.RowKit
namespace Go.Proofs.Ytcjkcgfohmhbcab

/-- A number turned over at each digit, as often as there are digits 1 above it. -/
def plF : Nat → Nat → Nat
  | 0, _ => 0
  | f + 1, x => x ^^^ plF f (x / 2)
theorem plF_zero : ∀ f, plF f 0 = 0
  | 0 => rfl
  | f + 1 => by
    show 0 ^^^ plF f (0 / 2) = 0
    rw [Nat.zero_div, plF_zero f, Nat.xor_zero]
theorem plF_lt : ∀ f x, x < 2 ^ f → plF f x < 2 ^ f
  | 0, _, _ => Nat.one_pos
  | f + 1, x, h => by
    show x ^^^ plF f (x / 2) < 2 ^ (f + 1)
    have h2 : x / 2 < 2 ^ f := by rw [Nat.pow_succ] at h; omega
    have h3 := plF_lt f _ h2
    exact Nat.xor_lt_two_pow h (by rw [Nat.pow_succ]; omega)
/-- It undoes Gray's turning over. -/
theorem plF_back : ∀ f i, i < 2 ^ f → plF f (i ^^^ i / 2) = i
  | 0, i, h => by
    have : i = 0 := by simpa using h
    subst this
    rfl
  | f + 1, i, h => by
    show (i ^^^ i / 2) ^^^ plF f ((i ^^^ i / 2) / 2) = i
    rw [Nat.xor_div_two, plF_back f (i / 2) (by rw [Nat.pow_succ] at h; omega), Nat.xor_assoc, Nat.xor_self, Nat.xor_zero]
/-- Gray's turning over undoes it. -/
theorem plF_gray : ∀ f x, x < 2 ^ f → plF f x ^^^ plF f x / 2 = x
  | 0, x, h => by
    have : x = 0 := by simpa using h
    subst this
    rfl
  | f + 1, x, h => by
    have h2 : x / 2 < 2 ^ f := by rw [Nat.pow_succ] at h; omega
    have ih := plF_gray f _ h2
    show (x ^^^ plF f (x / 2)) ^^^ (x ^^^ plF f (x / 2)) / 2 = x
    rw [Nat.xor_div_two]
    generalize plF f (x / 2) = j at ih ⊢
    have e : x / 2 ^^^ j / 2 = j := by rw [← ih, Nat.xor_assoc, Nat.xor_self, Nat.xor_zero]
    rw [e, Nat.xor_assoc, Nat.xor_self, Nat.xor_zero]
/-- Where a number stands among Gray's. -/
theorem place_is {n x : Nat} (h : x < 2 ^ n) : ((List.range (2 ^ n)).map fun i => i ^^^ i / 2).idxOf x = plF n x := by
  have hm : x ∈ (List.range (2 ^ n)).map fun i => i ^^^ i / 2 := List.mem_map.2 ⟨plF n x, List.mem_range.2 (plF_lt n x h), plF_gray n x h⟩
  have hl := List.idxOf_lt_length_of_mem hm
  have hg := List.getElem_idxOf hl
  generalize ((List.range (2 ^ n)).map fun i => i ^^^ i / 2).idxOf x = j at hl hg ⊢
  rw [List.length_map, List.length_range] at hl
  rw [List.getElem_map, List.getElem_range] at hg
  rw [← hg, plF_back n j hl]
theorem plF_up : ∀ {f x : Nat}, x < 2 ^ f → plF (f + 1) x = plF f x
  | 0, x, h => by
    have : x = 0 := by simpa using h
    subst this
    rfl
  | f + 1, x, h => by
    show x ^^^ plF (f + 1) (x / 2) = x ^^^ plF f (x / 2)
    rw [plF_up (by rw [Nat.pow_succ] at h; omega)]
theorem plF_more {f x : Nat} (h : x < 2 ^ f) : ∀ d, plF (f + d) x = plF f x
  | 0 => rfl
  | d + 1 => by
    rw [← Nat.add_assoc, plF_up (Nat.lt_of_lt_of_le h (Nat.pow_le_pow_right (by decide) (by omega))), plF_more h d]

/-- A bound divided over and over. -/
theorem within_is {k : Nat} (hk : 1 ≤ k) (n m : Nat) : 0 < m / k ^ n ↔ k ^ n ≤ m := by
  rw [Nat.div_pos_iff]
  exact ⟨fun h => h.2, fun h => ⟨Nat.pow_pos hk, h⟩⟩
theorem div_more (m k n : Nat) : m / k ^ n / k = m / k ^ (n + 1) := by
  rw [Nat.div_div_eq_div_mul, Nat.pow_succ]

/-- A word over and over, so many numbers. -/
def cyc (n : Nat) (M : List Nat) : List Nat := (List.range n).map fun i => M.getD (i % M.length) 0
theorem cyc_len (n : Nat) (M : List Nat) : (cyc n M).length = n := by unfold cyc; simp
theorem cyc_at {n i : Nat} (M : List Nat) (h : i < n) : (cyc n M).getD i 0 = M.getD (i % M.length) 0 := by
  unfold cyc
  simp [h]
theorem ext_getD {L M : List Nat} (hl : L.length = M.length) (h : ∀ i, i < L.length → L.getD i 0 = M.getD i 0) : L = M :=
  List.ext_getElem hl fun i h1 h2 => by
    have := h i h1
    rwa [List.getD_eq_getElem?_getD, List.getD_eq_getElem?_getD, List.getElem?_eq_getElem h1, List.getElem?_eq_getElem h2] at this
theorem cyc_self (M : List Nat) : cyc M.length M = M := by
  refine ext_getD (cyc_len _ _) fun i h1 => ?_
  rw [cyc_len] at h1
  rw [cyc_at M h1, Nat.mod_eq_of_lt h1]
theorem cyc_lt {n k : Nat} {M : List Nat} (hM : ∀ x ∈ M, x < k) (h0 : 0 < M.length) : ∀ x ∈ cyc n M, x < k := fun x hx => by
  obtain ⟨i, -, rfl⟩ := List.mem_map.1 hx
  have hi := Nat.mod_lt i h0
  rw [List.getD_eq_getElem?_getD, List.getElem?_eq_getElem hi]
  exact hM _ (List.getElem_mem hi)
/-- The word behind: what ends with the greatest numbers loses them, and what is last goes up. -/
def raR (k : Nat) : List Nat → List Nat
  | [] => []
  | x :: t => match Nat.beq (Nat.succ x) k with
    | true => raR k t
    | false => Nat.succ x :: t
def nxt (k n : Nat) (M : List Nat) : List Nat := (raR k (cyc n M).reverse).reverse
/-- All these words, one behind the other, of lengths that divide n; none if there are too many. -/
def fkm (k n : Nat) : Nat → List Nat → Option (List Nat)
  | _, [] => some []
  | 0, _ :: _ => none
  | f + 1, x :: t => match fkm k n f (nxt k n (x :: t)) with
    | none => none
    | some R => some (if n % (x :: t).length = 0 then (x :: t) ++ R else R)

/- The same for the kernel: a word over and over, from behind. -/
def cyR (M : List Nat) : Nat → List Nat → List Nat → List Nat
  | 0, _, r => r
  | f + 1, [], r => match M with
    | [] => r
    | x :: t => cyR (x :: t) f t (x :: r)
  | f + 1, x :: t, r => cyR M f t (x :: r)
def lnN : List Nat → Nat → Nat
  | [], m => m
  | _ :: t, m => lnN t (Nat.succ m)
def rvN : List Nat → List Nat → List Nat
  | [], r => r
  | x :: t, r => rvN t (x :: r)
/-- Is what follows so many numbers' words, and nothing behind? -/
def pre : List Nat → List Nat → Option (List Nat)
  | [], l => some l
  | _ :: _, [] => none
  | x :: t, y :: l => match Nat.beq x y with
    | true => pre t l
    | false => none
def fkB (k n : Nat) : Nat → List Nat → List Nat → Bool
  | _, [], [] => true
  | _, [], _ :: _ => false
  | 0, _ :: _, _ => false
  | f + 1, x :: t, l => match Nat.beq (Nat.mod n (lnN (x :: t) 0)) 0 with
    | false => fkB k n f (rvN (raR k (cyR (x :: t) n (x :: t) [])) []) l
    | true => match pre (x :: t) l with
      | none => false
      | some l' => fkB k n f (rvN (raR k (cyR (x :: t) n (x :: t) [])) []) l'
end Go.Proofs.Ytcjkcgfohmhbcab
