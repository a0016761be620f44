/- What each face is to tell. -/
import Derived.Test.YtcjkcgfohmhbcabWQ
import Derived.Test.YtcjkcgfohmhbcabP14
namespace Go.Proofs.Ytcjkcgfohmhbcab
open Go.RowKit

/-- A word as it comes: a row of numbers, with room. -/
def Sw (w : World) (v : Value) (l : List Int) : Prop := Sl w v l ∧ (∀ a n c, v = .slice a n c → n ≤ c) ∧ l.length ≤ maxLen
theorem Sw.below {w w' : World} {v : Value} {l : List Int} (h : Sw w v l) (hb : Below w.heap.size w w') : Sw w' v l := ⟨h.1.below hb, h.2⟩
/-- The word itself, where nothing is wrong with it. -/
def wdN (l : List Int) : List Nat := l.map Int.toNat
theorem wd_back (M : List Nat) : wdN (M.map Int.ofNat) = M := by
  unfold wdN
  rw [List.map_map]
  exact List.map_id'' (fun x => Int.toNat_natCast x) M
theorem Sw.wd {w : World} {v : Value} {l : List Int} (h : Sw w v l) (h0 : wF l = 0) : Wd w v (wdN l) ∧ (wdN l).length ≤ 4096 ∧ (∀ x ∈ wdN l, x ≤ 9) ∧ l = (wdN l).map Int.ofNat := by
  obtain ⟨hl, M, rfl, hM⟩ := wF_ok h0
  obtain ⟨⟨a, c, rfl, hc⟩, hr, -⟩ := h
  rw [wd_back]
  rw [List.length_map] at hl hc hr ⊢
  refine ⟨⟨a, c, rfl, hr _ _ _ rfl, fun j hj => ?_⟩, hl, hM, rfl⟩
  obtain ⟨b, o, e, hcell⟩ := hc j hj
  exact ⟨b, o, e, by rw [hcell, nat_at]⟩
theorem Wd.form {w : World} {v : Value} {M : List Nat} (h : Wd w v M) : ∃ a m c, v = .slice a m c := by
  obtain ⟨a, c, e, _⟩ := h
  exact ⟨a, _, c, e⟩
theorem Wd.len {w : World} {v : Value} {M : List Nat} (h : Wd w v M) {m : Nat} (e : M.length = m) : ∃ a c, v = .slice a m c := by
  obtain ⟨a, c, rfl, _⟩ := h
  exact ⟨a, c, by rw [e]⟩
theorem Wd.cellAt {w : World} {b o n c : Nat} {M : List Nat} (h : Wd w (.slice (Option.some ⟨b, o, none⟩) n c) M) {j : Nat} (hj : j < n) : w.cell? ⟨b, o + j, none⟩ = Option.some (Value.int .i64 ((M.getD j 0 : Nat) : Int)) := by
  obtain ⟨a', c', e, -, hcell⟩ := h
  cases e
  obtain ⟨b', o', e, hci⟩ := hcell j hj
  cases e
  exact hci
def plE (n x : Int) : Nat := if grE n = 0 ∧ 0 ≤ x ∧ x < ((grZ n).length : Int) then 0 else 1
def plZ (n x : Int) : Nat := if plE n x = 0 then (grZ n).idxOf x.toNat else 0
def lyZ (l : List Int) : Bool := decide (wF l = 0) && lyB (wdN l)
def FLyndon : Prop := ∀ (l : List Int) (v : Value) (w : World), Sw w v l → Calls Try.prog 9 #[v] w fun e w' => e = .returned (.tuple #[.bool (lyZ l), .int .i64 (wF l : Int)]) ∧ Below w.heap.size w w'
def faZ (l : List Int) : List Nat := if wF l = 0 then facL (wdN l) else []
def pmZ (k n : Int) : Int := if prE k n = 0 then prZ k.toNat n.toNat else 0
def FPrimes : Prop := ∀ (k n : Int) (w : World), k < 2 ^ 63 → Calls Try.prog 7 #[.int .i64 k, .int .i64 n] w fun e w' => e = .returned (.tuple #[.int .i64 (pmZ k n), .int .i64 (prE k n : Int)]) ∧ Below w.heap.size w w'
def bjN (k n : Nat) : List Nat := bru k (k ^ n) (k ^ n) (k ^ n - 1) 0
def bjZ (k n : Int) : List Nat := if bfE k n = 0 then bjN k.toNat n.toNat else []
def FBruijn : Prop := ∀ (k n : Int) (w : World), Calls Try.prog 6 #[.int .i64 k, .int .i64 n] w fun e w' => (∃ y, e = .returned (.tuple #[y, .int .i64 (bfE k n : Int)]) ∧ Wd w' y (bjZ k n)) ∧ Below w.heap.size w w'
/-- What is wrong with a word of numbers below k. -/
def neF (k : Int) (l : List Int) : Nat := if k < 1 ∨ 10 < k then 1 else if wF l ≠ 0 then wF l else if l.any (fun x => decide (k ≤ x)) = true then 1 else 0
def neE (k : Int) (l : List Int) : Nat := if neF k l ≠ 0 then neF k l else if lyB (wdN l) = true then nxE k (wdN l) else 2
def neZ (k : Int) (l : List Int) : List Nat := if neE k l = 0 then nxZ k (wdN l) else []
def FNext : Prop := ∀ (k : Int) (l : List Int) (v : Value) (w : World), Sw w v l → Calls Try.prog 8 #[.int .i64 k, v] w fun e w' => (∃ y, e = .returned (.tuple #[y, .int .i64 (neE k l : Int)]) ∧ Wd w' y (neZ k l)) ∧ Below w.heap.size w w'
/-- Two rows of the same numbers. -/
theorem same_any {M : List Nat} (hM : M.length ≤ 4096) {x y : Value} {W : World} (hx : Wd W x M) (hy : Wd W y M) : Calls Try.prog 11 #[x, y] W fun e w' => e = .returned (.bool true) ∧ Below W.heap.size W w' :=
  (ints_any _ _ x y W hx.sl hy.sl (by rw [List.length_map]; unfold maxLen; omega) (by rw [List.length_map]; unfold maxLen; omega)).mono fun e w' ⟨b, h1, h2, h3⟩ => ⟨by rw [h1, h2.2 rfl], h3⟩
end Go.Proofs.Ytcjkcgfohmhbcab
