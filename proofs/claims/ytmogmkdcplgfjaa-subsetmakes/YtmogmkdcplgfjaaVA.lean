/- What each face of package subset is to tell. -/
import Derived.Test.YtmogmkdcplgfjaaV10
import Derived.Test.YtmogmkdcplgfjaaV3
namespace Go.Proofs.Ytmogmkdcplgfjaa
open Go.RowKit

def toN (l : List Int) : List Nat := l.map Int.toNat
theorem toN_len (l : List Int) : (toN l).length = l.length := by unfold toN; rw [List.length_map]
theorem toN_at {l : List Int} {i : Nat} (hi : i < l.length) (h : 0 ≤ l.getD i 0) : (((toN l).getD i 0 : Nat) : Int) = l.getD i 0 := by
  unfold toN
  rw [List.getD_eq_getElem?_getD, List.getElem?_map, List.getElem?_eq_getElem hi]
  rw [List.getD_eq_getElem?_getD, List.getElem?_eq_getElem hi] at h ⊢
  show ((l[i].toNat : Nat) : Int) = l[i]
  exact Int.toNat_of_nonneg h
theorem Sw.toN {w : World} {v : Value} {l : List Int} (h : Sw w v l) (h0 : ∀ i, i < l.length → 0 ≤ l.getD i 0) : Wd w v (toN l) := by
  obtain ⟨⟨a, c, rfl, hc⟩, hr, -⟩ := h
  refine ⟨a, c, by rw [toN_len], by rw [toN_len]; exact hr _ _ _ rfl, fun j hj => ?_⟩
  rw [toN_len] at hj
  obtain ⟨b, o, e, hcell⟩ := hc j hj
  exact ⟨b, o, e, by rw [hcell, toN_at hj (h0 j hj)]⟩
/-- What is known of a list that nothing is wrong with. -/
theorem rises_ok {cap : Nat} {b : Int} {l : List Int} (h : riF cap b l = 0) : (toN l).length ≤ cap ∧ (∀ i, i < (toN l).length → (((toN l).getD i 0 : Nat) : Int) < b) ∧ Rises (toN l) ∧ (∀ i, i < l.length → 0 ≤ l.getD i 0) := by
  obtain ⟨h1, h2, h3⟩ := riF_ok h
  refine ⟨by rw [toN_len]; exact h1, fun i hi => ?_, fun i h4 hi => ?_, fun i hi => (h2 i hi).1⟩
  · rw [toN_len] at hi
    rw [toN_at hi (h2 i hi).1]
    exact (h2 i hi).2
  · rw [toN_len] at hi
    have a := h3 i h4 hi
    have e1 := toN_at hi (h2 i hi).1
    have e2 := toN_at (l := l) (i := i - 1) (by omega) (h2 (i - 1) (by omega)).1
    omega
def rkZ (l : List Int) : Nat := if rkF l = 0 then rkS (toN l) (toN l).length else 0
def FRank : Prop := ∀ (l : List Int) (v : Value) (w : World), Sw w v l → Calls Try.prog 10 #[v] w fun e w' => e = .returned (.tuple #[.int .i64 (rkZ l : Int), .int .i64 (rkF l : Int)]) ∧ Below w.heap.size w w'
def FUnrank : Prop := ∀ (k r : Int) (w : World), r < 2 ^ 63 → Calls Try.prog 12 #[.int .i64 k, .int .i64 r] w fun e w' => (∃ y, e = .returned (.tuple #[y, .int .i64 (unE k r : Int)]) ∧ Wd w' y (unZ k r)) ∧ Below w.heap.size w w'
def FCheck : Prop := ∀ (n : Int) (l : List Int) (v : Value) (w : World), Sw w v l → Calls Try.prog 16 #[.int .i64 n, v] w fun e w' => e = .returned (.int .i64 (fmF n l : Int)) ∧ Below w.heap.size w w'
def shZ (n : Int) (l : List Int) : List Nat := if fmF n l = 0 then shL n.toNat (toN l) else []
def FShadow : Prop := ∀ (n : Int) (l : List Int) (v : Value) (w : World), Sw w v l → Calls Try.prog 17 #[.int .i64 n, v] w fun e w' => (∃ y, e = .returned (.tuple #[y, .int .i64 (fmF n l : Int)]) ∧ Wd w' y (shZ n l)) ∧ Below w.heap.size w w'
def apZ (n : Int) (l : List Int) : Bool := decide (fmF n l = 0) && twB apP 0 (toN l)
def FApart : Prop := ∀ (n : Int) (l : List Int) (v : Value) (w : World), Sw w v l → Calls Try.prog 18 #[.int .i64 n, v] w fun e w' => e = .returned (.tuple #[.bool (apZ n l), .int .i64 (fmF n l : Int)]) ∧ Below w.heap.size w w'
def crZ (n : Int) (l : List Int) : Bool := decide (fmF n l = 0) && twB crP 1 (toN l)
def FCross : Prop := ∀ (n : Int) (l : List Int) (v : Value) (w : World), Sw w v l → Calls Try.prog 19 #[.int .i64 n, v] w fun e w' => e = .returned (.tuple #[.bool (crZ n l), .int .i64 (fmF n l : Int)]) ∧ Below w.heap.size w w'
def FCascade : Prop := ∀ (m k : Int) (w : World), Calls Try.prog 23 #[.int .i64 m, .int .i64 k] w fun e w' => (∃ y, e = .returned (.tuple #[y, .int .i64 (caE m k : Int)]) ∧ Wd w' y (caZ m k)) ∧ Below w.heap.size w w'
def lsZ (m k : Int) : Nat := if caE m k = 0 then leN k.toNat (casL k.toNat m.toNat) else 0
def FLeast : Prop := ∀ (m k : Int) (w : World), Calls Try.prog 24 #[.int .i64 m, .int .i64 k] w fun e w' => e = .returned (.tuple #[.int .i64 (lsZ m k : Int), .int .i64 (caE m k : Int)]) ∧ Below w.heap.size w w'
def FChains : Prop := ∀ (n : Int) (w : World), Calls Try.prog 27 #[.int .i64 n] w fun e w' => (∃ y, e = .returned (.tuple #[y, .int .i64 (chE n : Int)]) ∧ Rw w' y (toZ (chR n))) ∧ Below w.heap.size w w'
end Go.Proofs.Ytmogmkdcplgfjaa
