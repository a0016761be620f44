/- Sums and products on a true field: the program's and the document's. -/
import Derived.Test.YtagpbkcnjogbgaaDoorW9
import Derived.Test.YtagpbkcnjogbgaaDoorW19
import Derived.Test.YtagpbkcnjogbgaaDoorW22
import Derived.Test.YtagpbkcnjogbgaaDoorW23
import Derived.Test.YtagpbkcnjogbgaaDoorW46
import Derived.Test.YtagpbkcnjogbgaaDoorAlgE
namespace Go.Proofs.YtagpbkcnjogbgaaDoor.Fd
open Go.RowKit

theorem open_err {p k : Int} {l es : List Int} {z ze : Int} (hF : FaultIs p k l ze) (h0 : ze ≠ 0) (h : OpenIs p k l es z) : z = ze := by
  rcases h with ⟨_, h⟩ | ⟨h, _, _⟩ | ⟨h, _, _⟩
  · exact h.one hF
  · exact absurd (hF.one h) h0
  · exact absurd (hF.one h) h0
theorem open_in {p k : Int} {l es : List Int} {z : Int} (hF : FaultIs p k l 0) (hi : inL (ordZ p k) es) (h : OpenIs p k l es z) : z = 0 := by
  rcases h with ⟨h0, h⟩ | ⟨_, h, _⟩ | ⟨_, _, h⟩
  · exact absurd (h.one hF) h0
  · exact absurd hi h
  · exact h
theorem open_out {p k : Int} {l es : List Int} {z : Int} (hF : FaultIs p k l 0) (hi : ¬ inL (ordZ p k) es) (h : OpenIs p k l es z) : z = 1 := by
  rcases h with ⟨h0, h⟩ | ⟨_, _, h⟩ | ⟨_, h, _⟩
  · exact absurd (h.one hF) h0
  · exact h
  · exact absurd h hi
theorem inB_iff (q a : Int) : inB q a = true ↔ 0 ≤ a ∧ a < q := by simp [inB]
theorem inL_pair (q a b : Int) : inL q [a, b] ↔ inB q a = true ∧ inB q b = true := by
  rw [inB_iff, inB_iff]
  constructor
  · intro h
    exact ⟨h 0 (by simp), h 1 (by simp)⟩
  · rintro ⟨h1, h2⟩ j hj
    have : j = 0 ∨ j = 1 := by simp at hj; omega
    rcases this with rfl | rfl
    · exact h1
    · exact h2

theorem mulQ_cast {P K : Nat} {m : Nat → Int} (hR : Ring1 P K m) (a b : Nat) : ((mulQ P K m a b : Nat) : Int) = hor (redN m K P K (mulN (digF a P) (digF b P) P K K)) P K K := by
  unfold mulQ
  exact Int.toNat_of_nonneg (hor_bd (k := K) (show (2 : Int) ≤ P by have := hR.two; omega) (mulQ_in hR a b) K).1
theorem addQ_cast {P K : Nat} (hP : 2 ≤ P) (a b : Nat) : ((addQ P K a b : Nat) : Int) = hor (plusF (digF a P) (digF b P) P) P K K := by
  unfold addQ
  exact Int.toNat_of_nonneg (hor_bd (k := K) (show (2 : Int) ≤ P by omega) (plusF_in _ _ _ (by omega)) K).1
/-- A field that is one, in natural numbers. -/
structure GoodF (P K : Nat) (l : List Int) : Prop where
  fault : FaultIs (P : Int) K l 0
  field : FieldQ P K (monL l)
  le61 : P ≤ 61
  le6 : K ≤ 6
  le64 : P ^ K ≤ 64
  ord : ordZ (P : Int) K = ((P ^ K : Nat) : Int)
  len : l.length = K
theorem good_of {p k : Int} {l : List Int} (h : FaultIs p k l 0) : ∃ P K : Nat, p = P ∧ k = K ∧ GoodF P K l := by
  obtain ⟨h0, h1, h2, h3⟩ := h.ok
  obtain ⟨P, K, rfl, rfl, hP, hP', hK, hK', hPK, hq, hlen, hmi, hmK, hpr⟩ := good_parts h
  rw [Int.toNat_natCast, Int.toNat_natCast] at h3
  exact ⟨P, K, rfl, rfl, h, field_of_irr hpr hK hPK hlen h2 h3, hP', hK', hPK, hq, hlen⟩
theorem in_pair {P K : Nat} {l : List Int} (hG : GoodF P K l) {a b : Nat} (ha : a < P ^ K) (hb : b < P ^ K) : inL (ordZ (P : Int) K) [(a : Int), (b : Int)] := by
  rw [inL_pair, inB_iff, inB_iff, hG.ord]; omega
theorem in_one {P K : Nat} {l : List Int} (hG : GoodF P K l) {a : Nat} (ha : a < P ^ K) : inL (ordZ (P : Int) K) [(a : Int)] := by
  intro j hj
  have : j = 0 := by simp at hj; omega
  subst this
  rw [hG.ord]
  show 0 ≤ (a : Int) ∧ (a : Int) < _
  omega

theorem AddG (P K a b : Nat) (l : List Int) (v : Value) (w : World) (hT : Tab w) (hl : Sl w v l) (hll : l.length ≤ maxLen) (hG : GoodF P K l) (ha : a < P ^ K) (hb : b < P ^ K) (s : Nat) (hs : Hid (s = addQ P K a b)) :
    Calls Tryd.prog 36 #[.agg #[.int .i64 P, .int .i64 K, v], .int .i64 a, .int .i64 b] w fun e w' => e = .returned (.tuple #[.int .i64 s, .int .i64 0]) ∧ Below w.heap.size w w' := by
  refine (Add_any P K a b l v w hT hl hll).mono ?_
  rintro e w' ⟨x, z, rfl, hO, _, H1, hB⟩
  obtain rfl := open_in hG.fault (in_pair hG ha hb) hO
  have h := H1.out rfl
  unfold sumZ at h
  simp only [Int.toNat_natCast] at h
  rw [← addQ_cast hG.field.two, ← hs.out] at h
  exact ⟨by rw [h], hB⟩
theorem MulG (P K a b : Nat) (l : List Int) (v : Value) (w : World) (hT : Tab w) (hl : Sl w v l) (hll : l.length ≤ maxLen) (hG : GoodF P K l) (ha : a < P ^ K) (hb : b < P ^ K) (s : Nat) (hs : Hid (s = mulQ P K (monL l) a b)) :
    Calls Tryd.prog 23 #[.agg #[.int .i64 P, .int .i64 K, v], .int .i64 a, .int .i64 b] w fun e w' => e = .returned (.tuple #[.int .i64 s, .int .i64 0]) ∧ Below w.heap.size w w' := by
  refine (Mul_any P K a b l v w hT hl hll).mono ?_
  rintro e w' ⟨x, z, rfl, hO, _, H1, hB⟩
  obtain rfl := open_in hG.fault (in_pair hG ha hb) hO
  have h := H1.out rfl
  unfold prodZ at h
  simp only [Int.toNat_natCast] at h
  rw [prod_same hG.field.two hG.field.one hG.le6 ha hb, ← mulQ_cast hG.field.toRing1, ← hs.out] at h
  exact ⟨by rw [h], hB⟩

theorem SumG (P K a b : Nat) (l : List Int) (v : Value) (w : World) (hl : Sl w v l) (hG : GoodF P K l) (ha : a < P ^ K) (hb : b < P ^ K) :
    Calls Tryd.prog 29 #[.agg #[.int .i64 P, .int .i64 K, v], .int .i64 a, .int .i64 b] w fun e w' => e = .returned (.int .i64 (addQ P K a b : Int)) ∧ Below w.heap.size w w' := by
  obtain ⟨A, c, rfl, _⟩ := hl
  have h := sum_any P K a b A l.length c w hG.field.two (by have := hG.le61; omega) hG.field.one hG.le6 hG.le64 ha hb
  rw [← addQ_cast hG.field.two] at h
  exact h
theorem TimesG (P K a b : Nat) (l : List Int) (v : Value) (w : World) (hl : Sl w v l) (hG : GoodF P K l) (ha : a < P ^ K) (hb : b < P ^ K) :
    Calls Tryd.prog 28 #[.agg #[.int .i64 P, .int .i64 K, v], .int .i64 a, .int .i64 b] w fun e w' => e = .returned (.int .i64 (mulQ P K (monL l) a b : Int)) ∧ Below w.heap.size w w' := by
  have hg := good_parts hG.fault
  obtain ⟨P', K', e1, e2, _, _, _, _, _, _, _, hmi, hmK, _⟩ := hg
  obtain rfl : P = P' := by omega
  obtain rfl : K = K' := by omega
  have h := timesRef_any P K a b l v w hl hG.len hG.field.two (by have := hG.le61; omega) hG.field.one hG.le6 hG.le64 ha hb hmi hmK
  rw [← mulQ_cast hG.field.toRing1] at h
  exact h
end Go.Proofs.YtagpbkcnjogbgaaDoor.Fd
