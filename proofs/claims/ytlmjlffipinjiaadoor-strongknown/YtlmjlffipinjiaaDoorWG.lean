/- Sums and products on a true field: the document's. -/
import Derived.Test.YtlmjlffipinjiaaDoorW24
namespace Go.Proofs.YtlmjlffipinjiaaDoor.Fd
open Go.RowKit

theorem SumGd (P K a b : Nat) (l : List Int) (v : Value) (w : World) (hl : Sl w v l) (hG : GoodF P K l) (ha : a < P ^ K) (hb : b < P ^ K) :
    Calls Tryd.prog 24 #[.agg #[.int .i64 P, .int .i64 K, v], .int .i64 a, .int .i64 b] w fun e w' => e = .returned (.int .i64 (addQ P K a b : Int)) ∧ Below w.heap.size w w' := by
  obtain ⟨A, c, rfl, _⟩ := hl
  have h := sum_any P K a b A l.length c w hG.field.two (by have := hG.le61; omega) hG.field.one hG.le6 hG.le64 ha hb
  rw [← addQ_cast hG.field.two] at h
  exact h
theorem TimesGd (P K a b : Nat) (l : List Int) (v : Value) (w : World) (hl : Sl w v l) (hG : GoodF P K l) (ha : a < P ^ K) (hb : b < P ^ K) :
    Calls Tryd.prog 23 #[.agg #[.int .i64 P, .int .i64 K, v], .int .i64 a, .int .i64 b] w fun e w' => e = .returned (.int .i64 (mulQ P K (monL l) a b : Int)) ∧ Below w.heap.size w w' := by
  have hg := good_parts hG.fault
  obtain ⟨P', K', e1, e2, _, _, _, _, _, _, _, hmi, hmK, _⟩ := hg
  obtain rfl : P = P' := by omega
  obtain rfl : K = K' := by omega
  have h := timesRef_any P K a b l v w hl hG.len hG.field.two (by have := hG.le61; omega) hG.field.one hG.le6 hG.le64 ha hb hmi hmK
  rw [← mulQ_cast hG.field.toRing1] at h
  exact h
end Go.Proofs.YtlmjlffipinjiaaDoor.Fd
