/- The walk of the document's NextSet. -/
import Derived.Test.YtamdpcajfgbagaaDL
import Derived.Test.YtamdpcajfgbagaaDNext
namespace Go.Proofs.Ytamdpcajfgbagaa
open Go.RowKit

def fl (t : Nat) (f : Nat → Nat) : List Nat := (List.range t).map f
theorem fl_len (t : Nat) (f : Nat → Nat) : (fl t f).length = t := by simp [fl]
theorem fl_get {t : Nat} (f : Nat → Nat) {i : Nat} (h : i < t) : (fl t f).getD i 0 = f i := by simp [fl, h]
theorem fl_of (s : List Nat) : fl s.length (fun i => s.getD i 0) = s := by
  apply List.ext_getElem
  · simp [fl]
  · intro i h1 h2
    simp [fl, h2]
/-- What comes next, place by place. -/
def nxF (f : Nat → Nat) (i : Nat) (m : Nat) : Nat := if m < i then f m else f i + 1 + (m - i)
theorem nx_fun {v t i : Nat} {f : Nat → Nat} (hi : i < t) (hm : ∀ m, i < m → m < t → v ≤ f m + (t - m)) (hx : f i + (t - i) < v) : nx v (fl t f) = some (fl t (nxF f i)) := by
  rw [nx_at (i := i) (by rw [fl_len]; exact hi) (fun m h1 h2 => by
    rw [fl_len] at h2 ⊢
    rw [fl_get f h2]
    exact hm m h1 h2) (by rw [fl_len, fl_get f hi]; exact hx)]
  congr 1
  rw [fl_len, fl_get f hi]
  apply List.ext_getElem
  · simp [fl]; omega
  · intro m h1 h2
    have hmt : m < t := by simpa [fl] using h2
    rw [List.getElem_append]
    by_cases h : m < i
    · have h' : m < (List.take i (fl t f)).length := by rw [List.length_take, fl_len]; omega
      rw [dif_pos h']
      simp [fl, nxF, h]
    · have h' : ¬ m < (List.take i (fl t f)).length := by rw [List.length_take, fl_len]; omega
      rw [dif_neg h']
      have e : min i t = i := by omega
      simp [fl, nxF, h, e]
theorem nx_off {v t : Nat} {f : Nat → Nat} (hm : ∀ m, m < t → v ≤ f m + (t - m)) : nx v (fl t f) = none := nx_full fun m h => by
  rw [fl_len] at h ⊢
  rw [fl_get f h]
  exact hm m h
end Go.Proofs.Ytamdpcajfgbagaa
