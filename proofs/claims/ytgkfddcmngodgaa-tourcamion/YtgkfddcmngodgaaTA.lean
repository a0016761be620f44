/- What each face is to tell. -/
import Derived.Test.YtgkfddcmngodgaaV4
import Derived.Test.YtgkfddcmngodgaaU6
import Derived.Test.YtgkfddcmngodgaaU5
import Derived.Test.YtgkfddcmngodgaaDLi
import Derived.Test.YtgkfddcmngodgaaTrA
namespace Go.Proofs.Ytgkfddcmngodgaa
open Go.RowKit

def scZ (s : Int) (l : List Int) : List Int := if tF s l = 0 then (scT (tB s.toNat l) s.toNat).map Int.ofNat else []
def kgZ (s : Int) (l : List Int) : List Int := if tF s l = 0 then (kgL s.toNat (tB s.toNat l) s.toNat).map Int.ofNat else []
def rgZ (s : Int) (l : List Int) : Nat := if tF s l = 0 then rA s.toNat (tB s.toNat l) s.toNat else 0
def ptZ (s : Int) (l : List Int) : List (List Int) := if tF s l = 0 then toZ (ptL s.toNat (reB s.toNat (tB s.toNat l))) else []
def plZ (s : Int) (l : List Int) : List Int := if tF s l = 0 then (paL s.toNat (tB s.toNat l)).map Int.ofNat else []
def pnZ (s : Int) (l : List Int) : Nat := if tF s l = 0 then paN s.toNat (tB s.toNat l) else 0
def ceT (s : Int) (l : List Int) : Nat := if tF s l = 0 then (if cyN s.toNat (tB s.toNat l) = 0 then 4 else 0) else tF s l
def cyZ (s : Int) (l : List Int) : List Int := if ceT s l = 0 then (cyL s.toNat (tB s.toNat l)).map Int.ofNat else []
theorem scZ_ok {n : Nat} {l : List Int} (h : tF n l = 0) : scZ n l = (scT (tB n l) n).map Int.ofNat := by unfold scZ; rw [if_pos h, Int.toNat_natCast]
theorem kgZ_ok {n : Nat} {l : List Int} (h : tF n l = 0) : kgZ n l = (kgL n (tB n l) n).map Int.ofNat := by unfold kgZ; rw [if_pos h, Int.toNat_natCast]
theorem rgZ_ok {n : Nat} {l : List Int} (h : tF n l = 0) : rgZ n l = rA n (tB n l) n := by unfold rgZ; rw [if_pos h, Int.toNat_natCast]
theorem ptZ_ok {n : Nat} {l : List Int} (h : tF n l = 0) : ptZ n l = toZ (ptL n (reB n (tB n l))) := by unfold ptZ; rw [if_pos h, Int.toNat_natCast]
theorem plZ_ok {n : Nat} {l : List Int} (h : tF n l = 0) : plZ n l = (paL n (tB n l)).map Int.ofNat := by unfold plZ; rw [if_pos h, Int.toNat_natCast]
theorem pnZ_ok {n : Nat} {l : List Int} (h : tF n l = 0) : pnZ n l = paN n (tB n l) := by unfold pnZ; rw [if_pos h, Int.toNat_natCast]
theorem ceT_ok {n : Nat} {l : List Int} (h : tF n l = 0) : ceT n l = if cyN n (tB n l) = 0 then 4 else 0 := by unfold ceT; rw [if_pos h, Int.toNat_natCast]
theorem cyZ_ok {n : Nat} {l : List Int} (h : tF n l = 0) : cyZ n l = (if cyN n (tB n l) = 0 then [] else cyL n (tB n l)).map Int.ofNat := by
  unfold cyZ
  rw [ceT_ok h, Int.toNat_natCast]
  by_cases h0 : cyN n (tB n l) = 0
  · rw [if_pos h0, if_neg (by decide), if_pos h0]; rfl
  · rw [if_neg h0, if_pos rfl, if_neg h0]
theorem scZ_bad {s : Int} {l : List Int} (h : tF s l ≠ 0) : scZ s l = [] := by unfold scZ; rw [if_neg h]
theorem kgZ_bad {s : Int} {l : List Int} (h : tF s l ≠ 0) : kgZ s l = [] := by unfold kgZ; rw [if_neg h]
theorem rgZ_bad {s : Int} {l : List Int} (h : tF s l ≠ 0) : rgZ s l = 0 := by unfold rgZ; rw [if_neg h]
theorem ptZ_bad {s : Int} {l : List Int} (h : tF s l ≠ 0) : ptZ s l = [] := by unfold ptZ; rw [if_neg h]
theorem plZ_bad {s : Int} {l : List Int} (h : tF s l ≠ 0) : plZ s l = [] := by unfold plZ; rw [if_neg h]
theorem pnZ_bad {s : Int} {l : List Int} (h : tF s l ≠ 0) : pnZ s l = 0 := by unfold pnZ; rw [if_neg h]
theorem ceT_bad {s : Int} {l : List Int} (h : tF s l ≠ 0) : ceT s l = tF s l := by unfold ceT; rw [if_neg h]
theorem cyZ_bad {s : Int} {l : List Int} (h : tF s l ≠ 0) : cyZ s l = [] := by unfold cyZ; rw [ceT_bad h, if_neg h]
/-- A table as it comes. -/
structure SqC (w : World) (v : Value) (l : List Int) : Prop where
  sl : Sl w v l
  len : l.length ≤ maxLen
/-- The contracts of the program's faces. -/
def FCheck : Prop := ∀ (s : Int) (l : List Int) (v : Value) (w : World), SqC w v l → Calls Try.prog 10 #[.agg #[.int .i64 s, v]] w fun e w' => e = .returned (.int .i64 (tF s l : Int)) ∧ Below w.heap.size w w'
def FScores : Prop := ∀ (s : Int) (l : List Int) (v : Value) (w : World), SqC w v l → Calls Try.prog 11 #[.agg #[.int .i64 s, v]] w fun e w' => (∃ y, e = .returned (.tuple #[y, .int .i64 (tF s l : Int)]) ∧ Sl w' y (scZ s l)) ∧ Below w.heap.size w w'
def FKings : Prop := ∀ (s : Int) (l : List Int) (v : Value) (w : World), SqC w v l → Calls Try.prog 12 #[.agg #[.int .i64 s, v]] w fun e w' => (∃ y, e = .returned (.tuple #[y, .int .i64 (tF s l : Int)]) ∧ Sl w' y (kgZ s l)) ∧ Below w.heap.size w w'
def FRings : Prop := ∀ (s : Int) (l : List Int) (v : Value) (w : World), SqC w v l → Calls Try.prog 13 #[.agg #[.int .i64 s, v]] w fun e w' => e = .returned (.tuple #[.int .i64 (rgZ s l : Int), .int .i64 (tF s l : Int)]) ∧ Below w.heap.size w w'
def FParts : Prop := ∀ (s : Int) (l : List Int) (v : Value) (w : World), SqC w v l → Calls Try.prog 14 #[.agg #[.int .i64 s, v]] w fun e w' => (∃ y, e = .returned (.tuple #[y, .int .i64 (tF s l : Int)]) ∧ Rw w' y (ptZ s l)) ∧ Below w.heap.size w w'
def FPath : Prop := ∀ (s : Int) (l : List Int) (v : Value) (w : World), SqC w v l → Calls Try.prog 21 #[.agg #[.int .i64 s, v]] w fun e w' => (∃ y, e = .returned (.tuple #[y, .int .i64 (tF s l : Int)]) ∧ Sl w' y (plZ s l)) ∧ Below w.heap.size w w'
def FPaths : Prop := ∀ (s : Int) (l : List Int) (v : Value) (w : World), SqC w v l → Calls Try.prog 22 #[.agg #[.int .i64 s, v]] w fun e w' => e = .returned (.tuple #[.int .i64 (pnZ s l : Int), .int .i64 (tF s l : Int)]) ∧ Below w.heap.size w w'
def FCycle : Prop := ∀ (s : Int) (l : List Int) (v : Value) (w : World), SqC w v l → Calls Try.prog 23 #[.agg #[.int .i64 s, v]] w fun e w' => (∃ y, e = .returned (.tuple #[y, .int .i64 (ceT s l : Int)]) ∧ Sl w' y (cyZ s l)) ∧ Below w.heap.size w w'
def FCould : Prop := ∀ (l : List Int) (v : Value) (w : World), SqC w v l → Calls Try.prog 26 #[v] w fun e w' => e = .returned (.tuple #[.bool (cZ l).1, .int .i64 ((cZ l).2 : Int)]) ∧ Below w.heap.size w w'
theorem SqC.below {w w' : World} {v : Value} {l : List Int} (h : SqC w v l) (b : Below w.heap.size w w') : SqC w' v l := ⟨h.sl.below b, h.len⟩
theorem kgL_small (n : Nat) (t : Nat → Nat → Bool) : (kgL n t n).length ≤ n := kgL_le n t n
/-- Could, over its contract. -/
theorem Could_law (FC : FCould) (l : List Int) (v : Value) (w : World) (h : SqC w v l) :
    Calls Try.prog 5 #[v] w fun e w' => e = .returned (.bool true) ∧ Below w.heap.size w w' := by
  have D1 := FC l v w h
  have HD2 : Hid (∀ W, Below w.heap.size w W → Calls Try.prog 27 #[v] W fun e w' => e = .returned (.tuple #[.bool (cZ l).1, .int .i64 ((cZ l).2 : Int)]) ∧ Below W.heap.size W w') := fun W b => CouldOf_any l v W (h.below b).sl h.len
  obtain ⟨a, c, rfl, _⟩ := h.sl
  obtain ⟨z, Hz⟩ : ∃ z, Hid ((cZ l).1 = z) := ⟨_, rfl⟩
  obtain ⟨k, Hk⟩ : ∃ k, Hid ((cZ l).2 = k) := ⟨_, rfl⟩
  obtain ⟨m, Hm⟩ : ∃ m, Hid (l.length = m) := ⟨_, rfl⟩
  rw [Hz.out, Hk.out, Hm.out] at D1 HD2
  rw [Hm.out]
  clear h
  have e1 : ((k : Int) == (k : Int)) = true := by simp
  have e2 : (z == z) = true := by simp
  go_enter Try.func5, Try.ntmps5
  go_wp2_with (first
    | (go_at_call 26; refine D1.mono ?_; rintro e w1 ⟨rfl, b1⟩; clear D1; have D2 := HD2.out w1 b1)
    | (go_at_call 27; refine D2.mono ?_; rintro e w2 ⟨rfl, b2⟩; clear D2))
  go_ret
  exact ⟨rfl, b1.trans (b2.mono b1.size)⟩
end Go.Proofs.Ytgkfddcmngodgaa
