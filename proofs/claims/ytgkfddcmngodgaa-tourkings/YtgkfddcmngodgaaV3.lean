/- The document's PathsOf and CycleOf, walked. -/
import Derived.Test.YtgkfddcmngodgaaV2
namespace Go.Proofs.Ytgkfddcmngodgaa
open Go.RowKit Go.Maps

/-- Paths: how many, the first; the first cycle, if any. -/
def paN (n : Nat) (t : Nat → Nat → Bool) : Nat := (wk n t false n []).1
def paL (n : Nat) (t : Nat → Nat → Bool) : List Nat := (wk n t false n []).2
def cyN (n : Nat) (t : Nat → Nat → Bool) : Nat := (wk n t true (n - 1) [0]).1
def cyL (n : Nat) (t : Nat → Nat → Bool) : List Nat := (wk n t true (n - 1) [0]).2
set_option maxRecDepth 100000 in
set_option maxHeartbeats 8000000 in
theorem PathsOf_any {n : Nat} {l : List Int} (hg : GoodT n l) (v : Value) (w : World) (hv : Sl w v l) :
    Calls Try.prog 24 #[.agg #[.int .i64 (n : Int), v]] w fun e w' => (∃ y, e = .returned (.tuple #[.int .i64 (paN n (tB n l) : Int), y]) ∧ Sl w' y ((paL n (tB n l)).map Int.ofNat)) ∧ Below w.heap.size w w' := by
  have b1 := balloc w (.cells #[.int .i64 (n : Int), v] 24)
  have HX := sq_cells (n : Int) v w
  obtain ⟨x0, x1⟩ := HX _ (Below.refl _ _)
  have C := walked_any hg false n [] v (.slice none 0 0) _ (hv.below b1) (Sl.nil _) (by simp) (by simp)
  unfold paN paL
  obtain ⟨m, Hm⟩ : ∃ m, Hid ((wk n (tB n l) false n []).1 = m) := ⟨_, rfl⟩
  obtain ⟨f, Hf⟩ : ∃ f, Hid ((wk n (tB n l) false n []).2 = f) := ⟨_, rfl⟩
  rw [Hm.out, Hf.out] at C ⊢
  clear HX hv hg
  go_enter Try.func24, Try.ntmps24
  go_wp2_with (go_at_call 37; refine C.mono ?_; rintro e w5 ⟨⟨y, rfl, hy⟩, b5⟩; clear C)
  go_ret2
  exact ⟨⟨y, rfl, hy⟩, b1.trans (b5.mono b1.size)⟩
set_option maxRecDepth 100000 in
set_option maxHeartbeats 8000000 in
theorem CycleOf_any {n : Nat} {l : List Int} (hg : GoodT n l) (v : Value) (w : World) (hv : Sl w v l) :
    Calls Try.prog 25 #[.agg #[.int .i64 (n : Int), v]] w fun e w' => (∃ y, e = .returned (.tuple #[y, .int .i64 (if cyN n (tB n l) = 0 then 4 else 0)]) ∧ Sl w' y ((if cyN n (tB n l) = 0 then [] else cyL n (tB n l)).map Int.ofNat)) ∧ Below w.heap.size w w' := by
  have hn1 := hg.one
  have b1 := balloc w (.cells #[.int .i64 (n : Int), v] 24)
  have HX := sq_cells (n : Int) v w
  obtain ⟨x0, x1⟩ := HX _ (Below.refl _ _)
  have b2 := balloc (w.alloc (.cells #[.int .i64 (n : Int), v] 24)) (.cells #[.int .i64 0] 3)
  have hl0 : Sl ((w.alloc (.cells #[.int .i64 (n : Int), v] 24)).alloc (.cells #[.int .i64 0] 3)) (.slice (some ⟨(w.alloc (.cells #[.int .i64 (n : Int), v] 24)).heap.size, 0, none⟩) 1 1) (([0] : List Nat).map Int.ofNat) := by
    refine Sl.owned (base := (w.alloc (.cells #[.int .i64 (n : Int), v] 24)).heap.size) ?_
    exact ⟨rfl, .inr ⟨_, 1, #[.int .i64 0], rfl, Nat.le_refl _, heap_alloc_new _ _, Nat.le_refl _, by unfold maxLen; omega, rfl, rfl⟩⟩
  have C := walked_any hg true (n - 1) [0] v _ _ ((hv.below b1).below b2) hl0 (by simp; omega) (by simp; omega)
  have e1 : (w.alloc (.cells #[.int .i64 (n : Int), v] 24)).heap.size = w.heap.size + 1 := by simp
  rw [e1] at C
  have hB : Below w.heap.size w ((w.alloc (.cells #[.int .i64 (n : Int), v] 24)).alloc (.cells #[.int .i64 0] 3)) := b1.trans (b2.mono b1.size)
  unfold cyN cyL
  obtain ⟨m, Hm⟩ : ∃ m, Hid ((wk n (tB n l) true (n - 1) [0]).1 = m) := ⟨_, rfl⟩
  obtain ⟨f, Hf⟩ : ∃ f, Hid ((wk n (tB n l) true (n - 1) [0]).2 = f) := ⟨_, rfl⟩
  rw [Hm.out, Hf.out] at C ⊢
  clear HX hv hg hl0 b2 b1
  by_cases hm : m = 0
  · subst hm
    rw [if_pos rfl, if_pos rfl]
    go_enter Try.func25, Try.ntmps25
    go_wp2_with (go_at_call 37; refine C.mono ?_; rintro e w5 ⟨⟨y, rfl, hy⟩, b5⟩; clear C)
    go_ret2
    exact ⟨⟨_, rfl, Sl.nil _⟩, hB.trans (b5.mono hB.size)⟩
  · rw [if_neg hm, if_neg hm]
    have hmb : ((m : Int) == 0) = false := by simp [hm]
    clear hm
    go_enter Try.func25, Try.ntmps25
    go_wp2_with (go_at_call 37; refine C.mono ?_; rintro e w5 ⟨⟨y, rfl, hy⟩, b5⟩; clear C)
    go_ret2
    exact ⟨⟨y, rfl, hy⟩, hB.trans (b5.mono hB.size)⟩
end Go.Proofs.Ytgkfddcmngodgaa
