/- The law ArrayStrength. -/
import Derived.Test.YtjfjdidibglhaaaA9
import Derived.Test.YtjfjdidibglhaaaA7
import Derived.Test.YtjfjdidibglhaaaRRB
namespace Go.Proofs.Ytjfjdidibglhaaa
open Go.RowKit

set_option maxRecDepth 100000 in
set_option maxHeartbeats 4000000 in
theorem Strength_law (s : Int) (ls : List (List Int)) (v : Value) (w : World) (_hs : (Lit.int .i64 s).wf = true) (hC : CameR ls v w) :
    Calls Try.prog 3 #[.int .i64 s, v] w fun e w' => e = .returned (.bool true) ∧ Below w.heap.size w w' := by
  obtain ⟨hv, _, hll, hl⟩ := hC
  have C8 := RunsFault_any s ls v w hv hl hll
  have H9 : Hid (∀ W, Below w.heap.size w W → Calls Try.prog 9 #[.int .i64 s, v] W fun e w' => e = .returned (.int .i64 (aF s ls : Int)) ∧ w' = W) := fun W b => Check_any s ls v W (hv.below b) hl hll
  by_cases h0 : aF s ls = 0
  · obtain ⟨s', k, rfl, hG⟩ := aF_good h0
    rw [h0] at C8 H9
    have H10 : Hid (∀ W, Below w.heap.size w W → Calls Try.prog 10 #[.int .i64 (s' : Int), v] W fun e w' => SgR s' k ls e ∧ Below W.heap.size W w') := fun W b => Strength_ok s' k ls v W (hv.below b) hG
    have H11 : Hid (∀ W, Below w.heap.size w W → Calls Try.prog 11 #[.int .i64 (s' : Int), v] W fun e w' => (∃ t : Nat, e = .returned (.int .i64 (t : Int)) ∧ StrIs s' k (rnA ls) t) ∧ Below W.heap.size W w') := fun W b => StrengthOf_any s' k ls v W (hv.below b) hG
    obtain ⟨n, Hn⟩ : ∃ n, Hid (ls.length = n) := ⟨_, rfl⟩
    obtain ⟨a, cap, rfl, -⟩ := hv
    rw [Hn.out] at C8 H9 H10 H11 ⊢
    clear hll hl h0 hG
    go_enter Try.func3, Try.ntmps3
    go_wp2_with (first
      | (go_at_call 8; refine C8.mono ?_; rintro e1 w1 ⟨rfl, b1⟩; clear C8)
      | (go_at_call 9; refine (H9.out _ b1).mono ?_; rintro e2 w2 ⟨rfl, h2⟩; replace h2 := h2.symm; subst h2; clear H9)
      | (go_at_call 10; refine (H10.out _ b1).mono ?_; rintro e3 w3 ⟨⟨t, rfl, hT⟩, b3⟩; clear H10; have b4 := Below.next b1 b3)
      | (go_at_call 11; refine (H11.out _ b4).mono ?_; rintro e4 w4 ⟨⟨t', rfl, hT'⟩, b5⟩; clear H11; have ht : t = t' := hT.one hT'; subst ht))
    go_ret
    exact ⟨by simp, Below.next b4 b5⟩
  · have H10 : Hid (∀ W, Below w.heap.size w W → Calls Try.prog 10 #[.int .i64 s, v] W fun e w' => e = .returned (.tuple #[.int .i64 0, .int .i64 (aF s ls : Int)]) ∧ Below W.heap.size W w') := fun W b => Strength_bad s ls v W (hv.below b) hl hll h0
    obtain ⟨z, Hz⟩ : ∃ z, Hid (aF s ls = z) := ⟨_, rfl⟩
    rw [Hz.out] at C8 H9 H10 h0
    have hne : ((z : Int) != 0) = true := by simp; omega
    have hzz : ((z : Int) != (z : Int)) = false := by simp
    obtain ⟨n, Hn⟩ : ∃ n, Hid (ls.length = n) := ⟨_, rfl⟩
    obtain ⟨a, cap, rfl, -⟩ := hv
    rw [Hn.out] at C8 H9 H10 ⊢
    clear hll hl h0
    go_enter Try.func3, Try.ntmps3
    go_wp2_with (first
      | (go_at_call 8; refine C8.mono ?_; rintro e1 w1 ⟨rfl, b1⟩; clear C8)
      | (go_at_call 9; refine (H9.out _ b1).mono ?_; rintro e2 w2 ⟨rfl, h2⟩; replace h2 := h2.symm; subst h2; clear H9)
      | (go_at_call 10; refine (H10.out _ b1).mono ?_; rintro e3 w3 ⟨rfl, b3⟩; clear H10))
    go_ret
    exact ⟨by simp, Below.next b1 b3⟩
end Go.Proofs.Ytjfjdidibglhaaa
