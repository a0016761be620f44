/- The laws StrongReal and StrongOther over what the faces tell. -/
import Derived.Test.YtlmjlffipinjiaaST1
import Derived.Test.YtlmjlffipinjiaaP14
namespace Go.Proofs.Ytlmjlffipinjiaa
open Go.RowKit

theorem fits_R {s : Int} {L : List Int} {P D N F : Int} (h : NuR s L P D N F 0) (hD : 1 ≤ D) {q : Bool} {u : Nat} (hq : FtR P D N F q u) : q = true ∧ u = 0 := by
  rcases h with ⟨h0, h1, _⟩ | ⟨n, rfl, G, h⟩
  · exact absurd h1.symm h0
  · rcases h with ⟨_, rfl, S⟩ | ⟨h, _⟩
    · obtain ⟨e1, e2, e3, e4, e5, e6, e7⟩ := S.fits G.gr G.pos hD rfl
      have hn := G.le
      rcases hq with ⟨h, _⟩ | ⟨_, rfl, hq⟩
      · unfold FtO at h
        omega
      · refine ⟨hq.2 ⟨e1, ?_⟩, rfl⟩
        rcases e7 with ⟨k1, k2⟩ | ⟨r, f, k1, k2, k3, k4⟩
        · exact .inl ⟨k1, by omega⟩
        · exact .inr ⟨r, f, k1, k2, by omega, k4⟩
    · cases h
theorem nu_err {s : Int} {L : List Int} {P D N F : Int} {u : Nat} (h : NuR s L P D N F u) (hu : u ≠ 0) : D = 0 := by
  rcases h with ⟨_, _, _, h, _⟩ | ⟨n, rfl, G, ⟨h, _⟩ | ⟨_, _, h, _⟩⟩
  · exact h
  · exact absurd h hu
  · exact h
set_option maxRecDepth 100000 in
set_option maxHeartbeats 8000000 in
theorem Real_law (hT : FTri) (hN : FNum) (hF : FFit) (s : Int) (L : List Int) (v : Value) (w : World) (hv : Sl w v L) (hl : L.length ≤ maxLen) :
    Calls Try.prog 4 #[.agg #[.int .i64 s, v]] w fun e w' => e = .returned (.bool true) ∧ Below w.heap.size w w' := by
  have b0 := balloc w (.cells #[.int .i64 s, v] 24)
  have C0 := strongFact_any hT hN (w.alloc (.cells #[.int .i64 s, v] 24))
  have HR : Hid (∀ P D N F : Int, NuR s L P D N F 0 → 1 ≤ D → ∀ (q : Bool) (u : Nat), FtR P D N F q u → q = true ∧ u = 0) := fun P D N F h hD q u hq => fits_R h hD hq
  have HC1 : Hid (∀ W, Below w.heap.size w W → Calls Try.prog 9 #[.agg #[.int .i64 s, v]] W fun e w' => (∃ (P D N F : Int) (u : Nat), e = .returned (.tuple #[.agg #[.int .i64 P, .int .i64 D, .int .i64 N, .int .i64 F], .int .i64 (u : Int)]) ∧ NuR s L P D N F u) ∧ Below W.heap.size W w') := fun W b => hN s L v W (hv.below b) hl
  have HC2 : Hid (∀ (P D N F : Int) (W : World), Calls Try.prog 17 #[.agg #[.int .i64 P, .int .i64 D, .int .i64 N, .int .i64 F]] W fun e w' => (∃ (q : Bool) (u : Nat), e = .returned (.tuple #[.bool q, .int .i64 (u : Int)]) ∧ FtR P D N F q u) ∧ Below W.heap.size W w') := fun P D N F W => hF P D N F W
  have hbox := heap_alloc_new w (.cells #[.int .i64 s, v] 24)
  obtain ⟨va, vc, rfl⟩ := sl_len hv
  generalize L.length = z at *
  clear hv
  go_enter Try.func4, Try.ntmps4
  go_wp2_with (first
    | (go_at_call 16; refine C0.mono ?_; rintro e w1 ⟨rfl, b1⟩; clear C0; have hbox1 := (b1.block _ (by simp)).trans hbox; obtain ⟨x0, x1, _, _⟩ := row2 hbox1; have B1 := Below.next b0 b1; have C1 := HC1.out _ B1; clear HC1)
    | (go_at_call 9; fail))
  refine C1.mono ?_
  rintro e w2 ⟨⟨P, D, N, F, u, rfl, hr⟩, b2⟩
  clear C1
  have B2 := Below.next B1 b2
  have B3 := Below.next B2 (balloc w2 (.cells #[.int .i64 P, .int .i64 D, .int .i64 N, .int .i64 F] 28))
  by_cases hu : u = 0
  · have du : ((u : Int) != 0) = false := by simp [hu]
    subst hu
    by_cases hD : D < 1
    · have dD : decide (D < 1) = true := decide_eq_true hD
      clear hD HR HC2 hr
      go_wp2
      go_ret
      exact ⟨rfl, B3⟩
    · have dD : decide (D < 1) = false := decide_eq_false hD
      have C2 := (HC2.out P D N F (w2.alloc (.cells #[.int .i64 P, .int .i64 D, .int .i64 N, .int .i64 F] 28))).mono (R' := fun e w' => e = .returned (.tuple #[.bool true, .int .i64 0]) ∧ Below (w2.alloc (.cells #[.int .i64 P, .int .i64 D, .int .i64 N, .int .i64 F] 28)).heap.size (w2.alloc (.cells #[.int .i64 P, .int .i64 D, .int .i64 N, .int .i64 F] 28)) w') fun e w' ⟨⟨q, u, he, hq⟩, hb⟩ => by
        obtain ⟨rfl, rfl⟩ := HR.out P D N F hr (by omega) q u hq
        exact ⟨he, hb⟩
      clear hD HR HC2 hr
      go_wp2_with (go_at_call 17; refine C2.mono ?_; rintro e w3 ⟨rfl, b3⟩; clear C2)
      go_ret
      exact ⟨rfl, Below.next B3 b3⟩
  · have du : ((u : Int) != 0) = true := by simp; omega
    clear hu HR HC2 hr
    go_wp2
    go_ret
    exact ⟨rfl, B3⟩
end Go.Proofs.Ytlmjlffipinjiaa
