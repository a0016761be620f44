/- The law QuasiRenamed, all its ways. -/
import Derived.Test.YtncnaaohihmjnaaQL7
namespace Go.Proofs.Ytncnaaohihmjnaa
open Go.RowKit

set_option maxHeartbeats 8000000 in
theorem QuasiRenamed_law (s : Int) (L l : List Int) (u p : Value) (w : World) (hu : Sl w u L) (hp : Sl w p l) (hL : L.length ≤ maxLen) (hl : l.length ≤ maxLen) :
    Calls Try.prog 7 #[.agg #[.int .i64 s, u], p] w fun e w' => e = .returned (.bool true) ∧ Below w.heap.size w w' := by
  have hb0 := balloc w (.cells #[.int .i64 s, u] 24)
  have SS : Hid (∀ W, Below (w.alloc (.cells #[.int .i64 s, u] 24)).heap.size (w.alloc (.cells #[.int .i64 s, u] 24)) W → W.cell? ⟨w.heap.size, 0, none⟩ = some (.int .i64 s) ∧ W.cell? ⟨w.heap.size, 1, none⟩ = some u ∧ W.rangeAt w.heap.size 0 [.int .i64 s, u]) := one_box s u w
  have C0 := quasiFact_any (w.alloc (.cells #[.int .i64 s, u] 24))
  have C1 := fun W (b : Below w.heap.size w W) => LatinFault_any s L u W (hu.below b) hL
  have C2 := fun W (b : Below w.heap.size w W) => PermFault_any l p W (hp.below b) hl
  by_cases h : lF s L = 0
  · by_cases h2 : pF l = 0
    · obtain ⟨n, rfl, G⟩ := lF_ok h
      obtain ⟨m, f, hm, P, rfl⟩ := pF_ok h2
      by_cases hmn : m = n
      · subst hmn
        by_cases h6 : m ≤ 6
        · exact QuasiRenamed_main m f L u p w h6 hu hp G P
        · rw [h] at C1
          rw [h2] at C2
          obtain ⟨pa, pc, rfl⟩ := sl_len hp (pl_len m f)
          have hne : ((m : Int) != (m : Int)) = false := by simp
          have hd6 : decide ((6 : Int) < (m : Int)) = true := decide_eq_true (by omega)
          clear hu hp G P h h2
          go_enter Try.func7, Try.ntmps7
          go_wp2_with (first
            | (go_at_call 25; refine C0.mono ?_; rintro e w1 ⟨rfl, b1⟩; obtain ⟨x0, x1, _⟩ := SS.out _ b1; clear C0)
            | (go_at_call 8; refine (C1 _ (Below.next hb0 b1)).mono ?_; rintro e w2 ⟨rfl, b2⟩; have d2 := Below.next b1 b2; clear C1)
            | (go_at_call 27; refine (C2 _ (Below.next hb0 d2)).mono ?_; rintro e w3 ⟨rfl, b3⟩; have d3 := Below.next d2 b3; obtain ⟨y0, y1, _⟩ := SS.out _ d3; clear C2))
          go_ret
          exact ⟨rfl, Below.next hb0 d3⟩
      · rw [h] at C1
        rw [h2] at C2
        obtain ⟨pa, pc, rfl⟩ := sl_len hp (pl_len m f)
        have hne : ((m : Int) != (n : Int)) = true := bne_iff_ne.2 (by omega)
        clear hu hp G P h h2
        go_enter Try.func7, Try.ntmps7
        go_wp2_with (first
          | (go_at_call 25; refine C0.mono ?_; rintro e w1 ⟨rfl, b1⟩; obtain ⟨x0, x1, _⟩ := SS.out _ b1; clear C0)
          | (go_at_call 8; refine (C1 _ (Below.next hb0 b1)).mono ?_; rintro e w2 ⟨rfl, b2⟩; have d2 := Below.next b1 b2; clear C1)
          | (go_at_call 27; refine (C2 _ (Below.next hb0 d2)).mono ?_; rintro e w3 ⟨rfl, b3⟩; have d3 := Below.next d2 b3; obtain ⟨y0, y1, _⟩ := SS.out _ d3; clear C2))
        go_ret
        exact ⟨rfl, Below.next hb0 d3⟩
    · rw [h] at C1
      obtain ⟨pa, pc, rfl, _⟩ := hp
      have e2 : (pF l != 0) = true := bne_iff_ne.2 h2
      generalize pF l = z at *
      generalize l.length = ll at *
      clear hu h h2
      go_enter Try.func7, Try.ntmps7
      go_wp2_with (first
        | (go_at_call 25; refine C0.mono ?_; rintro e w1 ⟨rfl, b1⟩; obtain ⟨x0, x1, _⟩ := SS.out _ b1; clear C0)
        | (go_at_call 8; refine (C1 _ (Below.next hb0 b1)).mono ?_; rintro e w2 ⟨rfl, b2⟩; have d2 := Below.next b1 b2; clear C1)
        | (go_at_call 27; refine (C2 _ (Below.next hb0 d2)).mono ?_; rintro e w3 ⟨rfl, b3⟩; have d3 := Below.next d2 b3; obtain ⟨y0, y1, _⟩ := SS.out _ d3; clear C2))
      go_ret
      exact ⟨rfl, Below.next hb0 d3⟩
  · obtain ⟨pa, pc, rfl, _⟩ := hp
    have hz0 : (lF s L : Int) ≠ 0 := by omega
    obtain ⟨y, hy⟩ : ∃ y : Int, y = (lF s L : Int) := ⟨_, rfl⟩
    rw [← hy] at C1 hz0
    have e1 : (y != 0) = true := bne_iff_ne.2 hz0
    generalize pF l = z at *
    generalize l.length = ll at *
    clear hu h hy hz0
    go_enter Try.func7, Try.ntmps7
    go_wp2_with (first
      | (go_at_call 25; refine C0.mono ?_; rintro e w1 ⟨rfl, b1⟩; obtain ⟨x0, x1, _⟩ := SS.out _ b1; clear C0)
      | (go_at_call 8; refine (C1 _ (Below.next hb0 b1)).mono ?_; rintro e w2 ⟨rfl, b2⟩; have d2 := Below.next b1 b2; clear C1)
      | (go_at_call 27; refine (C2 _ (Below.next hb0 d2)).mono ?_; rintro e w3 ⟨rfl, b3⟩; have d3 := Below.next d2 b3; clear C2))
    go_ret
    exact ⟨rfl, Below.next hb0 d3⟩
end Go.Proofs.Ytncnaaohihmjnaa
