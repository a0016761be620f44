/- The law BooleRothaus over what the faces tell. -/
import Derived.Test.YtioggiapkkeloaaDoorCL4
namespace Go.Proofs.YtioggiapkkeloaaDoor
open Go.RowKit

theorem FaR.le {l : List Int} {f : Nat} (h : FaR l f) (hz : tF l = 0) : 2 * f ≤ l.length ∧ l.length ≤ 256 ∧ (l.length : Int) ≤ ((l.length : Int) - 2 * f) * ((l.length : Int) - 2 * f) := by
  have G : GoodT (bN l) l := tF_ok hz
  obtain ⟨p1, p2⟩ := pow256 G.le
  rcases h with ⟨_, h⟩ | ⟨a, _⟩
  · have k := h.1 0 p1
    have b := far_bound G h
    rw [G.len]
    refine ⟨by omega, p2, ?_⟩
    have e : ((2 ^ bN l : Nat) : Int) = 2 ^ bN l := by simp
    rw [e] at b ⊢
    exact b
  · exact absurd hz a
theorem roth_R {l : List Int} (hz : tF l = 0) (hb : bnR l = true) : ckN l % 2 = 0 ∧ (2 < ckN l → dgR l ≤ ckN l / 2) ∧ ∀ f, FaR l f → ((l.length : Int) - 2 * f) * ((l.length : Int) - 2 * f) = l.length := by
  have G : GoodT (bN l) l := tF_ok hz
  have k : Flat (2 ^ bN l) (spF (bN l) l) := by
    unfold bnR at hb
    rw [if_pos hz] at hb
    exact flB_iff.1 hb
  have e : ckN l = bN l := by unfold ckN; rw [if_pos hz]
  have e2 : dgR l = dgN (bN l) l := by unfold dgR; rw [if_pos hz]
  rw [e, e2]
  refine ⟨(flat_pow G k).1, fun h => roth_table G k h, fun f hf => ?_⟩
  rcases hf with ⟨_, h⟩ | ⟨a, _⟩
  · have := flat_far G k h
    rw [G.len]
    rw [this]
    simp
  · exact absurd hz a
set_option maxRecDepth 100000 in
set_option maxHeartbeats 8000000 in
theorem Roth_no (hS : FSpectrum) (hB : FBent) (l : List Int) (v : Value) (w : World) (hT : Tab w) (hv : Sl w v l) (hl : l.length ≤ maxLen) (hz : tF l ≠ 0 ∨ bnR l = false) :
    Calls Tryd.prog 7 #[v] w fun e w' => e = .returned (.bool true) ∧ Below w.heap.size w w' := by
  have C0 := booleFact_any hS w hT
  have C1 : Hid (∀ W, Below w.heap.size w W → Calls Tryd.prog 20 #[v] W fun e w' => e = .returned (.tuple #[.bool (bnR l), .int .i64 (tF l : Int)]) ∧ Below W.heap.size W w') := fun W b => hB l v W (hT.next b) (hv.below b) hl
  obtain ⟨u, Hu⟩ : ∃ u, Hid (tF l = u) := ⟨_, rfl⟩
  rw [Hu.out] at C1 hz
  generalize bnR l = q at *
  obtain ⟨a, c, rfl⟩ := sl_len hv
  clear hv
  by_cases h0 : u = 0
  · subst h0
    obtain rfl : q = false := by
      rcases hz with h | h
      · exact absurd rfl h
      · exact h
    have hne : (((0 : Nat) : Int) != 0) = false := by decide
    clear hz
    go_enter Tryd.func7, Tryd.ntmps7
    go_wp2_with (first
      | (go_at_call 25; refine C0.mono ?_; rintro e w0 ⟨rfl, b0⟩; clear C0; have D1 := C1.out _ b0; clear C1)
      | (go_at_call 20; refine D1.mono ?_; rintro e w1 ⟨rfl, b1⟩; clear D1))
    go_ret
    exact ⟨rfl, Below.next b0 b1⟩
  · have hne : ((u : Int) != 0) = true := by simp; omega
    clear hz h0
    go_enter Tryd.func7, Tryd.ntmps7
    go_wp2_with (first
      | (go_at_call 25; refine C0.mono ?_; rintro e w0 ⟨rfl, b0⟩; clear C0; have D1 := C1.out _ b0; clear C1)
      | (go_at_call 20; refine D1.mono ?_; rintro e w1 ⟨rfl, b1⟩; clear D1))
    go_ret
    exact ⟨rfl, Below.next b0 b1⟩
set_option maxRecDepth 100000 in
set_option maxHeartbeats 8000000 in
theorem Roth_ok (hC : FCheck) (hD : FDegree) (hS : FSpectrum) (hF : FFar) (hB : FBent) (l : List Int) (v : Value) (w : World) (hT : Tab w) (hv : Sl w v l) (hl : l.length ≤ maxLen) (hz : tF l = 0) (hb : bnR l = true) :
    Calls Tryd.prog 7 #[v] w fun e w' => e = .returned (.bool true) ∧ Below w.heap.size w w' := by
  have C0 := booleFact_any hS w hT
  have C1 : Hid (∀ W, Below w.heap.size w W → Calls Tryd.prog 20 #[v] W fun e w' => e = .returned (.tuple #[.bool (bnR l), .int .i64 (tF l : Int)]) ∧ Below W.heap.size W w') := fun W b => hB l v W (hT.next b) (hv.below b) hl
  have C2 : Hid (∀ W, Below w.heap.size w W → Calls Tryd.prog 10 #[v] W fun e w' => e = .returned (.tuple #[.int .i64 (ckN l : Int), .int .i64 (tF l : Int)]) ∧ Below W.heap.size W w') := fun W b => hC l v W (hT.next b) (hv.below b) hl
  have C3 : Hid (∀ W, Below w.heap.size w W → Calls Tryd.prog 12 #[v] W fun e w' => e = .returned (.tuple #[.int .i64 (dgR l : Int), .int .i64 (tF l : Int)]) ∧ Below W.heap.size W w') := fun W b => hD l v W (hT.next b) (hv.below b) hl
  have C4 : Hid (∀ W, Below w.heap.size w W → Calls Tryd.prog 19 #[v] W fun e w' => (∃ f : Nat, e = .returned (.tuple #[.int .i64 (f : Int), .int .i64 (tF l : Int)]) ∧ FaR l f) ∧ Below W.heap.size W w') := fun W b => hF l v W (hT.next b) (hv.below b) hl
  obtain ⟨r1, r2, r3⟩ := roth_R hz hb
  have HF : Hid (∀ f, FaR l f → 2 * f ≤ l.length ∧ l.length ≤ 256 ∧ ((l.length : Int) - 2 * f) * ((l.length : Int) - 2 * f) = l.length) := fun f h => ⟨(h.le hz).1, (h.le hz).2.1, r3 f h⟩
  rw [hz] at C1 C2 C3 C4
  rw [hb] at C1
  have hk := ck_le l
  generalize FaR l = F at *
  generalize ckN l = k at *
  generalize dgR l = d at *
  have hm : ((k : Int) % 2 != 0) = false := by simp; omega
  obtain ⟨a, c, rfl⟩ := sl_len hv
  generalize l.length = z at *
  clear hv hz hb r3 hl
  by_cases h2 : 2 < k
  · have g1 : decide ((k : Int) ≤ 2) = false := by simp; omega
    have hq : wrap64 ((k : Int) / 2) = (k : Int) / 2 := by
      rw [wrap64]
      clear C0 C1 C2 C3 C4 HF
      omega
    have g2 : decide ((d : Int) ≤ (k : Int) / 2) = true := by have := r2 h2; simp; omega
    clear r1 r2 hk h2
    go_enter Tryd.func7, Tryd.ntmps7
    go_wp2_with (first
      | (go_at_call 25; refine C0.mono ?_; rintro e w0 ⟨rfl, b0⟩; clear C0; have D1 := C1.out _ b0; clear C1)
      | (go_at_call 20; refine D1.mono ?_; rintro e w1 ⟨rfl, b1⟩; clear D1; have B1 := Below.next b0 b1; have D2 := C2.out _ B1; clear C2)
      | (go_at_call 10; refine D2.mono ?_; rintro e w2 ⟨rfl, b2⟩; clear D2; have B2 := Below.next B1 b2; have D3 := C3.out _ B2; clear C3)
      | (go_at_call 12; refine D3.mono ?_; rintro e w3 ⟨rfl, b3⟩; clear D3; have B3 := Below.next B2 b3; have D4 := C4.out _ B3; clear C4)
      | (go_at_call 19; refine D4.mono ?_; rintro e w4 ⟨⟨f, rfl, hf⟩, b4⟩; clear D4; obtain ⟨f1, f2, f3⟩ := HF.out f hf; have q1 : IntKind.i64.wrap (2 * (f : Int)) = 2 * (f : Int) := wrapZ (by omega) (by omega); have q2 : IntKind.i64.wrap ((z : Int) - 2 * (f : Int)) = (z : Int) - 2 * (f : Int) := wrapZ (by omega) (by omega); have q3 : IntKind.i64.wrap (((z : Int) - 2 * (f : Int)) * ((z : Int) - 2 * (f : Int))) = (z : Int) := (by rw [f3]; exact wrapZ (by omega) (by omega)); have q4 : ((z : Int) != (z : Int)) = false := (by simp); clear f1 f2 f3 HF hf))
    go_ret
    exact ⟨rfl, Below.next B3 b4⟩
  · have g1 : decide ((k : Int) ≤ 2) = true := by simp; omega
    clear r1 r2 hk h2
    go_enter Tryd.func7, Tryd.ntmps7
    go_wp2_with (first
      | (go_at_call 25; refine C0.mono ?_; rintro e w0 ⟨rfl, b0⟩; clear C0; have D1 := C1.out _ b0; clear C1)
      | (go_at_call 20; refine D1.mono ?_; rintro e w1 ⟨rfl, b1⟩; clear D1; have B1 := Below.next b0 b1; have D2 := C2.out _ B1; clear C2)
      | (go_at_call 10; refine D2.mono ?_; rintro e w2 ⟨rfl, b2⟩; clear D2; have B2 := Below.next B1 b2; have D3 := C3.out _ B2; clear C3)
      | (go_at_call 12; refine D3.mono ?_; rintro e w3 ⟨rfl, b3⟩; clear D3; have B3 := Below.next B2 b3; have D4 := C4.out _ B3; clear C4)
      | (go_at_call 19; refine D4.mono ?_; rintro e w4 ⟨⟨f, rfl, hf⟩, b4⟩; clear D4; obtain ⟨f1, f2, f3⟩ := HF.out f hf; have q1 : IntKind.i64.wrap (2 * (f : Int)) = 2 * (f : Int) := wrapZ (by omega) (by omega); have q2 : IntKind.i64.wrap ((z : Int) - 2 * (f : Int)) = (z : Int) - 2 * (f : Int) := wrapZ (by omega) (by omega); have q3 : IntKind.i64.wrap (((z : Int) - 2 * (f : Int)) * ((z : Int) - 2 * (f : Int))) = (z : Int) := (by rw [f3]; exact wrapZ (by omega) (by omega)); have q4 : ((z : Int) != (z : Int)) = false := (by simp); clear f1 f2 f3 HF hf))
    go_ret
    exact ⟨rfl, Below.next B3 b4⟩
theorem Roth_law (hC : FCheck) (hD : FDegree) (hS : FSpectrum) (hF : FFar) (hB : FBent) (l : List Int) (v : Value) (w : World) (hT : Tab w) (hv : Sl w v l) (hl : l.length ≤ maxLen) :
    Calls Tryd.prog 7 #[v] w fun e w' => e = .returned (.bool true) ∧ Below w.heap.size w w' := by
  by_cases hz : tF l = 0
  · cases hb : bnR l
    · exact Roth_no hS hB l v w hT hv hl (.inr hb)
    · exact Roth_ok hC hD hS hF hB l v w hT hv hl hz hb
  · exact Roth_no hS hB l v w hT hv hl (.inl hz)
end Go.Proofs.YtioggiapkkeloaaDoor
