/- The law BooleParseval over what the faces tell. -/
import Derived.Test.YtioggiapkkeloaaDoorCL5
namespace Go.Proofs.YtioggiapkkeloaaDoor
open Go.RowKit

theorem sq_256 {x : Int} (h1 : -256 ≤ x) (h2 : x ≤ 256) : 0 ≤ x * x ∧ x * x ≤ 65536 := by
  refine ⟨?_, ?_⟩
  · rcases Int.le_total 0 x with h | h
    · exact Int.mul_nonneg h h
    · exact Int.mul_nonneg_of_nonpos_of_nonpos h h
  · exact sq_le (b := 256) h2 h1
set_option maxRecDepth 100000 in
set_option maxHeartbeats 8000000 in
theorem Pars_bad (hS : FSpectrum) (l : List Int) (v : Value) (w : World) (hT : Tab w) (hv : Sl w v l) (hl : l.length ≤ maxLen) (hz : tF l ≠ 0) :
    Calls Tryd.prog 6 #[v] w fun e w' => e = .returned (.bool true) ∧ Below w.heap.size w w' := by
  have C0 := booleFact_any hS w hT
  have C1 : Hid (∀ W, Below w.heap.size w W → Calls Tryd.prog 13 #[v] W fun e w' => (∃ y, e = .returned (.tuple #[y, .int .i64 (tF l : Int)]) ∧ Sl w' y (spR l)) ∧ Below W.heap.size W w') := fun W b => hS l v W (hT.next b) (hv.below b) hl
  obtain ⟨u, Hu⟩ : ∃ u, Hid (tF l = u) := ⟨_, rfl⟩
  rw [Hu.out] at C1 hz
  have hne : ((u : Int) != 0) = true := by simp; omega
  generalize spR l = A at *
  obtain ⟨qa, Hqa⟩ : ∃ q, Hid (A.length = q) := ⟨_, rfl⟩
  obtain ⟨a, c, rfl⟩ := sl_len hv
  clear hv hz
  go_enter Tryd.func6, Tryd.ntmps6
  go_wp2_with (first
    | (go_at_call 25; refine C0.mono ?_; rintro e w0 ⟨rfl, b0⟩; clear C0; have D1 := C1.out _ b0; clear C1)
    | (go_at_call 13; refine D1.mono ?_; rintro e w1 ⟨⟨y, rfl, hy⟩, b1⟩; clear D1; obtain ⟨ya, yc, ey⟩ := sl_len hy; rw [Hqa.out] at ey; subst ey))
  go_ret
  exact ⟨rfl, Below.next b0 b1⟩
set_option maxRecDepth 100000 in
set_option maxHeartbeats 8000000 in
theorem Pars_ok (hS : FSpectrum) (hF : FFar) (l : List Int) (v : Value) (w : World) (hT : Tab w) (hv : Sl w v l) (hl : l.length ≤ maxLen) (hz : tF l = 0) :
    Calls Tryd.prog 6 #[v] w fun e w' => e = .returned (.bool true) ∧ Below w.heap.size w w' := by
  have G : GoodT (bN l) l := tF_ok hz
  obtain ⟨p1, p2⟩ := pow256 G.le
  have es : spR l = spL (bN l) l := by unfold spR; rw [if_pos hz]
  have hlen := G.len
  have C0 := booleFact_any hS w hT
  have C1 : Hid (∀ W, Below w.heap.size w W → Calls Tryd.prog 13 #[v] W fun e w' => (∃ y, e = .returned (.tuple #[y, .int .i64 (tF l : Int)]) ∧ Sl w' y (spR l)) ∧ Below W.heap.size W w') := fun W b => hS l v W (hT.next b) (hv.below b) hl
  have C4 : Hid (∀ W, Below w.heap.size w W → Calls Tryd.prog 19 #[v] W fun e w' => (∃ f : Nat, e = .returned (.tuple #[.int .i64 (f : Int), .int .i64 (tF l : Int)]) ∧ FaR l f) ∧ Below W.heap.size W w') := fun W b => hF l v W (hT.next b) (hv.below b) hl
  have HF : Hid (∀ f, FaR l f → 2 * f ≤ l.length ∧ (l.length : Int) ≤ ((l.length : Int) - 2 * f) * ((l.length : Int) - 2 * f) ∧ ((l.length : Int) - 2 * f) * ((l.length : Int) - 2 * f) ≤ 65536) := fun f h => by
    obtain ⟨q1, q2, q3⟩ := h.le hz
    exact ⟨q1, q3, (sq_256 (by omega) (by omega)).2⟩
  have HX : Hid (∀ j, j < 2 ^ bN l → -256 ≤ (spR l).getD j 0 ∧ (spR l).getD j 0 ≤ 256) := fun j hj => by
    have k := spF_abs G hj
    rw [es, spL_at l hj]
    have e : ((2 ^ bN l : Nat) : Int) = 2 ^ bN l := by simp
    omega
  have HP : Hid ((sm (2 ^ bN l) fun j => (spR l).getD j 0 * (spR l).getD j 0) = (l.length : Int) * l.length) := by
    show _ = _
    have e : ((l.length : Nat) : Int) = 2 ^ bN l := by rw [hlen]; simp
    rw [e, ← pars_table G, es]
    exact sm_congr fun a ha => by rw [spL_at l ha]
  have HL : Hid ((spR l).length = 2 ^ bN l) := by show _ = _; rw [es, spL_len]
  rw [hz] at C1 C4
  generalize FaR l = F at *
  generalize spR l = S at *
  obtain ⟨a, c, rfl⟩ := sl_len hv
  obtain ⟨z, Hz⟩ : ∃ z : Nat, Hid (2 ^ bN l = z) := ⟨2 ^ bN l, (rfl : 2 ^ bN l = 2 ^ bN l)⟩
  rw [hlen, Hz.out] at C1 C4 HF HP ⊢
  rw [Hz.out] at HX HL p1 p2
  clear hv hz G es hlen hl
  go_enter Tryd.func6, Tryd.ntmps6
  go_wp2_with (first
    | (go_at_call 25; refine C0.mono ?_; rintro e w0 ⟨rfl, b0⟩; clear C0; have D1 := C1.out _ b0; clear C1)
    | (go_at_call 13; refine D1.mono ?_; rintro e w1 ⟨⟨y, rfl, hy⟩, b1⟩; clear D1; obtain ⟨b, off, cap, ey, hb, hcell⟩ := hy.form HL.out p1; subst ey; have HC : Hid (∀ j, j < z → w1.cell? ⟨b, off + j, none⟩ = some (.int .i64 (S.getD j 0))) := hcell; clear hcell hy; have B1 := Below.next b0 b1))
  go_loopw [6, 7] (fun o i wr => ∃ (j : Nat) (X : Int), i = .int .i64 (j : Int) ∧ j ≤ z ∧ o = .int .i64 X ∧ Hid ((sm j fun j => S.getD j 0 * S.getD j 0) = X) ∧ 0 ≤ X ∧ X ≤ 65536 * (j : Int) ∧ Below w1.heap.size w1 wr) (fun _ i _ => (z - intOf i).toNat)
  case atStart => exact ⟨0, 0, rfl, by omega, rfl, (rfl : (sm 0 fun j => S.getD j 0 * S.getD j 0) = 0), by omega, by omega, Below.refl _ _⟩
  case round =>
    obtain ⟨j, X, rfl, hj, rfl, HS, hX1, hX2, hB⟩ := hrel
    by_cases hlt : j < z
    · have hdj : decide ((j : Int) < (z : Int)) = true := by simp; omega
      have hji : (j : Int) < z := by omega
      have hj0 : (0 : Int) ≤ (j : Int) := by omega
      have hcj := (hB.cell (p := ⟨b, off + j, none⟩) hb).trans (HC.out j hlt)
      obtain ⟨hx1, hx2⟩ := HX.out j hlt
      have HS2 : Hid ((sm (j + 1) fun j => S.getD j 0 * S.getD j 0) = X + S.getD j 0 * S.getD j 0) := by show _ = _; rw [sm, HS.out]
      obtain ⟨x, Hx⟩ : ∃ x, Hid (S.getD j 0 = x) := ⟨_, rfl⟩
      rw [Hx.out] at hcj hx1 hx2 HS2
      obtain ⟨k1, k2⟩ := sq_256 hx1 hx2
      obtain ⟨xx, Hxx⟩ : ∃ q, Hid (x * x = q) := ⟨_, rfl⟩
      have hxx : x * x = xx := Hxx.out
      rw [hxx] at k1 k2 HS2
      have w1' : IntKind.i64.wrap (x * x) = xx := by rw [hxx, IntKind.wrap_i64]; omega
      have w2' : IntKind.i64.wrap (X + xx) = X + xx := by rw [IntKind.wrap_i64]; omega
      clear HS hx1 hx2 hxx
      go_wp2
      go_quiet (fail)
      go_wp2
      go_roundw
      case rel => exact ⟨j + 1, X + xx, by go_num, by omega, rfl, HS2, by omega, by omega, bdrewN hB _⟩
      case measure => simp [intOf]; omega
    · have hdj : decide ((j : Int) < (z : Int)) = false := by simp; omega
      obtain rfl : j = z := by omega
      obtain rfl : X = (j : Int) * j := HS.out.symm.trans HP.out
      have D4 := C4.out _ (Below.next B1 hB)
      have m1 : IntKind.i64.wrap ((j : Int) * j) = (j : Int) * j := by rw [IntKind.wrap_i64]; omega
      have m2 : ((j : Int) * j != (j : Int) * j) = false := by simp
      clear C4 hlt HS
      go_wp2_with (first
        | (go_at_call 19; refine D4.mono ?_; rintro e w4 ⟨⟨f, rfl, hf⟩, b4⟩; clear D4; obtain ⟨f1, f2, f3⟩ := HF.out f hf; have q1 : IntKind.i64.wrap (2 * (f : Int)) = 2 * (f : Int) := wrapZ (by omega) (by omega); have q2 : IntKind.i64.wrap ((j : Int) - 2 * (f : Int)) = (j : Int) - 2 * (f : Int) := wrapZ (by omega) (by omega); have q3 : IntKind.i64.wrap (((j : Int) - 2 * (f : Int)) * ((j : Int) - 2 * (f : Int))) = ((j : Int) - 2 * (f : Int)) * ((j : Int) - 2 * (f : Int)) := (wrapZ (by omega) (by omega)); have q4 : decide ((j : Int) ≤ ((j : Int) - 2 * (f : Int)) * ((j : Int) - 2 * (f : Int))) = true := (by simp; exact f2); clear f1 f2 f3 HF hf hX1 hX2))
      go_ret
      exact ⟨rfl, Below.next (Below.next B1 hB) b4⟩
theorem Pars_law (hS : FSpectrum) (hF : FFar) (l : List Int) (v : Value) (w : World) (hT : Tab w) (hv : Sl w v l) (hl : l.length ≤ maxLen) :
    Calls Tryd.prog 6 #[v] w fun e w' => e = .returned (.bool true) ∧ Below w.heap.size w w' := by
  by_cases hz : tF l = 0
  · exact Pars_ok hS hF l v w hT hv hl hz
  · exact Pars_bad hS l v w hT hv hl hz
end Go.Proofs.YtioggiapkkeloaaDoor
