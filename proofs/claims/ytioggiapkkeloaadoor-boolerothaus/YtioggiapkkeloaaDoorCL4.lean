/- The laws BooleTwice and BooleRothaus over what the faces tell. -/
import Derived.Test.YtioggiapkkeloaaDoorCL3
namespace Go.Proofs.YtioggiapkkeloaaDoor
open Go.RowKit

theorem an_back {l : List Int} (h : tF l = 0) : tF (anR l) = 0 ∧ anR (anR l) = l ∧ (anR l).length ≤ maxLen ∧ l.length ≤ maxLen := by
  have G : GoodT (bN l) l := tF_ok h
  obtain ⟨p1, p2⟩ := pow256 G.le
  have e : anR l = anL (bN l) l := by unfold anR; rw [if_pos h]
  have k : tF (anL (bN l) l) = 0 := tF_good (anL_good G)
  have e3 : bN (anL (bN l) l) = bN l := by
    show btN (anL (bN l) l).length = bN l
    rw [anL_len]
    exact bt_pow ⟨bN l, by have := G.le; omega⟩
  rw [e]
  refine ⟨k, ?_, by rw [anL_len]; unfold maxLen; omega, by rw [G.len]; unfold maxLen; omega⟩
  unfold anR
  rw [if_pos k, e3]
  exact anL_anL G
theorem sp_back {l : List Int} (h : tF l = 0) : bF (spR l) = 0 ∧ bkR (spR l) = l ∧ (spR l).length ≤ maxLen := by
  have G : GoodT (bN l) l := tF_ok h
  obtain ⟨p1, p2⟩ := pow256 G.le
  have e : spR l = spL (bN l) l := by unfold spR; rw [if_pos h]
  have e3 : bN (spL (bN l) l) = bN l := by
    show btN (spL (bN l) l).length = bN l
    rw [spL_len]
    exact bt_pow ⟨bN l, by have := G.le; omega⟩
  have e4 : btN (spL (bN l) l).length = bN l := e3
  have k : bF (spL (bN l) l) = 0 := by
    unfold bF
    rw [e4, if_neg (by have := G.le; omega), if_pos, back_spec G, if_pos rfl]
    rw [List.all_eq_true]
    intro j hj
    have hj' : j < 2 ^ bN l := by simpa using hj
    have := spF_abs G hj'
    rw [spL_at l hj', spL_len]
    simp
    omega
  rw [e]
  refine ⟨k, ?_, by rw [spL_len]; unfold maxLen; omega⟩
  unfold bkR
  rw [if_pos k, e3]
  exact back_spec G
set_option maxRecDepth 100000 in
set_option maxHeartbeats 8000000 in
theorem Twice_bad (hA : FAnf) (hS : FSpectrum) (l : List Int) (v : Value) (w : World) (hT : Tab w) (hv : Sl w v l) (hl : l.length ≤ maxLen) (hz : tF l ≠ 0) :
    Calls Tryd.prog 5 #[v] w fun e w' => e = .returned (.bool true) ∧ Below w.heap.size w w' := by
  have C0 := booleFact_any hS w hT
  have C1 : Hid (∀ W, Below w.heap.size w W → Calls Tryd.prog 11 #[v] W fun e w' => (∃ y, e = .returned (.tuple #[y, .int .i64 (tF l : Int)]) ∧ Sl w' y (anR l)) ∧ Below W.heap.size W w') := fun W b => hA l v W (hT.next b) (hv.below b) hl
  obtain ⟨u, Hu⟩ : ∃ u, Hid (tF l = u) := ⟨_, rfl⟩
  rw [Hu.out] at C1 hz
  have hne : ((u : Int) != 0) = true := by simp; omega
  generalize anR l = A at *
  obtain ⟨qa, Hqa⟩ : ∃ q, Hid (A.length = q) := ⟨_, rfl⟩
  obtain ⟨a, c, rfl⟩ := sl_len hv
  clear hv hz
  go_enter Tryd.func5, Tryd.ntmps5
  go_wp2_with (first
    | (go_at_call 25; refine C0.mono ?_; rintro e w0 ⟨rfl, b0⟩; clear C0; have D1 := C1.out _ b0; clear C1)
    | (go_at_call 11; refine D1.mono ?_; rintro e w1 ⟨⟨y, rfl, hy⟩, b1⟩; clear D1; obtain ⟨ya, yc, ey⟩ := sl_len hy; rw [Hqa.out] at ey; subst ey))
  go_ret
  exact ⟨rfl, Below.next b0 b1⟩
set_option maxRecDepth 100000 in
set_option maxHeartbeats 8000000 in
theorem Twice_ok (hA : FAnf) (hS : FSpectrum) (hB : FBack) (l : List Int) (v : Value) (w : World) (hT : Tab w) (hv : Sl w v l) (hl : l.length ≤ maxLen) (hz : tF l = 0) :
    Calls Tryd.prog 5 #[v] w fun e w' => e = .returned (.bool true) ∧ Below w.heap.size w w' := by
  have C0 := booleFact_any hS w hT
  have C1 : Hid (∀ W, Below w.heap.size w W → Calls Tryd.prog 11 #[v] W fun e w' => (∃ y, e = .returned (.tuple #[y, .int .i64 (tF l : Int)]) ∧ Sl w' y (anR l)) ∧ Below W.heap.size W w') := fun W b => hA l v W (hT.next b) (hv.below b) hl
  obtain ⟨a1, a2, a3, _⟩ := an_back hz
  obtain ⟨s1, s2, s3⟩ := sp_back hz
  have C2 : Hid (∀ y W, Below w.heap.size w W → Sl W y (anR l) → Calls Tryd.prog 11 #[y] W fun e w' => (∃ y, e = .returned (.tuple #[y, .int .i64 0]) ∧ Sl w' y l) ∧ Below W.heap.size W w') := fun y W b h => by
    have k := hA (anR l) y W (hT.next b) h a3
    rw [a1, a2] at k
    exact k
  have C3 : Hid (∀ W, Below w.heap.size w W → Calls Tryd.prog 13 #[v] W fun e w' => (∃ y, e = .returned (.tuple #[y, .int .i64 (tF l : Int)]) ∧ Sl w' y (spR l)) ∧ Below W.heap.size W w') := fun W b => hS l v W (hT.next b) (hv.below b) hl
  have C4 : Hid (∀ y W, Below w.heap.size w W → Sl W y (spR l) → Calls Tryd.prog 26 #[y] W fun e w' => (∃ y, e = .returned (.tuple #[y, .int .i64 0]) ∧ Sl w' y l) ∧ Below W.heap.size W w') := fun y W b h => by
    have k := hB (spR l) y W (hT.next b) h s3
    rw [s1, s2] at k
    exact k
  have C5 : Hid (∀ y W, Sl W y l → Below w.heap.size w W → Calls Tryd.prog 18 #[y, v] W fun e w' => e = .returned (.bool true) ∧ Below W.heap.size W w') := fun y W h b => ints_same l y v W h (hv.below b) hl
  rw [hz] at C1 C3
  generalize anR l = A at *
  generalize spR l = S at *
  obtain ⟨qa, Hqa⟩ : ∃ q, Hid (A.length = q) := ⟨_, rfl⟩
  obtain ⟨qs, Hqs⟩ : ∃ q, Hid (S.length = q) := ⟨_, rfl⟩
  obtain ⟨a, c, rfl⟩ := sl_len hv
  obtain ⟨z, Hz⟩ : ∃ q, Hid (l.length = q) := ⟨_, rfl⟩
  rw [Hz.out] at C1 C3 C5 ⊢
  clear hv hz a1 a2 a3 s1 s2 s3 hl
  go_enter Tryd.func5, Tryd.ntmps5
  go_wp2_with (first
    | (go_at_call 25; refine C0.mono ?_; rintro e w0 ⟨rfl, b0⟩; clear C0; have D1 := C1.out _ b0; clear C1)
    | (go_at_call 11; refine D1.mono ?_; rintro e w1 ⟨⟨y, rfl, hy⟩, b1⟩; clear D1; obtain ⟨ya, yc, ey⟩ := sl_len hy; rw [Hqa.out] at ey; subst ey; have B1 := Below.next b0 b1; have D2 := C2.out _ _ B1 hy; clear C2)
    | (go_at_call 11; refine D2.mono ?_; rintro e w2 ⟨⟨x, rfl, hx⟩, b2⟩; clear D2; obtain ⟨xa, xc, ex⟩ := sl_len hx; rw [Hz.out] at ex; subst ex; have B2 := Below.next B1 b2; have D3 := C5.out _ _ hx B2)
    | (go_at_call 18; refine D3.mono ?_; rintro e w3 ⟨rfl, b3⟩; clear D3; have B3 := Below.next B2 b3; have D4 := C3.out _ B3; clear C3)
    | (go_at_call 13; refine D4.mono ?_; rintro e w4 ⟨⟨s, rfl, hs⟩, b4⟩; clear D4; obtain ⟨sa, sc, es⟩ := sl_len hs; rw [Hqs.out] at es; subst es; have B4 := Below.next B3 b4; have D5 := C4.out _ _ B4 hs; clear C4)
    | (go_at_call 26; refine D5.mono ?_; rintro e w5 ⟨⟨q, rfl, hq⟩, b5⟩; clear D5; obtain ⟨ra, rc, er⟩ := sl_len hq; rw [Hz.out] at er; subst er; have B5 := Below.next B4 b5; have D6 := C5.out _ _ hq B5; clear C5)
    | (go_at_call 18; refine D6.mono ?_; rintro e w6 ⟨rfl, b6⟩; clear D6))
  go_ret
  exact ⟨rfl, Below.next B5 b6⟩
theorem Twice_law (hA : FAnf) (hS : FSpectrum) (hB : FBack) (l : List Int) (v : Value) (w : World) (hT : Tab w) (hv : Sl w v l) (hl : l.length ≤ maxLen) :
    Calls Tryd.prog 5 #[v] w fun e w' => e = .returned (.bool true) ∧ Below w.heap.size w w' := by
  by_cases hz : tF l = 0
  · exact Twice_ok hA hS hB l v w hT hv hl hz
  · exact Twice_bad hA hS l v w hT hv hl hz
end Go.Proofs.YtioggiapkkeloaaDoor
