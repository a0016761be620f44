/- The law TripleMakes. -/
import Derived.Test.YtdeofjmgjhfkcaaD3
import Derived.Test.YtdeofjmgjhfkcaaDDe
namespace Go.Proofs.Ytdeofjmgjhfkcaa
open Go.RowKit

theorem srt_short {L Z : List (List Nat)} (h3 : ∀ b ∈ L, b.length = 3) (hS : Srtd L Z) (h6 : L.length ≤ 6000) : (toZ Z).length ≤ maxLen ∧ ∀ l ∈ toZ Z, l.length ≤ maxLen := by
  refine ⟨by have := hS.len; simp [toZ]; unfold maxLen; omega, fun l hl => ?_⟩
  obtain ⟨b, hb, rfl⟩ := List.mem_map.1 hl
  have := h3 b (hS.perm.mem_iff.1 hb)
  rw [List.length_map]; unfold maxLen; omega
theorem boL_len {t : Nat} (h : t ≤ 5) : (boL t).length ≤ 6000 := by
  unfold boL
  rw [List.length_append, upL_len]
  have := slY_len (2 * t + 1) (boF t (2 * t + 1)) (2 * t + 1) (by omega)
  omega
theorem skL_len {t : Nat} (h : t ≤ 5) : (skL t).length ≤ 6000 := by
  unfold skL
  rw [List.length_append, skX_len]
  have := slY_len (2 * t) (skF t (2 * t)) (2 * t) (by omega)
  omega
theorem MkT.len {v p e : Int} {L : List (List Nat)} (h : MkT v p e L) : L.length ≤ 6000 := by
  rcases h with ⟨_, _, _, rfl⟩ | ⟨n, _, _, _, ⟨_, _, _, rfl⟩ | ⟨_, _, _, _, rfl⟩⟩
  · simp
  · unfold mkL
    by_cases h : n % 6 = 1
    · rw [if_pos h]; exact skL_len (by omega)
    · rw [if_neg h]; exact boL_len (by omega)
  · simp
theorem same_any (p : Int) (Z : List (List Nat)) (x y : Value) (w : World) (h1 : (toZ Z).length ≤ maxLen) (h2 : ∀ l ∈ toZ Z, l.length ≤ maxLen) (hx : Rw w x (toZ Z)) (hy : Rw w y (toZ Z)) :
    Calls Try.prog 11 #[.agg #[.int .i64 p, x], .agg #[.int .i64 p, y]] w fun e w' => e = .returned (.bool true) ∧ Below w.heap.size w w' := by
  refine (Designs_any p p (toZ Z) (toZ Z) x y w hx hy h1 h1 h2 h2).mono ?_
  rintro e w' ⟨b, rfl, hb, h⟩
  obtain rfl : b = true := hb.2 ⟨rfl, rfl⟩
  exact ⟨rfl, h⟩
theorem rw_form {w : World} {x : Value} {Z : List (List Nat)} (h : Rw w x (toZ Z)) : ∃ a c, x = .slice a Z.length c := by
  obtain ⟨a, c, e, _⟩ := h
  exact ⟨a, c, by rw [e]; simp [toZ]⟩
set_option maxRecDepth 100000 in
set_option maxHeartbeats 4000000 in
theorem Makes_law (v : Int) (w : World) : Calls Try.prog 3 #[.int .i64 v] w fun e w' => e = .returned (.bool true) ∧ Below w.heap.size w w' := by
  have C1 : Hid (∀ W, Calls Try.prog 9 #[.int .i64 v] W fun e w' => ∃ x Z p f L, e = .returned (.tuple #[.agg #[.int .i64 p, x], .int .i64 f]) ∧ MkT v p f L ∧ Srtd L Z ∧ Rw w' x (toZ Z) ∧ Below W.heap.size W w') := fun W => Make_any v W
  have C2 : Hid (∀ W, Calls Try.prog 10 #[.int .i64 v] W fun e w' => ∃ x Z p f L, e = .returned (.tuple #[.agg #[.int .i64 p, x], .int .i64 f]) ∧ MkT v p f L ∧ Srtd L Z ∧ Rw w' x (toZ Z) ∧ Below W.heap.size W w') := fun W => MakeOf_any v W
  have HDB : Hid (∀ (p : Int) (y : Value) (W0 W : World), Below (W0.alloc (.cells #[.int .i64 p, y] 24)).heap.size (W0.alloc (.cells #[.int .i64 p, y] 24)) W → W.cell? ⟨W0.heap.size, 0, none⟩ = some (.int .i64 p) ∧ W.cell? ⟨W0.heap.size, 1, none⟩ = some y) := fun p y W0 W h => des_box p y W0 W h
  go_enter Try.func3, Try.ntmps3
  go_wp2_with (first
    | (go_at_call 9; refine (C1.out _).mono ?_; rintro e w1 ⟨x, Z, p, f, L, rfl, hM, hS, hR, hB⟩; clear C1; obtain ⟨xa, xc, rfl⟩ := rw_form hR; have bb := balloc w1 (.cells #[.int .i64 p, .slice xa Z.length xc] 24); have HM : Hid (MkT v p f L ∧ Srtd L Z) := ⟨hM, hS⟩; have HR : Hid (Rw (w1.alloc (.cells #[.int .i64 p, .slice xa Z.length xc] 24)) (.slice xa Z.length xc) (toZ Z)) := hR.below bb; have HB : Hid (Below w.heap.size w (w1.alloc (.cells #[.int .i64 p, .slice xa Z.length xc] 24))) := Below.next hB bb; clear hM hS hR hB bb)
    | (go_at_call 10; refine (C2.out _).mono ?_; rintro e w2 ⟨y, Z', p', f', L', rfl, hM, hS, hR, hB⟩; clear C2; obtain ⟨rfl, rfl, rfl⟩ := HM.out.1.one hM; obtain rfl := Srtd.one hM.three HM.out.2 hS; obtain ⟨ya, yc, rfl⟩ := rw_form hR; have bb := balloc w2 (.cells #[.int .i64 p, .slice ya Z.length yc] 24); obtain ⟨hk0, hk1⟩ := HDB.out p (.slice xa Z.length xc) w1 _ (Below.next hB bb); obtain ⟨hj0, hj1⟩ := HDB.out p (.slice ya Z.length yc) w2 _ (Below.refl _ _); have HR2 : Hid (Rw (w2.alloc (.cells #[.int .i64 p, .slice ya Z.length yc] 24)) (.slice ya Z.length yc) (toZ Z)) := hR.below bb; have HR1 : Hid (Rw (w2.alloc (.cells #[.int .i64 p, .slice ya Z.length yc] 24)) (.slice xa Z.length xc) (toZ Z)) := HR.out.below (Below.next hB bb); have HB2 : Hid (Below w.heap.size w (w2.alloc (.cells #[.int .i64 p, .slice ya Z.length yc] 24))) := Below.next HB.out (Below.next hB bb); have HSH := srt_short hM.three hS hM.len; have HSA : Hid (Calls Try.prog 11 #[.agg #[.int .i64 p, .slice xa Z.length xc], .agg #[.int .i64 p, .slice ya Z.length yc]] (w2.alloc (.cells #[.int .i64 p, .slice ya Z.length yc] 24)) fun e w' => e = .returned (.bool true) ∧ Below (w2.alloc (.cells #[.int .i64 p, .slice ya Z.length yc] 24)).heap.size (w2.alloc (.cells #[.int .i64 p, .slice ya Z.length yc] 24)) w') := same_any p Z _ _ _ HSH.1 HSH.2 HR1.out HR2.out; generalize Z.length = zl at *; clear hM hS hR hB bb HM HR HB HR1 HR2 HSH)
    | (go_at_call 11; refine HSA.out.mono ?_; rintro e w3 ⟨rfl, hb3⟩; clear HSA))
  go_ret
  exact ⟨rfl, Below.next HB2.out hb3⟩
theorem Makes_end (a : Int) (W : World) (_ : (Lit.int .i64 a).wf = true) : Calls Try.prog 3 #[.int .i64 a] W fun e w' => e = .returned (.bool true) ∧ Below W.heap.size W w' := Makes_law a W

end Go.Proofs.Ytdeofjmgjhfkcaa
