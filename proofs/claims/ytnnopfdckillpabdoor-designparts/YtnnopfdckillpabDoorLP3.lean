/- The law DesignParts. -/
import Derived.Test.YtnnopfdckillpabDoorLP2
import Derived.Test.YtnnopfdckillpabDoorLP4
namespace Go.Proofs.YtnnopfdckillpabDoor
open Go.RowKit

theorem Parts_good (v k l : Nat) (q r : Int) (B : List (List Nat)) (u : Value) (w : World) (hT : Tab w) (G : GoodD v B) (hu : Rw w u (toZ B)) (h : LvOk v B 2 k l) (h2 : 2 ≤ k) (hkv : k < v) :
    Calls Tryd.prog 4 #[.agg #[.int .i64 (v : Int), u], .int .i64 q, .int .i64 r] w fun e w' => e = .returned (.bool true) ∧ Below w.heap.size w w' := by
  have hv40 := G.le
  have hf : ∃ a c, u = .slice a B.length c := by have := rw_form hu; rwa [toZ_len] at this
  have C3 : ∀ W, Below w.heap.size w W → Calls Tryd.prog 8 #[.agg #[.int .i64 (v : Int), u], .int .i64 2] W fun e w' => e = .returned (.tuple #[.int .i64 (k : Int), .int .i64 (l : Int), .int .i64 0]) ∧ Below W.heap.size W w' := fun W hW => (Level_any v 2 B u W G (hu.below hW)).mono fun e w' ⟨h1, h2'⟩ => ⟨h1.one (.inr ⟨2, rfl, by omega, by omega, .inl ⟨k, l, h, rfl⟩⟩), h2'⟩
  have X6 : ∀ i : Nat, r = (i : Int) → B.length = v → k + 2 ≤ v → i < B.length → ∃ (rp rl : Nat) (R6 : World → Value → Prop), l ≤ k ∧ (∀ W W' y, R6 W y → Below W.heap.size W W' → R6 W' y) ∧ (∀ W, Below w.heap.size w W → Calls Tryd.prog 10 #[.agg #[.int .i64 (v : Int), u], .int .i64 r] W fun e w' => ∃ ya yc, e = .returned (.tuple #[.agg #[.int .i64 (rp : Int), .slice ya rl yc], .int .i64 0]) ∧ R6 w' (.slice ya rl yc) ∧ Below W.heap.size W w') ∧ (∀ W y, R6 W y → Calls Tryd.prog 8 #[.agg #[.int .i64 (rp : Int), y], .int .i64 2] W fun e w' => e = .returned (.tuple #[.int .i64 ((k : Int) - (l : Int)), .int .i64 (l : Int), .int .i64 0]) ∧ Below W.heap.size W w') := fun i e hn hk hi => by
    subst e
    obtain ⟨hlk, hln, hlo⟩ := resid_ok G h h2 hk hn hi
    have hne : oth v (B.getD i []) ≠ [] := fun e => by rw [e] at hln; simp at hln; omega
    refine ⟨(oth v (B.getD i [])).length, (resid v i B).length, fun W y => Rw W y (toZ (resid v i B)), hlk, fun W W' y hy hb => hy.below hb, fun W hW => ?_, fun W y hy => ?_⟩
    · refine (Residual_good v i B u W (hT.next hW) G (hu.below hW) hi hne).mono ?_
      rintro e w' ⟨y, rfl, hy, hb⟩
      obtain ⟨a, c, ey⟩ := rw_form hy
      rw [toZ_len] at ey
      subst ey
      exact ⟨a, c, rfl, hy, hb⟩
    · have e1 : (k : Int) - (l : Int) = ((k - l : Nat) : Int) := by omega
      rw [e1]
      exact (Level_any _ 2 (resid v i B) y W (resid_good G hne) hy).mono fun e w' ⟨h1, h2'⟩ => ⟨h1.one (.inr ⟨2, rfl, by omega, by omega, .inl ⟨k - l, l, hlo, rfl⟩⟩), h2'⟩
  have XE : (r < 0 ∨ (B.length : Int) ≤ r) → ∀ W, Below w.heap.size w W → Calls Tryd.prog 10 #[.agg #[.int .i64 (v : Int), u], .int .i64 r] W fun e w' => ∃ ya yc, e = .returned (.tuple #[.agg #[.int .i64 ((0 : Nat) : Int), .slice ya 0 yc], .int .i64 1]) ∧ (fun (_ : World) (_ : Value) => True) w' (.slice ya 0 yc) ∧ Below W.heap.size W w' := fun hr W hW => by
    rcases hr with hr | hr
    · exact (Residual_neg v r B u W G (hu.below hW) hr).mono fun e w' ⟨h1, h2'⟩ => ⟨none, 0, h1, trivial, h2'⟩
    · exact (Residual_far v r B u W G (hu.below hW) hr).mono fun e w' ⟨h1, h2'⟩ => ⟨none, 0, h1, trivial, h2'⟩
  by_cases hq : 0 ≤ q ∧ q < v
  · obtain ⟨p, rfl⟩ : ∃ p : Nat, q = p := ⟨q.toNat, by omega⟩
    have hp : p < v := by omega
    have C4 : ∀ W, Below w.heap.size w W → Calls Tryd.prog 9 #[.agg #[.int .i64 (v : Int), u], .int .i64 (p : Int)] W fun e w' => ∃ ya yc, e = .returned (.tuple #[.agg #[.int .i64 ((v - 1 : Nat) : Int), .slice ya (deriv v p B).length yc], .int .i64 0]) ∧ Rw w' (.slice ya (deriv v p B).length yc) (toZ (deriv v p B)) ∧ Below W.heap.size W w' := fun W hW => by
      refine (Derived_good v p B u W (hT.next hW) G (hu.below hW) hp (by omega)).mono ?_
      rintro e w' ⟨y, rfl, hy, hb⟩
      obtain ⟨a, c, ey⟩ := rw_form hy
      rw [toZ_len] at ey
      subst ey
      exact ⟨a, c, rfl, hy, hb⟩
    have C5 : ∀ W y, Rw W y (toZ (deriv v p B)) → Calls Tryd.prog 8 #[.agg #[.int .i64 ((v - 1 : Nat) : Int), y], .int .i64 1] W fun e w' => e = .returned (.tuple #[.int .i64 ((k : Int) - 1), .int .i64 (l : Int), .int .i64 0]) ∧ Below W.heap.size W w' := fun W y hy => by
      have e1 : (k : Int) - 1 = ((k - 1 : Nat) : Int) := by omega
      rw [e1]
      exact (Level_any _ 1 (deriv v p B) y W (deriv_good G (by omega)) hy).mono fun e w' ⟨h1, h2'⟩ => ⟨h1.one (.inr ⟨1, rfl, by omega, by omega, .inl ⟨k - 1, l, deriv_ok G h h2 hkv hp, rfl⟩⟩), h2'⟩
    by_cases hn : B.length = v
    · by_cases hk2 : k + 2 ≤ v
      · by_cases hr : r < 0
        · exact Parts_d_lo v k l B.length (v - 1) (deriv v p B).length (p : Int) r (fun W y => Rw W y (toZ (deriv v p B))) (fun _ _ => True) 0 0 u w hf hv40 h2 hkv hn hk2 hr C3 (fun W W' y hy hb => hy.below hb) C4 C5 (fun _ _ _ _ _ => trivial) (XE (.inl hr))
        · by_cases hr2 : (B.length : Int) ≤ r
          · exact Parts_d_hi v k l B.length (v - 1) (deriv v p B).length (p : Int) r (fun W y => Rw W y (toZ (deriv v p B))) (fun _ _ => True) 0 0 u w hf hv40 h2 hkv hn hk2 hr2 C3 (fun W W' y hy hb => hy.below hb) C4 C5 (fun _ _ _ _ _ => trivial) (XE (.inr hr2))
          · obtain ⟨rp, rl, R6, a1, a2, a3, a4⟩ := X6 r.toNat (by omega) hn hk2 (by omega)
            exact Parts_d_ok v k l B.length (v - 1) (deriv v p B).length (p : Int) r (fun W y => Rw W y (toZ (deriv v p B))) R6 rp rl u w hf hv40 h2 hkv hn hk2 a1 C3 (fun W W' y hy hb => hy.below hb) C4 C5 a2 a3 a4
      · exact Parts_d_few v k l B.length (v - 1) (deriv v p B).length (p : Int) r (fun W y => Rw W y (toZ (deriv v p B))) (fun _ _ => True) 0 0 u w hf hv40 h2 hkv hn (by omega) C3 (fun W W' y hy hb => hy.below hb) C4 C5
    · exact Parts_d_ne v k l B.length (v - 1) (deriv v p B).length (p : Int) r (fun W y => Rw W y (toZ (deriv v p B))) (fun _ _ => True) 0 0 u w hf hv40 h2 hkv hn C3 (fun W W' y hy hb => hy.below hb) C4 C5
  · have C4 : ∀ W, Below w.heap.size w W → Calls Tryd.prog 9 #[.agg #[.int .i64 (v : Int), u], .int .i64 q] W fun e w' => ∃ ya yc, e = .returned (.tuple #[.agg #[.int .i64 ((0 : Nat) : Int), .slice ya 0 yc], .int .i64 1]) ∧ (fun (_ : World) (_ : Value) => True) w' (.slice ya 0 yc) ∧ Below W.heap.size W w' := fun W hW => by
      by_cases h0 : q < 0
      · exact (Derived_neg v q B u W G (hu.below hW) h0).mono fun e w' ⟨h1, h2'⟩ => ⟨none, 0, h1, trivial, h2'⟩
      · exact (Derived_far v q B u W G (hu.below hW) (by omega)).mono fun e w' ⟨h1, h2'⟩ => ⟨none, 0, h1, trivial, h2'⟩
    by_cases hn : B.length = v
    · by_cases hk2 : k + 2 ≤ v
      · by_cases hr : r < 0
        · exact Parts_e_lo v k l B.length 0 0 q r (fun _ _ => True) (fun _ _ => True) 0 0 u w hf hv40 h2 hkv hn hk2 hr C3 (fun _ _ _ _ _ => trivial) C4 (fun _ _ _ _ _ => trivial) (XE (.inl hr))
        · by_cases hr2 : (B.length : Int) ≤ r
          · exact Parts_e_hi v k l B.length 0 0 q r (fun _ _ => True) (fun _ _ => True) 0 0 u w hf hv40 h2 hkv hn hk2 hr2 C3 (fun _ _ _ _ _ => trivial) C4 (fun _ _ _ _ _ => trivial) (XE (.inr hr2))
          · obtain ⟨rp, rl, R6, a1, a2, a3, a4⟩ := X6 r.toNat (by omega) hn hk2 (by omega)
            exact Parts_e_ok v k l B.length 0 0 q r (fun _ _ => True) R6 rp rl u w hf hv40 h2 hkv hn hk2 a1 C3 (fun _ _ _ _ _ => trivial) C4 a2 a3 a4
      · exact Parts_e_few v k l B.length 0 0 q r (fun _ _ => True) (fun _ _ => True) 0 0 u w hf hv40 h2 hkv hn (by omega) C3 (fun _ _ _ _ _ => trivial) C4
    · exact Parts_e_ne v k l B.length 0 0 q r (fun _ _ => True) (fun _ _ => True) 0 0 u w hf hv40 h2 hkv hn C3 (fun _ _ _ _ _ => trivial) C4

theorem DesignParts_law (p q r : Int) (ls : List (List Int)) (u : Value) (w : World) (hT : Tab w) (_hq : (Lit.int .i64 q).wf = true) (_hr : (Lit.int .i64 r).wf = true) (hu : Rw w u ls) (hll : ∀ l ∈ ls, l.length ≤ maxLen) (hlm : ls.length ≤ maxLen) :
    Calls Tryd.prog 4 #[.agg #[.int .i64 p, u], .int .i64 q, .int .i64 r] w fun e w' => e = .returned (.bool true) ∧ Below w.heap.size w w' := by
  by_cases hz : dF p ls = 0
  · obtain ⟨v, B, rfl, rfl, G⟩ := dF_ok hz
    by_cases h : ∃ k l, LvOk v B 2 k l ∧ 2 ≤ v
    · obtain ⟨k, l, h, hv2⟩ := h
      by_cases hh : 2 ≤ k ∧ k < v
      · exact Parts_good v k l q r B u w hT G hu h hh.1 hh.2
      · exact Parts_skip v q r k l 0 _ u w (rw_form hu) (by omega) fun W hW => (Level_any v 2 B u W G (hu.below hW)).mono fun e w' ⟨h1, h2'⟩ => ⟨h1.one (.inr ⟨2, rfl, by omega, hv2, .inl ⟨k, l, h, rfl⟩⟩), h2'⟩
    · by_cases hv2 : 2 ≤ v
      · exact Parts_skip v q r 0 0 4 _ u w (rw_form hu) (by omega) fun W hW => (Level_any v 2 B u W G (hu.below hW)).mono fun e w' ⟨h1, h2'⟩ => ⟨h1.one (.inr ⟨2, rfl, by omega, hv2, .inr ⟨fun ⟨k, l, hk⟩ => h ⟨k, l, hk, hv2⟩, rfl⟩⟩), h2'⟩
      · exact Parts_skip v q r 0 0 1 _ u w (rw_form hu) (by omega) fun W hW => (Level_any v 2 B u W G (hu.below hW)).mono fun e w' ⟨h1, h2'⟩ => ⟨h1.one (.inl ⟨by omega, rfl⟩), h2'⟩
  · exact Parts_skip p q r 0 0 (dF p ls) _ u w (rw_form hu) (.inl hz) fun W hW => Level_bad p 2 ls u W (hu.below hW) hlm hll hz

end Go.Proofs.YtnnopfdckillpabDoor
