/- The law PermPowers, walked. -/
import Derived.Test.YteocfkkdjejgdaaP25
import Derived.Test.YteocfkkdjejgdaaPL3
namespace Go.Proofs.Yteocfkkdjejgdaa
open Go.RowKit

/-- What a list of numbers by its rank comes to, either side: the same list, or nothing. -/
structure RankFaces (m k : Int) (g : Int) (L : List Int) : Prop where
  code : ∀ w, Calls Try.prog 24 #[.int .i64 m, .int .i64 k] w fun e w' => ∃ x, e = .returned (.tuple #[x, .int .i64 g]) ∧ Sl w' x L ∧ Below w.heap.size w w'
  doc : ∀ w, Calls Try.prog 25 #[.int .i64 m, .int .i64 k] w fun e w' => ∃ x, e = .returned (.tuple #[x, .int .i64 g]) ∧ Sl w' x L ∧ Below w.heap.size w w'
  len : L.length ≤ 100
theorem rank_faces (m k : Int) : ∃ g L, RankFaces m k g L := by
  by_cases h : m < 0 ∨ 12 < m
  · refine ⟨1, [], fun w => (Unrank_n m k w h).mono ?_, fun w => (PermOfRank_n m k w h).mono ?_, by simp⟩
    · rintro e w' ⟨rfl, hb⟩; exact ⟨_, rfl, Sl.nil _, hb⟩
    · rintro e w' ⟨rfl, hb⟩; exact ⟨_, rfl, Sl.nil _, hb⟩
  · obtain ⟨n, rfl⟩ : ∃ n : Nat, m = n := ⟨m.toNat, by omega⟩
    have hn : n ≤ 12 := by omega
    by_cases h2 : k < 0 ∨ (fac n : Int) ≤ k
    · refine ⟨1, [], fun w => (Unrank_k n k w hn h2).mono ?_, fun w => (PermOfRank_k n k w hn h2).mono ?_, by simp⟩
      · rintro e w' ⟨rfl, hb⟩; exact ⟨_, rfl, Sl.nil _, hb⟩
      · rintro e w' ⟨rfl, hb⟩; exact ⟨_, rfl, Sl.nil _, hb⟩
    · obtain ⟨q, rfl⟩ : ∃ q : Nat, k = q := ⟨k.toNat, by omega⟩
      have hq : q < fac n := by omega
      exact ⟨0, _, fun w => Unrank_ok n q w hn hq, fun w => PermOfRank_ok n q w hn hq, by rw [List.length_map, unrL_len]; omega⟩

set_option maxRecDepth 100000 in
set_option maxHeartbeats 4000000 in
theorem law5_any (N m k : Int) (l : List Int) (v : Value) (w : World) (hl : Sl w v l) (hll : l.length ≤ maxLen) :
    Calls Try.prog 5 #[v, .int .i64 N, .int .i64 m, .int .i64 k] w fun e w' => e = .returned (.bool true) ∧ Below w.heap.size w w' := by
  have C1 := PermFault_any l v w hl hll
  obtain ⟨g, L, F⟩ := rank_faces m k
  have D1 := F.code
  have D2 := F.doc
  have D3 := fun A y y' (h1 : Sl A y L) (h2 : Sl A y' L) => ints_yes _ _ y y' A h1 h2 F.len rfl
  clear F
  have hgg : (g == g) = true := by simp
  obtain ⟨z, Hz⟩ : ∃ z, Hid (pF l = z) := ⟨_, rfl⟩
  rw [Hz.out] at C1
  have hzz : (z != z) = false := by simp
  by_cases hz : z = 0
  · obtain ⟨n, f, hn, P, rfl⟩ := pF_ok (by rw [Hz.out]; exact hz : pF l = 0)
    subst hz
    by_cases hfar : N < -4611686018427387904 ∨ 4611686018427387904 < N
    · have C2 := fun A (h : Below w.heap.size w A) => Power_far n f N v A hn (hl.below h) P hfar
      clear P hl
      by_cases h1 : N < -4611686018427387904
      · have hd : decide (N < -4611686018427387904) = true := decide_eq_true h1
        clear hfar
        go_enter Try.func5, Try.ntmps5
        go_wp2_with (first
          | (go_at_call 7; refine C1.mono ?_; rintro e w1 ⟨rfl, b1⟩)
          | (go_at_call 22; refine (C2 _ b1).mono ?_; rintro e w2 ⟨rfl, b2⟩; replace b2 := Below.next b1 b2)
          | (go_at_call 24; refine (D1 _).mono ?_; rintro e w3 ⟨y3, rfl, hy3, b3⟩; replace b3 := Below.next b2 b3)
          | (go_at_call 25; refine (D2 _).mono ?_; rintro e w4 ⟨y4, rfl, hy4, b4⟩; replace hy3 := hy3.below b4; replace b4 := Below.next b3 b4)
          | (go_at_call 14; refine (D3 _ _ _ hy3 hy4).mono ?_; rintro e w5 ⟨rfl, b5⟩; replace b5 := Below.next b4 b5))
        go_ret
        exact ⟨rfl, b5⟩
      · have hd : decide (N < -4611686018427387904) = false := decide_eq_false h1
        have hd2 : decide (4611686018427387904 < N) = true := decide_eq_true (by omega)
        clear hfar
        go_enter Try.func5, Try.ntmps5
        go_wp2_with (first
          | (go_at_call 7; refine C1.mono ?_; rintro e w1 ⟨rfl, b1⟩)
          | (go_at_call 22; refine (C2 _ b1).mono ?_; rintro e w2 ⟨rfl, b2⟩; replace b2 := Below.next b1 b2)
          | (go_at_call 24; refine (D1 _).mono ?_; rintro e w3 ⟨y3, rfl, hy3, b3⟩; replace b3 := Below.next b2 b3)
          | (go_at_call 25; refine (D2 _).mono ?_; rintro e w4 ⟨y4, rfl, hy4, b4⟩; replace hy3 := hy3.below b4; replace b4 := Below.next b3 b4)
          | (go_at_call 14; refine (D3 _ _ _ hy3 hy4).mono ?_; rintro e w5 ⟨rfl, b5⟩; replace b5 := Below.next b4 b5))
        go_ret
        exact ⟨rfl, b5⟩
    · obtain ⟨o, ho, hob⟩ := ord_ex P hn
      have C2 := fun A (h : Below w.heap.size w A) => Power_ok n f N v A hn (hl.below h) P (by omega) (by omega)
      have C3 := fun A (h : Below w.heap.size w A) => PermPower_any n f N v o A hn (hl.below h) P ho hob
      have C4 := fun A y y' (h1 : Sl A y (pl n (powF f N))) (h2 : Sl A y' (pl n (powF f N))) => ints_yes _ _ y y' A h1 h2 (by rw [pl_len]; omega) rfl
      have hd : decide (N < -4611686018427387904) = false := decide_eq_false (by omega)
      have hd2 : decide (4611686018427387904 < N) = false := decide_eq_false (by omega)
      obtain ⟨pw, Hpw⟩ : ∃ pw, Hid (pl n (powF f N) = pw) := ⟨_, rfl⟩
      rw [Hpw.out] at C2 C3 C4
      clear P hl ho hfar
      go_enter Try.func5, Try.ntmps5
      go_wp2_with (first
        | (go_at_call 7; refine C1.mono ?_; rintro e w1 ⟨rfl, b1⟩)
        | (go_at_call 22; refine (C2 _ b1).mono ?_; rintro e w2 ⟨y2, rfl, hy2, b2⟩; replace b2 := Below.next b1 b2)
        | (go_at_call 23; refine (C3 _ b2).mono ?_; rintro e w6 ⟨y6, rfl, hy6, b6⟩; replace hy2 := hy2.below b6; replace b6 := Below.next b2 b6)
        | (go_at_call 24; refine (D1 _).mono ?_; rintro e w3 ⟨y3, rfl, hy3, b3⟩; replace b3 := Below.next b7 b3)
        | (go_at_call 25; refine (D2 _).mono ?_; rintro e w4 ⟨y4, rfl, hy4, b4⟩; replace hy3 := hy3.below b4; replace b4 := Below.next b3 b4)
        | (go_at_call 14; refine (C4 _ _ _ hy2 hy6).mono ?_; rintro e w7 ⟨rfl, b7⟩; clear C4; replace b7 := Below.next b6 b7)
        | (go_at_call 14; refine (D3 _ _ _ hy3 hy4).mono ?_; rintro e w5 ⟨rfl, b5⟩; replace b5 := Below.next b4 b5))
      go_ret
      exact ⟨rfl, b5⟩
  · have hzd : (z != 0) = true := by simpa using hz
    have hze : (z == 0) = false := by simpa using hz
    have C2 := fun A (h : Below w.heap.size w A) => Power_bad l v N A (hl.below h) hll z Hz.out hz
    clear hz hl
    go_enter Try.func5, Try.ntmps5
    go_wp2_with (first
      | (go_at_call 7; refine C1.mono ?_; rintro e w1 ⟨rfl, b1⟩)
      | (go_at_call 22; refine (C2 _ b1).mono ?_; rintro e w2 ⟨rfl, b2⟩; replace b2 := Below.next b1 b2)
      | (go_at_call 24; refine (D1 _).mono ?_; rintro e w3 ⟨y3, rfl, hy3, b3⟩; replace b3 := Below.next b2 b3)
      | (go_at_call 25; refine (D2 _).mono ?_; rintro e w4 ⟨y4, rfl, hy4, b4⟩; replace hy3 := hy3.below b4; replace b4 := Below.next b3 b4)
      | (go_at_call 14; refine (D3 _ _ _ hy3 hy4).mono ?_; rintro e w5 ⟨rfl, b5⟩; replace b5 := Below.next b4 b5))
    go_ret
    exact ⟨rfl, b5⟩

end Go.Proofs.Yteocfkkdjejgdaa
