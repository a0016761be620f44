/- The law PermTexts, walked. -/
import Derived.Test.YteocfkkdjejgdaaDoorPOf
import Derived.Test.YteocfkkdjejgdaaDoorP26
namespace Go.Proofs.YteocfkkdjejgdaaDoor
open Go.RowKit

/-- What a text is read as, either way: the same list, or nothing. -/
structure TextFaces (T : List UInt8) (n : Int) (w : World) (g : Int) (L : List Int) : Prop where
  code : ∀ A, Below w.heap.size w A → Calls Tryd.prog 8 #[.string ⟨T.toArray⟩, .int .i64 n] A fun e w' => ∃ x, e = .returned (.tuple #[x, .int .i64 g]) ∧ Sl w' x L ∧ Below A.heap.size A w'
  doc : ∀ A, Calls Tryd.prog 9 #[.string ⟨T.toArray⟩, .int .i64 n] A fun e w' => ∃ x, e = .returned (.tuple #[x, .int .i64 g]) ∧ Sl w' x L ∧ Below A.heap.size A w'
  len : L.length ≤ 100
theorem text_faces (T : List UInt8) (n : Int) (w : World) (hL : LK w) (hT : T.length ≤ 2000000) : ∃ g L, TextFaces T n w g L := by
  by_cases h : n < 0 ∨ 12 < n
  · refine ⟨1, [], fun A _ => (Parse_n n _ A h).mono ?_, fun A => (PermOfText_n n _ A h).mono ?_, by simp⟩
    · rintro e w' ⟨rfl, hb⟩; exact ⟨_, rfl, Sl.nil _, hb⟩
    · rintro e w' ⟨rfl, hb⟩; exact ⟨_, rfl, Sl.nil _, hb⟩
  · obtain ⟨m, rfl⟩ : ∃ m : Nat, n = m := ⟨n.toNat, by omega⟩
    have hm : m ≤ 12 := by omega
    have hTm : T.length ≤ maxLen := by unfold maxLen; omega
    by_cases hex : ∃ f, Pm m f ∧ permT m f = T
    · obtain ⟨f, P, hf⟩ := hex
      have key : ∀ {e : Ending} {w' : World}, ParseIs m T e w' → ∃ x, e = .returned (.tuple #[x, .int .i64 0]) ∧ Sl w' x (pl m f) := by
        rintro e w' (⟨g, x, Q, hQ, rfl, hx⟩ | ⟨hN, _⟩)
        · refine ⟨x, rfl, ?_⟩
          rw [pl_congr (f := f) (g := g) (fun i hi => (permT_one Q P hm (hQ.trans hf.symm) hi).symm)]
          exact hx
        · exact absurd hf (hN f P)
      refine ⟨0, pl m f, fun A hA => (Parse_any m T hm hTm A (hL.below hA)).mono ?_, fun A => (PermOfText_any m T hm hT A).mono ?_, by rw [pl_len]; omega⟩
      · rintro e w' ⟨h1, hb⟩
        obtain ⟨x, he, hx⟩ := key h1
        exact ⟨x, he, hx, hb⟩
      · rintro e w' ⟨h1, hb⟩
        obtain ⟨x, he, hx⟩ := key h1
        exact ⟨x, he, hx, hb⟩
    · have key : ∀ {e : Ending} {w' : World}, ParseIs m T e w' → e = .returned (.tuple #[.slice none 0 0, .int .i64 5]) := by
        rintro e w' (⟨g, x, Q, hQ, _⟩ | ⟨_, h⟩)
        · exact absurd ⟨g, Q, hQ⟩ hex
        · exact h
      refine ⟨5, [], fun A hA => (Parse_any m T hm hTm A (hL.below hA)).mono ?_, fun A => (PermOfText_any m T hm hT A).mono ?_, by simp⟩
      · rintro e w' ⟨h1, hb⟩; exact ⟨_, key h1, Sl.nil _, hb⟩
      · rintro e w' ⟨h1, hb⟩; exact ⟨_, key h1, Sl.nil _, hb⟩

set_option maxRecDepth 100000 in
set_option maxHeartbeats 4000000 in
theorem lawX_any (l : List Int) (T : List UInt8) (n : Int) (v : Value) (w : World) (hl : Sl w v l) (hll : l.length ≤ maxLen) (hT : T.length ≤ 2000000) (hL : LK w) :
    Calls Tryd.prog 3 #[v, .string ⟨T.toArray⟩, .int .i64 n] w fun e w' => e = .returned (.bool true) ∧ Below w.heap.size w w' := by
  have C1 := PermFault_any l v w hl hll
  obtain ⟨g, L, F⟩ := text_faces T n w hL hT
  have D1 := F.code
  have D2 := F.doc
  have D3 := fun A y y' (h1 : Sl A y L) (h2 : Sl A y' L) => ints_yes _ _ y y' A h1 h2 F.len rfl
  have hgg : (g == g) = true := by simp
  obtain ⟨z, Hz⟩ : ∃ z, Hid (pF l = z) := ⟨_, rfl⟩
  rw [Hz.out] at C1
  have hzz : (z != z) = false := by simp
  clear F hL hT
  by_cases hz : z = 0
  · obtain ⟨m, f, hm, P, rfl⟩ := pF_ok (by rw [Hz.out]; exact hz : pF l = 0)
    subst hz
    have C2 := fun A (h : Below w.heap.size w A) => Cycles_ok m f v A hm (hl.below h) P
    have C3 := fun A (h : Below w.heap.size w A) => PermText_any m f v A hm (hl.below h) P
    obtain ⟨t, Ht⟩ : ∃ t, Hid (permT m f = t) := ⟨_, rfl⟩
    rw [Ht.out] at C2 C3
    have htt : (t == t) = true := by simp
    obtain ⟨va, vc, hve⟩ : ∃ a c, v = .slice a m c := hl.len (pl_len m f)
    subst hve
    clear P hl
    go_enter Tryd.func3, Tryd.ntmps3
    go_wp2_with (first
      | (go_at_call 5; refine C1.mono ?_; rintro e w1 ⟨rfl, b1⟩)
      | (go_at_call 6; refine (C2 _ b1).mono ?_; rintro e w2 ⟨rfl, b2⟩; replace b2 := Below.next b1 b2)
      | (go_at_call 7; refine (C3 _ b2).mono ?_; rintro e w3 ⟨rfl, b3⟩; replace b3 := Below.next b2 b3)
      | (go_at_call 8; refine (D1 _ b3).mono ?_; rintro e w4 ⟨y4, rfl, hy4, b4⟩; replace b4 := Below.next b3 b4)
      | (go_at_call 9; refine (D2 _).mono ?_; rintro e w5 ⟨y5, rfl, hy5, b5⟩; replace hy4 := hy4.below b5; replace b5 := Below.next b4 b5)
      | (go_at_call 10; refine (D3 _ _ _ hy4 hy5).mono ?_; rintro e w6 ⟨rfl, b6⟩; replace b6 := Below.next b5 b6))
    go_ret
    exact ⟨rfl, b6⟩
  · have hzd : (z != 0) = true := by simpa using hz
    have hze : (z == 0) = false := by simpa using hz
    have C2 := fun A (h : Below w.heap.size w A) => Cycles_bad l v A (hl.below h) hll z Hz.out hz
    obtain ⟨va, vc, hve⟩ : ∃ a c, v = .slice a l.length c := hl.len rfl
    subst hve
    clear hz hl
    go_enter Tryd.func3, Tryd.ntmps3
    go_wp2_with (first
      | (go_at_call 5; refine C1.mono ?_; rintro e w1 ⟨rfl, b1⟩)
      | (go_at_call 6; refine (C2 _ b1).mono ?_; rintro e w2 ⟨rfl, b2⟩; replace b2 := Below.next b1 b2)
      | (go_at_call 8; refine (D1 _ b2).mono ?_; rintro e w4 ⟨y4, rfl, hy4, b4⟩; replace b4 := Below.next b2 b4)
      | (go_at_call 9; refine (D2 _).mono ?_; rintro e w5 ⟨y5, rfl, hy5, b5⟩; replace hy4 := hy4.below b5; replace b5 := Below.next b4 b5)
      | (go_at_call 10; refine (D3 _ _ _ hy4 hy5).mono ?_; rintro e w6 ⟨rfl, b6⟩; replace b6 := Below.next b5 b6))
    go_ret
    exact ⟨rfl, b6⟩

end Go.Proofs.YteocfkkdjejgdaaDoor
