/- The law PlaneJoins, whole. -/
import Derived.Test.YtgpkhfpejopacaaDoorK7
import Derived.Test.YtgpkhfpejopacaaDoorPA5
/- The law PlaneJoins. -/
namespace Go.Proofs.YtgpkhfpejopacaaDoor
open Go.RowKit

set_option maxRecDepth 100000 in
set_option maxHeartbeats 8000000 in
theorem LJoins_bad (p x y : Int) (u : Value) (w : World) (z : Nat) (hz : z ≠ 0) (hu : ∃ a n c, u = .slice a n c)
    (h1 : ∀ W, Below w.heap.size w W → Calls Tryd.prog 16 #[.agg #[.int .i64 p, u]] W fun e w' => e = .returned (.tuple #[.int .i64 0, .int .i64 (z : Int)]) ∧ Below W.heap.size W w')
    (h2 : ∀ W, Below w.heap.size w W → Calls Tryd.prog 17 #[.agg #[.int .i64 p, u]] W fun e w' => e = .returned (.tuple #[.int .i64 0, .int .i64 (z : Int)]) ∧ Below W.heap.size W w')
    (h3 : ∀ W, Below w.heap.size w W → Calls Tryd.prog 18 #[.agg #[.int .i64 p, u], .int .i64 x, .int .i64 y] W fun e w' => e = .returned (.tuple #[.int .i64 0, .int .i64 (z : Int)]) ∧ Below W.heap.size W w')
    (h4 : ∀ W, Below w.heap.size w W → Calls Tryd.prog 19 #[.agg #[.int .i64 p, u], .int .i64 x, .int .i64 y] W fun e w' => e = .returned (.tuple #[.int .i64 0, .int .i64 (z : Int)]) ∧ Below W.heap.size W w') :
    Calls Tryd.prog 4 #[.agg #[.int .i64 p, u], .int .i64 x, .int .i64 y] w fun e w' => e = .returned (.bool true) ∧ Below w.heap.size w w' := by
  obtain ⟨a, n, c, rfl⟩ := hu
  have HC : Hid (∀ W, Below (w.alloc (.cells #[.int .i64 p, .slice a n c] 29)).heap.size (w.alloc (.cells #[.int .i64 p, .slice a n c] 29)) W → W.cell? ⟨w.heap.size, 0, none⟩ = some (.int .i64 p) ∧ W.cell? ⟨w.heap.size, 1, none⟩ = some (.slice a n c)) := des_box p _ w
  obtain ⟨w0, Hw0⟩ : ∃ w0, Hid (w0 = w.alloc (.cells #[.int .i64 p, .slice a n c] 29)) := ⟨_, rfl⟩
  obtain ⟨x0, x1⟩ := HC.out _ (Below.refl _ _)
  rw [← Hw0.out] at HC
  have HB0 : Hid (Below w.heap.size w w0) := by rw [Hw0.out]; exact balloc _ _
  have b0 : Below w.heap.size w (w.alloc (.cells #[.int .i64 p, .slice a n c] 29)) := balloc _ _
  have C1 := h1 _ b0
  rw [← Hw0.out] at C1
  have H2 : Hid (∀ W, Below w0.heap.size w0 W → Calls Tryd.prog 17 #[.agg #[.int .i64 p, .slice a n c]] W fun e w' => e = .returned (.tuple #[.int .i64 0, .int .i64 (z : Int)]) ∧ Below W.heap.size W w') := fun W hW => h2 W (Below.next HB0.out hW)
  have H3 : Hid (∀ W, Below w0.heap.size w0 W → Calls Tryd.prog 18 #[.agg #[.int .i64 p, .slice a n c], .int .i64 x, .int .i64 y] W fun e w' => e = .returned (.tuple #[.int .i64 0, .int .i64 (z : Int)]) ∧ Below W.heap.size W w') := fun W hW => h3 W (Below.next HB0.out hW)
  have H4 : Hid (∀ W, Below w0.heap.size w0 W → Calls Tryd.prog 19 #[.agg #[.int .i64 p, .slice a n c], .int .i64 x, .int .i64 y] W fun e w' => e = .returned (.tuple #[.int .i64 0, .int .i64 (z : Int)]) ∧ Below W.heap.size W w') := fun W hW => h4 W (Below.next HB0.out hW)
  have hz2 : ¬ (z : Int) = 0 := by omega
  have hz1 : ((z : Int) != 0) = true := by simpa using hz2
  have hzz : ((z : Int) != (z : Int)) = false := by simp
  have hze : ((z : Int) == (z : Int)) = true := by simp
  rw [Hw0.out] at C1
  clear h1 h2 h3 h4
  go_enter Tryd.func4, Tryd.ntmps4
  go_wp2_with (first
    | (go_at_call 16; refine C1.mono ?_; rintro e w1 ⟨rfl, b1⟩; clear C1; rw [← Hw0.out] at b1; obtain ⟨y0, y1⟩ := HC.out _ b1; have C2 := H2.out _ b1)
    | (go_at_call 17; refine C2.mono ?_; rintro e w2 ⟨rfl, b2⟩; clear C2; replace b2 := Below.next b1 b2; obtain ⟨z0, z1⟩ := HC.out _ b2; have C3 := H3.out _ b2)
    | (go_at_call 18; refine C3.mono ?_; rintro e w3 ⟨rfl, b3⟩; clear C3; replace b3 := Below.next b2 b3; obtain ⟨s0, s1⟩ := HC.out _ b3; have C4 := H4.out _ b3)
    | (go_at_call 19; refine C4.mono ?_; rintro e w4 ⟨rfl, b4⟩; clear C4; replace b4 := Below.next b3 b4))
  go_ret
  exact ⟨rfl, Below.next HB0.out b4⟩
set_option maxRecDepth 100000 in
set_option maxHeartbeats 8000000 in
theorem LJoins_good (p x y : Int) (u : Value) (w : World) (r b g c h : Int) (hu : ∃ a n c, u = .slice a n c)
    (h1 : ∀ W, Below w.heap.size w W → Calls Tryd.prog 16 #[.agg #[.int .i64 p, u]] W fun e w' => e = .returned (.tuple #[.int .i64 r, .int .i64 0]) ∧ Below W.heap.size W w')
    (h2 : ∀ W, Below w.heap.size w W → Calls Tryd.prog 17 #[.agg #[.int .i64 p, u]] W fun e w' => e = .returned (.tuple #[.int .i64 r, .int .i64 0]) ∧ Below W.heap.size W w')
    (h3 : ∀ W, Below w.heap.size w W → Calls Tryd.prog 18 #[.agg #[.int .i64 p, u], .int .i64 x, .int .i64 y] W fun e w' => e = .returned (.tuple #[.int .i64 b, .int .i64 g]) ∧ Below W.heap.size W w')
    (h4 : ∀ W, Below w.heap.size w W → Calls Tryd.prog 19 #[.agg #[.int .i64 p, u], .int .i64 x, .int .i64 y] W fun e w' => e = .returned (.tuple #[.int .i64 c, .int .i64 h]) ∧ Below W.heap.size W w')
    (h5 : ∀ W, Below w.heap.size w W → Calls Tryd.prog 20 #[.agg #[.int .i64 p, u], .int .i64 x, .int .i64 y] W fun e w' => e = .returned (.tuple #[.int .i64 b, .int .i64 g]) ∧ Below W.heap.size W w')
    (h6 : ∀ W, Below w.heap.size w W → Calls Tryd.prog 21 #[.agg #[.int .i64 p, u], .int .i64 x, .int .i64 y] W fun e w' => e = .returned (.tuple #[.int .i64 c, .int .i64 h]) ∧ Below W.heap.size W w') :
    Calls Tryd.prog 4 #[.agg #[.int .i64 p, u], .int .i64 x, .int .i64 y] w fun e w' => e = .returned (.bool true) ∧ Below w.heap.size w w' := by
  obtain ⟨a, n, ca, rfl⟩ := hu
  have HC : Hid (∀ W, Below (w.alloc (.cells #[.int .i64 p, .slice a n ca] 29)).heap.size (w.alloc (.cells #[.int .i64 p, .slice a n ca] 29)) W → W.cell? ⟨w.heap.size, 0, none⟩ = some (.int .i64 p) ∧ W.cell? ⟨w.heap.size, 1, none⟩ = some (.slice a n ca)) := des_box p _ w
  obtain ⟨w0, Hw0⟩ : ∃ w0, Hid (w0 = w.alloc (.cells #[.int .i64 p, .slice a n ca] 29)) := ⟨_, rfl⟩
  obtain ⟨x0, x1⟩ := HC.out _ (Below.refl _ _)
  rw [← Hw0.out] at HC
  have HB0 : Hid (Below w.heap.size w w0) := by rw [Hw0.out]; exact balloc _ _
  have b0 : Below w.heap.size w (w.alloc (.cells #[.int .i64 p, .slice a n ca] 29)) := balloc _ _
  have C1 := h1 _ b0
  have H2 : Hid (∀ W, Below w0.heap.size w0 W → Calls Tryd.prog 17 #[.agg #[.int .i64 p, .slice a n ca]] W fun e w' => e = .returned (.tuple #[.int .i64 r, .int .i64 0]) ∧ Below W.heap.size W w') := fun W hW => h2 W (Below.next HB0.out hW)
  have H3 : Hid (∀ W, Below w0.heap.size w0 W → Calls Tryd.prog 18 #[.agg #[.int .i64 p, .slice a n ca], .int .i64 x, .int .i64 y] W fun e w' => e = .returned (.tuple #[.int .i64 b, .int .i64 g]) ∧ Below W.heap.size W w') := fun W hW => h3 W (Below.next HB0.out hW)
  have H4 : Hid (∀ W, Below w0.heap.size w0 W → Calls Tryd.prog 19 #[.agg #[.int .i64 p, .slice a n ca], .int .i64 x, .int .i64 y] W fun e w' => e = .returned (.tuple #[.int .i64 c, .int .i64 h]) ∧ Below W.heap.size W w') := fun W hW => h4 W (Below.next HB0.out hW)
  have H5 : Hid (∀ W, Below w0.heap.size w0 W → Calls Tryd.prog 20 #[.agg #[.int .i64 p, .slice a n ca], .int .i64 x, .int .i64 y] W fun e w' => e = .returned (.tuple #[.int .i64 b, .int .i64 g]) ∧ Below W.heap.size W w') := fun W hW => h5 W (Below.next HB0.out hW)
  have H6 : Hid (∀ W, Below w0.heap.size w0 W → Calls Tryd.prog 21 #[.agg #[.int .i64 p, .slice a n ca], .int .i64 x, .int .i64 y] W fun e w' => e = .returned (.tuple #[.int .i64 c, .int .i64 h]) ∧ Below W.heap.size W w') := fun W hW => h6 W (Below.next HB0.out hW)
  have hrr : (r != r) = false := by simp
  have hgg : (g == g) = true := by simp
  have hbb : (b == b) = true := by simp
  have hhh : (h == h) = true := by simp
  have hcc : (c == c) = true := by simp
  clear h1 h2 h3 h4 h5 h6
  go_enter Tryd.func4, Tryd.ntmps4
  go_wp2_with (first
    | (go_at_call 16; refine C1.mono ?_; rintro e w1 ⟨rfl, b1⟩; clear C1; rw [← Hw0.out] at b1; obtain ⟨y0, y1⟩ := HC.out _ b1; have C2 := H2.out _ b1)
    | (go_at_call 17; refine C2.mono ?_; rintro e w2 ⟨rfl, b2⟩; clear C2; replace b2 := Below.next b1 b2; obtain ⟨z0, z1⟩ := HC.out _ b2; have C3 := H3.out _ b2)
    | (go_at_call 18; refine C3.mono ?_; rintro e w3 ⟨rfl, b3⟩; clear C3; replace b3 := Below.next b2 b3; obtain ⟨s0, s1⟩ := HC.out _ b3; have C4 := H4.out _ b3)
    | (go_at_call 19; refine C4.mono ?_; rintro e w4 ⟨rfl, b4⟩; clear C4; replace b4 := Below.next b3 b4; obtain ⟨t0, t1⟩ := HC.out _ b4; have C5 := H5.out _ b4)
    | (go_at_call 20; refine C5.mono ?_; rintro e w5 ⟨rfl, b5⟩; clear C5; replace b5 := Below.next b4 b5; obtain ⟨p0, p1⟩ := HC.out _ b5; have C6 := H6.out _ b5)
    | (go_at_call 21; refine C6.mono ?_; rintro e w6 ⟨rfl, b6⟩; clear C6; replace b6 := Below.next b5 b6))
  go_ret
  exact ⟨rfl, Below.next HB0.out b6⟩

end Go.Proofs.YtgpkhfpejopacaaDoor

namespace Go.Proofs.YtgpkhfpejopacaaDoor
open Go.RowKit

theorem c2F_two {n x y : Int} (h : c2F n x y ≠ 0) : ((x < 0 ∨ n ≤ x ∨ y < 0 ∨ n ≤ y) ∧ c2F n x y = 1) ∨ (∃ p : Nat, x = p ∧ y = p ∧ (p : Int) < n ∧ c2F n x y = 6) := by
  unfold c2F at h ⊢
  by_cases h1 : x < 0 ∨ n ≤ x ∨ y < 0 ∨ n ≤ y
  · exact .inl ⟨h1, by rw [if_pos h1]⟩
  · rw [if_neg h1] at h ⊢
    by_cases h2 : x = y
    · exact .inr ⟨x.toNat, by omega, by omega, by omega, by rw [if_pos h2]⟩
    · rw [if_neg h2] at h; exact absurd rfl h
theorem JoinOf_z (v : Nat) (B : List (List Nat)) (x y : Int) (u : Value) (w : World) (hu : Rw w u (toZ B)) (hz : c2F v x y ≠ 0) :
    Calls Tryd.prog 20 #[.agg #[.int .i64 (v : Int), u], .int .i64 x, .int .i64 y] w fun e w' => e = .returned (.tuple #[.int .i64 0, .int .i64 (c2F v x y : Int)]) ∧ Below w.heap.size w w' := by
  obtain ⟨a, cap, rfl, _⟩ := drow_of hu
  rcases c2F_two hz with ⟨h, e⟩ | ⟨p, rfl, rfl, hp, e⟩
  · rw [e]; exact JoinOf_far v x y v a _ cap w rfl h
  · rw [e]; exact JoinOf_same v p v a _ cap w rfl (by omega)
theorem MeetOf_z (v : Nat) (B : List (List Nat)) (x y : Int) (u : Value) (w : World) (hu : Rw w u (toZ B)) (hz : c2F B.length x y ≠ 0) :
    Calls Tryd.prog 21 #[.agg #[.int .i64 (v : Int), u], .int .i64 x, .int .i64 y] w fun e w' => e = .returned (.tuple #[.int .i64 0, .int .i64 (c2F B.length x y : Int)]) ∧ Below w.heap.size w w' := by
  obtain ⟨a, cap, rfl, _⟩ := drow_of hu
  rcases c2F_two hz with ⟨h, e⟩ | ⟨p, rfl, rfl, hp, e⟩
  · rw [e]; exact MeetOf_far B.length x y v a _ cap w rfl h
  · rw [e]; exact MeetOf_same B.length p v a _ cap w rfl (by omega)
theorem rw_shape {w : World} {u : Value} {ls : List (List Int)} (hu : Rw w u ls) : ∃ a n c, u = .slice a n c := by obtain ⟨a, c, e, _⟩ := hu; exact ⟨a, _, c, e⟩
theorem PlaneJoins_law (p x y : Int) (ls : List (List Int)) (u : Value) (w : World) (hT : Tab w) (hu : Rw w u ls) (hll : ∀ l ∈ ls, l.length ≤ maxLen) (hl : ls.length ≤ maxLen) :
    Calls Tryd.prog 4 #[.agg #[.int .i64 p, u], .int .i64 x, .int .i64 y] w fun e w' => e = .returned (.bool true) ∧ Below w.heap.size w w' := by
  by_cases hd : dF p ls = 0
  · obtain ⟨v, B, rfl, rfl, G⟩ := dF_ok hd
    by_cases hp : PlP v B
    · obtain ⟨k, hk⟩ := hp.prp G.bls
      obtain ⟨b0, hb0⟩ := hp.ne
      have hk0 : b0.length = k := hk.size b0 (List.mem_of_getElem? hb0)
      have H := hp.pln G.bls
      have P1 : ∀ W, Below w.heap.size w W → Calls Tryd.prog 16 #[.agg #[.int .i64 (v : Int), u]] W fun e w' => e = .returned (.tuple #[.int .i64 ((k : Int) - 1), .int .i64 0]) ∧ Below W.heap.size W w' := fun W hW => by
        have h := PlaneOrder_yes v B b0 u W G hd (hu.below hW) hl hll hp hb0
        rw [hk0] at h
        exact h
      have P2 := fun W (hW : Below w.heap.size w W) => PCheck_yes v k B u W (hT.next hW) G hd (hu.below hW) hk
      have PJ : ∃ b g : Int, (∀ W, Below w.heap.size w W → Calls Tryd.prog 18 #[.agg #[.int .i64 (v : Int), u], .int .i64 x, .int .i64 y] W fun e w' => e = .returned (.tuple #[.int .i64 b, .int .i64 g]) ∧ Below W.heap.size W w') ∧ (∀ W, Below w.heap.size w W → Calls Tryd.prog 20 #[.agg #[.int .i64 (v : Int), u], .int .i64 x, .int .i64 y] W fun e w' => e = .returned (.tuple #[.int .i64 b, .int .i64 g]) ∧ Below W.heap.size W w') := by
        by_cases hz : c2F v x y = 0
        · obtain ⟨s, t, rfl, rfl, hs, ht, hst⟩ := c2F_nat hz
          obtain ⟨i, hi⟩ := H.jn hs ht hst
          refine ⟨i, 0, fun W hW => Join_ok v k s t i B u W (hT.next hW) G hd (hu.below hW) hk hz hi, fun W hW => ?_⟩
          have h := JoinOf_main v s t B u W G (hu.below hW) hs ht hst
          rw [hi] at h
          exact h
        · exact ⟨0, _, fun W hW => Join_wrong v k B x y u W (hT.next hW) G hd (hu.below hW) hk hz, fun W hW => JoinOf_z v B x y u W (hu.below hW) hz⟩
      have PM : ∃ b g : Int, (∀ W, Below w.heap.size w W → Calls Tryd.prog 19 #[.agg #[.int .i64 (v : Int), u], .int .i64 x, .int .i64 y] W fun e w' => e = .returned (.tuple #[.int .i64 b, .int .i64 g]) ∧ Below W.heap.size W w') ∧ (∀ W, Below w.heap.size w W → Calls Tryd.prog 21 #[.agg #[.int .i64 (v : Int), u], .int .i64 x, .int .i64 y] W fun e w' => e = .returned (.tuple #[.int .i64 b, .int .i64 g]) ∧ Below W.heap.size W w') := by
        by_cases hz : c2F B.length x y = 0
        · obtain ⟨s, t, rfl, rfl, hs, ht, hst⟩ := c2F_nat hz
          obtain ⟨i, hi⟩ := H.mt hs ht hst
          refine ⟨i, 0, fun W hW => Meet_ok v k s t i B u W (hT.next hW) G hd (hu.below hW) hk hz hi, fun W hW => ?_⟩
          have h := MeetOf_main v s t B u W G (hu.below hW) hs ht hst
          rw [hi] at h
          exact h
        · exact ⟨0, _, fun W hW => Meet_wrong v k B x y u W (hT.next hW) G hd (hu.below hW) hk hz, fun W hW => MeetOf_z v B x y u W (hu.below hW) hz⟩
      obtain ⟨b, g, J1, J2⟩ := PJ
      obtain ⟨c, h, M1, M2⟩ := PM
      exact LJoins_good v x y u w _ b g c h (rw_shape hu) P1 P2 J1 M1 J2 M2
    · have hz : PCz (v : Int) (toZ B) 4 := .inr ⟨v, B, rfl, rfl, G, hd, hp, rfl⟩
      exact LJoins_bad v x y u w 4 (by decide) (rw_shape hu) (fun W hW => PlaneOrder_no v B u W G hd (hu.below hW) hl hll hp) (fun W hW => PCheck_z _ _ 4 u W (hT.next hW) (hu.below hW) hl hll hz)
        (fun W hW => Join_bad _ _ 4 x y u W (hT.next hW) (hu.below hW) hl hll hz) (fun W hW => Meet_bad _ _ 4 x y u W (hT.next hW) (hu.below hW) hl hll hz)
  · have hz : PCz p ls (dF p ls) := .inl ⟨hd, rfl⟩
    exact LJoins_bad p x y u w (dF p ls) hd (rw_shape hu) (fun W hW => PlaneOrder_bad p ls u W (hu.below hW) hl hll hd) (fun W hW => PCheck_z _ _ _ u W (hT.next hW) (hu.below hW) hl hll hz)
        (fun W hW => Join_bad _ _ _ x y u W (hT.next hW) (hu.below hW) hl hll hz) (fun W hW => Meet_bad _ _ _ x y u W (hT.next hW) (hu.below hW) hl hll hz)

end Go.Proofs.YtgpkhfpejopacaaDoor
