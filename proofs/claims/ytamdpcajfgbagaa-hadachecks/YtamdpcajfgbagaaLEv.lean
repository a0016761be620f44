/- The law HadaEven. -/
import Derived.Test.YtamdpcajfgbagaaH7
import Derived.Test.YtamdpcajfgbagaaSqA
namespace Go.Proofs.Ytamdpcajfgbagaa
open Go.RowKit

/-- The matrix made even, as a list. -/
def evL (n : Nat) (L : List Int) : List Int := flI n (evn (mx n L)) (n * n)
theorem evL_good {n : Nat} {L : List Int} (G : GoodH n L) : GoodH n (evL n L) := flI_good G.pos G.le (G.had.even G.pos)
theorem evL_evL {n : Nat} {L : List Int} (G : GoodH n L) : evL n (evL n L) = evL n L := flI_congr fun i j hi hj => by
  have h := G.pos
  have e : evn (mx n (evL n L)) i j = evn (evn (mx n L)) i j := by
    unfold evn evL
    rw [flI_mx hi hj, flI_mx hi h, flI_mx h hj, flI_mx h h]
    rfl
  rw [e, evn_evn G.had h hi hj]
theorem evL_row {n : Nat} {L : List Int} (G : GoodH n L) {j : Nat} (hj : j < n) : (evL n L).getD j 0 = 1 := by
  have h := flI_mx (n := n) (t := evn (mx n L)) G.pos hj
  unfold mx at h
  rw [Nat.zero_mul, Nat.zero_add] at h
  exact h.trans (G.had.rim_c G.pos hj)
theorem evL_col {n : Nat} {L : List Int} (G : GoodH n L) {i : Nat} (hi : i < n) : (evL n L).getD (i * n) 0 = 1 := by
  have h := flI_mx (n := n) (t := evn (mx n L)) hi G.pos
  unfold mx at h
  rw [Nat.add_zero] at h
  exact h.trans (G.had.rim_r G.pos hi)
theorem evL_sl {w : World} {base n : Nat} {L : List Int} {y : Value} (h : w.ownsRow base 3 1 y (n * n) (vi (flI n (evn (mx n L)) (n * n)))) : Sl w y (evL n L) := fl_sl h
theorem Even_sl (n : Nat) (L : List Int) (v : Value) (w : World) (hv : Sl w v L) (G : GoodH n L) :
    Calls Try.prog 9 #[.agg #[.int .i64 (n : Int), v]] w fun e w' => (∃ y, e = .returned (.tuple #[.agg #[.int .i64 (n : Int), y], .int .i64 0]) ∧ Sl w' y (evL n L)) ∧ Below w.heap.size w w' :=
  (Even_ok n L v w hv G).mono fun _ _ ⟨⟨y, he, hW⟩, hb⟩ => ⟨⟨y, he, evL_sl hW⟩, hb⟩
set_option maxHeartbeats 4000000 in
theorem Evn_bad (s : Int) (L : List Int) (v : Value) (w : World) (hv : Sl w v L) (hll : L.length ≤ maxLen) (hz : hF s L ≠ 0) :
    Calls Try.prog 6 #[.agg #[.int .i64 s, v]] w fun e w' => e = .returned (.bool true) ∧ Below w.heap.size w w' := by
  have b0 := balloc w (.cells #[.int .i64 s, v] 24)
  have C0 := hadaFact_any (w.alloc (.cells #[.int .i64 s, v] 24))
  have C : Hid (∀ W, Below w.heap.size w W → Calls Try.prog 9 #[.agg #[.int .i64 s, v]] W fun e w' => e = .returned (.tuple #[.agg #[.int .i64 0, .slice none 0 0], .int .i64 (hF s L : Int)]) ∧ Below W.heap.size W w') := fun W b => Even_bad s L v W (hv.below b) hll hz
  obtain ⟨u, Hu⟩ : ∃ u, Hid (hF s L = u) := ⟨_, rfl⟩
  rw [Hu.out] at C hz
  have hne : ((u : Int) != 0) = true := by simp; omega
  clear hz
  obtain ⟨va, vn, vc, rfl⟩ : ∃ a n c, v = .slice a n c := by obtain ⟨a, c, rfl, _⟩ := hv; exact ⟨_, _, _, rfl⟩
  clear hv
  go_enter Try.func6, Try.ntmps6
  go_wp2_with (first
    | (go_at_call 16; refine C0.mono ?_; rintro e w1 ⟨rfl, b1⟩; clear C0; obtain ⟨x0, x1⟩ := sq_box _ _ _ _ b1; have B1 := Below.next b0 b1; have D := C.out _ B1; clear C)
    | (go_at_call 9; refine D.mono ?_; rintro e w2 ⟨rfl, b2⟩; clear D))
  go_ret
  exact ⟨rfl, Below.next (Below.next B1 b2) (balloc _ _)⟩
set_option maxRecDepth 100000 in
set_option maxHeartbeats 8000000 in
theorem Evn_ok (n : Nat) (L : List Int) (v : Value) (w : World) (hv : Sl w v L) (G : GoodH n L) :
    Calls Try.prog 6 #[.agg #[.int .i64 (n : Int), v]] w fun e w' => e = .returned (.bool true) ∧ Below w.heap.size w w' := by
  have hz99 : n * n ≤ 999 := Nat.le_trans (Nat.mul_le_mul G.le G.le) (by decide)
  have hpos := G.pos
  have hle := G.le
  have hev := evL_evL G
  have G2 := evL_good G
  have hml : (evL n L).length ≤ maxLen := by rw [G2.len]; unfold maxLen; omega
  have HR : Hid (∀ j, j < n → (evL n L).getD j 0 = 1) := fun j hj => evL_row G hj
  have HCo : Hid (∀ j, j < n → (evL n L).getD (j * n) 0 = 1) := fun j hj => evL_col G hj
  have b0 := balloc w (.cells #[.int .i64 (n : Int), v] 24)
  have C0 := hadaFact_any (w.alloc (.cells #[.int .i64 (n : Int), v] 24))
  have C1 : Hid (∀ W, Below w.heap.size w W → Calls Try.prog 9 #[.agg #[.int .i64 (n : Int), v]] W fun e w' => (∃ y, e = .returned (.tuple #[.agg #[.int .i64 (n : Int), y], .int .i64 0]) ∧ Sl w' y (evL n L)) ∧ Below W.heap.size W w') := fun W b => Even_sl n L v W (hv.below b) G
  have C2 : Hid (∀ y W, Sl W y (evL n L) → Calls Try.prog 8 #[.agg #[.int .i64 (n : Int), y]] W fun e w' => e = .returned (.int .i64 0) ∧ Below W.heap.size W w') := fun y W hS => by
    have h := Check_any n (evL n L) y W hS hml
    rw [hF_good G2] at h
    exact h
  have C3 : Hid (∀ y W, Sl W y (evL n L) → Calls Try.prog 9 #[.agg #[.int .i64 (n : Int), y]] W fun e w' => (∃ y, e = .returned (.tuple #[.agg #[.int .i64 (n : Int), y], .int .i64 0]) ∧ Sl w' y (evL n L)) ∧ Below W.heap.size W w') := fun y W hS => by
    have h := Even_sl n (evL n L) y W hS G2
    rw [hev] at h
    exact h
  have C4 : Hid (∀ y y' W, Sl W y (evL n L) → Sl W y' (evL n L) → Calls Try.prog 12 #[.agg #[.int .i64 (n : Int), y], .agg #[.int .i64 (n : Int), y']] W fun e w' => e = .returned (.bool true) ∧ Below W.heap.size W w') := fun y y' W hS hS' => Squares_same n (evL n L) y y' W hS hS' hml
  have HLn : Hid ((evL n L).length = n * n) := G2.len
  generalize evL n L = M at *
  obtain ⟨va, vn, vc, rfl⟩ : ∃ a n c, v = .slice a n c := by obtain ⟨a, c, rfl, _⟩ := hv; exact ⟨_, _, _, rfl⟩
  have HB : Hid (Below w.heap.size w (w.alloc (.cells #[.int .i64 (n : Int), .slice va vn vc] 24))) := b0
  have hnn : ((n : Int) != (n : Int)) = false := by simp
  clear hv G hml b0 hev G2
  go_enter Try.func6, Try.ntmps6
  go_wp2_with (first
    | (go_at_call 16; refine C0.mono ?_; rintro e w1 ⟨rfl, b1⟩; clear C0; obtain ⟨x0, x1⟩ := sq_box _ _ _ _ b1; have B1 := Below.next HB.out b1; have D1 := C1.out _ B1; clear C1)
    | (go_at_call 9; refine D1.mono ?_; rintro e w2 ⟨⟨y, rfl, hS⟩, b2⟩; clear D1 x0 x1; obtain ⟨ya, yc, rfl, hSc⟩ := id hS; have D2 := C2.out _ _ (hS.alloc (.cells #[.int .i64 (n : Int), .slice ya M.length yc] 24)); clear hSc)
    | (go_at_call 8; refine D2.mono ?_; rintro e w3 ⟨rfl, b3⟩; clear D2 C2; obtain ⟨y0, y1⟩ := sq_box _ _ _ _ b3; have hS3 := (hS.alloc (.cells #[.int .i64 (n : Int), .slice ya M.length yc] 24)).below b3; have D3 := C3.out _ _ hS3; clear C3)
    | (go_at_call 9; refine D3.mono ?_; rintro e w4 ⟨⟨y', rfl, hS'⟩, b4⟩; clear D3 y0 y1; obtain ⟨za, zc, rfl, hSc⟩ := id hS'; clear hSc; have hB5 := Below.next (Below.next b3 b4) (balloc w4 (.cells #[.int .i64 (n : Int), .slice za M.length zc] 24)); obtain ⟨y0, y1⟩ := sq_box _ _ _ _ hB5; have D4 := C4.out _ _ _ ((hS3.below b4).alloc (.cells #[.int .i64 (n : Int), .slice za M.length zc] 24)) (hS'.alloc (.cells #[.int .i64 (n : Int), .slice za M.length zc] 24)); clear C4)
    | (go_at_call 12; refine D4.mono ?_; rintro e w5 ⟨rfl, b5⟩; clear D4 y0 y1; obtain ⟨y0, y1⟩ := sq_box _ _ _ _ (Below.next hB5 b5); have hB6 := Below.next (Below.next (Below.next b1 b2) (balloc w2 (.cells #[.int .i64 (n : Int), .slice ya M.length yc] 24))) (Below.next hB5 b5); obtain ⟨x0, x1⟩ := sq_box _ _ _ _ hB6; have hS5 := ((hS3.below b4).alloc (.cells #[.int .i64 (n : Int), .slice za M.length zc] 24)).below b5))
  have B5 := Below.next HB.out hB6
  have HY : Hid (Below (w2.alloc (.cells #[.int .i64 (n : Int), .slice ya M.length yc] 24)).heap.size (w2.alloc (.cells #[.int .i64 (n : Int), .slice ya M.length yc] 24)) w5) := Below.next hB5 b5
  have HS5 : Hid (Sl w5 (.slice ya M.length yc) M) := hS5
  have HB5 : Hid (Below w.heap.size w w5) := B5
  clear B5 hS5 hS3 hS hS' x0 x1 y0 y1 b5 hB5 hB6 b4 b3 b2 b1 B1
  go_loopw [10] (fun i wr => ∃ (j : Nat), i = .int .i64 (j : Int) ∧ j ≤ n ∧ Below w5.heap.size w5 wr) (fun i _ => (n - intOf i).toNat)
  case atStart => exact ⟨0, rfl, by omega, Below.refl _ _⟩
  case round =>
    obtain ⟨j, rfl, hj, hB⟩ := hrel
    obtain ⟨y0, y1⟩ := sq_box _ _ _ _ (Below.next HY.out hB)
    by_cases hlt : j < n
    · have hdj : decide ((j : Int) < (n : Int)) = true := by simp; omega
      have h0 : 0 < n * n := Nat.mul_pos hpos hpos
      obtain ⟨a, off, cap, he, ha, hcell⟩ := (HS5.out.below hB).form HLn.out h0
      have c1 := hcell j (Nat.lt_of_lt_of_le hlt (Nat.le_mul_of_pos_right n hpos))
      have c2 := hcell (j * n) (by have := cell_ltH hlt hpos; omega)
      have k1 := cell_ltH hlt hpos
      rw [HR.out j hlt] at c1
      rw [HCo.out j hlt] at c2
      injection he with e1 e2 e3
      subst e1 e3
      rw [HLn.out] at y1
      obtain ⟨z, Hz⟩ : ∃ z, Hid (n * n = z) := ⟨_, rfl⟩
      obtain ⟨q, Hq⟩ : ∃ q, Hid (j * n = q) := ⟨_, rfl⟩
      have hmul : (j : Int) * (n : Int) = (q : Int) := by rw [← Hq.out]; simp
      have hnz : n ≤ z := by rw [← Hz.out]; exact Nat.le_mul_of_pos_right n hpos
      rw [Hz.out] at y1 hz99 k1
      rw [Hq.out] at c2 k1
      have hjz : (j : Int) < (z : Int) := by omega
      have hqz : (q : Int) < (z : Int) := by omega
      clear hcell e2 h0 k1
      go_wp2
      go_roundw
      case rel => exact ⟨j + 1, by go_num, by omega, hB⟩
      case measure => simp [intOf]; omega
    · have hdj : decide ((j : Int) < (n : Int)) = false := by simp; omega
      go_wp2
      go_ret
      exact ⟨rfl, Below.next HB5.out hB⟩
theorem Evn_any (s : Int) (L : List Int) (v : Value) (w : World) (hv : Sl w v L) (hll : L.length ≤ maxLen) :
    Calls Try.prog 6 #[.agg #[.int .i64 s, v]] w fun e w' => e = .returned (.bool true) ∧ Below w.heap.size w w' := by
  by_cases hz : hF s L = 0
  · obtain ⟨n, rfl, G⟩ := hF_ok hz
    exact Evn_ok n L v w hv G
  · exact Evn_bad s L v w hv hll hz
end Go.Proofs.Ytamdpcajfgbagaa
