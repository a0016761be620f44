/- The law HadaChecks. -/
import Derived.Test.YtamdpcajfgbagaaF3
import Derived.Test.YtamdpcajfgbagaaDDe
namespace Go.Proofs.Ytamdpcajfgbagaa
open Go.RowKit

theorem Designs_same (p : Int) (ls : List (List Int)) (u v : Value) (w : World) (hu : Rw w u ls) (hv : Rw w v ls) (hl : ls.length ≤ maxLen) (hll : ∀ l ∈ ls, l.length ≤ maxLen) :
    Calls Try.prog 13 #[.agg #[.int .i64 p, u], .agg #[.int .i64 p, v]] w fun e w' => e = .returned (.bool true) ∧ Below w.heap.size w w' := by
  refine (Designs_any p p ls ls u v w hu hv hl hl hll hll).mono ?_
  rintro e w' ⟨b, rfl, hb, k⟩
  obtain rfl : b = true := hb.2 ⟨rfl, rfl⟩
  exact ⟨rfl, k⟩
theorem rw_nil (w : World) : Rw w (.slice none 0 0) [] := (OR.nil w 0).rw
theorem rw_slice {w : World} {v : Value} {ls : List (List Int)} (h : Rw w v ls) : ∃ a c, v = .slice a ls.length c := by
  obtain ⟨a, c, e, _⟩ := h
  exact ⟨a, c, e⟩
set_option maxRecDepth 100000 in
set_option maxHeartbeats 8000000 in
theorem Chk_bad (s : Int) (L : List Int) (v : Value) (w : World) (hv : Sl w v L) (hll : L.length ≤ maxLen) (hz : hF s L ≠ 0) :
    Calls Try.prog 3 #[.agg #[.int .i64 s, v]] w fun e w' => e = .returned (.bool true) ∧ Below w.heap.size w w' := by
  have b0 := balloc w (.cells #[.int .i64 s, v] 24)
  have C7 : Hid (∀ W, Below w.heap.size w W → Calls Try.prog 7 #[.agg #[.int .i64 s, v]] W fun e w' => e = .returned (.int .i64 (hF s L : Int)) ∧ Below W.heap.size W w') := fun W b => Fault_any s L v W (hv.below b) hll
  have C8 : Hid (∀ W, Below w.heap.size w W → Calls Try.prog 8 #[.agg #[.int .i64 s, v]] W fun e w' => e = .returned (.int .i64 (hF s L : Int)) ∧ Below W.heap.size W w') := fun W b => Check_any s L v W (hv.below b) hll
  have C9 : Hid (∀ W, Below w.heap.size w W → Calls Try.prog 9 #[.agg #[.int .i64 s, v]] W fun e w' => e = .returned (.tuple #[.agg #[.int .i64 0, .slice none 0 0], .int .i64 (hF s L : Int)]) ∧ Below W.heap.size W w') := fun W b => Even_bad s L v W (hv.below b) hll hz
  have C10 : Hid (∀ W, Below w.heap.size w W → Calls Try.prog 10 #[.agg #[.int .i64 s, v]] W fun e w' => e = .returned (.tuple #[.int .i64 0, .int .i64 (hF s L : Int)]) ∧ Below W.heap.size W w') := fun W b => Excess_bad s L v W (hv.below b) hll hz
  have C11 : Hid (∀ W, Below w.heap.size w W → Calls Try.prog 11 #[.agg #[.int .i64 s, v]] W fun e w' => e = .returned (.tuple #[.agg #[.int .i64 0, .slice none 0 0], .int .i64 (hF s L : Int)]) ∧ Below W.heap.size W w') := fun W b => Blocks_bad s L v W (hv.below b) hll hz
  have C12 : Hid (∀ W, Calls Try.prog 12 #[.agg #[.int .i64 0, .slice none 0 0], .agg #[.int .i64 0, .slice none 0 0]] W fun e w' => e = .returned (.bool true) ∧ Below W.heap.size W w') := fun W => Squares_same 0 [] _ _ W (Sl.nil W) (Sl.nil W) (by simp)
  have C13 : Hid (∀ W, Calls Try.prog 13 #[.agg #[.int .i64 0, .slice none 0 0], .agg #[.int .i64 0, .slice none 0 0]] W fun e w' => e = .returned (.bool true) ∧ Below W.heap.size W w') := fun W => Designs_same 0 [] _ _ W (rw_nil W) (rw_nil W) (by simp) (by simp)
  obtain ⟨u, Hu⟩ : ∃ u, Hid (hF s L = u) := ⟨_, rfl⟩
  rw [Hu.out] at C7 C8 C9 C10 C11 hz
  have hne : ((u : Int) != 0) = true := by simp; omega
  have huu : ((u : Int) != (u : Int)) = false := by simp
  have hue : ((u : Int) == (u : Int)) = true := by simp
  clear hz
  obtain ⟨va, vn, vc, rfl⟩ : ∃ a n c, v = .slice a n c := by obtain ⟨a, c, rfl, _⟩ := hv; exact ⟨_, _, _, rfl⟩
  have HB : Hid (Below w.heap.size w (w.alloc (.cells #[.int .i64 s, .slice va vn vc] 24))) := b0
  have D7 := C7.out _ b0
  clear hv b0 C7
  go_enter Try.func3, Try.ntmps3
  go_wp2_with (first
    | (go_at_call 7; refine D7.mono ?_; rintro e w1 ⟨rfl, K1⟩; clear D7; obtain ⟨x0, x1⟩ := sq_box _ _ _ _ K1; have D8 := C8.out _ (Below.next HB.out K1); clear C8)
    | (go_at_call 8; refine D8.mono ?_; rintro e w2 ⟨rfl, b2⟩; clear D8 x0 x1; have K2 := Below.next K1 b2; obtain ⟨x0, x1⟩ := sq_box _ _ _ _ K2; have D9 := C9.out _ (Below.next HB.out K2); clear C9)
    | (go_at_call 9; refine D9.mono ?_; rintro e w3 ⟨rfl, b3⟩; clear D9 x0 x1; have K3 := Below.next (Below.next K2 b3) (balloc w3 (.cells #[.int .i64 0, .slice none 0 0] 24)); obtain ⟨x0, x1⟩ := sq_box _ _ _ _ K3; have D10 := C10.out _ (Below.next HB.out K3); clear C10)
    | (go_at_call 10; refine D10.mono ?_; rintro e w4 ⟨rfl, b4⟩; clear D10 x0 x1; have K4 := Below.next K3 b4; obtain ⟨x0, x1⟩ := sq_box _ _ _ _ K4; have D11 := C11.out _ (Below.next HB.out K4); clear C11)
    | (go_at_call 11; refine D11.mono ?_; rintro e w5 ⟨rfl, b5⟩; clear D11 x0 x1; have K5 := Below.next (Below.next K4 b5) (balloc w5 (.cells #[.int .i64 0, .slice none 0 0] 33)); have T5 := Below.next (Below.next b4 b5) (balloc w5 (.cells #[.int .i64 0, .slice none 0 0] 33)); obtain ⟨t0, t1⟩ := sq_box _ _ _ _ T5; have D12 := C12.out (w5.alloc (.cells #[.int .i64 0, .slice none 0 0] 33)); clear C12)
    | (go_at_call 12; refine D12.mono ?_; rintro e w6 ⟨rfl, b6⟩; clear D12 t0 t1; obtain ⟨y0, y1⟩ := des_box _ _ _ _ b6; have D13 := C13.out w6; clear C13)
    | (go_at_call 13; refine D13.mono ?_; rintro e w7 ⟨rfl, b7⟩; clear D13 y0 y1))
  go_ret
  exact ⟨rfl, Below.next HB.out (Below.next (Below.next K5 b6) b7)⟩
set_option maxRecDepth 100000 in
set_option maxHeartbeats 8000000 in
theorem Chk_good (n p i : Nat) (L : List Int) (ls : List (List Int)) (v : Value) (w : World) (hv : Sl w v L) (G : GoodH n L) (hls : ls.length ≤ maxLen) (hlr : ∀ l ∈ ls, l.length ≤ maxLen)
    (hB1 : ∀ W, Below w.heap.size w W → Calls Try.prog 11 #[.agg #[.int .i64 (n : Int), v]] W fun e w' => (∃ x, e = .returned (.tuple #[.agg #[.int .i64 (p : Int), x], .int .i64 (i : Int)]) ∧ Rw w' x ls) ∧ Below W.heap.size W w')
    (hB2 : ∀ W, Below w.heap.size w W → Calls Try.prog 15 #[.agg #[.int .i64 (n : Int), v]] W fun e w' => (∃ x, e = .returned (.tuple #[.agg #[.int .i64 (p : Int), x], .int .i64 (i : Int)]) ∧ Rw w' x ls) ∧ Below W.heap.size W w') :
    Calls Try.prog 3 #[.agg #[.int .i64 (n : Int), v]] w fun e w' => e = .returned (.bool true) ∧ Below w.heap.size w w' := by
  have hz99 : n * n ≤ 999 := Nat.le_trans (Nat.mul_le_mul G.le G.le) (by decide)
  have hll : L.length ≤ maxLen := by rw [G.len]; unfold maxLen; omega
  have hml : (evL n L).length ≤ maxLen := by rw [(evL_good G).len]; unfold maxLen; omega
  have b0 := balloc w (.cells #[.int .i64 (n : Int), v] 24)
  have C7 : Hid (∀ W, Below w.heap.size w W → Calls Try.prog 7 #[.agg #[.int .i64 (n : Int), v]] W fun e w' => e = .returned (.int .i64 0) ∧ Below W.heap.size W w') := fun W b => by
    have h := Fault_any n L v W (hv.below b) hll
    rw [hF_good G] at h
    exact h
  have C8 : Hid (∀ W, Below w.heap.size w W → Calls Try.prog 8 #[.agg #[.int .i64 (n : Int), v]] W fun e w' => e = .returned (.int .i64 0) ∧ Below W.heap.size W w') := fun W b => by
    have h := Check_any n L v W (hv.below b) hll
    rw [hF_good G] at h
    exact h
  have C9 : Hid (∀ W, Below w.heap.size w W → Calls Try.prog 9 #[.agg #[.int .i64 (n : Int), v]] W fun e w' => (∃ y, e = .returned (.tuple #[.agg #[.int .i64 (n : Int), y], .int .i64 0]) ∧ Sl w' y (evL n L)) ∧ Below W.heap.size W w') := fun W b => Even_sl n L v W (hv.below b) G
  have C10 : Hid (∀ W, Below w.heap.size w W → Calls Try.prog 10 #[.agg #[.int .i64 (n : Int), v]] W fun e w' => e = .returned (.tuple #[.int .i64 (smL L), .int .i64 0]) ∧ Below W.heap.size W w') := fun W b => Excess_ok n L v W (hv.below b) G
  have C11 : Hid (∀ W, Below w.heap.size w W → Calls Try.prog 11 #[.agg #[.int .i64 (n : Int), v]] W fun e w' => (∃ x, e = .returned (.tuple #[.agg #[.int .i64 (p : Int), x], .int .i64 (i : Int)]) ∧ Rw w' x ls) ∧ Below W.heap.size W w') := hB1
  have C12 : Hid (∀ y y' W, Sl W y (evL n L) → Sl W y' (evL n L) → Calls Try.prog 12 #[.agg #[.int .i64 (n : Int), y], .agg #[.int .i64 (n : Int), y']] W fun e w' => e = .returned (.bool true) ∧ Below W.heap.size W w') := fun y y' W hS hS' => Squares_same n (evL n L) y y' W hS hS' hml
  have C13 : Hid (∀ y y' W, Rw W y ls → Rw W y' ls → Calls Try.prog 13 #[.agg #[.int .i64 (p : Int), y], .agg #[.int .i64 (p : Int), y']] W fun e w' => e = .returned (.bool true) ∧ Below W.heap.size W w') := fun y y' W h h' => Designs_same p ls y y' W h h' hls hlr
  have C14 : Hid (∀ W, Below w.heap.size w W → Calls Try.prog 14 #[.agg #[.int .i64 (n : Int), v]] W fun e w' => (∃ y, e = .returned (.agg #[.int .i64 (n : Int), y]) ∧ Sl w' y (evL n L)) ∧ Below W.heap.size W w') := fun W b => EvenOf_any n L v W (hv.below b) G
  have C15 : Hid (∀ W, Below w.heap.size w W → Calls Try.prog 15 #[.agg #[.int .i64 (n : Int), v]] W fun e w' => (∃ x, e = .returned (.tuple #[.agg #[.int .i64 (p : Int), x], .int .i64 (i : Int)]) ∧ Rw w' x ls) ∧ Below W.heap.size W w') := hB2
  obtain ⟨a, off, cap, rfl, ha, hcell⟩ := hv.form G.len (Nat.mul_pos G.pos G.pos)
  have HC : Hid (∀ j, j < n * n → w.cell? ⟨a, off + j, none⟩ = some (.int .i64 (L.getD j 0))) := hcell
  have HG : Hid (∀ j, j < n * n → Sg (L.getD j 0)) := fun j hj => G.at hj
  have HE : Hid (smL L = sm (n * n) fun j => L.getD j 0) := by show _ = _; unfold smL; rw [G.len]
  have HEL : Hid (Exists fun q => (evL n L).length = q) := ⟨_, rfl⟩
  rw [HE.out] at C10
  obtain ⟨z, Hz⟩ : ∃ z, Hid (n * n = z) := ⟨_, rfl⟩
  rw [Hz.out] at hz99 b0 HC HG C7 C8 C9 C10 C11 C14 C15 ⊢
  obtain ⟨Y, HY⟩ : ∃ Y, Hid ((sm z fun j => L.getD j 0) = Y) := ⟨_, rfl⟩
  rw [HY.out] at C10
  generalize evL n L = M at *
  have hYY : (Y != Y) = false := by simp
  have hii : ((i : Int) == (i : Int)) = true := by simp
  have HB : Hid (Below w.heap.size w (w.alloc (.cells #[.int .i64 (n : Int), .slice (some ⟨a, off, none⟩) z cap] 24))) := b0
  have D7 := C7.out _ b0
  obtain ⟨ql, Hql⟩ : ∃ q, Hid (M.length = q) := ⟨_, rfl⟩
  obtain ⟨qd, Hqd⟩ : ∃ q, Hid (ls.length = q) := ⟨_, rfl⟩
  clear hv b0 C7 hcell G hll hml hls hlr HE HEL hB1 hB2
  go_enter Try.func3, Try.ntmps3
  go_wp2_with (first
    | (go_at_call 7; refine D7.mono ?_; rintro e w1 ⟨rfl, K1⟩; clear D7; obtain ⟨x0, x1⟩ := sq_box _ _ _ _ K1; have D8 := C8.out _ (Below.next HB.out K1); clear C8)
    | (go_at_call 8; refine D8.mono ?_; rintro e w2 ⟨rfl, b2⟩; clear D8 x0 x1; have K2 := Below.next K1 b2; obtain ⟨x0, x1⟩ := sq_box _ _ _ _ K2; have D9 := C9.out _ (Below.next HB.out K2); clear C9)
    | (go_at_call 9; refine D9.mono ?_; rintro e w3 ⟨⟨y, rfl, hS⟩, b3⟩; clear D9 x0 x1; obtain ⟨ya, yc, ey, _⟩ := id hS; rw [Hql.out] at ey; subst ey; have K3 := Below.next (Below.next K2 b3) (balloc w3 (.cells #[.int .i64 (n : Int), .slice ya ql yc] 24)); obtain ⟨x0, x1⟩ := sq_box _ _ _ _ K3; have D10 := C10.out _ (Below.next HB.out K3); clear C10)
    | (go_at_call 10; refine D10.mono ?_; rintro e w4 ⟨rfl, b4⟩; clear D10 x0 x1; have K4 := Below.next K3 b4; obtain ⟨x0, x1⟩ := sq_box _ _ _ _ K4; have D11 := C11.out _ (Below.next HB.out K4); clear C11)
    | (go_at_call 11; refine D11.mono ?_; rintro e w5 ⟨⟨d, rfl, hd⟩, b5⟩; clear D11 x0 x1; obtain ⟨da, dc, ed⟩ := rw_slice hd; rw [Hqd.out] at ed; subst ed; have T5 := Below.next (Below.next b4 b5) (balloc w5 (.cells #[.int .i64 (p : Int), .slice da qd dc] 33)); have K5 := Below.next (Below.next K4 b5) (balloc w5 (.cells #[.int .i64 (p : Int), .slice da qd dc] 33)); obtain ⟨x0, x1⟩ := sq_box _ _ _ _ K5; have D14 := C14.out _ (Below.next HB.out K5); clear C14)
    | (go_at_call 14; refine D14.mono ?_; rintro e w6 ⟨⟨y', rfl, hS'⟩, b6⟩; clear D14 x0 x1; obtain ⟨za, zc, ey, _⟩ := id hS'; rw [Hql.out] at ey; subst ey; have b67 := Below.next b6 (balloc w6 (.cells #[.int .i64 (n : Int), .slice za ql zc] 24)); obtain ⟨t0, t1⟩ := sq_box _ _ _ _ (Below.next T5 b67); have D12 := C12.out _ _ _ (hS.below (Below.next (balloc w3 (.cells #[.int .i64 (n : Int), .slice ya ql yc] 24)) (Below.next T5 b67))) (hS'.alloc (.cells #[.int .i64 (n : Int), .slice za ql zc] 24)); clear C12)
    | (go_at_call 12; refine D12.mono ?_; rintro e w7 ⟨rfl, b7⟩; clear D12 t0 t1))
  have K7 := Below.next K5 (Below.next b67 b7)
  have HK7 : Hid (Below (w.alloc (.cells #[.int .i64 (n : Int), .slice (some ⟨a, off, none⟩) z cap] 24)).heap.size (w.alloc (.cells #[.int .i64 (n : Int), .slice (some ⟨a, off, none⟩) z cap] 24)) w7) := K7
  have HD7 : Hid (Below (w5.alloc (.cells #[.int .i64 (p : Int), .slice da qd dc] 33)).heap.size (w5.alloc (.cells #[.int .i64 (p : Int), .slice da qd dc] 33)) w7) := Below.next b67 b7
  have HRd : Hid (Rw (w5.alloc (.cells #[.int .i64 (p : Int), .slice da qd dc] 33)) (.slice da qd dc) ls) := hd.below (balloc _ _)
  clear hS hS' hd b2 b3 b4 b5 b6 b67 b7 K1 K2 K3 K4 K5 K7 T5
  go_loopw [15, 16] (fun o i wr => ∃ (j : Nat) (X : Int), i = .int .i64 (j : Int) ∧ j ≤ z ∧ o = .int .i64 X ∧ Hid ((sm j fun j => L.getD j 0) = X) ∧ -(j : Int) ≤ X ∧ X ≤ j ∧ Below w7.heap.size w7 wr) (fun _ i _ => (z - intOf i).toNat)
  case atStart => exact ⟨0, 0, rfl, by omega, rfl, (rfl : (sm 0 fun j => L.getD j 0) = 0), by omega, by omega, Below.refl _ _⟩
  case round =>
    obtain ⟨j, X, rfl, hj, rfl, HS, hX1, hX2, hB⟩ := hrel
    have HBr : Hid (Below w.heap.size w wr) := Below.next HB.out (Below.next HK7.out hB)
    obtain ⟨x0, x1⟩ := sq_box _ _ _ _ (Below.next HK7.out hB)
    by_cases hlt : j < z
    · have hdj : decide ((j : Int) < (z : Int)) = true := by simp; omega
      have hji : (j : Int) < z := by omega
      have hj0 : (0 : Int) ≤ (j : Int) := by omega
      have hcj := (HBr.out.cell (p := ⟨a, off + j, none⟩) ha).trans (HC.out j hlt)
      have hx := HG.out j hlt
      have HS2 : Hid ((sm (j + 1) fun j => L.getD j 0) = X + L.getD j 0) := by show _ = _; rw [sm, HS.out]
      obtain ⟨x, Hx⟩ : ∃ x, Hid (L.getD j 0 = x) := ⟨_, rfl⟩
      rw [Hx.out] at hcj hx HS2
      have hx1 : -1 ≤ x ∧ x ≤ 1 := by rcases hx with h | h <;> omega
      obtain ⟨hx2, hx3⟩ := hx1
      clear hx HS
      go_wp2
      go_roundw
      case rel => exact ⟨j + 1, X + x, by go_num, by omega, by go_num, HS2, by omega, by omega, hB⟩
      case measure => simp [intOf]; omega
    · have hdj : decide ((j : Int) < (z : Int)) = false := by simp; omega
      obtain rfl : j = z := by omega
      obtain rfl : X = Y := HS.out.symm.trans HY.out
      have D15 := C15.out _ HBr.out
      clear HS
      go_wp2_with (first
        | (go_at_call 15; refine D15.mono ?_; rintro e w8 ⟨⟨d', rfl, hd'⟩, b8⟩; clear D15 x0 x1; obtain ⟨fa, fc, ed⟩ := rw_slice hd'; rw [Hqd.out] at ed; subst ed; have b89 := Below.next (Below.next hB b8) (balloc w8 (.cells #[.int .i64 (p : Int), .slice fa qd fc] 33)); obtain ⟨y0, y1⟩ := des_box _ _ _ _ (Below.next HD7.out b89); have D13 := C13.out _ _ _ (HRd.out.below (Below.next HD7.out b89)) (hd'.below (balloc w8 (.cells #[.int .i64 (p : Int), .slice fa qd fc] 33))); clear C13)
        | (go_at_call 13; refine D13.mono ?_; rintro e w9 ⟨rfl, b9⟩; clear D13 y0 y1))
      go_ret
      exact ⟨rfl, Below.next (Below.next HB.out (Below.next HK7.out b89)) b9⟩
theorem Chk_any (s : Int) (L : List Int) (v : Value) (w : World) (hv : Sl w v L) (hll : L.length ≤ maxLen) :
    Calls Try.prog 3 #[.agg #[.int .i64 s, v]] w fun e w' => e = .returned (.bool true) ∧ Below w.heap.size w w' := by
  by_cases hz : hF s L = 0
  · obtain ⟨n, rfl, G⟩ := hF_ok hz
    by_cases h4 : 4 ≤ n
    · obtain ⟨m, rfl⟩ : ∃ m, n = m + 1 := ⟨n - 1, by omega⟩
      have hle := G.le
      refine Chk_good (m + 1) m 0 L (toZ (hbL m (evn (mx (m + 1) L)))) v w hv G (by simp [toZ, hbL]; unfold maxLen; omega) (fun l hl => ?_) (fun W b => ?_) (fun W b => SBlocks_main m L v W (hv.below b) G h4)
      · obtain ⟨l', hl', rfl⟩ := List.mem_map.1 hl
        obtain ⟨i, _, rfl⟩ := List.mem_map.1 hl'
        have := hbK_len (evn (mx (m + 1) L)) i m
        rw [hbK_full] at this
        rw [List.length_map]
        unfold maxLen
        omega
      · refine (Blocks_ok (m + 1) L v W (hv.below b) G h4).mono ?_
        rintro e w' ⟨⟨y, rfl, hO⟩, hb⟩
        exact ⟨⟨y, rfl, hO.rw⟩, hb⟩
    · refine Chk_good n 0 2 L [] v w hv G (by simp) (by simp) (fun W b => ?_) (fun W b => ?_)
      · refine (Blocks_small n L v W (hv.below b) G (by omega)).mono ?_
        rintro e w' ⟨rfl, hb⟩
        exact ⟨⟨_, rfl, rw_nil _⟩, hb⟩
      · refine (SBlocks_small n v W (by omega)).mono ?_
        rintro e w' ⟨rfl, hb⟩
        exact ⟨⟨_, rfl, rw_nil _⟩, hb⟩
  · exact Chk_bad s L v w hv hll hz
end Go.Proofs.Ytamdpcajfgbagaa
