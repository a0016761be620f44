/- The law SpaceNormal, walked. -/
import Derived.Test.YtgdkfbgehbdkjaaDoorD2
import Derived.Test.YtgdkfbgehbdkjaaDoorDLi
/- The law SpaceGrassmann, walked. -/
namespace Go.Proofs.YtgdkfbgehbdkjaaDoor
open Go.RowKit

/-- An answer of some rows, of which only what is wrong is told. -/
def AnsZ (z : Int) (e : Ending) : Prop := ∃ a m c, e = .returned (.tuple #[.slice a m c, .int .i64 z])
theorem AnsB.z {q : Nat} {ad mu : Nat → Nat → Nat} {n : Nat} {V : List Nat → Prop} {z : Int} {e : Ending} {w' : World} (h : AnsB q ad mu n V z e w') : AnsZ z e := by
  obtain ⟨a, m, c, e, _⟩ := h
  exact ⟨a, m, c, e⟩
set_option maxRecDepth 100000 in
set_option maxHeartbeats 4000000 in
theorem law5_err (p k n z1 z2 : Int) (v u x : Value) (w : World) (hT : Fd.Tab w) (hv : ∃ a m c, v = .slice a m c) (hu : ∃ a m c, u = .slice a m c) (hx : ∃ a m c, x = .slice a m c)
    (C1 : ∀ W, Below w.heap.size w W → Calls Tryd.prog 10 #[.agg #[.int .i64 p, .int .i64 k, v], .int .i64 n, u] W fun e w' => AnsZ z1 e ∧ Below W.heap.size W w')
    (C2 : ∀ W, Below w.heap.size w W → Calls Tryd.prog 10 #[.agg #[.int .i64 p, .int .i64 k, v], .int .i64 n, x] W fun e w' => AnsZ z2 e ∧ Below W.heap.size W w') (h0 : z1 ≠ 0 ∨ z2 ≠ 0) :
    Calls Tryd.prog 5 #[.agg #[.int .i64 p, .int .i64 k, v], .int .i64 n, u, x] w fun e w' => e = .returned (.bool true) ∧ Below w.heap.size w w' := by
  obtain ⟨fa, fn, fc, rfl⟩ := hv
  obtain ⟨ua, um, uc, rfl⟩ := hu
  obtain ⟨xa, xm, xc, rfl⟩ := hx
  have b0 := balloc w (.cells #[.int .i64 p, .int .i64 k, .slice fa fn fc] 24)
  have hbx := fl_box p k (.slice fa fn fc) w
  have C0 := fact_any (w.alloc (.cells #[.int .i64 p, .int .i64 k, .slice fa fn fc] 24)) (hT.below b0)
  obtain ⟨w0, Hw0⟩ : ∃ w0, Hid (w.alloc (.cells #[.int .i64 p, .int .i64 k, .slice fa fn fc] 24) = w0) := ⟨_, rfl⟩
  rw [Hw0.out] at b0 hbx C0
  have HBX : Hid (∀ W, Below w0.heap.size w0 W → W.cell? ⟨w.heap.size, 0, none⟩ = some (.int .i64 p) ∧ W.cell? ⟨w.heap.size, 1, none⟩ = some (.int .i64 k) ∧ W.cell? ⟨w.heap.size, 2, none⟩ = some (.slice fa fn fc)) := hbx
  have HC1 : Hid (∀ W, Below w0.heap.size w0 W → Calls Tryd.prog 10 #[.agg #[.int .i64 p, .int .i64 k, .slice fa fn fc], .int .i64 n, .slice ua um uc] W fun e w' => AnsZ z1 e ∧ Below W.heap.size W w') := fun W b => C1 W (Below.next b0 b)
  have HC2 : Hid (∀ W, Below w0.heap.size w0 W → Calls Tryd.prog 10 #[.agg #[.int .i64 p, .int .i64 k, .slice fa fn fc], .int .i64 n, .slice xa xm xc] W fun e w' => AnsZ z2 e ∧ Below W.heap.size W w') := fun W b => C2 W (Below.next b0 b)
  clear C1 C2 hbx hT
  by_cases h1 : z1 = 0
  · have h2 : z2 ≠ 0 := by omega
    have d1 : (z1 != 0) = false := by simp [h1]
    have d2 : (z2 != 0) = true := by simpa using h2
    clear h0 h2 h1
    go_enter Tryd.func5, Tryd.ntmps5
    go_wp2_with (first
      | (go_at_call 22; rw [Hw0.out]; refine C0.mono ?_; rintro e w1 ⟨rfl, b1⟩; clear C0; obtain ⟨y0, y1, y2⟩ := HBX.out w1 b1; have D1 := HC1.out w1 b1; clear HC1)
      | (go_at_call 10; refine D1.mono ?_; rintro e w2 ⟨⟨aa, am, ac, rfl⟩, b2⟩; clear D1 y0 y1 y2; obtain ⟨y0, y1, y2⟩ := HBX.out w2 (Below.next b1 b2); have D2 := HC2.out w2 (Below.next b1 b2); clear HC2)
      | (go_at_call 10; refine D2.mono ?_; rintro e w3 ⟨⟨ba, bm, bc, rfl⟩, b3⟩; clear D2))
    go_ret
    exact ⟨rfl, Below.next b0 (Below.next (Below.next b1 b2) b3)⟩
  · have d1 : (z1 != 0) = true := by simpa using h1
    clear h0 h1
    go_enter Tryd.func5, Tryd.ntmps5
    go_wp2_with (first
      | (go_at_call 22; rw [Hw0.out]; refine C0.mono ?_; rintro e w1 ⟨rfl, b1⟩; clear C0; obtain ⟨y0, y1, y2⟩ := HBX.out w1 b1; have D1 := HC1.out w1 b1; clear HC1)
      | (go_at_call 10; refine D1.mono ?_; rintro e w2 ⟨⟨aa, am, ac, rfl⟩, b2⟩; clear D1 y0 y1 y2; obtain ⟨y0, y1, y2⟩ := HBX.out w2 (Below.next b1 b2); have D2 := HC2.out w2 (Below.next b1 b2); clear HC2)
      | (go_at_call 10; refine D2.mono ?_; rintro e w3 ⟨⟨ba, bm, bc, rfl⟩, b3⟩; clear D2))
    go_ret
    exact ⟨rfl, Below.next b0 (Below.next (Below.next b1 b2) b3)⟩
set_option maxRecDepth 100000 in
set_option maxHeartbeats 4000000 in
theorem law5_ok (P K n : Nat) (l : List Int) (v u x : Value) (A B : List (List Nat)) (w : World) (hF : Fld P K l v w) (hu : Rw w u (toZ A)) (hA : Rws (P ^ K) n A) (hAl : A.length ≤ 12) (hx : Rw w x (toZ B)) (hB : Rws (P ^ K) n B) (hBl : B.length ≤ 12) (h1 : 1 ≤ n) (h6 : n ≤ 6) (hf : (P ^ K) ^ n ≤ 4096) :
    Calls Tryd.prog 5 #[.agg #[.int .i64 (P : Int), .int .i64 (K : Int), v], .int .i64 (n : Int), u, x] w fun e w' => e = .returned (.bool true) ∧ Below w.heap.size w w' := by
  have zA := rs_zero hA hAl
  have zB := rs_zero hB hBl
  have D1 : ∀ W, Below w.heap.size w W → Calls Tryd.prog 10 #[.agg #[.int .i64 (P : Int), .int .i64 (K : Int), v], .int .i64 (n : Int), u] W fun e w' => BaR (P ^ K) (adF P K) (muF P K l) n (Spn (P ^ K) (adF P K) (muF P K l) n A) e w' ∧ Below W.heap.size W w' := fun W b =>
    Basis_ok P K n l v u A W (hF.below b) (hu.below b) hA hAl h1 h6 (opc_rows (hF.below b) h1 h6 hf _ _ (by simp) (by rw [lsE_one, zA]))
  have D2 : ∀ W, Below w.heap.size w W → Calls Tryd.prog 10 #[.agg #[.int .i64 (P : Int), .int .i64 (K : Int), v], .int .i64 (n : Int), x] W fun e w' => BaR (P ^ K) (adF P K) (muF P K l) n (Spn (P ^ K) (adF P K) (muF P K l) n B) e w' ∧ Below W.heap.size W w' := fun W b =>
    Basis_ok P K n l v x B W (hF.below b) (hx.below b) hB hBl h1 h6 (opc_rows (hF.below b) h1 h6 hf _ _ (by simp) (by rw [lsE_one, zB]))
  have D3 : ∀ W, Below w.heap.size w W → Calls Tryd.prog 19 #[.agg #[.int .i64 (P : Int), .int .i64 (K : Int), v], .int .i64 (n : Int), u, x] W fun e w' => BaR (P ^ K) (adF P K) (muF P K l) n (Spn (P ^ K) (adF P K) (muF P K l) n (A ++ B)) e w' ∧ Below W.heap.size W w' := fun W b =>
    Join_ok P K n l v u x A B W (hF.below b) (hu.below b) hA hAl (hx.below b) hB hBl h1 h6 (opc_rows (hF.below b) h1 h6 hf _ _ (by simp) (by rw [lsE_two, zA, zB]; rfl))
  have D4 : ∀ W, Below w.heap.size w W → Calls Tryd.prog 20 #[.agg #[.int .i64 (P : Int), .int .i64 (K : Int), v], .int .i64 (n : Int), u, x] W fun e w' => BaR (P ^ K) (adF P K) (muF P K l) n (fun v => Spn (P ^ K) (adF P K) (muF P K l) n A v ∧ Spn (P ^ K) (adF P K) (muF P K l) n B v) e w' ∧ Below W.heap.size W w' := fun W b =>
    Meet_ok P K n l v u x A B W (hF.below b) (hu.below b) hA hAl (hx.below b) hB hBl h1 h6 (opc_rows (hF.below b) h1 h6 hf _ _ (by simp) (by rw [lsE_two, zA, zB]; rfl))
  have hfq := hF.fqr
  have HG : Hid (∀ X Y J M, BasIs (P ^ K) (adF P K) (muF P K l) n (Spn (P ^ K) (adF P K) (muF P K l) n A) X → BasIs (P ^ K) (adF P K) (muF P K l) n (Spn (P ^ K) (adF P K) (muF P K l) n B) Y → BasIs (P ^ K) (adF P K) (muF P K l) n (Spn (P ^ K) (adF P K) (muF P K l) n (A ++ B)) J → BasIs (P ^ K) (adF P K) (muF P K l) n (fun v => Spn (P ^ K) (adF P K) (muF P K l) n A v ∧ Spn (P ^ K) (adF P K) (muF P K l) n B v) M → J.length + M.length = X.length + Y.length) := fun X Y J M hX hY hJ hM =>
    grass hfq hX hY (hJ.congr fun v => spn_append hfq hA hB v) hM
  have hT := hF.tab
  obtain ⟨fa, fn, fc, rfl⟩ : ∃ fa fn fc, v = .slice fa fn fc := by obtain ⟨a, c, e, _⟩ := hF.sl; exact ⟨a, _, c, e⟩
  obtain ⟨ua, um, uc, rfl, _⟩ := rw_formH hu
  obtain ⟨xa, xm, xc, rfl, _⟩ := rw_formH hx
  have b0 := balloc w (.cells #[.int .i64 (P : Int), .int .i64 (K : Int), .slice fa fn fc] 24)
  have hbx := fl_box (P : Int) (K : Int) (.slice fa fn fc) w
  have C0 := fact_any (w.alloc (.cells #[.int .i64 (P : Int), .int .i64 (K : Int), .slice fa fn fc] 24)) (hT.below b0)
  obtain ⟨w0, Hw0⟩ : ∃ w0, Hid (w.alloc (.cells #[.int .i64 (P : Int), .int .i64 (K : Int), .slice fa fn fc] 24) = w0) := ⟨_, rfl⟩
  rw [Hw0.out] at b0 hbx C0
  have HBX : Hid (∀ W, Below w0.heap.size w0 W → W.cell? ⟨w.heap.size, 0, none⟩ = some (.int .i64 (P : Int)) ∧ W.cell? ⟨w.heap.size, 1, none⟩ = some (.int .i64 (K : Int)) ∧ W.cell? ⟨w.heap.size, 2, none⟩ = some (.slice fa fn fc)) := hbx
  have HB0 : Hid (∀ W, Below w0.heap.size w0 W → Below w.heap.size w W) := fun W b => Below.next b0 b
  clear hbx hT hF hu hx hA hB hfq zA zB hf
  go_enter Tryd.func5, Tryd.ntmps5
  go_wp2_with (first
    | (go_at_call 22; rw [Hw0.out]; refine C0.mono ?_; rintro e w1 ⟨rfl, b1⟩; clear C0; obtain ⟨y0, y1, y2⟩ := HBX.out w1 b1; have E1 := D1 w1 (HB0.out w1 b1); clear D1)
    | (go_at_call 10; refine E1.mono ?_; rintro e w2 ⟨⟨r1, X, rfl, hX, hr1⟩, b2⟩; obtain ⟨aa, am, ac, rfl, Ham⟩ := rw_formH hr1; clear E1 y0 y1 y2; have q2 := Below.next b1 b2; obtain ⟨y0, y1, y2⟩ := HBX.out w2 q2; have E2 := D2 w2 (HB0.out w2 q2); clear D2)
    | (go_at_call 10; refine E2.mono ?_; rintro e w3 ⟨⟨r2, Y, rfl, hY, hr2⟩, b3⟩; obtain ⟨ba, bm, bc, rfl, Hbm⟩ := rw_formH hr2; clear E2 y0 y1 y2; have q3 := Below.next q2 b3; obtain ⟨y0, y1, y2⟩ := HBX.out w3 q3; have E3 := D3 w3 (HB0.out w3 q3); clear D3)
    | (go_at_call 19; refine E3.mono ?_; rintro e w4 ⟨⟨r3, J, rfl, hJ, hr3⟩, b4⟩; obtain ⟨ca, cm, cc, rfl, Hcm⟩ := rw_formH hr3; clear E3 y0 y1 y2; have q4 := Below.next q3 b4; obtain ⟨y0, y1, y2⟩ := HBX.out w4 q4; have E4 := D4 w4 (HB0.out w4 q4); clear D4)
    | (go_at_call 20; refine E4.mono ?_; rintro e w5 ⟨⟨r4, M, rfl, hM, hr4⟩, b5⟩; obtain ⟨da, dm, dc, rfl, Hdm⟩ := rw_formH hr4; clear E4; have q5 := Below.next q4 b5; have l1 := rref_le hX.rref; have l2 := rref_le hY.rref; have l3 := rref_le hJ.rref; have l4 := rref_le hM.rref; have hsum := HG.out X Y J M hX hY hJ hM; rw [Hcm.out, Hdm.out, Ham.out, Hbm.out] at hsum; rw [Ham.out] at l1; rw [Hbm.out] at l2; rw [Hcm.out] at l3; rw [Hdm.out] at l4; have hsi : ((cm : Int) + (dm : Int) == (am : Int) + (bm : Int)) = true := (by rw [beq_iff_eq]; omega); clear hsum))
  go_ret
  exact ⟨rfl, HB0.out _ q5⟩
theorem law5_any (p k n : Int) (l : List Int) (rs ss : List (List Int)) (v u x : Value) (w : World) (hT : Fd.Tab w) (hl : Fd.Sl w v l) (hll : l.length ≤ maxLen) (hu : RwC w u rs) (hx : RwC w x ss) :
    Calls Tryd.prog 5 #[.agg #[.int .i64 p, .int .i64 k, v], .int .i64 n, u, x] w fun e w' => e = .returned (.bool true) ∧ Below w.heap.size w w' := by
  have hv : ∃ a m c, v = .slice a m c := by obtain ⟨a, c, e, _⟩ := hl; exact ⟨a, _, c, e⟩
  have hu' : ∃ a m c, u = .slice a m c := by obtain ⟨a, m, c, e, _⟩ := hu.form; exact ⟨a, m, c, e⟩
  have hx' : ∃ a m c, x = .slice a m c := by obtain ⟨a, m, c, e, _⟩ := hx.form; exact ⟨a, m, c, e⟩
  rcases room_cases p k l n with ⟨z, hz⟩ | ⟨P, K, N, rfl, rfl, rfl, hG, h1, h6, hf⟩
  · refine law5_err p k n z z v u x w hT hv hu' hx' (fun W b => ?_) (fun W b => ?_) (.inl hz.ne)
    · exact (Basis_err p k n z v u rs undef W hv (hu.below b) (hz.op (hT.below b) (hl.below b) hll _ _ _) hz.ne).mono fun e w' ⟨h, b'⟩ => ⟨⟨_, _, _, h⟩, b'⟩
    · exact (Basis_err p k n z v x ss undef W hv (hx.below b) (hz.op (hT.below b) (hl.below b) hll _ _ _) hz.ne).mono fun e w' ⟨h, b'⟩ => ⟨⟨_, _, _, h⟩, b'⟩
  · have hF : Fld P K l v w := ⟨hT, hl, hll, hG⟩
    by_cases h0 : rsE (P ^ K) N rs = 0 ∧ rsE (P ^ K) N ss = 0
    · obtain ⟨A, rfl, hA, hAl⟩ := rs_nat h0.1
      obtain ⟨B, rfl, hB, hBl⟩ := rs_nat h0.2
      exact law5_ok P K N l v u x A B w hF hu.rw hA hAl hx.rw hB hBl h1 h6 hf
    · refine law5_err P K N (rsE (P ^ K) N rs) (rsE (P ^ K) N ss) v u x w hT hv hu' hx' (fun W b => ?_) (fun W b => ?_) (by omega)
      · obtain ⟨S, hS⟩ : ∃ S, rsE (P ^ K) N rs = 0 → rs = toZ S := by
          by_cases e : rsE (P ^ K) N rs = 0
          · obtain ⟨S, e2, _⟩ := rs_nat e; exact ⟨S, fun _ => e2⟩
          · exact ⟨[], fun h => absurd h e⟩
        exact (Basis_ans (hF.below b) h1 h6 hf (hu.below b) hS).mono fun e w' ⟨h, b'⟩ => ⟨h.z, b'⟩
      · obtain ⟨S, hS⟩ : ∃ S, rsE (P ^ K) N ss = 0 → ss = toZ S := by
          by_cases e : rsE (P ^ K) N ss = 0
          · obtain ⟨S, e2, _⟩ := rs_nat e; exact ⟨S, fun _ => e2⟩
          · exact ⟨[], fun h => absurd h e⟩
        exact (Basis_ans (hF.below b) h1 h6 hf (hx.below b) hS).mono fun e w' ⟨h, b'⟩ => ⟨h.z, b'⟩
end Go.Proofs.YtgdkfbgehbdkjaaDoor

namespace Go.Proofs.YtgdkfbgehbdkjaaDoor
open Go.RowKit

set_option maxRecDepth 100000 in
set_option maxHeartbeats 4000000 in
theorem law6_err (p k n z1 : Int) (v u x : Value) (w : World) (hT : Fd.Tab w) (hv : ∃ a m c, v = .slice a m c) (hu : ∃ a m c, u = .slice a m c) (hx : ∃ a m c, x = .slice a m c)
    (C1 : ∀ W, Below w.heap.size w W → Calls Tryd.prog 10 #[.agg #[.int .i64 p, .int .i64 k, v], .int .i64 n, u] W fun e w' => AnsZ z1 e ∧ Below W.heap.size W w') (h0 : z1 ≠ 0) :
    Calls Tryd.prog 6 #[.agg #[.int .i64 p, .int .i64 k, v], .int .i64 n, u, x] w fun e w' => e = .returned (.bool true) ∧ Below w.heap.size w w' := by
  obtain ⟨fa, fn, fc, rfl⟩ := hv
  obtain ⟨ua, um, uc, rfl⟩ := hu
  obtain ⟨xa, xm, xc, rfl⟩ := hx
  have b0 := balloc w (.cells #[.int .i64 p, .int .i64 k, .slice fa fn fc] 24)
  have hbx := fl_box p k (.slice fa fn fc) w
  have C0 := fact_any (w.alloc (.cells #[.int .i64 p, .int .i64 k, .slice fa fn fc] 24)) (hT.below b0)
  obtain ⟨w0, Hw0⟩ : ∃ w0, Hid (w.alloc (.cells #[.int .i64 p, .int .i64 k, .slice fa fn fc] 24) = w0) := ⟨_, rfl⟩
  rw [Hw0.out] at b0 hbx C0
  have HBX : Hid (∀ W, Below w0.heap.size w0 W → W.cell? ⟨w.heap.size, 0, none⟩ = some (.int .i64 p) ∧ W.cell? ⟨w.heap.size, 1, none⟩ = some (.int .i64 k) ∧ W.cell? ⟨w.heap.size, 2, none⟩ = some (.slice fa fn fc)) := hbx
  have HC1 : Hid (∀ W, Below w0.heap.size w0 W → Calls Tryd.prog 10 #[.agg #[.int .i64 p, .int .i64 k, .slice fa fn fc], .int .i64 n, .slice ua um uc] W fun e w' => AnsZ z1 e ∧ Below W.heap.size W w') := fun W b => C1 W (Below.next b0 b)
  have d1 : (z1 != 0) = true := by simpa using h0
  clear C1 hbx hT h0
  go_enter Tryd.func6, Tryd.ntmps6
  go_wp2_with (first
    | (go_at_call 22; rw [Hw0.out]; refine C0.mono ?_; rintro e w1 ⟨rfl, b1⟩; clear C0; obtain ⟨y0, y1, y2⟩ := HBX.out w1 b1; have D1 := HC1.out w1 b1; clear HC1)
    | (go_at_call 10; refine D1.mono ?_; rintro e w2 ⟨⟨aa, am, ac, rfl⟩, b2⟩; clear D1))
  go_ret
  exact ⟨rfl, Below.next b0 (Below.next b1 b2)⟩
/-- Two lists that are the same: Lists says so. -/
theorem lists_same {A : List (List Nat)} {q n : Nat} {v x : Value} {w : World} (hv : Rw w v (toZ A)) (hx : Rw w x (toZ A)) (hA : Rref q n A) (hn : n ≤ 6) : Calls Tryd.prog 15 #[v, x] w fun e w' => e = .returned (.bool true) ∧ Below w.heap.size w w' := by
  have hl : (toZ A).length ≤ maxLen := by rw [toZ_len]; exact len_max (by have := rref_le hA; omega)
  refine (Lists_any (toZ A) (toZ A) v x w hv hx hl hl (toZ_max hA.rws hn) (toZ_max hA.rws hn)).mono ?_
  rintro e w' ⟨b, rfl, hb, bw⟩
  rw [hb.2 rfl]
  exact ⟨rfl, bw⟩
set_option maxRecDepth 100000 in
set_option maxHeartbeats 8000000 in
theorem law6_ok (P K n : Nat) (l : List Int) (v u x : Value) (A : List (List Nat)) (ss : List (List Int)) (w : World) (hF : Fld P K l v w) (hu : Rw w u (toZ A)) (hA : Rws (P ^ K) n A) (hAl : A.length ≤ 12) (hx : RwC w x ss) (h1 : 1 ≤ n) (h6 : n ≤ 6) (hf : (P ^ K) ^ n ≤ 4096) :
    Calls Tryd.prog 6 #[.agg #[.int .i64 (P : Int), .int .i64 (K : Int), v], .int .i64 (n : Int), u, x] w fun e w' => e = .returned (.bool true) ∧ Below w.heap.size w w' := by
  have zA := rs_zero hA hAl
  have D1 : ∀ W, Below w.heap.size w W → Calls Tryd.prog 10 #[.agg #[.int .i64 (P : Int), .int .i64 (K : Int), v], .int .i64 (n : Int), u] W fun e w' => BaR (P ^ K) (adF P K) (muF P K l) n (Spn (P ^ K) (adF P K) (muF P K l) n A) e w' ∧ Below W.heap.size W w' := fun W b =>
    Basis_ok P K n l v u A W (hF.below b) (hu.below b) hA hAl h1 h6 (opc_rows (hF.below b) h1 h6 hf _ _ (by simp) (by rw [lsE_one, zA]))
  have HNo : Hid (∀ (W : World) (y : Value) (Y : List (List Nat)), Below w.heap.size w W → Rw W y (toZ Y) → Rws (P ^ K) n Y → Y.length ≤ 12 → Calls Tryd.prog 11 #[.agg #[.int .i64 (P : Int), .int .i64 (K : Int), v], .int .i64 (n : Int), y] W fun e w' => BaR (P ^ K) (adF P K) (muF P K l) n (Nrm (P ^ K) (adF P K) (muF P K l) n Y) e w' ∧ Below W.heap.size W w') := fun W y Y b hy hY hl =>
    Normal_ok P K n l v y Y W (hF.below b) hy hY hl h1 h6 (opc_rows (hF.below b) h1 h6 hf _ _ (by simp) (by rw [lsE_one, rs_zero hY hl]))
  have HMe : Hid (∀ (W : World) (y z : Value) (Y Z : List (List Nat)), Below w.heap.size w W → Rw W y (toZ Y) → Rws (P ^ K) n Y → Y.length ≤ 12 → Rw W z (toZ Z) → Rws (P ^ K) n Z → Z.length ≤ 12 → Calls Tryd.prog 20 #[.agg #[.int .i64 (P : Int), .int .i64 (K : Int), v], .int .i64 (n : Int), y, z] W fun e w' => BaR (P ^ K) (adF P K) (muF P K l) n (fun v => Spn (P ^ K) (adF P K) (muF P K l) n Y v ∧ Spn (P ^ K) (adF P K) (muF P K l) n Z v) e w' ∧ Below W.heap.size W w') := fun W y z Y Z b hy hY hl hz hZ hk =>
    Meet_ok P K n l v y z Y Z W (hF.below b) hy hY hl hz hZ hk h1 h6 (opc_rows (hF.below b) h1 h6 hf _ _ (by simp) (by rw [lsE_two, rs_zero hY hl, rs_zero hZ hk]; rfl))
  have hfq := hF.fqr
  have HLen : Hid (∀ X U, BasIs (P ^ K) (adF P K) (muF P K l) n (Spn (P ^ K) (adF P K) (muF P K l) n A) X → BasIs (P ^ K) (adF P K) (muF P K l) n (Nrm (P ^ K) (adF P K) (muF P K l) n A) U → U.length + X.length = n) := fun X U hX hU => nrm_len hfq hA hX hU
  have HTw : Hid (∀ X U Y, BasIs (P ^ K) (adF P K) (muF P K l) n (Spn (P ^ K) (adF P K) (muF P K l) n A) X → BasIs (P ^ K) (adF P K) (muF P K l) n (Nrm (P ^ K) (adF P K) (muF P K l) n A) U → BasIs (P ^ K) (adF P K) (muF P K l) n (Nrm (P ^ K) (adF P K) (muF P K l) n U) Y → Y = X) := fun X U Y hX hU hY =>
    BasIs.one hfq (hY.congr fun v => nrm_nrm hfq hA hX hU v) hX
  have hT := hF.tab
  have hv' : ∃ fa fn fc, v = .slice fa fn fc := by obtain ⟨a, c, e, _⟩ := hF.sl; exact ⟨a, _, c, e⟩
  by_cases zB : rsE (P ^ K) n ss = 0
  · obtain ⟨B, rfl, hB, hBl⟩ := rs_nat zB
    have D3 : ∀ W, Below w.heap.size w W → Calls Tryd.prog 19 #[.agg #[.int .i64 (P : Int), .int .i64 (K : Int), v], .int .i64 (n : Int), u, x] W fun e w' => BaR (P ^ K) (adF P K) (muF P K l) n (Spn (P ^ K) (adF P K) (muF P K l) n (A ++ B)) e w' ∧ Below W.heap.size W w' := fun W b =>
      Join_ok P K n l v u x A B W (hF.below b) (hu.below b) hA hAl (hx.rw.below b) hB hBl h1 h6 (opc_rows (hF.below b) h1 h6 hf _ _ (by simp) (by rw [lsE_two, zA, zB]; rfl))
    have HJn : Hid (∀ U V J L M, BasIs (P ^ K) (adF P K) (muF P K l) n (Nrm (P ^ K) (adF P K) (muF P K l) n A) U → BasIs (P ^ K) (adF P K) (muF P K l) n (Nrm (P ^ K) (adF P K) (muF P K l) n B) V → BasIs (P ^ K) (adF P K) (muF P K l) n (Spn (P ^ K) (adF P K) (muF P K l) n (A ++ B)) J → BasIs (P ^ K) (adF P K) (muF P K l) n (Nrm (P ^ K) (adF P K) (muF P K l) n J) L → BasIs (P ^ K) (adF P K) (muF P K l) n (fun v => Spn (P ^ K) (adF P K) (muF P K l) n U v ∧ Spn (P ^ K) (adF P K) (muF P K l) n V v) M → L = M) := fun U V J L M hU hV hJ hL hM =>
      BasIs.one hfq (hL.congr fun v => nrm_join hfq hA hB hJ hU hV v) hM
    have HXr : Hid (∀ W, Below w.heap.size w W → Rw W x (toZ B)) := fun W b => hx.rw.below b
    have HUr : Hid (∀ W, Below w.heap.size w W → Rw W u (toZ A)) := fun W b => hu.below b
    have HA : Hid (Rws (P ^ K) n A) := hA
    have HB : Hid (Rws (P ^ K) n B) := hB
    obtain ⟨fa, fn, fc, rfl⟩ := hv'
    obtain ⟨ua, um, uc, rfl, _⟩ := rw_formH hu
    obtain ⟨xa, xm, xc, rfl, _⟩ := rw_formH hx.rw
    have b0 := balloc w (.cells #[.int .i64 (P : Int), .int .i64 (K : Int), .slice fa fn fc] 24)
    have hbx := fl_box (P : Int) (K : Int) (.slice fa fn fc) w
    have C0 := fact_any (w.alloc (.cells #[.int .i64 (P : Int), .int .i64 (K : Int), .slice fa fn fc] 24)) (hT.below b0)
    obtain ⟨w0, Hw0⟩ : ∃ w0, Hid (w.alloc (.cells #[.int .i64 (P : Int), .int .i64 (K : Int), .slice fa fn fc] 24) = w0) := ⟨_, rfl⟩
    rw [Hw0.out] at b0 hbx C0
    have HBX : Hid (∀ W, Below w0.heap.size w0 W → W.cell? ⟨w.heap.size, 0, none⟩ = some (.int .i64 (P : Int)) ∧ W.cell? ⟨w.heap.size, 1, none⟩ = some (.int .i64 (K : Int)) ∧ W.cell? ⟨w.heap.size, 2, none⟩ = some (.slice fa fn fc)) := hbx
    have HB0 : Hid (∀ W, Below w0.heap.size w0 W → Below w.heap.size w W) := fun W b => Below.next b0 b
    clear hbx hT hF hu hx hA hB hfq zA zB hf
    go_enter Tryd.func6, Tryd.ntmps6
    go_wp2_with (first
      | (go_at_call 22; rw [Hw0.out]; refine C0.mono ?_; rintro e w1 ⟨rfl, b1⟩; clear C0; obtain ⟨y0, y1, y2⟩ := HBX.out w1 b1; have E1 := D1 w1 (HB0.out w1 b1); clear D1)
      | (go_at_call 10; refine E1.mono ?_; rintro e w2 ⟨⟨r1, X, rfl, hX, hr1⟩, b2⟩; obtain ⟨aa, am, ac, rfl, Ham⟩ := rw_formH hr1; clear E1 y0 y1 y2; have q2 := Below.next b1 b2; obtain ⟨y0, y1, y2⟩ := HBX.out w2 q2; have E2 := HNo.out w2 _ A (HB0.out w2 q2) (HUr.out w2 (HB0.out w2 q2)) HA.out hAl)
      | (go_at_call 11; refine E2.mono ?_; rintro e w3 ⟨⟨r2, U, rfl, hU, hr2⟩, b3⟩; obtain ⟨ba, bm, bc, rfl, Hbm⟩ := rw_formH hr2; clear E2 y0 y1 y2; have q3 := Below.next q2 b3; obtain ⟨y0, y1, y2⟩ := HBX.out w3 q3; have lU := rref_le hU.rref; have E3 := HNo.out w3 _ U (HB0.out w3 q3) hr2 hU.rref.rws (by omega))
      | (go_at_call 11; refine E3.mono ?_; rintro e w4 ⟨⟨r3, Y, rfl, hY, hr3⟩, b4⟩; obtain rfl := HTw.out X U Y hX hU hY; obtain ⟨ca, cm, cc, rfl, Hcm⟩ := rw_formH hr3; clear E3 y0 y1 y2; have q4 := Below.next q3 b4; obtain ⟨y0, y1, y2⟩ := HBX.out w4 q4; have E4 := lists_same hr3 (hr1.below (Below.next b3 b4)) hX.rref h6; have hsum := HLen.out Y U hX hU; rw [Hbm.out, Ham.out] at hsum; have lX := rref_le hX.rref; rw [Ham.out] at lX; have lU2 := lU; rw [Hbm.out] at lU2; have hsi : ((bm : Int) + (am : Int) != (n : Int)) = false := (by rw [bne_eq_false_iff_eq]; omega); clear hsum)
      | (go_at_call 15; refine E4.mono ?_; rintro e w5 ⟨rfl, b5⟩; clear E4 y0 y1 y2; have q5 := Below.next q4 b5; obtain ⟨y0, y1, y2⟩ := HBX.out w5 q5; have E5 := HNo.out w5 _ B (HB0.out w5 q5) (HXr.out w5 (HB0.out w5 q5)) HB.out hBl)
      | (go_at_call 11; refine E5.mono ?_; rintro e w6 ⟨⟨r5, V, rfl, hV, hr5⟩, b6⟩; obtain ⟨da, dm, dc, rfl, Hdm⟩ := rw_formH hr5; clear E5 y0 y1 y2; have q6 := Below.next q5 b6; obtain ⟨y0, y1, y2⟩ := HBX.out w6 q6; have lV := rref_le hV.rref; have E6 := D3 w6 (HB0.out w6 q6); clear D3)
      | (go_at_call 19; refine E6.mono ?_; rintro e w7 ⟨⟨r6, J, rfl, hJ, hr6⟩, b7⟩; obtain ⟨ea, em, ec, rfl, Hem⟩ := rw_formH hr6; clear E6 y0 y1 y2; have q7 := Below.next q6 b7; obtain ⟨y0, y1, y2⟩ := HBX.out w7 q7; have lJ := rref_le hJ.rref; have E7 := HNo.out w7 _ J (HB0.out w7 q7) hr6 hJ.rref.rws (by omega))
      | (go_at_call 11; refine E7.mono ?_; rintro e w8 ⟨⟨r7, L, rfl, hL, hr7⟩, b8⟩; obtain ⟨ga, gm, gc, rfl, Hgm⟩ := rw_formH hr7; clear E7 y0 y1 y2; have q8 := Below.next q7 b8; obtain ⟨y0, y1, y2⟩ := HBX.out w8 q8; have E8 := HMe.out w8 _ _ U V (HB0.out w8 q8) (hr2.below (Below.next (Below.next (Below.next (Below.next b4 b5) b6) b7) b8)) hU.rref.rws (by omega) (hr5.below (Below.next b7 b8)) hV.rref.rws (by omega))
      | (go_at_call 20; refine E8.mono ?_; rintro e w9 ⟨⟨r8, M, rfl, hM, hr8⟩, b9⟩; obtain rfl := HJn.out U V J L M hU hV hJ hL hM; obtain ⟨ia, im, ic, rfl, Him⟩ := rw_formH hr8; clear E8 y0 y1 y2; have q9 := Below.next q8 b9; have E9 := lists_same (hr7.below b9) hr8 hM.rref h6)
      | (go_at_call 15; refine E9.mono ?_; rintro e w10 ⟨rfl, b10⟩; clear E9; have q10 := Below.next q9 b10))
    go_ret
    exact ⟨rfl, HB0.out _ q10⟩
  · have D3 : ∀ W, Below w.heap.size w W → Calls Tryd.prog 11 #[.agg #[.int .i64 (P : Int), .int .i64 (K : Int), v], .int .i64 (n : Int), x] W fun e w' => e = .returned (.tuple #[.slice none 0 0, .int .i64 (rsE (P ^ K) n ss : Int)]) ∧ Below W.heap.size W w' := fun W b =>
      Normal_err P K n _ v x ss _ W hv' (hx.below b) (opc_rows (hF.below b) h1 h6 hf _ _ (by simp) (lsE_one ss)) (by omega)
    obtain ⟨z, Hz⟩ : ∃ z, Hid (rsE (P ^ K) n ss = z) := ⟨_, rfl⟩
    rw [Hz.out] at D3 zB
    have hz0 : ((z : Int) != 0) = true := by simp; omega
    have HUr : Hid (∀ W, Below w.heap.size w W → Rw W u (toZ A)) := fun W b => hu.below b
    have HA : Hid (Rws (P ^ K) n A) := hA
    obtain ⟨fa, fn, fc, rfl⟩ := hv'
    obtain ⟨ua, um, uc, rfl, _⟩ := rw_formH hu
    obtain ⟨xa, xm, xc, rfl, _⟩ := hx.form
    have b0 := balloc w (.cells #[.int .i64 (P : Int), .int .i64 (K : Int), .slice fa fn fc] 24)
    have hbx := fl_box (P : Int) (K : Int) (.slice fa fn fc) w
    have C0 := fact_any (w.alloc (.cells #[.int .i64 (P : Int), .int .i64 (K : Int), .slice fa fn fc] 24)) (hT.below b0)
    obtain ⟨w0, Hw0⟩ : ∃ w0, Hid (w.alloc (.cells #[.int .i64 (P : Int), .int .i64 (K : Int), .slice fa fn fc] 24) = w0) := ⟨_, rfl⟩
    rw [Hw0.out] at b0 hbx C0
    have HBX : Hid (∀ W, Below w0.heap.size w0 W → W.cell? ⟨w.heap.size, 0, none⟩ = some (.int .i64 (P : Int)) ∧ W.cell? ⟨w.heap.size, 1, none⟩ = some (.int .i64 (K : Int)) ∧ W.cell? ⟨w.heap.size, 2, none⟩ = some (.slice fa fn fc)) := hbx
    have HB0 : Hid (∀ W, Below w0.heap.size w0 W → Below w.heap.size w W) := fun W b => Below.next b0 b
    clear hbx hT hF hu hx hA hfq zA zB hf HMe
    go_enter Tryd.func6, Tryd.ntmps6
    go_wp2_with (first
      | (go_at_call 22; rw [Hw0.out]; refine C0.mono ?_; rintro e w1 ⟨rfl, b1⟩; clear C0; obtain ⟨y0, y1, y2⟩ := HBX.out w1 b1; have E1 := D1 w1 (HB0.out w1 b1); clear D1)
      | (go_at_call 10; refine E1.mono ?_; rintro e w2 ⟨⟨r1, X, rfl, hX, hr1⟩, b2⟩; obtain ⟨aa, am, ac, rfl, Ham⟩ := rw_formH hr1; clear E1 y0 y1 y2; have q2 := Below.next b1 b2; obtain ⟨y0, y1, y2⟩ := HBX.out w2 q2; have E2 := HNo.out w2 _ A (HB0.out w2 q2) (HUr.out w2 (HB0.out w2 q2)) HA.out hAl)
      | (go_at_call 11; refine E2.mono ?_; rintro e w3 ⟨⟨r2, U, rfl, hU, hr2⟩, b3⟩; obtain ⟨ba, bm, bc, rfl, Hbm⟩ := rw_formH hr2; clear E2 y0 y1 y2; have q3 := Below.next q2 b3; obtain ⟨y0, y1, y2⟩ := HBX.out w3 q3; have lU := rref_le hU.rref; have E3 := HNo.out w3 _ U (HB0.out w3 q3) hr2 hU.rref.rws (by omega))
      | (go_at_call 11; refine E3.mono ?_; rintro e w4 ⟨⟨r3, Y, rfl, hY, hr3⟩, b4⟩; obtain rfl := HTw.out X U Y hX hU hY; obtain ⟨ca, cm, cc, rfl, Hcm⟩ := rw_formH hr3; clear E3 y0 y1 y2; have q4 := Below.next q3 b4; obtain ⟨y0, y1, y2⟩ := HBX.out w4 q4; have E4 := lists_same hr3 (hr1.below (Below.next b3 b4)) hX.rref h6; have hsum := HLen.out Y U hX hU; rw [Hbm.out, Ham.out] at hsum; have lX := rref_le hX.rref; rw [Ham.out] at lX; have lU2 := lU; rw [Hbm.out] at lU2; have hsi : ((bm : Int) + (am : Int) != (n : Int)) = false := (by rw [bne_eq_false_iff_eq]; omega); clear hsum)
      | (go_at_call 15; refine E4.mono ?_; rintro e w5 ⟨rfl, b5⟩; clear E4 y0 y1 y2; have q5 := Below.next q4 b5; obtain ⟨y0, y1, y2⟩ := HBX.out w5 q5; have E5 := D3 w5 (HB0.out w5 q5); clear D3)
      | (go_at_call 11; refine E5.mono ?_; rintro e w6 ⟨rfl, b6⟩; clear E5; have q6 := Below.next q5 b6))
    go_ret
    exact ⟨rfl, HB0.out _ q6⟩
theorem law6_any (p k n : Int) (l : List Int) (rs ss : List (List Int)) (v u x : Value) (w : World) (hT : Fd.Tab w) (hl : Fd.Sl w v l) (hll : l.length ≤ maxLen) (hu : RwC w u rs) (hx : RwC w x ss) :
    Calls Tryd.prog 6 #[.agg #[.int .i64 p, .int .i64 k, v], .int .i64 n, u, x] w fun e w' => e = .returned (.bool true) ∧ Below w.heap.size w w' := by
  have hv : ∃ a m c, v = .slice a m c := by obtain ⟨a, c, e, _⟩ := hl; exact ⟨a, _, c, e⟩
  have hu' : ∃ a m c, u = .slice a m c := by obtain ⟨a, m, c, e, _⟩ := hu.form; exact ⟨a, m, c, e⟩
  have hx' : ∃ a m c, x = .slice a m c := by obtain ⟨a, m, c, e, _⟩ := hx.form; exact ⟨a, m, c, e⟩
  rcases room_cases p k l n with ⟨z, hz⟩ | ⟨P, K, N, rfl, rfl, rfl, hG, h1, h6, hf⟩
  · exact law6_err p k n z v u x w hT hv hu' hx' (fun W b => (Basis_err p k n z v u rs undef W hv (hu.below b) (hz.op (hT.below b) (hl.below b) hll _ _ _) hz.ne).mono fun e w' ⟨h, b'⟩ => ⟨⟨_, _, _, h⟩, b'⟩) hz.ne
  · have hF : Fld P K l v w := ⟨hT, hl, hll, hG⟩
    by_cases h0 : rsE (P ^ K) N rs = 0
    · obtain ⟨A, rfl, hA, hAl⟩ := rs_nat h0
      exact law6_ok P K N l v u x A ss w hF hu.rw hA hAl hx h1 h6 hf
    · exact law6_err P K N (rsE (P ^ K) N rs) v u x w hT hv hu' hx' (fun W b => (Basis_err P K N _ v u rs _ W hv (hu.below b) (opc_rows (hF.below b) h1 h6 hf _ _ (by simp) (lsE_one rs)) (by omega)).mono fun e w' ⟨h, b'⟩ => ⟨⟨_, _, _, h⟩, b'⟩) (by omega)
end Go.Proofs.YtgdkfbgehbdkjaaDoor
