/- ArrayDual, the law. -/
import Derived.Test.YtjfjdidibglhaabDoorDu1
import Derived.Test.YtjfjdidibglhaabDoorA10
import Derived.Test.YtjfjdidibglhaabDoorM3
namespace Go.Proofs.YtjfjdidibglhaabDoor
open Go.RowKit

theorem rw_sl {w : World} {x : Value} {ls : List (List Int)} (h : Rw w x ls) : ∃ a m c, x = .slice a m c := by
  obtain ⟨a, c, e, _⟩ := h
  exact ⟨a, _, c, e⟩
set_option maxRecDepth 100000 in
set_option maxHeartbeats 16000000 in
theorem dual_err (p k n z : Int) (v u : Value) (w : World) (hv : ∃ a m c, v = .slice a m c) (hu : ∃ a m c, u = .slice a m c) (h0 : z ≠ 0)
    (h7 : ∀ W, Below w.heap.size w W → Calls Tryd.prog 7 #[.agg #[.int .i64 p, .int .i64 k, v], .int .i64 n, u] W fun e w' => (∃ y, e = .returned (.tuple #[y, .int .i64 z]) ∧ ∃ a m c, y = .slice a m c) ∧ Below W.heap.size W w') :
    Calls Tryd.prog 3 #[.agg #[.int .i64 p, .int .i64 k, v], .int .i64 n, u] w fun e w' => e = .returned (.bool true) ∧ Below w.heap.size w w' := by
  obtain ⟨fa, fn, fc, rfl⟩ := hv
  obtain ⟨ua, um, uc, rfl⟩ := hu
  have b1 := balloc w (.cells #[.int .i64 p, .int .i64 k, .slice fa fn fc] 24)
  have HX := fl_box p k (.slice fa fn fc) w
  obtain ⟨w0, Hw0⟩ : ∃ w0, Hid (w.alloc (.cells #[.int .i64 p, .int .i64 k, .slice fa fn fc] 24) = w0) := ⟨_, rfl⟩
  rw [Hw0.out] at b1 HX
  have HX2 : Hid (∀ W, Below w0.heap.size w0 W → (W.cell? ⟨w.heap.size, 0, none⟩ = some (.int .i64 p) ∧ W.cell? ⟨w.heap.size, 1, none⟩ = some (.int .i64 k) ∧ W.cell? ⟨w.heap.size, 2, none⟩ = some (.slice fa fn fc))) := HX
  clear HX
  have h00 : (z != 0) = true := by simpa using h0
  have C6 := arrayFact_any w0
  go_enter Tryd.func3, Tryd.ntmps3
  go_wp2_with (first
    | (go_at_call 6; rw [Hw0.out]; refine C6.mono ?_; rintro e w1 ⟨rfl, b2⟩; clear C6; obtain ⟨x0, x1, x2⟩ := HX2.out w1 b2; have hB2 := Below.next b1 b2; have C7 := h7 w1 hB2; clear h7)
    | (go_at_call 7; refine C7.mono ?_; rintro e w2 ⟨⟨y, rfl, ya, ym, yc, rfl⟩, b3⟩; clear C7))
  go_ret
  exact ⟨rfl, Below.next hB2 b3⟩
set_option maxRecDepth 100000 in
set_option maxHeartbeats 16000000 in
theorem dual_ok (p k : Int) (n q N : Nat) (v u : Value) (LS : List (List Int)) (T : Nat → Prop) (Z : Value → World → Prop) (U : (Nat → Bool) → Prop) (w : World) (hv : ∃ a m c, v = .slice a m c) (hu : ∃ a m c, u = .slice a m c) (hn : n ≤ 6) (hN : N ≤ 4096) (hN1 : 1 ≤ N)
    (h7 : ∀ W, Below w.heap.size w W → Calls Tryd.prog 7 #[.agg #[.int .i64 p, .int .i64 k, v], .int .i64 (n : Int), u] W fun e w' => (∃ y, e = .returned (.tuple #[y, .int .i64 0]) ∧ Rw w' y LS) ∧ Below W.heap.size W w')
    (h8 : ∀ W, Below w.heap.size w W → Calls Tryd.prog 8 #[.agg #[.int .i64 p, .int .i64 k, v]] W fun e w' => e = .returned (.int .i64 (q : Int)) ∧ Below W.heap.size W w')
    (h9 : ∀ W y, Rw W y LS → Calls Tryd.prog 9 #[.int .i64 (q : Int), y] W fun e w' => (∃ t : Nat, e = .returned (.tuple #[.int .i64 (t : Int), .int .i64 0]) ∧ T t) ∧ Below W.heap.size W w')
    (h10 : ∀ W, Below w.heap.size w W → Calls Tryd.prog 10 #[.agg #[.int .i64 p, .int .i64 k, v], .int .i64 (n : Int), u] W fun e w' => (∃ y, e = .returned (.tuple #[y, .int .i64 0]) ∧ (∃ a m c, y = .slice a m c) ∧ Z y w') ∧ Below W.heap.size W w')
    (h11 : ∀ W y, Below w.heap.size w W → Z y W → Calls Tryd.prog 11 #[.agg #[.int .i64 p, .int .i64 k, v], .int .i64 (n : Int), y] W fun e w' => (∃ g V, e = .returned (.slice (some ⟨g, 0, none⟩) N N) ∧ OwnB w' g N V ∧ U V) ∧ Below W.heap.size W w')
    (h12 : ∀ W (c : Nat), Below w.heap.size w W → c < N → Calls Tryd.prog 12 #[.agg #[.int .i64 p, .int .i64 k, v], .int .i64 (n : Int), .int .i64 (c : Int)] W fun e w' => (∃ g, e = .returned (.slice (some ⟨g, 0, none⟩) n n) ∧ OwnN w' g n (fun i => (opn q n c).getD i 0)) ∧ Below W.heap.size W w')
    (hE : ∀ t V m, T t → U V → LeW q n V N m → t = m - 1 ∧ 1 ≤ m ∧ m ≤ n + 1) :
    Calls Tryd.prog 3 #[.agg #[.int .i64 p, .int .i64 k, v], .int .i64 (n : Int), u] w fun e w' => e = .returned (.bool true) ∧ Below w.heap.size w w' := by
  obtain ⟨fa, fn, fc, rfl⟩ := hv
  obtain ⟨ua, um, uc, rfl⟩ := hu
  have b1 := balloc w (.cells #[.int .i64 p, .int .i64 k, .slice fa fn fc] 24)
  have HX := fl_box p k (.slice fa fn fc) w
  obtain ⟨w0, Hw0⟩ : ∃ w0, Hid (w.alloc (.cells #[.int .i64 p, .int .i64 k, .slice fa fn fc] 24) = w0) := ⟨_, rfl⟩
  rw [Hw0.out] at b1 HX
  have HX2 : Hid (∀ W, Below w0.heap.size w0 W → (W.cell? ⟨w.heap.size, 0, none⟩ = some (.int .i64 p) ∧ W.cell? ⟨w.heap.size, 1, none⟩ = some (.int .i64 k) ∧ W.cell? ⟨w.heap.size, 2, none⟩ = some (.slice fa fn fc))) := HX
  have HB0 : Hid (∀ W, Below w0.heap.size w0 W → Below w.heap.size w W) := fun W b => Below.next b1 b
  have H9 : Hid (∀ W y, Rw W y LS → Calls Tryd.prog 9 #[.int .i64 (q : Int), y] W fun e w' => (∃ t : Nat, e = .returned (.tuple #[.int .i64 (t : Int), .int .i64 0]) ∧ T t) ∧ Below W.heap.size W w') := h9
  have H11 : Hid (∀ W y, Below w.heap.size w W → Z y W → Calls Tryd.prog 11 #[.agg #[.int .i64 p, .int .i64 k, .slice fa fn fc], .int .i64 (n : Int), y] W fun e w' => (∃ g V, e = .returned (.slice (some ⟨g, 0, none⟩) N N) ∧ OwnB w' g N V ∧ U V) ∧ Below W.heap.size W w') := h11
  have H12 : Hid (∀ W (c : Nat), Below w.heap.size w W → c < N → Calls Tryd.prog 12 #[.agg #[.int .i64 p, .int .i64 k, .slice fa fn fc], .int .i64 (n : Int), .int .i64 (c : Int)] W fun e w' => (∃ g, e = .returned (.slice (some ⟨g, 0, none⟩) n n) ∧ OwnN w' g n (fun i => (opn q n c).getD i 0)) ∧ Below W.heap.size W w') := h12
  have HE : Hid (∀ t V m, T t → U V → LeW q n V N m → t = m - 1 ∧ 1 ≤ m ∧ m ≤ n + 1) := hE
  have H7 : Hid _ := h7
  have H8 : Hid _ := h8
  have H10 : Hid _ := h10
  have C6 := arrayFact_any w0
  clear HX h7 h8 h9 h10 h11 h12 hE b1
  go_enter Tryd.func3, Tryd.ntmps3
  go_wp2_with (first
    | (go_at_call 6; rw [Hw0.out]; refine C6.mono ?_; rintro e w1 ⟨rfl, b1⟩; clear C6; obtain ⟨x0, x1, x2⟩ := HX2.out w1 b1; have C7 := H7.out w1 (HB0.out w1 b1); clear H7)
    | (go_at_call 7; refine C7.mono ?_; rintro e w2 ⟨⟨y, rfl, hy⟩, b2⟩; clear C7 x0 x1 x2; obtain ⟨ya, ym, yc, rfl⟩ := rw_sl hy; replace b2 := Below.next b1 b2; clear b1; obtain ⟨x0, x1, x2⟩ := HX2.out w2 b2; have C8 := H8.out w2 (HB0.out w2 b2); clear H8)
    | (go_at_call 8; refine C8.mono ?_; rintro e w3 ⟨rfl, b3⟩; clear C8 x0 x1 x2; have C9 := H9.out w3 _ (hy.below b3); clear H9; replace b3 := Below.next b2 b3; clear hy b2)
    | (go_at_call 9; refine C9.mono ?_; rintro e w4 ⟨⟨t, rfl, hT⟩, b4⟩; clear C9; replace b4 := Below.next b3 b4; clear b3; obtain ⟨x0, x1, x2⟩ := HX2.out w4 b4; have C10 := H10.out w4 (HB0.out w4 b4); clear H10)
    | (go_at_call 10; refine C10.mono ?_; rintro e w5 ⟨⟨z, rfl, ⟨za, zm, zc, rfl⟩, hZ⟩, b5⟩; clear C10 x0 x1 x2; replace b5 := Below.next b4 b5; clear b4; obtain ⟨x0, x1, x2⟩ := HX2.out w5 b5; have C11 := H11.out w5 _ (HB0.out w5 b5) hZ; clear H11 hZ)
    | (go_at_call 11; refine C11.mono ?_; rintro e w6 ⟨⟨g, V, rfl, hV, hU⟩, b6⟩; clear C11 x0 x1 x2; replace b6 := Below.next b5 b6; clear b5))
  have HV : Hid (∀ W, Below w6.heap.size w6 W → OwnB W g N V) := fun W b => hV.below b
  have HE2 : Hid (∀ m, LeW q n V N m → t = m - 1 ∧ 1 ≤ m ∧ m ≤ n + 1) := fun m h => HE.out t V m hT hU h
  have HS : Hid (LeW q n V 1 (n + 1)) := leW_start q n V
  clear hV HE hT hU
  go_loopw [15, 16] (fun lv cv wr => ∃ c m : Nat, lv = .int .i64 (m : Int) ∧ cv = .int .i64 (c : Int) ∧ 1 ≤ c ∧ c ≤ N ∧ m ≤ n + 1 ∧ Hid (LeW q n V c m) ∧ Below w6.heap.size w6 wr) (fun _ cv _ => (N - intOf cv).toNat)
  case atStart => exact ⟨1, n + 1, by go_num, rfl, by omega, hN1, by omega, HS, Below.refl _ _⟩
  case round =>
    obtain ⟨c, m, rfl, rfl, h1, hc, hm, HL, hB⟩ := hrel
    by_cases hlt : c < N
    · have hdc : decide ((c : Int) < (N : Int)) = true := by simp; omega
      have hci : (c : Int) < (N : Int) := by omega
      have hBB := Below.next b6 hB
      have hcell := (HV.out wr hB).cell hlt
      cases hq : V c with
      | false =>
        have HL2 : Hid (LeW q n V (c + 1) m) := HL.out.skip hq
        rw [hq] at hcell
        clear hq
        go_wp2
        go_roundw
        case rel => exact ⟨c + 1, m, rfl, by go_num, by omega, by omega, hm, HL2, hB⟩
        case measure => simp [intOf]; omega
      | true =>
        have HLs : Hid (∀ x, wtV n (opn q n c) = x → x < m → LeW q n V (c + 1) x) := fun x e h => by rw [← e]; exact HL.out.less h1 hq (by omega)
        have HLm : Hid (∀ x, wtV n (opn q n c) = x → ¬ x < m → LeW q n V (c + 1) m) := fun x e h => HL.out.more (by omega)
        rw [hq] at hcell
        obtain ⟨x0, x1, x2⟩ := HX2.out wr hBB
        have C12 := H12.out wr c (HB0.out wr hBB) hlt
        have HWS : Hid (∀ i, wtV (i + 1) (opn q n c) = wtV i (opn q n c) + if (opn q n c).getD i 0 = 0 then 0 else 1) := fun i => wt_step i _
        obtain ⟨f, Hf⟩ : ∃ f : Nat → Nat, Hid (∀ i, (opn q n c).getD i 0 = f i) := ⟨fun i => (opn q n c).getD i 0, fun i => rfl⟩
        simp only [Hf.out] at C12 HWS
        obtain ⟨T0, HT0⟩ : ∃ T0 : Nat → Nat, Hid (∀ i, wtV i (opn q n c) = T0 i) := ⟨fun i => wtV i (opn q n c), fun i => rfl⟩
        have H00 : Hid (T0 0 = 0) := by show _ = _; rw [← HT0.out]; rfl
        have HTn : Hid (∀ i, T0 i ≤ i) := fun i => by rw [← HT0.out]; exact wt_le i _
        simp only [HT0.out] at HLs HLm HWS
        obtain ⟨wz, hwz⟩ : ∃ wz : World, wz = wr := ⟨_, rfl⟩
        subst hwz
        clear hq HL Hf HT0
        go_wp2_with (go_at_call 12; refine C12.mono ?_; rintro e w7 ⟨⟨gv, rfl, hv⟩, b7⟩; clear C12 x0 x1 x2 hcell)
        have hB7 := Below.next hB b7
        go_loopw [18, 19] (fun sv iv wr' => ∃ i s : Nat, sv = .int .i64 (s : Int) ∧ iv = .int .i64 (i : Int) ∧ i ≤ n ∧ s ≤ i ∧ Hid (T0 i = s) ∧ wr' = w7) (fun _ iv _ => (n - intOf iv).toNat)
        case atStart => exact ⟨0, 0, rfl, rfl, by omega, by omega, H00, rfl⟩
        case round =>
          obtain ⟨i, s, rfl, rfl, hi, hs, Hs, hw⟩ := hrel
          replace hw := hw.symm
          subst hw
          by_cases hli : i < n
          · have hdi : decide ((i : Int) < (n : Int)) = true := by simp; omega
            have hii : (i : Int) < (n : Int) := by omega
            have hcv := hv.cell hli
            have e1 := HWS.out i
            rw [Hs.out] at e1
            obtain ⟨x, Hx⟩ : ∃ x, Hid (f i = x) := ⟨_, rfl⟩
            rw [Hx.out] at e1 hcv
            by_cases hx0 : x = 0
            · rw [if_pos hx0] at e1
              have HT2 : Hid (T0 (i + 1) = s) := e1
              have hne : ((x : Int) != 0) = false := by simp [hx0]
              clear e1 hx0
              go_wp2
              go_roundw
              case rel => exact ⟨i + 1, s, rfl, by go_num, by omega, by omega, HT2, by first | rfl | trivial⟩
              case measure => simp [intOf]; omega
            · rw [if_neg hx0] at e1
              have HT2 : Hid (T0 (i + 1) = s + 1) := e1
              have hne : ((x : Int) != 0) = true := by simp [hx0]
              clear e1 hx0
              go_wp2
              go_roundw
              case rel => exact ⟨i + 1, s + 1, by go_num, by go_num, by omega, by omega, HT2, by first | rfl | trivial⟩
              case measure => simp [intOf]; omega
          · have hdi : decide ((i : Int) < (n : Int)) = false := by simp; omega
            have hdn : decide (i < n) = false := by simp; omega
            have ein : i = n := by omega
            have Hs2 : Hid (T0 n = s) := by show _ = _; rw [← ein]; exact Hs.out
            have hsn : s ≤ n := by omega
            clear ein hi hs
            by_cases hsm : s < m
            · have hd2 : decide ((s : Int) < (m : Int)) = true := by simp; omega
              have hsi : (s : Int) < (m : Int) := by omega
              have HL2 : Hid (LeW q n V (c + 1) s) := HLs.out s Hs2.out hsm
              go_wp2
              go_roundw
              case rel => exact ⟨c + 1, s, rfl, by go_num, by omega, by omega, by omega, HL2, hB7⟩
              case measure => simp [intOf]; omega
            · have hd2 : decide ((s : Int) < (m : Int)) = false := by simp; omega
              have hd3 : decide (s < m) = false := by simp; omega
              have HL2 : Hid (LeW q n V (c + 1) m) := HLm.out s Hs2.out hsm
              go_wp2
              go_roundw
              case rel => exact ⟨c + 1, m, rfl, by go_num, by omega, by omega, hm, HL2, hB7⟩
              case measure => simp [intOf]; omega
    · have hdc : decide ((c : Int) < (N : Int)) = false := by simp; omega
      have hdn : decide (c < N) = false := by simp; omega
      have ec : c = N := by omega
      have hL := HL.out
      rw [ec] at hL
      obtain ⟨e1, e2, e3⟩ := HE2.out m hL
      have hfin : ((t : Int) == (m : Int) - 1) = true := by simp; omega
      clear ec hL HL e1
      go_wp2
      go_ret
      exact ⟨by first | rfl | simp [hfin], HB0.out _ (Below.next b6 hB)⟩
theorem Dual_law (p k n : Int) (l : List Int) (v u : Value) (rs : List (List Int)) (w : World) (hT : Fd.Tab w) (hl : Fd.Sl w v l) (hll : l.length ≤ maxLen) (hu : RwC w u rs) :
    Calls Tryd.prog 3 #[.agg #[.int .i64 p, .int .i64 k, v], .int .i64 n, u] w fun e w' => e = .returned (.bool true) ∧ Below w.heap.size w w' := by
  have hv : ∃ a m c, v = .slice a m c := by obtain ⟨a, c, e, _⟩ := hl; exact ⟨a, _, c, e⟩
  have hus : ∃ a m c, u = .slice a m c := by obtain ⟨a, m, c, e, _⟩ := hu.form; exact ⟨a, m, c, e⟩
  rcases room_cases p k l n with ⟨z, hz⟩ | ⟨P, K, N, hO⟩
  · refine dual_err p k n z v u w hv hus hz.ne fun W b => ?_
    refine (Linear_err p k n z v u W hv hus hz.ne fun W' b' => ?_).mono fun e w' ⟨h, b⟩ => ⟨⟨_, h, _, _, _, rfl⟩, b⟩
    have bb := Below.next b b'
    exact (Basis_err p k n z v u rs (.int .i64 0) W' hv (hu.below bb) (hz.op (hT.below bb) (hl.below bb) hll [u] [rs] _) hz.ne).mono fun e w' ⟨h, b⟩ => ⟨⟨_, _, _, h⟩, b⟩
  · obtain ⟨rfl, rfl, rfl, hG, h1, h6, hf⟩ := hO
    have hF : Fld P K l v w := ⟨hT, hl, hll, hG⟩
    by_cases h0 : rsE (P ^ K) N rs = 0
    · obtain ⟨S, e, hR, hSl⟩ := rs_nat h0
      subst e
      have hfq := hF.fqr
      have CL : ∀ W, Below w.heap.size w W → Calls Tryd.prog 7 #[.agg #[.int .i64 (P : Int), .int .i64 (K : Int), v], .int .i64 (N : Int), u] W fun e w' => ∃ x, e = .returned (.tuple #[x, .int .i64 (lnZ (P ^ K) (adF P K) (muF P K l) N S : Int)]) ∧ Rw w' x (toZ (lnR (P ^ K) (adF P K) (muF P K l) N S)) ∧ Below W.heap.size W w' := fun W b =>
        Linear_ok P K N l v u S W (hF.below b) h1 h6 hf hus fun W' b' => by
          have bb := Below.next b b'
          have h := Basis_ans (hF.below bb) h1 h6 hf (hu.below bb) (S := S) (fun _ => rfl)
          rw [h0] at h
          exact h
      by_cases hbig : 128 < (lnL (P ^ K) (adF P K) (muF P K l) N S).length
      · have hz : lnZ (P ^ K) (adF P K) (muF P K l) N S = 3 := by unfold lnZ; rw [if_pos hbig]
        rw [hz] at CL
        exact dual_err P K N 3 v u w hv hus (by decide) fun W b => (CL W b).mono fun e w' ⟨x, h, hx, b⟩ => ⟨⟨x, h, rw_sl hx⟩, b⟩
      · have hz : lnZ (P ^ K) (adF P K) (muF P K l) N S = 0 ∧ lnR (P ^ K) (adF P K) (muF P K l) N S = lnL (P ^ K) (adF P K) (muF P K l) N S := by unfold lnZ lnR; rw [if_neg hbig, if_neg hbig]; exact ⟨rfl, rfl⟩
        rw [hz.1, hz.2] at CL
        have hg := good_ln hfq hR hG.le64 h1 h6 (by omega)
        refine dual_ok P K N (P ^ K) ((P ^ K) ^ N) v u (toZ (lnL (P ^ K) (adF P K) (muF P K l) N S)) (StrIs (P ^ K) N (rnL (P ^ K) (adF P K) (muF P K l) N S))
          (fun y W => ∃ M, BasIs (P ^ K) (adF P K) (muF P K l) N (Nrm (P ^ K) (adF P K) (muF P K l) N S) M ∧ Rw W y (toZ M))
          (fun V => ∃ M, BasIs (P ^ K) (adF P K) (muF P K l) N (Nrm (P ^ K) (adF P K) (muF P K l) N S) M ∧ ∀ c, c < (P ^ K) ^ N → (V c = true ↔ Spn (P ^ K) (adF P K) (muF P K l) N M (opn (P ^ K) N c)))
          w hv hus h6 hf (Nat.pow_pos hfq.pos) (fun W b => (CL W b).mono fun e w' ⟨x, h, hx, b⟩ => ⟨⟨x, h, hx⟩, b⟩) (fun W _ => hF.size rfl W) (fun W y hy => ?_) (fun W b => ?_) (fun W y b hZ => ?_) (fun W c b hc => ?_) fun t V m hs hU hL => ?_
        · refine (Strength_ok (P ^ K) N _ y W hy hg).mono ?_
          rintro e w' ⟨⟨t, rfl, hs⟩, b⟩
          rw [rn_tie] at hs
          exact ⟨⟨t, rfl, hs⟩, b⟩
        · refine (Normal_ok P K N l v u S W (hF.below b) (hu.rw.below b) hR hSl h1 h6 (opc_rows (hF.below b) h1 h6 hf _ _ (by simp) (by rw [lsE_one, h0]))).mono ?_
          rintro e w' ⟨⟨y, M, rfl, hM, hy⟩, b'⟩
          exact ⟨⟨y, rfl, rw_sl hy, M, hM, hy⟩, b'⟩
        · obtain ⟨M, hM, hy⟩ := hZ
          refine (Span_any P K N l M v y W (hF.below b) hy hM.rref.rws h1 h6 hf (by have := rref_le hM.rref; omega)).mono ?_
          rintro e w' ⟨g, V, rfl, hV, hVS, b'⟩
          exact ⟨⟨g, V, rfl, hV, M, hM, hVS⟩, b'⟩
        · refine (Open_any P K N c l v W (hF.below b) h6 (by omega)).mono ?_
          rintro e w' ⟨g, rfl, _, hv, b'⟩
          exact ⟨⟨g, rfl, hv⟩, b'⟩
        · obtain ⟨M, hM, hV⟩ := hU
          exact LeW.dual hfq hR hM hV hs hL
    · have hne : ((rsE (P ^ K) N rs : Nat) : Int) ≠ 0 := by omega
      refine dual_err P K N (rsE (P ^ K) N rs : Nat) v u w hv hus hne fun W b => ?_
      refine (Linear_err P K N _ v u W hv hus hne fun W' b' => ?_).mono fun e w' ⟨h, b⟩ => ⟨⟨_, h, _, _, _, rfl⟩, b⟩
      have bb := Below.next b b'
      refine (Basis_ans (hF.below bb) h1 h6 hf (hu.below bb) (S := []) (fun h => absurd h h0)).mono ?_
      rintro e w' ⟨⟨a, m, c, rfl, _⟩, b⟩
      exact ⟨⟨_, _, _, rfl⟩, b⟩
end Go.Proofs.YtjfjdidibglhaabDoor
