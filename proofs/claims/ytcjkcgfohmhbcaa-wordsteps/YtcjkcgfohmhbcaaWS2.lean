/- The law WordSteps over the contracts. -/
import Derived.Test.YtcjkcgfohmhbcaaWS1
namespace Go.Proofs.Ytcjkcgfohmhbcaa
open Go.RowKit

set_option maxRecDepth 100000 in
set_option maxHeartbeats 16000000 in
theorem Steps_law (FB : FBruijn) (FP : FPrimes) (FG : FGray) (FL : FPlace) (nn : Int) (w : World) :
    Calls Try.prog 7 #[.int .i64 nn] w fun e w' => e = .returned (.bool true) ∧ Below w.heap.size w w' := by
  have D26 := wordFact_any FB FP w
  have H9 : Hid (∀ W, Calls Try.prog 9 #[.int .i64 nn] W fun e w' => (∃ y, e = .returned (.tuple #[y, .int .i64 (grE nn : Int)]) ∧ Wd w' y (grZ nn)) ∧ Below W.heap.size W w') := fun W => FG nn W
  have hB : Below w.heap.size w w := Below.refl _ _
  by_cases hb : nn < 0 ∨ 12 < nn
  · have e1 : grE nn = 1 := by unfold grE; rw [if_pos hb]
    rw [e1] at H9
    clear e1 hb
    go_enter Try.func7, Try.ntmps7
    go_wp2_with (first
      | (go_at_call 26; refine D26.mono ?_; rintro e wa ⟨rfl, bb⟩; clear D26; replace hB := hB.trans (bb.mono hB.size); have D9 := H9.out wa)
      | (go_at_call 9; refine D9.mono ?_; rintro e wb ⟨⟨y1, rfl, hy1⟩, bb⟩; clear D9; replace hB := hB.trans (bb.mono hB.size); clear hy1)
      | go_in)
    go_ret
    exact ⟨rfl, hB⟩
  · obtain ⟨n, rfl⟩ : ∃ n : Nat, nn = n := ⟨nn.toNat, by omega⟩
    have hn : n ≤ 12 := by omega
    have e1 : grE (n : Int) = 0 := by unfold grE; rw [if_neg hb]
    have e2 : grZ (n : Int) = grL n := by unfold grZ; rw [if_neg hb, Int.toNat_natCast]
    rw [e1, e2] at H9
    have HST : Hid (∀ i, i < 2 ^ n → okB ((grL n).getD i 0 ^^^ (grL n).getD ((i + 1) % 2 ^ n) 0) = true ∨ n = 0 ∧ (grL n).getD i 0 ^^^ (grL n).getD ((i + 1) % 2 ^ n) 0 = 0) := fun i hi => gray_step hn hi
    have HPL : Hid (∀ i, i < 2 ^ n → ∀ W, Calls Try.prog 12 #[.int .i64 (n : Int), .int .i64 ((grL n).getD i 0 : Nat)] W fun e w' => e = .returned (.tuple #[.int .i64 (i : Int), .int .i64 0]) ∧ Below W.heap.size W w') := fun i hi W => by
      have := FL (n : Int) ((grL n).getD i 0 : Nat) W
      obtain ⟨h1, h2⟩ := pl_at_gray hn hi
      rw [h1, h2] at this
      exact this
    have HNO : Hid (∀ i, i < 2 ^ n → ((grL n).take i).contains ((grL n).getD i 0) = false) := fun i hi => take_no hi
    have HTS : Hid (∀ i, i < 2 ^ n → updV (fun x => ((grL n).take i).contains x) ((grL n).getD i 0) true = fun x => ((grL n).take (i + 1)).contains x) := fun i hi => take_set hi
    have HLT : Hid (∀ i, i < 2 ^ n → (grL n).getD i 0 < 2 ^ n) := fun i hi => by
      have hil : i < (grL n).length := by rw [grL_len]; exact hi
      rw [List.getD_eq_getElem?_getD, List.getElem?_eq_getElem hil]
      exact grL_lt n _ (List.getElem_mem hil)
    have hN : 2 ^ n ≤ 4096 := Nat.le_trans (Nat.pow_le_pow_right (n := 2) (by decide) hn) (by decide)
    have hN1 : 1 ≤ 2 ^ n := Nat.one_le_two_pow
    have HLN : Hid ((grL n).length = 2 ^ n) := grL_len n
    obtain ⟨L, HL⟩ : ∃ L, Hid (grL n = L) := ⟨_, rfl⟩
    obtain ⟨N, HN⟩ : ∃ N : Nat, Hid (2 ^ n = N) := ⟨_, rfl⟩
    rw [HL.out] at H9 HST HPL HNO HTS HLT HLN
    rw [HN.out] at HST HPL HNO HTS HLT HLN hN hN1
    have hmk : ∀ w : World, (Instr.makeSlice 44 (.int .i64 (N : Int)) (.int .i64 (N : Int))).run Try.prog w = .ok (.slice (some ⟨w.heap.size, 0, none⟩) N N) (w.alloc (.cells (madeCells #[.bool false] N) 4)) := fun w => run_makeB N (by omega) w
    clear e1 e2 hb
    go_enter Try.func7, Try.ntmps7
    go_wp2_with (first
      | (go_at_call 26; refine D26.mono ?_; rintro e wa ⟨rfl, bb⟩; clear D26; replace hB := hB.trans (bb.mono hB.size); have D9 := H9.out wa)
      | (go_at_call 9; refine D9.mono ?_; rintro e wb ⟨⟨y1, rfl, hy1⟩, bb⟩; clear D9; replace hB := hB.trans (bb.mono hB.size); obtain ⟨ya, yo, yc, rfl, -⟩ := hy1.some (by rw [HLN.out]; omega); rw [HLN.out] at hy1 ⊢; have hO0 := OwV.made (t := 4) (en := Value.bool) N wb (fun x => (L.take 0).contains x) (.bool false) (by intro j; simp); have hB0 := balloc wb (.cells (madeCells #[.bool false] N) 4))
      | go_in)
    go_loopw [7] (fun iv wr => ∃ i : Nat, iv = .int .i64 (i : Int) ∧ i ≤ N ∧ OwV 4 Value.bool wr wb.heap.size N (fun x => (L.take i).contains x) ∧ Below wb.heap.size wb wr) (fun iv _ => (N - intOf iv).toNat)
    case atStart => exact ⟨0, rfl, by omega, hO0, hB0⟩
    case round =>
      clear hO0 hB0 hmk
      obtain ⟨i, rfl, hi, hO, hB2⟩ := hrel
      have hB3 := hB.trans (hB2.mono hB.size)
      have hgl := hO.lt
      by_cases hlt : i < N
      · have hdi : decide ((i : Int) < (N : Int)) = true := by simp; omega
        have hii : (i : Int) < (N : Int) := by omega
        have hi0 : (0 : Int) ≤ (i : Int) := by omega
        have hiw : IntKind.i64.wrap ((i : Int) + 1) = (i : Int) + 1 := IntWalk.i64_in _ (by omega)
        obtain ⟨j, Hj⟩ : ∃ j, Hid ((i + 1) % N = j) := ⟨_, rfl⟩
        have hjN : j < N := by rw [← Hj.out]; exact Nat.mod_lt _ (by omega)
        have ej : ((i : Int) + 1).tmod (N : Int) = (j : Int) := by rw [← Hj.out]; rfl
        have hjw : IntKind.i64.wrap (j : Int) = (j : Int) := IntWalk.i64_in _ (by omega)
        have hji : (j : Int) < (N : Int) := by omega
        have hj0 : (0 : Int) ≤ (j : Int) := by omega
        have hN0 : ¬ N = 0 := by omega
        have hy2 := hy1.below hB2
        have cx := hy2.cellAt hlt
        have cy := hy2.cellAt hjN
        have hst := HST.out i hlt
        have hpl := HPL.out i hlt
        have hno := HNO.out i hlt
        have hts := HTS.out i hlt
        have hxN := HLT.out i hlt
        have hyN := HLT.out j hjN
        rw [Hj.out] at hst
        obtain ⟨x, Hx⟩ : ∃ x, Hid (L.getD i 0 = x) := ⟨_, rfl⟩
        obtain ⟨y, Hy⟩ : ∃ y, Hid (L.getD j 0 = y) := ⟨_, rfl⟩
        rw [Hx.out] at cx hst hpl hno hts hxN
        rw [Hy.out] at cy hst hyN
        have exy := xorS (a := x) (b := y) (by omega) (by omega)
        obtain ⟨d, Hd⟩ : ∃ d, Hid (x ^^^ y = d) := ⟨_, rfl⟩
        have hd4 : d < 4096 := by rw [← Hd.out]; exact Nat.xor_lt_two_pow (n := 12) (by omega) (by omega)
        rw [Hd.out] at exy hst
        have had := and_less hd4 (hst.elim Or.inl fun h => Or.inr h.2)
        have hdw : IntKind.i64.wrap ((d : Int) - 1) = (d : Int) - 1 := IntWalk.i64_in _ (by omega)
        have cs := hO.cell x hxN
        rw [hno] at cs
        have hfz := hO.frozen x
        have hO2 := hO.set x true
        rw [hts] at hO2
        have hxi : (x : Int) < (N : Int) := by omega
        have hx0 : (0 : Int) ≤ (x : Int) := by omega
        have dx1 : decide ((x : Int) < 0) = false := by simp
        have dx2 : decide ((N : Int) ≤ (x : Int)) = false := by simp; omega
        have HX2 : Hid (∀ W, Below wb.heap.size wb W → W.cell? ⟨ya, yo + i, none⟩ = some (.int .i64 (x : Int))) := fun W bW => by
          have := (hy1.below bW).cellAt hlt
          rw [Hx.out] at this
          exact this
        have HD : Hid (((d : Int) == 0) = false ∧ True ∨ d = 0 ∧ decide ((0 : Int) < (n : Int)) = false) := by
          rcases hst with h | h
          · left
            unfold okB at h
            rw [Bool.and_eq_true] at h
            have : d ≠ 0 := by simpa using h.1
            refine ⟨?_, trivial⟩
            simp; omega
          · right; refine ⟨by omega, by simp; omega⟩
        clear hno hts hst hO hy2
        have hB4 : Below wb.heap.size wb (wr.setCell ⟨wb.heap.size, x, none⟩ (.bool true)) := hB2.setCell (Nat.le_refl _) _
        have hcx4 := HX2.out _ hB4
        have hO4 : OwV 4 Value.bool (wr.setCell ⟨wb.heap.size, x, none⟩ (.bool true)).drew wb.heap.size N (fun x => (L.take (i + 1)).contains x) := hO2
        have hgl4 : wb.heap.size < (wr.setCell ⟨wb.heap.size, x, none⟩ (.bool true)).drew.heap.size := hO4.lt
        rcases HD.out with ⟨hd0, hd1⟩ | ⟨hd0, hd1⟩
        · clear hd1
          go_wp2
          go_region_held3 (fun W : World => W.cell? ⟨ya, yo + i, none⟩ = some (.int .i64 (x : Int)) ∧ W.cell? ⟨ya, yo + j, none⟩ = some (.int .i64 (y : Int))) (first | assumption | exact ⟨cx, cy⟩) (fail)
          go_wp2_with (first
            | (go_at_call 12; refine (hpl _).mono ?_; rintro e w5 ⟨rfl, b5⟩; have hO5 := hO4.low b5 hgl4; have hB5 := hB4.drew.trans (b5.mono hB4.drew.size))
            | go_in)
          go_roundw
          case rel => exact ⟨i + 1, by go_num, by omega, hO5, hB5⟩
          case measure => simp [intOf]; omega
        · subst hd0
          have hnp : ¬ 0 < n := by intro h; have := of_decide_eq_false hd1; omega
          have had0 : bits .and .i64 0 (-1) = 0 := by decide +kernel
          have hdw0 : IntKind.i64.wrap (-1) = -1 := by decide +kernel
          clear had hdw
          go_wp2
          go_region_held3 (fun W : World => W.cell? ⟨ya, yo + i, none⟩ = some (.int .i64 (x : Int)) ∧ W.cell? ⟨ya, yo + j, none⟩ = some (.int .i64 (y : Int))) (first | assumption | exact ⟨cx, cy⟩) (fail)
          go_wp2_with (first
            | (go_at_call 12; refine (hpl _).mono ?_; rintro e w5 ⟨rfl, b5⟩; have hO5 := hO4.low b5 hgl4; have hB5 := hB4.drew.trans (b5.mono hB4.drew.size))
            | go_in)
          go_roundw
          case rel => exact ⟨i + 1, by go_num, by omega, hO5, hB5⟩
          case measure => simp [intOf]; omega
      · have hdi : decide ((i : Int) < (N : Int)) = false := by simp; omega
        go_wp2
        go_ret
        exact ⟨rfl, hB3⟩
end Go.Proofs.Ytcjkcgfohmhbcaa
