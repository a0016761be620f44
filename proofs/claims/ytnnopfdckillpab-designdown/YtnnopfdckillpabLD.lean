/- The law DesignDown. -/
import Derived.Test.YtnnopfdckillpabLFi
namespace Go.Proofs.Ytnnopfdckillpab
open Go.RowKit

theorem down_ok {v j k l : Nat} {B : List (List Nat)} (G : GoodD v B) (h : LvOk v B (j + 1) k l) (hj : j + 1 ≤ v) (hk : j + 1 ≤ k) : ∃ m, LvOk v B j k m ∧ m * (k - j) = l * (v - j) := by
  obtain ⟨m, h1, h2⟩ := lev_down G.bls h.2.1 hj hk h.2.2
  exact ⟨m, ⟨h.1, h.2.1, h1⟩, h2⟩
theorem down_zero {v k l : Nat} {B : List (List Nat)} (h : LvOk v B 0 k l) : l = B.length := by
  have := h.2.2 [] (Pts.nil v) rfl
  rw [nb_nil] at this
  exact this.symm
theorem lvok_few {v j k l : Nat} {B : List (List Nat)} (G : GoodD v B) (hj : j ≤ v) (h : LvOk v B j k l) : l ≤ 200 ∧ k ≤ 40 := by
  have h1 := h.2.2 _ (range_pts hj) (by simp)
  have h2 : nb B (List.range j) ≤ B.length := List.countP_le_length
  have h3 := G.few
  obtain ⟨b, hb⟩ := List.exists_mem_of_ne_nil _ h.1
  have h4 := h.2.1 b hb
  have h5 := G.len hb
  omega

set_option maxRecDepth 100000 in
set_option maxHeartbeats 8000000 in
theorem Down_main (v t : Nat) (B : List (List Nat)) (u : Value) (w : World) (G : GoodD v B) (hu : Rw w u (toZ B)) (h4 : t ≤ 4) (htv : t ≤ v) :
    Calls Try.prog 3 #[.agg #[.int .i64 (v : Int), u], .int .i64 (t : Int)] w fun e w' => e = .returned (.bool true) ∧ Below w.heap.size w w' := by
  have HC : Hid (∀ W, Below (w.alloc (.cells #[.int .i64 (v : Int), u] 24)).heap.size (w.alloc (.cells #[.int .i64 (v : Int), u] 24)) W → W.cell? ⟨w.heap.size, 0, none⟩ = some (.int .i64 (v : Int)) ∧ W.cell? ⟨w.heap.size, 1, none⟩ = some u) := des_box v u w
  obtain ⟨w0, Hw0⟩ : ∃ w0, Hid (w0 = w.alloc (.cells #[.int .i64 (v : Int), u] 24)) := ⟨_, rfl⟩
  rw [← Hw0.out] at HC
  have hb0 : Below w.heap.size w w0 := by rw [Hw0.out]; exact balloc _ _
  have hb0' : Hid (Below w.heap.size w w0) := hb0
  have C1 := fact_any w0
  have C3 : Hid (∀ (j : Nat) W, Below w0.heap.size w0 W → Calls Try.prog 5 #[.agg #[.int .i64 (v : Int), u], .int .i64 (j : Int)] W fun e w' => LvT v B (j : Int) e ∧ Below W.heap.size W w') := fun j W hW => Level_any v j B u W G (hu.below (Below.next hb0 hW))
  have C4 : Hid (∀ (j k l : Nat) W, Below w0.heap.size w0 W → j ≤ v → j ≤ 4 → LvOk v B j k l → Calls Try.prog 5 #[.agg #[.int .i64 (v : Int), u], .int .i64 (j : Int)] W fun e w' => e = .returned (.tuple #[.int .i64 (k : Int), .int .i64 (l : Int), .int .i64 0]) ∧ Below W.heap.size W w') := fun j k l W hW hj h4 hL => by
    refine (Level_any v j B u W G (hu.below (Below.next hb0 hW))).mono ?_
    rintro e w' ⟨hT, hb⟩
    exact ⟨hT.one (.inr ⟨j, rfl, h4, hj, .inl ⟨k, l, hL, rfl⟩⟩), hb⟩
  have HG : Hid (GoodD v B) := G
  have hv40 := G.le
  have h200 := G.few
  obtain ⟨x0, x1⟩ := HC.out _ (Below.refl _ _)
  rw [Hw0.out] at x0 x1
  obtain ⟨ua, uc, rfl⟩ := rw_form hu
  rw [toZ_len] at *
  have HN : Hid (B.length = B.length) := rfl
  generalize hn : B.length = n at *
  have HN2 : Hid (B.length = n) := hn
  clear hu G hb0 hn HN
  go_enter Try.func3, Try.ntmps3
  go_wp2_with (first
    | (go_at_call 4; rw [← Hw0.out]; refine C1.mono ?_; rintro e w1 ⟨rfl, hb1⟩; clear C1; obtain ⟨y0, y1⟩ := HC.out _ hb1)
    | (go_at_call 5; refine (C3.out t _ hb1).mono ?_; rintro e w3 ⟨hT3, hb3⟩; replace hb3 := Below.next hb1 hb3; obtain ⟨k, l, g, rfl⟩ := lvt_form hT3; have HT3 : Hid (LvT v B (t : Int) (.returned (.tuple #[.int .i64 (k : Int), .int .i64 (l : Int), .int .i64 (g : Int)]))) := hT3; clear hT3; obtain ⟨q0, q1⟩ := HC.out _ hb3))
  · go_ret
    exact ⟨rfl, Below.next hb0'.out hb3⟩
  · have hg : g = 0 := by assumption
    have hkt : ¬ k < t := by assumption
    subst hg
    have HL0 : Hid (LvOk v B t k l) := (lvt_ok HT3.out).1
    have hlk := lvok_few HG.out htv HL0.out
    have hk40 : k ≤ 40 := hlk.2
    have HL2 : Hid (l ≤ 200) := hlk.1
    have HKT : Hid (t ≤ k) := Nat.le_of_not_lt hkt
    have hkd : decide (k < t) = false := decide_eq_false hkt
    simp only [hkd]
    clear hlk HT3 x0 x1 y0 y1 q0 q1
    go_loopw [7, 9] (fun lv sv wr => ∃ j m : Nat, sv = .int .i64 ((j : Int) - 1) ∧ lv = .int .i64 (m : Int) ∧ j ≤ t ∧ Hid (LvOk v B j k m) ∧ Below w0.heap.size w0 wr) (fun _ sv _ => (intOf sv + 1).toNat)
    case atStart => exact ⟨t, l, rfl, rfl, by omega, HL0, hb3⟩
    case round =>
      clear hb3
      obtain ⟨j, m, rfl, rfl, hj, HL, hb4⟩ := hrel
      obtain ⟨q0, q1⟩ := HC.out _ hb4
      by_cases hj0 : j = 0
      · subst hj0
        have hd : decide ((0 : Int) ≤ ((0 : Nat) : Int) - 1) = false := by decide
        obtain rfl : m = n := (down_zero HL.out).trans HN2.out
        go_wp2
        go_ret
        exact ⟨rfl, Below.next hb0'.out hb4⟩
      · obtain ⟨i, rfl⟩ : ∃ i, j = i + 1 := ⟨j - 1, by omega⟩
        have hd : decide ((0 : Int) ≤ ((i + 1 : Nat) : Int) - 1) = true := by simp
        have hs : ((i + 1 : Nat) : Int) - 1 = (i : Int) := by omega
        obtain ⟨q, hq, hmul⟩ := down_ok HG.out HL.out (by omega) (by have := HKT.out; omega)
        have hmm := (lvok_few HG.out (by omega) HL.out).1
        have hqq := (lvok_few HG.out (by omega) hq).1
        have HQ : Hid (LvOk v B i k q) := hq
        have hik : i ≤ k := by have := HKT.out; omega
        have CC := C4.out i k q wr hb4 (by omega) (by omega) hq
        obtain ⟨a, Ha⟩ : ∃ a : Nat, Hid (k - i = a) := ⟨_, rfl⟩
        obtain ⟨c, Hc⟩ : ∃ c : Nat, Hid (v - i = c) := ⟨_, rfl⟩
        rw [Ha.out, Hc.out] at hmul
        have ha : (k : Int) - (i : Int) = (a : Int) := by have := Ha.out; omega
        have hc : (v : Int) - (i : Int) = (c : Int) := by have := Hc.out; omega
        have ha40 : a ≤ 40 := by have := Ha.out; omega
        have hc40 : c ≤ 40 := by have := Hc.out; omega
        have hm1 : q * a ≤ 200 * 40 := Nat.mul_le_mul hqq ha40
        obtain ⟨P, HP⟩ : ∃ P : Nat, Hid (q * a = P) := ⟨_, rfl⟩
        have e1 : (q : Int) * (a : Int) = (P : Int) := by rw [← HP.out]; push_cast; rfl
        have e2 : (m : Int) * (c : Int) = (P : Int) := by rw [← HP.out, hmul]; push_cast; rfl
        rw [HP.out] at hm1
        rw [hs] at hd ⊢
        clear hq hmul
        go_wp2_with (go_at_call 5; refine CC.mono ?_; rintro e w5 ⟨rfl, hb5⟩; replace hb5 := Below.next hb4 hb5; clear CC; obtain ⟨p0, p1⟩ := HC.out _ hb5)
        go_roundw
        case rel => exact ⟨i, q, rfl, rfl, by omega, HQ, hb5⟩
        case measure => simp [intOf]
  · go_ret
    exact ⟨rfl, Below.next hb0'.out hb3⟩

set_option maxRecDepth 100000 in
set_option maxHeartbeats 4000000 in
theorem Down_bad (p t : Int) (z : Nat) (u : Value) (n : Nat) (w : World) (hu : ∃ a c, u = .slice a n c) (hz : z ≠ 0) (H : ∀ W, Below w.heap.size w W → Calls Try.prog 5 #[.agg #[.int .i64 p, u], .int .i64 t] W fun e w' => e = .returned (.tuple #[.int .i64 0, .int .i64 0, .int .i64 (z : Int)]) ∧ Below W.heap.size W w') :
    Calls Try.prog 3 #[.agg #[.int .i64 p, u], .int .i64 t] w fun e w' => e = .returned (.bool true) ∧ Below w.heap.size w w' := by
  have HC : Hid (∀ W, Below (w.alloc (.cells #[.int .i64 p, u] 24)).heap.size (w.alloc (.cells #[.int .i64 p, u] 24)) W → W.cell? ⟨w.heap.size, 0, none⟩ = some (.int .i64 p) ∧ W.cell? ⟨w.heap.size, 1, none⟩ = some u) := des_box p u w
  obtain ⟨w0, Hw0⟩ : ∃ w0, Hid (w0 = w.alloc (.cells #[.int .i64 p, u] 24)) := ⟨_, rfl⟩
  rw [← Hw0.out] at HC
  have hb0 : Below w.heap.size w w0 := by rw [Hw0.out]; exact balloc _ _
  have C1 := fact_any w0
  have C3 : Hid (∀ W, Below w0.heap.size w0 W → Calls Try.prog 5 #[.agg #[.int .i64 p, u], .int .i64 t] W fun e w' => e = .returned (.tuple #[.int .i64 0, .int .i64 0, .int .i64 (z : Int)]) ∧ Below W.heap.size W w') := fun W hW => H W (Below.next hb0 hW)
  have hd : ((z : Int) != 0) = true := by simp; omega
  obtain ⟨x0, x1⟩ := HC.out _ (Below.refl _ _)
  rw [Hw0.out] at x0 x1
  obtain ⟨ua, uc, rfl⟩ := hu
  clear hz H
  go_enter Try.func3, Try.ntmps3
  go_wp2_with (first
    | (go_at_call 4; rw [← Hw0.out]; refine C1.mono ?_; rintro e w1 ⟨rfl, hb1⟩; clear C1; obtain ⟨y0, y1⟩ := HC.out _ hb1)
    | (go_at_call 5; refine (C3.out _ hb1).mono ?_; rintro e w3 ⟨rfl, hb3⟩; replace hb3 := Below.next hb1 hb3; obtain ⟨q0, q1⟩ := HC.out _ hb3))
  go_ret
  exact ⟨rfl, Below.next hb0 hb3⟩

theorem DesignDown_law (p t : Int) (ls : List (List Int)) (u : Value) (w : World) (_ht : (Lit.int .i64 t).wf = true) (hu : Rw w u ls) (hll : ∀ l ∈ ls, l.length ≤ maxLen) (hlm : ls.length ≤ maxLen) :
    Calls Try.prog 3 #[.agg #[.int .i64 p, u], .int .i64 t] w fun e w' => e = .returned (.bool true) ∧ Below w.heap.size w w' := by
  by_cases hz : dF p ls = 0
  · obtain ⟨v, B, rfl, rfl, G⟩ := dF_ok hz
    by_cases h : t < 0 ∨ 4 < t ∨ (v : Int) < t
    · exact Down_bad v t 1 u _ w (rw_form hu) (by decide) fun W hW => Level_far v t B u W G (hu.below hW) h
    · obtain ⟨m, rfl⟩ : ∃ m : Nat, t = m := ⟨t.toNat, by omega⟩
      exact Down_main v m B u w G hu (by omega) (by omega)
  · exact Down_bad p t (dF p ls) u _ w (rw_form hu) hz fun W hW => Level_bad p t ls u W (hu.below hW) hlm hll hz

end Go.Proofs.Ytnnopfdckillpab
