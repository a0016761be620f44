/- The program's rings, walked. -/
import Derived.Test.YtgkfddcmngodgabN4
import Derived.Test.YtgkfddcmngodgabTsR
namespace Go.Proofs.Ytgkfddcmngodgab
open Go.RowKit

set_option maxRecDepth 100000 in
set_option maxHeartbeats 16000000 in
theorem rings_any {n : Nat} {l : List Int} (hg : GoodT n l) (v : Value) (w : World) (hv : Sl w v l) :
    Calls Try.prog 17 #[.agg #[.int .i64 (n : Int), v]] w fun e w' => e = .returned (.int .i64 (rgP (tB n l) n : Int)) ∧ Below w.heap.size w w' := by
  have hn9 := hg.le
  obtain ⟨t, Ht⟩ : ∃ t, Hid (tB n l = t) := ⟨_, rfl⟩
  rw [Ht.out]
  have CB : ∀ W, Below w.heap.size w W → ∀ a b, a < n → b < n → Calls Try.prog 23 #[.agg #[.int .i64 (n : Int), v], .int .i64 (a : Int), .int .i64 (b : Int)] W fun e w' => e = .returned (.bool (t a b)) ∧ Below W.heap.size W w' := fun W bW a b ha hb => by rw [← Ht.out]; exact beats_any hg.one hg.le hg.len v W (hv.below bW) ha hb
  have b1 := balloc w (.cells #[.int .i64 (n : Int), v] 24)
  have HX := sq_cells (n : Int) v w
  obtain ⟨w0, Hw0⟩ : ∃ w0, Hid (w.alloc (.cells #[.int .i64 (n : Int), v] 24) = w0) := ⟨_, rfl⟩
  rw [Hw0.out] at b1 HX
  have HX2 : Hid (∀ W, Below w0.heap.size w0 W → W.cell? ⟨w.heap.size, 0, none⟩ = some (.int .i64 (n : Int)) ∧ W.cell? ⟨w.heap.size, 1, none⟩ = some v) := HX
  have HCB : Hid (∀ W, Below w0.heap.size w0 W → ∀ a b, a < n → b < n → Calls Try.prog 23 #[.agg #[.int .i64 (n : Int), v], .int .i64 (a : Int), .int .i64 (b : Int)] W fun e w' => e = .returned (.bool (t a b)) ∧ Below W.heap.size W w') := fun W bW => CB W (Below.next b1 bW)
  have HB0 : Hid (∀ W, Below w0.heap.size w0 W → Below w.heap.size w W) := fun W b => Below.next b1 b
  have hsz0 : w.heap.size ≤ w0.heap.size := b1.size
  obtain ⟨x0, x1⟩ := HX2.out w0 (Below.refl _ _)
  rw [← Hw0.out] at x0 x1
  have hnt : (!true) = false := rfl
  have hnf : (!false) = true := rfl
  clear HX hv b1 hg CB hnt hnf hsz0
  go_enter Try.func17, Try.ntmps17
  go_wp2
  rw [Hw0.out]
  go_loopw [3, 9] (fun sv av wr => ∃ (a s : Nat), av = .int .i64 (a : Int) ∧ sv = .int .i64 (s : Int) ∧ a ≤ n ∧ s ≤ 100 * a ∧ Hid (rgP t a = s) ∧ Below w0.heap.size w0 wr) (fun _ av _ => (n - intOf av).toNat)
  case atStart => exact ⟨0, 0, rfl, rfl, by omega, by omega, rfl, Below.refl _ _⟩
  case round =>
    clear x0 x1
    obtain ⟨a, s, rfl, rfl, ha, hs, HS, hB⟩ := hrel
    obtain ⟨x0, x1⟩ := HX2.out wr hB
    by_cases hlt : a < n
    · have hda : decide ((a : Int) < (n : Int)) = true := by simp; omega
      have haa : (a : Int) < (n : Int) := by omega
      go_wp2
      go_loopw [3, 13] (fun sv bv wr => ∃ (b r : Nat), bv = .int .i64 (b : Int) ∧ sv = .int .i64 (r : Int) ∧ b ≤ a ∧ r ≤ 100 * a + 10 * b ∧ Hid (r = s + rgI t a b) ∧ Below w0.heap.size w0 wr) (fun _ bv _ => (a - intOf bv).toNat)
      case atStart => exact ⟨0, s, rfl, rfl, by omega, by omega, rfl, hB⟩
      case round =>
        clear x0 x1 hB
        obtain ⟨b, r, rfl, rfl, hb, hr, HR, hB⟩ := hrel
        obtain ⟨x0, x1⟩ := HX2.out wr hB
        by_cases hlb : b < a
        · have hdb : decide ((b : Int) < (a : Int)) = true := by simp; omega
          have hbb : (b : Int) < (a : Int) := by omega
          have hbn : b < n := by omega
          go_wp2
          go_loopw [3, 17] (fun sv cv wr => ∃ (c q : Nat), cv = .int .i64 (c : Int) ∧ sv = .int .i64 (q : Int) ∧ c ≤ a ∧ q ≤ 100 * a + 10 * b + c ∧ Hid (q = r + rgO t a b c) ∧ Below w0.heap.size w0 wr) (fun _ cv _ => (a - intOf cv).toNat)
          case atStart => exact ⟨0, r, rfl, rfl, by omega, by omega, rfl, hB⟩
          case round =>
            clear x0 x1 hB
            obtain ⟨c, q, rfl, rfl, hc, hq, HQ, hB⟩ := hrel
            obtain ⟨x0, x1⟩ := HX2.out wr hB
            by_cases hlc : c < a
            · have hdc : decide ((c : Int) < (a : Int)) = true := by simp; omega
              have hcc : (c : Int) < (a : Int) := by omega
              have hcn : c < n := by omega
              have C1 := HCB.out wr hB a b hlt hbn
              have st := rgO_more t a b c
              unfold rq at st
              obtain ⟨p1, Hp1⟩ : ∃ p, Hid (t a b = p) := ⟨_, rfl⟩
              obtain ⟨p2, Hp2⟩ : ∃ p, Hid (t b c = p) := ⟨_, rfl⟩
              obtain ⟨p3, Hp3⟩ : ∃ p, Hid (t c a = p) := ⟨_, rfl⟩
              rw [Hp1.out, Hp2.out, Hp3.out] at st
              rw [Hp1.out] at C1
              have ST : Hid (rgO t a b (c + 1) = rgO t a b c + if (p1 && p2 && p3) = true then 1 else 0) := st
              clear st
              cases p1 <;> cases p2 <;> cases p3 <;> (
                go_wp2_with (first
                  | (go_at_call 23; refine C1.mono ?_; rintro e w5 ⟨rfl, hb5⟩; clear C1; have hB := Below.next hB hb5; obtain ⟨x5, z5⟩ := HX2.out w5 hB; have C2 := HCB.out w5 hB b c hbn hcn; rw [Hp2.out] at C2)
                  | (go_at_call 23; refine C2.mono ?_; rintro e w6 ⟨rfl, hb6⟩; clear C2; have hB := Below.next hB hb6; obtain ⟨x6, z6⟩ := HX2.out w6 hB; have C3 := HCB.out w6 hB c a hcn hlt; rw [Hp3.out] at C3)
                  | (go_at_call 23; refine C3.mono ?_; rintro e w7 ⟨rfl, hb7⟩; clear C3; have hB := Below.next hB hb7)
                  | go_in)
                go_roundw
                case rel => first
                  | exact ⟨c + 1, q + 1, by go_num, by go_num, by omega, by omega, (by show _ = _; rw [ST.out, HQ.out]; rfl), hB⟩
                  | exact ⟨c + 1, q, by go_num, rfl, by omega, by omega, (by show _ = _; rw [ST.out, HQ.out]; rfl), hB⟩
                case measure => simp [intOf]; omega)
            · have hdc : decide ((c : Int) < (a : Int)) = false := by simp; omega
              have hdcn : decide (c < a) = false := by simp; omega
              obtain rfl : c = a := by omega
              have HR2 : Hid (q = s + rgI t c (b + 1)) := by
                show _ = _
                rw [rgI_more, HQ.out, HR.out]; omega
              go_wp2
              go_roundw
              case rel => exact ⟨b + 1, q, by go_num, rfl, by omega, by omega, HR2, hB⟩
              case measure => simp [intOf]; omega
        · have hdb : decide ((b : Int) < (a : Int)) = false := by simp; omega
          have hdbn : decide (b < a) = false := by simp; omega
          obtain rfl : b = a := by omega
          have HS2 : Hid (rgP t (b + 1) = r) := by
            show _ = _
            rw [rgP_more, HS.out, HR.out]
          go_wp2
          go_roundw
          case rel => exact ⟨b + 1, r, by go_num, rfl, by omega, by omega, HS2, hB⟩
          case measure => simp [intOf]; omega
    · have hda : decide ((a : Int) < (n : Int)) = false := by simp; omega
      have hdan : decide (a < n) = false := by simp; omega
      obtain rfl : a = n := by omega
      go_wp2
      go_ret
      exact ⟨by rw [HS.out]; rfl, HB0.out _ hB⟩
end Go.Proofs.Ytgkfddcmngodgab
