/- The document's RingsOf, walked. -/
import Derived.Test.YtgkfddcmngodgaaU2
namespace Go.Proofs.Ytgkfddcmngodgaa
open Go.RowKit

/-- Rings of three. -/
def rT (t : Nat → Nat → Bool) (a b c : Nat) : Nat := if (t a b == t b c && t b c == t c a) then 1 else 0
def rC (t : Nat → Nat → Bool) (a b k : Nat) : Nat := sumL ((List.range' (b + 1) k).map (rT t a b))
def rB (n : Nat) (t : Nat → Nat → Bool) (a k : Nat) : Nat := sumL ((List.range' (a + 1) k).map fun b => rC t a b (n - (b + 1)))
def rA (n : Nat) (t : Nat → Nat → Bool) (k : Nat) : Nat := sumL ((List.range k).map fun a => rB n t a (n - (a + 1)))
theorem rC_more (t : Nat → Nat → Bool) (a b k : Nat) : rC t a b (k + 1) = rC t a b k + rT t a b (b + 1 + k) := by
  unfold rC; rw [List.range'_1_concat, List.map_append, sumL_append]; simp [sumL]
theorem rB_more (n : Nat) (t : Nat → Nat → Bool) (a k : Nat) : rB n t a (k + 1) = rB n t a k + rC t a (a + 1 + k) (n - (a + 1 + k + 1)) := by
  unfold rB; rw [List.range'_1_concat, List.map_append, sumL_append]; simp [sumL]
theorem rA_more (n : Nat) (t : Nat → Nat → Bool) (k : Nat) : rA n t (k + 1) = rA n t k + rB n t k (n - (k + 1)) := by
  unfold rA; rw [List.range_succ, List.map_append, sumL_append]; simp [sumL]
theorem rT_le (t : Nat → Nat → Bool) (a b c : Nat) : rT t a b c ≤ 1 := by unfold rT; split <;> omega
/-- The box of a table. -/
theorem sq_box (s : Int) (u : Value) (w : World) : ∀ W, Below (w.alloc (.cells #[.int .i64 s, u] 24)).heap.size (w.alloc (.cells #[.int .i64 s, u] 24)) W → W.heap[w.heap.size]? = some (.cells #[.int .i64 s, u] 24) := fun W b => (b.block w.heap.size (by simp)).trans (heap_alloc_new w (.cells #[.int .i64 s, u] 24))
set_option maxRecDepth 100000 in
set_option maxHeartbeats 16000000 in
theorem RingsOf_any {n : Nat} {l : List Int} (hg : GoodT n l) (v : Value) (w : World) (hv : Sl w v l) :
    Calls Try.prog 17 #[.agg #[.int .i64 (n : Int), v]] w fun e w' => e = .returned (.int .i64 (rA n (tB n l) n : Int)) ∧ Below w.heap.size w w' := by
  have hn9 := hg.le
  obtain ⟨t, Ht⟩ : ∃ t, Hid (tB n l = t) := ⟨_, rfl⟩
  rw [Ht.out]
  have CB : ∀ W, Below w.heap.size w W → ∀ a b, a < n → b < n → Calls Try.prog 29 #[.agg #[.int .i64 (n : Int), v], .int .i64 (a : Int), .int .i64 (b : Int)] W fun e w' => e = .returned (.bool (t a b)) ∧ Below W.heap.size W w' := fun W bW a b ha hb => by
    rw [← Ht.out]; exact Beats_any hg v W (hv.below bW) ha hb
  have b1 := balloc w (.cells #[.int .i64 (n : Int), v] 24)
  have HX := sq_cells (n : Int) v w
  have HY := sq_box (n : Int) v w
  obtain ⟨w0, Hw0⟩ : ∃ w0, Hid (w.alloc (.cells #[.int .i64 (n : Int), v] 24) = w0) := ⟨_, rfl⟩
  rw [Hw0.out] at b1 HX HY
  have HX2 : Hid (∀ W, Below w0.heap.size w0 W → W.cell? ⟨w.heap.size, 0, none⟩ = some (.int .i64 (n : Int)) ∧ W.cell? ⟨w.heap.size, 1, none⟩ = some v) := HX
  have HY2 : Hid (∀ W, Below w0.heap.size w0 W → W.heap[w.heap.size]? = some (.cells #[.int .i64 (n : Int), v] 24)) := HY
  have HCB : Hid (∀ W, Below w0.heap.size w0 W → ∀ a b, a < n → b < n → Calls Try.prog 29 #[.agg #[.int .i64 (n : Int), v], .int .i64 (a : Int), .int .i64 (b : Int)] W fun e w' => e = .returned (.bool (t a b)) ∧ Below W.heap.size W w') := fun W bW => CB W (Below.next b1 bW)
  have HB0 : Hid (∀ W, Below w0.heap.size w0 W → Below w.heap.size w W) := fun W b => Below.next b1 b
  obtain ⟨x0, x1⟩ := HX2.out w0 (Below.refl _ _)
  rw [← Hw0.out] at x0 x1
  clear HX HY hv b1 hg CB
  go_enter Try.func17, Try.ntmps17
  go_wp2
  rw [Hw0.out]
  go_loopw [3, 4] (fun sv av wr => ∃ (a s : Nat), av = .int .i64 (a : Int) ∧ sv = .int .i64 (s : Int) ∧ a ≤ n ∧ s ≤ 100 * a ∧ Hid (rA n t a = s) ∧ Below w0.heap.size w0 wr) (fun _ av _ => (n - intOf av).toNat)
  case atStart => exact ⟨0, 0, rfl, rfl, by omega, by omega, rfl, Below.refl _ _⟩
  case round =>
    clear x0 x1
    obtain ⟨a, s, rfl, rfl, ha, hs, HS, hB⟩ := hrel
    obtain ⟨x0, x1⟩ := HX2.out wr hB
    by_cases hlt : a < n
    · have hda : decide ((a : Int) < (n : Int)) = true := by simp; omega
      have haa : (a : Int) < (n : Int) := by omega
      go_wp2
      go_loopw [3, 5] (fun sv bv wr => ∃ (b r : Nat), bv = .int .i64 ((a + 1 + b : Nat) : Int) ∧ sv = .int .i64 (r : Int) ∧ a + 1 + b ≤ n ∧ r ≤ 100 * a + 10 * b ∧ Hid (r = s + rB n t a b) ∧ Below w0.heap.size w0 wr) (fun _ bv _ => (n - intOf bv).toNat)
      case atStart => exact ⟨0, s, by go_num, rfl, by omega, by omega, rfl, hB⟩
      case round =>
        clear x0 x1 hB
        obtain ⟨b, r, rfl, rfl, hb, hr, HR, hB⟩ := hrel
        obtain ⟨x0, x1⟩ := HX2.out wr hB
        obtain ⟨B, HBB⟩ : ∃ B, Hid (a + 1 + b = B) := ⟨_, rfl⟩
        rw [HBB.out]
        rw [HBB.out] at hb
        by_cases hlb : B < n
        · have hdb : decide ((B : Int) < (n : Int)) = true := by simp; omega
          have hbb : (B : Int) < (n : Int) := by omega
          go_wp2
          go_loopw [3, 6] (fun sv cv wr => ∃ (c q : Nat), cv = .int .i64 ((B + 1 + c : Nat) : Int) ∧ sv = .int .i64 (q : Int) ∧ B + 1 + c ≤ n ∧ q ≤ 100 * a + 10 * b + c ∧ Hid (q = r + rC t a B c) ∧ Below w0.heap.size w0 wr) (fun _ cv _ => (n - intOf cv).toNat)
          case atStart => exact ⟨0, r, by go_num, rfl, by omega, by omega, rfl, hB⟩
          case round =>
            clear x0 x1 hB
            obtain ⟨c, q, rfl, rfl, hc, hq, HQ, hB⟩ := hrel
            obtain ⟨x0, x1⟩ := HX2.out wr hB
            obtain ⟨C, HCC⟩ : ∃ C, Hid (B + 1 + c = C) := ⟨_, rfl⟩
            rw [HCC.out]
            rw [HCC.out] at hc
            by_cases hlc : C < n
            · have hdc : decide ((C : Int) < (n : Int)) = true := by simp; omega
              have hcc : (C : Int) < (n : Int) := by omega
              have hb9 : b ≤ 9 := by have := HBB.out; omega
              have hc9 : c ≤ 9 := by have := HCC.out; omega
              have C1 := HCB.out wr hB a B hlt hlb
              have st := rC_more t a B c
              rw [HCC.out] at st
              unfold rT at st
              obtain ⟨p1, Hp1⟩ : ∃ p, Hid (t a B = p) := ⟨_, rfl⟩
              obtain ⟨p2, Hp2⟩ : ∃ p, Hid (t B C = p) := ⟨_, rfl⟩
              obtain ⟨p3, Hp3⟩ : ∃ p, Hid (t C a = p) := ⟨_, rfl⟩
              rw [Hp1.out, Hp2.out, Hp3.out] at st
              rw [Hp1.out] at C1
              cases p1 <;> cases p2 <;> cases p3 <;> (
                go_wp2_with (first
                  | (go_at_call 29; refine C1.mono ?_; rintro e w5 ⟨rfl, hb5⟩; clear C1; have hB5 := Below.next hB hb5; obtain ⟨x5, z5⟩ := HX2.out w5 hB5; have C2 := HCB.out w5 hB5 B C hlb hlc; rw [Hp2.out] at C2)
                  | (go_at_call 29; refine C2.mono ?_; rintro e w6 ⟨rfl, hb6⟩; clear C2; have hB6 := Below.next hB5 hb6; obtain ⟨x6, z6⟩ := HX2.out w6 hB6; have C3 := HCB.out w6 hB6 C a hlc hlt; rw [Hp3.out] at C3)
                  | (go_at_call 29; refine C3.mono ?_; rintro e w7 ⟨rfl, hb7⟩; clear C3; have hB7 := Below.next hB6 hb7)
                  | go_in)
                go_roundw
                case rel => first
                  | exact ⟨c + 1, q + 1, by rw [← HCC.out]; go_num, by go_num, by rw [← HCC.out] at hlc; omega, by omega, (by show _ = _; rw [st, HQ.out]; rfl), hB7⟩
                  | exact ⟨c + 1, q, by rw [← HCC.out]; go_num, rfl, by rw [← HCC.out] at hlc; omega, by omega, (by show _ = _; rw [st, HQ.out]; rfl), hB7⟩
                case measure => simp [intOf]; omega)
            · have hdc : decide ((C : Int) < (n : Int)) = false := by simp; omega
              have hdcn : decide (C < n) = false := by simp; omega
              have HR2 : Hid (q = s + rB n t a (b + 1)) := by
                show _ = _
                rw [rB_more, HBB.out, HQ.out, HR.out, show n - (B + 1) = c by have := HCC.out; omega]; omega
              have hcb : c ≤ 9 := by have := HCC.out; omega
              go_wp2
              go_roundw
              case rel => exact ⟨b + 1, q, by rw [← HBB.out]; go_num, rfl, by rw [← HBB.out] at hlb; omega, by omega, HR2, hB⟩
              case measure => simp [intOf]; omega
        · have hdb : decide ((B : Int) < (n : Int)) = false := by simp; omega
          have hdbn : decide (B < n) = false := by simp; omega
          have HS2 : Hid (rA n t (a + 1) = r) := by
            show _ = _
            rw [rA_more, HS.out, HR.out, show n - (a + 1) = b by have := HBB.out; omega]
          have hbb9 : b ≤ 9 := by have := HBB.out; omega
          go_wp2
          go_roundw
          case rel => exact ⟨a + 1, r, by go_num, rfl, by omega, by omega, HS2, hB⟩
          case measure => simp [intOf]; omega
    · have hda : decide ((a : Int) < (n : Int)) = false := by simp; omega
      have hdan : decide (a < n) = false := by simp; omega
      obtain rfl : a = n := by omega
      go_wp2
      go_ret
      exact ⟨by rw [HS.out]; rfl, HB0.out _ hB⟩
end Go.Proofs.Ytgkfddcmngodgaa
