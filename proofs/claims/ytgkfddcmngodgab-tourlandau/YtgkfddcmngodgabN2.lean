/- The program's Check, walked. -/
import Derived.Test.YtgkfddcmngodgabN1
namespace Go.Proofs.Ytgkfddcmngodgab
open Go.RowKit

set_option maxRecDepth 100000 in
set_option maxHeartbeats 16000000 in
theorem Check_any (s : Int) (l : List Int) (v : Value) (w : World) (hv : Sl w v l) :
    Calls Try.prog 11 #[.agg #[.int .i64 s, v]] w fun e w' => e = .returned (.int .i64 (tF s l : Int)) ∧ Below w.heap.size w w' := by
  obtain ⟨z, Hz⟩ : ∃ z, Hid (tF s l = z) := ⟨_, rfl⟩
  have hv0 := hv
  have b1 := balloc w (.cells #[.int .i64 s, v] 24)
  have HX := sq_cells s v w
  by_cases h1 : s < 1 ∨ 9 < s
  · have HZ : Hid (z = 1) := by show _ = _; rw [← Hz.out]; unfold tF; rw [if_pos h1]
    obtain ⟨x0, x1⟩ := HX _ (Below.refl _ _)
    obtain ⟨a, cap, rfl, -⟩ := hv
    rw [Hz.out, HZ.out]
    generalize l.length = m at *
    clear HX Hz
    by_cases ha : s < 1
    · have hd : decide (s < 1) = true := by simpa using ha
      go_enter Try.func11, Try.ntmps11
      go_wp2
      go_ret
      exact ⟨rfl, b1⟩
    · have hd : decide (s < 1) = false := by simpa using ha
      have hd2 : decide (9 < s) = true := by simp; omega
      go_enter Try.func11, Try.ntmps11
      go_wp2
      go_ret
      exact ⟨rfl, b1⟩
  · obtain ⟨n, rfl⟩ : ∃ n : Nat, s = n := ⟨s.toNat, by omega⟩
    have hd : decide ((n : Int) < 1) = false := by simp; omega
    have hd2 : decide ((9 : Int) < (n : Int)) = false := by simp; omega
    have hn1 : 1 ≤ n := by omega
    have hn9 : n ≤ 9 := by omega
    obtain ⟨q, Hq⟩ : ∃ q, Hid (n * n = q) := ⟨_, rfl⟩
    have hq81 : q ≤ 81 := by rw [← Hq.out]; exact Nat.mul_le_mul hn9 hn9
    have hq1 : 1 ≤ q := by rw [← Hq.out]; exact Nat.mul_le_mul hn1 hn1
    have hqn : (n : Int) * (n : Int) = (q : Int) := by rw [← Hq.out]; simp
    obtain ⟨m, Hm⟩ : ∃ m, Hid (l.length = m) := ⟨_, rfl⟩
    by_cases h2 : m = q
    · subst h2
      obtain ⟨b, o, c, rfl, hC⟩ := sl_all hv (by rw [Hm.out]; omega)
      rw [Hm.out] at HX b1 hC ⊢
      have HZ : Hid (TfZ n l z) := by
        show TfZ n l z
        rw [← Hz.out]
        exact tfZ_of h1 (by rw [Hm.out, Hq.out])
      rw [Hz.out]
      obtain ⟨w0, Hw0⟩ : ∃ w0, Hid (w.alloc (.cells #[.int .i64 (n : Int), .slice (some ⟨b, o, none⟩) m c] 24) = w0) := ⟨_, rfl⟩
      rw [Hw0.out] at b1 HX
      have HX2 : Hid (∀ W, Below w0.heap.size w0 W → W.cell? ⟨w.heap.size, 0, none⟩ = some (.int .i64 (n : Int)) ∧ W.cell? ⟨w.heap.size, 1, none⟩ = some (.slice (some ⟨b, o, none⟩) m c)) := HX
      have HC : Hid (∀ W, Below w0.heap.size w0 W → ∀ j, j < m → W.cell? ⟨b, o + j, none⟩ = some (.int .i64 (l.getD j 0))) := fun W bW j hj => hC W (Below.next b1 bW) j hj
      have HB0 : Hid (∀ W, Below w0.heap.size w0 W → Below w.heap.size w W) := fun W b => Below.next b1 b
      have hne : ((m : Int) != (m : Int)) = false := by simp
      obtain ⟨x0, x1⟩ := HX2.out w0 (Below.refl _ _)
      rw [← Hw0.out] at x0 x1
      clear HX hC hv b1 h1 Hz
      go_enter Try.func11, Try.ntmps11
      go_wp2
      rw [Hw0.out]
      go_loopw [25] (fun iv wr => ∃ i : Nat, iv = .int .i64 (i : Int) ∧ i ≤ m ∧ Hid (∀ j, j < i → l.getD j 0 = 0 ∨ l.getD j 0 = 1) ∧ Below w0.heap.size w0 wr) (fun iv _ => (m - intOf iv).toNat)
      case atStart => exact ⟨0, rfl, by omega, (show ∀ j, j < 0 → _ from fun j h => by omega), Below.refl _ _⟩
      case round =>
        clear x0 x1
        obtain ⟨i, rfl, hi, HI, hB⟩ := hrel
        obtain ⟨x0, x1⟩ := HX2.out wr hB
        by_cases hlt : i < m
        · have hdi : decide ((i : Int) < (m : Int)) = true := by simp; omega
          have hii : (i : Int) < (m : Int) := by omega
          have hc := HC.out wr hB i hlt
          obtain ⟨x, Hx⟩ : ∃ x, Hid (l.getD i 0 = x) := ⟨_, rfl⟩
          rw [Hx.out] at hc
          by_cases hx0 : x = 0
          · have hn0 : (x != 0) = false := by simp [hx0]
            have HI2 : Hid (∀ j, j < i + 1 → l.getD j 0 = 0 ∨ l.getD j 0 = 1) := fun j hj => by
              by_cases e : j = i
              · rw [e, Hx.out]; exact .inl hx0
              · exact HI.out j (by omega)
            clear hx0
            go_wp2
            go_roundw
            case rel => exact ⟨i + 1, by go_num, by omega, HI2, hB⟩
            case measure => simp [intOf]; omega
          · have hn0 : (x != 0) = true := by simp [hx0]
            by_cases hx1 : x = 1
            · have hn1' : (x != 1) = false := by simp [hx1]
              have HI2 : Hid (∀ j, j < i + 1 → l.getD j 0 = 0 ∨ l.getD j 0 = 1) := fun j hj => by
                by_cases e : j = i
                · rw [e, Hx.out]; exact .inr hx1
                · exact HI.out j (by omega)
              clear hx0 hx1
              go_wp2
              go_roundw
              case rel => exact ⟨i + 1, by go_num, by omega, HI2, hB⟩
              case measure => simp [intOf]; omega
            · have hn1' : (x != 1) = true := by simp [hx1]
              have HZ1 : Hid (z = 1) := HZ.out.cel i (by rw [Hm.out]; exact hlt) (by rw [Hx.out]; exact hx0) (by rw [Hx.out]; exact hx1)
              clear hx0 hx1
              go_wp2
              go_ret
              exact ⟨by rw [HZ1.out]; rfl, HB0.out _ hB⟩
        · have hdi : decide ((i : Int) < (m : Int)) = false := by simp; omega
          have hdin : decide (i < m) = false := by simp; omega
          have HCE : Hid (∀ j, j < l.length → l.getD j 0 = 0 ∨ l.getD j 0 = 1) := fun j hj => HI.out j (by have := Hm.out; omega)
          clear HI hi
          have C1 := isDecided_any hn1 hn9 (by rw [Hm.out, Hq.out]) HCE.out _ wr (hv0.below (HB0.out wr hB))
          rw [Hm.out] at C1
          go_wp2_with (first
            | (go_at_call 18; refine C1.mono ?_; rintro e w5 ⟨⟨y, rfl, hy1, hy2⟩, hb5⟩; clear C1; have hB5 := Below.next hB hb5)
            | go_in)
          all_goals rename_i hyy
          · have HZ4 : Hid (z = 4) := by
              obtain ⟨i, j, hi, hj, hb⟩ := hy2 (by simpa using hyy)
              exact HZ.out.two HCE.out i j hi hj hb
            clear hy1 hy2
            go_ret
            exact ⟨by rw [HZ4.out]; rfl, HB0.out _ hB5⟩
          · have HZ0 : Hid (z = 0) := HZ.out.ok HCE.out fun i j hi hj => hy1 (by simpa using hyy) i j hi hj
            clear hy1 hy2
            go_ret
            exact ⟨by rw [HZ0.out]; rfl, HB0.out _ hB5⟩
    · have HZ : Hid (z = 2) := by
        show _ = _
        rw [← Hz.out]
        unfold tF
        rw [if_neg h1, if_pos (by rw [Hm.out, hqn]; omega)]
      obtain ⟨x0, x1⟩ := HX _ (Below.refl _ _)
      obtain ⟨a, cap, rfl, -⟩ := hv
      rw [Hz.out, HZ.out]
      rw [Hm.out] at *
      have hne : ((m : Int) != (q : Int)) = true := by simp; omega
      clear HX h1
      go_enter Try.func11, Try.ntmps11
      go_wp2
      go_ret
      exact ⟨rfl, b1⟩
end Go.Proofs.Ytgkfddcmngodgab
