/- Rooms, walked. -/
import Derived.Test.YtpeplnojmogkfaaK6
namespace Go.Proofs.Ytpeplnojmogkfaa
open Go.RowKit Go.Maps

theorem rF2_first {n : Int} {xs : List (List Int)} (ys : List (List Int)) (h : rF n xs ≠ 0) : rF2 n xs ys = rF n xs := by unfold rF2; rw [if_pos h]
theorem rF2_second {n : Int} {xs : List (List Int)} (ys : List (List Int)) (h : rF n xs = 0) : rF2 n xs ys = rF n ys := by unfold rF2; rw [if_neg (by simp [h])]
set_option maxRecDepth 100000 in
set_option maxHeartbeats 16000000 in
theorem Rooms_any : FRooms := by
  intro n xs ys u v w hu hv
  obtain ⟨ua, un, uc, rfl⟩ := hu.form
  obtain ⟨va, vn, vc, rfl⟩ := hv.form
  have HA : Hid (∀ W, Below w.heap.size w W → Calls Try.prog 9 #[.int .i64 n, .slice ua un uc] W fun e w' => e = .returned (.int .i64 (rF n xs : Int)) ∧ Below W.heap.size W w') := fun W b => Check_any n xs _ W (hu.below b)
  have HB : Hid (∀ W, Below w.heap.size w W → Calls Try.prog 9 #[.int .i64 n, .slice va vn vc] W fun e w' => e = .returned (.int .i64 (rF n ys : Int)) ∧ Below W.heap.size W w') := fun W b => Check_any n ys _ W (hv.below b)
  have HU : Hid (∀ W, Below w.heap.size w W → Rw W (.slice ua un uc) xs) := fun W b => (hu.below b).rw
  have HV : Hid (∀ W, Below w.heap.size w W → Rw W (.slice va vn vc) ys) := fun W b => (hv.below b).rw
  obtain ⟨z1, Hz1⟩ : ∃ z, Hid (rF n xs = z) := ⟨_, rfl⟩
  obtain ⟨z2, Hz2⟩ : ∃ z, Hid (rF n ys = z) := ⟨_, rfl⟩
  obtain ⟨z, Hz⟩ : ∃ z, Hid (rF2 n xs ys = z) := ⟨_, rfl⟩
  have H1 : Hid (z1 ≠ 0 → z = z1 ∧ ¬ RmsZ n xs ys) := fun h => by
    have e := rF2_first ys (show rF n xs ≠ 0 by rw [Hz1.out]; exact h)
    exact ⟨by rw [← Hz.out, e, Hz1.out], rmsZ_bad (by rw [e, Hz1.out]; exact h)⟩
  have H2 : Hid (z1 = 0 → z2 ≠ 0 → z = z2 ∧ ¬ RmsZ n xs ys) := fun h k => by
    have e := rF2_second ys (show rF n xs = 0 by rw [Hz1.out]; exact h)
    exact ⟨by rw [← Hz.out, e, Hz2.out], rmsZ_bad (by rw [e, Hz2.out]; exact k)⟩
  have H0 : Hid (z1 = 0 → z2 = 0 → z = 0) := fun h k => by
    have e := rF2_second ys (show rF n xs = 0 by rw [Hz1.out]; exact h)
    show z = 0
    rw [← Hz.out, e, Hz2.out, k]
  rw [Hz.out]
  rw [Hz1.out] at HA
  rw [Hz2.out] at HB
  have hal := balloc w (.cells #[.slice ua un uc, .slice va vn vc] 22)
  have c0 : (w.alloc (.cells #[.slice ua un uc, .slice va vn vc] 22)).cell? ⟨w.heap.size, 0, none⟩ = some (.slice ua un uc) := by rw [cell_of_row _ _ _ _ _ _ (heap_alloc_new w _)]; rfl
  have c1 : (w.alloc (.cells #[.slice ua un uc, .slice va vn vc] 22)).cell? ⟨w.heap.size, 1, none⟩ = some (.slice va vn vc) := by rw [cell_of_row _ _ _ _ _ _ (heap_alloc_new w _)]; rfl
  have hsA : (w.alloc (.cells #[.slice ua un uc, .slice va vn vc] 22)).heap.size = w.heap.size + 1 := by simp
  clear hu hv
  go_enter Try.func12, Try.ntmps12
  go_wp2
  obtain ⟨wA, hwA⟩ : ∃ wA, Hid (w.alloc (.cells #[.slice ua un uc, .slice va vn vc] 22) = wA) := ⟨_, rfl⟩
  rw [hwA.out] at hal c0 c1 hsA ⊢
  have HC0 : Hid (∀ W, Below wA.heap.size wA W → W.cell? ⟨w.heap.size, 0, none⟩ = some (.slice ua un uc)) := fun W b => (b.cell (World.block_lt_of_cell? _ _ c0)).trans c0
  have HC1 : Hid (∀ W, Below wA.heap.size wA W → W.cell? ⟨w.heap.size, 1, none⟩ = some (.slice va vn vc)) := fun W b => (b.cell (World.block_lt_of_cell? _ _ c1)).trans c1
  have HAL : Hid (Below w.heap.size w wA) := hal
  have HSA : Hid (w.heap.size ≤ wA.heap.size) := by show _ ≤ _; omega
  clear c0 c1 hal hsA
  go_loopw [15] (fun iv wr => ∃ i : Nat, iv = .int .i64 (i : Int) ∧ i ≤ 2 ∧ Hid (1 ≤ i → z1 = 0) ∧ Hid (2 ≤ i → z2 = 0) ∧ Below wA.heap.size wA wr) (fun iv _ => (2 - intOf iv).toNat)
  case atStart => exact ⟨0, rfl, by omega, (fun h => by omega : 1 ≤ 0 → z1 = 0), (fun h => by omega : 2 ≤ 0 → z2 = 0), Below.refl _ _⟩
  case round =>
    obtain ⟨i, rfl, hi, HI1, HI2, hB⟩ := hrel
    have hBw : Below w.heap.size w wr := HAL.out.trans (hB.mono HSA.out)
    by_cases hlt : i < 2
    · have hcase : i = 0 ∨ i = 1 := by omega
      rcases hcase with rfl | rfl
      · have hc := HC0.out wr hB
        have C := HA.out wr hBw
        by_cases hz : z1 = 0
        · have hzb : ((z1 : Int) != 0) = false := by simp [hz]
          have HZ : Hid (z1 = 0) := hz
          clear hz hlt
          go_wp2_with (go_at_call 9; refine C.mono ?_; rintro e w6 ⟨rfl, b6⟩; clear C)
          have hB6 := hB.trans (b6.mono hB.size)
          go_roundw
          case rel => exact ⟨1, by go_num, by omega, fun _ => HZ.out, (fun h => by omega : 2 ≤ 1 → z2 = 0), hB6⟩
          case measure => simp [intOf]
        · have hzb : ((z1 : Int) != 0) = true := by simp [hz]
          obtain ⟨e1, e2⟩ := H1.out hz
          have HE : Hid (¬ RmsZ n xs ys) := e2
          subst e1
          clear hz hlt e2
          go_wp2_with (go_at_call 9; refine C.mono ?_; rintro e w6 ⟨rfl, b6⟩; clear C)
          have hB6 := hBw.trans (b6.mono hBw.size)
          go_ret2
          exact ⟨⟨false, rfl, by simp [HE.out]⟩, hB6⟩
      · have hc := HC1.out wr hB
        have C := HB.out wr hBw
        have h10 := HI1.out (Nat.le_refl _)
        have HZ1 : Hid (z1 = 0) := h10
        clear h10
        by_cases hz : z2 = 0
        · have hzb : ((z2 : Int) != 0) = false := by simp [hz]
          have HZ : Hid (z2 = 0) := hz
          clear hz hlt
          go_wp2_with (go_at_call 9; refine C.mono ?_; rintro e w6 ⟨rfl, b6⟩; clear C)
          have hB6 := hB.trans (b6.mono hB.size)
          go_roundw
          case rel => exact ⟨2, by go_num, by omega, fun _ => HZ1.out, fun _ => HZ.out, hB6⟩
          case measure => simp [intOf]
        · have hzb : ((z2 : Int) != 0) = true := by simp [hz]
          obtain ⟨e1, e2⟩ := H2.out HZ1.out hz
          have HE : Hid (¬ RmsZ n xs ys) := e2
          subst e1
          clear hz hlt e2
          go_wp2_with (go_at_call 9; refine C.mono ?_; rintro e w6 ⟨rfl, b6⟩; clear C)
          have hB6 := hBw.trans (b6.mono hBw.size)
          go_ret2
          exact ⟨⟨false, rfl, by simp [HE.out]⟩, hB6⟩
    · obtain rfl : i = 2 := by omega
      have HZ1 : Hid (z1 = 0) := HI1.out (by omega)
      have HZ2 : Hid (z2 = 0) := HI2.out (Nat.le_refl _)
      obtain ⟨N, A, rfl, e, hG⟩ := rF_ok (Hz1.out.trans HZ1.out)
      obtain ⟨N', B, e', e2, hH⟩ := rF_ok (Hz2.out.trans HZ2.out)
      obtain rfl : N = N' := by omega
      have e : xs = toZ A := e
      have e2 : ys = toZ B := e2
      have hua := HU.out wr hBw
      have hvb := HV.out wr hBw
      have HR : Hid (RmsZ (N : Int) xs ys ↔ Rms N A B) := by show _ ↔ _; rw [e, e2]; exact rmsZ_good hG hH
      rw [e] at hua
      rw [e2] at hvb
      have HZ0 : Hid (z = 0) := H0.out HZ1.out HZ2.out
      have hun : un = A.length := by
        obtain ⟨_, _, h, _⟩ := hua
        simp only [Value.slice.injEq] at h
        rw [h.2.1, toZ_len]
      have hvn : vn = B.length := by
        obtain ⟨_, _, h, _⟩ := hvb
        simp only [Value.slice.injEq] at h
        rw [h.2.1, toZ_len]
      have h2 := hG.two
      have h16 := hG.le
      have hfa := hG.few
      have hfb := hH.few
      rw [← hun] at hfa
      rw [← hvn] at hfb
      have CK1 := fun W => isComplete_any N un ua uc W (by omega) h16 (by omega)
      have CK2 := fun W => isComplete_any N vn va vc W (by omega) h16 (by omega)
      have CF := fun (la : A.length = N - 1) (lb : B.length = N - 1) => fill_any N A B _ _ wr hua hvb hG hH la lb
      have HUN : Hid (un = A.length) := hun
      have HVN : Hid (vn = B.length) := hvn
      clear e e' e2 hua hvb hG hH hun hvn Hz1 Hz2 Hz H1 H2 H0 HA HB HU HV HI1 HI2
      by_cases hla : un = N - 1
      · rw [show (un == N - 1) = true by simp [hla]] at CK1
        by_cases hlb : vn = N - 1
        · rw [show (vn == N - 1) = true by simp [hlb]] at CK2
          have C := CF (by rw [← HUN.out]; exact hla) (by rw [← HVN.out]; exact hlb)
          clear CF hla hlb
          go_wp2_with (first
            | (go_at_call 28; refine (CK1 _).mono ?_; rintro e w2 ⟨rfl, hw⟩; replace hw := hw.symm; subst hw; clear CK1)
            | (go_at_call 28; refine (CK2 _).mono ?_; rintro e w2 ⟨rfl, hw⟩; replace hw := hw.symm; subst hw; clear CK2)
            | (go_at_call 31; refine C.mono ?_; rintro e w3 ⟨⟨q, rfl, hq⟩, b3⟩; clear C))
          go_ret2
          exact ⟨⟨q, by rw [HZ0.out]; rfl, by rw [hq, HR.out]⟩, hBw.trans (b3.mono hBw.size)⟩
        · rw [show (vn == N - 1) = false by simp [hlb]] at CK2
          have HNO : Hid (¬ RmsZ (N : Int) xs ys) := fun h => hlb (by rw [HVN.out]; exact (HR.out.1 h).2.1)
          clear CF hla hlb
          go_wp2_with (first
            | (go_at_call 28; refine (CK1 _).mono ?_; rintro e w2 ⟨rfl, hw⟩; replace hw := hw.symm; subst hw; clear CK1)
            | (go_at_call 28; refine (CK2 _).mono ?_; rintro e w2 ⟨rfl, hw⟩; replace hw := hw.symm; subst hw; clear CK2))
          go_ret2
          exact ⟨⟨false, by rw [HZ0.out]; rfl, by simp [HNO.out]⟩, hBw⟩
      · rw [show (un == N - 1) = false by simp [hla]] at CK1
        have HNO : Hid (¬ RmsZ (N : Int) xs ys) := fun h => hla (by rw [HUN.out]; exact (HR.out.1 h).1)
        clear CF hla
        go_wp2_with (go_at_call 28; refine (CK1 _).mono ?_; rintro e w2 ⟨rfl, hw⟩; replace hw := hw.symm; subst hw; clear CK1)
        go_ret2
        exact ⟨⟨false, by rw [HZ0.out]; rfl, by simp [HNO.out]⟩, hBw⟩
end Go.Proofs.Ytpeplnojmogkfaa
