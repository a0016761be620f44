/- The law RoundChecks. -/
import Derived.Test.YtpeplnojmogkfaaLA
namespace Go.Proofs.Ytpeplnojmogkfaa
open Go.RowKit

set_option maxRecDepth 100000 in
set_option maxHeartbeats 16000000 in
theorem Checks_law (FC : FCheck) (FP : FPerfect) (FR : FRooms) (n : Int) (A B : List (List Int)) (u v : Value) (w : World) (hu : RwC w u A) (hv : RwC w v B) :
    Calls Try.prog 3 #[.int .i64 n, u, v] w fun e w' => e = .returned (.bool true) ∧ Below w.heap.size w w' := by
  have HU : Hid (∀ W, Below w.heap.size w W → RwC W u A) := fun W b => hu.below b
  have HV : Hid (∀ W, Below w.heap.size w W → RwC W v B) := fun W b => hv.below b
  obtain ⟨ua, um, uc, rfl⟩ := hu.form
  obtain ⟨va, vm, vc, rfl⟩ := hv.form
  have C8 : ∀ W, Below w.heap.size w W → Calls Try.prog 8 #[.int .i64 n, .slice ua um uc] W fun e w' => e = .returned (.int .i64 (rF n A : Int)) ∧ Below W.heap.size W w' := fun W b => RoundsFault_any n A _ W (HU.out W b).rw (HU.out W b).len (HU.out W b).all
  have C9 : ∀ W, Below w.heap.size w W → Calls Try.prog 9 #[.int .i64 n, .slice ua um uc] W fun e w' => e = .returned (.int .i64 (rF n A : Int)) ∧ Below W.heap.size W w' := fun W b => FC n A _ W (HU.out W b)
  have C10 : ∀ W, Below w.heap.size w W → Calls Try.prog 10 #[.int .i64 n, .slice ua um uc] W fun e w' => (∃ b : Bool, e = .returned (.tuple #[.bool b, .int .i64 (rF n A : Int)]) ∧ (b = true ↔ PfcZ n A)) ∧ Below W.heap.size W w' := fun W b => FP n A _ W (HU.out W b)
  have C12 : ∀ W, Below w.heap.size w W → Calls Try.prog 12 #[.int .i64 n, .slice ua um uc, .slice va vm vc] W fun e w' => (∃ b : Bool, e = .returned (.tuple #[.bool b, .int .i64 (rF2 n A B : Int)]) ∧ (b = true ↔ RmsZ n A B)) ∧ Below W.heap.size W w' := fun W b => FR n A B _ _ W (HU.out W b) (HV.out W b)
  have C8b : ∀ W, Below w.heap.size w W → Calls Try.prog 8 #[.int .i64 n, .slice va vm vc] W fun e w' => e = .returned (.int .i64 (rF n B : Int)) ∧ Below W.heap.size W w' := fun W b => RoundsFault_any n B _ W (HV.out W b).rw (HV.out W b).len (HV.out W b).all
  have C11 : rF n A = 0 → ∀ W, Below w.heap.size w W → Calls Try.prog 11 #[.int .i64 n, .slice ua um uc] W fun e w' => (∃ b : Bool, e = .returned (.bool b) ∧ (b = true ↔ PfcZ n A)) ∧ Below W.heap.size W w' := fun h W b => by
    have hr := (HU.out W b).rw
    obtain ⟨N, L, rfl, rfl, hG⟩ := rF_ok h
    rw [show (L.map fun s => s.map Int.ofNat) = toZ L from rfl] at hr ⊢
    rw [pfcZ_good hG]
    exact PerfectOf_any N L _ W hr hG
  have C13 : rF n A = 0 → rF n B = 0 → ∀ W, Below w.heap.size w W → Calls Try.prog 13 #[.int .i64 n, .slice ua um uc, .slice va vm vc] W fun e w' => (∃ b : Bool, e = .returned (.bool b) ∧ (b = true ↔ RmsZ n A B)) ∧ Below W.heap.size W w' := fun h k W b => by
    have hr := (HU.out W b).rw
    have hs := (HV.out W b).rw
    obtain ⟨N, L, rfl, rfl, hG⟩ := rF_ok h
    obtain ⟨N', M, e, rfl, hH⟩ := rF_ok k
    obtain rfl : N = N' := by omega
    rw [show (L.map fun s => s.map Int.ofNat) = toZ L from rfl] at hr ⊢
    rw [show (M.map fun s => s.map Int.ofNat) = toZ M from rfl] at hs ⊢
    rw [rmsZ_good hG hH]
    exact RoomsOf_any N L M _ _ W hr hs hG hH
  have H8 : Hid _ := C8
  have H9 : Hid _ := C9
  have H10 : Hid _ := C10
  have H12 : Hid _ := C12
  have H8b : Hid _ := C8b
  have HP0 : Hid (rF n A ≠ 0 → ¬ PfcZ n A) := fun h => pfcZ_bad h
  have HR0 : Hid (rF2 n A B ≠ 0 → ¬ RmsZ n A B) := fun h => rmsZ_bad h
  have D8 := C8 w (Below.refl _ _)
  clear C8 C9 C10 C12 C8b FC FP FR hu hv HU HV
  by_cases ha : rF n A = 0
  · have h11 := C11 ha
    have HF2 : Hid (rF2 n A B = rF n B) := by show _ = _; unfold rF2; rw [if_neg (by rw [ha]; simp)]
    have H13 : Hid (rF n B = 0 → ∀ W, Below w.heap.size w W → Calls Try.prog 13 #[.int .i64 n, .slice ua um uc, .slice va vm vc] W fun e w' => (∃ b : Bool, e = .returned (.bool b) ∧ (b = true ↔ RmsZ n A B)) ∧ Below W.heap.size W w') := C13 ha
    have H11 : Hid (∀ W, Below w.heap.size w W → Calls Try.prog 11 #[.int .i64 n, .slice ua um uc] W fun e w' => (∃ b : Bool, e = .returned (.bool b) ∧ (b = true ↔ PfcZ n A)) ∧ Below W.heap.size W w') := h11
    clear C11 C13 h11
    simp only [ha, HF2.out] at D8 H9 H10 H12 HR0
    obtain ⟨z, Hz⟩ : ∃ z, Hid (rF n B = z) := ⟨_, rfl⟩
    rw [Hz.out] at H8b H12 H13 HR0
    clear ha HP0 HF2
    go_enter Try.func3, Try.ntmps3
    go_wp2_with (first
      | (go_at_call 8; refine D8.mono ?_; rintro e w1 ⟨rfl, b1⟩; clear D8; have D9 := H9.out w1 b1; clear H9)
      | (go_at_call 9; refine D9.mono ?_; rintro e w2 ⟨rfl, b2⟩; clear D9; replace b2 := Below.next b1 b2; clear b1; have D10 := H10.out w2 b2; clear H10)
      | (go_at_call 10; refine D10.mono ?_; rintro e w3 ⟨⟨p, rfl, hp⟩, b3⟩; clear D10; replace b3 := Below.next b2 b3; clear b2; have D11 := H11.out w3 b3; clear H11)
      | (go_at_call 11; refine D11.mono ?_; rintro e w4 ⟨⟨p', rfl, hp'⟩, b4⟩; clear D11; obtain rfl : p = p' := Bool.eq_iff_iff.2 (hp.trans hp'.symm); clear hp hp'; replace b4 := Below.next b3 b4; clear b3; have D8b := H8b.out w4 b4; clear H8b)
      | (go_at_call 8; refine D8b.mono ?_; rintro e w5 ⟨rfl, b5⟩; clear D8b; replace b5 := Below.next b4 b5; clear b4; have D12 := H12.out w5 b5; clear H12))
    refine D12.mono ?_
    rintro e w6 ⟨⟨q, rfl, hq⟩, b6⟩
    clear D12
    replace b6 := Below.next b5 b6
    clear b5
    by_cases hz : z = 0
    · have D13 := H13.out hz w6 b6
      subst hz
      have h0 : (((0 : Nat) : Int) != 0) = false := by simp
      clear H13 HR0
      go_wp2_with (go_at_call 13; refine D13.mono ?_; rintro e w7 ⟨⟨q', rfl, hq'⟩, b7⟩; clear D13; obtain rfl : q = q' := Bool.eq_iff_iff.2 (hq.trans hq'.symm); clear hq hq'; replace b7 := Below.next b6 b7; clear b6)
      go_ret
      exact ⟨by cases q <;> rfl, b7⟩
    · have hne : ((z : Int) != 0) = true := by simp; omega
      obtain rfl : q = false := by
        cases q with
        | false => rfl
        | true => exact absurd (hq.1 rfl) (HR0.out hz)
      clear H13 HR0 hq hz
      go_wp2
      go_ret
      exact ⟨by first | rfl | simp, b6⟩
  · have HF2 : Hid (rF2 n A B = rF n A) := by show _ = _; unfold rF2; rw [if_pos ha]
    obtain ⟨z, Hz⟩ : ∃ z, Hid (rF n A = z) := ⟨_, rfl⟩
    simp only [HF2.out, Hz.out] at D8 H9 H10 H12 HR0 HP0
    rw [Hz.out] at ha
    have hne : ((z : Int) != 0) = true := by simp; omega
    have heq : ((z : Int) == 0) = false := by simp; omega
    clear C11 C13 H8b H8 HF2 Hz
    go_enter Try.func3, Try.ntmps3
    go_wp2_with (first
      | (go_at_call 8; refine D8.mono ?_; rintro e w1 ⟨rfl, b1⟩; clear D8; have D9 := H9.out w1 b1; clear H9)
      | (go_at_call 9; refine D9.mono ?_; rintro e w2 ⟨rfl, b2⟩; clear D9; replace b2 := Below.next b1 b2; clear b1; have D10 := H10.out w2 b2; clear H10)
      | (go_at_call 10; refine D10.mono ?_; rintro e w3 ⟨⟨p, rfl, hp⟩, b3⟩; clear D10; replace b3 := Below.next b2 b3; clear b2; obtain rfl : p = false := Bool.eq_false_iff.2 (fun h => HP0.out ha (hp.1 h)); clear hp; have D12 := H12.out w3 b3; clear H12)
      | (go_at_call 12; refine D12.mono ?_; rintro e w4 ⟨⟨q, rfl, hq⟩, b4⟩; clear D12; replace b4 := Below.next b3 b4; clear b3; obtain rfl : q = false := Bool.eq_false_iff.2 (fun h => HR0.out ha (hq.1 h)); clear hq))
    go_ret
    exact ⟨by first | rfl | simp, b4⟩
end Go.Proofs.Ytpeplnojmogkfaa
