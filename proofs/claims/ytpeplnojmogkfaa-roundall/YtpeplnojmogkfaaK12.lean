/- Circle, walked. -/
import Derived.Test.YtpeplnojmogkfaaK11
namespace Go.Proofs.Ytpeplnojmogkfaa
open Go.RowKit Go.Maps

set_option maxRecDepth 100000 in
set_option maxHeartbeats 8000000 in
theorem Circle_any : FCircle := by
  intro n w
  have CT := fun W => isTeams_any n W
  by_cases h : n < 2 ∨ 16 < n ∨ n % 2 = 1
  · unfold ceZ crZ
    rw [if_pos h, if_pos h]
    rw [show (decide ¬ (n < 2 ∨ 16 < n ∨ n % 2 = 1)) = false by simp [h]] at CT
    clear h
    go_enter Try.func14, Try.ntmps14
    go_wp2_with (go_at_call 25; refine (CT _).mono ?_; rintro e w6 ⟨rfl, hw⟩; replace hw := hw.symm; subst hw; clear CT)
    go_ret2
    exact ⟨⟨_, rfl, none, 0, rfl, Nat.le_refl _, fun i l hi => by simp at hi⟩, Below.refl _ _⟩
  · obtain ⟨N, rfl⟩ : ∃ N : Nat, n = N := ⟨n.toNat, by omega⟩
    unfold ceZ crZ
    rw [if_neg h, if_neg h, Int.toNat_natCast]
    rw [show (decide ¬ ((N : Int) < 2 ∨ (16 : Int) < (N : Int) ∨ (N : Int) % 2 = 1)) = true by simp only [h, not_false_eq_true, decide_true]] at CT
    have hE : Evn N := by unfold Evn; omega
    obtain ⟨V, HV⟩ : ∃ V, Hid (N - 1 = V) := ⟨_, rfl⟩
    have hNV : (N : Int) - 1 = (V : Int) := by rw [← HV.out]; omega
    have hV1 : 1 ≤ V := by rw [← HV.out]; omega
    have hV15 : V ≤ 15 := by rw [← HV.out]; omega
    have HCR : Hid (toZ (dvR V (opQ V ((V - 1) / 2))) = toZ (crL N)) := by show _ = _; rw [← HV.out, dv_circle hE]
    have CO := fun W => opposites_any V W hV15
    have CD := fun (y : Value) (W : World) (hy : Rw W y (prZ (opQ V ((V - 1) / 2)))) => developed_any V (opQ V ((V - 1) / 2)) y W hy hV1 hV15 (by unfold opQ; rw [List.length_map, List.length_range]; omega) fun p hp => by
      obtain ⟨j, hj, rfl⟩ := List.mem_map.1 hp
      have := List.mem_range.1 hj
      simp only
      omega
    have HN2 : 2 ≤ N := by omega
    clear h hE
    go_enter Try.func14, Try.ntmps14
    go_wp2_with (first
      | (go_at_call 25; refine (CT _).mono ?_; rintro e w6 ⟨rfl, hw⟩; replace hw := hw.symm; subst hw; clear CT)
      | (go_at_call 33; refine (CO _).mono ?_; rintro e w1 ⟨⟨y1, rfl, hy1⟩, b1⟩; clear CO; have hrw := hy1.rw; rw [opR_prZ] at hrw; obtain ⟨a1, c1, rfl⟩ := hy1.cap; rw [opR_len] at hrw ⊢; have C2 := CD _ _ hrw; clear CD hy1 hrw)
      | (go_at_call 32; refine C2.mono ?_; rintro e w3 ⟨⟨y, rfl, hy⟩, b3⟩; clear C2))
    go_ret2
    exact ⟨⟨y, rfl, by rw [← HCR.out]; exact hy⟩, b1.trans (b3.mono b1.size)⟩
end Go.Proofs.Ytpeplnojmogkfaa
