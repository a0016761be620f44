/- The law GroupDeepest, walked. -/
import Derived.Test.YtnbkabggmomhlabGLM
import Derived.Test.YtnbkabggmomhlabG49
import Derived.Test.YtnbkabggmomhlabG50
namespace Go.Proofs.Ytnbkabggmomhlab
open Go.RowKit Go.Maps

set_option maxRecDepth 100000 in
set_option maxHeartbeats 4000000 in
theorem law3_any (n : Int) (ls : List (List Int)) (v : Value) (w : World) (hv : Came ls v w) :
    Calls Try.prog 3 #[.int .i64 n, v] w fun e w' => e = .returned (.bool true) ∧ Below w.heap.size w w' := by
  have C0 := lmade_any w
  by_cases h0 : gF n ls = 0
  · obtain ⟨k, ms, rfl, hM, hlen⟩ := hv.mk' h0
    obtain ⟨a, cap, rfl, _⟩ := id hM.sl
    have C1 := fun W (h : Below w.heap.size w W) => Deep_ok k ms _ W (hM.below h)
    have C2 := fun W (h : Below w.heap.size w W) => Order_ok k ms _ W (hM.below h)
    have C3 := fun W (h : Below w.heap.size w W) => Primitive_ok k ms _ W (hM.below h)
    have ho := ord_le hM.isP hM.n7
    have HD : Hid (∀ d, DeepIs k ms d → rowsN k d ∣ ordG k ms ∧ d ≤ k ∧ (2 ≤ d → Prim k ms)) := fun d hd => ⟨hd.dvd hM.isP, hd.1, fun h2 => hd.prim hM.isP h2⟩
    have HR : Hid (∀ t, t ≤ k → rowsN k t ≤ 5040) := rowsN_le hM.n7
    have HR1 : Hid (∀ t, t ≤ k → 1 ≤ rowsN k t) := fun t ht => rowsN_pos ht
    have hk7 := hM.n7
    obtain ⟨r, Hr⟩ : ∃ r, Hid (ms.length = r) := ⟨_, rfl⟩
    rw [Hr.out] at C1 C2 C3 ⊢
    obtain ⟨o, Ho⟩ : ∃ o, Hid (ordG k ms = o) := ⟨_, rfl⟩
    rw [Ho.out] at C2 ho HD
    clear hv h0 hlen hM
    go_enter Try.func3, Try.ntmps3
    go_wp2_with (first
      | (go_at_call 4; refine C0.mono ?_; rintro e w1 ⟨rfl, b1⟩)
      | (go_at_call 5; refine (C1 _ b1).mono ?_; rintro e w2 ⟨⟨d, rfl, hd⟩, b2⟩; have hdd := HD.out d hd; clear hd; replace b2 := Below.next b1 b2)
      | (go_at_call 6; refine (C2 _ b2).mono ?_; rintro e w3 ⟨rfl, b3⟩; replace b3 := Below.next b2 b3)
      | (go_at_call 7; refine (C3 _ b3).mono ?_; rintro e w4 ⟨⟨B, rfl, HB⟩, b4⟩; replace b4 := Below.next b3 b4))
    clear C0 C1 C2 C3
    have hmod := dvd_mod hdd.1
    have hdk := hdd.2.1
    have HPR : Hid (2 ≤ d → B = true) := fun h => HB.2 (hdd.2.2 h)
    have hr1 := HR1.out d hdk
    have hrd := HR.out d hdk
    clear hdd HB HD
    go_loopw [12, 13] (fun al i wr => ∃ j : Nat, i = .int .i64 j ∧ j ≤ d ∧ al = .int .i64 (rowsN k j : Nat) ∧ Below w.heap.size w wr) (fun _ i _ => (d - intOf i).toNat)
    case atStart => exact ⟨0, rfl, by omega, rfl, b4⟩
    case round =>
      clear b1 b2 b3 b4
      obtain ⟨j, rfl, hj, rfl, hB⟩ := hrel
      by_cases hlt : j < d
      · have hji : (j : Int) < d := by omega
        have hdec : decide ((j : Int) < d) = true := by simp; omega
        have h1 := HR.out j (by omega)
        have h2 := HR.out (j + 1) (by omega)
        have e1 : rowsN k (j + 1) = rowsN k j * (k - j) := rfl
        obtain ⟨q, Hq⟩ : ∃ q, Hid (rowsN k j = q) := ⟨_, rfl⟩
        obtain ⟨q', Hq'⟩ : ∃ q', Hid (rowsN k (j + 1) = q') := ⟨_, rfl⟩
        rw [Hq.out] at h1 e1 ⊢
        rw [Hq'.out] at h2 e1
        have hm : (q : Int) * ((k : Int) - (j : Int)) = (q' : Int) := by
          rw [e1]
          have : ((k - j : Nat) : Int) = (k : Int) - (j : Int) := by omega
          rw [← this]; simp
        have hkj : (0 : Int) ≤ (k : Int) - (j : Int) := by omega
        clear e1
        go_wp2
        go_roundw
        case rel => exact ⟨j + 1, by go_num, by omega, by rw [Hq'.out], hB⟩
        case measure => simp [intOf]; omega
      · obtain rfl : j = d := by omega
        have hkd : decide ((j : Int) < (j : Int)) = false := by simp
        obtain ⟨q, Hq⟩ : ∃ q, Hid (rowsN k j = q) := ⟨_, rfl⟩
        rw [Hq.out] at hmod hr1 hrd ⊢
        by_cases h2 : j < 2
        · have hd2 : decide ((j : Int) < 2) = true := by simp; omega
          go_wp2
          go_ret
          exact ⟨rfl, hB⟩
        · have hd2 : decide ((j : Int) < 2) = false := by simp; omega
          obtain rfl : B = true := HPR.out (by omega)
          go_wp2
          go_ret
          exact ⟨rfl, hB⟩
  · obtain ⟨z, Hz⟩ : ∃ z, Hid (gF n ls = z) := ⟨_, rfl⟩
    have hz : z ≠ 0 := by rw [← Hz.out]; exact h0
    have C1 := fun W (h : Below w.heap.size w W) => Deep_bad n ls v W (hv.below h).sls hv.each hv.len z Hz.out hz
    have hzd : (z != 0) = true := by simpa using hz
    obtain ⟨a, cap, rfl, _⟩ := hv.sls
    clear hv h0 hz
    go_enter Try.func3, Try.ntmps3
    go_wp2_with (first
      | (go_at_call 4; refine C0.mono ?_; rintro e w1 ⟨rfl, b1⟩)
      | (go_at_call 5; refine (C1 _ b1).mono ?_; rintro e w2 ⟨rfl, b2⟩; replace b2 := Below.next b1 b2))
    go_ret
    exact ⟨rfl, b2⟩

end Go.Proofs.Ytnbkabggmomhlab
