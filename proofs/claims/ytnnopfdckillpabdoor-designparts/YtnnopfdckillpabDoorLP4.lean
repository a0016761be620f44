/- The law DesignParts: its walks. -/
import Derived.Test.YtnnopfdckillpabDoorLP
namespace Go.Proofs.YtnnopfdckillpabDoor
open Go.RowKit

set_option maxRecDepth 100000 in
set_option maxHeartbeats 4000000 in
theorem Parts_e_ne (v k l n dp dl : Nat) (q r : Int) (R4 _R6 : World → Value → Prop) (_rp _rl : Nat) (u : Value) (w : World) (hu : ∃ a c, u = .slice a n c) (_hv : v ≤ 40) (hk : 2 ≤ k) (hkv : k < v) (hnv : n ≠ v)
    (C3 : ∀ W, Below w.heap.size w W → Calls Tryd.prog 8 #[.agg #[.int .i64 (v : Int), u], .int .i64 2] W fun e w' => e = .returned (.tuple #[.int .i64 (k : Int), .int .i64 (l : Int), .int .i64 0]) ∧ Below W.heap.size W w')
    (R4s : ∀ W W' y, R4 W y → Below W.heap.size W W' → R4 W' y)
    (C4 : ∀ W, Below w.heap.size w W → Calls Tryd.prog 9 #[.agg #[.int .i64 (v : Int), u], .int .i64 q] W fun e w' => ∃ ya yc, e = .returned (.tuple #[.agg #[.int .i64 (dp : Int), .slice ya dl yc], .int .i64 1]) ∧ R4 w' (.slice ya dl yc) ∧ Below W.heap.size W w') :
    Calls Tryd.prog 4 #[.agg #[.int .i64 (v : Int), u], .int .i64 q, .int .i64 r] w fun e w' => e = .returned (.bool true) ∧ Below w.heap.size w w' := by
  have HC : Hid (∀ W, Below (w.alloc (.cells #[.int .i64 (v : Int), u] 24)).heap.size (w.alloc (.cells #[.int .i64 (v : Int), u] 24)) W → W.cell? ⟨w.heap.size, 0, none⟩ = some (.int .i64 (v : Int)) ∧ W.cell? ⟨w.heap.size, 1, none⟩ = some u) := des_box v u w
  obtain ⟨w0, Hw0⟩ : ∃ w0, Hid (w0 = w.alloc (.cells #[.int .i64 (v : Int), u] 24)) := ⟨_, rfl⟩
  rw [← Hw0.out] at HC
  have hb0 : Below w.heap.size w w0 := by rw [Hw0.out]; exact balloc _ _
  have hb0' : Hid (Below w.heap.size w w0) := hb0
  have C1 := fact_any w0
  have C3 : Hid (∀ W, Below w0.heap.size w0 W → Calls Tryd.prog 8 #[.agg #[.int .i64 (v : Int), u], .int .i64 2] W fun e w' => e = .returned (.tuple #[.int .i64 (k : Int), .int .i64 (l : Int), .int .i64 0]) ∧ Below W.heap.size W w') := fun W hW => C3 W (Below.next hb0 hW)
  have HR4 : Hid (∀ W W' y, R4 W y → Below W.heap.size W W' → R4 W' y) := R4s
  have C4 : Hid (∀ W, Below w0.heap.size w0 W → Calls Tryd.prog 9 #[.agg #[.int .i64 (v : Int), u], .int .i64 q] W fun e w' => ∃ ya yc, e = .returned (.tuple #[.agg #[.int .i64 (dp : Int), .slice ya dl yc], .int .i64 1]) ∧ R4 w' (.slice ya dl yc) ∧ Below W.heap.size W w') := fun W hW => C4 W (Below.next hb0 hW)
  obtain ⟨x0, x1⟩ := HC.out _ (Below.refl _ _)
  rw [Hw0.out] at x0 x1
  obtain ⟨ua, uc, rfl⟩ := hu
  have hd1 : decide ((k : Int) < 2) = false := by simp; omega
  have hd2 : decide ((v : Int) ≤ (k : Int)) = false := by simp; omega
  have hd3 : decide (v ≤ k) = false := decide_eq_false (by omega)
  have hd4 : ((n : Int) != (v : Int)) = true := by simp; omega
  have hd4' : (n != v) = true := by simp; omega
  clear hnv
  clear hb0 R4s
  go_enter Tryd.func4, Tryd.ntmps4
  go_wp2_with (first
    | (go_at_call 5; rw [← Hw0.out]; refine C1.mono ?_; rintro e w1 ⟨rfl, hb1⟩; clear C1; obtain ⟨y0, y1⟩ := HC.out _ hb1)
    | (go_at_call 9; refine (C4.out _ hb3).mono ?_; rintro e w4 ⟨ya, yc, rfl, hy, hb4⟩; replace hb4 := Below.next hb3 hb4; have bb := balloc w4 (.cells #[.int .i64 (dp : Int), .slice ya dl yc] 24); have hb5 := Below.next hb4 bb; have HYR : Hid (R4 (w4.alloc (.cells #[.int .i64 (dp : Int), .slice ya dl yc] 24)) (.slice ya dl yc)) := HR4.out _ _ _ hy bb; obtain ⟨p0, p1⟩ := des_box dp (.slice ya dl yc) w4 _ (Below.refl _ _); clear hy; obtain ⟨r0, r1⟩ := HC.out _ hb5)
    | (go_at_call 8; refine (C3.out _ hb1).mono ?_; rintro e w3 ⟨rfl, hb3⟩; replace hb3 := Below.next hb1 hb3; obtain ⟨q0, q1⟩ := HC.out _ hb3))
  go_ret
  exact ⟨rfl, Below.next hb0'.out hb5⟩

set_option maxRecDepth 100000 in
set_option maxHeartbeats 4000000 in
theorem Parts_e_few (v k l n dp dl : Nat) (q r : Int) (R4 _R6 : World → Value → Prop) (_rp _rl : Nat) (u : Value) (w : World) (hu : ∃ a c, u = .slice a n c) (hv : v ≤ 40) (hk : 2 ≤ k) (hkv : k < v) (hnv : n = v) (hfew : (v : Int) - k < 2)
    (C3 : ∀ W, Below w.heap.size w W → Calls Tryd.prog 8 #[.agg #[.int .i64 (v : Int), u], .int .i64 2] W fun e w' => e = .returned (.tuple #[.int .i64 (k : Int), .int .i64 (l : Int), .int .i64 0]) ∧ Below W.heap.size W w')
    (R4s : ∀ W W' y, R4 W y → Below W.heap.size W W' → R4 W' y)
    (C4 : ∀ W, Below w.heap.size w W → Calls Tryd.prog 9 #[.agg #[.int .i64 (v : Int), u], .int .i64 q] W fun e w' => ∃ ya yc, e = .returned (.tuple #[.agg #[.int .i64 (dp : Int), .slice ya dl yc], .int .i64 1]) ∧ R4 w' (.slice ya dl yc) ∧ Below W.heap.size W w') :
    Calls Tryd.prog 4 #[.agg #[.int .i64 (v : Int), u], .int .i64 q, .int .i64 r] w fun e w' => e = .returned (.bool true) ∧ Below w.heap.size w w' := by
  have HC : Hid (∀ W, Below (w.alloc (.cells #[.int .i64 (v : Int), u] 24)).heap.size (w.alloc (.cells #[.int .i64 (v : Int), u] 24)) W → W.cell? ⟨w.heap.size, 0, none⟩ = some (.int .i64 (v : Int)) ∧ W.cell? ⟨w.heap.size, 1, none⟩ = some u) := des_box v u w
  obtain ⟨w0, Hw0⟩ : ∃ w0, Hid (w0 = w.alloc (.cells #[.int .i64 (v : Int), u] 24)) := ⟨_, rfl⟩
  rw [← Hw0.out] at HC
  have hb0 : Below w.heap.size w w0 := by rw [Hw0.out]; exact balloc _ _
  have hb0' : Hid (Below w.heap.size w w0) := hb0
  have C1 := fact_any w0
  have C3 : Hid (∀ W, Below w0.heap.size w0 W → Calls Tryd.prog 8 #[.agg #[.int .i64 (v : Int), u], .int .i64 2] W fun e w' => e = .returned (.tuple #[.int .i64 (k : Int), .int .i64 (l : Int), .int .i64 0]) ∧ Below W.heap.size W w') := fun W hW => C3 W (Below.next hb0 hW)
  have HR4 : Hid (∀ W W' y, R4 W y → Below W.heap.size W W' → R4 W' y) := R4s
  have C4 : Hid (∀ W, Below w0.heap.size w0 W → Calls Tryd.prog 9 #[.agg #[.int .i64 (v : Int), u], .int .i64 q] W fun e w' => ∃ ya yc, e = .returned (.tuple #[.agg #[.int .i64 (dp : Int), .slice ya dl yc], .int .i64 1]) ∧ R4 w' (.slice ya dl yc) ∧ Below W.heap.size W w') := fun W hW => C4 W (Below.next hb0 hW)
  obtain ⟨x0, x1⟩ := HC.out _ (Below.refl _ _)
  rw [Hw0.out] at x0 x1
  obtain ⟨ua, uc, rfl⟩ := hu
  have hd1 : decide ((k : Int) < 2) = false := by simp; omega
  have hd2 : decide ((v : Int) ≤ (k : Int)) = false := by simp; omega
  have hd3 : decide (v ≤ k) = false := decide_eq_false (by omega)
  subst hnv
  have hd5 : decide ((n : Int) - (k : Int) < 2) = true := decide_eq_true hfew
  clear hb0 R4s
  go_enter Tryd.func4, Tryd.ntmps4
  go_wp2_with (first
    | (go_at_call 5; rw [← Hw0.out]; refine C1.mono ?_; rintro e w1 ⟨rfl, hb1⟩; clear C1; obtain ⟨y0, y1⟩ := HC.out _ hb1)
    | (go_at_call 9; refine (C4.out _ hb3).mono ?_; rintro e w4 ⟨ya, yc, rfl, hy, hb4⟩; replace hb4 := Below.next hb3 hb4; have bb := balloc w4 (.cells #[.int .i64 (dp : Int), .slice ya dl yc] 24); have hb5 := Below.next hb4 bb; have HYR : Hid (R4 (w4.alloc (.cells #[.int .i64 (dp : Int), .slice ya dl yc] 24)) (.slice ya dl yc)) := HR4.out _ _ _ hy bb; obtain ⟨p0, p1⟩ := des_box dp (.slice ya dl yc) w4 _ (Below.refl _ _); clear hy; obtain ⟨r0, r1⟩ := HC.out _ hb5)
    | (go_at_call 8; refine (C3.out _ hb1).mono ?_; rintro e w3 ⟨rfl, hb3⟩; replace hb3 := Below.next hb1 hb3; obtain ⟨q0, q1⟩ := HC.out _ hb3))
  go_ret
  exact ⟨rfl, Below.next hb0'.out hb5⟩

set_option maxRecDepth 100000 in
set_option maxHeartbeats 4000000 in
theorem Parts_e_lo (v k l n dp dl : Nat) (q r : Int) (R4 R6 : World → Value → Prop) (rp rl : Nat) (u : Value) (w : World) (hu : ∃ a c, u = .slice a n c) (hv : v ≤ 40) (hk : 2 ≤ k) (hkv : k < v) (hnv : n = v) (hfew : k + 2 ≤ v) (hq : r < 0)
    (C3 : ∀ W, Below w.heap.size w W → Calls Tryd.prog 8 #[.agg #[.int .i64 (v : Int), u], .int .i64 2] W fun e w' => e = .returned (.tuple #[.int .i64 (k : Int), .int .i64 (l : Int), .int .i64 0]) ∧ Below W.heap.size W w')
    (R4s : ∀ W W' y, R4 W y → Below W.heap.size W W' → R4 W' y)
    (C4 : ∀ W, Below w.heap.size w W → Calls Tryd.prog 9 #[.agg #[.int .i64 (v : Int), u], .int .i64 q] W fun e w' => ∃ ya yc, e = .returned (.tuple #[.agg #[.int .i64 (dp : Int), .slice ya dl yc], .int .i64 1]) ∧ R4 w' (.slice ya dl yc) ∧ Below W.heap.size W w')
    (R6s : ∀ W W' y, R6 W y → Below W.heap.size W W' → R6 W' y)
    (C6 : ∀ W, Below w.heap.size w W → Calls Tryd.prog 10 #[.agg #[.int .i64 (v : Int), u], .int .i64 r] W fun e w' => ∃ ya yc, e = .returned (.tuple #[.agg #[.int .i64 (rp : Int), .slice ya rl yc], .int .i64 1]) ∧ R6 w' (.slice ya rl yc) ∧ Below W.heap.size W w') :
    Calls Tryd.prog 4 #[.agg #[.int .i64 (v : Int), u], .int .i64 q, .int .i64 r] w fun e w' => e = .returned (.bool true) ∧ Below w.heap.size w w' := by
  have HC : Hid (∀ W, Below (w.alloc (.cells #[.int .i64 (v : Int), u] 24)).heap.size (w.alloc (.cells #[.int .i64 (v : Int), u] 24)) W → W.cell? ⟨w.heap.size, 0, none⟩ = some (.int .i64 (v : Int)) ∧ W.cell? ⟨w.heap.size, 1, none⟩ = some u) := des_box v u w
  obtain ⟨w0, Hw0⟩ : ∃ w0, Hid (w0 = w.alloc (.cells #[.int .i64 (v : Int), u] 24)) := ⟨_, rfl⟩
  rw [← Hw0.out] at HC
  have hb0 : Below w.heap.size w w0 := by rw [Hw0.out]; exact balloc _ _
  have hb0' : Hid (Below w.heap.size w w0) := hb0
  have C1 := fact_any w0
  have C3 : Hid (∀ W, Below w0.heap.size w0 W → Calls Tryd.prog 8 #[.agg #[.int .i64 (v : Int), u], .int .i64 2] W fun e w' => e = .returned (.tuple #[.int .i64 (k : Int), .int .i64 (l : Int), .int .i64 0]) ∧ Below W.heap.size W w') := fun W hW => C3 W (Below.next hb0 hW)
  have HR4 : Hid (∀ W W' y, R4 W y → Below W.heap.size W W' → R4 W' y) := R4s
  have C4 : Hid (∀ W, Below w0.heap.size w0 W → Calls Tryd.prog 9 #[.agg #[.int .i64 (v : Int), u], .int .i64 q] W fun e w' => ∃ ya yc, e = .returned (.tuple #[.agg #[.int .i64 (dp : Int), .slice ya dl yc], .int .i64 1]) ∧ R4 w' (.slice ya dl yc) ∧ Below W.heap.size W w') := fun W hW => C4 W (Below.next hb0 hW)
  have HR6 : Hid (∀ W W' y, R6 W y → Below W.heap.size W W' → R6 W' y) := R6s
  have C6 : Hid (∀ W, Below w0.heap.size w0 W → Calls Tryd.prog 10 #[.agg #[.int .i64 (v : Int), u], .int .i64 r] W fun e w' => ∃ ya yc, e = .returned (.tuple #[.agg #[.int .i64 (rp : Int), .slice ya rl yc], .int .i64 1]) ∧ R6 w' (.slice ya rl yc) ∧ Below W.heap.size W w') := fun W hW => C6 W (Below.next hb0 hW)
  obtain ⟨x0, x1⟩ := HC.out _ (Below.refl _ _)
  rw [Hw0.out] at x0 x1
  obtain ⟨ua, uc, rfl⟩ := hu
  have hd1 : decide ((k : Int) < 2) = false := by simp; omega
  have hd2 : decide ((v : Int) ≤ (k : Int)) = false := by simp; omega
  have hd3 : decide (v ≤ k) = false := decide_eq_false (by omega)
  subst hnv
  have hd5 : decide ((n : Int) - (k : Int) < 2) = false := decide_eq_false (by omega)
  have hd6 : decide (r < 0) = true := decide_eq_true hq
  clear hb0 R4s R6s
  clear hq
  go_enter Tryd.func4, Tryd.ntmps4
  go_wp2_with (first
    | (go_at_call 5; rw [← Hw0.out]; refine C1.mono ?_; rintro e w1 ⟨rfl, hb1⟩; clear C1; obtain ⟨y0, y1⟩ := HC.out _ hb1)
    | (go_at_call 9; refine (C4.out _ hb3).mono ?_; rintro e w4 ⟨ya, yc, rfl, hy, hb4⟩; replace hb4 := Below.next hb3 hb4; have bb := balloc w4 (.cells #[.int .i64 (dp : Int), .slice ya dl yc] 24); have hb5 := Below.next hb4 bb; have HYR : Hid (R4 (w4.alloc (.cells #[.int .i64 (dp : Int), .slice ya dl yc] 24)) (.slice ya dl yc)) := HR4.out _ _ _ hy bb; obtain ⟨p0, p1⟩ := des_box dp (.slice ya dl yc) w4 _ (Below.refl _ _); clear hy; obtain ⟨r0, r1⟩ := HC.out _ hb5)
    | (go_at_call 10; refine (C6.out _ hb5).mono ?_; rintro e w7 ⟨za, zc, rfl, hz, hb7⟩; replace hb7 := Below.next hb5 hb7; have bz := balloc w7 (.cells #[.int .i64 (rp : Int), .slice za rl zc] 24); have hb8 := Below.next hb7 bz; have HZR : Hid (R6 (w7.alloc (.cells #[.int .i64 (rp : Int), .slice za rl zc] 24)) (.slice za rl zc)) := HR6.out _ _ _ hz bz; obtain ⟨t0, t1⟩ := des_box rp (.slice za rl zc) w7 _ (Below.refl _ _); clear hz; obtain ⟨m0, m1⟩ := HC.out _ hb8)
    | (go_at_call 8; refine (C3.out _ hb1).mono ?_; rintro e w3 ⟨rfl, hb3⟩; replace hb3 := Below.next hb1 hb3; obtain ⟨q0, q1⟩ := HC.out _ hb3))
  go_ret
  exact ⟨rfl, Below.next hb0'.out hb8⟩

set_option maxRecDepth 100000 in
set_option maxHeartbeats 4000000 in
theorem Parts_e_hi (v k l n dp dl : Nat) (q r : Int) (R4 R6 : World → Value → Prop) (rp rl : Nat) (u : Value) (w : World) (hu : ∃ a c, u = .slice a n c) (hv : v ≤ 40) (hk : 2 ≤ k) (hkv : k < v) (hnv : n = v) (hfew : k + 2 ≤ v) (hq : (n : Int) ≤ r)
    (C3 : ∀ W, Below w.heap.size w W → Calls Tryd.prog 8 #[.agg #[.int .i64 (v : Int), u], .int .i64 2] W fun e w' => e = .returned (.tuple #[.int .i64 (k : Int), .int .i64 (l : Int), .int .i64 0]) ∧ Below W.heap.size W w')
    (R4s : ∀ W W' y, R4 W y → Below W.heap.size W W' → R4 W' y)
    (C4 : ∀ W, Below w.heap.size w W → Calls Tryd.prog 9 #[.agg #[.int .i64 (v : Int), u], .int .i64 q] W fun e w' => ∃ ya yc, e = .returned (.tuple #[.agg #[.int .i64 (dp : Int), .slice ya dl yc], .int .i64 1]) ∧ R4 w' (.slice ya dl yc) ∧ Below W.heap.size W w')
    (R6s : ∀ W W' y, R6 W y → Below W.heap.size W W' → R6 W' y)
    (C6 : ∀ W, Below w.heap.size w W → Calls Tryd.prog 10 #[.agg #[.int .i64 (v : Int), u], .int .i64 r] W fun e w' => ∃ ya yc, e = .returned (.tuple #[.agg #[.int .i64 (rp : Int), .slice ya rl yc], .int .i64 1]) ∧ R6 w' (.slice ya rl yc) ∧ Below W.heap.size W w') :
    Calls Tryd.prog 4 #[.agg #[.int .i64 (v : Int), u], .int .i64 q, .int .i64 r] w fun e w' => e = .returned (.bool true) ∧ Below w.heap.size w w' := by
  have HC : Hid (∀ W, Below (w.alloc (.cells #[.int .i64 (v : Int), u] 24)).heap.size (w.alloc (.cells #[.int .i64 (v : Int), u] 24)) W → W.cell? ⟨w.heap.size, 0, none⟩ = some (.int .i64 (v : Int)) ∧ W.cell? ⟨w.heap.size, 1, none⟩ = some u) := des_box v u w
  obtain ⟨w0, Hw0⟩ : ∃ w0, Hid (w0 = w.alloc (.cells #[.int .i64 (v : Int), u] 24)) := ⟨_, rfl⟩
  rw [← Hw0.out] at HC
  have hb0 : Below w.heap.size w w0 := by rw [Hw0.out]; exact balloc _ _
  have hb0' : Hid (Below w.heap.size w w0) := hb0
  have C1 := fact_any w0
  have C3 : Hid (∀ W, Below w0.heap.size w0 W → Calls Tryd.prog 8 #[.agg #[.int .i64 (v : Int), u], .int .i64 2] W fun e w' => e = .returned (.tuple #[.int .i64 (k : Int), .int .i64 (l : Int), .int .i64 0]) ∧ Below W.heap.size W w') := fun W hW => C3 W (Below.next hb0 hW)
  have HR4 : Hid (∀ W W' y, R4 W y → Below W.heap.size W W' → R4 W' y) := R4s
  have C4 : Hid (∀ W, Below w0.heap.size w0 W → Calls Tryd.prog 9 #[.agg #[.int .i64 (v : Int), u], .int .i64 q] W fun e w' => ∃ ya yc, e = .returned (.tuple #[.agg #[.int .i64 (dp : Int), .slice ya dl yc], .int .i64 1]) ∧ R4 w' (.slice ya dl yc) ∧ Below W.heap.size W w') := fun W hW => C4 W (Below.next hb0 hW)
  have HR6 : Hid (∀ W W' y, R6 W y → Below W.heap.size W W' → R6 W' y) := R6s
  have C6 : Hid (∀ W, Below w0.heap.size w0 W → Calls Tryd.prog 10 #[.agg #[.int .i64 (v : Int), u], .int .i64 r] W fun e w' => ∃ ya yc, e = .returned (.tuple #[.agg #[.int .i64 (rp : Int), .slice ya rl yc], .int .i64 1]) ∧ R6 w' (.slice ya rl yc) ∧ Below W.heap.size W w') := fun W hW => C6 W (Below.next hb0 hW)
  obtain ⟨x0, x1⟩ := HC.out _ (Below.refl _ _)
  rw [Hw0.out] at x0 x1
  obtain ⟨ua, uc, rfl⟩ := hu
  have hd1 : decide ((k : Int) < 2) = false := by simp; omega
  have hd2 : decide ((v : Int) ≤ (k : Int)) = false := by simp; omega
  have hd3 : decide (v ≤ k) = false := decide_eq_false (by omega)
  subst hnv
  have hd5 : decide ((n : Int) - (k : Int) < 2) = false := decide_eq_false (by omega)
  have hd6 : decide (r < 0) = false := decide_eq_false (by omega)
  have hd7 : decide (r ≥ (n : Int)) = true := decide_eq_true hq
  have hd8 : decide ((n : Int) ≤ r) = true := decide_eq_true hq
  clear hb0 R4s R6s
  clear hq
  go_enter Tryd.func4, Tryd.ntmps4
  go_wp2_with (first
    | (go_at_call 5; rw [← Hw0.out]; refine C1.mono ?_; rintro e w1 ⟨rfl, hb1⟩; clear C1; obtain ⟨y0, y1⟩ := HC.out _ hb1)
    | (go_at_call 9; refine (C4.out _ hb3).mono ?_; rintro e w4 ⟨ya, yc, rfl, hy, hb4⟩; replace hb4 := Below.next hb3 hb4; have bb := balloc w4 (.cells #[.int .i64 (dp : Int), .slice ya dl yc] 24); have hb5 := Below.next hb4 bb; have HYR : Hid (R4 (w4.alloc (.cells #[.int .i64 (dp : Int), .slice ya dl yc] 24)) (.slice ya dl yc)) := HR4.out _ _ _ hy bb; obtain ⟨p0, p1⟩ := des_box dp (.slice ya dl yc) w4 _ (Below.refl _ _); clear hy; obtain ⟨r0, r1⟩ := HC.out _ hb5)
    | (go_at_call 10; refine (C6.out _ hb5).mono ?_; rintro e w7 ⟨za, zc, rfl, hz, hb7⟩; replace hb7 := Below.next hb5 hb7; have bz := balloc w7 (.cells #[.int .i64 (rp : Int), .slice za rl zc] 24); have hb8 := Below.next hb7 bz; have HZR : Hid (R6 (w7.alloc (.cells #[.int .i64 (rp : Int), .slice za rl zc] 24)) (.slice za rl zc)) := HR6.out _ _ _ hz bz; obtain ⟨t0, t1⟩ := des_box rp (.slice za rl zc) w7 _ (Below.refl _ _); clear hz; obtain ⟨m0, m1⟩ := HC.out _ hb8)
    | (go_at_call 8; refine (C3.out _ hb1).mono ?_; rintro e w3 ⟨rfl, hb3⟩; replace hb3 := Below.next hb1 hb3; obtain ⟨q0, q1⟩ := HC.out _ hb3))
  go_ret
  exact ⟨rfl, Below.next hb0'.out hb8⟩

set_option maxRecDepth 100000 in
set_option maxHeartbeats 4000000 in
theorem Parts_e_ok (v k l n dp dl : Nat) (q r : Int) (R4 R6 : World → Value → Prop) (rp rl : Nat) (u : Value) (w : World) (hu : ∃ a c, u = .slice a n c) (hv : v ≤ 40) (hk : 2 ≤ k) (hkv : k < v) (hnv : n = v) (hfew : k + 2 ≤ v) (hlk : l ≤ k)
    (C3 : ∀ W, Below w.heap.size w W → Calls Tryd.prog 8 #[.agg #[.int .i64 (v : Int), u], .int .i64 2] W fun e w' => e = .returned (.tuple #[.int .i64 (k : Int), .int .i64 (l : Int), .int .i64 0]) ∧ Below W.heap.size W w')
    (R4s : ∀ W W' y, R4 W y → Below W.heap.size W W' → R4 W' y)
    (C4 : ∀ W, Below w.heap.size w W → Calls Tryd.prog 9 #[.agg #[.int .i64 (v : Int), u], .int .i64 q] W fun e w' => ∃ ya yc, e = .returned (.tuple #[.agg #[.int .i64 (dp : Int), .slice ya dl yc], .int .i64 1]) ∧ R4 w' (.slice ya dl yc) ∧ Below W.heap.size W w')
    (R6s : ∀ W W' y, R6 W y → Below W.heap.size W W' → R6 W' y)
    (C6 : ∀ W, Below w.heap.size w W → Calls Tryd.prog 10 #[.agg #[.int .i64 (v : Int), u], .int .i64 r] W fun e w' => ∃ ya yc, e = .returned (.tuple #[.agg #[.int .i64 (rp : Int), .slice ya rl yc], .int .i64 0]) ∧ R6 w' (.slice ya rl yc) ∧ Below W.heap.size W w')
    (C7 : ∀ W y, R6 W y → Calls Tryd.prog 8 #[.agg #[.int .i64 (rp : Int), y], .int .i64 2] W fun e w' => e = .returned (.tuple #[.int .i64 ((k : Int) - (l : Int)), .int .i64 (l : Int), .int .i64 0]) ∧ Below W.heap.size W w') :
    Calls Tryd.prog 4 #[.agg #[.int .i64 (v : Int), u], .int .i64 q, .int .i64 r] w fun e w' => e = .returned (.bool true) ∧ Below w.heap.size w w' := by
  have HC : Hid (∀ W, Below (w.alloc (.cells #[.int .i64 (v : Int), u] 24)).heap.size (w.alloc (.cells #[.int .i64 (v : Int), u] 24)) W → W.cell? ⟨w.heap.size, 0, none⟩ = some (.int .i64 (v : Int)) ∧ W.cell? ⟨w.heap.size, 1, none⟩ = some u) := des_box v u w
  obtain ⟨w0, Hw0⟩ : ∃ w0, Hid (w0 = w.alloc (.cells #[.int .i64 (v : Int), u] 24)) := ⟨_, rfl⟩
  rw [← Hw0.out] at HC
  have hb0 : Below w.heap.size w w0 := by rw [Hw0.out]; exact balloc _ _
  have hb0' : Hid (Below w.heap.size w w0) := hb0
  have C1 := fact_any w0
  have C3 : Hid (∀ W, Below w0.heap.size w0 W → Calls Tryd.prog 8 #[.agg #[.int .i64 (v : Int), u], .int .i64 2] W fun e w' => e = .returned (.tuple #[.int .i64 (k : Int), .int .i64 (l : Int), .int .i64 0]) ∧ Below W.heap.size W w') := fun W hW => C3 W (Below.next hb0 hW)
  have HR4 : Hid (∀ W W' y, R4 W y → Below W.heap.size W W' → R4 W' y) := R4s
  have C4 : Hid (∀ W, Below w0.heap.size w0 W → Calls Tryd.prog 9 #[.agg #[.int .i64 (v : Int), u], .int .i64 q] W fun e w' => ∃ ya yc, e = .returned (.tuple #[.agg #[.int .i64 (dp : Int), .slice ya dl yc], .int .i64 1]) ∧ R4 w' (.slice ya dl yc) ∧ Below W.heap.size W w') := fun W hW => C4 W (Below.next hb0 hW)
  have HR6 : Hid (∀ W W' y, R6 W y → Below W.heap.size W W' → R6 W' y) := R6s
  have C6 : Hid (∀ W, Below w0.heap.size w0 W → Calls Tryd.prog 10 #[.agg #[.int .i64 (v : Int), u], .int .i64 r] W fun e w' => ∃ ya yc, e = .returned (.tuple #[.agg #[.int .i64 (rp : Int), .slice ya rl yc], .int .i64 0]) ∧ R6 w' (.slice ya rl yc) ∧ Below W.heap.size W w') := fun W hW => C6 W (Below.next hb0 hW)
  have C7 : Hid (∀ W y, R6 W y → Calls Tryd.prog 8 #[.agg #[.int .i64 (rp : Int), y], .int .i64 2] W fun e w' => e = .returned (.tuple #[.int .i64 ((k : Int) - (l : Int)), .int .i64 (l : Int), .int .i64 0]) ∧ Below W.heap.size W w') := C7
  obtain ⟨x0, x1⟩ := HC.out _ (Below.refl _ _)
  rw [Hw0.out] at x0 x1
  obtain ⟨ua, uc, rfl⟩ := hu
  have hd1 : decide ((k : Int) < 2) = false := by simp; omega
  have hd2 : decide ((v : Int) ≤ (k : Int)) = false := by simp; omega
  have hd3 : decide (v ≤ k) = false := decide_eq_false (by omega)
  subst hnv
  have hd5 : decide ((n : Int) - (k : Int) < 2) = false := decide_eq_false (by omega)
  clear hb0 R4s R6s
  go_enter Tryd.func4, Tryd.ntmps4
  go_wp2_with (first
    | (go_at_call 5; rw [← Hw0.out]; refine C1.mono ?_; rintro e w1 ⟨rfl, hb1⟩; clear C1; obtain ⟨y0, y1⟩ := HC.out _ hb1)
    | (go_at_call 9; refine (C4.out _ hb3).mono ?_; rintro e w4 ⟨ya, yc, rfl, hy, hb4⟩; replace hb4 := Below.next hb3 hb4; have bb := balloc w4 (.cells #[.int .i64 (dp : Int), .slice ya dl yc] 24); have hb5 := Below.next hb4 bb; have HYR : Hid (R4 (w4.alloc (.cells #[.int .i64 (dp : Int), .slice ya dl yc] 24)) (.slice ya dl yc)) := HR4.out _ _ _ hy bb; obtain ⟨p0, p1⟩ := des_box dp (.slice ya dl yc) w4 _ (Below.refl _ _); clear hy; obtain ⟨r0, r1⟩ := HC.out _ hb5)
    | (go_at_call 8; refine (C7.out _ _ HZR.out).mono ?_; rintro e w9 ⟨rfl, hb9⟩; replace hb9 := Below.next hb8 hb9; obtain ⟨o0, o1⟩ := HC.out _ hb9)
    | (go_at_call 10; refine (C6.out _ hb5).mono ?_; rintro e w7 ⟨za, zc, rfl, hz, hb7⟩; replace hb7 := Below.next hb5 hb7; have bz := balloc w7 (.cells #[.int .i64 (rp : Int), .slice za rl zc] 24); have hb8 := Below.next hb7 bz; have HZR : Hid (R6 (w7.alloc (.cells #[.int .i64 (rp : Int), .slice za rl zc] 24)) (.slice za rl zc)) := HR6.out _ _ _ hz bz; obtain ⟨t0, t1⟩ := des_box rp (.slice za rl zc) w7 _ (Below.refl _ _); clear hz; obtain ⟨m0, m1⟩ := HC.out _ hb8)
    | (go_at_call 8; refine (C3.out _ hb1).mono ?_; rintro e w3 ⟨rfl, hb3⟩; replace hb3 := Below.next hb1 hb3; obtain ⟨q0, q1⟩ := HC.out _ hb3))
  go_ret
  exact ⟨rfl, Below.next hb0'.out hb9⟩

end Go.Proofs.YtnnopfdckillpabDoor
