/- The walks of Order, Sign, Alike. -/
import Derived.Test.YteocfkkdjejgdaaP31
import Derived.Test.YteocfkkdjejgdaaP9
import Derived.Laws.StructEq
import Derived.ChangeKeysEq
namespace Go.Proofs.Yteocfkkdjejgdaa
open Go.RowKit

theorem part3 (f : Nat → Int) (i : Nat) (h : i < 13) (w : World) : (part 3 (krow f) (i * Try.prog.cellsOf 3)).run Try.prog w = .ok (.int .i64 (f i)) w := by
  have h1 : Try.prog.cellsOf 3 = 1 := by kernel_rfl
  have h2 : (isAgg 3).run Try.prog w = .ok false w := by kernel_rfl
  unfold part
  rw [h1, Nat.mul_one]
  simp only [Sem.run_bind, h2, Result.andThen_ok, Bool.false_eq_true, if_false, krow_at f i h]
  rfl
theorem eqItems3 (f g : Nat → Int) (w : World) : ∀ is : List Nat, (∀ i ∈ is, i < 13) → (Op.eqItems 9999 3 (Try.prog.cellsOf 3) (krow f) (krow g) is).run Try.prog w = .ok (is.all fun i => f i == g i) w
  | [], _ => rfl
  | i :: is, h => by
    have h3 := run_equalIn_int w 9998 3 .i64 .i64 (f i) (g i) und3
    unfold Op.eqItems
    simp only [Sem.run_bind, part3 f i (h i (by simp)), part3 g i (h i (by simp)), Result.andThen_ok]
    rw [show (9999 : Nat) = 9998 + 1 from rfl, h3]
    simp only [Result.andThen_ok, List.all_cons]
    cases hb : f i == g i with
    | false => rfl
    | true => exact eqItems3 f g w is (fun j hj => h j (by simp [hj]))
theorem eq46 (f g : Nat → Int) (w : World) : (Op.equalIn 10000 46 (.agg (krow f)) (.agg (krow g))).run Try.prog w = .ok ((List.range 13).all fun i => f i == g i) w := by
  obtain ⟨i3, hi, _⟩ := info3
  rw [show (10000 : Nat) = 9999 + 1 from rfl, run_equalIn_array w 9999 (krow f) (krow g) und46 hi]
  exact eqItems3 f g w _ (fun i hi => List.mem_range.1 hi)
theorem kn_le {n : Nat} {f : Nat → Nat} (hn : n ≤ 12) (L : Nat) : (lens n f).count L ≤ 12 := by
  have h1 := List.count_le_length (a := L) (l := lens n f)
  have h2 := List.length_filter_le (leadB n f) (List.range n)
  rw [List.length_range] at h2
  have h3 : (lens n f).length ≤ n := by unfold lens leads; rw [List.length_map]; exact h2
  omega
theorem kn_zero {n : Nat} {f : Nat → Nat} (P : Pm n f) : (lens n f).count 0 = 0 := by
  rw [List.count_eq_zero]
  intro h
  have := P.lens_mem h
  omega
theorem Pm.ord {n : Nat} {f : Nat → Nat} (P : Pm n f) (hn : n ≤ 12) {o : Nat} (h1 : o ∣ 27720) (h2 : ∀ N, o ∣ N ↔ ∀ L, L < 13 → 0 < (lens n f).count L → L ∣ N) : OrdIs n f o := by
  refine ⟨Nat.pos_of_dvd_of_pos h1 (by omega), fun N => ?_⟩
  rw [h2, ← P.all_dvd]
  constructor
  · intro h L hL
    have := P.lens_mem hL
    exact h L (by omega) (List.count_pos_iff.2 hL)
  · intro h L _ hc
    exact h L (List.count_pos_iff.1 hc)

theorem Order_bad (l : List Int) (v : Value) (w : World) (hl : Sl w v l) (hll : l.length ≤ maxLen) (z : Int) (hz : pF l = z) (h0 : z ≠ 0) :
    Calls Try.prog 10 #[v] w fun e w' => e = .returned (.tuple #[.int .i64 0, .int .i64 z]) ∧ Below w.heap.size w w' := by
  have C := Check_any l v w hl hll
  rw [hz] at C
  have hd : (z != 0) = true := by simpa using h0
  clear hz h0
  obtain ⟨a, cap, rfl, _⟩ := hl
  go_enter Try.func10, Try.ntmps10
  go_wp2_with (first
    | (go_at_call 8; refine C.mono ?_; rintro e w1 ⟨rfl, hb⟩))
  exact bodyPost_ret (v := .tuple #[.int .i64 0, .int .i64 z]) (by simp [results, Try.results10, go_sem]) rfl ⟨rfl, hb⟩
theorem Order_ok (n : Nat) (f : Nat → Nat) (v : Value) (w : World) (hn : n ≤ 12) (hv : Sl w v (pl n f)) (P : Pm n f) :
    Calls Try.prog 10 #[v] w fun e w' => ∃ o : Nat, e = .returned (.tuple #[.int .i64 (o : Int), .int .i64 0]) ∧ OrdIs n f o ∧ o ≤ 27720 ∧ Below w.heap.size w w' := by
  have C := Check_any _ v w hv (by rw [pl_len]; unfold maxLen; omega)
  rw [pF_pl P hn] at C
  have C2 := fun W (h : Below w.heap.size w W) => kindOf_any n f v W hn (hv.below h) P
  have C3 := fun W => order_any (fun L => (lens n f).count L) W (kn_zero P) (kn_le hn)
  obtain ⟨kf, Hkf⟩ : ∃ kf, Hid (krow (fun L => ((lens n f).count L : Int)) = kf) := ⟨_, rfl⟩
  rw [Hkf.out] at C2 C3
  obtain ⟨a, ca, rfl, _⟩ := hv
  rw [pl_len] at C C2 ⊢
  have HP : Hid (Pm n f) := P
  clear P
  go_enter Try.func10, Try.ntmps10
  go_wp2_with (first
    | (go_at_call 8; refine C.mono ?_; rintro e w1 ⟨rfl, hb1⟩)
    | (go_at_call 30; refine (C2 _ hb1).mono ?_; rintro e w2 ⟨rfl, hb2⟩)
    | (go_at_call 31; refine (C3 _).mono ?_; rintro e w3 ⟨o, rfl, ho1, ho2, hb3⟩))
  exact bodyPost_ret (v := .tuple #[.int .i64 (o : Int), .int .i64 0]) (by simp [results, Try.results10, go_sem]) rfl ⟨o, rfl, HP.out.ord hn ho1 ho2, Nat.le_of_dvd (by omega) ho1, Below.next (Below.next hb1 hb2) hb3⟩
theorem Sign_bad (l : List Int) (v : Value) (w : World) (hl : Sl w v l) (hll : l.length ≤ maxLen) (z : Int) (hz : pF l = z) (h0 : z ≠ 0) :
    Calls Try.prog 11 #[v] w fun e w' => e = .returned (.tuple #[.int .i64 0, .int .i64 z]) ∧ Below w.heap.size w w' := by
  have C := Check_any l v w hl hll
  rw [hz] at C
  have hd : (z != 0) = true := by simpa using h0
  clear hz h0
  obtain ⟨a, cap, rfl, _⟩ := hl
  go_enter Try.func11, Try.ntmps11
  go_wp2_with (first
    | (go_at_call 8; refine C.mono ?_; rintro e w1 ⟨rfl, hb⟩))
  exact bodyPost_ret (v := .tuple #[.int .i64 0, .int .i64 z]) (by simp [results, Try.results11, go_sem]) rfl ⟨rfl, hb⟩
theorem Sign_ok (n : Nat) (f : Nat → Nat) (v : Value) (w : World) (hn : n ≤ 12) (hv : Sl w v (pl n f)) (P : Pm n f) :
    Calls Try.prog 11 #[v] w fun e w' => e = .returned (.tuple #[.int .i64 (sgI n f), .int .i64 0]) ∧ Below w.heap.size w w' := by
  have C := Check_any _ v w hv (by rw [pl_len]; unfold maxLen; omega)
  rw [pF_pl P hn] at C
  have C2 := fun W (h : Below w.heap.size w W) => kindOf_any n f v W hn (hv.below h) P
  have C3 := fun W => sign_any (fun L => (lens n f).count L) W (kn_le hn)
  rw [P.sign (by omega)] at C3
  obtain ⟨a, ca, rfl, _⟩ := hv
  obtain ⟨s, Hs⟩ : ∃ s, Hid (sgI n f = s) := ⟨_, rfl⟩
  rw [Hs.out] at C3 ⊢
  obtain ⟨kf, Hkf⟩ : ∃ kf, Hid (krow (fun L => ((lens n f).count L : Int)) = kf) := ⟨_, rfl⟩
  rw [Hkf.out] at C2 C3
  rw [pl_len] at C C2 ⊢
  go_enter Try.func11, Try.ntmps11
  go_wp2_with (first
    | (go_at_call 8; refine C.mono ?_; rintro e w1 ⟨rfl, hb1⟩)
    | (go_at_call 30; refine (C2 _ hb1).mono ?_; rintro e w2 ⟨rfl, hb2⟩)
    | (go_at_call 32; refine (C3 _).mono ?_; rintro e w3 ⟨rfl, hb3⟩))
  exact bodyPost_ret (v := .tuple #[.int .i64 s, .int .i64 0]) (by simp [results, Try.results11, go_sem]) rfl ⟨rfl, Below.next (Below.next hb1 hb2) hb3⟩

/-- As many cycles of each length. -/
noncomputable def alikeB (n : Nat) (f g : Nat → Nat) : Bool := (List.range 13).all fun i => ((lens n f).count i : Int) == ((lens n g).count i : Int)
theorem alikeB_iff {n : Nat} {f g : Nat → Nat} : alikeB n f g = true ↔ ∀ L, L < 13 → (lens n f).count L = (lens n g).count L := by
  unfold alikeB
  rw [List.all_eq_true]
  constructor
  · intro h L hL
    have := h L (List.mem_range.2 hL)
    simp only [beq_iff_eq] at this
    omega
  · intro h L hL
    rw [h L (List.mem_range.1 hL)]; simp
theorem Alike_bad (l m : List Int) (v u : Value) (w : World) (hl : Sl w v l) (hm : Sl w u m) (hll : l.length ≤ maxLen) (hml : m.length ≤ maxLen) (z : Int) (hz : p2F l m = z) (h0 : z ≠ 0) :
    Calls Try.prog 19 #[v, u] w fun e w' => e = .returned (.tuple #[.bool false, .int .i64 z]) ∧ Below w.heap.size w w' := by
  have C := checkBoth_any l m v u w hl hm hll hml
  rw [hz] at C
  have hd : (z != 0) = true := by simpa using h0
  clear hz h0
  obtain ⟨a, ca, rfl, _⟩ := hl
  obtain ⟨b, cb, rfl, _⟩ := hm
  go_enter Try.func19, Try.ntmps19
  go_wp2_with (first
    | (go_at_call 35; refine C.mono ?_; rintro e w1 ⟨rfl, hb⟩))
  exact bodyPost_ret (v := .tuple #[.bool false, .int .i64 z]) (by simp [results, Try.results19, go_sem]) rfl ⟨rfl, hb⟩
set_option maxRecDepth 100000 in
theorem Alike_ok (n : Nat) (f g : Nat → Nat) (v u : Value) (w : World) (hn : n ≤ 12) (hv : Sl w v (pl n f)) (hu : Sl w u (pl n g)) (P : Pm n f) (Q : Pm n g) :
    Calls Try.prog 19 #[v, u] w fun e w' => e = .returned (.tuple #[.bool (alikeB n f g), .int .i64 0]) ∧ Below w.heap.size w w' := by
  have C := checkBoth_any _ _ v u w hv hu (by rw [pl_len]; unfold maxLen; omega) (by rw [pl_len]; unfold maxLen; omega)
  rw [p2F_pl P Q hn] at C
  have C2 := fun W (h : Below w.heap.size w W) => kindOf_any n f v W hn (hv.below h) P
  have C3 := fun W (h : Below w.heap.size w W) => kindOf_any n g u W hn (hu.below h) Q
  have hE := fun w => eq46 (fun L => ((lens n f).count L : Int)) (fun L => ((lens n g).count L : Int)) w
  obtain ⟨x, Hx⟩ : ∃ x, Hid (alikeB n f g = x) := ⟨_, rfl⟩
  rw [show ((List.range 13).all fun i => ((lens n f).count i : Int) == ((lens n g).count i : Int)) = x from Hx.out] at hE
  rw [Hx.out]
  obtain ⟨kf, Hkf⟩ : ∃ kf, Hid (krow (fun L => ((lens n f).count L : Int)) = kf) := ⟨_, rfl⟩
  obtain ⟨kg, Hkg⟩ : ∃ kg, Hid (krow (fun L => ((lens n g).count L : Int)) = kg) := ⟨_, rfl⟩
  rw [Hkf.out] at C2 hE
  rw [Hkg.out] at C3 hE
  obtain ⟨a, ca, rfl, _⟩ := hv
  obtain ⟨b, cb, rfl, _⟩ := hu
  rw [pl_len] at C C2 C3 ⊢
  rw [pl_len] at C ⊢
  have hG : Try.prog.eqGuardType Try.prog.depth 46 = false := by kernel_rfl
  go_enter Try.func19, Try.ntmps19
  go_wp2_with (first
    | (go_at_call 35; refine C.mono ?_; rintro e w1 ⟨rfl, hb1⟩)
    | (go_at_call 30; refine (C2 _ hb1).mono ?_; rintro e w2 ⟨rfl, hb2⟩; clear C2)
    | (go_at_call 30; refine (C3 _ (Below.next hb1 hb2)).mono ?_; rintro e w3 ⟨rfl, hb3⟩))
  exact bodyPost_ret (v := .tuple #[.bool x, .int .i64 0]) (by simp [results, Try.results19, go_sem]) rfl ⟨rfl, Below.next (Below.next hb1 hb2) hb3⟩

end Go.Proofs.Yteocfkkdjejgdaa
