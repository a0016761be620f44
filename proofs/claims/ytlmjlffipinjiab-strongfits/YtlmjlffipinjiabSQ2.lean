/- The walks of whole and Fits. -/
import Derived.Test.YtlmjlffipinjiabSQ1
namespace Go.Proofs.Ytlmjlffipinjiab
open Go.RowKit

def whB (N v : Int) (r : Int) : Bool := decide (r ≠ 0) && (decide (Int.tmod N r = 0) && (decide (Int.tmod (v - 1 - Int.tdiv N r) 2 = 0) && decide (max (Int.tdiv N r) (- Int.tdiv N r) ≤ v - 1)))
theorem root_ex (s : Int) : ∃ r, RootIs s r := by
  by_cases h : ∃ q : Nat, 1 ≤ q ∧ (q * q : Int) = s
  · obtain ⟨q, h1, h2⟩ := h
    exact ⟨q, .inl ⟨h1, h2⟩⟩
  · exact ⟨0, .inr ⟨rfl, fun q h1 h2 => h ⟨q, h1, h2⟩⟩⟩
theorem root_one {s : Int} {r q : Nat} (h : RootIs s r) (k : RootIs s q) : r = q := by
  rcases h with ⟨h1, h2⟩ | ⟨rfl, h⟩ <;> rcases k with ⟨k1, k2⟩ | ⟨rfl, k⟩
  · exact sq_one (h2.trans k2.symm)
  · exact absurd h2 (k r h1)
  · exact absurd k2 (h q k1)
  · rfl
set_option maxRecDepth 100000 in
set_option maxHeartbeats 8000000 in
theorem whole_any (v k l m : Int) (r : Nat) (w : World) (h1 : 2 ≤ v) (h2 : v ≤ 1000) (h3 : 1 ≤ k) (h4 : k < v) (h5 : 0 ≤ l) (h6 : l ≤ v) (h7 : 0 ≤ m) (h8 : m ≤ v) (hr : RootIs ((l - m) * (l - m) + 4 * (k - m)) r) :
    Calls Try.prog 9 #[.agg #[.int .i64 v, .int .i64 k, .int .i64 l, .int .i64 m]] w fun e w' => e = .returned (.bool (whB (2 * k + (v - 1) * (l - m)) v r)) ∧ Below w.heap.size w w' := by
  have hbox := heap_alloc_new w (.cells #[.int .i64 v, .int .i64 k, .int .i64 l, .int .i64 m] 23)
  have b0 := balloc w (.cells #[.int .i64 v, .int .i64 k, .int .i64 l, .int .i64 m] 23)
  obtain ⟨x0, x1, x2, x3⟩ := row4f hbox
  have CL := fun w => lean_any v k l m w h1 h2 h3 h4 h5 h6 h7 h8
  have CS := fun w => spread_any v k l m w h1 h2 h3 h4 h5 h6 h7 h8
  have q1 : ((l - m) * (l - m)).natAbs ≤ 1002001 := Nat.le_trans (bnd (p := 1001) (q := 1001) (by omega) (by omega)) (by decide)
  have q2 : ((v - 1) * (l - m)).natAbs ≤ 1001000 := Nat.le_trans (bnd (p := 1000) (q := 1001) (by omega) (by omega)) (by decide)
  have CR := fun w => root_any ((l - m) * (l - m) + 4 * (k - m)) w (by omega)
  have HR1 : Hid (∀ r', RootIs ((l - m) * (l - m) + 4 * (k - m)) r' → r' = r) := fun r' h => root_one h hr
  have HC : Hid (∀ W, Below (w.alloc (.cells #[.int .i64 v, .int .i64 k, .int .i64 l, .int .i64 m] 23)).heap.size (w.alloc (.cells #[.int .i64 v, .int .i64 k, .int .i64 l, .int .i64 m] 23)) W → W.cell? ⟨w.heap.size, 0, none⟩ = some (.int .i64 v) ∧ W.cell? ⟨w.heap.size, 1, none⟩ = some (.int .i64 k) ∧ W.cell? ⟨w.heap.size, 2, none⟩ = some (.int .i64 l) ∧ W.cell? ⟨w.heap.size, 3, none⟩ = some (.int .i64 m)) := fun W hb => row4f ((hb.block w.heap.size (by simp)).trans hbox)
  have hNb : (2 * k + (v - 1) * (l - m)).natAbs ≤ 1003000 := by omega
  generalize 2 * k + (v - 1) * (l - m) = N at *
  generalize (l - m) * (l - m) + 4 * (k - m) = S at *
  have CR := CR
  by_cases hr0 : r = 0
  · subst hr0
    have HF : Hid (whB N v (0 : Nat) = false) := (by unfold whB; simp : whB N v (0 : Nat) = false)
    clear hr q1 q2
    go_enter Try.func9, Try.ntmps9
    go_wp2_with (first
      | (go_at_call 12; refine (CS _).mono ?_; rintro e w2 ⟨rfl, hb2⟩; obtain ⟨y0, y1, y2, y3⟩ := HC.out w2 hb2)
      | (go_at_call 11; refine (CR _).mono ?_; rintro e w3 ⟨⟨r', rfl, hr'⟩, rfl⟩; obtain rfl : r' = 0 := HR1.out r' hr'; clear hr'))
    go_ret
    exact ⟨by rw [HF.out]; rfl, Below.next b0 hb2⟩
  · have hnz : ¬ (r : Int) = 0 := by omega
    have hnz2 : ¬ r = 0 := hr0
    have d0 : ((r : Int) == 0) = false := by simp [hr0]
    obtain ⟨t, ht⟩ : ∃ t, Int.tmod N r = t := ⟨_, rfl⟩
    obtain ⟨q, hq⟩ : ∃ q, Int.tdiv N r = q := ⟨_, rfl⟩
    have hqb : q.natAbs ≤ 1003000 := by
      rw [← hq, Int.natAbs_tdiv]
      exact Nat.le_trans (Nat.div_le_self _ _) hNb
    have HWB : Hid (whB N v r = (decide (t = 0) && (decide (Int.tmod (v - 1 - q) 2 = 0) && decide (max q (- q) ≤ v - 1)))) := by
      show whB N v r = _
      unfold whB
      rw [ht, hq, decide_eq_true hnz, Bool.true_and]
    have hwq : wrap64 q = q := wrS (by omega)
    have hwq2 : IntKind.i64.wrap q = q := by rw [IntKind.wrap_i64]; omega
    have hw1 : IntKind.i64.wrap (v - 1) = v - 1 := by rw [IntKind.wrap_i64]; omega
    clear hr q1 q2
    by_cases ht0 : t = 0
    · have d1 : (t != 0) = false := by simp [ht0]
      have HF : Hid (whB N v r = (decide (Int.tmod (v - 1 - q) 2 = 0) && decide (max q (- q) ≤ v - 1))) := by
        show whB N v r = _
        rw [HWB.out, decide_eq_true ht0, Bool.true_and]
      clear ht0
      go_enter Try.func9, Try.ntmps9
      go_wp2_with (first
        | (go_at_call 12; refine (CS _).mono ?_; rintro e w2 ⟨rfl, hb2⟩; obtain ⟨y0, y1, y2, y3⟩ := HC.out w2 hb2)
        | (go_at_call 11; refine (CR _).mono ?_; rintro e w3 ⟨⟨r', rfl, hr'⟩, rfl⟩; obtain rfl : r' = r := HR1.out r' hr'; clear hr')
        | (go_at_call 10; refine (CL _).mono ?_; rintro e w4 ⟨rfl, hb4⟩; obtain ⟨z0, z1, z2, z3⟩ := HC.out w4 (Below.next hb2 hb4)))
      have S0 : (w4.drew.cell? ⟨w.heap.size, 0, none⟩ = some (.int .i64 v) ∧ w4.drew.cell? ⟨w.heap.size, 1, none⟩ = some (.int .i64 k) ∧ w4.drew.cell? ⟨w.heap.size, 2, none⟩ = some (.int .i64 l) ∧ w4.drew.cell? ⟨w.heap.size, 3, none⟩ = some (.int .i64 m)) ∧ Below (w.alloc (.cells #[.int .i64 v, .int .i64 k, .int .i64 l, .int .i64 m] 23)).heap.size (w.alloc (.cells #[.int .i64 v, .int .i64 k, .int .i64 l, .int .i64 m] 23)) w4.drew := ⟨HC.out _ (Below.next hb2 hb4).drew, (Below.next hb2 hb4).drew⟩
      go_region_held3 (fun W => (W.cell? ⟨w.heap.size, 0, none⟩ = some (.int .i64 v) ∧ W.cell? ⟨w.heap.size, 1, none⟩ = some (.int .i64 k) ∧ W.cell? ⟨w.heap.size, 2, none⟩ = some (.int .i64 l) ∧ W.cell? ⟨w.heap.size, 3, none⟩ = some (.int .i64 m)) ∧ Below (w.alloc (.cells #[.int .i64 v, .int .i64 k, .int .i64 l, .int .i64 m] 23)).heap.size (w.alloc (.cells #[.int .i64 v, .int .i64 k, .int .i64 l, .int .i64 m] 23)) W) (first | assumption | go_keep) (first | (go_at_call 10; refine (CL _).mono ?_; rintro e w5 ⟨rfl, hb5⟩; have hS5 : (w5.cell? ⟨w.heap.size, 0, none⟩ = some (.int .i64 v) ∧ w5.cell? ⟨w.heap.size, 1, none⟩ = some (.int .i64 k) ∧ w5.cell? ⟨w.heap.size, 2, none⟩ = some (.int .i64 l) ∧ w5.cell? ⟨w.heap.size, 3, none⟩ = some (.int .i64 m)) ∧ Below (w.alloc (.cells #[.int .i64 v, .int .i64 k, .int .i64 l, .int .i64 m] 23)).heap.size (w.alloc (.cells #[.int .i64 v, .int .i64 k, .int .i64 l, .int .i64 m] 23)) w5 := (have hS := (by assumption : (w4.drew.cell? ⟨w.heap.size, 0, none⟩ = some (.int .i64 v) ∧ w4.drew.cell? ⟨w.heap.size, 1, none⟩ = some (.int .i64 k) ∧ w4.drew.cell? ⟨w.heap.size, 2, none⟩ = some (.int .i64 l) ∧ w4.drew.cell? ⟨w.heap.size, 3, none⟩ = some (.int .i64 m)) ∧ Below (w.alloc (.cells #[.int .i64 v, .int .i64 k, .int .i64 l, .int .i64 m] 23)).heap.size (w.alloc (.cells #[.int .i64 v, .int .i64 k, .int .i64 l, .int .i64 m] 23)) w4.drew); ⟨HC.out _ (Below.next hS.2 hb5), Below.next hS.2 hb5⟩)))
      clear S0 CL CS CR
      by_cases hp : Int.tmod (v - 1 - q) 2 = 0
      · have p1 : (Int.tmod (v - 1 - q) 2 == 0) = true := by simp [hp]
        have HF2 : Hid (whB N v r' = decide (max q (- q) ≤ v - 1)) := by
          show whB N v r' = _
          rw [HF.out, decide_eq_true hp, Bool.true_and]
        clear hp
        go_wp2
        all_goals go_ret
        all_goals refine ⟨?_, Below.next b0 hS5.2⟩
        all_goals rw [HF2.out]
        all_goals first | (have e : max q (- q) = - q := by omega) | (have e : max q (- q) = q := by omega)
        all_goals rw [e]
        all_goals rfl
      · have p1 : (Int.tmod (v - 1 - q) 2 == 0) = false := by simp [hp]
        have HF2 : Hid (whB N v r' = false) := by
          show whB N v r' = _
          rw [HF.out, decide_eq_false hp, Bool.false_and]
        clear hp
        go_wp2
        go_ret
        exact ⟨by rw [HF2.out]; rfl, Below.next b0 hS5.2⟩
    · have d1 : (t != 0) = true := by simp [ht0]
      have HF : Hid (whB N v r = false) := by
        show whB N v r = false
        rw [HWB.out, decide_eq_false ht0, Bool.false_and]
      clear ht0
      go_enter Try.func9, Try.ntmps9
      go_wp2_with (first
        | (go_at_call 12; refine (CS _).mono ?_; rintro e w2 ⟨rfl, hb2⟩; obtain ⟨y0, y1, y2, y3⟩ := HC.out w2 hb2)
        | (go_at_call 11; refine (CR _).mono ?_; rintro e w3 ⟨⟨r', rfl, hr'⟩, rfl⟩; obtain rfl : r' = r := HR1.out r' hr'; clear hr')
        | (go_at_call 10; refine (CL _).mono ?_; rintro e w4 ⟨rfl, hb4⟩; obtain ⟨z0, z1, z2, z3⟩ := HC.out w4 (Below.next hb2 hb4)))
      trace_state
      go_ret
      exact ⟨by rw [HF.out]; rfl, Below.next b0 (Below.next hb2 hb4)⟩
theorem ft_whB (v k l m : Int) (r : Nat) : ftB v k l m r = (decide (k * (k - l - 1) = (v - k - 1) * m) && ((decide (2 * k + (v - 1) * (l - m) = 0) && decide (v % 2 = 1)) || whB (2 * k + (v - 1) * (l - m)) v r)) := rfl
theorem wi_far {v k l m : Int} (h : wiB v k l m = false) : FtO v k l m := by
  unfold FtO
  apply Classical.byContradiction
  intro q
  unfold wiB at h
  have e : (decide (2 ≤ v) && decide (v ≤ 1000) && decide (1 ≤ k) && decide (k < v) && decide (0 ≤ l) && decide (l ≤ v) && decide (0 ≤ m) && decide (m ≤ v)) = true := by simp; omega
  rw [e] at h
  cases h
theorem wi_in {v k l m : Int} (h : wiB v k l m = true) : 2 ≤ v ∧ v ≤ 1000 ∧ 1 ≤ k ∧ k < v ∧ 0 ≤ l ∧ l ≤ v ∧ 0 ≤ m ∧ m ≤ v := by
  unfold wiB at h
  simp at h
  omega
set_option maxRecDepth 100000 in
set_option maxHeartbeats 8000000 in
theorem ffit : FFit := by
  intro v k l m w
  have hbox := heap_alloc_new w (.cells #[.int .i64 v, .int .i64 k, .int .i64 l, .int .i64 m] 23)
  have b0 := balloc w (.cells #[.int .i64 v, .int .i64 k, .int .i64 l, .int .i64 m] 23)
  obtain ⟨x0, x1, x2, x3⟩ := row4f hbox
  have HC : Hid (∀ W, Below (w.alloc (.cells #[.int .i64 v, .int .i64 k, .int .i64 l, .int .i64 m] 23)).heap.size (w.alloc (.cells #[.int .i64 v, .int .i64 k, .int .i64 l, .int .i64 m] 23)) W → W.cell? ⟨w.heap.size, 0, none⟩ = some (.int .i64 v) ∧ W.cell? ⟨w.heap.size, 1, none⟩ = some (.int .i64 k) ∧ W.cell? ⟨w.heap.size, 2, none⟩ = some (.int .i64 l) ∧ W.cell? ⟨w.heap.size, 3, none⟩ = some (.int .i64 m)) := fun W hb => row4f ((hb.block w.heap.size (by simp)).trans hbox)
  have CW := fun w => within_any v k l m w
  cases hw : wiB v k l m with
  | false =>
    have HF : Hid (FtR v k l m false 1) := .inl ⟨wi_far hw, rfl, rfl⟩
    rw [hw] at CW
    go_enter Try.func4, Try.ntmps4
    go_wp2_with (go_at_call 6; refine (CW _).mono ?_; rintro e w2 ⟨rfl, hb2⟩)
    go_ret2
    exact ⟨⟨false, 1, rfl, HF.out⟩, Below.next b0 hb2⟩
  | true =>
    obtain ⟨h1, h2, h3, h4, h5, h6, h7, h8⟩ := wi_in hw
    obtain ⟨r, hr⟩ := root_ex ((l - m) * (l - m) + 4 * (k - m))
    have HF : Hid (∀ q, q = ftB v k l m r → FtR v k l m q 0) := fun q hq => .inr ⟨by unfold FtO; omega, rfl, by rw [hq]; exact ft_is h1 hr⟩
    have C1 := fun w => counts_any v k l m w h1 h2 h3 h4 h5 h6 h7 h8
    have C2 := fun w => halves_any v k l m w h1 h2 h3 h4 h5 h6 h7 h8
    have C3 := fun w => whole_any v k l m r w h1 h2 h3 h4 h5 h6 h7 h8 hr
    rw [hw] at CW
    rw [ft_whB] at HF
    generalize decide (k * (k - l - 1) = (v - k - 1) * m) = q1 at *
    generalize (decide (2 * k + (v - 1) * (l - m) = 0) && decide (v % 2 = 1)) = q2 at *
    generalize whB (2 * k + (v - 1) * (l - m)) v r = q3 at *
    clear hr hw h1 h2 h3 h4 h5 h6 h7 h8
    cases q1 with
    | false =>
      go_enter Try.func4, Try.ntmps4
      go_wp2_with (first
        | (go_at_call 6; refine (CW _).mono ?_; rintro e w2 ⟨rfl, hb2⟩; obtain ⟨y0, y1, y2, y3⟩ := HC.out w2 hb2)
        | (go_at_call 7; refine (C1 _).mono ?_; rintro e w3 ⟨rfl, hb3⟩))
      go_ret2
      exact ⟨⟨false, 0, rfl, HF.out _ rfl⟩, Below.next b0 (Below.next hb2 hb3)⟩
    | true =>
      cases q2 with
      | true =>
        go_enter Try.func4, Try.ntmps4
        go_wp2_with (first
          | (go_at_call 6; refine (CW _).mono ?_; rintro e w2 ⟨rfl, hb2⟩; obtain ⟨y0, y1, y2, y3⟩ := HC.out w2 hb2)
          | (go_at_call 7; refine (C1 _).mono ?_; rintro e w3 ⟨rfl, hb3⟩; have b23 := Below.next hb2 hb3; obtain ⟨z0, z1, z2, z3⟩ := HC.out w3 b23)
          | (go_at_call 8; refine (C2 _).mono ?_; rintro e w4 ⟨rfl, hb4⟩))
        go_ret2
        exact ⟨⟨true, 0, rfl, HF.out _ rfl⟩, Below.next b0 (Below.next b23 hb4)⟩
      | false =>
        go_enter Try.func4, Try.ntmps4
        go_wp2_with (first
          | (go_at_call 6; refine (CW _).mono ?_; rintro e w2 ⟨rfl, hb2⟩; obtain ⟨y0, y1, y2, y3⟩ := HC.out w2 hb2)
          | (go_at_call 7; refine (C1 _).mono ?_; rintro e w3 ⟨rfl, hb3⟩; have b23 := Below.next hb2 hb3; obtain ⟨z0, z1, z2, z3⟩ := HC.out w3 b23)
          | (go_at_call 8; refine (C2 _).mono ?_; rintro e w4 ⟨rfl, hb4⟩; have b24 := Below.next b23 hb4; obtain ⟨u0, u1, u2, u3⟩ := HC.out w4 b24)
          | (go_at_call 9; refine (C3 _).mono ?_; rintro e w5 ⟨rfl, hb5⟩))
        go_ret2
        exact ⟨⟨q3, 0, rfl, HF.out _ rfl⟩, Below.next b0 (Below.next b24 hb5)⟩
end Go.Proofs.Ytlmjlffipinjiab
