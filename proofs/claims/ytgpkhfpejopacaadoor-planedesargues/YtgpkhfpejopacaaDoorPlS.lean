/- The planes of orders 2, 3, 4, 5 are planes; Pappus and Desargues hold there; nothing of the program. -/
import Derived.Test.YtgpkhfpejopacaaDoorPlA
/- The plane of order 4, by the kernel: Pappus and Desargues; nothing of the program. -/
namespace Go.Proofs.YtgpkhfpejopacaaDoor

/-- Of the plane of order 4: the line of two points; what lies in what; a permutation that keeps it. -/
def j4N : Nat := 77368798578366841641745252608890801270386614017502636386488731625546794425694055140989220194570597856340536444734410935668328810083672949456412353689004663480957317884885144493270857658754315830281020982465488862018741087795372559574271288145466408878414096496357577358953391613028354337284070225129933762102145742620814614550776008146892043782475519397188205111118028518382617484482427731170388247375991059119307678864515832107327241163785567165926903778591849532181873005173105083215394220224376709121363550336919423805920558165049500121175925950217309383071907077118010126869164903581743713015670558391305436141591759708465973426112187414698453379330012779680
def m4N : Nat := 743433581638964523083114404116014067405696957261370170794049635077385643021907255755610188632280998956555709889665995677887627403810
def j4 (a b : Nat) : Nat := (j4N >>> (105 * a + 5 * b)) &&& 31
def k4 (a : Nat) : Nat := (m4N >>> (21 * a)) &&& 2097151
def i4 (a l : Nat) : Bool := (k4 a).testBit l
def s4 (a : Nat) : Nat := (16922812352900402039713145898004 >>> (5 * a)) &&& 31
def z4 (a : Nat) : Nat := (17929554061399289492125193076965 >>> (5 * a)) &&& 31
def y4 (a : Nat) : Nat := (15941243220754464919353460008130 >>> (5 * a)) &&& 31
def r21 : List Nat := [0, 1, 2, 3, 4, 5, 6, 7, 8, 9, 10, 11, 12, 13, 14, 15, 16, 17, 18, 19, 20]
def on4 (l : Nat) : List Nat := match l with
  | 0 => [1, 5, 9, 13, 17]
  | 1 => [0, 5, 6, 7, 8]
  | 2 => [2, 5, 10, 15, 20]
  | 3 => [4, 5, 12, 14, 19]
  | 4 => [3, 5, 11, 16, 18]
  | 5 => [0, 1, 2, 3, 4]
  | 6 => [1, 6, 10, 14, 18]
  | 7 => [1, 8, 12, 16, 20]
  | 8 => [1, 7, 11, 15, 19]
  | 9 => [0, 9, 10, 11, 12]
  | 10 => [2, 6, 9, 16, 19]
  | 11 => [4, 8, 9, 15, 18]
  | 12 => [3, 7, 9, 14, 20]
  | 13 => [0, 17, 18, 19, 20]
  | 14 => [3, 6, 12, 15, 17]
  | 15 => [2, 8, 11, 14, 17]
  | 16 => [4, 7, 10, 16, 17]
  | 17 => [0, 13, 14, 15, 16]
  | 18 => [4, 6, 11, 13, 20]
  | 19 => [3, 8, 10, 13, 19]
  | 20 => [2, 7, 12, 13, 18]
  | _ => []
theorem r21_mem : ∀ {a : Nat}, a < 21 → a ∈ r21 := fun {a} h => by
  have : ∀ a : Fin 21, a.1 ∈ r21 := by decide +kernel
  exact this ⟨a, h⟩
theorem k4_lt (a : Nat) : k4 a < 2097152 := by
  unfold k4
  exact Nat.lt_of_le_of_lt Nat.and_le_right (by decide)
theorem all21 {P : Nat → Bool} (h : r21.all P = true) {a : Nat} (ha : a < 21) : P a = true := List.all_eq_true.1 h a (r21_mem ha)
theorem s4_lt {a : Nat} (h : a < 21) : s4 a < 21 := of_decide_eq_true (all21 (P := fun a => decide (s4 a < 21)) (by decide +kernel) h)
theorem z4_lt {a : Nat} (h : a < 21) : z4 a < 21 := of_decide_eq_true (all21 (P := fun a => decide (z4 a < 21)) (by decide +kernel) h)
theorem y4_lt {a : Nat} (h : a < 21) : y4 a < 21 := of_decide_eq_true (all21 (P := fun a => decide (y4 a < 21)) (by decide +kernel) h)
theorem z4_y4 {a : Nat} (h : a < 21) : z4 (y4 a) = a := of_decide_eq_true (all21 (P := fun a => decide (z4 (y4 a) = a)) (by decide +kernel) h)
theorem j4_lt {a b : Nat} (ha : a < 21) (hb : b < 21) : j4 a b < 21 := of_decide_eq_true (all21 (all21 (P := fun a => r21.all fun b => decide (j4 a b < 21)) (by decide +kernel) ha) hb)
theorem i4_comm {a b : Nat} (ha : a < 21) (hb : b < 21) : i4 a b = i4 b a := of_decide_eq_true (all21 (all21 (P := fun a => r21.all fun b => decide (i4 a b = i4 b a)) (by decide +kernel) ha) hb)
theorem i4_s4 {a b : Nat} (ha : a < 21) (hb : b < 21) : i4 (s4 a) (z4 b) = i4 a b := of_decide_eq_true (all21 (all21 (P := fun a => r21.all fun b => decide (i4 (s4 a) (z4 b) = i4 a b)) (by decide +kernel) ha) hb)
theorem on4_mem {a l : Nat} (ha : a < 21) (hl : l < 21) (h : i4 a l = true) : a ∈ on4 l := of_decide_eq_true (by
  have := all21 (all21 (P := fun a => r21.all fun l => !i4 a l || decide (a ∈ on4 l)) (by decide +kernel) ha) hl
  rw [h] at this
  exact this)
theorem j4_uni {g g' x : Nat} (hg : g < 21) (hg' : g' < 21) (hx : x < 21) (n : g ≠ g') (h : i4 x g = true) (h' : i4 x g' = true) : x = j4 g g' := by
  have := all21 (all21 (all21 (P := fun g => r21.all fun g' => r21.all fun x => decide (g = g') || !(i4 x g && i4 x g') || decide (x = j4 g g')) (by decide +kernel) hg) hg') hx
  rw [h, h', decide_eq_false n] at this
  exact of_decide_eq_true this
/-- The line of two points. -/
theorem j4_ln {p p' g : Nat} (hp : p < 21) (hp' : p' < 21) (hg : g < 21) (n : p ≠ p') (h : i4 p g = true) (h' : i4 p' g = true) : g = j4 p p' :=
  j4_uni hp hp' hg n (by rw [i4_comm hg hp]; exact h) (by rw [i4_comm hg hp']; exact h')
theorem s4_inj {a b : Nat} (ha : a < 21) (hb : b < 21) (n : a ≠ b) : s4 a ≠ s4 b := by
  have := all21 (all21 (P := fun a => r21.all fun b => decide (a = b) || decide (s4 a ≠ s4 b)) (by decide +kernel) ha) hb
  rw [decide_eq_false n] at this
  exact of_decide_eq_true this
theorem z4_inj {a b : Nat} (ha : a < 21) (hb : b < 21) (n : a ≠ b) : z4 a ≠ z4 b := by
  have := all21 (all21 (P := fun a => r21.all fun b => decide (a = b) || decide (z4 a ≠ z4 b)) (by decide +kernel) ha) hb
  rw [decide_eq_false n] at this
  exact of_decide_eq_true this
/-- What holds of the first, and of each whose next it holds of, holds of all. -/
def st4 (f : Nat → Nat) : Nat → Nat → Nat
  | 0, a => a
  | k + 1, a => st4 f k (f a)
theorem st4_go {f : Nat → Nat} {S : Nat → Prop} (hf : ∀ a, a < 21 → f a < 21) (h : ∀ a, a < 21 → S (f a) → S a) : ∀ (k a : Nat), a < 21 → S (st4 f k a) → S a
  | 0, _, _, s => s
  | k + 1, a, ha, s => h a ha (st4_go hf h k (f a) (hf a ha) s)
theorem st4_all {f : Nat → Nat} {S : Nat → Prop} (hf : ∀ a, a < 21 → f a < 21) (h : ∀ a, a < 21 → S (f a) → S a) (h0 : S 0) (hk : (r21.all fun a => r21.any fun k => decide (st4 f k a = 0)) = true) {a : Nat} (ha : a < 21) : S a := by
  obtain ⟨k, _, e⟩ := List.any_eq_true.1 (all21 (P := fun a => r21.any fun k => decide (st4 f k a = 0)) hk ha)
  exact st4_go hf h k a ha (by rw [of_decide_eq_true e]; exact h0)
theorem st4_s : (r21.all fun a => r21.any fun k => decide (st4 s4 k a = 0)) = true := by decide +kernel
theorem st4_z : (r21.all fun a => r21.any fun k => decide (st4 z4 k a = 0)) = true := by decide +kernel
/-- Three points, of one line. -/
theorem k4_line {a b c : Nat} (h : k4 a &&& k4 b &&& k4 c ≠ 0) : ∃ i, i < 21 ∧ i4 a i = true ∧ i4 b i = true ∧ i4 c i = true := by
  obtain ⟨i, hi⟩ := Nat.exists_testBit_of_ne_zero h
  rw [Nat.testBit_and, Nat.testBit_and, Bool.and_eq_true, Bool.and_eq_true] at hi
  refine ⟨i, ?_, hi.1.1, hi.1.2, hi.2⟩
  refine Nat.lt_of_not_le fun hl => ?_
  have := Nat.testBit_lt_two_pow (Nat.lt_of_lt_of_le (k4_lt a) (Nat.pow_le_pow_right (n := 2) (by decide) hl : 2 ^ 21 ≤ 2 ^ i))
  rw [hi.1.1] at this
  cases this

end Go.Proofs.YtgpkhfpejopacaaDoor

/- Desargues in the plane of order 4: of all figures; nothing of the program. -/
/- Desargues in the plane of order 4, by the kernel; nothing of the program. -/
namespace Go.Proofs.YtgpkhfpejopacaaDoor

/-- All figures of Desargues at the first point. -/
def des4 : Bool := (on4 0).all fun l0 => (on4 0).all fun l1 => l0 == l1 || (on4 0).all fun l2 => l0 == l2 || l1 == l2 ||
  (on4 l0).all fun t0 => t0 == 0 || (on4 l0).all fun u0 => u0 == 0 || u0 == t0 ||
  (on4 l1).all fun t1 => t1 == 0 || (on4 l1).all fun u1 => u1 == 0 || u1 == t1 ||
    match k4 (j4 (j4 t0 t1) (j4 u0 u1)) with
    | 0 => false
    | A + 1 => (on4 l2).all fun t2 => t2 == 0 || (on4 l2).all fun u2 => u2 == 0 || u2 == t2 ||
      ((A + 1) &&& k4 (j4 (j4 t0 t2) (j4 u0 u2)) &&& k4 (j4 (j4 t1 t2) (j4 u1 u2))) != 0
theorem des4_all : des4 = true := by decide +kernel

end Go.Proofs.YtgpkhfpejopacaaDoor

namespace Go.Proofs.YtgpkhfpejopacaaDoor

structure Des4F (o t0 t1 t2 u0 u1 u2 a b c l0 l1 l2 g1 g2 g3 g4 g5 g6 : Nat) : Prop where
  b_o : o < 21
  b_t0 : t0 < 21
  b_t1 : t1 < 21
  b_t2 : t2 < 21
  b_u0 : u0 < 21
  b_u1 : u1 < 21
  b_u2 : u2 < 21
  b_a : a < 21
  b_b : b < 21
  b_c : c < 21
  b_l0 : l0 < 21
  b_l1 : l1 < 21
  b_l2 : l2 < 21
  b_g1 : g1 < 21
  b_g2 : g2 < 21
  b_g3 : g3 < 21
  b_g4 : g4 < 21
  b_g5 : g5 < 21
  b_g6 : g6 < 21
  i_o_l0 : i4 o l0 = true
  i_t0_l0 : i4 t0 l0 = true
  i_u0_l0 : i4 u0 l0 = true
  i_o_l1 : i4 o l1 = true
  i_t1_l1 : i4 t1 l1 = true
  i_u1_l1 : i4 u1 l1 = true
  i_o_l2 : i4 o l2 = true
  i_t2_l2 : i4 t2 l2 = true
  i_u2_l2 : i4 u2 l2 = true
  i_t0_g1 : i4 t0 g1 = true
  i_t1_g1 : i4 t1 g1 = true
  i_u0_g2 : i4 u0 g2 = true
  i_u1_g2 : i4 u1 g2 = true
  i_a_g1 : i4 a g1 = true
  i_a_g2 : i4 a g2 = true
  i_t0_g3 : i4 t0 g3 = true
  i_t2_g3 : i4 t2 g3 = true
  i_u0_g4 : i4 u0 g4 = true
  i_u2_g4 : i4 u2 g4 = true
  i_b_g3 : i4 b g3 = true
  i_b_g4 : i4 b g4 = true
  i_t1_g5 : i4 t1 g5 = true
  i_t2_g5 : i4 t2 g5 = true
  i_u1_g6 : i4 u1 g6 = true
  i_u2_g6 : i4 u2 g6 = true
  i_c_g5 : i4 c g5 = true
  i_c_g6 : i4 c g6 = true
  d_t0_o : t0 ≠ o
  d_u0_o : u0 ≠ o
  d_u0_t0 : u0 ≠ t0
  d_t1_o : t1 ≠ o
  d_u1_o : u1 ≠ o
  d_u1_t1 : u1 ≠ t1
  d_t2_o : t2 ≠ o
  d_u2_o : u2 ≠ o
  d_u2_t2 : u2 ≠ t2
  d_t0_t1 : t0 ≠ t1
  d_u0_u1 : u0 ≠ u1
  d_t0_t2 : t0 ≠ t2
  d_u0_u2 : u0 ≠ u2
  d_t1_t2 : t1 ≠ t2
  d_u1_u2 : u1 ≠ u2
  d_l0_l1 : l0 ≠ l1
  d_l0_l2 : l0 ≠ l2
  d_l1_l2 : l1 ≠ l2
  d_g1_g2 : g1 ≠ g2
  d_g3_g4 : g3 ≠ g4
  d_g5_g6 : g5 ≠ g6
variable {o t0 t1 t2 u0 u1 u2 a b c l0 l1 l2 g1 g2 g3 g4 g5 g6 : Nat}
theorem Des4F.turn (h : Des4F o t0 t1 t2 u0 u1 u2 a b c l0 l1 l2 g1 g2 g3 g4 g5 g6) : Des4F (s4 o) (s4 t0) (s4 t1) (s4 t2) (s4 u0) (s4 u1) (s4 u2) (s4 a) (s4 b) (s4 c) (z4 l0) (z4 l1) (z4 l2) (z4 g1) (z4 g2) (z4 g3) (z4 g4) (z4 g5) (z4 g6) where
  b_o := s4_lt h.b_o
  b_t0 := s4_lt h.b_t0
  b_t1 := s4_lt h.b_t1
  b_t2 := s4_lt h.b_t2
  b_u0 := s4_lt h.b_u0
  b_u1 := s4_lt h.b_u1
  b_u2 := s4_lt h.b_u2
  b_a := s4_lt h.b_a
  b_b := s4_lt h.b_b
  b_c := s4_lt h.b_c
  b_l0 := z4_lt h.b_l0
  b_l1 := z4_lt h.b_l1
  b_l2 := z4_lt h.b_l2
  b_g1 := z4_lt h.b_g1
  b_g2 := z4_lt h.b_g2
  b_g3 := z4_lt h.b_g3
  b_g4 := z4_lt h.b_g4
  b_g5 := z4_lt h.b_g5
  b_g6 := z4_lt h.b_g6
  i_o_l0 := by rw [i4_s4 h.b_o h.b_l0]; exact h.i_o_l0
  i_t0_l0 := by rw [i4_s4 h.b_t0 h.b_l0]; exact h.i_t0_l0
  i_u0_l0 := by rw [i4_s4 h.b_u0 h.b_l0]; exact h.i_u0_l0
  i_o_l1 := by rw [i4_s4 h.b_o h.b_l1]; exact h.i_o_l1
  i_t1_l1 := by rw [i4_s4 h.b_t1 h.b_l1]; exact h.i_t1_l1
  i_u1_l1 := by rw [i4_s4 h.b_u1 h.b_l1]; exact h.i_u1_l1
  i_o_l2 := by rw [i4_s4 h.b_o h.b_l2]; exact h.i_o_l2
  i_t2_l2 := by rw [i4_s4 h.b_t2 h.b_l2]; exact h.i_t2_l2
  i_u2_l2 := by rw [i4_s4 h.b_u2 h.b_l2]; exact h.i_u2_l2
  i_t0_g1 := by rw [i4_s4 h.b_t0 h.b_g1]; exact h.i_t0_g1
  i_t1_g1 := by rw [i4_s4 h.b_t1 h.b_g1]; exact h.i_t1_g1
  i_u0_g2 := by rw [i4_s4 h.b_u0 h.b_g2]; exact h.i_u0_g2
  i_u1_g2 := by rw [i4_s4 h.b_u1 h.b_g2]; exact h.i_u1_g2
  i_a_g1 := by rw [i4_s4 h.b_a h.b_g1]; exact h.i_a_g1
  i_a_g2 := by rw [i4_s4 h.b_a h.b_g2]; exact h.i_a_g2
  i_t0_g3 := by rw [i4_s4 h.b_t0 h.b_g3]; exact h.i_t0_g3
  i_t2_g3 := by rw [i4_s4 h.b_t2 h.b_g3]; exact h.i_t2_g3
  i_u0_g4 := by rw [i4_s4 h.b_u0 h.b_g4]; exact h.i_u0_g4
  i_u2_g4 := by rw [i4_s4 h.b_u2 h.b_g4]; exact h.i_u2_g4
  i_b_g3 := by rw [i4_s4 h.b_b h.b_g3]; exact h.i_b_g3
  i_b_g4 := by rw [i4_s4 h.b_b h.b_g4]; exact h.i_b_g4
  i_t1_g5 := by rw [i4_s4 h.b_t1 h.b_g5]; exact h.i_t1_g5
  i_t2_g5 := by rw [i4_s4 h.b_t2 h.b_g5]; exact h.i_t2_g5
  i_u1_g6 := by rw [i4_s4 h.b_u1 h.b_g6]; exact h.i_u1_g6
  i_u2_g6 := by rw [i4_s4 h.b_u2 h.b_g6]; exact h.i_u2_g6
  i_c_g5 := by rw [i4_s4 h.b_c h.b_g5]; exact h.i_c_g5
  i_c_g6 := by rw [i4_s4 h.b_c h.b_g6]; exact h.i_c_g6
  d_t0_o := s4_inj h.b_t0 h.b_o h.d_t0_o
  d_u0_o := s4_inj h.b_u0 h.b_o h.d_u0_o
  d_u0_t0 := s4_inj h.b_u0 h.b_t0 h.d_u0_t0
  d_t1_o := s4_inj h.b_t1 h.b_o h.d_t1_o
  d_u1_o := s4_inj h.b_u1 h.b_o h.d_u1_o
  d_u1_t1 := s4_inj h.b_u1 h.b_t1 h.d_u1_t1
  d_t2_o := s4_inj h.b_t2 h.b_o h.d_t2_o
  d_u2_o := s4_inj h.b_u2 h.b_o h.d_u2_o
  d_u2_t2 := s4_inj h.b_u2 h.b_t2 h.d_u2_t2
  d_t0_t1 := s4_inj h.b_t0 h.b_t1 h.d_t0_t1
  d_u0_u1 := s4_inj h.b_u0 h.b_u1 h.d_u0_u1
  d_t0_t2 := s4_inj h.b_t0 h.b_t2 h.d_t0_t2
  d_u0_u2 := s4_inj h.b_u0 h.b_u2 h.d_u0_u2
  d_t1_t2 := s4_inj h.b_t1 h.b_t2 h.d_t1_t2
  d_u1_u2 := s4_inj h.b_u1 h.b_u2 h.d_u1_u2
  d_l0_l1 := z4_inj h.b_l0 h.b_l1 h.d_l0_l1
  d_l0_l2 := z4_inj h.b_l0 h.b_l2 h.d_l0_l2
  d_l1_l2 := z4_inj h.b_l1 h.b_l2 h.d_l1_l2
  d_g1_g2 := z4_inj h.b_g1 h.b_g2 h.d_g1_g2
  d_g3_g4 := z4_inj h.b_g3 h.b_g4 h.d_g3_g4
  d_g5_g6 := z4_inj h.b_g5 h.b_g6 h.d_g5_g6
def Des4FS (o : Nat) : Prop := ∀ t0 t1 t2 u0 u1 u2 a b c l0 l1 l2 g1 g2 g3 g4 g5 g6 : Nat, Des4F o t0 t1 t2 u0 u1 u2 a b c l0 l1 l2 g1 g2 g3 g4 g5 g6 → ∃ i, i < 21 ∧ i4 a i = true ∧ i4 b i = true ∧ i4 c i = true
theorem Des4FS_back (o : Nat) (_ : o < 21) (s : Des4FS (s4 o)) : Des4FS o := fun t0 t1 t2 u0 u1 u2 a b c l0 l1 l2 g1 g2 g3 g4 g5 g6 h => by
  obtain ⟨i, hi, p, q, r⟩ := s _ _ _ _ _ _ _ _ _ _ _ _ _ _ _ _ _ _ h.turn
  refine ⟨y4 i, y4_lt hi, ?_, ?_, ?_⟩
  · rw [← i4_s4 h.b_a (y4_lt hi), z4_y4 hi]; exact p
  · rw [← i4_s4 h.b_b (y4_lt hi), z4_y4 hi]; exact q
  · rw [← i4_s4 h.b_c (y4_lt hi), z4_y4 hi]; exact r
theorem beq_nd {x y : Nat} (h : x ≠ y) : (x == y) = false := beq_false_of_ne h
theorem Des4S_zero : Des4FS 0 := fun t0 t1 t2 u0 u1 u2 a b c l0 l1 l2 g1 g2 g3 g4 g5 g6 h => by
  have k := des4_all
  unfold des4 at k
  have k := List.all_eq_true.1 k l0 (on4_mem h.b_l0 h.b_o (by rw [i4_comm h.b_l0 h.b_o]; exact h.i_o_l0))
  have k := List.all_eq_true.1 k l1 (on4_mem h.b_l1 h.b_o (by rw [i4_comm h.b_l1 h.b_o]; exact h.i_o_l1))
  rw [beq_nd h.d_l0_l1, Bool.false_or] at k
  have k := List.all_eq_true.1 k l2 (on4_mem h.b_l2 h.b_o (by rw [i4_comm h.b_l2 h.b_o]; exact h.i_o_l2))
  rw [beq_nd h.d_l0_l2, beq_nd h.d_l1_l2, Bool.false_or, Bool.false_or] at k
  have k := List.all_eq_true.1 k t0 (on4_mem h.b_t0 h.b_l0 h.i_t0_l0)
  rw [beq_nd h.d_t0_o, Bool.false_or] at k
  have k := List.all_eq_true.1 k u0 (on4_mem h.b_u0 h.b_l0 h.i_u0_l0)
  rw [beq_nd h.d_u0_o, beq_nd h.d_u0_t0, Bool.false_or, Bool.false_or] at k
  have k := List.all_eq_true.1 k t1 (on4_mem h.b_t1 h.b_l1 h.i_t1_l1)
  rw [beq_nd h.d_t1_o, Bool.false_or] at k
  have k := List.all_eq_true.1 k u1 (on4_mem h.b_u1 h.b_l1 h.i_u1_l1)
  rw [beq_nd h.d_u1_o, beq_nd h.d_u1_t1, Bool.false_or, Bool.false_or] at k
  rw [← j4_ln h.b_t0 h.b_t1 h.b_g1 h.d_t0_t1 h.i_t0_g1 h.i_t1_g1, ← j4_ln h.b_u0 h.b_u1 h.b_g2 h.d_u0_u1 h.i_u0_g2 h.i_u1_g2, ← j4_uni h.b_g1 h.b_g2 h.b_a h.d_g1_g2 h.i_a_g1 h.i_a_g2] at k
  generalize e : k4 a = A at k
  cases A with
  | zero => cases k
  | succ A =>
    have k := List.all_eq_true.1 k t2 (on4_mem h.b_t2 h.b_l2 h.i_t2_l2)
    rw [beq_nd h.d_t2_o, Bool.false_or] at k
    have k := List.all_eq_true.1 k u2 (on4_mem h.b_u2 h.b_l2 h.i_u2_l2)
    rw [beq_nd h.d_u2_o, beq_nd h.d_u2_t2, Bool.false_or, Bool.false_or] at k
    rw [← e, ← j4_ln h.b_t0 h.b_t2 h.b_g3 h.d_t0_t2 h.i_t0_g3 h.i_t2_g3, ← j4_ln h.b_u0 h.b_u2 h.b_g4 h.d_u0_u2 h.i_u0_g4 h.i_u2_g4, ← j4_uni h.b_g3 h.b_g4 h.b_b h.d_g3_g4 h.i_b_g3 h.i_b_g4, ← j4_ln h.b_t1 h.b_t2 h.b_g5 h.d_t1_t2 h.i_t1_g5 h.i_t2_g5, ← j4_ln h.b_u1 h.b_u2 h.b_g6 h.d_u1_u2 h.i_u1_g6 h.i_u2_g6, ← j4_uni h.b_g5 h.b_g6 h.b_c h.d_g5_g6 h.i_c_g5 h.i_c_g6] at k
    exact k4_line (bne_iff_ne.1 k)
/-- Desargues, in the plane of order 4. -/
theorem des4_line (h : Des4F o t0 t1 t2 u0 u1 u2 a b c l0 l1 l2 g1 g2 g3 g4 g5 g6) : ∃ i, i < 21 ∧ i4 a i = true ∧ i4 b i = true ∧ i4 c i = true :=
  st4_all (S := Des4FS) (fun _ k => s4_lt k) Des4FS_back Des4S_zero st4_s h.b_o _ _ _ _ _ _ _ _ _ _ _ _ _ _ _ _ _ _ h

end Go.Proofs.YtgpkhfpejopacaaDoor

/- Pappus in the plane of order 4: of all figures; nothing of the program. -/
/- Pappus in the plane of order 4, by the kernel; nothing of the program. -/
namespace Go.Proofs.YtgpkhfpejopacaaDoor

/-- All figures of Pappus on the first line. -/
def pap4 : Bool := r21.all fun m => m == 0 ||
  (on4 0).all fun p0 => i4 p0 m || (on4 0).all fun p1 => i4 p1 m || p0 == p1 || (on4 0).all fun p2 => i4 p2 m || p0 == p2 || p1 == p2 ||
    (on4 m).all fun p3 => i4 p3 0 || (on4 m).all fun p4 => i4 p4 0 || p3 == p4 || (on4 m).all fun p5 => i4 p5 0 || p3 == p5 || p4 == p5 ||
      (k4 (j4 (j4 p0 p4) (j4 p1 p3)) &&& k4 (j4 (j4 p0 p5) (j4 p2 p3)) &&& k4 (j4 (j4 p1 p5) (j4 p2 p4))) != 0
theorem pap4_all : pap4 = true := by decide +kernel

end Go.Proofs.YtgpkhfpejopacaaDoor

namespace Go.Proofs.YtgpkhfpejopacaaDoor

structure Pap4F (p0 p1 p2 p3 p4 p5 a b c l m g1 g2 g3 g4 g5 g6 : Nat) : Prop where
  b_p0 : p0 < 21
  b_p1 : p1 < 21
  b_p2 : p2 < 21
  b_p3 : p3 < 21
  b_p4 : p4 < 21
  b_p5 : p5 < 21
  b_a : a < 21
  b_b : b < 21
  b_c : c < 21
  b_l : l < 21
  b_m : m < 21
  b_g1 : g1 < 21
  b_g2 : g2 < 21
  b_g3 : g3 < 21
  b_g4 : g4 < 21
  b_g5 : g5 < 21
  b_g6 : g6 < 21
  i_p0_l : i4 p0 l = true
  i_p1_l : i4 p1 l = true
  i_p2_l : i4 p2 l = true
  i_p3_m : i4 p3 m = true
  i_p4_m : i4 p4 m = true
  i_p5_m : i4 p5 m = true
  i_p0_g1 : i4 p0 g1 = true
  i_p4_g1 : i4 p4 g1 = true
  i_p1_g2 : i4 p1 g2 = true
  i_p3_g2 : i4 p3 g2 = true
  i_a_g1 : i4 a g1 = true
  i_a_g2 : i4 a g2 = true
  i_p0_g3 : i4 p0 g3 = true
  i_p5_g3 : i4 p5 g3 = true
  i_p2_g4 : i4 p2 g4 = true
  i_p3_g4 : i4 p3 g4 = true
  i_b_g3 : i4 b g3 = true
  i_b_g4 : i4 b g4 = true
  i_p1_g5 : i4 p1 g5 = true
  i_p5_g5 : i4 p5 g5 = true
  i_p2_g6 : i4 p2 g6 = true
  i_p4_g6 : i4 p4 g6 = true
  i_c_g5 : i4 c g5 = true
  i_c_g6 : i4 c g6 = true
  n_p0_m : i4 p0 m = false
  n_p1_m : i4 p1 m = false
  n_p2_m : i4 p2 m = false
  n_p3_l : i4 p3 l = false
  n_p4_l : i4 p4 l = false
  n_p5_l : i4 p5 l = false
  d_p0_p1 : p0 ≠ p1
  d_p0_p2 : p0 ≠ p2
  d_p1_p2 : p1 ≠ p2
  d_p3_p4 : p3 ≠ p4
  d_p3_p5 : p3 ≠ p5
  d_p4_p5 : p4 ≠ p5
  d_l_m : l ≠ m
  d_g1_g2 : g1 ≠ g2
  d_g3_g4 : g3 ≠ g4
  d_g5_g6 : g5 ≠ g6
variable {p0 p1 p2 p3 p4 p5 a b c l m g1 g2 g3 g4 g5 g6 : Nat}
theorem Pap4F.turn (h : Pap4F p0 p1 p2 p3 p4 p5 a b c l m g1 g2 g3 g4 g5 g6) : Pap4F (s4 p0) (s4 p1) (s4 p2) (s4 p3) (s4 p4) (s4 p5) (s4 a) (s4 b) (s4 c) (z4 l) (z4 m) (z4 g1) (z4 g2) (z4 g3) (z4 g4) (z4 g5) (z4 g6) where
  b_p0 := s4_lt h.b_p0
  b_p1 := s4_lt h.b_p1
  b_p2 := s4_lt h.b_p2
  b_p3 := s4_lt h.b_p3
  b_p4 := s4_lt h.b_p4
  b_p5 := s4_lt h.b_p5
  b_a := s4_lt h.b_a
  b_b := s4_lt h.b_b
  b_c := s4_lt h.b_c
  b_l := z4_lt h.b_l
  b_m := z4_lt h.b_m
  b_g1 := z4_lt h.b_g1
  b_g2 := z4_lt h.b_g2
  b_g3 := z4_lt h.b_g3
  b_g4 := z4_lt h.b_g4
  b_g5 := z4_lt h.b_g5
  b_g6 := z4_lt h.b_g6
  i_p0_l := by rw [i4_s4 h.b_p0 h.b_l]; exact h.i_p0_l
  i_p1_l := by rw [i4_s4 h.b_p1 h.b_l]; exact h.i_p1_l
  i_p2_l := by rw [i4_s4 h.b_p2 h.b_l]; exact h.i_p2_l
  i_p3_m := by rw [i4_s4 h.b_p3 h.b_m]; exact h.i_p3_m
  i_p4_m := by rw [i4_s4 h.b_p4 h.b_m]; exact h.i_p4_m
  i_p5_m := by rw [i4_s4 h.b_p5 h.b_m]; exact h.i_p5_m
  i_p0_g1 := by rw [i4_s4 h.b_p0 h.b_g1]; exact h.i_p0_g1
  i_p4_g1 := by rw [i4_s4 h.b_p4 h.b_g1]; exact h.i_p4_g1
  i_p1_g2 := by rw [i4_s4 h.b_p1 h.b_g2]; exact h.i_p1_g2
  i_p3_g2 := by rw [i4_s4 h.b_p3 h.b_g2]; exact h.i_p3_g2
  i_a_g1 := by rw [i4_s4 h.b_a h.b_g1]; exact h.i_a_g1
  i_a_g2 := by rw [i4_s4 h.b_a h.b_g2]; exact h.i_a_g2
  i_p0_g3 := by rw [i4_s4 h.b_p0 h.b_g3]; exact h.i_p0_g3
  i_p5_g3 := by rw [i4_s4 h.b_p5 h.b_g3]; exact h.i_p5_g3
  i_p2_g4 := by rw [i4_s4 h.b_p2 h.b_g4]; exact h.i_p2_g4
  i_p3_g4 := by rw [i4_s4 h.b_p3 h.b_g4]; exact h.i_p3_g4
  i_b_g3 := by rw [i4_s4 h.b_b h.b_g3]; exact h.i_b_g3
  i_b_g4 := by rw [i4_s4 h.b_b h.b_g4]; exact h.i_b_g4
  i_p1_g5 := by rw [i4_s4 h.b_p1 h.b_g5]; exact h.i_p1_g5
  i_p5_g5 := by rw [i4_s4 h.b_p5 h.b_g5]; exact h.i_p5_g5
  i_p2_g6 := by rw [i4_s4 h.b_p2 h.b_g6]; exact h.i_p2_g6
  i_p4_g6 := by rw [i4_s4 h.b_p4 h.b_g6]; exact h.i_p4_g6
  i_c_g5 := by rw [i4_s4 h.b_c h.b_g5]; exact h.i_c_g5
  i_c_g6 := by rw [i4_s4 h.b_c h.b_g6]; exact h.i_c_g6
  n_p0_m := by rw [i4_s4 h.b_p0 h.b_m]; exact h.n_p0_m
  n_p1_m := by rw [i4_s4 h.b_p1 h.b_m]; exact h.n_p1_m
  n_p2_m := by rw [i4_s4 h.b_p2 h.b_m]; exact h.n_p2_m
  n_p3_l := by rw [i4_s4 h.b_p3 h.b_l]; exact h.n_p3_l
  n_p4_l := by rw [i4_s4 h.b_p4 h.b_l]; exact h.n_p4_l
  n_p5_l := by rw [i4_s4 h.b_p5 h.b_l]; exact h.n_p5_l
  d_p0_p1 := s4_inj h.b_p0 h.b_p1 h.d_p0_p1
  d_p0_p2 := s4_inj h.b_p0 h.b_p2 h.d_p0_p2
  d_p1_p2 := s4_inj h.b_p1 h.b_p2 h.d_p1_p2
  d_p3_p4 := s4_inj h.b_p3 h.b_p4 h.d_p3_p4
  d_p3_p5 := s4_inj h.b_p3 h.b_p5 h.d_p3_p5
  d_p4_p5 := s4_inj h.b_p4 h.b_p5 h.d_p4_p5
  d_l_m := z4_inj h.b_l h.b_m h.d_l_m
  d_g1_g2 := z4_inj h.b_g1 h.b_g2 h.d_g1_g2
  d_g3_g4 := z4_inj h.b_g3 h.b_g4 h.d_g3_g4
  d_g5_g6 := z4_inj h.b_g5 h.b_g6 h.d_g5_g6
def Pap4FS (l : Nat) : Prop := ∀ p0 p1 p2 p3 p4 p5 a b c m g1 g2 g3 g4 g5 g6 : Nat, Pap4F p0 p1 p2 p3 p4 p5 a b c l m g1 g2 g3 g4 g5 g6 → ∃ i, i < 21 ∧ i4 a i = true ∧ i4 b i = true ∧ i4 c i = true
theorem Pap4FS_back (l : Nat) (_ : l < 21) (s : Pap4FS (z4 l)) : Pap4FS l := fun p0 p1 p2 p3 p4 p5 a b c m g1 g2 g3 g4 g5 g6 h => by
  obtain ⟨i, hi, p, q, r⟩ := s _ _ _ _ _ _ _ _ _ _ _ _ _ _ _ _ h.turn
  refine ⟨y4 i, y4_lt hi, ?_, ?_, ?_⟩
  · rw [← i4_s4 h.b_a (y4_lt hi), z4_y4 hi]; exact p
  · rw [← i4_s4 h.b_b (y4_lt hi), z4_y4 hi]; exact q
  · rw [← i4_s4 h.b_c (y4_lt hi), z4_y4 hi]; exact r
theorem beq_no {x y : Nat} (h : x ≠ y) : (x == y) = false := beq_false_of_ne h
theorem ne_in {x y l : Nat} (h : i4 x l = true) (h' : i4 y l = false) : x ≠ y := fun e => by rw [e, h'] at h; cases h
theorem Pap4S_zero : Pap4FS 0 := fun p0 p1 p2 p3 p4 p5 a b c m g1 g2 g3 g4 g5 g6 h => by
  have k := pap4_all
  unfold pap4 at k
  have k := List.all_eq_true.1 k m (r21_mem h.b_m)
  rw [beq_no h.d_l_m.symm, Bool.false_or] at k
  have k := List.all_eq_true.1 k p0 (on4_mem h.b_p0 h.b_l h.i_p0_l)
  rw [h.n_p0_m, Bool.false_or] at k
  have k := List.all_eq_true.1 k p1 (on4_mem h.b_p1 h.b_l h.i_p1_l)
  rw [h.n_p1_m, beq_no h.d_p0_p1, Bool.false_or, Bool.false_or] at k
  have k := List.all_eq_true.1 k p2 (on4_mem h.b_p2 h.b_l h.i_p2_l)
  rw [h.n_p2_m, beq_no h.d_p0_p2, beq_no h.d_p1_p2, Bool.false_or, Bool.false_or, Bool.false_or] at k
  have k := List.all_eq_true.1 k p3 (on4_mem h.b_p3 h.b_m h.i_p3_m)
  rw [h.n_p3_l, Bool.false_or] at k
  have k := List.all_eq_true.1 k p4 (on4_mem h.b_p4 h.b_m h.i_p4_m)
  rw [h.n_p4_l, beq_no h.d_p3_p4, Bool.false_or, Bool.false_or] at k
  have k := List.all_eq_true.1 k p5 (on4_mem h.b_p5 h.b_m h.i_p5_m)
  rw [h.n_p5_l, beq_no h.d_p3_p5, beq_no h.d_p4_p5, Bool.false_or, Bool.false_or, Bool.false_or] at k
  rw [← j4_ln h.b_p0 h.b_p4 h.b_g1 (ne_in h.i_p0_l h.n_p4_l) h.i_p0_g1 h.i_p4_g1, ← j4_ln h.b_p1 h.b_p3 h.b_g2 (ne_in h.i_p1_l h.n_p3_l) h.i_p1_g2 h.i_p3_g2, ← j4_uni h.b_g1 h.b_g2 h.b_a h.d_g1_g2 h.i_a_g1 h.i_a_g2,
    ← j4_ln h.b_p0 h.b_p5 h.b_g3 (ne_in h.i_p0_l h.n_p5_l) h.i_p0_g3 h.i_p5_g3, ← j4_ln h.b_p2 h.b_p3 h.b_g4 (ne_in h.i_p2_l h.n_p3_l) h.i_p2_g4 h.i_p3_g4, ← j4_uni h.b_g3 h.b_g4 h.b_b h.d_g3_g4 h.i_b_g3 h.i_b_g4,
    ← j4_ln h.b_p1 h.b_p5 h.b_g5 (ne_in h.i_p1_l h.n_p5_l) h.i_p1_g5 h.i_p5_g5, ← j4_ln h.b_p2 h.b_p4 h.b_g6 (ne_in h.i_p2_l h.n_p4_l) h.i_p2_g6 h.i_p4_g6, ← j4_uni h.b_g5 h.b_g6 h.b_c h.d_g5_g6 h.i_c_g5 h.i_c_g6] at k
  exact k4_line (bne_iff_ne.1 k)
/-- Pappus, in the plane of order 4. -/
theorem pap4_line (h : Pap4F p0 p1 p2 p3 p4 p5 a b c l m g1 g2 g3 g4 g5 g6) : ∃ i, i < 21 ∧ i4 a i = true ∧ i4 b i = true ∧ i4 c i = true :=
  st4_all (S := Pap4FS) (fun _ k => z4_lt k) Pap4FS_back Pap4S_zero st4_z h.b_l _ _ _ _ _ _ _ _ _ _ _ _ _ _ _ _ h

end Go.Proofs.YtgpkhfpejopacaaDoor

/- The planes of orders 2, 3, 4, 5 as lists; those of a prime as triples; nothing of the program. -/
/- Desargues in the plane of a field; nothing of the program. -/
/- The plane of a field is a plane; Pappus, Desargues; nothing of the program. -/
/- Triples over a field; nothing of the program. -/
namespace Go.Proofs.YtgpkhfpejopacaaDoor

variable {kq : Nat} [NeZero kq]

@[ext] structure V3 (F : Type) where
  x : F
  y : F
  z : F
def dt (l p : V3 (Fin kq)) : (Fin kq) := l.x * p.x + l.y * p.y + l.z * p.z
def sc (c : (Fin kq)) (p : V3 (Fin kq)) : V3 (Fin kq) := ⟨c * p.x, c * p.y, c * p.z⟩
def pla (p q : V3 (Fin kq)) : V3 (Fin kq) := ⟨p.x + q.x, p.y + q.y, p.z + q.z⟩
def cr (p q : V3 (Fin kq)) : V3 (Fin kq) := ⟨p.y * q.z - p.z * q.y, p.z * q.x - p.x * q.z, p.x * q.y - p.y * q.x⟩
def Nz (p : V3 (Fin kq)) : Prop := ¬ (p.x = 0 ∧ p.y = 0 ∧ p.z = 0)
theorem dt_comm (l p : V3 (Fin kq)) : dt l p = dt p l := by unfold dt; grind
theorem dt_pl (l p q : V3 (Fin kq)) : dt l (pla p q) = dt l p + dt l q := by unfold dt pla; grind
theorem dt_sc (l p : V3 (Fin kq)) (c : (Fin kq)) : dt l (sc c p) = c * dt l p := by unfold dt sc; grind
theorem dt_sc' (l p : V3 (Fin kq)) (c : (Fin kq)) : dt (sc c l) p = c * dt l p := by unfold dt sc; grind
theorem dt_crl (p q : V3 (Fin kq)) : dt (cr p q) p = 0 := by unfold dt cr; grind
theorem dt_crr (p q : V3 (Fin kq)) : dt (cr p q) q = 0 := by unfold dt cr; grind
def Inv (kq : Nat) [NeZero kq] : Prop := (1 : (Fin kq)) ≠ 0 ∧ ∀ a : (Fin kq), a ≠ 0 → ∃ c, a * c = 1
theorem Inv.no {a c : (Fin kq)} (h : Inv kq) (hc : c ≠ 0) (e : c * a = 0) : a = 0 := by
  obtain ⟨d, hd⟩ := h.2 c hc
  grind
theorem Inv.mul {a c : (Fin kq)} (h : Inv kq) (ha : a ≠ 0) (hc : c ≠ 0) : a * c ≠ 0 := fun e => hc (h.no ha e)
/-- What has no product is a multiple. -/
theorem cr_dep (h : Inv kq) {p q : V3 (Fin kq)} (hq : Nz q) (e1 : p.y * q.z - p.z * q.y = 0) (e2 : p.z * q.x - p.x * q.z = 0) (e3 : p.x * q.y - p.y * q.x = 0) : ∃ c, p = sc c q := by
  by_cases hx : q.x = 0
  · by_cases hy : q.y = 0
    · have hz : q.z ≠ 0 := fun hz => hq ⟨hx, hy, hz⟩
      obtain ⟨d, hd⟩ := h.2 _ hz
      exact ⟨p.z * d, V3.ext (by show _ = _; simp only [sc]; grind) (by simp only [sc]; grind) (by simp only [sc]; grind)⟩
    · obtain ⟨d, hd⟩ := h.2 _ hy
      exact ⟨p.y * d, V3.ext (by simp only [sc]; grind) (by simp only [sc]; grind) (by simp only [sc]; grind)⟩
  · obtain ⟨d, hd⟩ := h.2 _ hx
    exact ⟨p.x * d, V3.ext (by simp only [sc]; grind) (by simp only [sc]; grind) (by simp only [sc]; grind)⟩
theorem cr_kill (h : Inv kq) {l p q : V3 (Fin kq)} (hn : Nz (cr p q)) (hp : dt l p = 0) (hq : dt l q = 0) : ∃ c, l = sc c (cr p q) := by
  unfold dt at hp hq
  exact cr_dep h hn (by simp only [cr]; grind) (by simp only [cr]; grind) (by simp only [cr]; grind)
/-- What lies in a line of two is made of them. -/
theorem span_core {L1 L2 L3 P1 P2 P3 Q1 Q2 Q3 R1 R2 R3 d : (Fin kq)} (hd : (P1 * Q2 - P2 * Q1) * d = 1) (hL : ¬ (L1 = 0 ∧ L2 = 0 ∧ L3 = 0)) (h : Inv kq) (hP : L1 * P1 + L2 * P2 + L3 * P3 = 0) (hQ : L1 * Q1 + L2 * Q2 + L3 * Q3 = 0) (hR : L1 * R1 + L2 * R2 + L3 * R3 = 0) :
    ∃ m n : (Fin kq), R1 = m * P1 + n * Q1 ∧ R2 = m * P2 + n * Q2 ∧ R3 = m * P3 + n * Q3 := by
  have h3 : L3 ≠ 0 := fun e => hL ⟨by grind, by grind, e⟩
  obtain ⟨c, hc⟩ := h.2 _ h3
  have e1 : R1 = (R1 * Q2 - R2 * Q1) * d * P1 + (P1 * R2 - P2 * R1) * d * Q1 := by grind
  have e2 : R2 = (R1 * Q2 - R2 * Q1) * d * P2 + (P1 * R2 - P2 * R1) * d * Q2 := by grind
  refine ⟨(R1 * Q2 - R2 * Q1) * d, (P1 * R2 - P2 * R1) * d, e1, e2, ?_⟩
  generalize (R1 * Q2 - R2 * Q1) * d = m at *
  generalize (P1 * R2 - P2 * R1) * d = n at *
  have : L3 * R3 = L3 * (m * P3 + n * Q3) := by grind
  grind
theorem span (h : Inv kq) {l p q r : V3 (Fin kq)} (hl : Nz l) (hn : Nz (cr p q)) (hp : dt l p = 0) (hq : dt l q = 0) (hr : dt l r = 0) : ∃ m n, r = pla (sc m p) (sc n q) := by
  unfold dt at hp hq hr
  by_cases hz : (cr p q).z = 0
  · by_cases hy : (cr p q).y = 0
    · have hx : (cr p q).x ≠ 0 := fun hx => hn ⟨hx, hy, hz⟩
      obtain ⟨d, hd⟩ := h.2 _ hx
      obtain ⟨m, n, a, b, c⟩ := span_core (L1 := l.y) (L2 := l.z) (L3 := l.x) (P3 := p.x) (Q3 := q.x) (R1 := r.y) (R2 := r.z) (R3 := r.x) hd (fun e => hl ⟨e.2.2, e.1, e.2.1⟩) h (by grind) (by grind) (by grind)
      exact ⟨m, n, V3.ext c a b⟩
    · obtain ⟨d, hd⟩ := h.2 _ hy
      obtain ⟨m, n, a, b, c⟩ := span_core (L1 := l.z) (L2 := l.x) (L3 := l.y) (P3 := p.y) (Q3 := q.y) (R1 := r.z) (R2 := r.x) (R3 := r.y) hd (fun e => hl ⟨e.2.1, e.2.2, e.1⟩) h (by grind) (by grind) (by grind)
      exact ⟨m, n, V3.ext b c a⟩
  · obtain ⟨d, hd⟩ := h.2 _ hz
    obtain ⟨m, n, a, b, c⟩ := span_core (L1 := l.x) (L2 := l.y) (L3 := l.z) (P3 := p.z) (Q3 := q.z) (R1 := r.x) (R2 := r.y) (R3 := r.z) hd (fun e => hl ⟨e.1, e.2.1, e.2.2⟩) h (by grind) (by grind) (by grind)
    exact ⟨m, n, V3.ext a b c⟩

end Go.Proofs.YtgpkhfpejopacaaDoor

namespace Go.Proofs.YtgpkhfpejopacaaDoor

variable {kq : Nat} [NeZero kq]

structure VP (kq : Nat) [NeZero kq] (v : Nat) (T : Nat → V3 (Fin kq)) : Prop where
  inv : Inv kq
  nz : ∀ j, j < v → Nz (T j)
  rep : ∀ w : V3 (Fin kq), Nz w → ∃ j, j < v ∧ ∃ c, c ≠ 0 ∧ w = sc c (T j)
  uni : ∀ j k c, j < v → k < v → T j = sc c (T k) → j = k
variable {v : Nat} {T : Nat → V3 (Fin kq)}
theorem VP.cr_nz (h : VP kq v T) {j k : Nat} (hj : j < v) (hk : k < v) (hn : j ≠ k) : Nz (cr (T j) (T k)) := fun ⟨e1, e2, e3⟩ => by
  obtain ⟨c, hc⟩ := cr_dep h.inv (h.nz k hk) e1 e2 e3
  exact hn (h.uni j k c hj hk hc)
/-- A vector's point: it lies where the vector does. -/
theorem VP.pt (h : VP kq v T) {w : V3 (Fin kq)} (hw : Nz w) : ∃ j, j < v ∧ ∀ l : V3 (Fin kq), dt l (T j) = 0 ↔ dt l w = 0 := by
  obtain ⟨j, hj, c, hc, e⟩ := h.rep w hw
  refine ⟨j, hj, fun l => ?_⟩
  rw [e, dt_sc]
  exact ⟨fun k => by rw [k]; grind, fun k => h.inv.no hc k⟩
theorem VP.join (h : VP kq v T) {j k : Nat} (hj : j < v) (hk : k < v) (hn : j ≠ k) : ∃ i, i < v ∧ dt (T i) (T j) = 0 ∧ dt (T i) (T k) = 0 := by
  obtain ⟨i, hi, e⟩ := h.pt (h.cr_nz hj hk hn)
  exact ⟨i, hi, by rw [dt_comm, e, dt_comm]; exact dt_crl _ _, by rw [dt_comm, e, dt_comm]; exact dt_crr _ _⟩
theorem VP.juni (h : VP kq v T) {j k a b : Nat} (hj : j < v) (hk : k < v) (hn : j ≠ k) (ha : a < v) (hb : b < v) (h1 : dt (T a) (T j) = 0) (h2 : dt (T a) (T k) = 0) (h3 : dt (T b) (T j) = 0) (h4 : dt (T b) (T k) = 0) : a = b := by
  have hc := h.cr_nz hj hk hn
  obtain ⟨c, ec⟩ := cr_kill h.inv hc h1 h2
  obtain ⟨d, ed⟩ := cr_kill h.inv hc h3 h4
  have hd : d ≠ 0 := fun e => h.nz b hb (by rw [ed, e]; simp only [sc]; exact ⟨by grind, by grind, by grind⟩)
  obtain ⟨d', hd'⟩ := h.inv.2 d hd
  refine h.uni a b (c * d') ha hb ?_
  rw [ec, ed]
  simp only [sc]
  refine V3.ext ?_ ?_ ?_ <;> (simp only; grind)
open Classical in
/-- What lies in what. -/
noncomputable def vI (T : Nat → V3 (Fin kq)) (x i : Nat) : Bool := decide (dt (T i) (T x) = 0)
open Classical in
theorem vI_iff {x i : Nat} : vI T x i = true ↔ dt (T i) (T x) = 0 := by unfold vI; exact decide_eq_true_iff
theorem VP.four (h : VP kq v T) : ∃ x y z u, Fr4 v v (vI T) x y z u := by
  have h1 := h.inv.1
  have z1 : ∀ a : (Fin kq), 0 + a = a := fun a => by grind
  have z2 : ∀ a : (Fin kq), a + 0 = a := fun a => by grind
  obtain ⟨x, hx, ex⟩ := h.pt (w := ⟨1, 0, 0⟩) (fun e => h1 e.1)
  obtain ⟨y, hy, ey⟩ := h.pt (w := ⟨0, 1, 0⟩) (fun e => h1 e.2.1)
  obtain ⟨z, hz, ez⟩ := h.pt (w := ⟨0, 0, 1⟩) (fun e => h1 e.2.2)
  obtain ⟨u, hu, eu⟩ := h.pt (w := ⟨1, 1, 1⟩) (fun e => h1 e.1)
  simp only [dt] at ex ey ez eu
  have kx : ∀ l : V3 (Fin kq), dt l (T x) = 0 ↔ l.x = 0 := fun l => by unfold dt; rw [ex l]; constructor <;> (intro e; grind)
  have ky : ∀ l : V3 (Fin kq), dt l (T y) = 0 ↔ l.y = 0 := fun l => by unfold dt; rw [ey l]; constructor <;> (intro e; grind)
  have kz : ∀ l : V3 (Fin kq), dt l (T z) = 0 ↔ l.z = 0 := fun l => by unfold dt; rw [ez l]; constructor <;> (intro e; grind)
  have ku : ∀ l : V3 (Fin kq), dt l (T u) = 0 ↔ l.x + l.y + l.z = 0 := fun l => by unfold dt; rw [eu l]; constructor <;> (intro e; grind)
  have sep : ∀ {a b : Nat} (l : V3 (Fin kq)), dt l (T a) = 0 → dt l (T b) ≠ 0 → a ≠ b := fun l p q e => q (by rw [← e]; exact p)
  refine ⟨x, y, z, u, hx, hy, hz, hu, ?_, ?_, ?_, ?_, ?_, ?_, ?_, ?_, ?_, ?_⟩
  · exact sep ⟨0, 1, 0⟩ ((kx _).2 rfl) fun e => h1 ((ky _).1 e)
  · exact sep ⟨0, 0, 1⟩ ((kx _).2 rfl) fun e => h1 ((kz _).1 e)
  · exact sep ⟨0, 0, 1⟩ ((kx _).2 rfl) fun e => h1 (by have : (0 : (Fin kq)) + 0 + 1 = 0 := (ku _).1 e; rwa [z1, z1] at this)
  · exact sep ⟨0, 0, 1⟩ ((ky _).2 rfl) fun e => h1 ((kz _).1 e)
  · exact sep ⟨0, 0, 1⟩ ((ky _).2 rfl) fun e => h1 (by have : (0 : (Fin kq)) + 0 + 1 = 0 := (ku _).1 e; rwa [z1, z1] at this)
  · exact sep ⟨0, 1, 0⟩ ((kz _).2 rfl) fun e => h1 (by have : (0 : (Fin kq)) + 1 + 0 = 0 := (ku _).1 e; rwa [z1, z2] at this)
  · intro i hi p q r
    rw [vI_iff] at p q r
    exact h.nz i hi ⟨(kx _).1 p, (ky _).1 q, (kz _).1 r⟩
  · intro i hi p q r
    rw [vI_iff] at p q r
    have p := (kx _).1 p; have q := (ky _).1 q; have r := (ku _).1 r
    exact h.nz i hi ⟨p, q, by grind⟩
  · intro i hi p q r
    rw [vI_iff] at p q r
    have p := (kx _).1 p; have q := (kz _).1 q; have r := (ku _).1 r
    exact h.nz i hi ⟨p, by grind, q⟩
  · intro i hi p q r
    rw [vI_iff] at p q r
    have p := (ky _).1 p; have q := (kz _).1 q; have r := (ku _).1 r
    exact h.nz i hi ⟨by grind, p, q⟩
theorem VP.pln (h : VP kq v T) : Pln v v (vI T) where
  join x y hx hy hn := by
    obtain ⟨i, hi, a, c⟩ := h.join hx hy hn
    exact ⟨i, hi, vI_iff.2 a, vI_iff.2 c⟩
  juni x y i j hx hy hn hi hj a b c d := h.juni hx hy hn hi hj (vI_iff.1 a) (vI_iff.1 b) (vI_iff.1 c) (vI_iff.1 d)
  meet i j hi hj hn := by
    obtain ⟨x, hx, a, c⟩ := h.join hi hj hn
    exact ⟨x, hx, vI_iff.2 (by rw [dt_comm]; exact a), vI_iff.2 (by rw [dt_comm]; exact c)⟩
  four := h.four

end Go.Proofs.YtgpkhfpejopacaaDoor

/- Pappus and Desargues in the plane of a field; nothing of the program. -/
namespace Go.Proofs.YtgpkhfpejopacaaDoor

variable {kq : Nat} [NeZero kq] {v : Nat} {T : Nat → V3 (Fin kq)}

theorem nz_of {l w : V3 (Fin kq)} (h : dt l w ≠ 0) : Nz w := fun ⟨a, b, c⟩ => h (by unfold dt; rw [a, b, c]; grind)
/-- Two lines have one point together. -/
theorem VP.muni (h : VP kq v T) {i j a b : Nat} (hi : i < v) (hj : j < v) (hn : i ≠ j) (ha : a < v) (hb : b < v) (h1 : dt (T i) (T a) = 0) (h2 : dt (T j) (T a) = 0) (h3 : dt (T i) (T b) = 0) (h4 : dt (T j) (T b) = 0) : a = b :=
  h.juni hi hj hn ha hb (by rw [dt_comm]; exact h1) (by rw [dt_comm]; exact h2) (by rw [dt_comm]; exact h3) (by rw [dt_comm]; exact h4)
/-- The point of two lines, told by a vector on both. -/
theorem VP.at_ (h : VP kq v T) {w : V3 (Fin kq)} {i j a : Nat} (hw : Nz w) (hi : i < v) (hj : j < v) (hn : i ≠ j) (ha : a < v) (h1 : dt (T i) (T a) = 0) (h2 : dt (T j) (T a) = 0) (h3 : dt (T i) w = 0) (h4 : dt (T j) w = 0) (l : V3 (Fin kq)) : dt l (T a) = 0 ↔ dt l w = 0 := by
  obtain ⟨k, hk, e⟩ := h.pt hw
  rw [h.muni hi hj hn ha hk h1 h2 ((e _).2 h3) ((e _).2 h4)]
  exact e l
theorem sc_zero (p : V3 (Fin kq)) : sc 0 p = ⟨0, 0, 0⟩ := by unfold sc; refine V3.ext ?_ ?_ ?_ <;> (simp only; grind)
theorem pl_zl {m : (Fin kq)} (p q : V3 (Fin kq)) (hm : m = 0) (n : (Fin kq)) : pla (sc m p) (sc n q) = sc n q := by rw [hm]; unfold pla sc; refine V3.ext ?_ ?_ ?_ <;> (simp only; grind)
theorem pl_zr {n : (Fin kq)} (p q : V3 (Fin kq)) (hn : n = 0) (m : (Fin kq)) : pla (sc m p) (sc n q) = sc m p := by rw [hn]; unfold pla sc; refine V3.ext ?_ ?_ ?_ <;> (simp only; grind)
/-- A third point of a line. -/
theorem VP.third (h : VP kq v T) {l p q r : Nat} (hl : l < v) (hp : p < v) (hq : q < v) (hr : r < v) (pq : p ≠ q) (rp : r ≠ p) (rq : r ≠ q) (h1 : dt (T l) (T p) = 0) (h2 : dt (T l) (T q) = 0) (h3 : dt (T l) (T r) = 0) : ∃ m n : (Fin kq), m ≠ 0 ∧ n ≠ 0 ∧ T r = pla (sc m (T p)) (sc n (T q)) := by
  obtain ⟨m, n, e⟩ := span h.inv (h.nz l hl) (h.cr_nz hp hq pq) h1 h2 h3
  refine ⟨m, n, fun hm => ?_, fun hn => ?_, e⟩
  · rw [pl_zl _ _ hm] at e; exact rq (h.uni r q n hr hq e)
  · rw [pl_zr _ _ hn] at e; exact rp (h.uni r p m hr hp e)
theorem VP.line3 (h : VP kq v T) {a b c g : Nat} {A B C : V3 (Fin kq)} (ha : a < v) (hb : b < v) (hc : c < v) (hg : g < v) (hga : dt (T g) (T a) = 0) (eA : ∀ l, dt l (T a) = 0 ↔ dt l A = 0) (eB : ∀ l, dt l (T b) = 0 ↔ dt l B = 0) (eC : ∀ l, dt l (T c) = 0 ↔ dt l C = 0) (key : ∀ l, dt l A = 0 → dt l B = 0 → dt l C = 0) : ∃ i, i < v ∧ dt (T i) (T a) = 0 ∧ dt (T i) (T b) = 0 ∧ dt (T i) (T c) = 0 := by
  by_cases ab : a = b
  · subst ab
    by_cases ac : a = c
    · subst ac
      exact ⟨g, hg, hga, hga, hga⟩
    · obtain ⟨i, hi, p, q⟩ := h.join ha hc ac
      exact ⟨i, hi, p, p, q⟩
  · obtain ⟨i, hi, p, q⟩ := h.join ha hb ab
    exact ⟨i, hi, p, q, (eC _).2 (key _ ((eA _).1 p) ((eB _).1 q))⟩
/-- Pappus. The lines that cross are unlike. -/
theorem VP.pap_ne (h : VP kq v T) {l m x p q r s g g' : Nat} (hl : l < v) (hm : m < v) (lm : l ≠ m) (hx : x < v) (hp : p < v) (hq : q < v) (hr : r < v) (hg : g < v) (xl : dt (T l) (T x) = 0) (xm : dt (T m) (T x) = 0) (pl_ : dt (T l) (T p) = 0) (ql : dt (T l) (T q) = 0) (rm : dt (T m) (T r) = 0) (pq : p ≠ q) (rx : r ≠ x)
    (g1 : dt (T g) (T p) = 0) (g2 : dt (T g) (T r) = 0) (g3 : dt (T g') (T q) = 0) (_ : dt (T g') (T s) = 0) : g ≠ g' := fun e => by
  rw [← e] at g3
  have := h.juni hp hq pq hg hl g1 g3 pl_ ql
  rw [this] at g2
  exact rx (h.muni hl hm lm hr hx g2 rm xl xm)
theorem VP.pappus (h : VP kq v T) {l m x p0 p1 p2 p3 p4 p5 g1 g2 g3 g4 g5 g6 a b c : Nat} (hl : l < v) (hm : m < v) (lm : l ≠ m) (hx : x < v) (h0 : p0 < v) (h1 : p1 < v) (h2 : p2 < v) (h3 : p3 < v) (h4 : p4 < v) (h5 : p5 < v)
    (xl : dt (T l) (T x) = 0) (xm : dt (T m) (T x) = 0) (l0 : dt (T l) (T p0) = 0) (l1 : dt (T l) (T p1) = 0) (l2 : dt (T l) (T p2) = 0) (m3 : dt (T m) (T p3) = 0) (m4 : dt (T m) (T p4) = 0) (m5 : dt (T m) (T p5) = 0)
    (x0 : p0 ≠ x) (x1 : p1 ≠ x) (x2 : p2 ≠ x) (x3 : p3 ≠ x) (x4 : p4 ≠ x) (x5 : p5 ≠ x) (n01 : p0 ≠ p1) (n02 : p0 ≠ p2) (n12 : p1 ≠ p2) (n34 : p3 ≠ p4) (n35 : p3 ≠ p5)
    (k1 : g1 < v) (k2 : g2 < v) (k3 : g3 < v) (k4 : g4 < v) (k5 : g5 < v) (k6 : g6 < v) (ha : a < v) (hb : b < v) (hc : c < v)
    (q1 : dt (T g1) (T p0) = 0) (r1 : dt (T g1) (T p4) = 0) (q2 : dt (T g2) (T p1) = 0) (r2 : dt (T g2) (T p3) = 0) (a1 : dt (T g1) (T a) = 0) (a2 : dt (T g2) (T a) = 0)
    (q3 : dt (T g3) (T p0) = 0) (r3 : dt (T g3) (T p5) = 0) (q4 : dt (T g4) (T p2) = 0) (r4 : dt (T g4) (T p3) = 0) (b1 : dt (T g3) (T b) = 0) (b2 : dt (T g4) (T b) = 0)
    (q5 : dt (T g5) (T p1) = 0) (r5 : dt (T g5) (T p5) = 0) (q6 : dt (T g6) (T p2) = 0) (r6 : dt (T g6) (T p4) = 0) (c1 : dt (T g5) (T c) = 0) (c2 : dt (T g6) (T c) = 0) :
    ∃ i, i < v ∧ dt (T i) (T a) = 0 ∧ dt (T i) (T b) = 0 ∧ dt (T i) (T c) = 0 := by
  have e12 := h.pap_ne hl hm lm hx h0 h1 h4 k1 xl xm l0 l1 m4 n01 x4 q1 r1 q2 r2
  have e34 := h.pap_ne hl hm lm hx h0 h2 h5 k3 xl xm l0 l2 m5 n02 x5 q3 r3 q4 r4
  have e56 := h.pap_ne hl hm lm hx h1 h2 h5 k5 xl xm l1 l2 m5 n12 x5 q5 r5 q6 r6
  obtain ⟨m1, n1, hm1, hn1, t1⟩ := h.third hl h0 hx h1 x0 n01.symm x1 l0 xl l1
  obtain ⟨m2, n2, hm2, hn2, t2⟩ := h.third hl h0 hx h2 x0 n02.symm x2 l0 xl l2
  obtain ⟨m4', n4, hm4, hn4, t4⟩ := h.third hm h3 hx h4 x3 n34.symm x4 m3 xm m4
  obtain ⟨m5', n5, hm5, hn5, t5⟩ := h.third hm h3 hx h5 x3 n35.symm x5 m3 xm m5
  have hW : dt (T l) (T p3) ≠ 0 := fun e => x3 (h.muni hl hm lm h3 hx e m3 xl xm)
  have f1 : ∀ L, dt L (T p1) = m1 * dt L (T p0) + n1 * dt L (T x) := fun L => by rw [t1, dt_pl, dt_sc, dt_sc]
  have f2 : ∀ L, dt L (T p2) = m2 * dt L (T p0) + n2 * dt L (T x) := fun L => by rw [t2, dt_pl, dt_sc, dt_sc]
  have f4 : ∀ L, dt L (T p4) = m4' * dt L (T p3) + n4 * dt L (T x) := fun L => by rw [t4, dt_pl, dt_sc, dt_sc]
  have f5 : ∀ L, dt L (T p5) = m5' * dt L (T p3) + n5 * dt L (T x) := fun L => by rw [t5, dt_pl, dt_sc, dt_sc]
  have hne : m2 * n1 - m1 * n2 ≠ 0 := fun e => by
    obtain ⟨d, hd⟩ := h.inv.2 m2 hm2
    refine n12 (h.uni p1 p2 (m1 * d) h1 h2 ?_)
    rw [t1, t2]
    unfold pla sc
    refine V3.ext ?_ ?_ ?_ <;> (simp only; grind)
  obtain ⟨A, fA⟩ : ∃ A : V3 (Fin kq), ∀ L, dt L A = n4 * m1 * dt L (T p0) + n4 * n1 * dt L (T x) + n1 * m4' * dt L (T p3) := ⟨pla (pla (sc (n4 * m1) (T p0)) (sc (n4 * n1) (T x))) (sc (n1 * m4') (T p3)), fun L => by rw [dt_pl, dt_pl, dt_sc, dt_sc, dt_sc]⟩
  obtain ⟨B, fB⟩ : ∃ B : V3 (Fin kq), ∀ L, dt L B = n5 * m2 * dt L (T p0) + n5 * n2 * dt L (T x) + n2 * m5' * dt L (T p3) := ⟨pla (pla (sc (n5 * m2) (T p0)) (sc (n5 * n2) (T x))) (sc (n2 * m5') (T p3)), fun L => by rw [dt_pl, dt_pl, dt_sc, dt_sc, dt_sc]⟩
  obtain ⟨C, fC⟩ : ∃ C : V3 (Fin kq), ∀ L, dt L C = m2 * m5' * dt L A + (0 - m1 * m4') * dt L B := ⟨pla (sc (m2 * m5') A) (sc (0 - m1 * m4') B), fun L => by rw [dt_pl, dt_sc, dt_sc]⟩
  have zA : Nz A := nz_of (l := T l) (by rw [fA, l0, xl, show n4 * m1 * 0 + n4 * n1 * 0 + n1 * m4' * dt (T l) (T p3) = n1 * m4' * dt (T l) (T p3) by grind]; exact h.inv.mul (h.inv.mul hn1 hm4) hW)
  have zB : Nz B := nz_of (l := T l) (by rw [fB, l0, xl, show n5 * m2 * 0 + n5 * n2 * 0 + n2 * m5' * dt (T l) (T p3) = n2 * m5' * dt (T l) (T p3) by grind]; exact h.inv.mul (h.inv.mul hn2 hm5) hW)
  have zC : Nz C := nz_of (l := T l) (by
    rw [fC, fA, fB, l0, xl, show m2 * m5' * (n4 * m1 * 0 + n4 * n1 * 0 + n1 * m4' * dt (T l) (T p3)) + (0 - m1 * m4') * (n5 * m2 * 0 + n5 * n2 * 0 + n2 * m5' * dt (T l) (T p3)) = m4' * m5' * ((m2 * n1 - m1 * n2) * dt (T l) (T p3)) by grind]
    exact h.inv.mul (h.inv.mul hm4 hm5) (h.inv.mul hne hW))
  have eA := h.at_ zA k1 k2 e12 ha a1 a2 (by rw [f4] at r1; rw [fA]; rw [q1] at *; grind) (by rw [f1] at q2; rw [fA]; rw [r2] at *; grind)
  have eB := h.at_ zB k3 k4 e34 hb b1 b2 (by rw [f5] at r3; rw [fB]; rw [q3] at *; grind) (by rw [f2] at q4; rw [fB]; rw [r4] at *; grind)
  have eC := h.at_ zC k5 k6 e56 hc c1 c2 (by rw [f1] at q5; rw [f5] at r5; rw [fC, fA, fB]; grind) (by rw [f2] at q6; rw [f4] at r6; rw [fC, fA, fB]; grind)
  exact h.line3 ha hb hc k1 a1 eA eB eC fun L p q => by rw [fC, p, q]; grind

end Go.Proofs.YtgpkhfpejopacaaDoor

namespace Go.Proofs.YtgpkhfpejopacaaDoor

variable {kq : Nat} [NeZero kq] {v : Nat} {T : Nat → V3 (Fin kq)}

/-- No line has these three. -/
def Np3 (v : Nat) (T : Nat → V3 (Fin kq)) (a b c : Nat) : Prop := ∀ i, i < v → dt (T i) (T a) = 0 → dt (T i) (T b) = 0 → dt (T i) (T c) = 0 → False
/-- The lines of two sides are unlike. -/
theorem VP.des_ne (h : VP kq v T) {o t t' u l g g' : Nat} (ht : t < v) (hu : u < v) (hl : l < v) (hg : g < v) (tu : u ≠ t) (n : Np3 v T o t t') (lo : dt (T l) (T o) = 0) (lt : dt (T l) (T t) = 0) (lu : dt (T l) (T u) = 0) (g1 : dt (T g) (T t) = 0) (g2 : dt (T g) (T t') = 0) (g3 : dt (T g') (T u) = 0) : g ≠ g' := fun e => by
  rw [← e] at g3
  have := h.juni hu ht tu hg hl g3 g1 lu lt
  exact n g hg (by rw [this]; exact lo) g1 g2
/-- The corners of the other triangle are unlike. -/
theorem VP.des_pt (h : VP kq v T) {o t t' u u' l l' : Nat} (ho : o < v) (hu : u < v) (hl : l < v) (hl' : l' < v) (uo : u ≠ o) (n : Np3 v T o t t') (lo : dt (T l) (T o) = 0) (lt : dt (T l) (T t) = 0) (lu : dt (T l) (T u) = 0) (lo' : dt (T l') (T o) = 0) (lt' : dt (T l') (T t') = 0) (lu' : dt (T l') (T u') = 0) : u ≠ u' := fun e => by
  rw [← e] at lu'
  have := h.juni hu ho uo hl hl' lu lo lu' lo'
  exact n l hl lo lt (by rw [this]; exact lt')
theorem VP.desargues (h : VP kq v T) {o t0 t1 t2 u0 u1 u2 l0 l1 l2 g1 g2 g3 g4 g5 g6 a b c : Nat} (ho : o < v) (h0 : t0 < v) (h1 : t1 < v) (h2 : t2 < v) (w0 : u0 < v) (w1 : u1 < v) (w2 : u2 < v) (y0 : l0 < v) (y1 : l1 < v) (y2 : l2 < v)
    (o0 : o ≠ t0) (o1 : o ≠ t1) (o2 : o ≠ t2) (uo0 : u0 ≠ o) (uo1 : u1 ≠ o) (uo2 : u2 ≠ o) (ut0 : u0 ≠ t0) (ut1 : u1 ≠ t1) (ut2 : u2 ≠ t2)
    (lo0 : dt (T l0) (T o) = 0) (lt0 : dt (T l0) (T t0) = 0) (lu0 : dt (T l0) (T u0) = 0) (lo1 : dt (T l1) (T o) = 0) (lt1 : dt (T l1) (T t1) = 0) (lu1 : dt (T l1) (T u1) = 0) (lo2 : dt (T l2) (T o) = 0) (lt2 : dt (T l2) (T t2) = 0) (lu2 : dt (T l2) (T u2) = 0)
    (n1 : Np3 v T o t0 t1) (n2 : Np3 v T o t0 t2) (n3 : Np3 v T o t1 t2)
    (k1 : g1 < v) (k2 : g2 < v) (k3 : g3 < v) (k4 : g4 < v) (k5 : g5 < v) (k6 : g6 < v) (ha : a < v) (hb : b < v) (hc : c < v)
    (q1 : dt (T g1) (T t0) = 0) (r1 : dt (T g1) (T t1) = 0) (q2 : dt (T g2) (T u0) = 0) (r2 : dt (T g2) (T u1) = 0) (a1 : dt (T g1) (T a) = 0) (a2 : dt (T g2) (T a) = 0)
    (q3 : dt (T g3) (T t0) = 0) (r3 : dt (T g3) (T t2) = 0) (q4 : dt (T g4) (T u0) = 0) (r4 : dt (T g4) (T u2) = 0) (b1 : dt (T g3) (T b) = 0) (b2 : dt (T g4) (T b) = 0)
    (q5 : dt (T g5) (T t1) = 0) (r5 : dt (T g5) (T t2) = 0) (q6 : dt (T g6) (T u1) = 0) (r6 : dt (T g6) (T u2) = 0) (c1 : dt (T g5) (T c) = 0) (c2 : dt (T g6) (T c) = 0) :
    ∃ i, i < v ∧ dt (T i) (T a) = 0 ∧ dt (T i) (T b) = 0 ∧ dt (T i) (T c) = 0 := by
  have e12 := h.des_ne h0 w0 y0 k1 ut0 n1 lo0 lt0 lu0 q1 r1 q2
  have e34 := h.des_ne h0 w0 y0 k3 ut0 n2 lo0 lt0 lu0 q3 r3 q4
  have e56 := h.des_ne h1 w1 y1 k5 ut1 n3 lo1 lt1 lu1 q5 r5 q6
  obtain ⟨m0, s0, hm0, hs0, t0'⟩ := h.third y0 h0 ho w0 o0.symm ut0 uo0 lt0 lo0 lu0
  obtain ⟨m1, s1, hm1, hs1, t1'⟩ := h.third y1 h1 ho w1 o1.symm ut1 uo1 lt1 lo1 lu1
  obtain ⟨m2, s2, hm2, hs2, t2'⟩ := h.third y2 h2 ho w2 o2.symm ut2 uo2 lt2 lo2 lu2
  have f0 : ∀ L, dt L (T u0) = m0 * dt L (T t0) + s0 * dt L (T o) := fun L => by rw [t0', dt_pl, dt_sc, dt_sc]
  have f1 : ∀ L, dt L (T u1) = m1 * dt L (T t1) + s1 * dt L (T o) := fun L => by rw [t1', dt_pl, dt_sc, dt_sc]
  have f2 : ∀ L, dt L (T u2) = m2 * dt L (T t2) + s2 * dt L (T o) := fun L => by rw [t2', dt_pl, dt_sc, dt_sc]
  obtain ⟨A, fA⟩ : ∃ A : V3 (Fin kq), ∀ L, dt L A = s1 * dt L (T u0) + (0 - s0) * dt L (T u1) := ⟨pla (sc s1 (T u0)) (sc (0 - s0) (T u1)), fun L => by rw [dt_pl, dt_sc, dt_sc]⟩
  obtain ⟨B, fB⟩ : ∃ B : V3 (Fin kq), ∀ L, dt L B = s2 * dt L (T u0) + (0 - s0) * dt L (T u2) := ⟨pla (sc s2 (T u0)) (sc (0 - s0) (T u2)), fun L => by rw [dt_pl, dt_sc, dt_sc]⟩
  obtain ⟨C, fC⟩ : ∃ C : V3 (Fin kq), ∀ L, dt L C = s2 * dt L (T u1) + (0 - s1) * dt L (T u2) := ⟨pla (sc s2 (T u1)) (sc (0 - s1) (T u2)), fun L => by rw [dt_pl, dt_sc, dt_sc]⟩
  have z1 : dt (T l1) (T t0) ≠ 0 := fun e => n1 l1 y1 lo1 e lt1
  have z2 : dt (T l2) (T t0) ≠ 0 := fun e => n2 l2 y2 lo2 e lt2
  have z3 : dt (T l2) (T t1) ≠ 0 := fun e => n3 l2 y2 lo2 e lt2
  have zA : Nz A := nz_of (l := T l1) (by
    rw [fA, lu1, f0, lo1, show s1 * (m0 * dt (T l1) (T t0) + s0 * 0) + (0 - s0) * 0 = s1 * m0 * dt (T l1) (T t0) by grind]
    exact h.inv.mul (h.inv.mul hs1 hm0) z1)
  have zB : Nz B := nz_of (l := T l2) (by
    rw [fB, lu2, f0, lo2, show s2 * (m0 * dt (T l2) (T t0) + s0 * 0) + (0 - s0) * 0 = s2 * m0 * dt (T l2) (T t0) by grind]
    exact h.inv.mul (h.inv.mul hs2 hm0) z2)
  have zC : Nz C := nz_of (l := T l2) (by
    rw [fC, lu2, f1, lo2, show s2 * (m1 * dt (T l2) (T t1) + s1 * 0) + (0 - s1) * 0 = s2 * m1 * dt (T l2) (T t1) by grind]
    exact h.inv.mul (h.inv.mul hs2 hm1) z3)
  have eA := h.at_ zA k1 k2 e12 ha a1 a2 (by rw [fA, f0, f1, q1, r1]; grind) (by rw [fA, q2, r2]; grind)
  have eB := h.at_ zB k3 k4 e34 hb b1 b2 (by rw [fB, f0, f2, q3, r3]; grind) (by rw [fB, q4, r4]; grind)
  have eC := h.at_ zC k5 k6 e56 hc c1 c2 (by rw [fC, f1, f2, q5, r5]; grind) (by rw [fC, q6, r6]; grind)
  refine h.line3 ha hb hc k1 a1 eA eB eC fun L p q => h.inv.no hs0 ?_
  rw [fA] at p
  rw [fB] at q
  rw [fC]
  generalize dt L (T u0) = x0 at *
  generalize dt L (T u1) = x1 at *
  generalize dt L (T u2) = x2 at *
  grind

end Go.Proofs.YtgpkhfpejopacaaDoor

namespace Go.Proofs.YtgpkhfpejopacaaDoor

/-- The blocks of the plane of order q, for q up to 5. -/
def bq (q : Nat) : List (List Nat) := match q with
  | 2 => [[1, 3, 5], [0, 3, 4], [2, 3, 6], [0, 1, 2], [1, 4, 6], [0, 5, 6], [2, 4, 5]]
  | 3 => [[1, 4, 7, 10], [0, 4, 5, 6], [3, 4, 9, 11], [2, 4, 8, 12], [0, 1, 2, 3], [1, 6, 9, 12], [1, 5, 8, 11], [0, 10, 11, 12], [3, 6, 8, 10], [2, 5, 9, 10], [0, 7, 8, 9], [2, 6, 7, 11], [3, 5, 7, 12]]
  | 4 => [[1, 5, 9, 13, 17], [0, 5, 6, 7, 8], [2, 5, 10, 15, 20], [4, 5, 12, 14, 19], [3, 5, 11, 16, 18], [0, 1, 2, 3, 4], [1, 6, 10, 14, 18], [1, 8, 12, 16, 20], [1, 7, 11, 15, 19], [0, 9, 10, 11, 12], [2, 6, 9, 16, 19], [4, 8, 9, 15, 18], [3, 7, 9, 14, 20], [0, 17, 18, 19, 20], [3, 6, 12, 15, 17], [2, 8, 11, 14, 17], [4, 7, 10, 16, 17], [0, 13, 14, 15, 16], [4, 6, 11, 13, 20], [3, 8, 10, 13, 19], [2, 7, 12, 13, 18]]
  | 5 => [[1, 6, 11, 16, 21, 26], [0, 6, 7, 8, 9, 10], [5, 6, 15, 19, 23, 27], [3, 6, 13, 20, 22, 29], [4, 6, 14, 17, 25, 28], [2, 6, 12, 18, 24, 30], [0, 1, 2, 3, 4, 5], [1, 10, 15, 20, 25, 30], [1, 8, 13, 18, 23, 28], [1, 9, 14, 19, 24, 29], [1, 7, 12, 17, 22, 27], [0, 26, 27, 28, 29, 30], [5, 10, 14, 18, 22, 26], [3, 8, 15, 17, 24, 26], [4, 9, 12, 20, 23, 26], [2, 7, 13, 19, 25, 26], [0, 16, 17, 18, 19, 20], [4, 10, 13, 16, 24, 27], [5, 8, 12, 16, 25, 29], [2, 9, 15, 16, 22, 28], [3, 7, 14, 16, 23, 30], [0, 21, 22, 23, 24, 25], [3, 10, 12, 19, 21, 28], [2, 8, 14, 20, 21, 27], [5, 9, 13, 17, 21, 30], [4, 7, 15, 18, 21, 29], [0, 11, 12, 13, 14, 15], [2, 10, 11, 17, 23, 29], [4, 8, 11, 19, 22, 30], [3, 9, 11, 18, 25, 27], [5, 7, 11, 20, 24, 28]]
  | _ => []
def iq (q p l : Nat) : Bool := ((bq q).getD l []).contains p
/-- The triples, by their numbers. -/
def tq (q : Nat) : List Nat := match q with
  | 2 => [1, 2, 3, 4, 5, 6, 7]
  | 3 => [1, 3, 4, 5, 9, 10, 11, 12, 13, 14, 15, 16, 17]
  | 4 => [1, 4, 5, 6, 7, 16, 17, 18, 19, 20, 21, 22, 23, 24, 25, 26, 27, 28, 29, 30, 31]
  | 5 => [1, 5, 6, 7, 8, 9, 25, 26, 27, 28, 29, 30, 31, 32, 33, 34, 35, 36, 37, 38, 39, 40, 41, 42, 43, 44, 45, 46, 47, 48, 49]
  | _ => []
def tqV (kq : Nat) [NeZero kq] (j : Nat) : V3 (Fin kq) := ⟨Fin.ofNat kq ((tq kq).getD j 0 / (kq * kq)), Fin.ofNat kq ((tq kq).getD j 0 / kq), Fin.ofNat kq ((tq kq).getD j 0)⟩
variable {kq : Nat} [NeZero kq]
theorem of_nat (a : Fin kq) : Fin.ofNat kq a.1 = a := Fin.ext (Nat.mod_eq_of_lt a.2)
def eqV (p w : V3 (Fin kq)) : Bool := p.x == w.x && p.y == w.y && p.z == w.z
omit [NeZero kq] in
theorem eqV_iff {p w : V3 (Fin kq)} : eqV p w = true ↔ p = w := by
  unfold eqV
  rw [Bool.and_eq_true, Bool.and_eq_true, beq_iff_eq, beq_iff_eq, beq_iff_eq]
  exact ⟨fun ⟨⟨a, b⟩, c⟩ => V3.ext a b c, fun e => by rw [e]; exact ⟨⟨rfl, rfl⟩, rfl⟩⟩
def vpI (kq : Nat) [NeZero kq] : Bool := ((1 : Fin kq) != 0) && (List.range kq).all fun a => Fin.ofNat kq a == 0 || (List.range kq).any fun c => Fin.ofNat kq a * Fin.ofNat kq c == 1
def nzB (w : V3 (Fin kq)) : Bool := !eqV w ⟨0, 0, 0⟩
theorem nz_iff {w : V3 (Fin kq)} : nzB w = true ↔ Nz w := by
  unfold nzB Nz
  rw [Bool.not_eq_true', ← Bool.not_eq_true, eqV_iff]
  exact not_congr ⟨fun e => by rw [e]; exact ⟨rfl, rfl, rfl⟩, fun ⟨a, b, c⟩ => V3.ext a b c⟩
def vpR (kq v : Nat) [NeZero kq] (T : Nat → V3 (Fin kq)) : Bool := (List.range kq).all fun x => (List.range kq).all fun y => (List.range kq).all fun z =>
  !nzB ⟨Fin.ofNat kq x, Fin.ofNat kq y, Fin.ofNat kq z⟩ || (List.range v).any fun j => (List.range kq).any fun c => Fin.ofNat kq c != 0 && eqV ⟨Fin.ofNat kq x, Fin.ofNat kq y, Fin.ofNat kq z⟩ (sc (Fin.ofNat kq c) (T j))
def vpU (kq v : Nat) [NeZero kq] (T : Nat → V3 (Fin kq)) : Bool := (List.range v).all fun j => (List.range v).all fun k => (List.range kq).all fun c => j == k || !eqV (T j) (sc (Fin.ofNat kq c) (T k))
theorem ra {n : Nat} {P : Nat → Bool} (h : (List.range n).all P = true) {a : Nat} (ha : a < n) : P a = true := List.all_eq_true.1 h a (List.mem_range.2 ha)
theorem rx {n : Nat} {P : Nat → Bool} (h : (List.range n).any P = true) : ∃ a, a < n ∧ P a = true := by
  obtain ⟨a, m, e⟩ := List.any_eq_true.1 h
  exact ⟨a, List.mem_range.1 m, e⟩
theorem vp_of {v : Nat} {T : Nat → V3 (Fin kq)} (h1 : vpI kq = true) (h2 : ((List.range v).all fun j => nzB (T j)) = true) (h3 : vpR kq v T = true) (h4 : vpU kq v T = true) : VP kq v T where
  inv := by
    unfold vpI at h1
    rw [Bool.and_eq_true] at h1
    refine ⟨bne_iff_ne.1 h1.1, fun a ha => ?_⟩
    have k := ra h1.2 a.2
    rw [of_nat, Bool.or_eq_true] at k
    rcases k with k | k
    · exact absurd (beq_iff_eq.1 k) ha
    · obtain ⟨c, _, e⟩ := rx k
      exact ⟨_, beq_iff_eq.1 e⟩
  nz := fun j hj => nz_iff.1 (ra (P := fun j => nzB (T j)) h2 hj)
  rep := fun ⟨x, y, z⟩ hw => by
    have k := ra (ra (ra h3 x.2) y.2) z.2
    rw [of_nat, of_nat, of_nat, nz_iff.2 hw, Bool.not_true, Bool.false_or] at k
    obtain ⟨j, hj, k⟩ := rx k
    obtain ⟨c, _, k⟩ := rx k
    rw [Bool.and_eq_true] at k
    exact ⟨j, hj, _, bne_iff_ne.1 k.1, eqV_iff.1 k.2⟩
  uni := fun j k c hj hk e => by
    have u := ra (ra (ra h4 hj) hk) c.2
    rw [of_nat, ← e, eqV_iff.2 rfl, Bool.not_true, Bool.or_false] at u
    exact beq_iff_eq.1 u
theorem vp2 : VP 2 7 (tqV 2) := vp_of (by decide +kernel) (by decide +kernel) (by decide +kernel) (by decide +kernel)
theorem vp3 : VP 3 13 (tqV 3) := vp_of (by decide +kernel) (by decide +kernel) (by decide +kernel) (by decide +kernel)
theorem vp5 : VP 5 31 (tqV 5) := vp_of (by decide +kernel) (by decide +kernel) (by decide +kernel) (by decide +kernel)
def iqB (kq v : Nat) [NeZero kq] : Bool := (List.range v).all fun l => (List.range v).all fun p => iq kq p l == (dt (tqV kq l) (tqV kq p) == 0)
theorem iq_dt {v : Nat} (h : iqB kq v = true) {l p : Nat} (hl : l < v) (hp : p < v) : iq kq p l = true ↔ dt (tqV kq l) (tqV kq p) = 0 := by
  have k := ra (ra h hl) hp
  rw [beq_iff_eq.1 k]
  exact beq_iff_eq
theorem iq2 {l p : Nat} (hl : l < 7) (hp : p < 7) : iq 2 p l = true ↔ dt (tqV 2 l) (tqV 2 p) = 0 := iq_dt (by decide +kernel) hl hp
theorem iq3 {l p : Nat} (hl : l < 13) (hp : p < 13) : iq 3 p l = true ↔ dt (tqV 3 l) (tqV 3 p) = 0 := iq_dt (by decide +kernel) hl hp
theorem iq5 {l p : Nat} (hl : l < 31) (hp : p < 31) : iq 5 p l = true ↔ dt (tqV 5 l) (tqV 5 p) = 0 := iq_dt (by decide +kernel) hl hp
theorem iq4 {l p : Nat} (hl : l < 21) (hp : p < 21) : iq 4 p l = i4 p l := beq_iff_eq.1 (ra (ra (P := fun l => (List.range 21).all fun p => iq 4 p l == i4 p l) (by decide +kernel) hl) hp)

end Go.Proofs.YtgpkhfpejopacaaDoor

namespace Go.Proofs.YtgpkhfpejopacaaDoor

def vq (q : Nat) : Nat := q * q + q + 1
def Q4 (q : Nat) : Prop := q = 2 ∨ q = 3 ∨ q = 4 ∨ q = 5
def onB (v : Nat) (I : Nat → Nat → Bool) (x y : Nat) : List Nat := (List.range v).filter fun i => I x i && I y i
def oneB (l : List Nat) : Bool := match l with
  | [_] => true
  | _ => false
theorem oneB_iff {l : List Nat} (h : oneB l = true) : ∃ i, l = [i] := by
  match l, h with
  | [i], _ => exact ⟨i, rfl⟩
def ap3B (b : Nat) (I : Nat → Nat → Bool) (x y z : Nat) : Bool := (List.range b).all fun i => !(I x i && I y i && I z i)
theorem ap3_of {b : Nat} {I : Nat → Nat → Bool} {x y z : Nat} (h : ap3B b I x y z = true) : Ap3 b I x y z := fun i hi p q r => by
  have k := ra h hi
  rw [p, q, r] at k
  cases k
def fr4B (v : Nat) (I : Nat → Nat → Bool) (x y z u : Nat) : Bool := decide (x < v ∧ y < v ∧ z < v ∧ u < v ∧ x ≠ y ∧ x ≠ z ∧ x ≠ u ∧ y ≠ z ∧ y ≠ u ∧ z ≠ u) && (ap3B v I x y z && (ap3B v I x y u && (ap3B v I x z u && ap3B v I y z u)))
theorem fr4_of {v : Nat} {I : Nat → Nat → Bool} {x y z u : Nat} (h : fr4B v I x y z u = true) : Fr4 v v I x y z u := by
  unfold fr4B at h
  simp only [Bool.and_eq_true, decide_eq_true_eq] at h
  obtain ⟨⟨a, b, c, d, e, f, g, i, j, k⟩, l, m, n, o⟩ := h
  exact ⟨a, b, c, d, e, f, g, i, j, k, ap3_of l, ap3_of m, ap3_of n, ap3_of o⟩
theorem onB_mem {v : Nat} {I : Nat → Nat → Bool} {x y i : Nat} : i ∈ onB v I x y ↔ i < v ∧ I x i = true ∧ I y i = true := by
  unfold onB
  rw [List.mem_filter, List.mem_range, Bool.and_eq_true]
theorem pln_of {v : Nat} {I : Nat → Nat → Bool} {x y z u : Nat} (h1 : ((List.range v).all fun x => (List.range v).all fun y => x == y || oneB (onB v I x y)) = true) (h2 : ((List.range v).all fun x => (List.range v).all fun y => I x y == I y x) = true) (h3 : fr4B v I x y z u = true) : Pln v v I := by
  have one : ∀ x y, x < v → y < v → x ≠ y → ∃ i, onB v I x y = [i] := fun x y hx hy n => by
    have k := ra (ra h1 hx) hy
    rw [beq_false_of_ne n, Bool.false_or] at k
    exact oneB_iff k
  have cm : ∀ x y, x < v → y < v → I x y = I y x := fun x y hx hy => beq_iff_eq.1 (ra (ra h2 hx) hy)
  have jn : ∀ x y, x < v → y < v → x ≠ y → ∃ i, i < v ∧ I x i = true ∧ I y i = true := fun x y hx hy n => by
    obtain ⟨i, e⟩ := one x y hx hy n
    exact ⟨i, onB_mem.1 (by rw [e]; exact List.mem_singleton.2 rfl)⟩
  refine ⟨jn, fun x y i j hx hy n hi hj a b c d => ?_, fun i j hi hj n => ?_, ⟨_, _, _, _, fr4_of h3⟩⟩
  · obtain ⟨k, e⟩ := one x y hx hy n
    have ei := onB_mem.2 ⟨hi, a, b⟩
    have ej := onB_mem.2 ⟨hj, c, d⟩
    rw [e, List.mem_singleton] at ei ej
    rw [ei, ej]
  · obtain ⟨x, hx, a, b⟩ := jn i j hi hj n
    exact ⟨x, hx, by rw [cm x i hx hi]; exact a, by rw [cm x j hx hj]; exact b⟩
theorem pln2 : Pln 7 7 (iq 2) := pln_of (x := 0) (y := 1) (z := 3) (u := 6) (by decide +kernel) (by decide +kernel) (by decide +kernel)
theorem pln3 : Pln 13 13 (iq 3) := pln_of (x := 0) (y := 1) (z := 4) (u := 8) (by decide +kernel) (by decide +kernel) (by decide +kernel)
theorem pln4 : Pln 21 21 (iq 4) := pln_of (x := 0) (y := 1) (z := 5) (u := 10) (by decide +kernel) (by decide +kernel) (by decide +kernel)
theorem pln5 : Pln 31 31 (iq 5) := pln_of (x := 0) (y := 1) (z := 6) (u := 12) (by decide +kernel) (by decide +kernel) (by decide +kernel)
theorem pln_q {q : Nat} (h : Q4 q) : Pln (vq q) (vq q) (iq q) := by
  rcases h with rfl | rfl | rfl | rfl
  · exact pln2
  · exact pln3
  · exact pln4
  · exact pln5
structure PapF (v : Nat) (I : Nat → Nat → Bool) (p0 p1 p2 p3 p4 p5 a b c x l m g1 g2 g3 g4 g5 g6 : Nat) : Prop where
  b_p0 : p0 < v
  b_p1 : p1 < v
  b_p2 : p2 < v
  b_p3 : p3 < v
  b_p4 : p4 < v
  b_p5 : p5 < v
  b_a : a < v
  b_b : b < v
  b_c : c < v
  b_x : x < v
  b_l : l < v
  b_m : m < v
  b_g1 : g1 < v
  b_g2 : g2 < v
  b_g3 : g3 < v
  b_g4 : g4 < v
  b_g5 : g5 < v
  b_g6 : g6 < v
  i_x_l : I x l = true
  i_x_m : I x m = true
  i_p0_l : I p0 l = true
  i_p1_l : I p1 l = true
  i_p2_l : I p2 l = true
  i_p3_m : I p3 m = true
  i_p4_m : I p4 m = true
  i_p5_m : I p5 m = true
  i_p0_g1 : I p0 g1 = true
  i_p4_g1 : I p4 g1 = true
  i_p1_g2 : I p1 g2 = true
  i_p3_g2 : I p3 g2 = true
  i_a_g1 : I a g1 = true
  i_a_g2 : I a g2 = true
  i_p0_g3 : I p0 g3 = true
  i_p5_g3 : I p5 g3 = true
  i_p2_g4 : I p2 g4 = true
  i_p3_g4 : I p3 g4 = true
  i_b_g3 : I b g3 = true
  i_b_g4 : I b g4 = true
  i_p1_g5 : I p1 g5 = true
  i_p5_g5 : I p5 g5 = true
  i_p2_g6 : I p2 g6 = true
  i_p4_g6 : I p4 g6 = true
  i_c_g5 : I c g5 = true
  i_c_g6 : I c g6 = true
  d_p0_x : p0 ≠ x
  d_p1_x : p1 ≠ x
  d_p2_x : p2 ≠ x
  d_p3_x : p3 ≠ x
  d_p4_x : p4 ≠ x
  d_p5_x : p5 ≠ x
  d_p0_p1 : p0 ≠ p1
  d_p0_p2 : p0 ≠ p2
  d_p1_p2 : p1 ≠ p2
  d_p3_p4 : p3 ≠ p4
  d_p3_p5 : p3 ≠ p5
  d_p4_p5 : p4 ≠ p5
  d_l_m : l ≠ m
  d_g1_g2 : g1 ≠ g2
  d_g3_g4 : g3 ≠ g4
  d_g5_g6 : g5 ≠ g6
section
variable {p0 p1 p2 p3 p4 p5 a b c x l m g1 g2 g3 g4 g5 g6 : Nat}
theorem pap_vp {kq v : Nat} [NeZero kq] (hv : VP kq v (tqV kq)) (hi : ∀ {l p : Nat}, l < v → p < v → (iq kq p l = true ↔ dt (tqV kq l) (tqV kq p) = 0)) (h : PapF v (iq kq) p0 p1 p2 p3 p4 p5 a b c x l m g1 g2 g3 g4 g5 g6) : ∃ i, i < v ∧ iq kq a i = true ∧ iq kq b i = true ∧ iq kq c i = true := by
  obtain ⟨i, k, p, q, r⟩ := hv.pappus h.b_l h.b_m h.d_l_m h.b_x h.b_p0 h.b_p1 h.b_p2 h.b_p3 h.b_p4 h.b_p5 ((hi h.b_l h.b_x).1 h.i_x_l) ((hi h.b_m h.b_x).1 h.i_x_m) ((hi h.b_l h.b_p0).1 h.i_p0_l) ((hi h.b_l h.b_p1).1 h.i_p1_l) ((hi h.b_l h.b_p2).1 h.i_p2_l) ((hi h.b_m h.b_p3).1 h.i_p3_m) ((hi h.b_m h.b_p4).1 h.i_p4_m) ((hi h.b_m h.b_p5).1 h.i_p5_m) h.d_p0_x h.d_p1_x h.d_p2_x h.d_p3_x h.d_p4_x h.d_p5_x h.d_p0_p1 h.d_p0_p2 h.d_p1_p2 h.d_p3_p4 h.d_p3_p5 h.b_g1 h.b_g2 h.b_g3 h.b_g4 h.b_g5 h.b_g6 h.b_a h.b_b h.b_c ((hi h.b_g1 h.b_p0).1 h.i_p0_g1) ((hi h.b_g1 h.b_p4).1 h.i_p4_g1) ((hi h.b_g2 h.b_p1).1 h.i_p1_g2) ((hi h.b_g2 h.b_p3).1 h.i_p3_g2) ((hi h.b_g1 h.b_a).1 h.i_a_g1) ((hi h.b_g2 h.b_a).1 h.i_a_g2) ((hi h.b_g3 h.b_p0).1 h.i_p0_g3) ((hi h.b_g3 h.b_p5).1 h.i_p5_g3) ((hi h.b_g4 h.b_p2).1 h.i_p2_g4) ((hi h.b_g4 h.b_p3).1 h.i_p3_g4) ((hi h.b_g3 h.b_b).1 h.i_b_g3) ((hi h.b_g4 h.b_b).1 h.i_b_g4) ((hi h.b_g5 h.b_p1).1 h.i_p1_g5) ((hi h.b_g5 h.b_p5).1 h.i_p5_g5) ((hi h.b_g6 h.b_p2).1 h.i_p2_g6) ((hi h.b_g6 h.b_p4).1 h.i_p4_g6) ((hi h.b_g5 h.b_c).1 h.i_c_g5) ((hi h.b_g6 h.b_c).1 h.i_c_g6)
  exact ⟨i, k, (hi k h.b_a).2 p, (hi k h.b_b).2 q, (hi k h.b_c).2 r⟩
theorem Pln.off2 {v : Nat} {I : Nat → Nat → Bool} (H : Pln v v I) {x y i j : Nat} (hx : x < v) (hy : y < v) (hi : i < v) (hj : j < v) (n : i ≠ j) (yx : y ≠ x) (a : I x i = true) (b : I x j = true) (c : I y i = true) : I y j = false := by
  cases e : I y j
  · rfl
  · exact absurd (H.juni y x i j hy hx yx hi hj c a e b) n
theorem pap_four (h : PapF 21 (iq 4) p0 p1 p2 p3 p4 p5 a b c x l m g1 g2 g3 g4 g5 g6) : Pap4F p0 p1 p2 p3 p4 p5 a b c l m g1 g2 g3 g4 g5 g6 where
  b_p0 := h.b_p0
  b_p1 := h.b_p1
  b_p2 := h.b_p2
  b_p3 := h.b_p3
  b_p4 := h.b_p4
  b_p5 := h.b_p5
  b_a := h.b_a
  b_b := h.b_b
  b_c := h.b_c
  b_l := h.b_l
  b_m := h.b_m
  b_g1 := h.b_g1
  b_g2 := h.b_g2
  b_g3 := h.b_g3
  b_g4 := h.b_g4
  b_g5 := h.b_g5
  b_g6 := h.b_g6
  i_p0_l := (by rw [← iq4 h.b_l h.b_p0]; exact h.i_p0_l)
  i_p1_l := (by rw [← iq4 h.b_l h.b_p1]; exact h.i_p1_l)
  i_p2_l := (by rw [← iq4 h.b_l h.b_p2]; exact h.i_p2_l)
  i_p3_m := (by rw [← iq4 h.b_m h.b_p3]; exact h.i_p3_m)
  i_p4_m := (by rw [← iq4 h.b_m h.b_p4]; exact h.i_p4_m)
  i_p5_m := (by rw [← iq4 h.b_m h.b_p5]; exact h.i_p5_m)
  i_p0_g1 := (by rw [← iq4 h.b_g1 h.b_p0]; exact h.i_p0_g1)
  i_p4_g1 := (by rw [← iq4 h.b_g1 h.b_p4]; exact h.i_p4_g1)
  i_p1_g2 := (by rw [← iq4 h.b_g2 h.b_p1]; exact h.i_p1_g2)
  i_p3_g2 := (by rw [← iq4 h.b_g2 h.b_p3]; exact h.i_p3_g2)
  i_a_g1 := (by rw [← iq4 h.b_g1 h.b_a]; exact h.i_a_g1)
  i_a_g2 := (by rw [← iq4 h.b_g2 h.b_a]; exact h.i_a_g2)
  i_p0_g3 := (by rw [← iq4 h.b_g3 h.b_p0]; exact h.i_p0_g3)
  i_p5_g3 := (by rw [← iq4 h.b_g3 h.b_p5]; exact h.i_p5_g3)
  i_p2_g4 := (by rw [← iq4 h.b_g4 h.b_p2]; exact h.i_p2_g4)
  i_p3_g4 := (by rw [← iq4 h.b_g4 h.b_p3]; exact h.i_p3_g4)
  i_b_g3 := (by rw [← iq4 h.b_g3 h.b_b]; exact h.i_b_g3)
  i_b_g4 := (by rw [← iq4 h.b_g4 h.b_b]; exact h.i_b_g4)
  i_p1_g5 := (by rw [← iq4 h.b_g5 h.b_p1]; exact h.i_p1_g5)
  i_p5_g5 := (by rw [← iq4 h.b_g5 h.b_p5]; exact h.i_p5_g5)
  i_p2_g6 := (by rw [← iq4 h.b_g6 h.b_p2]; exact h.i_p2_g6)
  i_p4_g6 := (by rw [← iq4 h.b_g6 h.b_p4]; exact h.i_p4_g6)
  i_c_g5 := (by rw [← iq4 h.b_g5 h.b_c]; exact h.i_c_g5)
  i_c_g6 := (by rw [← iq4 h.b_g6 h.b_c]; exact h.i_c_g6)
  n_p0_m := by rw [← iq4 h.b_m h.b_p0]; exact pln4.off2 h.b_x h.b_p0 h.b_l h.b_m h.d_l_m h.d_p0_x h.i_x_l h.i_x_m h.i_p0_l
  n_p1_m := by rw [← iq4 h.b_m h.b_p1]; exact pln4.off2 h.b_x h.b_p1 h.b_l h.b_m h.d_l_m h.d_p1_x h.i_x_l h.i_x_m h.i_p1_l
  n_p2_m := by rw [← iq4 h.b_m h.b_p2]; exact pln4.off2 h.b_x h.b_p2 h.b_l h.b_m h.d_l_m h.d_p2_x h.i_x_l h.i_x_m h.i_p2_l
  n_p3_l := by rw [← iq4 h.b_l h.b_p3]; exact pln4.off2 h.b_x h.b_p3 h.b_m h.b_l h.d_l_m.symm h.d_p3_x h.i_x_m h.i_x_l h.i_p3_m
  n_p4_l := by rw [← iq4 h.b_l h.b_p4]; exact pln4.off2 h.b_x h.b_p4 h.b_m h.b_l h.d_l_m.symm h.d_p4_x h.i_x_m h.i_x_l h.i_p4_m
  n_p5_l := by rw [← iq4 h.b_l h.b_p5]; exact pln4.off2 h.b_x h.b_p5 h.b_m h.b_l h.d_l_m.symm h.d_p5_x h.i_x_m h.i_x_l h.i_p5_m
  d_p0_p1 := h.d_p0_p1
  d_p0_p2 := h.d_p0_p2
  d_p1_p2 := h.d_p1_p2
  d_p3_p4 := h.d_p3_p4
  d_p3_p5 := h.d_p3_p5
  d_p4_p5 := h.d_p4_p5
  d_l_m := h.d_l_m
  d_g1_g2 := h.d_g1_g2
  d_g3_g4 := h.d_g3_g4
  d_g5_g6 := h.d_g5_g6
/-- Pappus, in the planes of orders up to 5. -/
theorem pap_q {q : Nat} (hq : Q4 q) (h : PapF (vq q) (iq q) p0 p1 p2 p3 p4 p5 a b c x l m g1 g2 g3 g4 g5 g6) : ∃ i, i < vq q ∧ iq q a i = true ∧ iq q b i = true ∧ iq q c i = true := by
  rcases hq with rfl | rfl | rfl | rfl
  · exact pap_vp vp2 iq2 h
  · exact pap_vp vp3 iq3 h
  · obtain ⟨i, k, p, q, r⟩ := pap4_line (pap_four h)
    exact ⟨i, k, by rw [iq4 k h.b_a]; exact p, by rw [iq4 k h.b_b]; exact q, by rw [iq4 k h.b_c]; exact r⟩
  · exact pap_vp vp5 iq5 h
end
structure DesF (v : Nat) (I : Nat → Nat → Bool) (o t0 t1 t2 u0 u1 u2 a b c l0 l1 l2 g1 g2 g3 g4 g5 g6 : Nat) : Prop where
  b_o : o < v
  b_t0 : t0 < v
  b_t1 : t1 < v
  b_t2 : t2 < v
  b_u0 : u0 < v
  b_u1 : u1 < v
  b_u2 : u2 < v
  b_a : a < v
  b_b : b < v
  b_c : c < v
  b_l0 : l0 < v
  b_l1 : l1 < v
  b_l2 : l2 < v
  b_g1 : g1 < v
  b_g2 : g2 < v
  b_g3 : g3 < v
  b_g4 : g4 < v
  b_g5 : g5 < v
  b_g6 : g6 < v
  i_o_l0 : I o l0 = true
  i_t0_l0 : I t0 l0 = true
  i_u0_l0 : I u0 l0 = true
  i_o_l1 : I o l1 = true
  i_t1_l1 : I t1 l1 = true
  i_u1_l1 : I u1 l1 = true
  i_o_l2 : I o l2 = true
  i_t2_l2 : I t2 l2 = true
  i_u2_l2 : I u2 l2 = true
  i_t0_g1 : I t0 g1 = true
  i_t1_g1 : I t1 g1 = true
  i_u0_g2 : I u0 g2 = true
  i_u1_g2 : I u1 g2 = true
  i_a_g1 : I a g1 = true
  i_a_g2 : I a g2 = true
  i_t0_g3 : I t0 g3 = true
  i_t2_g3 : I t2 g3 = true
  i_u0_g4 : I u0 g4 = true
  i_u2_g4 : I u2 g4 = true
  i_b_g3 : I b g3 = true
  i_b_g4 : I b g4 = true
  i_t1_g5 : I t1 g5 = true
  i_t2_g5 : I t2 g5 = true
  i_u1_g6 : I u1 g6 = true
  i_u2_g6 : I u2 g6 = true
  i_c_g5 : I c g5 = true
  i_c_g6 : I c g6 = true
  d_t0_o : t0 ≠ o
  d_u0_o : u0 ≠ o
  d_u0_t0 : u0 ≠ t0
  d_t1_o : t1 ≠ o
  d_u1_o : u1 ≠ o
  d_u1_t1 : u1 ≠ t1
  d_t2_o : t2 ≠ o
  d_u2_o : u2 ≠ o
  d_u2_t2 : u2 ≠ t2
  d_g1_g2 : g1 ≠ g2
  d_g3_g4 : g3 ≠ g4
  d_g5_g6 : g5 ≠ g6
  a_o_t0_t1 : Ap3 v I o t0 t1
  a_o_t0_t2 : Ap3 v I o t0 t2
  a_o_t1_t2 : Ap3 v I o t1 t2
section
variable {o t0 t1 t2 u0 u1 u2 a b c l0 l1 l2 g1 g2 g3 g4 g5 g6 : Nat}
theorem np3_of {kq v : Nat} [NeZero kq] (hi : ∀ {l p : Nat}, l < v → p < v → (iq kq p l = true ↔ dt (tqV kq l) (tqV kq p) = 0)) {x y z : Nat} (hx : x < v) (hy : y < v) (hz : z < v) (n : Ap3 v (iq kq) x y z) : Np3 v (tqV kq) x y z :=
  fun i k p q r => n i k ((hi k hx).2 p) ((hi k hy).2 q) ((hi k hz).2 r)
theorem des_vp {kq v : Nat} [NeZero kq] (hv : VP kq v (tqV kq)) (hi : ∀ {l p : Nat}, l < v → p < v → (iq kq p l = true ↔ dt (tqV kq l) (tqV kq p) = 0)) (h : DesF v (iq kq) o t0 t1 t2 u0 u1 u2 a b c l0 l1 l2 g1 g2 g3 g4 g5 g6) : ∃ i, i < v ∧ iq kq a i = true ∧ iq kq b i = true ∧ iq kq c i = true := by
  obtain ⟨i, k, p, q, r⟩ := hv.desargues h.b_o h.b_t0 h.b_t1 h.b_t2 h.b_u0 h.b_u1 h.b_u2 h.b_l0 h.b_l1 h.b_l2 h.d_t0_o.symm h.d_t1_o.symm h.d_t2_o.symm h.d_u0_o h.d_u1_o h.d_u2_o h.d_u0_t0 h.d_u1_t1 h.d_u2_t2 ((hi h.b_l0 h.b_o).1 h.i_o_l0) ((hi h.b_l0 h.b_t0).1 h.i_t0_l0) ((hi h.b_l0 h.b_u0).1 h.i_u0_l0) ((hi h.b_l1 h.b_o).1 h.i_o_l1) ((hi h.b_l1 h.b_t1).1 h.i_t1_l1) ((hi h.b_l1 h.b_u1).1 h.i_u1_l1) ((hi h.b_l2 h.b_o).1 h.i_o_l2) ((hi h.b_l2 h.b_t2).1 h.i_t2_l2) ((hi h.b_l2 h.b_u2).1 h.i_u2_l2) (np3_of hi h.b_o h.b_t0 h.b_t1 h.a_o_t0_t1) (np3_of hi h.b_o h.b_t0 h.b_t2 h.a_o_t0_t2) (np3_of hi h.b_o h.b_t1 h.b_t2 h.a_o_t1_t2) h.b_g1 h.b_g2 h.b_g3 h.b_g4 h.b_g5 h.b_g6 h.b_a h.b_b h.b_c ((hi h.b_g1 h.b_t0).1 h.i_t0_g1) ((hi h.b_g1 h.b_t1).1 h.i_t1_g1) ((hi h.b_g2 h.b_u0).1 h.i_u0_g2) ((hi h.b_g2 h.b_u1).1 h.i_u1_g2) ((hi h.b_g1 h.b_a).1 h.i_a_g1) ((hi h.b_g2 h.b_a).1 h.i_a_g2) ((hi h.b_g3 h.b_t0).1 h.i_t0_g3) ((hi h.b_g3 h.b_t2).1 h.i_t2_g3) ((hi h.b_g4 h.b_u0).1 h.i_u0_g4) ((hi h.b_g4 h.b_u2).1 h.i_u2_g4) ((hi h.b_g3 h.b_b).1 h.i_b_g3) ((hi h.b_g4 h.b_b).1 h.i_b_g4) ((hi h.b_g5 h.b_t1).1 h.i_t1_g5) ((hi h.b_g5 h.b_t2).1 h.i_t2_g5) ((hi h.b_g6 h.b_u1).1 h.i_u1_g6) ((hi h.b_g6 h.b_u2).1 h.i_u2_g6) ((hi h.b_g5 h.b_c).1 h.i_c_g5) ((hi h.b_g6 h.b_c).1 h.i_c_g6)
  exact ⟨i, k, (hi k h.b_a).2 p, (hi k h.b_b).2 q, (hi k h.b_c).2 r⟩
theorem des_four (h : DesF 21 (iq 4) o t0 t1 t2 u0 u1 u2 a b c l0 l1 l2 g1 g2 g3 g4 g5 g6) : Des4F o t0 t1 t2 u0 u1 u2 a b c l0 l1 l2 g1 g2 g3 g4 g5 g6 where
  b_o := h.b_o
  b_t0 := h.b_t0
  b_t1 := h.b_t1
  b_t2 := h.b_t2
  b_u0 := h.b_u0
  b_u1 := h.b_u1
  b_u2 := h.b_u2
  b_a := h.b_a
  b_b := h.b_b
  b_c := h.b_c
  b_l0 := h.b_l0
  b_l1 := h.b_l1
  b_l2 := h.b_l2
  b_g1 := h.b_g1
  b_g2 := h.b_g2
  b_g3 := h.b_g3
  b_g4 := h.b_g4
  b_g5 := h.b_g5
  b_g6 := h.b_g6
  i_o_l0 := (by rw [← iq4 h.b_l0 h.b_o]; exact h.i_o_l0)
  i_t0_l0 := (by rw [← iq4 h.b_l0 h.b_t0]; exact h.i_t0_l0)
  i_u0_l0 := (by rw [← iq4 h.b_l0 h.b_u0]; exact h.i_u0_l0)
  i_o_l1 := (by rw [← iq4 h.b_l1 h.b_o]; exact h.i_o_l1)
  i_t1_l1 := (by rw [← iq4 h.b_l1 h.b_t1]; exact h.i_t1_l1)
  i_u1_l1 := (by rw [← iq4 h.b_l1 h.b_u1]; exact h.i_u1_l1)
  i_o_l2 := (by rw [← iq4 h.b_l2 h.b_o]; exact h.i_o_l2)
  i_t2_l2 := (by rw [← iq4 h.b_l2 h.b_t2]; exact h.i_t2_l2)
  i_u2_l2 := (by rw [← iq4 h.b_l2 h.b_u2]; exact h.i_u2_l2)
  i_t0_g1 := (by rw [← iq4 h.b_g1 h.b_t0]; exact h.i_t0_g1)
  i_t1_g1 := (by rw [← iq4 h.b_g1 h.b_t1]; exact h.i_t1_g1)
  i_u0_g2 := (by rw [← iq4 h.b_g2 h.b_u0]; exact h.i_u0_g2)
  i_u1_g2 := (by rw [← iq4 h.b_g2 h.b_u1]; exact h.i_u1_g2)
  i_a_g1 := (by rw [← iq4 h.b_g1 h.b_a]; exact h.i_a_g1)
  i_a_g2 := (by rw [← iq4 h.b_g2 h.b_a]; exact h.i_a_g2)
  i_t0_g3 := (by rw [← iq4 h.b_g3 h.b_t0]; exact h.i_t0_g3)
  i_t2_g3 := (by rw [← iq4 h.b_g3 h.b_t2]; exact h.i_t2_g3)
  i_u0_g4 := (by rw [← iq4 h.b_g4 h.b_u0]; exact h.i_u0_g4)
  i_u2_g4 := (by rw [← iq4 h.b_g4 h.b_u2]; exact h.i_u2_g4)
  i_b_g3 := (by rw [← iq4 h.b_g3 h.b_b]; exact h.i_b_g3)
  i_b_g4 := (by rw [← iq4 h.b_g4 h.b_b]; exact h.i_b_g4)
  i_t1_g5 := (by rw [← iq4 h.b_g5 h.b_t1]; exact h.i_t1_g5)
  i_t2_g5 := (by rw [← iq4 h.b_g5 h.b_t2]; exact h.i_t2_g5)
  i_u1_g6 := (by rw [← iq4 h.b_g6 h.b_u1]; exact h.i_u1_g6)
  i_u2_g6 := (by rw [← iq4 h.b_g6 h.b_u2]; exact h.i_u2_g6)
  i_c_g5 := (by rw [← iq4 h.b_g5 h.b_c]; exact h.i_c_g5)
  i_c_g6 := (by rw [← iq4 h.b_g6 h.b_c]; exact h.i_c_g6)
  d_t0_o := h.d_t0_o
  d_u0_o := h.d_u0_o
  d_u0_t0 := h.d_u0_t0
  d_t1_o := h.d_t1_o
  d_u1_o := h.d_u1_o
  d_u1_t1 := h.d_u1_t1
  d_t2_o := h.d_t2_o
  d_u2_o := h.d_u2_o
  d_u2_t2 := h.d_u2_t2
  d_g1_g2 := h.d_g1_g2
  d_g3_g4 := h.d_g3_g4
  d_g5_g6 := h.d_g5_g6
  d_l0_l1 := fun e => h.a_o_t0_t1 l0 h.b_l0 h.i_o_l0 h.i_t0_l0 (by rw [e]; exact h.i_t1_l1)
  d_t0_t1 := fun e => h.a_o_t0_t1 l0 h.b_l0 h.i_o_l0 h.i_t0_l0 (by rw [← e]; exact h.i_t0_l0)
  d_u0_u1 := fun e => h.a_o_t0_t1 l0 h.b_l0 h.i_o_l0 h.i_t0_l0 (by rw [pln4.juni o u0 l0 l1 h.b_o h.b_u0 h.d_u0_o.symm h.b_l0 h.b_l1 h.i_o_l0 h.i_u0_l0 h.i_o_l1 (by rw [e]; exact h.i_u1_l1)]; exact h.i_t1_l1)
  d_l0_l2 := fun e => h.a_o_t0_t2 l0 h.b_l0 h.i_o_l0 h.i_t0_l0 (by rw [e]; exact h.i_t2_l2)
  d_t0_t2 := fun e => h.a_o_t0_t2 l0 h.b_l0 h.i_o_l0 h.i_t0_l0 (by rw [← e]; exact h.i_t0_l0)
  d_u0_u2 := fun e => h.a_o_t0_t2 l0 h.b_l0 h.i_o_l0 h.i_t0_l0 (by rw [pln4.juni o u0 l0 l2 h.b_o h.b_u0 h.d_u0_o.symm h.b_l0 h.b_l2 h.i_o_l0 h.i_u0_l0 h.i_o_l2 (by rw [e]; exact h.i_u2_l2)]; exact h.i_t2_l2)
  d_l1_l2 := fun e => h.a_o_t1_t2 l1 h.b_l1 h.i_o_l1 h.i_t1_l1 (by rw [e]; exact h.i_t2_l2)
  d_t1_t2 := fun e => h.a_o_t1_t2 l1 h.b_l1 h.i_o_l1 h.i_t1_l1 (by rw [← e]; exact h.i_t1_l1)
  d_u1_u2 := fun e => h.a_o_t1_t2 l1 h.b_l1 h.i_o_l1 h.i_t1_l1 (by rw [pln4.juni o u1 l1 l2 h.b_o h.b_u1 h.d_u1_o.symm h.b_l1 h.b_l2 h.i_o_l1 h.i_u1_l1 h.i_o_l2 (by rw [e]; exact h.i_u2_l2)]; exact h.i_t2_l2)
/-- Desargues, in the planes of orders up to 5. -/
theorem des_q {q : Nat} (hq : Q4 q) (h : DesF (vq q) (iq q) o t0 t1 t2 u0 u1 u2 a b c l0 l1 l2 g1 g2 g3 g4 g5 g6) : ∃ i, i < vq q ∧ iq q a i = true ∧ iq q b i = true ∧ iq q c i = true := by
  rcases hq with rfl | rfl | rfl | rfl
  · exact des_vp vp2 iq2 h
  · exact des_vp vp3 iq3 h
  · obtain ⟨i, k, p, q, r⟩ := des4_line (des_four h)
    exact ⟨i, k, by rw [iq4 k h.b_a]; exact p, by rw [iq4 k h.b_b]; exact q, by rw [iq4 k h.b_c]; exact r⟩
  · exact des_vp vp5 iq5 h
end

end Go.Proofs.YtgpkhfpejopacaaDoor
