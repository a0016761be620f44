/- Graphs as rows of bits: nothing of the program. -/
import Derived.Test.YtlmjlffipinjiaaSgF
import Derived.Test.YtlmjlffipinjiaaBPure
namespace Go.Proofs.Ytlmjlffipinjiaa

/-- The neighbours of a, as bits. -/
def nbL (n : Nat) (A : Nat → Nat → Int) (a : Nat) : List Nat := (List.range n).filter fun b => A a b == 1
def rbG (n : Nat) (A : Nat → Nat → Int) (a : Nat) : Nat := sb (nbL n A a)
theorem filter_rise (n : Nat) (p : Nat → Bool) : ((List.range n).filter p).Pairwise (· < ·) := List.Pairwise.filter _ List.pairwise_lt_range
theorem filter_lt {n : Nat} {p : Nat → Bool} : ∀ x ∈ (List.range n).filter p, x < n := fun _ hx => List.mem_range.1 (List.mem_filter.1 hx).1
theorem sbf_bit (n : Nat) (p : Nat → Bool) (b : Nat) : (sb ((List.range n).filter p)).testBit b = (decide (b < n) && p b) := by
  rw [sb_bit, Bool.eq_iff_iff]
  simp
theorem sbf_pc {n : Nat} (h : n ≤ 64) (p : Nat → Bool) : pc (sb ((List.range n).filter p)) = ((List.range n).filter p).length := pc_sb (filter_rise n p) fun x hx => by have := filter_lt x hx; omega
theorem rb_bit (n : Nat) (A : Nat → Nat → Int) (a b : Nat) : (rbG n A a).testBit b = (decide (b < n) && (A a b == 1)) := sbf_bit _ _ _
theorem rb_lt (n : Nat) (A : Nat → Nat → Int) (a : Nat) : rbG n A a < 2 ^ n := sb_lt filter_lt
theorem sR_count (f : Nat → Int) : ∀ n, (∀ c, c < n → f c = 0 ∨ f c = 1) → sR n f = (((List.range n).filter fun c => f c == 1).length : Nat)
  | 0, _ => rfl
  | n + 1, h => by
    have ih := sR_count f n fun c hc => h c (by omega)
    rw [sR, ih, List.range_succ, List.filter_append, List.length_append]
    rcases h n (by omega) with e | e <;> simp [e]
theorem rb_deg {n : Nat} {A : Nat → Nat → Int} (G : Gr n A) (hn : n ≤ 64) {a : Nat} (ha : a < n) : dgG n A a = (pc (rbG n A a) : Nat) := by
  unfold dgG rbG nbL
  rw [sbf_pc hn, sR_count _ _ fun c hc => G.bit a c ha hc]
theorem rb_cm {n : Nat} {A : Nat → Nat → Int} (G : Gr n A) (hn : n ≤ 64) {a b : Nat} (ha : a < n) (hb : b < n) : cmG n A a b = (pc (rbG n A a &&& rbG n A b) : Nat) := by
  have e : rbG n A a &&& rbG n A b = sb ((List.range n).filter fun c => A a c * A b c == 1) := by
    apply Nat.eq_of_testBit_eq
    intro i
    rw [Nat.testBit_and, rb_bit, rb_bit, sbf_bit]
    by_cases hi : i < n
    · rcases G.bit a i ha hi with e1 | e1 <;> rcases G.bit b i hb hi with e2 | e2 <;> simp [e1, e2]
    · simp [hi]
  unfold cmG
  rw [e, sbf_pc hn, sR_count]
  intro c hc
  rcases G.bit a c ha hc with e1 | e1 <;> rcases G.bit b c hb hc with e2 | e2 <;> simp [e1, e2]
/-- The rows of bits when the first i cells have been looked at. -/
def btG2 (n : Nat) (L : List Int) (i a : Nat) : Nat := sb ((List.range n).filter fun b => decide (a * n + b < i) && (L.getD (a * n + b) 0 == 1))
theorem bt2_bit (n : Nat) (L : List Int) (i a b : Nat) : (btG2 n L i a).testBit b = (decide (b < n) && (decide (a * n + b < i) && (L.getD (a * n + b) 0 == 1))) := sbf_bit _ _ _
theorem bt2_lt (n : Nat) (L : List Int) (i a : Nat) : btG2 n L i a < 2 ^ n := sb_lt filter_lt
theorem bt2_zero (n : Nat) (L : List Int) (a : Nat) : btG2 n L 0 a = 0 := by
  apply Nat.eq_of_testBit_eq
  intro b
  rw [bt2_bit]
  simp
theorem bt2_skip {n : Nat} {L : List Int} {i : Nat} (h : L.getD i 0 = 0) (a : Nat) : btG2 n L (i + 1) a = btG2 n L i a := by
  apply Nat.eq_of_testBit_eq
  intro b
  rw [bt2_bit, bt2_bit]
  by_cases e : a * n + b = i
  · rw [e, h]; simp
  · rw [Bool.eq_iff_iff]; simp; omega
theorem bt2_put {n : Nat} {L : List Int} {i : Nat} (hn : 0 < n) (h : L.getD i 0 = 1) (a : Nat) : btG2 n L (i + 1) a = if a = i / n then btG2 n L i a ||| 2 ^ (i % n) else btG2 n L i a := by
  have hr := Nat.mod_lt i hn
  have hd := Nat.div_add_mod i n
  apply Nat.eq_of_testBit_eq
  intro b
  by_cases e : a = i / n
  · subst e
    rw [if_pos rfl, Nat.testBit_or, bt2_bit, bt2_bit, Nat.testBit_two_pow]
    rw [Nat.mul_comm n] at hd
    by_cases eb : b = i % n
    · subst eb
      rw [hd, h]
      simp [hr]
    · have h2 : decide (i % n = b) = false := by simp; omega
      rw [h2, Bool.or_false, Bool.eq_iff_iff]
      simp
      omega
  · rw [if_neg e, bt2_bit, bt2_bit]
    by_cases hb : b < n
    · have : a * n + b ≠ i := by
        intro k
        apply e
        have := cell_div (i := a) (j := b) hb
        rw [k] at this
        exact this.1.symm
      rw [Bool.eq_iff_iff]
      simp
      omega
    · simp [hb]
theorem bt2_all {n : Nat} {L : List Int} {a : Nat} (ha : a < n) : btG2 n L (n * n) a = rbG n (gx n L) a := by
  apply Nat.eq_of_testBit_eq
  intro b
  rw [bt2_bit, rb_bit]
  by_cases hb : b < n
  · have := cell_ltG ha hb
    simp [hb, this, gx]
  · simp [hb]
end Go.Proofs.Ytlmjlffipinjiaa
