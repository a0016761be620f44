/- The landed Gray, walked. -/
import Derived.Test.YtcjkcgfohmhbcaaX2
namespace Go.Proofs.Ytcjkcgfohmhbcaa
open Go.RowKit

def nV (x : Nat) : Value := .int .i64 (x : Int)
/-- A made row of one's own is a word. -/
theorem OwV.wd {w : World} {g n : Nat} {f : Nat → Nat} (h : OwV 3 nV w g n f) {M : List Nat} {m c : Nat} (hm : M.length = m) (hmn : m ≤ n) (hc : m ≤ c) (e : ∀ j, j < m → M.getD j 0 = f j) : Wd w (.slice (some ⟨g, 0, none⟩) m c) M := by
  subst hm
  refine ⟨_, c, rfl, hc, fun j hj => ⟨g, 0, rfl, ?_⟩⟩
  rw [Nat.zero_add, h.cell j (by omega), e j hj]; rfl
theorem run_makeN (n : Nat) (hn : n ≤ 100000) (w : World) : (Instr.makeSlice 22 (.int .i64 (n : Int)) (.int .i64 (n : Int))).run Try.prog w = .ok (.slice (some ⟨w.heap.size, 0, none⟩) n n) (w.alloc (.cells (madeCells #[.int .i64 0] n) 3)) := by
  obtain ⟨i3, hi, hz0, hz1, hz2⟩ := info3
  have h := run_make (P := Try.prog) w 22 3 i3 (.int .i64 0) und22 hi hz0 .i64 .i64 n n (by omega) (by omega) (by rw [hz2]; omega) (by omega)
  simpa [hz1, Value.cells] using h
def grF (i : Nat) : Nat → Nat := fun j => if j < i then j ^^^ j / 2 else 0
theorem grF_set (i : Nat) : updV (grF i) i (i ^^^ i / 2) = grF (i + 1) := by
  funext j
  unfold updV grF
  by_cases e : j = i
  · rw [if_pos e, if_pos (by omega), e]
  · rw [if_neg e]
    by_cases h : j < i
    · rw [if_pos h, if_pos (by omega)]
    · rw [if_neg h, if_neg (by omega)]
set_option maxRecDepth 100000 in
set_option maxHeartbeats 4000000 in
theorem gray_any (n : Nat) (w : World) (hn : n ≤ 12) :
    Calls Try.prog 28 #[.int .i64 (n : Int)] w fun e w' => (∃ y, e = .returned y ∧ Wd w' y (grL n)) ∧ Below w.heap.size w w' := by
  obtain ⟨A, HA⟩ : ∃ A, Hid ((2 ^ n : Nat) = A) := ⟨_, rfl⟩
  have eA : (1 : Int) * 2 ^ n = (A : Int) := by rw [Int.one_mul, ← HA.out]; simp
  have hA : A ≤ 4096 := by rw [← HA.out]; exact (Nat.pow_le_pow_right (by decide) hn : 2 ^ n ≤ 2 ^ 12)
  have hAw : IntKind.i64.wrap (A : Int) = (A : Int) := IntWalk.i64_in _ (by omega)
  have hmk : ∀ w : World, (Instr.makeSlice 22 (.int .i64 (A : Int)) (.int .i64 (A : Int))).run Try.prog w = .ok (.slice (some ⟨w.heap.size, 0, none⟩) A A) (w.alloc (.cells (madeCells #[.int .i64 0] A) 3)) := fun w => run_makeN A (by omega) w
  have hO0 : OwV 3 nV (w.alloc (.cells (madeCells #[.int .i64 0] A) 3)) w.heap.size A (grF 0) := OwV.made A w _ _ (by intro j; unfold grF; rw [if_neg (by omega)]; rfl)
  have hB0 := balloc w (.cells (madeCells #[.int .i64 0] A) 3)
  have HL : Hid (∀ (w' : World) g, OwV 3 nV w' g A (grF A) → Wd w' (.slice (some ⟨g, 0, none⟩) A A) (grL n)) := fun w' g h => h.wd (by rw [grL_len, HA.out]) (Nat.le_refl _) (Nat.le_refl _) fun j hj => by
    unfold grF
    rw [if_pos hj, gr_getD hn (by rw [HA.out]; exact hj)]
  obtain ⟨g, Hg⟩ : ∃ g, Hid (w.heap.size = g) := ⟨_, rfl⟩
  go_enter Try.func28, Try.ntmps28
  go_wp2
  rw [Hg.out] at hO0 hB0 ⊢
  go_loopw [10] (fun iv wr => ∃ (i : Nat), iv = .int .i64 (i : Int) ∧ i ≤ A ∧ OwV 3 nV wr g A (grF i) ∧ Below g w wr) (fun iv _ => (A - intOf iv).toNat)
  case atStart => exact ⟨0, rfl, by omega, hO0, hB0⟩
  case round =>
    clear hO0 hB0 hmk
    obtain ⟨i, rfl, hi, hO, hB⟩ := hrel
    by_cases hlt : i < A
    · have hdi : decide ((i : Int) < (A : Int)) = true := by simp; omega
      have hii : (i : Int) < (A : Int) := by omega
      obtain ⟨u, Hu⟩ : ∃ u, Hid (i ^^^ i / 2 = u) := ⟨_, rfl⟩
      have eu : bits .xor .i64 (i : Int) ((i : Int) / 2) = (u : Int) := by
        rw [show (i : Int) / 2 = ((i / 2 : Nat) : Int) by rw [Int.natCast_ediv]; rfl, xorG (by omega) (by omega), Hu.out]
      have hc := hO.cell i hlt
      have hf := hO.frozen i
      have hO2 := hO.set i u
      rw [← Hu.out, grF_set i, Hu.out] at hO2
      have hB2 : Below g w (wr.setCell ⟨g, i, none⟩ (nV u)) := hB.setCell (Nat.le_refl _) _
      go_wp2
      go_roundw
      case rel => exact ⟨i + 1, by go_num, by omega, hO2, hB2⟩
      case measure => simp [intOf]; omega
    · have hdi : decide ((i : Int) < (A : Int)) = false := by simp; omega
      obtain rfl : i = A := by omega
      go_wp2
      go_ret
      exact ⟨⟨_, rfl, HL.out _ _ hO⟩, by rw [Hg.out]; exact hB⟩
set_option maxRecDepth 100000 in
set_option maxHeartbeats 4000000 in
theorem Gray_any : FGray := by
  intro nn w
  by_cases h1 : nn < 0
  · have e1 : grE nn = 1 := by unfold grE; rw [if_pos (.inl h1)]
    have e2 : grZ nn = [] := by unfold grZ; rw [if_pos (.inl h1)]
    have hd1 : decide (nn < 0) = true := by simpa using h1
    rw [e1, e2]
    clear h1
    go_enter Try.func9, Try.ntmps9
    go_wp2
    go_ret2
    exact ⟨⟨_, rfl, ⟨none, 0, rfl, Nat.le_refl _, fun j hj => absurd hj (Nat.not_lt_zero _)⟩⟩, Below.refl _ _⟩
  have hd1 : decide (nn < 0) = false := by simpa using h1
  by_cases h2 : 12 < nn
  · have e1 : grE nn = 1 := by unfold grE; rw [if_pos (.inr h2)]
    have e2 : grZ nn = [] := by unfold grZ; rw [if_pos (.inr h2)]
    have hd2 : decide (12 < nn) = true := by simpa using h2
    rw [e1, e2]
    clear h1 h2
    go_enter Try.func9, Try.ntmps9
    go_wp2
    go_ret2
    exact ⟨⟨_, rfl, ⟨none, 0, rfl, Nat.le_refl _, fun j hj => absurd hj (Nat.not_lt_zero _)⟩⟩, Below.refl _ _⟩
  have hd2 : decide (12 < nn) = false := by simpa using h2
  obtain ⟨n, rfl⟩ : ∃ n : Nat, nn = n := ⟨nn.toNat, by omega⟩
  have e1 : grE n = 0 := by unfold grE; rw [if_neg (by omega)]
  have e2 : grZ n = grL n := by unfold grZ; rw [if_neg (by omega), Int.toNat_natCast]
  have C := gray_any n w (by omega)
  rw [e1, e2]
  clear h1 h2
  go_enter Try.func9, Try.ntmps9
  go_wp2_with (go_at_call 28; refine C.mono ?_; rintro e w' ⟨⟨y, rfl, hy⟩, hb⟩; clear C)
  go_ret2
  exact ⟨⟨_, rfl, hy⟩, hb⟩
end Go.Proofs.Ytcjkcgfohmhbcaa
