/- The document's LeastOf, walked. -/
import Derived.Test.YtmogmkdcplgfjaaV7
namespace Go.Proofs.Ytmogmkdcplgfjaa
open Go.RowKit

theorem sumN_bd {B : Nat} : ∀ (n : Nat) {f : Nat → Nat}, (∀ i, i < n → f i ≤ B) → sumN n f ≤ n * B
  | 0, _, _ => Nat.zero_le _
  | n + 1, f, h => by
    have h1 := sumN_bd n (f := f) fun i hi => h i (by omega)
    have h2 := h n (by omega)
    show sumN n f + f n ≤ _
    rw [Nat.add_mul]
    omega
set_option maxRecDepth 100000 in
set_option maxHeartbeats 4000000 in
theorem LeastOf_none (kk : Int) (v : Value) (w : World) (hv : Wd w v []) :
    Calls Try.prog 26 #[v, .int .i64 kk] w fun e w' => e = .returned (.int .i64 0) ∧ Below w.heap.size w w' := by
  obtain ⟨a, c, rfl, -, -⟩ := hv
  rw [List.length_nil]
  go_enter Try.func26, Try.ntmps26
  go_wp2
  refine wp_loop_rounds 1 ?_
  rw [rounds_succ]
  go_wp2
  go_ret
  exact ⟨rfl, Below.refl _ _⟩
set_option maxRecDepth 100000 in
set_option maxHeartbeats 4000000 in
theorem LeastOf_any (k : Nat) (M : List Nat) (v : Value) (w : World) (hv : Wd w v M) (hk : k ≤ 30) (hl : M.length ≤ k) (h2 : ∀ i, i < M.length → M.getD i 0 ≤ 2000000000) (h3 : ∀ i, i < M.length → chs (M.getD i 0) (k - 1 - i) ≤ 30000000000) :
    Calls Try.prog 26 #[v, .int .i64 (k : Int)] w fun e w' => e = .returned (.int .i64 (leN k M : Int)) ∧ Below w.heap.size w w' := by
  obtain ⟨a, c, rfl, -, hA⟩ := hv
  have HA : Hid (∀ W, Below w.heap.size w W → ∀ i, i < M.length → ∃ b off, a = some ⟨b, off, none⟩ ∧ W.cell? ⟨b, off + i, none⟩ = some (.int .i64 ((M.getD i 0 : Nat) : Int))) := fun W bW i hi => by
    obtain ⟨b, o, e, hc⟩ := hA i hi
    exact ⟨b, o, e, (bW.cell (World.block_lt_of_cell? _ _ hc)).trans hc⟩
  have HSM : Hid (∀ i, i ≤ M.length → sumN i (fun i => chs (M.getD i 0) (k - 1 - i)) ≤ 900000000000) := fun i hi => by
    have := sumN_bd i (f := fun i => chs (M.getD i 0) (k - 1 - i)) fun j hj => h3 j (by omega)
    have h5 : i * 30000000000 ≤ 30 * 30000000000 := Nat.mul_le_mul_right _ (by omega)
    omega
  have HC : Hid (∀ i, i < M.length → ∀ W, Calls Try.prog 46 #[.int .i64 ((M.getD i 0 : Nat) : Int), .int .i64 ((k - 1 - i : Nat) : Int)] W fun e w' => e = .returned (.int .i64 (chs (M.getD i 0) (k - 1 - i) : Int)) ∧ Below W.heap.size W w') := fun i hi W => great_any _ _ W (h2 i hi) (by omega) (by have := h3 i hi; omega)
  have HST : Hid (∀ i, sumN (i + 1) (fun i => chs (M.getD i 0) (k - 1 - i)) = sumN i (fun i => chs (M.getD i 0) (k - 1 - i)) + chs (M.getD i 0) (k - 1 - i)) := fun i => rfl
  obtain ⟨F, HF⟩ : ∃ F, Hid ((fun i => chs (M.getD i 0) (k - 1 - i)) = F) := ⟨_, rfl⟩
  obtain ⟨z, Hz⟩ : ∃ z, Hid (leN k M = z) := ⟨_, rfl⟩
  have HE : Hid (sumN M.length F = z) := by show _ = _; rw [← HF.out]; exact Hz.out
  rw [Hz.out]
  rw [HF.out] at HSM HST
  obtain ⟨n, Hn⟩ : ∃ n, Hid (M.length = n) := ⟨_, rfl⟩
  rw [Hn.out] at HA HSM HC hl HE ⊢
  clear hA h2 h3 Hz
  go_enter Try.func26, Try.ntmps26
  go_wp2
  go_loopw [5, 6] (fun sv iv wr => ∃ (i s : Nat), iv = .int .i64 (i : Int) ∧ sv = .int .i64 (s : Int) ∧ i ≤ n ∧ Hid (sumN i F = s) ∧ Below w.heap.size w wr) (fun _ iv _ => (n - intOf iv).toNat)
  case atStart => exact ⟨0, 0, rfl, rfl, by omega, rfl, Below.refl _ _⟩
  case round =>
    obtain ⟨i, s, rfl, rfl, hi, HS, hB⟩ := hrel
    by_cases hlt : i < n
    · have hdi : decide ((i : Int) < (n : Int)) = true := by simp; omega
      have hii : (i : Int) < (n : Int) := by omega
      obtain ⟨b1, o1, rfl, c1⟩ := HA.out wr hB i hlt
      have C := HC.out i hlt wr
      have hst := HST.out i
      have hsm := HSM.out (i + 1) (by omega)
      rw [hst, HS.out] at hsm
      rw [HS.out] at hst
      have e5 : ((k - 1 - i : Nat) : Int) = (k : Int) - 1 - (i : Int) := by omega
      rw [e5] at C
      obtain ⟨x, hx⟩ : ∃ x, Hid (chs (M.getD i 0) (k - 1 - i) = x) := ⟨_, rfl⟩
      obtain ⟨y, hy⟩ : ∃ y, Hid (M.getD i 0 = y) := ⟨_, rfl⟩
      rw [hx.out] at C hst hsm
      rw [hy.out] at C c1
      have HS2 : Hid (sumN (i + 1) F = s + x) := hst
      have hsw : IntKind.i64.wrap ((s : Int) + (x : Int)) = (s : Int) + (x : Int) := IntWalk.i64_in _ (by omega)
      have hkw : IntKind.i64.wrap ((k : Int) - 1) = (k : Int) - 1 := IntWalk.i64_in _ (by omega)
      have hkw2 : IntKind.i64.wrap ((k : Int) - 1 - (i : Int)) = (k : Int) - 1 - (i : Int) := IntWalk.i64_in _ (by omega)
      clear hst e5
      go_wp2_with (go_at_call 46; refine C.mono ?_; rintro e w2 ⟨rfl, hb2⟩; clear C)
      go_roundw
      case rel => exact ⟨i + 1, s + x, by go_num, by go_num, by omega, HS2, Below.next hB hb2⟩
      case measure => simp [intOf]; omega
    · have hdi : decide ((i : Int) < (n : Int)) = false := by simp; omega
      obtain rfl : i = n := by omega
      have HZ : Hid (s = z) := by show _ = _; rw [← HS.out]; exact HE.out
      go_wp2
      go_ret
      exact ⟨by rw [HZ.out]; rfl, hB⟩
theorem cas_small {k m i : Nat} (hm : m ≤ 1000000000) (hk : k ≤ 30) (hi : i < (casL k m).length) : (casL k m).getD i 0 ≤ 2000000000 := by
  have : ∀ k m i, k ≤ 30 → m ≤ 1000000000 → i < (casL k m).length → (casL k m).getD i 0 ≤ 1000000030 := by
    intro k
    induction k with
    | zero => intro m i _ _ h; exact absurd h (Nat.not_lt_zero _)
    | succ k ih =>
      intro m i hk hm h
      by_cases e : m = 0
      · rw [cas_stop (.inr e)] at h; exact absurd h (Nat.not_lt_zero _)
      · rw [cas_step (Nat.succ_pos k) (by omega)] at h ⊢
        cases i with
        | zero =>
          have := top_le (k := k + 1) (m := m) (by omega)
          show topN (k + 1) m ≤ _
          omega
        | succ i => exact ih _ i (by omega) (by omega) (by simpa using h)
  have := this k m i hk hm hi
  omega
theorem LeastOf_cas (k m : Nat) (v : Value) (w : World) (hv : Wd w v (casL k m)) (hk : k ≤ 30) (hm : m ≤ 1000000000) :
    Calls Try.prog 26 #[v, .int .i64 (k : Int)] w fun e w' => e = .returned (.int .i64 (leN k (casL k m) : Int)) ∧ Below w.heap.size w w' :=
  LeastOf_any k (casL k m) v w hv hk (cas_len k m) (fun i hi => cas_small hm hk hi) fun i hi => by
    have h1 := le_small hi
    have h2 : k * m ≤ 30 * 1000000000 := Nat.mul_le_mul hk hm
    omega
end Go.Proofs.Ytmogmkdcplgfjaa
