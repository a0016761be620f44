/- The program's rank, unrank and least, walked. -/
import Derived.Test.YtmogmkdcplgfjabY5
import Derived.Test.YtmogmkdcplgfjabVQ
namespace Go.Proofs.Ytmogmkdcplgfjab
open Go.RowKit

theorem rises_ge {M : List Nat} (h : Rises M) : ∀ i, i < M.length → i ≤ M.getD i 0
  | 0, _ => Nat.zero_le _
  | i + 1, hi => by
    have h1 := rises_ge h i (by omega)
    have h2 := h (i + 1) (by omega) hi
    rw [Nat.add_sub_cancel] at h2
    omega
set_option maxRecDepth 100000 in
set_option maxHeartbeats 4000000 in
theorem prank_any (M : List Nat) (v : Value) (w : World) (hv : Wd w v M) (hr : Rises M) (hl : M.length ≤ 30) (h60 : ∀ i, i < M.length → M.getD i 0 ≤ 60) :
    Calls Try.prog 20 #[v] w fun e w' => e = .returned (.int .i64 (rkS M M.length : Int)) ∧ Below w.heap.size w w' := by
  obtain ⟨a, c, rfl, -, hA⟩ := hv
  have HA : Hid (∀ W, Below w.heap.size w W → ∀ i, i < M.length → ∃ b off, a = some ⟨b, off, none⟩ ∧ W.cell? ⟨b, off + i, none⟩ = some (.int .i64 ((M.getD i 0 : Nat) : Int))) := fun W bW i hi => by
    obtain ⟨b, o, e, hc⟩ := hA i hi
    exact ⟨b, o, e, (bW.cell (World.block_lt_of_cell? _ _ hc)).trans hc⟩
  have HSM : Hid (∀ i, i ≤ M.length → rkS M i ≤ 2305843009213693952) := fun i hi => rkS_small hr h60 i hi
  have HC : Hid (∀ i, i < M.length → ∀ W, Calls Try.prog 26 #[.int .i64 ((M.getD i 0 : Nat) : Int), .int .i64 ((i : Int) + 1)] W fun e w' => e = .returned (.int .i64 (chs (M.getD i 0) (i + 1) : Int)) ∧ Below W.heap.size W w') := fun i hi W => by
    have hge := rises_ge hr i hi
    have h6 := h60 i hi
    have h := pways_any (M.getD i 0) (i + 1) W (by omega) (by omega) (by omega) (chs60 (by omega) (by omega))
    exact h.mono fun e w' h => ⟨h.1, by rw [h.2]; exact Below.refl _ _⟩
  have HST : Hid (∀ i, rkS M (i + 1) = rkS M i + chs (M.getD i 0) (i + 1)) := fun i => rfl
  obtain ⟨z, Hz⟩ : ∃ z, Hid (rkS M M.length = z) := ⟨_, rfl⟩
  rw [Hz.out]
  obtain ⟨n, Hn⟩ : ∃ n, Hid (M.length = n) := ⟨_, rfl⟩
  rw [Hn.out] at HA HSM HC hl Hz ⊢
  clear hA h60
  go_enter Try.func20, Try.ntmps20
  go_wp2
  go_loopw [3, 8] (fun sv iv wr => ∃ (i s : Nat), iv = .int .i64 (i : Int) ∧ sv = .int .i64 (s : Int) ∧ i ≤ n ∧ Hid (rkS M i = s) ∧ Below w.heap.size w wr) (fun _ iv _ => (n - intOf iv).toNat)
  case atStart => exact ⟨0, 0, rfl, rfl, by omega, rfl, Below.refl _ _⟩
  case round =>
    obtain ⟨i, s, rfl, rfl, hi, HS, hB⟩ := hrel
    by_cases hlt : i < n
    · have hdi : decide ((i : Int) < (n : Int)) = true := by simp; omega
      have hii : (i : Int) < (n : Int) := by omega
      obtain ⟨b1, o1, rfl, c1⟩ := HA.out wr hB i hlt
      have C := HC.out i hlt wr
      have hst := HST.out i
      have hsm := HSM.out (i + 1) (by omega)
      rw [hst, HS.out] at hsm
      rw [HS.out] at hst
      obtain ⟨x, hx⟩ : ∃ x, Hid (chs (M.getD i 0) (i + 1) = x) := ⟨_, rfl⟩
      obtain ⟨y, hy⟩ : ∃ y, Hid (M.getD i 0 = y) := ⟨_, rfl⟩
      rw [hx.out] at C hst hsm
      rw [hy.out] at C c1
      have HS2 : Hid (rkS M (i + 1) = s + x) := hst
      have hsw : IntKind.i64.wrap ((s : Int) + (x : Int)) = (s : Int) + (x : Int) := IntWalk.i64_in _ (by omega)
      clear hst
      go_wp2_with (go_at_call 26; refine C.mono ?_; rintro e w2 ⟨rfl, hb2⟩; clear C)
      go_roundw
      case rel => exact ⟨i + 1, s + x, by go_num, by go_num, by omega, HS2, Below.next hB hb2⟩
      case measure => simp [intOf]; omega
    · have hdi : decide ((i : Int) < (n : Int)) = false := by simp; omega
      obtain rfl : i = n := by omega
      have HE : Hid (s = z) := by show _ = _; rw [← HS.out]; exact Hz.out
      go_wp2
      go_ret
      exact ⟨by rw [HE.out]; rfl, hB⟩
/-- What is laid so far by the second loop. -/
def ufR (k : Nat) (A : List Nat) (i : Nat) : Nat → Nat := fun j => if k - i ≤ j then A.getD (k - 1 - j) 0 else j
theorem ufR_set {k : Nat} {A : List Nat} {i : Nat} (h : i < k) : ∀ j, j < k → updV (ufR k A i) (k - 1 - i) (A.getD i 0) j = ufR k A (i + 1) j := fun j hj => by
  unfold updV ufR
  by_cases e : j = k - 1 - i
  · rw [if_pos e, if_pos (by omega), show k - 1 - j = i by omega]
  · rw [if_neg e]
    by_cases g : k - i ≤ j
    · rw [if_pos g, if_pos (by omega)]
    · rw [if_neg g, if_neg (by omega)]
theorem un_at {k r j : Nat} (h : r < chs 61 k) (hj : j < k) : (unS k r 61).getD j 0 = ufR k (casL k r) (casL k r).length j := by
  rw [un_cas k r 61 h]
  have hl := cas_len k r
  unfold ufR
  by_cases e : k - (casL k r).length ≤ j
  · rw [if_pos e, List.getD_eq_getElem?_getD, List.getElem?_append_right (by rw [List.length_range]; exact e), List.length_range, List.getElem?_reverse (by omega), List.getD_eq_getElem?_getD]
    congr 2
    omega
  · rw [if_neg e, List.getD_eq_getElem?_getD, List.getElem?_append_left (by rw [List.length_range]; omega), List.getElem?_range (by omega)]
    rfl
end Go.Proofs.Ytmogmkdcplgfjab
