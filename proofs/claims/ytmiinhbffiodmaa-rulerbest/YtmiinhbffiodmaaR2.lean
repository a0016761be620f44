/- What is wrong with marks: the walk of the document's MarksFault. -/
import Derived.Test.YtmiinhbffiodmaaS1
import Derived.Test.YtmiinhbffiodmaaRuD
namespace Go.Proofs.Ytmiinhbffiodmaa
open Go.RowKit

/-- What is wrong with marks. -/
def mF (l : List Int) : Nat := if 60 < l.length then 3 else if bF 1000000001 l = 1 then 1 else if (0 < l.length ∧ l.getD 0 0 ≠ 0) ∨ riB l = false then 2 else 0
theorem bF_one {p : Int} {b : List Int} (h : ∀ j, j < b.length → 0 ≤ b.getD j 0 ∧ b.getD j 0 < p) : bF p b ≠ 1 := by
  rw [bF_riB h]
  split <;> omega
theorem mF_out {l : List Int} {j : Nat} (h60 : l.length ≤ 60) (hj : j < l.length) (h : ¬ (0 ≤ l.getD j 0 ∧ l.getD j 0 < 1000000001)) : mF l = 1 := by
  unfold mF
  rw [if_neg (by omega), if_pos (bF_out hj h)]
theorem mF_first {l : List Int} (h60 : l.length ≤ 60) (h : ∀ j, j < l.length → 0 ≤ l.getD j 0 ∧ l.getD j 0 < 1000000001) (h0 : 0 < l.length) (hn : l.getD 0 0 ≠ 0) : mF l = 2 := by
  unfold mF
  rw [if_neg (by omega), if_neg (bF_one h), if_pos (.inl ⟨h0, hn⟩)]
theorem mF_fall {l : List Int} {j : Nat} (h60 : l.length ≤ 60) (h : ∀ j, j < l.length → 0 ≤ l.getD j 0 ∧ l.getD j 0 < 1000000001) (h1 : 1 ≤ j) (hj : j < l.length) (hf : l.getD j 0 ≤ l.getD (j - 1) 0) : mF l = 2 := by
  unfold mF
  rw [if_neg (by omega), if_neg (bF_one h), if_pos (.inr (riB_no h1 hj hf))]
theorem mF_zero {l : List Int} (h60 : l.length ≤ 60) (h : ∀ j, j < l.length → 0 ≤ l.getD j 0 ∧ l.getD j 0 < 1000000001) (h0 : 0 < l.length → l.getD 0 0 = 0) (hr : ∀ j, 1 ≤ j → j < l.length → l.getD (j - 1) 0 < l.getD j 0) : mF l = 0 := by
  unfold mF
  rw [if_neg (by omega), if_neg (bF_one h), if_neg]
  rintro (⟨a, b⟩ | a)
  · exact b (h0 a)
  · rw [riB_yes hr] at a
    cases a
/-- Marks: a list that rises, from 0 on. -/
structure GoodM (l : List Nat) : Prop where
  few : l.length ≤ 60
  rise : l.Pairwise (· < ·)
  le : ∀ x ∈ l, x ≤ 1000000000
  zero : l.getD 0 0 = 0
theorem mF_good {l : List Int} (h : mF l = 0) : ∃ D : List Nat, l = D.map Int.ofNat ∧ GoodM D := by
  unfold mF at h
  split at h
  · cases h
  · rename_i h1
    split at h
    · cases h
    · rename_i h2
      split at h
      · cases h
      · rename_i h3
        have hin : ∀ j, j < l.length → 0 ≤ l.getD j 0 ∧ l.getD j 0 < 1000000001 := fun j hj => Classical.byContradiction fun hn => h2 (bF_out hj hn)
        have hri : riB l = true := by
          cases e : riB l
          · exact absurd (Or.inr e) h3
          · rfl
        have hrr : ∀ j, 1 ≤ j → j < l.length → l.getD (j - 1) 0 < l.getD j 0 := fun j hj1 hj => Classical.byContradiction fun hn => by
          rw [riB_no hj1 hj (by omega)] at hri
          cases hri
        obtain ⟨r1, r2⟩ := toNat_rs (v := 1000000001) (lo := 0) (fun j hj => by have := hin j hj; omega) hrr
        obtain ⟨r3, r4⟩ := rs_iff.1 r1
        refine ⟨l.map Int.toNat, r2.symm, by rw [List.length_map]; omega, r3, fun x hx => by have := (r4 x hx).2; omega, ?_⟩
        rcases l with _ | ⟨y, l⟩
        · rfl
        · have hy : y = 0 := Classical.byContradiction fun hn => h3 (.inl ⟨by simp, by simpa using hn⟩)
          simp [hy]
set_option maxHeartbeats 4000000 in
theorem MarksFault_far (u : Value) (w : World) (n c : Nat) (a : Option Addr) (hu : u = .slice a n c) (h : 60 < n) : Calls Try.prog 5 #[u] w fun e w' => e = .returned (.int .i64 3) ∧ Below w.heap.size w w' := by
  subst hu
  have d1 : decide (60 < (n : Int)) = true := by simp; omega
  have d2 : 60 < (n : Int) := by omega
  go_enter Try.func5, Try.ntmps5
  go_wp2
  go_ret
  exact ⟨rfl, Below.refl _ _⟩
set_option maxRecDepth 100000 in
set_option maxHeartbeats 8000000 in
theorem MarksFault_near (b : List Int) (u : Value) (w : World) (hu : Sl w u b) (h60 : b.length ≤ 60) :
    Calls Try.prog 5 #[u] w fun e w' => e = .returned (.int .i64 (mF b : Int)) ∧ Below w.heap.size w w' := by
  obtain ⟨ua, uc, rfl, hub⟩ := hu
  have HUB : Hid (∀ j, j < b.length → ∃ g o, ua = some ⟨g, o, none⟩ ∧ ∀ W, Below w.heap.size w W → W.cell? ⟨g, o + j, none⟩ = some (.int .i64 (b.getD j 0))) := fun j hj => by
    obtain ⟨g, o, e, hc⟩ := hub j hj
    exact ⟨g, o, e, fun W bW => (bW.cell (World.block_lt_of_cell? _ _ hc)).trans hc⟩
  obtain ⟨w1, Hw1⟩ : ∃ w1 : World, Hid (w1 = w) := ⟨_, rfl⟩
  rw [← Hw1.out] at HUB
  have HO : Hid (∀ j, j < b.length → ¬ (0 ≤ b.getD j 0 ∧ b.getD j 0 < 1000000001) → mF b = 1) := fun j hj h => mF_out h60 hj h
  have HF : Hid ((∀ j, j < b.length → 0 ≤ b.getD j 0 ∧ b.getD j 0 < 1000000001) → 0 < b.length → b.getD 0 0 ≠ 0 → mF b = 2) := fun h h0 hn => mF_first h60 h h0 hn
  have HL : Hid ((∀ j, j < b.length → 0 ≤ b.getD j 0 ∧ b.getD j 0 < 1000000001) → ∀ j, 1 ≤ j → j < b.length → b.getD j 0 ≤ b.getD (j - 1) 0 → mF b = 2) := fun h j h1 hj hf => mF_fall h60 h h1 hj hf
  have HZZ : Hid ((∀ j, j < b.length → 0 ≤ b.getD j 0 ∧ b.getD j 0 < 1000000001) → (0 < b.length → b.getD 0 0 = 0) → (∀ j, 1 ≤ j → j < b.length → b.getD (j - 1) 0 < b.getD j 0) → mF b = 0) := fun h h0 hr => mF_zero h60 h h0 hr
  obtain ⟨z, HZ⟩ : ∃ z, Hid (mF b = z) := ⟨_, rfl⟩
  rw [HZ.out] at HO HF HL HZZ ⊢
  generalize hbn : b.length = bn at *
  have d1 : decide (60 < (bn : Int)) = false := by simp; omega
  have d2 : ¬ 60 < (bn : Int) := by omega
  clear hub
  go_enter Try.func5, Try.ntmps5
  go_wp2
  go_loopw [3] (fun jv wr' => ∃ j : Nat, jv = .int .i64 (j : Int) ∧ j ≤ bn ∧ Hid (∀ m, m < j → 0 ≤ b.getD m 0 ∧ b.getD m 0 < 1000000001) ∧ Below w1.heap.size w1 wr') (fun jv _ => (bn - intOf jv).toNat)
  case atStart => exact ⟨0, rfl, by omega, (show ∀ m, m < 0 → _ from fun m h => by omega), by rw [Hw1.out]; exact Below.refl _ _⟩
  case round =>
    obtain ⟨j, rfl, hj, HJ, hB2⟩ := hrel
    by_cases hlj : j < bn
    · have hdj : decide ((j : Int) < (bn : Int)) = true := by simp; omega
      have hji : (j : Int) < (bn : Int) := by omega
      obtain ⟨g, o, rfl, hcj0⟩ := HUB.out j hlj
      have hcj := hcj0 _ hB2
      have hO := HO.out j hlj
      obtain ⟨x, Hx⟩ : ∃ x, Hid (x = b.getD j 0) := ⟨_, (rfl : b.getD j 0 = b.getD j 0)⟩
      rw [← Hx.out] at hcj hO
      by_cases hneg : x < 0
      · obtain rfl := hO (by omega)
        have hdx : decide (x < 0) = true := decide_eq_true hneg
        clear hneg hO hcj0 HO HF HL HZZ
        go_wp2
        go_ret
        exact ⟨rfl, by rw [← Hw1.out]; exact hB2⟩
      · have hdx : decide (x < 0) = false := decide_eq_false hneg
        by_cases hge : 1000000000 < x
        · obtain rfl := hO (by omega)
          have hdx2 : decide (1000000000 < x) = true := decide_eq_true hge
          clear hneg hge hO hcj0 HO HF HL HZZ
          go_wp2
          go_ret
          exact ⟨rfl, by rw [← Hw1.out]; exact hB2⟩
        · have hdx2 : decide (1000000000 < x) = false := decide_eq_false hge
          have HJ2 : Hid (∀ m, m < j + 1 → 0 ≤ b.getD m 0 ∧ b.getD m 0 < 1000000001) := fun m hm => by
            by_cases e : m = j
            · subst e; rw [← Hx.out]; omega
            · exact HJ.out m (by omega)
          clear hneg hge HJ hcj0 hO HO HF HL HZZ
          go_wp2
          go_roundw
          case rel => exact ⟨j + 1, by go_num, by omega, HJ2, hB2⟩
          case measure => simp [intOf]; omega
    · have hdj : decide ((j : Int) < (bn : Int)) = false := by simp; omega
      obtain rfl : j = bn := by omega
      have HF' : Hid (0 < j → b.getD 0 0 ≠ 0 → z = 2) := fun h1 h2 => HF.out HJ.out h1 h2
      have HL' : Hid (∀ k, 1 ≤ k → k < j → b.getD k 0 ≤ b.getD (k - 1) 0 → z = 2) := fun k h1 h2 h3 => HL.out HJ.out k h1 h2 h3
      have HZ' : Hid ((0 < j → b.getD 0 0 = 0) → (∀ k, 1 ≤ k → k < j → b.getD (k - 1) 0 < b.getD k 0) → z = 0) := fun h1 h2 => HZZ.out HJ.out h1 h2
      clear hlj HO HF HL HZZ HJ
      go_wp2
      go_loopw [4] (fun jv wr' => ∃ k : Nat, jv = .int .i64 (k : Int) ∧ k ≤ j ∧ Hid (0 < k → b.getD 0 0 = 0) ∧ Hid (∀ m, 1 ≤ m → m < k → b.getD (m - 1) 0 < b.getD m 0) ∧ Below w1.heap.size w1 wr') (fun jv _ => (j - intOf jv).toNat)
      case atStart => exact ⟨0, rfl, by omega, (show 0 < 0 → _ from fun h => by omega), (show ∀ m, 1 ≤ m → m < 0 → _ from fun m h h' => by omega), hB2⟩
      case round =>
        clear hB2
        obtain ⟨k, rfl, hkj, HK0, HK, hB3⟩ := hrel
        by_cases hlk : k < j
        · have hdk : decide ((k : Int) < (j : Int)) = true := by simp; omega
          have hki : (k : Int) < (j : Int) := by omega
          by_cases hk0 : k = 0
          · subst hk0
            obtain ⟨g, o, rfl, hc0⟩ := HUB.out 0 hlk
            have hck := hc0 _ hB3
            rw [Nat.add_zero] at hck
            have hF := HF'.out hlk
            obtain ⟨x, Hx⟩ : ∃ x, Hid (b.getD 0 0 = x) := ⟨_, rfl⟩
            rw [Hx.out] at hck hF
            clear hc0
            by_cases hx : x = 0
            · subst hx
              have HK2 : Hid (0 < 0 + 1 → b.getD 0 0 = 0) := fun _ => Hx.out
              have HK3 : Hid (∀ m, 1 ≤ m → m < 0 + 1 → b.getD (m - 1) 0 < b.getD m 0) := fun m h1 h2 => by omega
              clear HK0 HK hF HF' HL' HZ'
              go_wp2
              go_quiet (fail)
              go_wp2
              go_roundw
              case rel => exact ⟨0 + 1, by go_num, by omega, HK2, HK3, bdrewN hB3 _⟩
              case measure => simp [intOf]; omega
            · obtain rfl := hF hx
              have e2 : (x != 0) = true := by simpa using hx
              clear HK0 HK hF HF' HL' HZ'
              go_wp2
              go_quiet (fail)
              go_wp2
              go_ret
              exact ⟨rfl, by rw [← Hw1.out]; exact bdrewN hB3 _⟩
          · obtain ⟨k', Hk'⟩ : ∃ k', Hid (k = k' + 1) := ⟨k - 1, (by omega : k = k - 1 + 1)⟩
            have hsub : (k : Int) - 1 = (k' : Int) := by have := Hk'.out; omega
            have hk'i : (k' : Int) < (j : Int) := by have := Hk'.out; omega
            have hk0i : ¬ (k : Int) = 0 := by omega
            have hk0b : ((k : Int) == 0) = false := by simpa using hk0i
            have hkp : decide ((0 : Int) < (k : Int)) = true := by simp; omega
            have hkp2 : (0 : Int) < (k : Int) := by omega
            have hkp3 : 0 < k := by omega
            obtain ⟨g, o, rfl, hc0⟩ := HUB.out k hlk
            obtain ⟨g2, o2, e2, hc1⟩ := HUB.out k' (by have := Hk'.out; omega)
            obtain ⟨rfl, rfl⟩ : g = g2 ∧ o = o2 := by
              simp only [Option.some.injEq, Addr.mk.injEq] at e2
              exact ⟨e2.1, e2.2.1⟩
            have hck := hc0 _ hB3
            have hck' := hc1 _ hB3
            have hL := HL'.out k (by omega) hlk
            rw [show k - 1 = k' by have := Hk'.out; omega] at hL
            obtain ⟨x, Hx⟩ : ∃ x, Hid (x = b.getD k 0) := ⟨_, (rfl : b.getD k 0 = b.getD k 0)⟩
            obtain ⟨y, Hy⟩ : ∃ y, Hid (y = b.getD k' 0) := ⟨_, (rfl : b.getD k' 0 = b.getD k' 0)⟩
            rw [← Hx.out] at hck hL
            rw [← Hy.out] at hck' hL
            clear e2 hc0 hc1
            by_cases hle : x ≤ y
            · obtain rfl := hL hle
              have hdx : decide (x ≤ y) = true := decide_eq_true hle
              clear hle hL HF' HL' HZ' HK HK0
              go_wp2
              go_quiet (fail)
              go_wp2
              go_ret
              exact ⟨rfl, by rw [← Hw1.out]; exact bdrewN hB3 _⟩
            · have hdx : decide (x ≤ y) = false := decide_eq_false hle
              have HK2 : Hid (∀ m, 1 ≤ m → m < k + 1 → b.getD (m - 1) 0 < b.getD m 0) := fun m h1 h2 => by
                by_cases e : m = k
                · subst e; rw [show m - 1 = k' by have := Hk'.out; omega, ← Hx.out, ← Hy.out]; omega
                · exact HK.out m h1 (by omega)
              have HK4 : Hid (0 < k + 1 → b.getD 0 0 = 0) := fun _ => HK0.out (by omega)
              clear hle HK hL HF' HL' HZ' HK0
              go_wp2
              go_quiet (fail)
              go_wp2
              go_roundw
              case rel => exact ⟨k + 1, by go_num, by omega, HK4, HK2, bdrewN hB3 _⟩
              case measure => simp [intOf]; omega
        · have hdk : decide ((k : Int) < (j : Int)) = false := by simp; omega
          obtain rfl : k = j := by omega
          obtain rfl := HZ'.out HK0.out HK.out
          go_wp2
          go_ret
          exact ⟨rfl, by rw [← Hw1.out]; exact hB3⟩
theorem MarksFault_any (b : List Int) (u : Value) (w : World) (hu : Sl w u b) :
    Calls Try.prog 5 #[u] w fun e w' => e = .returned (.int .i64 (mF b : Int)) ∧ Below w.heap.size w w' := by
  by_cases h : 60 < b.length
  · rw [show mF b = 3 from if_pos h]
    obtain ⟨a, c, rfl, _⟩ := hu
    exact MarksFault_far _ w _ c a rfl h
  · exact MarksFault_near b u w hu (by omega)

end Go.Proofs.Ytmiinhbffiodmaa
