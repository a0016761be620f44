/- The landed Lyndon and Factors, walked. -/
import Derived.Test.YtcjkcgfohmhbcabX4
namespace Go.Proofs.Ytcjkcgfohmhbcab
open Go.RowKit

theorem ly_one (M : List Nat) : decide ((facL M).length = 1) = lyB M := by
  have h1 := one_piece M
  have h2 := lyB_is M
  cases e : lyB M with
  | true => exact decide_eq_true (h1.2 (h2.1 e))
  | false => exact decide_eq_false fun h => by rw [h2.2 (h1.1 h)] at e; cases e
set_option maxRecDepth 100000 in
theorem isLyndon_any (M : List Nat) (v : Value) (w : World) (hv : Wd w v M) (hl : M.length ≤ 4096) :
    Calls Try.prog 18 #[v] w fun e w' => e = .returned (.bool (lyB M)) ∧ Below w.heap.size w w' := by
  have C := parted_any M v w hv hl
  obtain ⟨z, Hz⟩ : ∃ z, Hid (lyB M = z) := ⟨_, rfl⟩
  have HZ : Hid (∀ q : Nat, (facL M).length = q → ((q : Int) == (1 : Int)) = z) := fun q h => by
    rw [← Hz.out, ← ly_one, h]
    by_cases e : q = 1
    · rw [e]; rfl
    · rw [decide_eq_false e]; simp; omega
  rw [Hz.out]
  go_enter Try.func18, Try.ntmps18
  go_wp2_with (go_at_call 21; refine C.mono ?_; rintro e w2 ⟨⟨y, rfl, hy⟩, hb2⟩; clear C; obtain ⟨q, hq⟩ : ∃ q, (facL M).length = q := ⟨_, rfl⟩; obtain ⟨ya, yc, rfl⟩ := hy.len hq; have he := HZ.out q hq)
  go_ret
  exact ⟨rfl, hb2⟩
set_option maxRecDepth 100000 in
theorem Lyndon_any : FLyndon := by
  intro l v w hv
  have C1 := check_any l v w hv.1
  by_cases h0 : wF l = 0
  · have C2 := isLyndon_any (wdN l) v w (hv.wd h0).1 (hv.wd h0).2.1
    have e1 : lyZ l = lyB (wdN l) := by unfold lyZ; rw [h0]; simp
    rw [h0] at C1
    rw [e1, h0]
    go_enter Try.func9, Try.ntmps9
    go_wp2_with (first
      | (go_at_call 16; refine C1.mono ?_; rintro e w' ⟨rfl, rfl⟩; clear C1)
      | (go_at_call 18; refine C2.mono ?_; rintro e w2 ⟨rfl, hb2⟩; clear C2))
    go_ret2
    exact ⟨rfl, hb2⟩
  · have e1 : lyZ l = false := by unfold lyZ; simp [h0]
    rw [e1]
    obtain ⟨q, Hq⟩ : ∃ q, Hid (wF l = q) := ⟨_, rfl⟩
    rw [Hq.out] at C1 h0 ⊢
    have he : ((q : Int) != (0 : Int)) = true := by simp; omega
    go_enter Try.func9, Try.ntmps9
    go_wp2_with (go_at_call 16; refine C1.mono ?_; rintro e w' ⟨rfl, rfl⟩; clear C1)
    go_ret2
    exact ⟨rfl, Below.refl _ _⟩
theorem Wd.nil (w : World) : Wd w (.slice none 0 0) [] := ⟨none, 0, rfl, Nat.le_refl _, fun _ hj => absurd hj (Nat.not_lt_zero _)⟩
end Go.Proofs.Ytcjkcgfohmhbcab
