/- The faces Shadow, Apart, Cross. -/
import Derived.Test.YtmogmkdcplgfjabY13
import Derived.Test.YtmogmkdcplgfjabY7
namespace Go.Proofs.Ytmogmkdcplgfjab
open Go.RowKit

theorem fm_fit {n : Int} {l : List Int} (h : fmF n l = 0) : ∃ m : Nat, n = m ∧ m ≤ 12 ∧ (toN l).length ≤ 4096 ∧ (∀ i, i < (toN l).length → (toN l).getD i 0 < 2 ^ m) ∧ Rises (toN l) ∧ (∀ i, i < l.length → 0 ≤ l.getD i 0) := by
  unfold fmF at h
  by_cases h1 : n < 0 ∨ 12 < n
  · rw [if_pos h1] at h; cases h
  · rw [if_neg h1] at h
    obtain ⟨h2, h3, h4, h5⟩ := rises_ok h
    refine ⟨n.toNat, by omega, by omega, h2, fun i hi => ?_, h4, h5⟩
    have := h3 i hi
    exact Int.ofNat_lt.1 this
theorem wd_nil (w : World) : Wd w (.slice none 0 0) [] := ⟨none, 0, rfl, Nat.le_refl _, fun j hj => absurd hj (Nat.not_lt_zero j)⟩

set_option maxRecDepth 100000 in
set_option maxHeartbeats 4000000 in
theorem Cross_face : FCross := by
  intro n l v w hS
  have C16 := Check_face n l v w hS
  by_cases h0 : fmF n l = 0
  · obtain ⟨m, rfl, hm, h1, h2, h3, h4⟩ := fm_fit h0
    have hW := hS.toN h4
    have HC : Hid (∀ W, Below w.heap.size w W → Calls Try.prog 14 #[.int .i64 (m : Int), v] W fun e w' => e = .returned (.bool (twB crP 1 (toN l))) ∧ Below W.heap.size W w') := fun W hb => doCross_any m (2 ^ m) (toN l) v W hm rfl (hW.below hb) h1 h2
    have e2 : crZ m l = twB crP 1 (toN l) := by unfold crZ; rw [h0]; rfl
    rw [h0] at C16 ⊢
    rw [e2]
    obtain ⟨q, Hq⟩ : ∃ q, Hid (twB crP 1 (toN l) = q) := ⟨_, rfl⟩
    rw [Hq.out] at HC ⊢
    obtain ⟨⟨a, c, rfl, -⟩, -, -⟩ := hS
    obtain ⟨N, HN⟩ : ∃ N, Hid (l.length = N) := ⟨_, rfl⟩
    rw [HN.out] at C16 HC ⊢
    clear h0 h1 h2 h3 h4 hW e2
    go_enter Try.func6, Try.ntmps6
    go_wp2_with (first
      | (go_at_call 13; refine C16.mono ?_; rintro e w1 ⟨rfl, b1⟩; clear C16)
      | (go_at_call 14; refine (HC.out _ b1).mono ?_; rintro e w2 ⟨rfl, b2⟩))
    go_ret2
    exact ⟨rfl, Below.next b1 b2⟩
  · have e2 : crZ n l = false := by unfold crZ; rw [decide_eq_false h0]; rfl
    rw [e2]
    obtain ⟨f, Hf⟩ : ∃ f, Hid (fmF n l = f) := ⟨_, rfl⟩
    rw [Hf.out] at C16 h0 ⊢
    have hdd : ((f : Int) != 0) = true := by simpa using h0
    obtain ⟨⟨a, c, rfl, -⟩, -, -⟩ := hS
    obtain ⟨N, HN⟩ : ∃ N, Hid (l.length = N) := ⟨_, rfl⟩
    rw [HN.out] at C16 ⊢
    clear e2 h0
    go_enter Try.func6, Try.ntmps6
    go_wp2_with (go_at_call 13; refine C16.mono ?_; rintro e w1 ⟨rfl, b1⟩; clear C16)
    go_ret2
    exact ⟨rfl, b1⟩

end Go.Proofs.Ytmogmkdcplgfjab
