/- The walk of the document's BestOf. -/
import Derived.Test.YtmiinhbffiodmaaR6
namespace Go.Proofs.Ytmiinhbffiodmaa
open Go.RowKit Go.Maps

theorem marked_any (n long : Nat) (h7 : n ≤ 7) (hlong : long ≤ 100) : ∀ (f : Nat) (l : List Nat) (u : Value) (w : World), Sl w u (l.map Int.ofNat) → 1 ≤ l.length → l.length + f = n → (∀ x ∈ l, x ≤ 100) →
    Calls Try.prog 21 #[u, .int .i64 (n : Int), .int .i64 (long : Int)] w (MkP (mkS f n long l) w)
  | 0, l, u, w, hu, h1, hl, hb => by
    obtain rfl : l.length = n := by omega
    exact marked_full long 0 l u w hu h1 h7 hlong hb
  | f + 1, l, u, w, hu, h1, hl, hb => marked_more n long f l u w hu h1 (by omega) h7 hlong hb fun l' u' w' hu' hl' hb' => marked_any n long h7 hlong f l' u' w' hu' (by omega) (by omega) hb'
set_option maxHeartbeats 4000000 in
theorem BestOf_none (n : Int) (w : World) (h : n < 1 ∨ 7 < n) : Calls Try.prog 12 #[.int .i64 n] w fun e w' => e = .returned (.tuple #[.slice none 0 0, .int .i64 1]) ∧ Below w.heap.size w w' := by
  by_cases h1 : n < 1
  · have d1 : decide (n < 1) = true := decide_eq_true h1
    clear h h1
    go_enter Try.func12, Try.ntmps12
    go_wp2
    go_ret2
    exact ⟨rfl, Below.refl _ _⟩
  · have d1 : decide (n < 1) = false := decide_eq_false h1
    have h2 : 7 < n := by omega
    have d2 : decide (7 < n) = true := decide_eq_true h2
    clear h h1 h2
    go_enter Try.func12, Try.ntmps12
    go_wp2
    go_ret2
    exact ⟨rfl, Below.refl _ _⟩
theorem sl_zero (w : World) : Sl (w.alloc (.cells #[.int .i64 0] 3)) (.slice (some ⟨w.heap.size, 0, none⟩) 1 1) (([0] : List Nat).map Int.ofNat) :=
  ORo.sl (base := w.heap.size) (l := [0]) ⟨rfl, .inr ⟨w.heap.size, 1, _, rfl, Nat.le_refl _, heap_alloc_new w _, Nat.le_refl _, by unfold maxLen; omega, rfl, rfl⟩⟩
set_option maxHeartbeats 4000000 in
theorem BestOf_main (n : Nat) (w : World) (h1 : 1 ≤ n) (h7 : n ≤ 7) : Calls Try.prog 12 #[.int .i64 (n : Int)] w fun e w' => ∃ x, e = .returned (.tuple #[x, .int .i64 0]) ∧ Sl w' x ((bestL n).map Int.ofNat) ∧ Below w.heap.size w w' := by
  have d1 : decide ((n : Int) < 1) = false := by simp; omega
  have d2 : decide (7 < (n : Int)) = false := by simp; omega
  have HN : Hid (∀ (long : Nat) (W : World), long < bestN n → Calls Try.prog 21 #[.slice (some ⟨W.heap.size, 0, none⟩) 1 1, .int .i64 (n : Int), .int .i64 (long : Int)] (W.alloc (.cells #[.int .i64 0] 3)) (MkP none (W.alloc (.cells #[.int .i64 0] 3)))) := fun long W hl => by
    have hB := best_25 ⟨n, by omega⟩
    rw [← mkS_short h1 h7 hl]
    exact marked_any n long h7 (by simp only at hB; omega) (n - 1) [0] _ _ (sl_zero W) (by simp) (by simp; omega) (by simp)
  have HS : Hid (∀ (W : World), Calls Try.prog 21 #[.slice (some ⟨W.heap.size, 0, none⟩) 1 1, .int .i64 (n : Int), .int .i64 (bestN n : Int)] (W.alloc (.cells #[.int .i64 0] 3)) (MkP (some (bestL n)) (W.alloc (.cells #[.int .i64 0] 3)))) := fun W => by
    have hB := best_25 ⟨n, by omega⟩
    rw [← mkS_best ⟨n, by omega⟩ h1]
    exact marked_any n (bestN n) h7 (by simp only at hB; omega) (n - 1) [0] _ _ (sl_zero W) (by simp) (by simp; omega) (by simp)
  have hB25 : bestN n ≤ 25 := best_25 ⟨n, by omega⟩
  obtain ⟨B, HB⟩ : ∃ B, Hid (bestN n = B) := ⟨_, rfl⟩
  obtain ⟨L, HL⟩ : ∃ L, Hid (bestL n = L) := ⟨_, rfl⟩
  rw [HB.out] at HN HS hB25
  rw [HL.out] at HS ⊢
  go_enter Try.func12, Try.ntmps12
  go_wp2
  go_loopw [4] (fun lv wr => ∃ d : Nat, lv = .int .i64 (d : Int) ∧ d ≤ B ∧ Below w.heap.size w wr) (fun lv _ => (B + 1 - intOf lv).toNat)
  case atStart => exact ⟨0, rfl, by omega, Below.refl _ _⟩
  case round =>
    obtain ⟨d, rfl, hd, hb⟩ := hrel
    have hs := hb.size
    have hb2 := hb.alloc hs (.cells #[.int .i64 0] 3)
    have hs2 := hb2.size
    by_cases hlt : d < B
    · have C := HN.out d wr hlt
      clear HN HS
      go_wp2_with (first
        | (go_at_call 21; refine C.mono ?_; rintro e w7 ⟨x7, rfl, -, hb7⟩; clear C; have hb8 := hb2.trans (hb7.mono hs2); clear hb7 hs2)
        | go_in)
      go_roundw
      case rel => exact ⟨d + 1, by go_num, by omega, hb8⟩
      case measure => simp [intOf]; omega
    · obtain rfl : d = B := by omega
      have C := HS.out wr
      clear HN HS
      go_wp2_with (first
        | (go_at_call 21; refine C.mono ?_; rintro e w7 ⟨x7, rfl, hx7, hb7⟩; clear C; have hb8 := hb2.trans (hb7.mono hs2); clear hb7 hs2)
        | go_in)
      go_ret2
      exact ⟨_, rfl, hx7 _ rfl, hb8⟩

end Go.Proofs.Ytmiinhbffiodmaa
