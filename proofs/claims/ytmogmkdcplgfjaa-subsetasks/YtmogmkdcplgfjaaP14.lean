/- The walk of Ints: are two lists the same? -/
import Derived.Test.YtmogmkdcplgfjaaPBase
import Derived.Deep.QuietTactic
import Derived.BigQuiet
namespace Go.Proofs.Ytmogmkdcplgfjaa
open Go.RowKit

set_option maxHeartbeats 1000000 in
theorem ints_any (l m : List Int) (v u : Value) (w : World) (hl : Sl w v l) (hm : Sl w u m) (hll : l.length ≤ maxLen) (hml : m.length ≤ maxLen) :
    Calls Try.prog 14 #[v, u] w fun e w' => ∃ b : Bool, e = .returned (.bool b) ∧ (b = true ↔ l = m) ∧ Below w.heap.size w w' := by
  unfold maxLen at hll hml
  by_cases he : l.length = m.length
  · by_cases hz : l.length = 0
    · obtain ⟨a, cap, rfl, _⟩ := hl
      obtain ⟨a', cap', rfl, _⟩ := hm
      have e1 : l = [] := List.length_eq_zero_iff.1 hz
      have e2 : m = [] := List.length_eq_zero_iff.1 (by omega)
      subst e1 e2
      go_enter Try.func14, Try.ntmps14
      go_wp2
      refine wp_loop_rounds 1 ?_
      rw [rounds_succ]
      go_wp2
      go_ret
      exact ⟨true, rfl, by simp, Below.refl _ _⟩
    · obtain ⟨n, Hn⟩ : ∃ n : Nat, Hid (n = l.length) := ⟨_, rfl⟩
      have hln : l.length = n := Hn.out.symm
      have hmn : m.length = n := by omega
      obtain ⟨b, off, cap, rfl, hbw, hlc⟩ := hl.form hln (by omega)
      obtain ⟨b', off', cap', rfl, hbw', hmc⟩ := hm.form hmn (by omega)
      have HL : Hid (l.length = n ∧ m.length = n) := ⟨hln, hmn⟩
      have hn63 : n ≤ 9223372036854775807 := by omega
      clear he hz hln hmn Hn
      have hne : ((n : Int) != n) = false := by simp
      go_enter Try.func14, Try.ntmps14
      go_wp2
      go_loopw [5] (fun i wr => ∃ j : Nat, i = .int .i64 j ∧ j ≤ n ∧ Hid (∀ t, t < j → l.getD t 0 = m.getD t 0) ∧ Below w.heap.size w wr) (fun i _ => (n - intOf i).toNat)
      case atStart => exact ⟨0, rfl, by omega, (fun t ht => by omega : ∀ t, t < 0 → _), Below.refl _ _⟩
      case round =>
        obtain ⟨j, rfl, hj, HALL, hb⟩ := hrel
        by_cases hlt : j < n
        · obtain ⟨x, Hx⟩ : ∃ z : Int, Hid (z = l.getD j 0) := ⟨_, rfl⟩
          obtain ⟨y, Hy⟩ : ∃ z : Int, Hid (z = m.getD j 0) := ⟨_, rfl⟩
          have hcx := (hb.cell (p := ⟨b, off + j, none⟩) hbw).trans (hlc j hlt)
          rw [← Hx.out] at hcx
          have hcy := (hb.cell (p := ⟨b', off' + j, none⟩) hbw').trans (hmc j hlt)
          rw [← Hy.out] at hcy
          have hji : (j : Int) < n := by omega
          have hdec : decide ((j : Int) < n) = true := by simp; omega
          by_cases hxy : x = y
          · have HXY : Hid (x = y) := hxy
            have hbn : (x != y) = false := by simpa using hxy
            clear hxy
            go_wp2
            go_quiet (fail)
            go_wp2
            go_roundw
            case rel =>
              refine ⟨j + 1, by go_num, by omega, (fun t ht => ?_ : ∀ t, t < j + 1 → _), bdrewN hb _⟩
              by_cases e : t = j
              · subst e; rw [← Hx.out, ← Hy.out]; exact HXY.out
              · exact HALL.out t (by omega)
            case measure => simp [intOf]; omega
          · have HXY : Hid (x ≠ y) := hxy
            have hbn : (x != y) = true := by simpa using hxy
            clear hxy
            go_wp2
            go_quiet (fail)
            go_wp2
            go_ret
            refine ⟨false, rfl, ⟨fun h => absurd h Bool.false_ne_true, fun h => absurd ?_ HXY.out⟩, bdrewN hb _⟩
            rw [Hx.out, Hy.out, h]
        · go_wp2
          go_ret
          refine ⟨true, rfl, ⟨fun _ => ?_, fun _ => rfl⟩, hb⟩
          apply List.ext_getElem (by rw [HL.out.1, HL.out.2])
          intro t h1 h2
          have := HALL.out t (by have := HL.out.1; omega)
          simpa [h1, h2] using this
  · obtain ⟨a, cap, rfl, _⟩ := hl
    obtain ⟨a', cap', rfl, _⟩ := hm
    have hne : ((l.length : Int) != (m.length : Int)) = true := by simp; omega
    have HE : Hid (¬ l.length = m.length) := he
    clear he
    go_enter Try.func14, Try.ntmps14
    go_wp2
    go_ret
    exact ⟨false, rfl, ⟨fun h => absurd h Bool.false_ne_true, fun h => absurd (by rw [h]) HE.out⟩, Below.refl _ _⟩

end Go.Proofs.Ytmogmkdcplgfjaa
