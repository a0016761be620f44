/- The walks of Run and of RowOf. -/
import Derived.Test.YtglomemadcdagabR28
namespace Go.Proofs.Ytglomemadcdagab
open Go.RowKit

theorem win0 {p : Int} {taps seed : List Int} (hsl : seed.length = taps.length) : winN p taps seed 0 = numL p seed := by
  unfold winN numL
  rw [hsl]
  exact numP_congr (fun j hj => by rw [Nat.zero_add, rowN_seed (by omega)])

theorem slRow {w : World} {base n : Nat} {r : Value} {p : Int} {t s : List Int} (h : w.ownsRow base 3 1 r n ((rowL p t s n).map (Value.int .i64))) : Sl w r (rowL p t s n) :=
  Sl.owned (base := base) (by rw [rowL_len]; exact h)

/-- What Run answers. -/
def runZ (p : Int) (taps seed : List Int) (n : Int) : Int := if runF p taps seed ≠ 0 then runF p taps seed else if n < 0 ∨ 5000 < n then 1 else 0

theorem tuple_ret {a b : Int} {v : Value} (h : a = b) : Ending.returned (.tuple #[v, .int .i64 a]) = .returned (.tuple #[v, .int .i64 b]) := by rw [h]

set_option maxHeartbeats 1000000 in
theorem Run_bad (p n : Int) (l m : List Int) (v u : Value) (w : World) (hl : Sl w v l) (hll : l.length ≤ maxLen) (hm : Sl w u m) (hml : m.length ≤ maxLen) (hz0 : runZ p l m n ≠ 0) (hz : Int) (hzz : runZ p l m n = hz) :
    Calls Try.prog 5 #[.int .i64 p, v, u, .int .i64 n] w fun e w' => e = .returned (.tuple #[.slice none 0 0, .int .i64 hz]) ∧ Below w.heap.size w w' := by
  by_cases h1 : runF p l m = 0
  · have hnn : n < 0 ∨ 5000 < n := by
      by_cases h : n < 0 ∨ 5000 < n
      · exact h
      · exact absurd (by unfold runZ; rw [if_neg (by omega), if_neg h]) hz0
    have e1 : hz = 1 := by rw [← hzz]; unfold runZ; rw [if_neg (by omega), if_pos hnn]
    subst e1
    have C := begin_ok p l m v u w hl hll hm hml h1
    obtain ⟨a, cap, rfl, _⟩ := id hl
    by_cases h2 : n < 0
    · have hd : decide (n < 0) = true := by simpa using h2
      clear hnn
      go_enter Try.func5, Try.ntmps5
      go_wp2_with (first
        | (go_at_call 8; refine C.mono ?_; rintro e w1 ⟨rfl, hb1⟩; have hN := RB.made w1 0 (.slice none 0 0))
        | (refine wpList_store_row rfl 32 _ _ rfl w1.heap.size #[.int .i64 p, .slice a l.length cap] rfl rfl 32 _ hN inf47 rfl (one2 _ _ rfl) ?_))
      go_ret2
      exact ⟨rfl, bsetRow (hb1.alloc hb1.size _) hb1.size _⟩
    · have hd : decide (n < 0) = false := by simpa using h2
      have hd2 : decide ((5000 : Int) < n) = true := by simp <;> omega
      clear hnn
      go_enter Try.func5, Try.ntmps5
      go_wp2_with (first
        | (go_at_call 8; refine C.mono ?_; rintro e w1 ⟨rfl, hb1⟩; have hN := RB.made w1 0 (.slice none 0 0))
        | (refine wpList_store_row rfl 32 _ _ rfl w1.heap.size #[.int .i64 p, .slice a l.length cap] rfl rfl 32 _ hN inf47 rfl (one2 _ _ rfl) ?_))
      go_ret2
      exact ⟨rfl, bsetRow (hb1.alloc hb1.size _) hb1.size _⟩
  · have e1 : runF p l m = hz := by rw [← hzz]; unfold runZ; rw [if_pos h1]
    have C := begin_bad p l m v u hz w hl hll hm hml e1 (by rw [← e1]; exact h1)
    have hd : (hz != 0) = true := by simp; rw [← e1]; exact h1
    go_enter Try.func5, Try.ntmps5
    go_wp2_with (first
      | (go_at_call 8; refine C.mono ?_; rintro e w1 ⟨rfl, hb1⟩; have hN := RB.made w1 0 (.slice none 0 0))
      | (refine wpList_store_row rfl 32 _ _ rfl w1.heap.size #[.int .i64 0, .slice none 0 0] rfl rfl 32 _ hN inf47 rfl (one2 _ _ rfl) ?_))
    go_ret2
    exact ⟨rfl, bsetRow (hb1.alloc hb1.size _) hb1.size _⟩

set_option maxHeartbeats 1000000 in
theorem Run_ok (p : Int) (n : Nat) (l m : List Int) (v u : Value) (w : World) (hl : Sl w v l) (hll : l.length ≤ maxLen) (hm : Sl w u m) (hml : m.length ≤ maxLen) (hz : runF p l m = 0) (hn : n ≤ 5000) :
    Calls Try.prog 5 #[.int .i64 p, v, u, .int .i64 n] w fun e w' => ∃ r, e = .returned (.tuple #[r, .int .i64 0]) ∧ w'.ownsRow w.heap.size 3 1 r n ((rowL p l m n).map (Value.int .i64)) ∧ Below w.heap.size w w' := by
  obtain ⟨h1, h2, h3⟩ := runF_ok hz
  obtain ⟨t1, t2, t3, t4⟩ := tapsF_ok h1
  have hpb := smB_bd t1
  have C := begin_ok p l m v u w hl hll hm hml hz
  obtain ⟨P, rfl⟩ := Int.eq_ofNat_of_zero_le (show 0 ≤ p by omega)
  obtain ⟨a, cap, rfl, _⟩ := id hl
  obtain ⟨x, Hx⟩ : ∃ x : Int, Hid (x = numL P m) := ⟨_, rfl⟩
  rw [← Hx.out] at C
  have R : ∀ A, Sl A (.slice a l.length cap) l → Calls Try.prog 9 #[.agg #[.int .i64 P, .slice a l.length cap], .int .i64 x, .int .i64 n] A fun e B => ∃ r, e = .returned r ∧ B.ownsRow A.heap.size 3 1 r n ((rowL P l m n).map (Value.int .i64)) ∧ Below A.heap.size A B := by
    intro A hA
    have h := run_any P n l m (.slice a l.length cap) A (by omega) (by omega) t2 t3 t4 h2 h3 hA hn
    rw [win0 h2, ← Hx.out] at h; exact h
  have hd : decide ((n : Int) < 0) = false := by simp
  have hd2 : decide ((5000 : Int) < (n : Int)) = false := by simp <;> omega
  go_enter Try.func5, Try.ntmps5
  go_wp2_with (first
    | (go_at_call 8; refine C.mono ?_; rintro e w1 ⟨rfl, hb1⟩
       have hN := RB.made w1 0 (.slice none 0 0)
       obtain ⟨w2, Hw2⟩ : ∃ w2, Hid (w2 = (w1.alloc (.cells #[.int .i64 0, .slice none 0 0] 32)).setRow w1.heap.size #[.int .i64 (P : Int), .slice a l.length cap]) := ⟨_, rfl⟩
       have hN2 : RB w2 w1.heap.size P (.slice a l.length cap) := by rw [Hw2.out]; exact hN.whole _ _
       have hB2 : Below w.heap.size w w2 := by rw [Hw2.out]; exact bsetRow (hb1.alloc hb1.size _) hb1.size _
       have R2 := R w2 (hl.below hB2))
    | (refine wpList_store_row rfl 32 _ _ rfl w1.heap.size #[.int .i64 P, .slice a l.length cap] rfl rfl 32 _ hN inf47 rfl (one2 _ _ rfl) ?_; rw [← Hw2.out])
    | (refine wpList_load_row rfl 32 _ rfl w1.heap.size rfl 32 _ (0, 0) _ hN2 und47.choose_spec rfl inf47 ?_)
    | (go_at_call 9; refine R2.mono ?_; rintro e w3 ⟨r, rfl, hown, hb3⟩))
  go_ret2
  exact ⟨r, rfl, ownsRow_base hown hB2.size, hB2.trans (hb3.mono hB2.size)⟩

end Go.Proofs.Ytglomemadcdagab
