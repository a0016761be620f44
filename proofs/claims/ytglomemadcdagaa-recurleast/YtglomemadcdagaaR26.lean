/- The walks of open, Check, number and begin: a recurrence that has been looked at, and its first window. -/
import Derived.Test.YtglomemadcdagaaR9
namespace Go.Proofs.Ytglomemadcdagaa
open Go.RowKit

theorem inf47 : (Try.prog.info? 47).map (·.size) = some 2 := by kernel_rfl
theorem und47 : ∃ fs, Try.prog.underlying 47 = some (.struct fs) := by
  have h : (Try.prog.underlying 47).isSome = true := by kernel_rfl
  have h2 : (match Try.prog.underlying 47 with | some (.struct _) => true | _ => false) = true := by kernel_rfl
  split at h2
  · rename_i fs e; exact ⟨fs, e⟩
  · cases h2
theorem one2 (p : Int) (v : Value) (h : v.oneCell' = true) : (#[Value.int .i64 p, v] : Array Value).all (·.oneCell') = true := by cases v <;> simp_all [Value.oneCell']
theorem RB.whole {w : World} {g : Nat} {p : Int} {v : Value} (h : RB w g p v) (p' : Int) (v' : Value) : RB (w.setRow g #[.int .i64 p', v']) g p' v' := setRow_heap w g _ _ _ _ h
theorem RB.wholeOther {w : World} {g : Nat} {p : Int} {v : Value} (h : RB w g p v) (k : Nat) (cs : Array Value) (hne : g ≠ k) : RB (w.setRow k cs) g p v := (setRow_other w k g cs hne).trans h
theorem bsetRow {B g : Nat} {w0 w : World} (hb : Below B w0 w) (hBg : B ≤ g) (cs : Array Value) : Below B w0 (w.setRow g cs) :=
  ⟨hb.os, hb.tape, hb.output, by simpa using hb.size, fun k hk => (setRow_other w g k cs (by omega)).trans (hb.block k hk)⟩

set_option maxHeartbeats 600000 in
theorem open_ok (p : Int) (l : List Int) (v : Value) (w : World) (hl : Sl w v l) (hll : l.length ≤ maxLen) (hz : tapsF p l = 0) :
    Calls Try.prog 26 #[.int .i64 p, v] w fun e w' => e = .returned (.tuple #[.agg #[.int .i64 p, v], .int .i64 0]) ∧ Below w.heap.size w w' := by
  have hlm : l.length ≤ 9223372036854775807 := by unfold maxLen at hll; omega
  obtain ⟨h1, h2, h3, h4⟩ := tapsF_ok hz
  have C := allBelow_any l v p (w.alloc (.cells #[.int .i64 0, .slice none 0 0] 47)) (hl.alloc _) hll
  rw [h4] at C
  obtain ⟨a, cap, rfl, _⟩ := id hl
  have hR := RB.made w 0 (.slice none 0 0)
  have hB := balloc w (.cells #[.int .i64 0, .slice none 0 0] 47)
  have hd : decide ((l.length : Int) < 1) = false := by simp; omega
  have hd2 : decide ((8 : Int) < (l.length : Int)) = false := by simp; omega
  have HL : Hid (1 ≤ l.length ∧ l.length ≤ 8) := ⟨h2, h3⟩
  clear h2 h3
  have hRc := (hR.whole p (.slice a l.length cap)).cells
  go_enter Try.func26, Try.ntmps26
  go_wp2_with (first
    | (go_at_call 31; refine (isPrime_any p _).mono ?_; rw [h1]; rintro e w' ⟨rfl, rfl⟩)
    | (go_at_call 32; refine C.mono ?_; rintro e w' ⟨rfl, rfl⟩)
    | (refine wpList_store_row rfl 47 _ _ rfl w.heap.size #[.int .i64 p, .slice a l.length cap] rfl rfl 47 _ hR inf47 rfl (one2 _ _ rfl) ?_))
  exact bodyPost_ret (v := .tuple #[.agg #[.int .i64 p, .slice a l.length cap], .int .i64 0]) (by simp [results, Try.results26, go_sem, hRc]) rfl ⟨rfl, bsetRow hB (Nat.le_refl _) _⟩

def nilRule : Value := .agg #[.int .i64 0, .slice none 0 0]
set_option maxHeartbeats 1000000 in
theorem open_bad (p : Int) (l : List Int) (v : Value) (z : Int) (w : World) (hl : Sl w v l) (hll : l.length ≤ maxLen) (hz : tapsF p l = z) (hz0 : z ≠ 0) :
    Calls Try.prog 26 #[.int .i64 p, v] w fun e w' => e = .returned (.tuple #[.agg #[.int .i64 0, .slice none 0 0], .int .i64 z]) ∧ Below w.heap.size w w' := by
  have hlm : l.length ≤ 9223372036854775807 := by unfold maxLen at hll; omega
  have hR := RB.made w 0 (.slice none 0 0)
  have hB := balloc w (.cells #[.int .i64 0, .slice none 0 0] 47)
  have hRc := (hR.whole 0 (.slice none 0 0)).cells
  by_cases h1 : smB p = false
  · have hz1 : z = 1 := by rw [← hz]; unfold tapsF; rw [if_pos h1]
    subst hz1
    go_enter Try.func26, Try.ntmps26
    go_wp2_with (first
      | (go_at_call 31; refine (isPrime_any p _).mono ?_; rw [h1]; rintro e w' ⟨rfl, rfl⟩)
      | (refine wpList_store_row rfl 47 _ _ rfl w.heap.size #[.int .i64 0, .slice none 0 0] rfl rfl 47 _ hR inf47 rfl (one2 _ _ rfl) ?_))
    exact bodyPost_ret (v := .tuple #[.agg #[.int .i64 0, .slice none 0 0], .int .i64 1]) (by simp [results, Try.results26, go_sem, hRc]) rfl ⟨rfl, bsetRow hB (Nat.le_refl _) _⟩
  · by_cases h2 : l.length = 0 ∨ 8 < l.length
    · have hz1 : z = 2 := by rw [← hz]; unfold tapsF; rw [if_neg h1, if_pos h2]
      subst hz1
      have h1' : smB p = true := by simpa using h1
      obtain ⟨a, cap, rfl, _⟩ := id hl
      by_cases h3 : l.length = 0
      · have hd : decide ((l.length : Int) < 1) = true := by simp; omega
        clear h2
        go_enter Try.func26, Try.ntmps26
        go_wp2_with (first
          | (go_at_call 31; refine (isPrime_any p _).mono ?_; rw [h1']; rintro e w' ⟨rfl, rfl⟩)
          | (refine wpList_store_row rfl 47 _ _ rfl w.heap.size #[.int .i64 0, .slice none 0 0] rfl rfl 47 _ hR inf47 rfl (one2 _ _ rfl) ?_))
        exact bodyPost_ret (v := .tuple #[.agg #[.int .i64 0, .slice none 0 0], .int .i64 2]) (by simp [results, Try.results26, go_sem, hRc]) rfl ⟨rfl, bsetRow hB (Nat.le_refl _) _⟩
      · have hd : decide ((l.length : Int) < 1) = false := by simp; omega
        have hd2 : decide ((8 : Int) < (l.length : Int)) = true := by simp; omega
        clear h2
        go_enter Try.func26, Try.ntmps26
        go_wp2_with (first
          | (go_at_call 31; refine (isPrime_any p _).mono ?_; rw [h1']; rintro e w' ⟨rfl, rfl⟩)
          | (refine wpList_store_row rfl 47 _ _ rfl w.heap.size #[.int .i64 0, .slice none 0 0] rfl rfl 47 _ hR inf47 rfl (one2 _ _ rfl) ?_))
        exact bodyPost_ret (v := .tuple #[.agg #[.int .i64 0, .slice none 0 0], .int .i64 2]) (by simp [results, Try.results26, go_sem, hRc]) rfl ⟨rfl, bsetRow hB (Nat.le_refl _) _⟩
    · have h4 : belB p l = false := by
        cases h : belB p l
        · rfl
        · exact absurd (hz.symm.trans (by unfold tapsF; rw [if_neg h1, if_neg h2, if_neg (by rw [h]; simp)])) hz0
      have hz1 : z = 1 := by rw [← hz]; unfold tapsF; rw [if_neg h1, if_neg h2, if_pos h4]
      subst hz1
      have h1' : smB p = true := by simpa using h1
      have C := allBelow_any l v p (w.alloc (.cells #[.int .i64 0, .slice none 0 0] 47)) (hl.alloc _) hll
      rw [h4] at C
      obtain ⟨a, cap, rfl, _⟩ := id hl
      have hd : decide ((l.length : Int) < 1) = false := by simp; omega
      have hd2 : decide ((8 : Int) < (l.length : Int)) = false := by simp; omega
      clear h2
      go_enter Try.func26, Try.ntmps26
      go_wp2_with (first
        | (go_at_call 31; refine (isPrime_any p _).mono ?_; rw [h1']; rintro e w' ⟨rfl, rfl⟩)
        | (go_at_call 32; refine C.mono ?_; rintro e w' ⟨rfl, rfl⟩)
        | (refine wpList_store_row rfl 47 _ _ rfl w.heap.size #[.int .i64 0, .slice none 0 0] rfl rfl 47 _ hR inf47 rfl (one2 _ _ rfl) ?_))
      exact bodyPost_ret (v := .tuple #[.agg #[.int .i64 0, .slice none 0 0], .int .i64 1]) (by simp [results, Try.results26, go_sem, hRc]) rfl ⟨rfl, bsetRow hB (Nat.le_refl _) _⟩

/-- The number whose digits are the list's. -/
def numL (p : Int) (l : List Int) : Int := numP p (fun j => l.getD j 0) l.length

set_option maxHeartbeats 1000000 in
theorem number_any (p : Nat) (l : List Int) (v : Value) (w : World) (hl : Sl w v l) (hp : 2 ≤ p) (hp' : p ≤ 7) (hk : l.length ≤ 8) (hb : belB p l = true) :
    Calls Try.prog 38 #[v, .int .i64 p] w fun e w' => e = .returned (.int .i64 (numL p l)) ∧ w' = w := by
  obtain ⟨k, Hk⟩ : ∃ k : Nat, Hid (l.length = k) := ⟨_, rfl⟩
  have hk8 : k ≤ 8 := by have := Hk.out; omega
  obtain ⟨a, cap, rfl, hc⟩ := hl
  obtain ⟨f, Hf⟩ : ∃ f : Nat → Int, Hid (f = fun j => l.getD j 0) := ⟨_, rfl⟩
  have HN : Hid (numL p l = numP p f k) := by show numL p l = _; rw [Hf.out, ← Hk.out]; rfl
  have hd : digs p f := by
    intro j
    rw [Hf.out]
    show 0 ≤ l.getD j 0 ∧ l.getD j 0 < p
    by_cases h : j < l.length
    · exact belB_iff.1 hb j h
    · rw [List.getD_eq_getElem?_getD, List.getElem?_eq_none (by omega)]
      show (0 : Int) ≤ 0 ∧ (0 : Int) < p
      omega
  have HC : Hid (∀ j, j < k → ∃ b off, a = some ⟨b, off, none⟩ ∧ w.cell? ⟨b, off + j, none⟩ = some (.int .i64 (f j))) := by
    intro j hj
    obtain ⟨b, off, e, h⟩ := hc j (by have := Hk.out; omega)
    exact ⟨b, off, e, by rw [h, Hf.out]⟩
  rw [Hk.out]
  clear hc hk hb
  go_enter Try.func38, Try.ntmps38
  go_wp2
  go_loop [5, 6] (fun n i => ∃ (x y : Int), i = .int .i64 x ∧ n = .int .i64 y ∧ -1 ≤ x ∧ x < k ∧ Hid (y = numP p (fun j => f ((x + 1).toNat + j)) (k - 1 - x).toNat)) (fun _ i => (intOf i + 1).toNat)
  case atStart =>
    refine ⟨(k : Int) - 1, 0, by go_num, rfl, by omega, by omega, ?_⟩
    show 0 = numP p _ ((k : Int) - 1 - ((k : Int) - 1)).toNat
    rw [show ((k : Int) - 1 - ((k : Int) - 1)).toNat = 0 by omega]; rfl
  case round =>
    obtain ⟨x, y, rfl, rfl, hx1, hx2, HY⟩ := hrel
    have hbd := numP_bd (p := (p : Int)) (by omega) (hd.shift (x + 1).toNat) (k - 1 - x).toNat
    have hpw := pow_bd (p := (p : Int)) (k := (k - 1 - x).toNat) (by omega) (by omega) (by omega)
    rw [← HY.out] at hbd
    by_cases hlt : 0 ≤ x
    · obtain ⟨i, rfl⟩ := Int.eq_ofNat_of_zero_le hlt
      have hy0 : 0 ≤ y := hbd.1
      have hy1 : y < 5764801 := by omega
      clear hbd hpw
      obtain ⟨z, Hz⟩ : ∃ z : Int, Hid (z = f i) := ⟨_, rfl⟩
      have hz0 := hd i
      rw [← Hz.out] at hz0
      obtain ⟨b, off, rfl, hca⟩ := HC.out i (by omega)
      rw [← Hz.out] at hca
      have hm0 : 0 ≤ y * p := Int.mul_nonneg hy0 (by omega)
      have hm1 : y * p ≤ 5764801 * 7 := Int.mul_le_mul (by omega) (by omega) (by omega) (by omega)
      go_wp2
      go_round
      case rel =>
        refine ⟨(i : Int) - 1, y * p + z, by go_num, by go_num, by omega, by omega, ?_⟩
        show y * p + z = numP p (fun j => f (((i : Int) - 1 + 1).toNat + j)) ((k : Int) - 1 - ((i : Int) - 1)).toNat
        rw [show ((k : Int) - 1 - ((i : Int) - 1)).toNat = ((k : Int) - 1 - (i : Int)).toNat + 1 by omega, numP_front, show ((i : Int) - 1 + 1).toNat = i by omega, Nat.add_zero, ← Hz.out]
        rw [numP_congr (g := fun j => f (((i : Int) + 1).toNat + j)) (fun j _ => by rw [show i + (j + 1) = ((i : Int) + 1).toNat + j by omega]), ← HY.out, Int.mul_comm]
        omega
      case measure => simp [intOf]
    · go_wp2
      go_ret
      obtain rfl : x = -1 := by omega
      refine ⟨ret_int ?_, rfl⟩
      rw [HN.out, HY.out, show ((k : Int) - 1 - (-1)).toNat = k by omega]
      exact numP_congr (fun j _ => by rw [show ((-1 : Int) + 1).toNat + j = j by omega])

end Go.Proofs.Ytglomemadcdagaa
