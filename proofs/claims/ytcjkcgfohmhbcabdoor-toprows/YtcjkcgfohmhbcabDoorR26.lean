/- The walks of open, Check, number and begin: a recurrence that has been looked at, and its first window. -/
import Derived.Test.YtcjkcgfohmhbcabDoorRBase
/- The walks of TapsFault, RunFault, open, begin's tests and Check: what is wrong. -/
/- The walks of isPrime, allBelow and power, of small and below: may a number, may numbers be taken? -/
namespace Go.Proofs.YtcjkcgfohmhbcabDoor.Rc
open Go.RowKit

theorem bel_no {bd : Int} {l : List Int} (h : ¬ ∀ j, j < l.length → 0 ≤ l.getD j 0 ∧ l.getD j 0 < bd) : belB bd l = false := by
  rw [Bool.eq_false_iff]; exact fun e => h (belB_iff.1 e)
theorem bel_yes {bd : Int} {l : List Int} (h : ∀ j, j < l.length → 0 ≤ l.getD j 0 ∧ l.getD j 0 < bd) : belB bd l = true := belB_iff.2 h

set_option maxHeartbeats 400000 in
theorem isPrime_any (p : Int) (w : World) : Calls Tryd.prog 15 #[.int .i64 p] w fun e w' => e = .returned (.bool (smB p)) ∧ w' = w := by
  by_cases h2 : p = 2
  · subst h2; go_enter Tryd.func15, Tryd.ntmps15; go_wp2; go_ret; exact ⟨rfl, rfl⟩
  by_cases h3 : p = 3
  · subst h3; go_enter Tryd.func15, Tryd.ntmps15; go_wp2; go_ret; exact ⟨rfl, rfl⟩
  by_cases h5 : p = 5
  · subst h5; go_enter Tryd.func15, Tryd.ntmps15; go_wp2; go_ret; exact ⟨rfl, rfl⟩
  by_cases h7 : p = 7
  · subst h7; go_enter Tryd.func15, Tryd.ntmps15; go_wp2; go_ret; exact ⟨rfl, rfl⟩
  have e2 : (p == 2) = false := by simpa using h2
  have e3 : (p == 3) = false := by simpa using h3
  have e5 : (p == 5) = false := by simpa using h5
  have e7 : (p == 7) = false := by simpa using h7
  have HS : Hid (smB p = false) := by show smB p = false; simp [smB, e2, e3, e5, e7]
  clear h2 h3 h5 h7
  go_enter Tryd.func15, Tryd.ntmps15
  go_wp2
  go_ret
  exact ⟨ret_bool HS.out.symm, rfl⟩

set_option maxHeartbeats 400000 in
theorem allBelow_any (l : List Int) (v : Value) (bd : Int) (w : World) (hl : Sl w v l) (hll : l.length ≤ maxLen) :
    Calls Tryd.prog 25 #[v, .int .i64 bd] w fun e w' => e = .returned (.bool (belB bd l)) ∧ w' = w := by
  unfold maxLen at hll
  obtain ⟨n, Hn⟩ : ∃ n : Nat, Hid (l.length = n) := ⟨_, rfl⟩
  have hn63 : n ≤ 9223372036854775807 := by have := Hn.out; omega
  obtain ⟨a, cap, rfl, hc⟩ := hl
  rw [Hn.out] at hc ⊢
  have HC : Hid (∀ j, j < n → ∃ b off, a = some ⟨b, off, none⟩ ∧ w.cell? ⟨b, off + j, none⟩ = some (.int .i64 (l.getD j 0))) := hc
  clear hc hll
  go_enter Tryd.func25, Tryd.ntmps25
  go_wp2
  go_loop [9] (fun i => ∃ j : Nat, i = .int .i64 j ∧ j ≤ n ∧ Hid (∀ t, t < j → 0 ≤ l.getD t 0 ∧ l.getD t 0 < bd)) (fun i => (n - intOf i).toNat)
  case atStart => exact ⟨0, rfl, by omega, (fun t ht => by omega : ∀ t, t < 0 → _)⟩
  case round =>
    obtain ⟨j, rfl, hj, HALL⟩ := hrel
    by_cases hlt : j < n
    · obtain ⟨z, Hz⟩ : ∃ z : Int, Hid (z = l.getD j 0) := ⟨_, rfl⟩
      obtain ⟨b, off, rfl, hcz⟩ := HC.out j hlt
      rw [← Hz.out] at hcz
      have hji : (j : Int) < n := by omega
      have hdec : decide ((j : Int) < n) = true := by simp; omega
      by_cases hz0 : z < 0
      · have hd : decide (z < 0) = true := by simpa using hz0
        go_wp2
        go_ret
        refine ⟨ret_bool (bel_no fun h => ?_).symm, rfl⟩
        have := h j (by have := Hn.out; omega)
        rw [← Hz.out] at this
        omega
      · have hd : decide (z < 0) = false := by simpa using hz0
        by_cases hzp : bd ≤ z
        · have hd2 : decide (bd ≤ z) = true := by simpa using hzp
          go_wp2
          go_ret
          refine ⟨ret_bool (bel_no fun h => ?_).symm, rfl⟩
          have := h j (by have := Hn.out; omega)
          rw [← Hz.out] at this
          omega
        · have hd2 : decide (bd ≤ z) = false := by simpa using hzp
          go_wp2
          go_round
          case rel =>
            refine ⟨j + 1, by go_num, by omega, (fun t ht => ?_ : ∀ t, t < j + 1 → _)⟩
            by_cases e : t = j
            · subst e; rw [← Hz.out]; omega
            · exact HALL.out t (by omega)
          case measure => simp [intOf]; omega
    · go_wp2
      go_ret
      exact ⟨ret_bool (bel_yes fun t ht => HALL.out t (by have := Hn.out; omega)).symm, rfl⟩

set_option maxHeartbeats 400000 in
theorem power_any (p k : Nat) (w : World) (hp : 2 ≤ p) (hp' : p ≤ 7) (hk : k ≤ 8) : Calls Tryd.prog 16 #[.int .i64 p, .int .i64 k] w fun e w' => e = .returned (.int .i64 ((p : Int) ^ k)) ∧ w' = w := by
  go_enter Tryd.func16, Tryd.ntmps16
  go_wp2
  go_loop [5, 7] (fun o i => ∃ (y : Int) (j : Nat), i = .int .i64 j ∧ o = .int .i64 y ∧ j ≤ k ∧ Hid (y = (p : Int) ^ j)) (fun _ i => (k - intOf i).toNat)
  case atStart => exact ⟨1, 0, rfl, rfl, by omega, (by show (1 : Int) = (p : Int) ^ 0; simp)⟩
  case round =>
    obtain ⟨y, j, rfl, rfl, hj, HY⟩ := hrel
    by_cases hlt : j < k
    · have hji : (j : Int) < k := by omega
      have h1 := pow_bd (p := (p : Int)) (k := j + 1) (by omega) (by omega) (by omega)
      rw [Int.pow_succ, ← HY.out] at h1
      have h1a := h1.1
      have h1b := h1.2
      clear h1
      go_wp2
      go_round
      case rel => exact ⟨y * p, j + 1, by go_num, by go_num, by omega, (by show y * (p : Int) = (p : Int) ^ (j + 1); rw [Int.pow_succ, HY.out])⟩
      case measure => simp [intOf]; omega
    · go_wp2
      go_ret
      obtain rfl : j = k := by omega
      exact ⟨ret_int HY.out, rfl⟩

end Go.Proofs.YtcjkcgfohmhbcabDoor.Rc

namespace Go.Proofs.YtcjkcgfohmhbcabDoor.Rc
open Go.RowKit

end Go.Proofs.YtcjkcgfohmhbcabDoor.Rc

namespace Go.Proofs.YtcjkcgfohmhbcabDoor.Rc
open Go.RowKit

theorem inf47 : (Tryd.prog.info? 51).map (·.size) = some 2 := by kernel_rfl
theorem und47 : ∃ fs, Tryd.prog.underlying 51 = some (.struct fs) := by
  have h : (Tryd.prog.underlying 51).isSome = true := by kernel_rfl
  have h2 : (match Tryd.prog.underlying 51 with | some (.struct _) => true | _ => false) = true := by kernel_rfl
  split at h2
  · rename_i fs e; exact ⟨fs, e⟩
  · cases h2
theorem one2 (p : Int) (v : Value) (h : v.oneCell' = true) : (#[Value.int .i64 p, v] : Array Value).all (·.oneCell') = true := by cases v <;> simp_all [Value.oneCell']
theorem RB.whole {w : World} {g : Nat} {p : Int} {v : Value} (h : RB w g p v) (p' : Int) (v' : Value) : RB (w.setRow g #[.int .i64 p', v']) g p' v' := setRow_heap w g _ _ _ _ h
theorem RB.wholeOther {w : World} {g : Nat} {p : Int} {v : Value} (h : RB w g p v) (k : Nat) (cs : Array Value) (hne : g ≠ k) : RB (w.setRow k cs) g p v := (setRow_other w k g cs hne).trans h
theorem bsetRow {B g : Nat} {w0 w : World} (hb : Below B w0 w) (hBg : B ≤ g) (cs : Array Value) : Below B w0 (w.setRow g cs) :=
  ⟨hb.os, hb.tape, hb.output, by simpa using hb.size, fun k hk => (setRow_other w g k cs (by omega)).trans (hb.block k hk)⟩

set_option maxHeartbeats 600000 in
theorem open_ok (p : Int) (l : List Int) (v : Value) (w : World) (hl : Sl w v l) (hll : l.length ≤ maxLen) (hz : tapsF p l = 0) :
    Calls Tryd.prog 40 #[.int .i64 p, v] w fun e w' => e = .returned (.tuple #[.agg #[.int .i64 p, v], .int .i64 0]) ∧ Below w.heap.size w w' := by
  have hlm : l.length ≤ 9223372036854775807 := by unfold maxLen at hll; omega
  obtain ⟨h1, h2, h3, h4⟩ := tapsF_ok hz
  have C := allBelow_any l v p (w.alloc (.cells #[.int .i64 0, .slice none 0 0] 51)) (hl.alloc _) hll
  rw [h4] at C
  obtain ⟨a, cap, rfl, _⟩ := id hl
  have hR := RB.made w 0 (.slice none 0 0)
  have hB := balloc w (.cells #[.int .i64 0, .slice none 0 0] 51)
  have hd : decide ((l.length : Int) < 1) = false := by simp; omega
  have hd2 : decide ((8 : Int) < (l.length : Int)) = false := by simp; omega
  have HL : Hid (1 ≤ l.length ∧ l.length ≤ 8) := ⟨h2, h3⟩
  clear h2 h3
  have hRc := (hR.whole p (.slice a l.length cap)).cells
  go_enter Tryd.func40, Tryd.ntmps40
  go_wp2_with (first
    | (go_at_call 15; refine (isPrime_any p _).mono ?_; rw [h1]; rintro e w' ⟨rfl, rfl⟩)
    | (go_at_call 25; refine C.mono ?_; rintro e w' ⟨rfl, rfl⟩)
    | (refine wpList_store_row rfl 51 _ _ rfl w.heap.size #[.int .i64 p, .slice a l.length cap] rfl rfl 51 _ hR inf47 rfl (one2 _ _ rfl) ?_))
  exact bodyPost_ret (v := .tuple #[.agg #[.int .i64 p, .slice a l.length cap], .int .i64 0]) (by simp [results, Tryd.results40, go_sem, hRc]) rfl ⟨rfl, bsetRow hB (Nat.le_refl _) _⟩

/-- The number whose digits are the list's. -/
def numL (p : Int) (l : List Int) : Int := numP p (fun j => l.getD j 0) l.length

set_option maxHeartbeats 1000000 in
theorem number_any (p : Nat) (l : List Int) (v : Value) (w : World) (hl : Sl w v l) (hp : 2 ≤ p) (hp' : p ≤ 7) (hk : l.length ≤ 8) (hb : belB p l = true) :
    Calls Tryd.prog 41 #[v, .int .i64 p] w fun e w' => e = .returned (.int .i64 (numL p l)) ∧ w' = w := by
  obtain ⟨k, Hk⟩ : ∃ k : Nat, Hid (l.length = k) := ⟨_, rfl⟩
  have hk8 : k ≤ 8 := by have := Hk.out; omega
  obtain ⟨a, cap, rfl, hc⟩ := hl
  obtain ⟨f, Hf⟩ : ∃ f : Nat → Int, Hid (f = fun j => l.getD j 0) := ⟨_, rfl⟩
  have HN : Hid (numL p l = numP p f k) := by show numL p l = _; rw [Hf.out, ← Hk.out]; rfl
  have hd : digs p f := by
    intro j
    rw [Hf.out]
    show 0 ≤ l.getD j 0 ∧ l.getD j 0 < p
    by_cases h : j < l.length
    · exact belB_iff.1 hb j h
    · rw [List.getD_eq_getElem?_getD, List.getElem?_eq_none (by omega)]
      show (0 : Int) ≤ 0 ∧ (0 : Int) < p
      omega
  have HC : Hid (∀ j, j < k → ∃ b off, a = some ⟨b, off, none⟩ ∧ w.cell? ⟨b, off + j, none⟩ = some (.int .i64 (f j))) := by
    intro j hj
    obtain ⟨b, off, e, h⟩ := hc j (by have := Hk.out; omega)
    exact ⟨b, off, e, by rw [h, Hf.out]⟩
  rw [Hk.out]
  clear hc hk hb
  go_enter Tryd.func41, Tryd.ntmps41
  go_wp2
  go_loop [5, 6] (fun n i => ∃ (x y : Int), i = .int .i64 x ∧ n = .int .i64 y ∧ -1 ≤ x ∧ x < k ∧ Hid (y = numP p (fun j => f ((x + 1).toNat + j)) (k - 1 - x).toNat)) (fun _ i => (intOf i + 1).toNat)
  case atStart =>
    refine ⟨(k : Int) - 1, 0, by go_num, rfl, by omega, by omega, ?_⟩
    show 0 = numP p _ ((k : Int) - 1 - ((k : Int) - 1)).toNat
    rw [show ((k : Int) - 1 - ((k : Int) - 1)).toNat = 0 by omega]; rfl
  case round =>
    obtain ⟨x, y, rfl, rfl, hx1, hx2, HY⟩ := hrel
    have hbd := numP_bd (p := (p : Int)) (by omega) (hd.shift (x + 1).toNat) (k - 1 - x).toNat
    have hpw := pow_bd (p := (p : Int)) (k := (k - 1 - x).toNat) (by omega) (by omega) (by omega)
    rw [← HY.out] at hbd
    by_cases hlt : 0 ≤ x
    · obtain ⟨i, rfl⟩ := Int.eq_ofNat_of_zero_le hlt
      have hy0 : 0 ≤ y := hbd.1
      have hy1 : y < 5764801 := by omega
      clear hbd hpw
      obtain ⟨z, Hz⟩ : ∃ z : Int, Hid (z = f i) := ⟨_, rfl⟩
      have hz0 := hd i
      rw [← Hz.out] at hz0
      obtain ⟨b, off, rfl, hca⟩ := HC.out i (by omega)
      rw [← Hz.out] at hca
      have hm0 : 0 ≤ y * p := Int.mul_nonneg hy0 (by omega)
      have hm1 : y * p ≤ 5764801 * 7 := Int.mul_le_mul (by omega) (by omega) (by omega) (by omega)
      go_wp2
      go_round
      case rel =>
        refine ⟨(i : Int) - 1, y * p + z, by go_num, by go_num, by omega, by omega, ?_⟩
        show y * p + z = numP p (fun j => f (((i : Int) - 1 + 1).toNat + j)) ((k : Int) - 1 - ((i : Int) - 1)).toNat
        rw [show ((k : Int) - 1 - ((i : Int) - 1)).toNat = ((k : Int) - 1 - (i : Int)).toNat + 1 by omega, numP_front, show ((i : Int) - 1 + 1).toNat = i by omega, Nat.add_zero, ← Hz.out]
        rw [numP_congr (g := fun j => f (((i : Int) + 1).toNat + j)) (fun j _ => by rw [show i + (j + 1) = ((i : Int) + 1).toNat + j by omega]), ← HY.out, Int.mul_comm]
        omega
      case measure => simp [intOf]
    · go_wp2
      go_ret
      obtain rfl : x = -1 := by omega
      refine ⟨ret_int ?_, rfl⟩
      rw [HN.out, HY.out, show ((k : Int) - 1 - (-1)).toNat = k by omega]
      exact numP_congr (fun j _ => by rw [show ((-1 : Int) + 1).toNat + j = j by omega])

end Go.Proofs.YtcjkcgfohmhbcabDoor.Rc
