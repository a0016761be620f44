/- The walks of Number, Size, In and Product of the document's answer. -/
import Derived.Test.YtjfjdidibglhaabDoorBaseB
import Derived.Test.YtjfjdidibglhaabDoorW51
import Derived.Test.YtjfjdidibglhaabDoorPureE
import Derived.BigRegion
import Derived.Laws.CopyOwn
namespace Go.Proofs.YtjfjdidibglhaabDoor.Fd
open Go.RowKit

set_option maxRecDepth 100000 in
set_option maxHeartbeats 1000000 in
theorem numberRef_any (f : Nat → Int) (p k b off cap : Nat) (w : World) (hc : ∀ j, j < k → w.cell? ⟨b, off + j, none⟩ = some (.int .i64 (f j))) (hp : 2 ≤ p) (hp' : p ≤ 64) (hk1 : 1 ≤ k) (hk : k ≤ 6) (hpk : p ^ k ≤ 64) (hf : inP p f) :
    Calls Tryd.prog 54 #[.slice (some ⟨b, off, none⟩) k cap, .int .i64 p] w fun e w' => e = .returned (.int .i64 (hor f p k k)) ∧ w' = w := by
  have HC : Hid (∀ j, j < k → w.cell? ⟨b, off + j, none⟩ = some (.int .i64 (f j))) := hc
  clear hc
  go_enter Tryd.func54, Tryd.ntmps54
  go_wp2
  go_loop [5, 6] (fun n i => ∃ (x y : Int), i = .int .i64 x ∧ n = .int .i64 y ∧ -1 ≤ x ∧ x < k ∧ Hid (y = hor f p k (k - 1 - x).toNat)) (fun _ i => (intOf i + 1).toNat)
  case atStart =>
    refine ⟨(k : Int) - 1, 0, rfl, rfl, by omega, by omega, ?_⟩
    show 0 = hor f p k ((k : Int) - 1 - ((k : Int) - 1)).toNat
    rw [show ((k : Int) - 1 - ((k : Int) - 1)).toNat = 0 by omega]; rfl
  case round =>
    obtain ⟨x, y, rfl, rfl, hx1, hx2, HY⟩ := hrel
    have hbd := hor_bd (k := k) (show (2 : Int) ≤ p by omega) hf (k - 1 - x).toNat
    rw [← HY.out] at hbd
    by_cases hlt : 0 ≤ x
    · obtain ⟨i, rfl⟩ := Int.eq_ofNat_of_zero_le hlt
      have hpn : ((p : Int) ^ ((k : Int) - 1 - (i : Int)).toNat) ≤ 64 := by
        have h1 := pow_le_of (d := ((k : Int) - 1 - (i : Int)).toNat) hp (by omega) hpk
        have h2 : ((p ^ ((k : Int) - 1 - (i : Int)).toNat : Nat) : Int) ≤ 64 := by omega
        rwa [Int.natCast_pow] at h2
      have hy64 : y ≤ 64 := by omega
      have hy0 : 0 ≤ y := hbd.1
      clear hbd hpn
      obtain ⟨a, Ha⟩ : ∃ a : Int, Hid (a = f i) := ⟨_, rfl⟩
      have ha0 := hf i
      rw [← Ha.out] at ha0
      have hca := HC.out i (by omega)
      rw [← Ha.out] at hca
      have hm0 : 0 ≤ y * p := Int.mul_nonneg hy0 (by omega)
      have hm1 : y * p ≤ 64 * 64 := Int.mul_le_mul hy64 (by omega) (by omega) (by omega)
      go_wp2
      go_round
      case rel =>
        refine ⟨(i : Int) - 1, y * p + a, rfl, rfl, by omega, by omega, ?_⟩
        show y * p + a = hor f p k ((k : Int) - 1 - ((i : Int) - 1)).toNat
        rw [show ((k : Int) - 1 - ((i : Int) - 1)).toNat = ((k : Int) - 1 - (i : Int)).toNat + 1 by omega]
        show _ = hor f p k ((k : Int) - 1 - (i : Int)).toNat * p + f (k - 1 - ((k : Int) - 1 - (i : Int)).toNat)
        rw [← HY.out, Ha.out, show k - 1 - ((k : Int) - 1 - (i : Int)).toNat = i by omega]
      case measure => simp [intOf]
    · go_wp2
      go_ret
      refine ⟨ret_int ?_, rfl⟩
      rw [HY.out, show ((k : Int) - 1 - x).toNat = k by omega]

set_option maxRecDepth 100000 in
set_option maxHeartbeats 400000 in
theorem size_any (p k : Int) (v : Value) (w : World) :
    Calls Tryd.prog 8 #[.agg #[.int .i64 p, .int .i64 k, v]] w fun e w' => e = .returned (.int .i64 (ordZ p k)) ∧ Below w.heap.size w w' := by
  go_enter Tryd.func8, Tryd.ntmps8
  go_wp2_with (go_at_call 20; refine (orderOf_any p k _).mono ?_; rintro e w' ⟨rfl, rfl⟩)
  go_ret
  exact ⟨rfl, (Below.refl _ _).alloc (Nat.le_refl _) _⟩

def inB (q a : Int) : Bool := decide (0 ≤ a) && decide (a < q)
set_option maxRecDepth 100000 in
set_option maxHeartbeats 1000000 in
theorem product_any (f g : Nat → Int) (p k b off cap b' off' cap' : Nat) (w : World) (hc : ∀ j, j < k → w.cell? ⟨b, off + j, none⟩ = some (.int .i64 (f j))) (hc' : ∀ j, j < k → w.cell? ⟨b', off' + j, none⟩ = some (.int .i64 (g j)))
    (hp : 2 ≤ p) (hp' : p ≤ 64) (hk1 : 1 ≤ k) (hk : k ≤ 6) (hf : inP p f) (hg : inP p g) :
    Calls Tryd.prog 53 #[.slice (some ⟨b, off, none⟩) k cap, .slice (some ⟨b', off', none⟩) k cap', .int .i64 p] w fun e w' => ∃ G, e = .returned (.slice (some ⟨G, 0, none⟩) (k + k) (k + k)) ∧ w.heap.size ≤ G ∧ Own w' G (k + k) (mulN f g p k k) ∧ Below w.heap.size w w' := by
  obtain ⟨i3, hi, hz0, hz1, hz2⟩ := info3
  have hmk : ∀ w : World, (Instr.makeSlice 22 (.int .i64 ((k : Int) + k)) (.int .i64 ((k : Int) + k))).run Tryd.prog w = .ok (.slice (some ⟨w.heap.size, 0, none⟩) (k + k) (k + k)) (w.alloc (.cells (madeCells #[.int .i64 0] (k + k)) 3)) := fun w => by
    have h := run_make (P := Tryd.prog) w 22 3 i3 (.int .i64 0) und22 hi hz0 .i64 .i64 (k + k) (k + k) (by omega) (by omega) (by rw [hz2]; omega) (by omega)
    rw [hz1, show ((k : Int) + k).toNat = k + k by omega] at h
    simpa [Value.cells] using h
  have hO : Own (w.alloc (.cells (madeCells #[.int .i64 0] (k + k)) 3)) w.heap.size (k + k) (mulN f g p k 0) := by
    refine ⟨_, heap_alloc_new w _, fun j hj => ?_⟩
    have hs : j < (madeCells #[Value.int .i64 0] (k + k)).size := by rw [size_madeCells]; exact hj
    rw [Array.getElem?_eq_getElem hs]
    simp [madeCells, mulN, Nat.mod_one]
  have hbw : b < w.heap.size := by simpa using block_lt_of_cell (hc 0 (by omega))
  have hbw' : b' < w.heap.size := by simpa using block_lt_of_cell (hc' 0 (by omega))
  clear hi
  go_enter Tryd.func53, Tryd.ntmps53
  go_wp2
  go_loopw [8] (fun i wr => ∃ n : Nat, i = .int .i64 n ∧ n ≤ k ∧ Own wr w.heap.size (k + k) (mulN f g p k n) ∧ Below w.heap.size w wr) (fun i _ => (k - intOf i).toNat)
  case atStart => exact ⟨0, rfl, by omega, hO, (Below.refl _ _).alloc (Nat.le_refl _) _⟩
  case round =>
    clear hO
    obtain ⟨n, rfl, hn, hO, hb⟩ := hrel
    by_cases hlt : n < k
    · have hdec : decide ((n : Int) < k) = true := by simp; omega
      go_wp2
      go_loopw [9] (fun i wr => ∃ m : Nat, i = .int .i64 m ∧ m ≤ k ∧ Own wr w.heap.size (k + k) (mulRow (mulN f g p k n) (f n) g p n m) ∧ Below w.heap.size w wr) (fun i _ => (k - intOf i).toNat)
      case atStart => exact ⟨0, rfl, by omega, hO.congr (fun t _ => (mulRow_zero _ _ _ _ _ t).symm), hb⟩
      case round =>
        clear hO hb
        obtain ⟨m, rfl, hm, hO, hb⟩ := hrel
        by_cases hlt2 : m < k
        · obtain ⟨x, Hx⟩ : ∃ a : Int, Hid (a = mulN f g p k n (n + m)) := ⟨_, rfl⟩
          obtain ⟨a, Ha⟩ : ∃ a : Int, Hid (a = f n) := ⟨_, rfl⟩
          obtain ⟨c, Hc⟩ : ∃ c : Int, Hid (c = g m) := ⟨_, rfl⟩
          have hx0 := mulN_in (a := f) (b := g) (j := k) (show (0 : Int) < p by omega) n (n + m)
          rw [← Hx.out] at hx0
          have ha0 := hf n
          rw [← Ha.out] at ha0
          have hc0 := hg m
          rw [← Hc.out] at hc0
          have hcx := hO.cell (n + m) (by omega)
          rw [mulRow_at, ← Hx.out] at hcx
          have hcf := hO.frozen (n + m)
          have hca := (hb.cell (p := ⟨b, off + n, none⟩) hbw).trans (hc n hlt)
          rw [← Ha.out] at hca
          have hcc := (hb.cell (p := ⟨b', off' + m, none⟩) hbw').trans (hc' m hlt2)
          rw [← Hc.out] at hcc
          have hm0 : 0 ≤ a * c := Int.mul_nonneg (by omega) (by omega)
          have hm1 : a * c ≤ 64 * 64 := Int.mul_le_mul (by omega) (by omega) (by omega) (by omega)
          have hdec2 : decide ((m : Int) < k) = true := by simp; omega
          have hi1 : (n : Int) + m < k + k := by omega
          have hi2 : (n : Int) < k := by omega
          have hi3 : (m : Int) < k := by omega
          go_wp2
          go_region
          all_goals
            go_wp2
            go_roundw
            case rel =>
              refine ⟨m + 1, by go_num, by omega, (hO.set (n + m) _).congr (fun t _ => ?_), (hb.setCell (Nat.le_refl _) _).drew⟩
              rw [Hx.out, Ha.out, Hc.out]; exact mulRow_succ _ _ _ _ n m t
            case measure => simp [intOf]; omega
        · go_wp2
          go_roundw
          case rel =>
            refine ⟨n + 1, by go_num, by omega, hO.congr (fun t _ => ?_), hb⟩
            rw [show m = k by omega]; rfl
          case measure => simp [intOf]; omega
    · go_wp2
      go_ret
      exact ⟨w.heap.size, rfl, Nat.le_refl _, (by rw [show n = k by omega] at hO; exact hO), hb⟩

end Go.Proofs.YtjfjdidibglhaabDoor.Fd
